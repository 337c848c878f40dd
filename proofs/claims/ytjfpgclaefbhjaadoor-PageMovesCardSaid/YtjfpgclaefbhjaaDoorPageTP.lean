/- Layer 4: a page's bytes of which one to three bits are turned have another sum, also where bits of the sum itself are: the sum's four bytes, turned about behind all else, make one run of bytes whose sum is fixed. -/
import Derived.Test.YtjfpgclaefbhjaaDoorCrcResP
import Derived.Test.YtjfpgclaefbhjaaDoorCrcTo
import Derived.Test.YtjfpgclaefbhjaaDoorPageM
namespace Go.Proofs.YtjfpgclaefbhjaaDoor

/-- The bytes, the sum's four behind all else, the last one first. -/
def moved (b : List UInt8) : List UInt8 := b.drop 4 ++ (b.take 4).reverse
theorem moved_len {b : List UInt8} (h : b.length = 256) : (moved b).length = 256 := by
  unfold moved; rw [List.length_append, List.length_reverse, List.length_drop, List.length_take]; omega
theorem moved_inj {b c : List UInt8} (hb : b.length = 256) (hc : c.length = 256) (h : moved b = moved c) : b = c := by
  unfold moved at h
  have h2 := List.append_inj h (by rw [List.length_drop, List.length_drop, hb, hc])
  have h3 : b.take 4 = c.take 4 := by rw [← List.reverse_reverse (b.take 4), h2.2, List.reverse_reverse]
  rw [← List.take_append_drop 4 b, ← List.take_append_drop 4 c, h3, h2.1]
theorem moved_xor {b c : List UInt8} (hb : b.length = 256) (hc : c.length = 256) : moved (xor2 b c) = xor2 (moved b) (moved c) := by
  unfold moved xor2
  rw [List.drop_zipWith, List.take_zipWith, List.zipWith_append (by rw [List.length_drop, List.length_drop, hb, hc]), List.reverse_zipWith (by rw [List.length_take, List.length_take, hb, hc])]
/-- Where a bit comes to lie. -/
def sig (i : Nat) : Nat := if i < 32 then 8 * (255 - i / 8) + i % 8 else i - 32
theorem sig_lt {i : Nat} (h : i < 2048) : sig i < 2048 := by unfold sig; split <;> omega
theorem ext_getD {l m : List UInt8} (hl : l.length = m.length) (h : ∀ j, j < l.length → l[j]?.getD 0 = m[j]?.getD 0) : l = m :=
  List.ext_getElem hl fun j h1 h2 => by
    have := h j h1
    rwa [List.getElem?_eq_getElem h1, List.getElem?_eq_getElem h2, Option.getD_some, Option.getD_some] at this
theorem moved_get {l : List UInt8} (h : l.length = 256) (j : Nat) (hj : j < 256) : (moved l)[j]?.getD 0 = if j < 252 then l[j + 4]?.getD 0 else l[255 - j]?.getD 0 := by
  unfold moved
  by_cases h1 : j < 252
  · rw [if_pos h1, List.getElem?_append_left (by rw [List.length_drop]; omega), List.getElem?_drop, Nat.add_comm]
  · rw [if_neg h1, List.getElem?_append_right (by rw [List.length_drop]; omega), List.length_drop, h, List.getElem?_reverse (by rw [List.length_take]; omega), List.getElem?_take, if_pos (by rw [List.length_take]; omega), List.length_take]
    rw [show min 4 l.length - 1 - (j - (256 - 4)) = 255 - j by omega]
theorem moved_unit (i : Nat) (hi : i < 2048) : moved (unit 256 i) = unit 256 (sig i) := by
  have hl := unit_length 256 i
  refine ext_getD (by rw [moved_len hl, unit_length]) fun j hj => ?_
  rw [moved_len hl] at hj
  rw [moved_get hl j hj, unit_get 256 (sig i) j hj]
  have hs : (i < 32 ∧ sig i / 8 = 255 - i / 8 ∧ sig i % 8 = i % 8) ∨ (32 ≤ i ∧ sig i / 8 = i / 8 - 4 ∧ sig i % 8 = i % 8) := by
    unfold sig; split <;> omega
  rw [show sig i % 8 = i % 8 by omega]
  by_cases h1 : j < 252
  · rw [if_pos h1, unit_get 256 i (j + 4) (by omega)]
    by_cases h2 : j + 4 = i / 8
    · rw [if_pos h2, if_pos (by omega)]
    · rw [if_neg h2, if_neg (by omega)]
  · rw [if_neg h1, unit_get 256 i (255 - j) (by omega)]
    by_cases h2 : 255 - j = i / 8
    · rw [if_pos h2, if_pos (by omega)]
    · rw [if_neg h2, if_neg (by omega)]
def sigZ (z : Int) : Int := if 0 ≤ z ∧ z < 2048 then (sig z.toNat : Int) else -1
theorem moved_flip {b : List UInt8} (h : b.length = 256) (z : Int) : moved (flipB b z) = flipB (moved b) (sigZ z) := by
  unfold flipB sigZ
  rw [h, moved_len h]
  by_cases hz : 0 ≤ z ∧ z < 2048
  · have hs := sig_lt (i := z.toNat) (by omega)
    rw [if_pos (by omega), if_pos hz, if_pos (by omega), moved_xor h (by rw [unit_length]), moved_unit _ (by omega), Int.toNat_natCast]
  · rw [if_neg (by omega), if_neg hz, if_neg (by omega)]
theorem laid4_le (s : Nat) : (laidB s 4 4).reverse = le4 s := by
  simp [laidB, le4, List.range_succ]
theorem sum_fixed {b : List UInt8} (h : b.length = 256) (hs : sumOk b = true) : crcSum (moved b) = 558161692 := by
  have h1 : numOf (b.take 4) = crcSum (b.drop 4) := by simpa [sumOk] using hs
  have h2 := laid_numOf (l := b.take 4) (k := 4) (by rw [List.length_take]; omega)
  unfold moved
  rw [← h2, h1, laid4_le]
  exact residue _
theorem turned_sum {b : List UInt8} (h : b.length = 256) (hs : sumOk b = true) (z0 z1 z2 : Int) (ht : sumOk (flips b z0 z1 z2 3) = true) : flips b z0 z1 z2 3 = b := by
  have e : flips b z0 z1 z2 3 = flipB (flipB (flipB b z0) z1) z2 := rfl
  rw [e] at ht ⊢
  have l1 : (flipB b z0).length = 256 := by rw [flipB_length, h]
  have l2 : (flipB (flipB b z0) z1).length = 256 := by rw [flipB_length, l1]
  have l3 : (flipB (flipB (flipB b z0) z1) z2).length = 256 := by rw [flipB_length, l2]
  have m1 := sum_fixed h hs
  have m2 := sum_fixed l3 ht
  have e3 : moved (flipB (flipB (flipB b z0) z1) z2) = flipB (flipB (flipB (moved b) (sigZ z0)) (sigZ z1)) (sigZ z2) := by
    rw [moved_flip l2, moved_flip l1, moved_flip h]
  rw [e3] at m2
  have := turned_iff (moved b) (sigZ z0) (sigZ z1) (sigZ z2) (by rw [moved_len h]; decide) (m1.trans m2.symm)
  exact moved_inj l3 h (e3.trans this)
end Go.Proofs.YtjfpgclaefbhjaaDoor

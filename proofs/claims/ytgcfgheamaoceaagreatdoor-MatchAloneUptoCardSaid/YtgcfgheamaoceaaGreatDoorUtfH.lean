/- Layer 12: a rune's bytes, laid behind others. -/
import Derived.Deep.RegionHeld3
import Derived.Deep.AppendLies
import Derived.Test.YtgcfgheamaoceaaGreatDoorUtfB
import Derived.Test.YtgcfgheamaoceaaGreatDoorUtfC
import Derived.Test.YtgcfgheamaoceaaGreatDoorWireB
import Derived.Test.YtgcfgheamaoceaaGreatDoorStops
namespace Go.Proofs.YtgcfgheamaoceaaGreatDoor
open Go.RowKit

/-- The bytes behind the first one: the j-th from behind. -/
def tailB (r j : Nat) : Nat := 128 + r / 64 ^ (j - 1) % 64
def headB (r : Nat) : Nat := leadOf (lenB r) + r / 64 ^ lenB r
theorem rawR_head (r : Nat) (hm : mayN r = true) : (rawR r).take 1 = [UInt8.ofNat (headB r)] ∧ headB r < 256 ∧ r / 64 ^ lenB r < 128 := by
  have hlt := mayN_lt hm
  unfold headB
  rcases Nat.lt_or_ge r 128 with h | h
  · rw [show lenB r = 0 by unfold lenB; rw [if_pos h]]
    unfold rawR; rw [if_pos h]; simp [leadOf]; omega
  rcases Nat.lt_or_ge r 2048 with h' | h'
  · rw [show lenB r = 1 by unfold lenB; rw [if_neg (by omega), if_pos h']]
    unfold rawR; rw [if_neg (by omega), if_pos h']; simp [leadOf]; omega
  rcases Nat.lt_or_ge r 65536 with h'' | h''
  · rw [show lenB r = 2 by unfold lenB; rw [if_neg (by omega), if_neg (by omega), if_pos h'']]
    unfold rawR; rw [if_neg (by omega), if_neg (by omega), if_pos h'']; simp [leadOf]; omega
  · rw [show lenB r = 3 by unfold lenB; rw [if_neg (by omega), if_neg (by omega), if_neg (by omega)]]
    unfold rawR; rw [if_neg (by omega), if_neg (by omega), if_neg (by omega)]; simp [leadOf]; omega
theorem rawR_tail (r j : Nat) (h1 : 1 ≤ j) (hj : j ≤ lenB r) : (rawR r).take (lenB r - j + 2) = (rawR r).take (lenB r - j + 1) ++ [UInt8.ofNat (tailB r j)] := by
  unfold tailB
  rcases Nat.lt_or_ge r 128 with h | h
  · rw [show lenB r = 0 by unfold lenB; rw [if_pos h]] at hj
    omega
  rcases Nat.lt_or_ge r 2048 with h' | h'
  · rw [show lenB r = 1 by unfold lenB; rw [if_neg (by omega), if_pos h']] at hj ⊢
    obtain rfl : j = 1 := by omega
    unfold rawR; rw [if_neg (by omega), if_pos h']; simp
  rcases Nat.lt_or_ge r 65536 with h'' | h''
  · rw [show lenB r = 2 by unfold lenB; rw [if_neg (by omega), if_neg (by omega), if_pos h'']] at hj ⊢
    have : j = 1 ∨ j = 2 := by omega
    unfold rawR; rw [if_neg (by omega), if_neg (by omega), if_pos h'']
    rcases this with rfl | rfl <;> simp
  · rw [show lenB r = 3 by unfold lenB; rw [if_neg (by omega), if_neg (by omega), if_neg (by omega)]] at hj ⊢
    have : j = 1 ∨ j = 2 ∨ j = 3 := by omega
    unfold rawR; rw [if_neg (by omega), if_neg (by omega), if_neg (by omega)]
    rcases this with rfl | rfl | rfl <;> simp
theorem shr_at (r c : Nat) (z : Int) (w : World) (hz : IntKind.i64.wrap z = c) (hc : c ≤ 32) : (Op.shift .shr .i32 (r : Int) .i64 (IntKind.i64.wrap z)).run Tryz.prog w = .ok (.int .i32 ((r / 2 ^ c : Nat) : Int)) w := by
  rw [hz]
  unfold Op.shift
  rw [if_neg (by omega)]
  have : min ((c : Int)).toNat IntKind.i32.bits = c := by
    show min ((c : Int)).toNat 32 = c
    omega
  simp only [this, Sem.run_pure]
  have hp : (0 : Int) ≤ 2 ^ c := by
    have := Nat.two_pow_pos c
    have e : ((2 ^ c : Nat) : Int) = 2 ^ c := Int.natCast_pow 2 c
    omega
  rw [Int.fdiv_eq_ediv_of_nonneg _ hp, Int.natCast_ediv, Int.natCast_pow]
  rfl
theorem shr_to (r c : Nat) (hc : c ≤ 32) (w : World) : (Op.shift .shr .i32 (r : Int) .i64 (c : Int)).run Tryz.prog w = .ok (.int .i32 ((r / 2 ^ c : Nat) : Int)) w := by
  have h := shr_at r c c w (by show IntKind.i64.wrap (c : Int) = c; exact IntWalk.i64_in _ (by omega)) hc
  rwa [show IntKind.i64.wrap (c : Int) = c from IntWalk.i64_in _ (by omega)] at h
theorem pow_six (r n : Nat) : r / 2 ^ (n * 6) = r / 64 ^ n := by rw [Nat.mul_comm, Nat.pow_mul]
theorem laid_one {w1 : World} {base : Nat} {l : List UInt8} {x gg cap : Nat} (hx : x < 256) (h : w1.ownsRow base 5 1 (.slice (some ⟨gg, 0, none⟩) (l.length + 1) cap) (l.length + 1) (byteVals l ++ [.int .u8 (x : Int)])) :
    OwnB w1 base (.slice (some ⟨gg, 0, none⟩) (l.length + 1) cap) (l ++ [UInt8.ofNat x]) := by
  have e : byteVals (l ++ [UInt8.ofNat x]) = byteVals l ++ [.int .u8 (x : Int)] := by
    unfold byteVals; rw [List.map_append, List.map_cons, List.map_nil, toNat_of hx]
  unfold OwnB
  rw [e, List.length_append]; exact h
theorem goes_one {w w1 : World} {o : Obj} {v : Value} {gg n cap : Nat} (hg : (w.alloc o).drew.grownBy w1 v.ownBlock) (hat : v.ownBlock = some gg ∨ gg = w.heap.size + 1) : Goes w w1 v (.slice (some ⟨gg, 0, none⟩) n cap) :=
  Goes.alloc (o := o) ⟨⟨hg.os, hg.tape, hg.output, hg.size, hg.block⟩, hat.elim (fun h => .inl h.symm) (fun h => .inr ⟨gg, rfl, by simp; omega⟩)⟩
theorem lead_at {w : World} (ht : Tabs w) (n : Nat) (hn : n ≤ 3) : w.cell? ⟨1, n, none⟩ = some (.int .u8 (leadOf n : Nat)) := by
  have key : n = 0 ∨ n = 1 ∨ n = 2 ∨ n = 3 := by omega
  rcases key with rfl | rfl | rfl | rfl
  · exact ht.l0
  · exact ht.l1
  · exact ht.l2
  · exact ht.l3
theorem or_lead (n q : Nat) (hn : n ≤ 3) (hq : n = 0 ∧ q < 128 ∨ n = 1 ∧ q < 32 ∨ n = 2 ∧ q < 16 ∨ n = 3 ∧ q < 8) : bits .or .u8 (leadOf n : Int) (q : Int) = ((leadOf n + q : Nat) : Int) := by
  rcases hq with ⟨rfl, h⟩ | ⟨rfl, h⟩ | ⟨rfl, h⟩ | ⟨rfl, h⟩
  · have := (bits_nat .u8 8 (by decide) wraps_u8 0 q (by decide) (by omega)).2
    simpa [leadOf] using this
  · show bits .or .u8 192 (q : Int) = _
    rw [u8_or192 _ (by omega) (by omega)]; simp [leadOf]
  · show bits .or .u8 224 (q : Int) = _
    rw [u8_or224 _ (by omega) (by omega)]; simp [leadOf]
  · show bits .or .u8 240 (q : Int) = _
    rw [u8_or240 _ (by omega) (by omega)]; simp [leadOf]
theorem head_small {r : Nat} (hm : mayN r = true) : lenB r = 0 ∧ r / 64 ^ lenB r < 128 ∨ lenB r = 1 ∧ r / 64 ^ lenB r < 32 ∨ lenB r = 2 ∧ r / 64 ^ lenB r < 16 ∨ lenB r = 3 ∧ r / 64 ^ lenB r < 8 := by
  have hlt := mayN_lt hm
  rcases Nat.lt_or_ge r 128 with h | h
  · rw [show lenB r = 0 by unfold lenB; rw [if_pos h]]; omega
  rcases Nat.lt_or_ge r 2048 with h' | h'
  · rw [show lenB r = 1 by unfold lenB; rw [if_neg (by omega), if_pos h']]; omega
  rcases Nat.lt_or_ge r 65536 with h'' | h''
  · rw [show lenB r = 2 by unfold lenB; rw [if_neg (by omega), if_neg (by omega), if_pos h'']]; omega
  · rw [show lenB r = 3 by unfold lenB; rw [if_neg (by omega), if_neg (by omega), if_neg (by omega)]]; omega
end Go.Proofs.YtgcfgheamaoceaaGreatDoor

/- The contract of CrcTurned: bytes of which one to three bits are turned have another sum, unless they are the same bytes again. -/
import Derived.WalkKit
import Derived.Outline
import Derived.LoopTactic
import Derived.Lib.Hide
import Derived.Laws.BytesArg
import Derived.Test.YtjpjijjnkjomnaaDoorRegion
import Derived.Test.YtjpjijjnkjomnaaDoorBytes
import Derived.Test.YtjpjijjnkjomnaaDoorCrcKnown
import Derived.Test.YtjpjijjnkjomnaaDoorCrcThree
import Derived.Test.YtjpjijjnkjomnaaDoorCrcFlip
namespace Go.Proofs.YtjpjijjnkjomnaaDoor
open Go.RowKit

theorem conv_bytes (W : World) (n₀ : Nat) (a : Option Addr) (cap : Nat) (l : List UInt8) (hb : BytesAt n₀ W a l) :
    (convert 23 9 (.slice a l.length cap)).run Tryd.prog W = .ok (.string ⟨l.toArray⟩) W := by
  cases a with
  | none =>
    obtain rfl : l = [] := by
      cases l with
      | nil => rfl
      | cons x l => obtain ⟨b, off, e, _⟩ := hb (by simp); cases e
    exact run_convert_bytes_nil W _ _ Tryd.underlying23 Tryd.underlying5 0 cap _ Tryd.underlying9
  | some ad =>
    have hl : (loadCells ad l.length).run Tryd.prog W = .ok ((l.map fun x => (x.toNat : Int)).map (Value.int .u8)).toArray W := by
      have := run_loadCells_list (P := Tryd.prog) (w := W) ad (byteVals l) (fun j v hj => by
        have hjl : j < l.length := by have := (List.getElem?_eq_some_iff.1 hj).1; simpa [byteVals] using this
        obtain ⟨b, off, e, _, hc⟩ := hb (by rintro rfl; simp at hjl)
        cases e
        rw [addr_add, hc j hjl]
        rw [byteVals, List.getElem?_map, List.getElem?_eq_getElem hjl] at hj
        simp [hjl] at hj ⊢
        exact hj)
      rw [show (byteVals l).length = l.length by simp [byteVals]] at this
      rw [this]; simp [byteVals, Function.comp_def]
    rw [run_convert_bytes_string W _ _ _ _ _ _ Tryd.underlying23 Tryd.underlying5 Tryd.underlying9, run_bytesToString W ad l.length cap _ hl, foldl_push_bytes]
    have e : List.map (fun n : Int => UInt8.ofNat n.toNat) (List.map (fun x : UInt8 => (x.toNat : Int)) l) = l := by
      rw [List.map_map]
      conv => rhs; rw [← List.map_id l]
      exact List.map_congr_left (fun x _ => by simp)
    rw [e]
    simp [ByteArray.empty, ByteArray.emptyWithCapacity]
    rfl

/-- The bytes with one bit turned, where there is such a bit. -/
def flipB (l : List UInt8) (z : Int) : List UInt8 := if 0 ≤ z ∧ z < 8 * (l.length : Int) then xor2 l (unit l.length z.toNat) else l
theorem flipB_length (l : List UInt8) (z : Int) : (flipB l z).length = l.length := by
  unfold flipB; split
  · simp [xor2, unit_length]
  · rfl
/-- What it does to the sum. -/
def flipS (n : Nat) (z : Int) : Nat := if 0 ≤ z ∧ z < 8 * (n : Int) then H (8 * n - z.toNat) else 0
theorem flipB_run (l : List UInt8) (z : Int) (s : Nat) : crcRun s (flipB l z) = crcRun s l ^^^ flipS l.length z := by
  unfold flipB flipS
  split
  · rename_i h
    have h1 := crcRun_xor l (unit l.length z.toNat) s 0 (by rw [unit_length])
    rw [Nat.xor_zero] at h1
    rw [h1, unit_run _ _ (by omega)]
  · rw [Nat.xor_zero]
theorem xor2_twice (l u : List UInt8) (h : l.length = u.length) : xor2 (xor2 l u) u = l := by
  apply List.ext_getElem
  · simp [xor2]; omega
  · intro i h1 h2
    simp [xor2, UInt8.xor_assoc]
theorem flips_zero (l : List UInt8) (z0 z1 z2 : Int) (hl : l.length ≤ 1000) (h : flipS l.length z0 ^^^ flipS l.length z1 ^^^ flipS l.length z2 = 0) : flipB (flipB (flipB l z0) z1) z2 = l := by
  have hv : ∀ z : Int, 0 ≤ z ∧ z < 8 * (l.length : Int) → 1 ≤ 8 * l.length - z.toNat ∧ 8 * l.length - z.toNat ≤ 8000 := fun z hz => by omega
  have hinj : ∀ y z : Int, 0 ≤ y ∧ y < 8 * (l.length : Int) → 0 ≤ z ∧ z < 8 * (l.length : Int) → 8 * l.length - y.toNat = 8 * l.length - z.toNat → y = z := fun y z hy hz e => by omega
  have hx : ∀ (m : List UInt8) (z : Int), flipB (flipB m z) z = m := fun m z => by
    unfold flipB
    by_cases hz : 0 ≤ z ∧ z < 8 * (m.length : Int)
    · rw [if_pos hz]
      have e : (xor2 m (unit m.length z.toNat)).length = m.length := by simp [xor2, unit_length]
      rw [e, if_pos hz]
      exact xor2_twice _ _ (by rw [unit_length])
    · rw [if_neg hz, if_neg hz]
  have hno : ∀ (m : List UInt8) (z : Int), m.length = l.length → ¬ (0 ≤ z ∧ z < 8 * (l.length : Int)) → flipB m z = m := fun m z hm hz => by
    unfold flipB; rw [hm, if_neg hz]
  have hl1 := flipB_length l z0
  have hl2 : (flipB (flipB l z0) z1).length = l.length := by rw [flipB_length, flipB_length]
  by_cases h0 : 0 ≤ z0 ∧ z0 < 8 * (l.length : Int)
  · rw [show flipS l.length z0 = H (8 * l.length - z0.toNat) from if_pos h0] at h
    by_cases h1 : 0 ≤ z1 ∧ z1 < 8 * (l.length : Int)
    · rw [show flipS l.length z1 = H (8 * l.length - z1.toNat) from if_pos h1] at h
      by_cases h2 : 0 ≤ z2 ∧ z2 < 8 * (l.length : Int)
      · rw [show flipS l.length z2 = H (8 * l.length - z2.toNat) from if_pos h2] at h
        exact absurd h (three_ne (hv _ h0).1 (hv _ h1).1 (hv _ h2).1 (hv _ h0).2 (hv _ h1).2 (hv _ h2).2)
      · rw [show flipS l.length z2 = 0 from if_neg h2, Nat.xor_zero] at h
        have e := hinj _ _ h0 h1 (two_ne (hv _ h0).1 (hv _ h1).1 (hv _ h0).2 (hv _ h1).2 h)
        subst e
        rw [hno _ _ hl2 h2, hx]
    · rw [show flipS l.length z1 = 0 from if_neg h1, Nat.xor_zero] at h
      rw [hno _ _ hl1 h1]
      by_cases h2 : 0 ≤ z2 ∧ z2 < 8 * (l.length : Int)
      · rw [show flipS l.length z2 = H (8 * l.length - z2.toNat) from if_pos h2] at h
        have e := hinj _ _ h0 h2 (two_ne (hv _ h0).1 (hv _ h2).1 (hv _ h0).2 (hv _ h2).2 h)
        subst e
        rw [hx]
      · rw [show flipS l.length z2 = 0 from if_neg h2, Nat.xor_zero] at h
        exact absurd h (H_ne _)
  · rw [show flipS l.length z0 = 0 from if_neg h0, Nat.zero_xor] at h
    rw [hno _ _ rfl h0]
    by_cases h1 : 0 ≤ z1 ∧ z1 < 8 * (l.length : Int)
    · rw [show flipS l.length z1 = H (8 * l.length - z1.toNat) from if_pos h1] at h
      by_cases h2 : 0 ≤ z2 ∧ z2 < 8 * (l.length : Int)
      · rw [show flipS l.length z2 = H (8 * l.length - z2.toNat) from if_pos h2] at h
        have e := hinj _ _ h1 h2 (two_ne (hv _ h1).1 (hv _ h2).1 (hv _ h1).2 (hv _ h2).2 h)
        subst e
        rw [hx]
      · rw [show flipS l.length z2 = 0 from if_neg h2, Nat.xor_zero] at h
        exact absurd h (H_ne _)
    · rw [show flipS l.length z1 = 0 from if_neg h1, Nat.zero_xor] at h
      rw [hno _ _ rfl h1]
      by_cases h2 : 0 ≤ z2 ∧ z2 < 8 * (l.length : Int)
      · rw [show flipS l.length z2 = H (8 * l.length - z2.toNat) from if_pos h2] at h
        exact absurd h (H_ne _)
      · exact hno _ _ rfl h2
theorem turned_iff (l : List UInt8) (z0 z1 z2 : Int) (hl : l.length ≤ 1000) (h : crcSum l = crcSum (flipB (flipB (flipB l z0) z1) z2)) : flipB (flipB (flipB l z0) z1) z2 = l := by
  refine flips_zero l z0 z1 z2 hl ?_
  rw [crcSum_eq, crcSum_eq, flipB_run, flipB_run, flipB_run, flipB_length, flipB_length, flipB_length] at h
  generalize crcRun 4294967295 l = r at h
  generalize flipS l.length z0 = a at h ⊢
  generalize flipS l.length z1 = b at h ⊢
  generalize flipS l.length z2 = c at h ⊢
  have h1 : r = r ^^^ a ^^^ b ^^^ c := by
    have := congrArg (4294967295 ^^^ ·) h
    simpa [← Nat.xor_assoc] using this
  have h2 : r ^^^ r = r ^^^ (r ^^^ a ^^^ b ^^^ c) := congrArg (r ^^^ ·) h1
  rw [Nat.xor_self, Nat.xor_assoc, Nat.xor_assoc, ← Nat.xor_assoc r r, Nat.xor_self, Nat.zero_xor, ← Nat.xor_assoc] at h2
  exact h2.symm

/-- The slice at ac, of the call's own, holds cl. -/
def CTo (n₁ : Nat) (W : World) (ac : Option Addr) (cl : List UInt8) : Prop := cl ≠ [] → ∃ g, ac = some ⟨g, 0, none⟩ ∧ n₁ ≤ g ∧ g < W.heap.size ∧
  ∀ j, j < cl.length → W.cell? ⟨g, j, none⟩ = some (.int .u8 ((cl[j]?.getD 0).toNat : Int)) ∧ W.frozen? ⟨g, j, none⟩ = false
theorem CTo.of_own {n₁ : Nat} {W : World} {v : Value} {cl : List UInt8} (h : OwnB W n₁ v cl) : ∃ ac cc, v = .slice ac cl.length cc ∧ cl.length ≤ cc ∧ cc ≤ maxLen ∧ CTo n₁ W ac cl := by
  rcases h.bytes with ⟨rfl, rfl⟩ | ⟨g, cc, rfl, h1, h2, h3, h4, _, h5⟩
  · exact ⟨none, 0, rfl, Nat.le_refl _, Nat.zero_le _, fun hne => absurd rfl hne⟩
  · exact ⟨_, cc, rfl, h3, h4, fun _ => ⟨g, rfl, h1, h2, h5⟩⟩
theorem CTo.bytes {n₁ : Nat} {W : World} {ac : Option Addr} {cl : List UInt8} (h : CTo n₁ W ac cl) : BytesAt W.heap.size W ac cl := fun hne => by
  obtain ⟨g, rfl, _, h2, h3⟩ := h hne
  exact ⟨g, 0, rfl, h2, fun j hj => by rw [Nat.zero_add]; exact (h3 j hj).1⟩
theorem flip_get (cl : List UInt8) (m : Nat) (hm : m < 8 * cl.length) (j : Nat) (hj : j < cl.length) : (flipB cl (m : Int))[j]?.getD 0 = if j = m / 8 then (cl[j]?.getD 0) ^^^ UInt8.ofNat (2 ^ (m % 8)) else cl[j]?.getD 0 := by
  unfold flipB
  rw [if_pos (by omega), Int.toNat_natCast]
  have hu := unit_get cl.length m j hj
  have hlen : j < (unit cl.length m).length := by rw [unit_length]; exact hj
  have e : (xor2 cl (unit cl.length m))[j]?.getD 0 = (cl[j]?.getD 0) ^^^ ((unit cl.length m)[j]?.getD 0) := by
    have h2 : j < (xor2 cl (unit cl.length m)).length := by simp [xor2, unit_length]; omega
    rw [List.getElem?_eq_getElem h2, List.getElem?_eq_getElem hj, List.getElem?_eq_getElem hlen]
    simp [xor2]
  rw [e, hu]
  split
  · rfl
  · simp
theorem CTo.set {n₁ g : Nat} {W : World} {cl : List UInt8} {m v : Nat} (h : CTo n₁ W (some ⟨g, 0, none⟩) cl) (hm : m < 8 * cl.length) (hv : v = ((cl[m / 8]?.getD 0) ^^^ UInt8.ofNat (2 ^ (m % 8))).toNat) :
    CTo n₁ (W.setCell ⟨g, m / 8, none⟩ (.int .u8 (v : Int))) (some ⟨g, 0, none⟩) (flipB cl (m : Int)) := fun _ => by
  obtain ⟨g', e, h1, h2, h3⟩ := h (by rintro rfl; simp at hm)
  cases e
  refine ⟨g, rfl, h1, by simpa [World.setCell] using h2, fun j hj => ?_⟩
  rw [flipB_length] at hj
  refine ⟨?_, by rw [World.frozen?_setCell]; exact (h3 j hj).2⟩
  rw [flip_get cl m hm j hj]
  by_cases e : j = m / 8
  · subst e
    rw [if_pos rfl, ← hv]
    exact World.cell?_setCell_same' _ _ _ (by rw [(h3 _ hj).1]; rfl)
  · rw [if_neg e, World.cell?_setCell_other _ _ _ _ (fun h => e (by cases h; rfl))]
    exact (h3 j hj).1

/-- The three numbers; the bytes when k of them have been gone over. -/
def zz (z0 z1 z2 : Int) (k : Nat) : Int := if k = 0 then z0 else if k = 1 then z1 else z2
def flips (l : List UInt8) (z0 z1 z2 : Int) : Nat → List UInt8
  | 0 => l
  | k + 1 => flipB (flips l z0 z1 z2 k) (zz z0 z1 z2 k)
theorem flips_length (l : List UInt8) (z0 z1 z2 : Int) : ∀ k, (flips l z0 z1 z2 k).length = l.length
  | 0 => rfl
  | k + 1 => by rw [flips, flipB_length]; exact flips_length l z0 z1 z2 k

/-- What each operation of the last statement yields. -/
def TurnedSp (a ac : Option Addr) (n cap cc sb sc : Nat) (l c : List UInt8) (ev : Bool) : Nat → Value → World → Prop
  | 0, v, _ => v = .slice a n cap
  | 1, v, W => Built W v a n cap
  | 2, v, _ => v = .int .u32 sb
  | 3, v, _ => v = .slice ac n cc
  | 4, v, W => Built W v ac n cc
  | 5, v, _ => v = .int .u32 sc
  | 6, v, _ => v = .bool ev
  | 7, v, _ => v = .slice a n cap
  | 8, v, _ => v = .string ⟨l.toArray⟩
  | 9, v, _ => v = .slice ac n cc
  | 10, v, _ => v = .string ⟨c.toArray⟩
  | 11, v, _ => v = .bool ev
  | _, v, _ => v = .bool true
theorem TurnedSp.below {a ac : Option Addr} {n cap cc sb sc : Nat} {l c : List UInt8} {ev : Bool} {A C : World} (hb : Below A.heap.size A C) : ∀ j v, TurnedSp a ac n cap cc sb sc l c ev j v A → TurnedSp a ac n cap cc sb sc l c ev j v C := by
  intro j v h
  unfold TurnedSp at h ⊢
  split at h <;> first | exact h | exact Built.below h hb

set_option maxHeartbeats 8000000 in
set_option maxRecDepth 100000 in
theorem crcTurned_any (a : Option Addr) (cap : Nat) (l : List UInt8) (z0 z1 z2 : Int) (hl : l.length ≤ 9223372036854775807) (hnone : a = none → cap = 0) (hle : l.length ≤ cap)
    (w : World) (ht : Tab w) (h1w : 1 ≤ w.heap.size) (hb : BytesAt w.heap.size w a l) :
    Calls Tryd.prog 5 #[.slice a l.length cap, .agg #[.int .i64 z0, .int .i64 z1, .int .i64 z2]] w fun e w' => e = .returned (.bool true) ∧ Below w.heap.size w w' := by
  obtain ⟨W1, hW1⟩ : ∃ W1, w.alloc (.cells #[.int .i64 z0, .int .i64 z1, .int .i64 z2] 41) = W1 := ⟨_, rfl⟩
  have hB1 : Below w.heap.size w W1 := hW1 ▸ (Below.refl _ _).alloc (Nat.le_refl _) _
  have hs1 : w.heap.size < W1.heap.size := by rw [← hW1]; simp
  have hz : ∀ k, k < 3 → W1.cell? ⟨w.heap.size, k, none⟩ = some (.int .i64 (zz z0 z1 z2 k)) := fun k hk => by
    rw [← hW1]
    match k, hk with
    | 0, _ => simp [zz]
    | 1, _ => simp [zz]
    | 2, _ => simp [zz]
  have HZ := Lib.hid hz
  have HN := Lib.hid hnone
  have ht1 := ht.below h1w hB1
  have h1w1 := Nat.le_trans h1w hB1.size
  clear hnone hz
  by_cases h1 : 1000 < l.length
  · go_enter Tryd.func5, Tryd.ntmps5
    go_wp2_with (go_at_call 10; refine (known_any W1 ht1 h1w1).mono ?_; rintro e w' ⟨rfl, hb⟩)
    go_ret
    exact ⟨rfl, hB1.trans (hb.mono hB1.size)⟩
  · have hb1 := hb.below hB1
    have O0 := OwnB.nil W1 W1.heap.size
    have q1 : ([] : List UInt8).length + l.length ≤ 1099511627776 := by simp; omega
    go_enter Tryd.func5, Tryd.ntmps5
    go_wp2_with (at_builtin; refine wpList_append_bytes rfl _ _ rfl W1.heap.size w.heap.size (.slice none 0 0) [] rfl O0 a l cap rfl HN.out hle hb1 q1 (Nat.le_refl _) ?_; intro v2 w2 O2 g2; simp only [List.nil_append] at O2; have b2 := O0.grown g2 (Below.refl W1.heap.size W1) (Nat.le_refl _) (Nat.le_refl _); obtain ⟨ac, cc, rfl, hcc1, hcc2, hC2⟩ := CTo.of_own O2; clear O2 g2)
    clear O0 q1 hW1
    go_loopw [6] (fun i wr => ∃ k : Nat, k ≤ 3 ∧ i = .int .i64 k ∧ CTo W1.heap.size wr ac (flips l z0 z1 z2 k) ∧ Below W1.heap.size W1 wr) (fun i _ => 3 - (intOf i).toNat)
    case atStart => exact ⟨0, by omega, rfl, hC2, b2⟩
    case round =>
      obtain ⟨k, hk, rfl, hC, hB⟩ := hrel
      clear hC2 b2
      by_cases hlt : k < 3
      · have hzc := (hB.cell (p := ⟨w.heap.size, k, none⟩) hs1).trans (HZ.out k hlt)
        have hfl := flips_length l z0 z1 z2 k
        have HS : Hid (flips l z0 z1 z2 (k + 1) = flipB (flips l z0 z1 z2 k) (zz z0 z1 z2 k)) := rfl
        obtain ⟨cl, hcl⟩ : ∃ cl, flips l z0 z1 z2 k = cl := ⟨_, rfl⟩
        obtain ⟨z, hz⟩ : ∃ z, zz z0 z1 z2 k = z := ⟨_, rfl⟩
        rw [hcl, hz] at HS
        rw [hcl] at hC hfl
        rw [hz] at hzc
        have HFL := Lib.hid hfl
        clear hcl hz hfl
        have i1 : (0 : Int) ≤ (k : Int) := Int.natCast_nonneg _
        have i2 : (k : Int) < 3 := by omega
        by_cases hz0 : z < 0
        · have hno : flipB cl z = cl := if_neg (by omega)
          have HNO := Lib.hid hno
          clear hno
          go_wp2_with fail
          go_roundw
          case rel => exact ⟨k + 1, by omega, by go_num, by rw [HS.out, HNO.out]; exact hC, hB⟩
          case measure => simp [intOf]; omega
        · by_cases hz1 : 8 * (l.length : Int) ≤ z
          · have hno : flipB cl z = cl := if_neg (by rw [HFL.out]; omega)
            have HNO := Lib.hid hno
            clear hno
            go_wp2_with fail
            go_roundw
            case rel => exact ⟨k + 1, by omega, by go_num, by rw [HS.out, HNO.out]; exact hC, hB⟩
            case measure => simp [intOf]; omega
          · obtain ⟨m, rfl⟩ := Int.eq_ofNat_of_zero_le (show 0 ≤ z by omega)
            obtain ⟨g, rfl, hg1, hg2, hg3⟩ := hC (by rintro rfl; have := HFL.out; simp at this; omega)
            have hm : m < 8 * cl.length := by rw [HFL.out]; omega
            have hm8 : m / 8 < cl.length := by omega
            have hcell := (hg3 (m / 8) hm8).1
            have hfr := (hg3 (m / 8) hm8).2
            obtain ⟨X, hX⟩ : ∃ X, cl[m / 8]?.getD 0 = X := ⟨_, rfl⟩
            obtain ⟨y, hy⟩ : ∃ y, 2 ^ (m % 8) = y := ⟨_, rfl⟩
            have hy8 : y < 256 := by rw [← hy]; exact Nat.pow_lt_pow_right (a := 2) (m := m % 8) (n := 8) (by decide) (by omega)
            have hxy := xor8 (UInt8.toNat_lt X) hy8
            have hset := hC.set (v := X.toNat ^^^ y) hm (by rw [hX, hy, UInt8.toNat_xor, UInt8.toNat_ofNat_of_lt' (by have : UInt8.size = 256 := rfl; omega)])
            have hpy : (2 : Int) ^ (m % 8) % 256 = (y : Int) := by
              rw [show (2 : Int) ^ (m % 8) = ((2 ^ (m % 8) : Nat) : Int) by rw [Int.natCast_pow]; rfl, hy]; omega
            rw [hX] at hcell
            have i3 : (m : Int) / 8 < (l.length : Int) := by omega
            have i4 : (0 : Int) ≤ (m : Int) / 8 := by omega
            clear hX hy hg3
            go_wp2_with fail
            go_region
            go_wp2_with fail
            go_roundw
            case rel => exact ⟨k + 1, by omega, by go_num, by rw [HS.out]; exact hset, (hB.setCell (p := ⟨g, m / 8, none⟩) hg1 _).drew⟩
            case measure => simp [intOf]; omega
      · obtain rfl : k = 3 := by omega
        have hfl := flips_length l z0 z1 z2 3
        have hiff : crcSum l = crcSum (flips l z0 z1 z2 3) → flips l z0 z1 z2 3 = l := turned_iff l z0 z1 z2 (by omega)
        obtain ⟨c3, hc3⟩ : ∃ c3, flips l z0 z1 z2 3 = c3 := ⟨_, rfl⟩
        rw [hc3] at hC hfl hiff
        clear hc3
        have hbw := hb1.below (hB.mono (Nat.le_of_lt hs1))
        have hbw2 : BytesAt wr.heap.size wr a l := hbw.mono (Nat.le_trans (Nat.le_of_lt hs1) hB.size)
        have hcw := hC.bytes
        have htw := ht1.below h1w1 hB
        have hww := Nat.le_trans h1w1 hB.size
        have hks := fun W (h : Below wr.heap.size wr W) => known_any W (htw.below hww h) (Nat.le_trans hww h.size)
        have hSl := fun W (h : Below wr.heap.size wr W) blk (hbk : blk < W.heap.size) (hck : W.cell? ⟨blk, 0, none⟩ = some (.slice a l.length cap)) => sumAt_any W blk a cap l (by omega) hbk hck ((hbw2.below h).mono h.size) (htw.below hww h)
        have hSc := fun W (h : Below wr.heap.size wr W) blk (hbk : blk < W.heap.size) (hck : W.cell? ⟨blk, 0, none⟩ = some (.slice ac l.length cc)) => sumAt_any W blk ac cc c3 (by omega) hbk (by rw [hfl]; exact hck) ((hcw.below h).mono h.size) (htw.below hww h)
        have hVl := fun W (h : Below wr.heap.size wr W) => conv_bytes W _ a cap l (hbw2.below h)
        have hVc := fun W (h : Below wr.heap.size wr W) => conv_bytes W _ ac cc c3 (hcw.below h)
        rw [hfl] at hVc
        obtain ⟨ev, hev⟩ : ∃ ev : Bool, decide (c3 = l) = ev := ⟨_, rfl⟩
        have hE1 : ((crcSum l : Int) == (crcSum c3 : Int)) = ev := by
          rw [← hev]
          by_cases h : c3 = l
          · rw [decide_eq_true h, h]; simp
          · rw [decide_eq_false h]
            have : ¬ crcSum l = crcSum c3 := fun e => h (hiff e)
            simp; omega
        have hE2 : (c3 = l) ↔ (l = c3) := ⟨Eq.symm, Eq.symm⟩
        have HE1 := Lib.hid hE1
        have HEV := Lib.hid hev
        clear hE1 hev hiff hE2 hfl hC
        go_wp2_with fail
        refine wp_region_inv (Below wr.heap.size wr) (TurnedSp a ac l.length cap cc (crcSum l) (crcSum c3) l c3 ev) (by kernel_rfl) (by kernel_rfl) (by kernel_rfl) (by kernel_rfl) ⟨rfl, rfl, rfl, Nat.le_refl _, fun _ _ => rfl⟩ ?step ?fin
        case fin =>
          intro listed a' w' hI hall
          have e4 : a'.eval (.tmp 4) = .bool true := hI.slot 16 4 rfl (hall 16 (by decide)) rfl
          have hB' := hI.inv
          have hdf := hI.defers
          go_wp2_with fail
          refine bodyPost_ret (results_tmp rfl _ _ _) hdf ⟨congrArg Ending.returned e4, ?_⟩
          exact (hB1.trans (hB.mono hB1.size)).trans (hB'.mono (Nat.le_trans hB1.size hB.size))
        case step =>
         intro i o ho listed a' w' hI hpre
         have hB' := hI.inv
         have hi : i < 17 := (Array.getElem?_eq_some_iff.1 ho).1
         match i, hi with
        | 0, _ => exact wpOp_value ho (by cases ho; rfl) (by cases ho; rfl) ⟨_, rfl, hB', hI.kept (t := 0) (by kernel_rfl), fun _ _ h => h⟩
        | 1, _ =>
          cases ho
          have e := slotFact (v := .slice a l.length cap) (hI.slot 0 44 rfl (hpre ⟨0, .data⟩ (by simp) rfl) rfl)
          refine wpOp_value rfl rfl (v := .slice (some ⟨w'.heap.size, 0, none⟩) 1 1) (w' := w'.alloc (.cells #[.slice a l.length cap] 23)) ?_ ⟨_, rfl, hB'.alloc hB'.size _, ⟨w'.heap.size, rfl, by simp, by simp⟩, TurnedSp.below ((Below.refl _ _).alloc (Nat.le_refl _) _)⟩
          simp [execOp, e, go_sem]
        | 2, _ =>
          cases ho
          obtain ⟨blk, e, hbk, hck⟩ := hI.slot 1 45 rfl (hpre ⟨1, .data⟩ (by simp) rfl) rfl
          refine wpOp_enter rfl rfl (f := 15) (args := #[.slice (some ⟨blk, 0, none⟩) 1 1]) ?_ ((hSl w' hB' blk hbk hck).mono ?_)
          · have e' := slotFact e
            simp [execOp, e', go_sem]
          · rintro e w'' ⟨rfl, hbw⟩
            exact ⟨_, rfl, _, rfl, hB'.trans (hbw.mono hB'.size), rfl, TurnedSp.below hbw⟩
        | 3, _ => exact wpOp_value ho (by cases ho; rfl) (by cases ho; rfl) ⟨_, rfl, hB', hI.kept (t := 5) (by kernel_rfl), fun _ _ h => h⟩
        | 4, _ =>
          cases ho
          have e := slotFact (v := .slice ac l.length cc) (hI.slot 3 47 rfl (hpre ⟨3, .data⟩ (by simp) rfl) rfl)
          refine wpOp_value rfl rfl (v := .slice (some ⟨w'.heap.size, 0, none⟩) 1 1) (w' := w'.alloc (.cells #[.slice ac l.length cc] 23)) ?_ ⟨_, rfl, hB'.alloc hB'.size _, ⟨w'.heap.size, rfl, by simp, by simp⟩, TurnedSp.below ((Below.refl _ _).alloc (Nat.le_refl _) _)⟩
          simp [execOp, e, go_sem]
        | 5, _ =>
          cases ho
          obtain ⟨blk, e, hbk, hck⟩ := hI.slot 4 48 rfl (hpre ⟨4, .data⟩ (by simp) rfl) rfl
          refine wpOp_enter rfl rfl (f := 15) (args := #[.slice (some ⟨blk, 0, none⟩) 1 1]) ?_ ((hSc w' hB' blk hbk hck).mono ?_)
          · have e' := slotFact e
            simp [execOp, e', go_sem]
          · rintro e w'' ⟨rfl, hbw⟩
            exact ⟨_, rfl, _, rfl, hB'.trans (hbw.mono hB'.size), rfl, TurnedSp.below hbw⟩
        | 6, _ =>
          cases ho
          have e1 := slotFact (v := .int .u32 (crcSum l : Int)) (hI.slot 2 46 rfl (hpre ⟨2, .data⟩ (by simp) rfl) rfl)
          have e2 := slotFact (v := .int .u32 (crcSum c3 : Int)) (hI.slot 5 49 rfl (hpre ⟨5, .data⟩ (by simp) rfl) rfl)
          refine wpOp_value rfl rfl (v := .bool ev) (w' := w') ?_ ⟨_, rfl, hB', rfl, fun _ _ h => h⟩
          rw [← HE1.out]
          simp [execOp, e1, e2, go_sem]
        | 7, _ => exact wpOp_value ho (by cases ho; rfl) (by cases ho; rfl) ⟨_, rfl, hB', hI.kept (t := 0) (by kernel_rfl), fun _ _ h => h⟩
        | 8, _ =>
          cases ho
          have e := hI.slot 7 51 rfl (hpre ⟨7, .data⟩ (by simp) rfl) rfl
          refine wpOp_value rfl rfl (v := .string ⟨l.toArray⟩) (w' := w') ?_ ⟨_, rfl, hB', rfl, fun _ _ h => h⟩
          have e' := slotFact (v := .slice a l.length cap) e
          have hcv := hVl w' hB'
          simp [execOp, e', go_sem, hcv]
        | 9, _ => exact wpOp_value ho (by cases ho; rfl) (by cases ho; rfl) ⟨_, rfl, hB', hI.kept (t := 5) (by kernel_rfl), fun _ _ h => h⟩
        | 10, _ =>
          cases ho
          have e := hI.slot 9 53 rfl (hpre ⟨9, .data⟩ (by simp) rfl) rfl
          refine wpOp_value rfl rfl (v := .string ⟨c3.toArray⟩) (w' := w') ?_ ⟨_, rfl, hB', rfl, fun _ _ h => h⟩
          have e' := slotFact (v := .slice ac l.length cc) e
          have hcv := hVc w' hB'
          simp [execOp, e', go_sem, hcv]
        | 11, _ =>
          cases ho
          have e1 := slotFact (v := .string ⟨l.toArray⟩) (hI.slot 8 52 rfl (hpre ⟨8, .data⟩ (by simp) rfl) rfl)
          have e2 := slotFact (v := .string ⟨c3.toArray⟩) (hI.slot 10 54 rfl (hpre ⟨10, .data⟩ (by simp) rfl) rfl)
          refine wpOp_value rfl rfl (v := .bool ev) (w' := w') ?_ ⟨_, rfl, hB', rfl, fun _ _ h => h⟩
          rw [← HEV.out]
          simp [execOp, e1, e2, go_sem]
          by_cases h : c3 = l
          · rw [decide_eq_true h, h]; exact beq_self_eq_true l
          · rw [decide_eq_false h]; exact beq_eq_false_iff_ne.2 (fun e => h e.symm)
        | 12, _ =>
          cases ho
          have e1 := slotFact (v := .bool ev) (hI.slot 6 50 rfl (hpre ⟨6, .data⟩ (by simp) rfl) rfl)
          have e2 := slotFact (v := .bool ev) (hI.slot 11 55 rfl (hpre ⟨11, .data⟩ (by simp) rfl) rfl)
          refine wpOp_value rfl rfl (v := .bool true) (w' := w') ?_ ⟨_, rfl, hB', rfl, fun _ _ h => h⟩
          simp [execOp, e1, e2, go_sem]
        | 13, _ =>
          cases ho
          exact wpOp_value rfl rfl rfl ⟨_, rfl, hB', hI.slot 12 56 rfl (hpre ⟨12, .data⟩ (by simp) rfl) rfl, fun _ _ h => h⟩
        | 14, _ =>
          cases ho
          have e1 := slotSome (b := true) (hI.slot 13 57 rfl (hpre ⟨13, .chain⟩ (by simp) rfl) rfl)
          refine wpOp_enter rfl (by simp [Region.wanted, yielded, e1]) (f := 10) (args := #[]) (by simp [execOp, go_sem]) ((hks w' hB').mono ?_)
          rintro e w'' ⟨rfl, hbw⟩
          exact ⟨_, rfl, _, rfl, hB'.trans (hbw.mono hB'.size), rfl, TurnedSp.below hbw⟩
        | 15, _ =>
          cases ho
          have e1 := slotFact (v := .bool true) (hI.slot 13 57 rfl (hpre ⟨13, .data⟩ (by simp) rfl) rfl)
          have e2 := slotFact (v := .bool true) (hI.slot 14 58 rfl (hpre ⟨14, .data⟩ (by simp) rfl) rfl)
          refine wpOp_value rfl rfl (v := .bool true) (w' := w') ?_ ⟨_, rfl, hB', rfl, fun _ _ h => h⟩
          simp [execOp, e1, e2, go_sem]
        | 16, _ =>
          cases ho
          exact wpOp_value rfl rfl rfl ⟨_, rfl, hB', hI.slot 15 59 rfl (hpre ⟨15, .data⟩ (by simp) rfl) rfl, fun _ _ h => h⟩
end Go.Proofs.YtjpjijjnkjomnaaDoor

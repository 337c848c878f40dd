/- Layer 5: the hand that reads: a number, a truth, a text; it gives up by a panic. -/
import Derived.Test.YtaceebgcaghocaaSlR
import Derived.Test.YtaceebgcaghocaaSlB
namespace Go.Proofs.Ytaceebgcaghocaa
open Go.RowKit

def errC : List PanicEntry := [{ v := .iface 26 (.int .i64 151), recovered := false }]
/-- What a call of the hand leaves: the reader alone is turned; it answers, or gives up. -/
def RHand (n₀ : Nat) (w : World) (B : Nat) (v : Value) (l : List UInt8) (res : Option (Value × List UInt8)) (e : Ending) (w' : World) : Prop :=
  w.grownBy w' (some B) ∧ ((∃ x r', res = some (x, r') ∧ e = .returned x ∧ RdIn n₀ w' B v l r') ∨ (res = none ∧ e = .panicked errC))
abbrev rdr (B : Nat) : Value := .agg #[wptr B]
section
variable {n₀ : Nat} {w : World} {B : Nat} {v : Value} {l r : List UInt8}
theorem grown_after {a b c : World} {B : Nat} (h : Below a.heap.size a b) (k : b.grownBy c (some B)) : a.grownBy c (some B) :=
  World.grownBy.trans (grown_below h) k
set_option maxRecDepth 100000 in
set_option maxHeartbeats 1000000 in
theorem rnext_any (h : RdIn n₀ w B v l r) (k : Nat) (h1 : 1 ≤ k) (h8 : k ≤ 8) :
    Calls Try.prog 29 #[rdr B, .int .i64 k] w fun e w' => RHand n₀ w B v l (if k ≤ r.length then some (.int .u64 (numOf (r.take k) : Nat), r.drop k) else none) e w' := by
  have hA : Below w.heap.size w (w.alloc (.cells #[wptr B] 73)) := (Below.refl _ _).alloc (Nat.le_refl _) _
  have HC := Lib.hid (rnum_v (h.below hA) k)
  have HA := Lib.hid hA
  have hr : rNum r k = if k ≤ r.length then (numOf (r.take k), 0, r.drop k) else (0, 130, r) := by
    unfold rNum
    rw [if_neg (by omega), Int.toNat_natCast]
    by_cases hx : k ≤ r.length
    · rw [if_pos hx, if_neg (by omega)]
    · rw [if_neg hx, if_pos (by omega)]
  by_cases hx : k ≤ r.length
  · rw [if_pos hx] at hr ⊢
    rw [hr] at HC
    clear hr hA h
    go_enter Try.func29, Try.ntmps29
    go_wp2_with fail
    refine HC.out.mono ?_
    rintro e w1 ⟨rfl, hR, hg⟩
    have HX := Lib.hid (And.intro hR hg)
    clear hR hg HC
    dsimp only
    go_wp2
    go_ret
    exact ⟨grown_after HA.out HX.out.2, .inl ⟨_, _, rfl, rfl, HX.out.1⟩⟩
  · rw [if_neg hx] at hr ⊢
    rw [hr] at HC
    clear hr hA h
    go_enter Try.func29, Try.ntmps29
    go_wp2_with fail
    refine HC.out.mono ?_
    rintro e w1 ⟨rfl, hR, hg⟩
    have HX := Lib.hid (And.intro hR hg)
    clear hR hg HC
    dsimp only
    go_wp2
    exact ⟨rfl, grown_after HA.out HX.out.2, .inr ⟨rfl, rfl⟩⟩
set_option maxRecDepth 100000 in
set_option maxHeartbeats 1000000 in
theorem rnumber_any (h : RdIn n₀ w B v l r) (a b c : Int) :
    Calls Try.prog 65 #[rdr B, .int .i64 a, .int .i64 b, .int .i64 c] w fun e w' => RHand n₀ w B v l (if 4 ≤ r.length then some (.int .i64 (numOf (r.take 4) : Nat), r.drop 4) else none) e w' := by
  have hA : Below w.heap.size w (w.alloc (.cells #[wptr B] 73)) := (Below.refl _ _).alloc (Nat.le_refl _) _
  have HC := Lib.hid (rnext_any (h.below hA) 4 (by omega) (by omega))
  have HA := Lib.hid hA
  clear hA h
  by_cases hle : 4 ≤ r.length
  · rw [if_pos hle] at HC ⊢
    have hlt := numOf_lt (r.take 4)
    rw [List.length_take, Nat.min_eq_left hle] at hlt
    obtain ⟨n, hn⟩ : ∃ n, numOf (r.take 4) = n := ⟨_, rfl⟩
    rw [hn] at hlt HC ⊢
    have hlt2 : n < 4294967296 := hlt
    clear hn hlt
    go_enter Try.func65, Try.ntmps65
    go_wp2_with fail
    refine HC.out.mono ?_
    rintro e w1 ⟨hg, ⟨x, r', hx, rfl, hR⟩ | ⟨hx, rfl⟩⟩
    · cases hx
      have HX := Lib.hid (And.intro hR hg)
      clear hR hg HC hle
      go_wp2
      go_ret
      exact ⟨grown_after HA.out HX.out.2, .inl ⟨_, _, rfl, rfl, HX.out.1⟩⟩
    · cases hx
  · rw [if_neg hle] at HC ⊢
    go_enter Try.func65, Try.ntmps65
    go_wp2_with fail
    refine HC.out.mono ?_
    rintro e w1 ⟨hg, ⟨x, r', hx, rfl, hR⟩ | ⟨hx, rfl⟩⟩
    · cases hx
    · have HX := Lib.hid hg
      clear hg HC hle hx
      go_wp2
      exact ⟨rfl, grown_after HA.out HX.out, .inr ⟨rfl, rfl⟩⟩
def rTr (r : List UInt8) : Option (Value × List UInt8) := if r.length < 1 ∨ 1 < numOf (r.take 1) then none else some (.bool (numOf (r.take 1) == 1), r.drop 1)
set_option maxRecDepth 100000 in
set_option maxHeartbeats 1000000 in
theorem rtr_any (h : RdIn n₀ w B v l r) (b : Bool) :
    Calls Try.prog 67 #[rdr B, .bool b] w fun e w' => RHand n₀ w B v l (rTr r) e w' := by
  have hA : Below w.heap.size w (w.alloc (.cells #[wptr B] 73)) := (Below.refl _ _).alloc (Nat.le_refl _) _
  have HC := Lib.hid (rtruth_v (h.below hA))
  have HA := Lib.hid hA
  by_cases hx : r.length < 1 ∨ 1 < numOf (r.take 1)
  · rw [show rTr r = none by unfold rTr; rw [if_pos hx]]
    rw [show rTruth r = (false, 130, r) by unfold rTruth; rw [if_pos hx]] at HC
    clear hx hA h
    go_enter Try.func67, Try.ntmps67
    go_wp2_with fail
    refine HC.out.mono ?_
    rintro e w1 ⟨rfl, hR, hg⟩
    have HX := Lib.hid (And.intro hR hg)
    clear hR hg HC
    dsimp only
    go_wp2
    exact ⟨rfl, grown_after HA.out HX.out.2, .inr ⟨rfl, rfl⟩⟩
  · rw [show rTr r = some (.bool (numOf (r.take 1) == 1), r.drop 1) by unfold rTr; rw [if_neg hx]]
    rw [show rTruth r = (numOf (r.take 1) == 1, 0, r.drop 1) by unfold rTruth; rw [if_neg hx]] at HC
    obtain ⟨q, hq⟩ : ∃ q, (numOf (r.take 1) == 1) = q := ⟨_, rfl⟩
    rw [hq] at HC ⊢
    clear hx hA h hq
    go_enter Try.func67, Try.ntmps67
    go_wp2_with fail
    refine HC.out.mono ?_
    rintro e w1 ⟨rfl, hR, hg⟩
    have HX := Lib.hid (And.intro hR hg)
    clear hR hg HC
    dsimp only
    go_wp2
    go_ret
    exact ⟨grown_after HA.out HX.out.2, .inl ⟨_, _, rfl, rfl, HX.out.1⟩⟩
def rTx (r : List UInt8) : Option (Value × List UInt8) := if r.length < 1 ∨ r.length < 1 + numOf (r.take 1) then none else some (.string ⟨((r.drop 1).take (numOf (r.take 1))).toArray⟩, r.drop (1 + numOf (r.take 1)))
theorem num_one {l : List UInt8} {j : Nat} (h : j < l.length) : numOf ((l.drop j).take 1) = (l[j]?.getD 0).toNat := by
  rw [List.drop_eq_getElem_cons h, List.getElem?_eq_getElem h, List.take_succ_cons, List.take_zero]
  simp only [numOf, List.foldl_cons, List.foldl_nil, Option.getD_some]
  omega
theorem take_one {l : List UInt8} {j : Nat} (h : j < l.length) : l.take (j + 1) = l.take j ++ [l[j]?.getD 0] := by
  rw [List.take_add_one, List.getElem?_eq_getElem h]; simp
set_option maxRecDepth 100000 in
set_option maxHeartbeats 1000000 in
theorem rtx_any (h : RdIn n₀ w B v l r) (s : ByteArray) (a b : Int) :
    Calls Try.prog 66 #[rdr B, .string s, .int .i64 a, .int .i64 b] w fun e w' => RHand n₀ w B v l (rTx r) e w' := by
  have hA : Below w.heap.size w (w.alloc (.cells #[wptr B] 73)) := (Below.refl _ _).alloc (Nat.le_refl _) _
  have HC := Lib.hid (rnext_any (h.below hA) 1 (by omega) (by omega))
  have HA := Lib.hid (And.intro hA h)
  have hB := h.lt
  by_cases hle : 1 ≤ r.length
  case neg =>
    rw [show rTx r = none by unfold rTx; rw [if_pos (.inl (by omega))]]
    rw [if_neg hle] at HC
    clear hA h hle
    go_enter Try.func66, Try.ntmps66
    go_wp2_with fail
    refine HC.out.mono ?_
    rintro e w1 ⟨hg, ⟨x, r', hx, rfl, hR⟩ | ⟨hx, rfl⟩⟩
    · cases hx
    · have HX := Lib.hid hg
      clear hg HC hx
      go_wp2
      exact ⟨rfl, grown_after HA.out.1 HX.out, .inr ⟨rfl, rfl⟩⟩
  rw [if_pos hle] at HC
  have hn0 := num_one (l := r) (j := 0) (by omega)
  rw [List.drop_zero] at hn0
  obtain ⟨y0, hy0⟩ : ∃ y0 : UInt8, r[0]?.getD 0 = y0 := ⟨_, rfl⟩
  rw [hy0] at hn0
  have hy256 := UInt8.toNat_lt y0
  obtain ⟨n, hn⟩ : ∃ n, y0.toNat = n := ⟨_, rfl⟩
  rw [hn] at hn0 hy256
  have hres : rTx r = if r.length < 1 + n then none else some (.string ⟨((r.drop 1).take n).toArray⟩, r.drop (1 + n)) := by
    unfold rTx
    rw [hn0]
    by_cases hx : r.length < 1 + n
    · rw [if_pos hx, if_pos (.inr hx)]
    · rw [if_neg hx, if_neg (by omega)]
  rw [hn0] at HC
  generalize rTx r = res at hres ⊢
  have HRES := Lib.hid hres
  have HLE := Lib.hid hle
  clear hA h hle hres hn0 hn hy0
  go_enter Try.func66, Try.ntmps66
  go_wp2_with fail
  refine HC.out.mono ?_
  rintro e w1 ⟨hg, ⟨x, r', hx, rfl, hR⟩ | ⟨hx, rfl⟩⟩
  case inr => cases hx
  cases hx
  have hX1 : w1.heap[w.heap.size]? = some (.cells #[wptr B] 73 (0, 0)) := (hg.block _ (by simp) (by simp; omega)).trans (heap_alloc_new w _)
  have HX := Lib.hid (And.intro hR (And.intro hg hX1))
  clear hR hg HC hX1
  go_wp2
  go_loopw [9, 12, 13, 14, 15, 16, 17, 18, 19, 20] (fun b y _ _ _ _ _ _ _ _ wr => w.grownBy wr (some B) ∧ wr.heap[w.heap.size]? = some (.cells #[wptr B] 73 (0, 0)) ∧ ∃ i : Nat, y = .int .u64 i ∧ i ≤ n ∧ 1 + i ≤ r.length ∧ RdIn n₀ wr B v l (r.drop (1 + i)) ∧ OwnB wr (w.heap.size + 1) b ((r.drop 1).take i)) (fun _ y _ _ _ _ _ _ _ _ _ => n - (intOf y).toNat)
  case atStart => exact ⟨grown_after HA.out.1 HX.out.2.1, HX.out.2.2, 0, rfl, Nat.zero_le _, HLE.out, HX.out.1, by rw [List.take_zero]; exact OwnB.nil _ _⟩
  case round =>
    obtain ⟨hg, hX, i, rfl, hi, hil, hR, hO⟩ := hrel
    by_cases hlt : i < n
    · have hiN : (i : Int) < (n : Int) := by omega
      have x0 := cell_of_row wr w.heap.size 0 _ _ _ hX
      simp only [List.getElem?_toArray, List.getElem?_cons_zero] at x0
      have HN := Lib.hid (rnext_any hR 1 (by omega) (by omega))
      have HY := Lib.hid (And.intro hg (And.intro hX (And.intro hil (And.intro hO hR.cell))))
      by_cases hmore : 1 + i < r.length
      · have e1 : 1 ≤ (r.drop (1 + i)).length := by rw [List.length_drop]; omega
        have e2 := num_one hmore
        rw [if_pos e1, e2, List.drop_drop] at HN
        obtain ⟨y, hy⟩ : ∃ y : UInt8, r[1 + i]?.getD 0 = y := ⟨_, rfl⟩
        rw [hy] at HN
        have hyl := UInt8.toNat_lt y
        have hsn : (r.drop 1).take (i + 1) = (r.drop 1).take i ++ [y] := by
          rw [take_one (by rw [List.length_drop]; omega), List.getElem?_drop, hy]
        have HSN := Lib.hid hsn
        clear hg hX hil hR hO e1 e2 hy hsn
        go_wp2_with fail
        refine HN.out.mono ?_
        rintro e w2 ⟨hg2, ⟨x, r', hx, rfl, hR2⟩ | ⟨hx, rfl⟩⟩
        case inr => cases hx
        cases hx
        obtain ⟨csB, hBr⟩ := HY.out.2.2.2.2
        have hOw := HY.out.2.2.2.1.besides hBr (by decide) hg2
        have hX2 := (hg2.block w.heap.size (Array.getElem?_eq_some_iff.1 HY.out.2.1).1 (by simp; omega)).trans HY.out.2.1
        have hA3 : Below w2.heap.size w2 (w2.alloc (.cells #[.int .u8 (y.toNat : Int)] 5)) := (Below.refl _ _).alloc (Nat.le_refl _) _
        have hsz : w.heap.size + 1 ≤ w2.heap.size := Nat.le_trans (Array.getElem?_eq_some_iff.1 HY.out.2.1).1 hg2.size
        have HZ := Lib.hid (And.intro hR2 (And.intro hg2 (And.intro (hOw.alloc (.cells #[.int .u8 (y.toNat : Int)] 5)) (And.intro hX2 hA3))))
        have HSZ := Lib.hid hsz
        clear hR2 hg2 hOw hX2 hA3 hBr hsz
        go_wp2_with (at_builtin; refine wpList_append_bytes rfl (.tmp 14) (.tmp 18) rfl (w.heap.size + 1) (w2.heap.size + 1) _ _ rfl HZ.out.2.2.1 (some ⟨w2.heap.size, 0, none⟩) [y] _ rfl (fun h => by cases h) (by simp) (one_byte w2 y) (by have := HLE.out; simp; omega) (by have := HSZ.out; simp; omega) ?_; intro v4 w4 hO4 hg4; rw [← HSN.out] at hO4; have HV := Lib.hid (And.intro hO4 hg4); clear hO4 hg4)
        obtain ⟨hR2, hg2, hOw, hX2, hA3⟩ := HZ.out
        have hown : ∀ k, u9.ownBlock = some k → w.heap.size + 1 ≤ k := fun k hk => own_ge hOw hk
        have hg3 : w.grownBy w4 (some B) := (World.grownBy.trans (World.grownBy.trans HY.out.1 hg2) (grown_below hA3)).andThen HV.out.2 (fun j e => .inl (by have := hown j e; omega))
        have hX4 := (HV.out.2.block w.heap.size (Nat.lt_of_lt_of_le (Array.getElem?_eq_some_iff.1 hX2).1 hA3.size) (fun e => by have := hown _ e.symm; omega)).trans (go_row hX2 hA3)
        have hR4 : RdIn n₀ w4 B v l (r.drop (1 + i + 1)) := (hR2.below hA3).kept HV.out.2 (fun e => by have := hown _ e.symm; omega) (by
          cases hv : v.ownBlock with
          | none => exact .inl rfl
          | some g =>
            refine .inr fun e => ?_
            have h1 := HA.out.2.own_lt g hv
            have h2 := hown g e.symm
            omega)
        have HW := Lib.hid (And.intro hg3 (And.intro hX4 (And.intro hR4 HV.out.1)))
        clear hR2 hg2 hOw hX2 hA3 hg3 hX4 hR4 hown
        go_wp2
        exact ⟨⟨HW.out.1, HW.out.2.1, i + 1, by go_num, hlt, by omega, by rw [← Nat.add_assoc]; exact HW.out.2.2.1, HW.out.2.2.2⟩, by simp only [intOf]; omega⟩
      · have e1 : ¬ 1 ≤ (r.drop (1 + i)).length := by rw [List.length_drop]; omega
        rw [if_neg e1] at HN
        clear hg hX hil hR hO e1
        go_wp2_with fail
        refine HN.out.mono ?_
        rintro e w2 ⟨hg2, ⟨x, r', hx, rfl, hR2⟩ | ⟨hx, rfl⟩⟩
        · cases hx
        · have HZ := Lib.hid hg2
          clear hg2 hx
          go_wp2
          exact ⟨rfl, World.grownBy.trans HY.out.1 HZ.out, .inr ⟨by rw [HRES.out, if_pos (by omega)], rfl⟩⟩
    · obtain rfl : i = n := by omega
      have hiN : ¬ ((i : Int) < (i : Int)) := by omega
      obtain ⟨a', c', e', hm', -⟩ := hO.form
      have hcv := conv_at wr a' ((r.drop 1).take i) c' _ hm'
      have hll : ((r.drop 1).take i).length = i := by rw [List.length_take, List.length_drop]; omega
      rw [hll] at e' hcv
      obtain ⟨st, hst⟩ : ∃ st : ByteArray, ⟨((r.drop 1).take i).toArray⟩ = st := ⟨_, rfl⟩
      rw [hst] at hcv
      have HY := Lib.hid (And.intro hg (And.intro hil (And.intro hR hst)))
      subst e'
      clear hg hX hR hO hm' hll hst hil
      go_wp2
      go_ret
      exact ⟨HY.out.1, .inl ⟨_, _, by rw [HRES.out, if_neg (by have := HY.out.2.1; omega), HY.out.2.2.2]; rfl, rfl, HY.out.2.2.1⟩⟩
end
end Go.Proofs.Ytaceebgcaghocaa

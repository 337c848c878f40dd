/- Layer 2: rows of pages; one of the pages that may be. -/
import Derived.Test.YtkophpipehdkmaaDsk
import Derived.Test.YtkophpipehdkmaaDskWrite1
namespace Go.Proofs.Ytkophpipehdkmaa
open Go.RowKit

def rowOf (ps : List Page) : List Value := ps.flatMap byteVals
theorem rowOf_snoc (ps : List Page) (l : Page) : rowOf (ps ++ [l]) = rowOf ps ++ byteVals l := by simp [rowOf]
theorem rowOf_cons (ps : List Page) (l : Page) : rowOf (l :: ps) = byteVals l ++ rowOf ps := by simp [rowOf]
theorem rowOf_len {ps : List Page} (h : ∀ x ∈ ps, x.length = 256) : (rowOf ps).length = ps.length * 256 := by
  induction ps with
  | nil => rfl
  | cons l ps ih =>
    rw [rowOf_cons, List.length_append, byteVals_len, h l (by simp), ih (fun x hx => h x (by simp [hx])), List.length_cons]
    omega
theorem rowOf_get {ps : List Page} (h : ∀ x ∈ ps, x.length = 256) {i : Nat} (hi : i < ps.length) {j : Nat} (hj : j < 256) : (rowOf ps)[i * 256 + j]? = (byteVals (ps.getD i noughts))[j]? := by
  induction ps generalizing i with
  | nil => cases hi
  | cons l ps ih =>
    have hl := h l (by simp)
    rw [rowOf_cons]
    cases i with
    | zero => rw [Nat.zero_mul, Nat.zero_add, List.getElem?_append_left (by rw [byteVals_len, hl]; exact hj)]; rfl
    | succ i =>
      rw [List.getElem?_append_right (by rw [byteVals_len, hl]; omega), byteVals_len, hl, show (i + 1) * 256 + j - 256 = i * 256 + j by omega, ih (fun x hx => h x (by simp [hx])) (by simpa using hi)]
      rfl
theorem rowOf_range {w : World} {g : Nat} {ps : List Page} (h : ∀ x ∈ ps, x.length = 256) (hr : w.rangeAt g 0 (rowOf ps)) {i : Nat} (hi : i < ps.length) : w.rangeAt g (i * 256) (byteVals (ps.getD i noughts)) := fun j v hv => by
  have hl : (ps.getD i noughts).length = 256 := by
    rw [List.getD, List.getElem?_eq_getElem hi]; exact h _ (List.getElem_mem hi)
  have hj : j < 256 := by
    have := (List.getElem?_eq_some_iff.1 hv).1
    rw [byteVals_len, hl] at this; exact this
  have := hr (i * 256 + j) v (by rw [rowOf_get h hi hj]; exact hv)
  rwa [Nat.zero_add] at this
theorem index83 (w : World) (g n cap : Nat) (i : Nat) (hi : i < n) : (Instr.indexAt 77 (.slice (some ⟨g, 0, none⟩) n cap) (.int .i64 i)).run Try.prog w = .ok (.pointer (some ⟨g, i * 256, none⟩)) w := by
  have s77 : (sizeOf 66).run Try.prog w = .ok 256 w := by
    have := size77
    cases hq : Try.prog.info? 66 with
    | none => rw [hq] at this; cases this
    | some i => rw [hq] at this; simp [sizeOf, typeInfo, hq]; simpa using this
  have he : Try.prog.elem 77 = 66 := by kernel_rfl
  refine (run_indexAt_slice (P := Try.prog) (w := w) 77 ⟨g, 0, none⟩ n cap .i64 i (by rw [he]; exact Try.underlying77)).trans ?_
  rw [if_pos (by omega), he, s77]
  simp only [Result.andThen_ok, addr_add, Int.toNat_natCast, Nat.zero_add]
section
variable {P : Program} {ops : Array Oper} {rest : List Oper} {o : Oper} {a : Act} {Q : Exit → Act → World → Prop} {w w' : World}
theorem wpList_val {v : Value} (hg : o.guard = none) (hrun : (execOp a.eval o).run P w = .ok (.value v) w') (h : wpList P ops Q rest (a.put o.dst v) w') : wpList P ops Q (o :: rest) a w :=
  wpList_plain hg fun K hK => by
    unfold Oper.wp
    rw [hrun]
    exact hK _ _ h
theorem wpList_index {T : TypeId} {x y : Operand} {vx vy v : Value} (hg : o.guard = none) (hop : o.op = .indexAddr T x y) (hx : a.eval x = vx) (hy : a.eval y = vy) (hrun : (Instr.indexAt T vx vy).run P w = .ok v w') (h : wpList P ops Q rest (a.put o.dst v) w') : wpList P ops Q (o :: rest) a w :=
  wpList_val hg (by simp only [execOp, hop, hx, hy, hrun, Sem.run_bind, Sem.run_pure, Result.andThen_ok]) h
end
theorem pick_pos {pick : Int} {n : Nat} (h0 : 0 < n) (h : 0 ≤ pick.tmod n) : pick.tmod n = (pickOf pick n : Int) := by
  unfold pickOf
  have h1 := Int.emod_nonneg pick (show (n : Int) ≠ 0 by omega)
  have h2 := Int.emod_lt_of_pos pick (show (0 : Int) < n by omega)
  rw [Int.tmod_eq_emod] at h ⊢
  split at h
  · rw [if_pos (by assumption)]; omega
  · simp at h; omega
theorem pick_neg {pick : Int} {n : Nat} (h0 : 0 < n) (h : pick.tmod n < 0) : pick.tmod n + n = (pickOf pick n : Int) := by
  unfold pickOf
  have h1 := Int.emod_nonneg pick (show (n : Int) ≠ 0 by omega)
  have h2 := Int.emod_lt_of_pos pick (show (0 : Int) < n by omega)
  rw [Int.tmod_eq_emod] at h ⊢
  split at h
  · omega
  · rw [if_neg (by assumption)]; simp; omega
set_option maxRecDepth 100000 in
set_option maxHeartbeats 2000000 in
theorem among_any {w : World} {g n cap : Nat} {pick : Int} {ps : List Page} (hps : ps.length = n) (h0 : 0 < n) (hn : n ≤ 4294967296) (hl : ∀ x ∈ ps, x.length = 256) (hr : w.rangeAt g 0 (rowOf ps)) :
    Calls Try.prog 31 #[.int .i64 pick, .slice (some ⟨g, 0, none⟩) n cap] w fun e w' => e = .returned (pageV (ps.getD (pickOf pick n) noughts)) ∧ Below w.heap.size w w' := by
  have hn0 : ¬ ((n : Int) = 0) := by omega
  have hlt := pickOf_lt pick h0
  have hneg : pick.tmod n < 0 → pick.tmod n + n = (pickOf pick n : Int) := pick_neg h0
  have hpos : 0 ≤ pick.tmod n → pick.tmod n = (pickOf pick n : Int) := pick_pos h0
  generalize hpk : pickOf pick n = k at hlt hneg hpos ⊢
  clear hpk
  obtain ⟨x, hx⟩ : ∃ x, pick.tmod n = x := ⟨_, rfl⟩
  rw [hx] at hneg hpos
  have hkl : (ps.getD k noughts).length = 256 := by
    rw [List.getD, List.getElem?_eq_getElem (by omega)]; exact hl _ (List.getElem_mem (by omega))
  have hL := rowOf_range hl hr (i := k) (by omega)
  generalize ps.getD k noughts = l at hkl hL ⊢
  have tokA : True := trivial
  have tokI : True := trivial
  have tokL : True := trivial
  have tokS : True := trivial
  by_cases h : x < 0
  · have e1 : wrap64 (x + n) = (k : Int) := by rw [hneg h]; unfold wrap64; omega
    have hng := Lib.hid hneg
    clear hneg hpos
    go_enter Try.func31, Try.ntmps31
    go_wp2_with (first
      | (have _t := tokA; refine wpList_alloc77 rfl rfl ?_; clear tokA)
      | (have _t := tokI; refine wpList_index rfl rfl rfl rfl (by rw [e1]; exact index83 _ g n cap k hlt) ?_; clear tokI)
      | (have _t := tokL; refine wpList_load_mid rfl _ _ rfl g (k * 256) rfl (byteVals l) _ (World.rangeAt_alloc hL _) Try.underlying66 rfl (by rw [size77, byteVals_len, hkl]) ?_; clear tokL)
      | (have _t := tokS; refine wpList_store77 rfl _ _ rfl noughts l noughts_len hkl rfl rfl ?_; clear tokS))
    refine bodyPost_ret (results_cell_row rfl _ _ w.heap.size 66 (pageCells l) (0, 0) _ rfl (heap_alloc_last w _) Try.underlying66 rfl (by rw [size77, pageCells_size hkl])) rfl ?_
    exact ⟨rfl, (Below.refl _ w).alloc (Nat.le_refl _) _⟩
  · have e1 : x = (k : Int) := hpos (by omega)
    subst e1
    clear hneg hpos h
    go_enter Try.func31, Try.ntmps31
    go_wp2_with (first
      | (have _t := tokA; refine wpList_alloc77 rfl rfl ?_; clear tokA)
      | (have _t := tokI; refine wpList_index rfl rfl rfl rfl (index83 _ g n cap k hlt) ?_; clear tokI)
      | (have _t := tokL; refine wpList_load_mid rfl _ _ rfl g (k * 256) rfl (byteVals l) _ (World.rangeAt_alloc hL _) Try.underlying66 rfl (by rw [size77, byteVals_len, hkl]) ?_; clear tokL)
      | (have _t := tokS; refine wpList_store77 rfl _ _ rfl noughts l noughts_len hkl rfl rfl ?_; clear tokS))
    refine bodyPost_ret (results_cell_row rfl _ _ w.heap.size 66 (pageCells l) (0, 0) _ rfl (heap_alloc_last w _) Try.underlying66 rfl (by rw [size77, pageCells_size hkl])) rfl ?_
    exact ⟨rfl, (Below.refl _ w).alloc (Nat.le_refl _) _⟩
end Go.Proofs.Ytkophpipehdkmaa

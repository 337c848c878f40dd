/- Layer 15: Split. -/
import Derived.Test.YtmbjdfmbbmeofaaDoorLgF
import Derived.Test.YtmbjdfmbbmeofaaDoorRound
import Derived.Test.YtmbjdfmbbmeofaaDoorReg3
import Derived.Great.BuildSlice
namespace Go.Proofs.YtmbjdfmbbmeofaaDoor
open Go.RowKit Go.Shelf

attribute [local go_sem] Oper.semAt_some

/-- The parts of bytes, by their places. -/
def lgParts (l : List UInt8) (ps : List (Nat × Nat)) : List (List UInt8) := ps.map fun p => (l.drop p.1).take (p.2 - p.1)
/-- What the loop's variables hold. -/
structure LgI (N : Nat) (w : World) (l : List UInt8) (a : Option Addr) (c : Nat) (most : Nat) (s : LgS) (W : World) : Prop where
  below : Below N w W
  bb : Boxed W N 22 (.slice a l.length c)
  most : Boxed W (N + 1) 2 (.int .i64 most)
  parts : ∃ v, Boxed W (N + 2) 36 v ∧ LgL W (N + 6) v (lgParts l s.ps)
  err : Boxed W (N + 3) 24 (.int .i64 s.err)
  en : Boxed W (N + 4) 3 (.int .i64 s.en)
  sp : Boxed W (N + 5) 22 (.slice a l.length c)
theorem LgI.lt {N : Nat} {w : World} {l : List UInt8} {a : Option Addr} {c most : Nat} {s : LgS} {W : World} (h : LgI N w l a c most s W) : N + 6 ≤ W.heap.size := h.sp.lt
theorem LgI.kept {N : Nat} {w : World} {l : List UInt8} {a : Option Addr} {c most : Nat} {s : LgS} {W W' : World} {row : Option Nat} (h : LgI N w l a c most s W) (hg : W.grownBy W' row) (hr : ∀ r, row = some r → N + 6 ≤ r ∧ ∃ o : Obj, W.heap[r]? = some o ∧ o.isCells = false) : LgI N w l a c most s W' := by
  have hl := h.lt
  have hne : ∀ k, k < N + 6 → some k ≠ row := fun k hk e => by have := (hr k e.symm).1; omega
  obtain ⟨v, hv, hL⟩ := h.parts
  refine ⟨h.below.grown hg (by omega) (fun q e => by have := (hr q e).1; omega), h.bb.kept hg (hne _ (by omega)), h.most.kept hg (hne _ (by omega)), ⟨v, hv.kept hg (hne _ (by omega)), hL.far hg ?_⟩, h.err.kept hg (hne _ (by omega)), h.en.kept hg (hne _ (by omega)), h.sp.kept hg (hne _ (by omega))⟩
  cases row with
  | none => exact LgFar.none _
  | some r =>
    obtain ⟨-, o, ho, hc⟩ := hr r rfl
    exact LgFar.other ho hc
/-- What Split leaves. -/
def SplitPost (w : World) (l : List UInt8) (most : Nat) (e : Ending) (w' : World) : Prop :=
  Below w.heap.size w w' ∧ (((lgSplit l most).err = 0 ∧ ∃ v u, e = .returned (.tuple #[v, u, .int .i64 0]) ∧ LgL w' w.heap.size v (lgParts l (lgSplit l most).ps) ∧ OwnB w' w.heap.size u (l.drop (lgSplit l most).en)) ∨
    ((lgSplit l most).err ≠ 0 ∧ e = .returned (.tuple #[.slice none 0 0, .slice none 0 0, .int .i64 (lgSplit l most).err])))
theorem LgKp.grown {K : Nat → Prop} {A B : World} {row : Option Nat} (hg : A.grownBy B row) (hK : ∀ k, K k → k < A.heap.size ∧ some k ≠ row) (hr : ∀ r, row = some r → ∀ cs fr, A.heap[r]? ≠ some (.cells cs 51 fr)) : LgKp K A B :=
  ⟨fun k hk => hg.block k (hK k hk).1 (hK k hk).2, fun k _ _ h => hg.block k (Array.getElem?_eq_some_iff.1 h).1 (fun e => hr k e.symm _ _ h)⟩
abbrev LgK (N : Nat) : Nat → Prop := fun k => k = N + 5 ∨ k < N
theorem lgK_box {N : Nat} {W : World} {r : Nat} {T : TypeId} {v : Value} (hb : Boxed W r T v) (hs : N + 6 ≤ W.heap.size) (h1 : N ≤ r) (h2 : r ≠ N + 5) (hT : T ≠ 51) (u : Value) : LgKp (LgK N) W (W.setCell ⟨r, 0, none⟩ u) :=
  LgKp.grown (grownBy_setCell' W r u) (fun k hk => ⟨by rcases hk with rfl | hk <;> omega, fun e => by cases e; rcases hk with hk | hk <;> omega⟩) (fun r' e _ _ h => by
    cases e
    rw [show W.heap[r]? = _ from hb] at h; cases h; exact hT rfl)
theorem LgI.setErr {N : Nat} {w : World} {l : List UInt8} {a : Option Addr} {c most : Nat} {s : LgS} {W : World} (h : LgI N w l a c most s W) (z : Nat) : LgI N w l a c most ⟨z, s.ps, s.en⟩ (W.setCell ⟨N + 3, 0, none⟩ (.int .i64 z)) := by
  obtain ⟨v, hv, hL⟩ := h.parts
  have hg := grownBy_setCell' W (N + 3) (.int .i64 (z : Int))
  exact ⟨h.below.setCell (by show N ≤ N + 3; omega) _, h.bb.other (by omega) _, h.most.other (by omega) _, ⟨v, hv.other (by omega) _, hL.far hg (LgFar.box h.err (by decide) (by decide))⟩, h.err.set _, h.en.other (by omega) _, h.sp.other (by omega) _⟩
theorem lgParts_snoc (l : List UInt8) (ps : List (Nat × Nat)) (F T : Nat) : lgParts l (ps ++ [(F, T)]) = lgParts l ps ++ [(l.drop F).take (T - F)] := by simp [lgParts]
/-- The statement that keeps a part: what holds while its operations come up. -/
structure R7 (N : Nat) (w : World) (l : List UInt8) (a : Option Addr) (c most : Nat) (s : LgS) (v : Value) (P : Nat) (cs : Array Value) (F T : Nat) (W0 : World) (L : Array Bool) (W : World) : Prop where
  below : Below N w W
  oth : KeepsOthers W0 W
  kp : LgKp (LgK N) W0 W
  bb : Boxed W N 22 (.slice a l.length c)
  most : Boxed W (N + 1) 2 (.int .i64 most)
  err : Boxed W (N + 3) 24 (.int .i64 s.err)
  sp : Boxed W (N + 5) 22 (.slice a l.length c)
  span : W.heap[P]? = some (.cells cs 51 (0, 0))
  en : Boxed W (N + 4) 3 (.int .i64 ((if L.getD 13 false then T else s.en : Nat) : Int))
  part0 : L.getD 12 false = false → Boxed W (N + 2) 36 v
  part1 : L.getD 12 false = true → ∃ u, Boxed W (N + 2) 36 u ∧ LgL W (N + 6) u (lgParts l s.ps ++ [(l.drop F).take (T - F)])
  row : L.getD 9 false = false → LgL W (N + 6) v (lgParts l s.ps)
section
variable {N : Nat} {w : World} {l : List UInt8} {a : Option Addr} {c most : Nat} {s : LgS} {v : Value} {P : Nat} {cs : Array Value} {F T : Nat} {W0 : World} {L : Array Bool} {W W' : World}
theorem R7.lt (h : R7 N w l a c most s v P cs F T W0 L W) : N + 6 ≤ W.heap.size := h.sp.lt
theorem R7.still (h : R7 N w l a c most s v P cs F T W0 L W) {i : Nat} (h9 : 9 ≠ i) (h12 : 12 ≠ i) (h13 : 13 ≠ i) (hg : W.grownBy W' none) : R7 N w l a c most s v P cs F T W0 (L.setIfInBounds i true) W' := by
  have hl := h.lt
  have n0 : ∀ k, some k ≠ (none : Option Nat) := fun k e => by cases e
  refine ⟨h.below.grown hg (by omega) (fun q e => by cases e), h.oth.trans (KeepsOthers.of_grownBy hg (fun j o e => by cases e)), h.kp.trans (LgKp.grown hg (fun k hk => ⟨by rcases hk with rfl | hk <;> omega, n0 k⟩) (fun r e => by cases e)), h.bb.kept hg (n0 _), h.most.kept hg (n0 _), h.err.kept hg (n0 _), h.sp.kept hg (n0 _),
    (hg.block P (Array.getElem?_eq_some_iff.1 h.span).1 (n0 _)).trans h.span, ?_, ?_, ?_, ?_⟩
  · rw [listed_other h13]; exact h.en.kept hg (n0 _)
  · rw [listed_other h12]; exact fun e => (h.part0 e).kept hg (n0 _)
  · rw [listed_other h12]; exact fun e => by
      obtain ⟨u, h1, h2⟩ := h.part1 e
      exact ⟨u, h1.kept hg (n0 _), h2.far hg (LgFar.none _)⟩
  · rw [listed_other h9]; exact fun e => (h.row e).far hg (LgFar.none _)
theorem R7.app (h : R7 N w l a c most s v P cs F T W0 L W) (hL : 9 < L.size) (h9 : L.getD 9 false = false) (h12 : L.getD 12 false = false) (hg : W.grownBy W' v.ownBlock) : R7 N w l a c most s v P cs F T W0 (L.setIfInBounds 9 true) W' := by
  have hl := h.lt
  have hk := (h.row h9).kind
  have low : ∀ k, k < N + 6 → some k ≠ v.ownBlock := fun k hk2 e => by have := (hk k e.symm).1; omega
  have hs : some P ≠ v.ownBlock := fun e => by
    obtain ⟨-, c', f', h2⟩ := hk P e.symm
    rw [h.span] at h2; cases h2
  refine ⟨h.below.grown hg (by omega) (fun q e => by have := (hk q e).1; omega), h.oth.trans (KeepsOthers.of_grownBy hg (fun j o e ho => by obtain ⟨-, c', f', h2⟩ := hk j e; rw [h2] at ho; cases ho; rfl)), h.kp.trans (LgKp.grown hg (fun k hk2 => ⟨by rcases hk2 with rfl | hk2 <;> omega, low k (by rcases hk2 with rfl | hk2 <;> omega)⟩) (fun r e cs' fr' h2 => by obtain ⟨-, c', f', h3⟩ := hk r e; rw [h3] at h2; cases h2)),
    h.bb.kept hg (low _ (by omega)), h.most.kept hg (low _ (by omega)), h.err.kept hg (low _ (by omega)), h.sp.kept hg (low _ (by omega)), (hg.block P (Array.getElem?_eq_some_iff.1 h.span).1 hs).trans h.span, ?_, ?_, ?_, ?_⟩
  · rw [listed_other (by decide)]; exact h.en.kept hg (low _ (by omega))
  · intro _; exact (h.part0 h12).kept hg (low _ (by omega))
  · rw [listed_other (by decide), h12]; intro e; cases e
  · rw [listed_same hL]; intro e; cases e
theorem R7.put (h : R7 N w l a c most s v P cs F T W0 L W) (hL : 12 < L.size) (h9 : L.getD 9 false = true) (h12 : L.getD 12 false = false) (u : Value) (hu : LgL W (N + 6) u (lgParts l s.ps ++ [(l.drop F).take (T - F)])) : R7 N w l a c most s v P cs F T W0 (L.setIfInBounds 12 true) (W.setCell ⟨N + 2, 0, none⟩ u) := by
  have hl := h.lt
  have hb := h.part0 h12
  have hg := grownBy_setCell' W (N + 2) u
  have hs : P ≠ N + 2 := fun e => by have h1 := h.span; rw [e, show W.heap[N + 2]? = _ from hb] at h1; cases h1
  refine ⟨h.below.setCell (by show N ≤ N + 2; omega) _, h.oth.trans (KeepsOthers.setCell _ _ _), h.kp.trans (lgK_box hb hl (by omega) (by omega) (by decide) _), h.bb.other (by omega) _, h.most.other (by omega) _, h.err.other (by omega) _, h.sp.other (by omega) _, (hg.block P (Array.getElem?_eq_some_iff.1 h.span).1 (fun e => by cases e; exact hs rfl)).trans h.span, ?_, ?_, ?_, ?_⟩
  · rw [listed_other (by decide)]; exact h.en.other (by omega) _
  · rw [listed_same hL]; intro e; cases e
  · intro _; exact ⟨u, hb.set _, hu.far hg (LgFar.box hb (by decide) (by decide))⟩
  · rw [listed_other (by decide), h9]; intro e; cases e
theorem R7.end_ (h : R7 N w l a c most s v P cs F T W0 L W) (hL : 13 < L.size) (h12 : L.getD 12 false = true) (h9 : L.getD 9 false = true) : R7 N w l a c most s v P cs F T W0 (L.setIfInBounds 13 true) (W.setCell ⟨N + 4, 0, none⟩ (.int .i64 T)) := by
  have hl := h.lt
  have hb := h.en
  have hg := grownBy_setCell' W (N + 4) (.int .i64 (T : Int))
  have hs : P ≠ N + 4 := fun e => by have h1 := h.span; rw [e, show W.heap[N + 4]? = _ from hb] at h1; cases h1
  refine ⟨h.below.setCell (by show N ≤ N + 4; omega) _, h.oth.trans (KeepsOthers.setCell _ _ _), h.kp.trans (lgK_box hb hl (by omega) (by omega) (by decide) _), h.bb.other (by omega) _, h.most.other (by omega) _, h.err.other (by omega) _, h.sp.other (by omega) _, (hg.block P (Array.getElem?_eq_some_iff.1 h.span).1 (fun e => by cases e; exact hs rfl)).trans h.span, ?_, ?_, ?_, ?_⟩
  · rw [listed_same hL]; exact hb.set _
  · rw [listed_other (by decide), h12]; intro e; cases e
  · rw [listed_other (by decide)]; exact fun e => by
      obtain ⟨u, h1, h2⟩ := h.part1 e
      exact ⟨u, h1.other (by omega) _, h2.far hg (LgFar.box hb (by decide) (by decide))⟩
  · rw [listed_other (by decide), h9]; intro e; cases e
/-- What each operation lays. -/
def V7 (N : Nat) (l : List UInt8) (a : Option Addr) (c : Nat) (ps : List (List UInt8)) (v : Value) (P F T : Nat) : Nat → Value → World → Prop
  | 0, u, _ => u = v
  | 1, u, _ => u = .slice a l.length c
  | 2, u, _ => u = .pointer (some ⟨P, 1, none⟩)
  | 3, u, _ => u = .int .i64 F
  | 4, u, _ => u = .pointer (some ⟨P, 2, none⟩)
  | 5, u, _ => u = .int .i64 T
  | 6, u, _ => u = .slice (lgCutAt a c F) (T - F) (c - F)
  | 7, u, W => OwnB W (N + 6) u ((l.drop F).take (T - F))
  | 8, u, W => ∃ g y, u = .slice (some ⟨g, 0, none⟩) 1 1 ∧ v.ownBlock ≠ some g ∧ Boxed W g 22 y ∧ N + 6 ≤ g ∧ OwnB W (N + 6) y ((l.drop F).take (T - F))
  | 9, u, W => LgL W (N + 6) u (ps ++ [(l.drop F).take (T - F)])
  | 10, u, _ => u = .pointer (some ⟨P, 2, none⟩)
  | 11, u, _ => u = .int .i64 T
  | _, _, _ => True
theorem V7.still {ps : List (List UInt8)} (hg : W.grownBy W' none) : ∀ j u, V7 N l a c ps v P F T j u W → V7 N l a c ps v P F T j u W' := by
  intro j u h
  unfold V7 at h ⊢
  split at h <;> first | exact h | trivial | skip
  · exact ownB_far h hg (fun r e => by cases e)
  · obtain ⟨g, y, h1, h2, h3, h4, h5⟩ := h
    exact ⟨g, y, h1, h2, h3.kept hg (fun e => by cases e), h4, ownB_far h5 hg (fun r e => by cases e)⟩
  · exact h.far hg (LgFar.none _)
theorem V7.box {ps : List (List UInt8)} {r : Nat} {Ty : TypeId} {y0 : Value} (hb : Boxed W r Ty y0) (h1 : Ty ≠ 5) (h2 : Ty ≠ 22) (u0 : Value) : ∀ j u, V7 N l a c ps v P F T j u W → V7 N l a c ps v P F T j u (W.setCell ⟨r, 0, none⟩ u0) := by
  intro j u h
  have hg := grownBy_setCell' W r u0
  have hf := LgFar.box hb h1 h2
  unfold V7 at h ⊢
  split at h <;> first | exact h | trivial | skip
  · exact ownB_far h hg (fun r' e cs fr => (hf r' e cs fr).1)
  · obtain ⟨g, y, k1, k2, k3, k4, k5⟩ := h
    exact ⟨g, y, k1, k2, k3.other (fun e => by unfold Boxed at k3 hb; rw [e, hb] at k3; cases k3; exact h2 rfl) _, k4, ownB_far k5 hg (fun r' e cs fr => (hf r' e cs fr).1)⟩
  · exact h.far hg hf
theorem V7.app {ps : List (List UInt8)} (hv : LgL W (N + 6) v ps) (hg : W.grownBy W' v.ownBlock) : ∀ j u, j ≠ 9 → V7 N l a c ps v P F T j u W → V7 N l a c ps v P F T j u W' := by
  intro j u hj h
  have far : ∀ r, v.ownBlock = some r → ∀ cs fr, W.heap[r]? ≠ some (.cells cs 5 fr) := fun r e cs fr e2 => by
    obtain ⟨-, c2, fz, hd⟩ := hv.kind r e
    rw [hd] at e2; cases e2
  unfold V7 at h ⊢
  split at h <;> first | exact h | trivial | (exact absurd rfl hj) | skip
  · exact ownB_far h hg far
  · obtain ⟨g, y, k1, k2, k3, k4, k5⟩ := h
    exact ⟨g, y, k1, k2, k3.kept hg (Ne.symm k2), k4, ownB_far k5 hg far⟩
end
theorem lg_five (w : World) (t0 t1 t2 t3 t4 t5 : TypeId) (v0 v1 v2 v3 v4 v5 : Value) {N : Nat} (hN : w.heap.size = N) {wa wb : World} (hwa : ((((w.alloc (.cells #[v0] t0)).alloc (.cells #[v1] t1)).alloc (.cells #[v2] t2)).alloc (.cells #[v3] t3)).alloc (.cells #[v4] t4) = wa) (hwb : wa.alloc (.cells #[v5] t5) = wb) :
    Boxed wb N t0 v0 ∧ Boxed wb (N + 1) t1 v1 ∧ Boxed wb (N + 2) t2 v2 ∧ Boxed wb (N + 3) t3 v3 ∧ Boxed wb (N + 4) t4 v4 ∧ Boxed wb (N + 5) t5 v5 ∧ wa.heap.size = N + 5 ∧ wb.heap.size = N + 6 ∧ Below N w wa ∧ Below N w wb ∧ Boxed wa N t0 v0 := by
  have b0 := Boxed.new w t0 v0
  have b1 := Boxed.new (w.alloc (.cells #[v0] t0)) t1 v1
  have b2 := Boxed.new ((w.alloc (.cells #[v0] t0)).alloc (.cells #[v1] t1)) t2 v2
  have b3 := Boxed.new (((w.alloc (.cells #[v0] t0)).alloc (.cells #[v1] t1)).alloc (.cells #[v2] t2)) t3 v3
  have b4 := Boxed.new ((((w.alloc (.cells #[v0] t0)).alloc (.cells #[v1] t1)).alloc (.cells #[v2] t2)).alloc (.cells #[v3] t3)) t4 v4
  rw [hwa] at b4
  have b5 := Boxed.new wa t5 v5
  have hs : wa.heap.size = N + 5 := by rw [← hwa]; simp [hN]
  rw [hwb, hs] at b5
  simp only [World.size_alloc, hN] at b0 b1 b2 b3 b4
  have hba : Below N w wa := by
    rw [← hwa]
    exact (((((Below.refl N w).alloc (by omega) _).alloc (by simp; omega) _).alloc (by simp; omega) _).alloc (by simp; omega) _).alloc (by simp; omega) _
  have e3 := b3.alloc (.cells #[v4] t4)
  have e2 := (b2.alloc (.cells #[v3] t3)).alloc (.cells #[v4] t4)
  have e1 := ((b1.alloc (.cells #[v2] t2)).alloc (.cells #[v3] t3)).alloc (.cells #[v4] t4)
  have e0 := (((b0.alloc (.cells #[v1] t1)).alloc (.cells #[v2] t2)).alloc (.cells #[v3] t3)).alloc (.cells #[v4] t4)
  rw [hwa] at e0 e1 e2 e3
  refine ⟨?_, ?_, ?_, ?_, ?_, b5, hs, by rw [← hwb]; simp [hs], hba, by rw [← hwb]; exact hba.alloc (by omega) _, e0⟩
  · rw [← hwb]; exact e0.alloc _
  · rw [← hwb]; exact e1.alloc _
  · rw [← hwb]; exact e2.alloc _
  · rw [← hwb]; exact e3.alloc _
  · rw [← hwb]; exact b4.alloc _
theorem lg_load {T : TypeId} {w : World} {a : Addr} {v : Value} (hT : (isAgg T).run Tryd.prog w = .ok false w) (h : w.cell? a = some v) : (Instr.loadAt T (.pointer (some a))).run Tryd.prog w = .ok v w := by
  simp [Instr.loadAt, Instr.sureAddr, loadVar, hT, go_sem, Result.andThen, h]
theorem lg_store_row {w : World} {g n : Nat} {ao : Option Addr} {k : Nat} {u : Value} (h : Boxed w g 36 u) : (Instr.storeAt 36 (.pointer (some ⟨g, 0, none⟩)) (.slice ao n k)).run Tryd.prog w = .ok () (w.setCell ⟨g, 0, none⟩ (.slice ao n k)) := by
  have c := h.cell
  have f := h.frozen
  simp [go_sem, Result.andThen, c, f]
theorem lg_store_int {w : World} {g : Nat} {z : Int} {u : Value} (h : Boxed w g 3 u) : (Instr.storeAt 3 (.pointer (some ⟨g, 0, none⟩)) (.int .i64 z)).run Tryd.prog w = .ok () (w.setCell ⟨g, 0, none⟩ (.int .i64 z)) := by
  have c := h.cell
  have f := h.frozen
  simp [go_sem, Result.andThen, c, f]
theorem lg_store_err {w : World} {g : Nat} {z : Int} {u : Value} (h : Boxed w g 24 u) : (Instr.storeAt 24 (.pointer (some ⟨g, 0, none⟩)) (.int .i64 z)).run Tryd.prog w = .ok () (w.setCell ⟨g, 0, none⟩ (.int .i64 z)) := by
  have c := h.cell
  have f := h.frozen
  simp [go_sem, Result.andThen, c, f]
theorem lg_build (w : World) (ao : Option Addr) (n k : Nat) : (Instr.buildSlice 36 1 #[(0, .slice ao n k)]).run Tryd.prog w = .ok (.slice (some ⟨w.heap.size, 0, none⟩) 1 1) (w.alloc (.cells #[.slice ao n k] 22)) := by
  obtain ⟨i0, hi, hz0, hz1, hz2⟩ := info_parts lg_infoL
  exact run_buildSlice w 36 22 1 _ _ i0 _ Tryd.underlying36 hi hz0 (by rw [hz1]; decide) (by rw [hz1]; decide) (by rw [hz1]; kernel_rfl)
theorem LgL.form {w : World} {base : Nat} {v : Value} {ls : List (List UInt8)} (h : LgL w base v ls) : ∃ a n c, v = .slice a n c := by
  obtain ⟨xs, h1, -⟩ := h
  rcases h1.2 with ⟨rfl, _⟩ | ⟨g, cap, _, rfl, _⟩
  · exact ⟨_, _, _, rfl⟩
  · exact ⟨_, _, _, rfl⟩
section
variable {P : Program} {ops : Array Oper} {Q : Exit → Act → World → Prop}
theorem region_round_lg {l n id : Nat} (I : Array Bool → World → Prop) (Sp : Nat → Value → World → Prop) {a0 : Act} {w : World} (hm : P.follows .mixedOrders = true) (hL : ¬LetsOut Q) (hd : noDeferB ops = true)
    (hlex : lexAnyB ops = true) (hdst : dstB ops = true) (hin : inB ops a0.tmps.size = true) (hI : I (Array.replicate ops.size false) w.drew)
    (step : ∀ (i : Nat) (o : Oper), ops[i]? = some o → ∀ listed a w', RegL ops I Sp a0 listed a w' → listed.getD i false = false → (∀ e ∈ o.after, Region.binds .any e = true → listed.getD e.on false = true) →
      wpOp P ops Q i (fun a' w'' => ∃ v, a' = a.put o.dst v ∧ I (listed.setIfInBounds i true) w'' ∧ (o.dst.isSome = true → Sp i v w'') ∧ ∀ j u, listed.getD j false = true → Sp j u w' → Sp j u w'') a w')
    (fin : ∀ listed a w', RegL ops I Sp a0 listed a w' → (∀ i, i < ops.size → listed.getD i false = true) → Q .normal a w') :
    (Code.region id ops true).wpIn (rnd l) n P Q a0 w := by
  have hno : ∀ i, (Array.replicate ops.size false).getD i false = false := fun i => by
    simp only [Array.getD_eq_getD_getElem?, Array.getElem?_replicate]
    split <;> rfl
  refine wpIn_region_any hm (wpAny_round hL hd _ _ _ _ (wpAny_l I Sp a0 (lexAny_of hlex) (fun i j oi oj d hi hj hne hd => dst_of hdst i j oi oj d hi hj hne hd) (fun i o d hi hd => in_of hin i o d hi hd) step fin _ _ _ _ ?_ (by simp)))
  refine ⟨hI, by simp, rfl, rfl, fun _ _ => rfl, ?_, ?_⟩
  · intro i o d _ hl _
    rw [hno i] at hl; cases hl
  · intro i o _ hl
    rw [hno i] at hl; cases hl
end
theorem results_split {T : Array Value} {W : World} {b1 b2 : Nat} {u v e : Value} (h4 : T.getD 4 undef = .pointer (some ⟨b1, 0, none⟩)) (h5 : T.getD 5 undef = u) (h6 : T.getD 6 undef = .pointer (some ⟨b2, 0, none⟩)) (hv : W.cell? ⟨b1, 0, none⟩ = some v) (he : W.cell? ⟨b2, 0, none⟩ = some e) :
    (results Tryd.f14 T).run Tryd.prog W = .ok (.tuple #[v, u, e]) W := by
  have h1 : (loadVar 36 ⟨b1, 0, none⟩).run Tryd.prog W = .ok v W := by
    simp [loadVar, Tryd.isAgg36 W, go_sem, Result.andThen, hv]
  have h2 : (loadVar 24 ⟨b2, 0, none⟩).run Tryd.prog W = .ok e W := by
    simp [loadVar, Tryd.isAgg24 W, go_sem, Result.andThen, he]
  simp only [Array.getD_eq_getD_getElem?] at h4 h5 h6
  simp [results, Tryd.results14, h4, h5, h6, asAddr, h1, h2, Result.andThen]
theorem split_leaves {n : Nat} {w W : World} {l : List UInt8} {most N D : Nat} {T : Array Value} {u v e : Value} (hN : w.heap.size = N) (h4 : T.getD 4 undef = .pointer (some ⟨N + 2, 0, none⟩)) (h5 : T.getD 5 undef = u) (h6 : T.getD 6 undef = .pointer (some ⟨N + 3, 0, none⟩))
    (hv : Boxed W (N + 2) 36 v) (he : Boxed W (N + 3) 24 e) (hD : N + 6 ≤ D) (hK : W.heap[D]? = some (.deferred (some []))) (hP : SplitPost w l most (.returned (.tuple #[v, u, e])) W) :
    LeavesInM Fence.wide n Tryd.prog Tryd.f14 T (fun e w' => SplitPost w l most e w') [{ target := .collected D, args := #[] }] .returning W := by
  have hg := grownBy_putObj' W D (.deferred none)
  have hne : ∀ k, k < N + 6 → some k ≠ some D := fun k hk e => by cases e; omega
  refine ⟨by simp, .inl ⟨_, _, rfl, run_takeDeferred hK, ?_⟩⟩
  refine ⟨_, results_split h4 h5 h6 (hv.kept hg (hne _ (by omega))).cell (he.kept hg (hne _ (by omega))).cell, ?_⟩
  obtain ⟨hb, h⟩ := hP
  refine ⟨?_, ?_⟩
  · rw [hN] at hb ⊢
    have hDl := (Array.getElem?_eq_some_iff.1 hK).1
    exact hb.grown hg (by omega) (fun q e => by cases e; omega)
  · rcases h with ⟨h0, v', u', e', hL, hO⟩ | ⟨h0, e'⟩
    · exact .inl ⟨h0, v', u', e', hL.far hg (LgFar.other hK rfl), ownB_far hO hg (fun r e cs fr => (LgFar.other hK rfl r e cs fr).1)⟩
    · exact .inr ⟨h0, e'⟩
theorem LgL.le {w : World} {b b' : Nat} {v : Value} {ls : List (List UInt8)} (h : LgL w b v ls) (hn : b' ≤ b) : LgL w b' v ls := by
  obtain ⟨xs, ⟨h0, h1⟩, h2⟩ := h
  refine ⟨xs, ⟨h0, ?_⟩, fun j hj => ownB_base (h2 j hj) hn⟩
  rcases h1 with e | ⟨g, cp, cur, rfl, hb, r⟩
  · exact .inl e
  · exact .inr ⟨g, cp, cur, rfl, Nat.le_trans hn hb, r⟩
/-- The statement that tells what is left: what holds all the while. -/
structure R16 (N : Nat) (w : World) (ls : List (List UInt8)) (W0 : World) (v : Value) (W : World) : Prop where
  size : W0.heap.size ≤ W.heap.size
  low : ∀ k, k < W0.heap.size → k ≠ N + 2 → k ≠ N + 3 → W.heap[k]? = W0.heap[k]?
  parts : Boxed W (N + 2) 36 v
  err : Boxed W (N + 3) 24 (.int .i64 0)
  below : Below N w W
  row : LgL W (N + 6) v ls
def V16 (l : List UInt8) (a : Option Addr) (c : Nat) (v : Value) (H E : Nat) : Nat → Value → World → Prop
  | 0, u, _ => u = v
  | 1, u, _ => u = .slice a l.length c
  | 2, u, _ => u = .int .i64 E
  | 3, u, _ => u = .slice (lgCutAt a c E) (l.length - E) (c - E)
  | 4, u, W => OwnB W H u (l.drop E)
  | 6, u, W => OwnB W H u (l.drop E)
  | _, _, _ => True
theorem V16.keep {l : List UInt8} {a : Option Addr} {c : Nat} {v : Value} {H E : Nat} {W W' : World} {row : Option Nat} (hg : W.grownBy W' row) (hr : LgFar W row) : ∀ j u, V16 l a c v H E j u W → V16 l a c v H E j u W' := by
  intro j u h
  unfold V16 at h ⊢
  split at h <;> first | exact h | trivial | exact ownB_far h hg (fun r e cs fr => (hr r e cs fr).1)
theorem wpIn_scope_lg {n : Nat} {P : Program} {c : Code} {Q : Exit → Act → World → Prop} {a : Act} {w : World} (h : c.wpIn Fence.wide n P (Exit.noGoto Q) a w) : (Code.scope c).wpIn Fence.wide n P Q a w := wpIn_wide.2 (wp_scope_straight (wpIn_wide.1 h))
set_option maxRecDepth 100000 in
set_option maxHeartbeats 4000000 in
theorem split_wide (n : Nat) (hn : 4 ≤ n) (a : Option Addr) (l : List UInt8) (c : Nat) (hl : l.length ≤ 1000000) (hc : l.length ≤ c) (hnone : a = none → c = 0) (most : Nat) (hmost : most ≤ 268435455) (w : World) (hm : BytesAt w.heap.size w a l) (ht : LgTab w) :
    CallsIn Fence.wide n Tryd.prog 14 #[.slice a l.length c, .int .i64 most] w fun e w' => SplitPost w l most e w' := by
  have h1 : 1 ≤ n := by omega
  have h2 := ht.lt
  refine callsIn_of_wp_marks Tryd.func14 rfl trivial ?_ rfl
  simp only [Tryd.ntmps14, List.size_toArray, List.length_cons, List.length_nil, Nat.reduceAdd, Nat.reduceSub, Array.replicate_succ, Array.replicate_zero, List.push_toArray, List.append_toArray, List.nil_append, List.cons_append]
  obtain ⟨N, hN⟩ : ∃ N, w.heap.size = N := ⟨_, rfl⟩
  have HN := Lib.hid hN
  obtain ⟨wa, hwa⟩ : ∃ wa, ((((w.alloc (.cells #[.slice a l.length c] 22)).alloc (.cells #[.int .i64 most] 2)).alloc (.cells #[.slice none 0 0] 36)).alloc (.cells #[.int .i64 0] 24)).alloc (.cells #[.int .i64 0] 3) = wa := ⟨_, rfl⟩
  have HZ := Lib.hid (And.intro hm (And.intro ht (And.intro hwa hnone)))
  clear hm ht hwa hnone
  have hsz := lgSz_nat (n := most) (by omega)
  have hsz2 := lgSize_pos most
  have hsz3 : lgSz (most : Int) ≠ 0 := by omega
  have hsz4 : (lgSz (most : Int) == 0) = false := by simpa using hsz3
  have HSZ : Hid (∀ W, Below N w W → Calls Tryd.prog 10 #[.int .i64 most] W fun e w' => e = .returned (.int .i64 (lgSz (most : Int))) ∧ W = w') := Lib.hid (fun W hb => size_any _ W (HZ.out.2.1.below hb (by omega)))
  generalize lgSz (most : Int) = sz at *
  obtain ⟨wb, hwb⟩ : ∃ wb, wa.alloc (.cells #[.slice a l.length c] 22) = wb := ⟨_, rfl⟩
  have H5 := Lib.hid (lg_five w _ _ _ _ _ _ _ _ _ _ _ _ hN HZ.out.2.2.1 hwb)
  have HWB := Lib.hid hwb
  clear hsz hsz2 hsz3 hwb
  gi_wp2
  refine wpIn_scope_lg ?_
  gi_wp2_with (refine ⟨trivial, ?_⟩; gi_at_call 10; rw [HZ.out.2.2.1]; refine (callsIn_wide.2 (HSZ.out wa H5.out.2.2.2.2.2.2.2.2.1)).mono ?_; rintro e w' ⟨rfl, rfl⟩)
  refine wpIn_label ?_
  have c0 : wa.cell? ⟨N, 0, none⟩ = some (.slice a l.length c) := H5.out.2.2.2.2.2.2.2.2.2.2.cell
  gi_wp2_with (refine ⟨trivial, ?_⟩; gi_at_call 17; refine (spans_in Fence.wide _ trivial rfl a l.length c wa).mono ?_; rintro en w' ⟨rfl, rfl⟩; rw [HWB.out, H5.out.2.2.2.2.2.2.1])
  obtain ⟨q0, q1, q2, q3, q4, q5, qs, qt, qa, qb, -⟩ := H5.out
  refine wpIn_rangeFunc_ownH rfl h1 (gf := 20) (lb := #[.pointer (some ⟨N + 5, 0, none⟩)]) rfl trivial (enters_of Tryd.func20 (by kernel_rfl) rfl)
    (spans_stops (n - 1) (by omega) (N + 5) N a l c hl hc (fun k => k = N + 5 ∨ k < N) (.inl rfl) (fun _ h => .inr (by omega)) (fun _ h => .inr h) wb (fun k hk => by rcases hk with rfl | hk <;> omega) q5.cell (fun hne => by
      obtain ⟨b, off, e, hb, hcl⟩ := HZ.out.1 hne
      exact ⟨b, off, e, by rw [← hN]; exact hb, fun j hj => (qb.cell (p := ⟨b, off + j, none⟩) (by show b < N; rw [← hN]; exact hb)).trans (hcl j hj)⟩) (HZ.out.2.1.below qb (by omega)))
    LgKp.trans (fun W l' o o' hl' ho h3 h4 => ⟨fun k hk => by
      rw [World.putObj]
      exact Array.getElem?_setIfInBounds_ne (by rcases hk with rfl | hk <;> omega), fun k _ _ hk => by
      rw [World.putObj]
      refine Array.getElem?_setIfInBounds_ne ?_
      rintro rfl
      rw [hk] at ho; cases ho; cases h3⟩) (Below.refl _ _) (fun _ => rfl)
    (fun pre W => ∃ s, lgFold l.length most pre ⟨0, [], 0⟩ = some s ∧ LgI N w l a c most s W)
    (fun c' pre W => c' = .exit 0 ∧ ∃ pre' x s, pre = pre' ++ [x] ∧ lgFold l.length most pre' ⟨0, [], 0⟩ = some s ∧ lgOne l.length most x s = none ∧ LgI N w l a c most (lgLast x s) W)
    (fun s A B row hs hg' hr => by
      obtain ⟨s', h1, h2⟩ := hs
      exact ⟨s', h1, h2.kept hg' (fun r e => by obtain ⟨h3, h4⟩ := hr r e; exact ⟨by omega, h4⟩)⟩)
    (fun c' s A B row hs hg' hr => by
      obtain ⟨e0, pre', x, s', e1, e2, e3, h2⟩ := hs
      exact ⟨e0, pre', x, s', e1, e2, e3, h2.kept hg' (fun r e => by obtain ⟨h3, h4⟩ := hr r e; exact ⟨by omega, h4⟩)⟩)
    ⟨_, rfl, ⟨qb, q0, q1, ⟨_, q2, LgL.nil _ _⟩, q3, q4, q5⟩⟩
    (fun x a' W => ∃ P, N + 6 ≤ P ∧ W.heap[P]? = some (.cells #[.int .i64 x.head, .int .i64 ((x.head : Int) + x.size), .int .i64 ((x.head : Int) + x.size + x.many)] 51 (0, 0)) ∧ a' = { tmps := #[.slice a l.length c, .int .i64 most, .pointer (some ⟨N, 0, none⟩), .pointer (some ⟨N + 1, 0, none⟩), .pointer (some ⟨N + 1 + 1, 0, none⟩), .slice none 0 0, .pointer (some ⟨N + 1 + 1 + 1, 0, none⟩), .pointer (some ⟨N + 1 + 1 + 1 + 1, 0, none⟩), .pointer (some ⟨P, 0, none⟩), .int .i64 x.err, .int .i64 most, .int .i64 sz, .bool false, .slice a l.length c, .func (.func 20) #[] #[.pointer (some ⟨N + 5, 0, none⟩)], .agg #[.int .i64 x.head, .int .i64 ((x.head : Int) + x.size), .int .i64 ((x.head : Int) + x.size + x.many)], .int .i64 x.err, undef, undef, undef, undef, undef, undef, undef, undef, undef, undef, undef, undef, undef, undef, undef, undef, undef, undef, undef, undef, undef, undef, undef, undef, undef, undef, undef, undef, undef, undef, undef, undef, undef, undef, undef, undef, undef, undef, undef, undef, undef, undef, undef], defers := [] })
    (fun x a' _ A B row hs hg' hr => by
      obtain ⟨P, hP, hrow, e⟩ := hs
      exact ⟨P, hP, (hg'.block P (Array.getElem?_eq_some_iff.1 hrow).1 (fun e' => by obtain ⟨o, ho, hc⟩ := (hr P e'.symm).2; rw [hrow] at ho; cases ho; cases hc)).trans hrow, e⟩) ?assign ?body ?done ?stop
  case assign =>
    intro l' pre x W K hI hK
    simp only [encX]
    gi_wp2
    have hl : N + 6 ≤ W.heap.size := by obtain ⟨s, -, h2⟩ := hI; exact h2.lt
    refine hK _ _ ((KeepsOthers.alloc _ _).from _) (LgKp.grown (World.grownBy_alloc _ _ none) (fun k hk => ⟨by rcases hk with rfl | hk <;> omega, fun e => by cases e⟩) (fun r e => by cases e)) ?_ ⟨W.heap.size, hl, World.alloc_heap_new _ _, rfl⟩
    obtain ⟨s, h1, h2⟩ := hI
    exact ⟨s, h1, h2.kept (World.grownBy_alloc _ _ none) (fun r e => by cases e)⟩
  case body =>
    rintro l' pre x a' W hl' - ⟨s, hs, hI⟩ ⟨P, hP, hrow, rfl⟩ hpl
    have hx1 := x.h1
    have hx2 := x.h2
    have hx3 := x.h3
    have hx4 := x.h4
    have hone : ∀ s', lgOne l.length most x s = s' → lgFold l.length most (pre ++ [x]) ⟨0, [], 0⟩ = s' := fun s' e => by rw [lgFold_snoc, hs]; exact e
    have c0 := hI.bb.cell
    have c1 := hI.most.cell
    have c3 := hI.err.cell
    have f3 := hI.err.frozen
    have p0 := cell_of_row W P 0 _ _ _ hrow
    have p1 := cell_of_row W P 1 _ _ _ hrow
    have p2 := cell_of_row W P 2 _ _ _ hrow
    simp only [List.getElem?_toArray, List.getElem?_cons_succ, List.getElem?_cons_zero] at p0 p1 p2
    have HX := Lib.hid (And.intro hs (And.intro hI (And.intro hrow hone)))
    by_cases k1 : x.err ≠ 0
    · have hne : ((x.err : Int) != 0) = true := by simpa using k1
      have hno : lgOne l.length most x s = none := by unfold lgOne; rw [if_pos k1]
      have hla : lgLast x s = ⟨x.err, s.ps, s.en⟩ := by unfold lgLast; rw [if_pos k1]
      have HY := Lib.hid (And.intro hno hla)
      clear hs hI hrow hone hno hla k1
      gi_wp2
      obtain ⟨hs, hI, -, -⟩ := HX.out
      exact ⟨(KeepsOthers.setCell _ _ _).from _, rfl, pre, x, s, rfl, hs, HY.out.1, by rw [HY.out.2]; exact hI.setErr x.err⟩
    have hne : ((x.err : Int) != 0) = false := by simpa using k1
    by_cases k2 : most < x.many
    · have hsome : lgOne l.length most x s = some ⟨3, s.ps, s.en⟩ := by unfold lgOne; rw [if_neg k1, if_pos k2]
      have hgt : (most : Int) < (x.many : Int) := by omega
      have HY := Lib.hid hsome
      clear hs hI hrow hone hsome k1 k2
      gi_wp2
      obtain ⟨hs, hI, -, hone⟩ := HX.out
      exact ⟨(KeepsOthers.setCell _ _ _).from _, lgK_box hI.err hI.lt (by omega) (by omega) (by decide) _, _, hone _ HY.out, hI.setErr 3⟩
    have hgt : ¬ (most : Int) < (x.many : Int) := by omega
    by_cases k3 : x.size = 0
    · have hno : lgOne l.length most x s = none := by unfold lgOne; rw [if_neg k1, if_neg k2, if_pos (.inl k3)]
      have hla : lgLast x s = s := by unfold lgLast; rw [if_neg k1]
      have heq : ((x.head : Int) + (x.size : Int) == (x.head : Int)) = true := by simp; omega
      have HY := Lib.hid (And.intro hno hla)
      clear hs hI hrow hone hno hla k1 k2 k3
      gi_wp2
      obtain ⟨hs, hI, -, -⟩ := HX.out
      exact ⟨KeepsFrom.refl _ _, rfl, pre, x, rfl, s, hs, HY.out.1, by rw [HY.out.2]; exact hI⟩
    have heq : ((x.head : Int) + (x.size : Int) == (x.head : Int)) = false := by simp; omega
    by_cases k4 : l.length < x.head + x.size + x.many
    · have hno : lgOne l.length most x s = none := by unfold lgOne; rw [if_neg k1, if_neg k2, if_pos (.inr k4)]
      have hla : lgLast x s = s := by unfold lgLast; rw [if_neg k1]
      have hlt : (l.length : Int) < (x.head : Int) + (x.size : Int) + (x.many : Int) := by omega
      have HY := Lib.hid (And.intro hno hla)
      clear hs hI hrow hone hno hla k1 k2 k3 k4
      gi_wp2
      obtain ⟨hs, hI, -, -⟩ := HX.out
      exact ⟨KeepsFrom.refl _ _, rfl, pre, x, rfl, s, hs, HY.out.1, by rw [HY.out.2]; exact hI⟩
    have hlt : ¬ (l.length : Int) < (x.head : Int) + (x.size : Int) + (x.many : Int) := by omega
    have hsome : lgOne l.length most x s = some ⟨s.err, s.ps ++ [(x.head + x.size, x.head + x.size + x.many)], x.head + x.size + x.many⟩ := by unfold lgOne; rw [if_neg k1, if_neg k2, if_neg (by omega)]
    have HY := Lib.hid hsome
    obtain ⟨F, hF⟩ : ∃ F, x.head + x.size = F := ⟨_, rfl⟩
    obtain ⟨T, hT⟩ : ∃ T, F + x.many = T := ⟨_, rfl⟩
    have eF : (x.head : Int) + (x.size : Int) = (F : Int) := by omega
    have eT : (F : Int) + (x.many : Int) = (T : Int) := by omega
    have hTl : T ≤ l.length := by omega
    have hFT : F ≤ T := by omega
    clear hs hI hrow hone hsome k1 k2 k3 k4
    gi_wp2
    obtain ⟨hs, hI, hrow, hone⟩ := HX.out
    rw [eF, eT] at hrow
    obtain ⟨v, hv, hL⟩ := hI.parts
    have hmx := HZ.out.1
    rw [hN] at hmx
    have hPl := (Array.getElem?_eq_some_iff.1 hrow).1
    generalize hcs : (#[.int .i64 (x.head : Int), .int .i64 (F : Int), .int .i64 (T : Int)] : Array Value) = cs at hrow
    have q1 : cs[1]? = some (.int .i64 (F : Int)) := by rw [← hcs]; rfl
    have q2 : cs[2]? = some (.int .i64 (T : Int)) := by rw [← hcs]; rfl
    clear p0 p1 p2 hcs
    refine region_round_lg (l := l') (R7 N w l a c most s v P cs F T W) (V7 N l a c (lgParts l s.ps) v P F T) (by kernel_rfl) (fun ⟨_, _, h⟩ => h) (by kernel_rfl) (by kernel_rfl) (by kernel_rfl) (by kernel_rfl)
      ⟨hI.below.drew, KeepsOthers.drew W, ⟨fun _ _ => rfl, fun _ _ _ _ => rfl⟩, hI.bb, hI.most, hI.err, hI.sp, hrow, hI.en, fun _ => hv, fun e => by simp at e, fun _ => hL⟩ ?step ?fin
    case step =>
      intro i o ho listed a0 w' hJ hn' hpre
      have hi : i < 14 := (Array.getElem?_eq_some_iff.1 ho).1
      have hR := hJ.inv
      have hsz : listed.size = 14 := hJ.size
      have hg0 : w'.grownBy w' none := ⟨rfl, rfl, rfl, Nat.le_refl _, fun _ _ _ => rfl⟩
      have r1 := cell_of_row w' P 1 _ _ _ hR.span
      have r2 := cell_of_row w' P 2 _ _ _ hR.span
      rw [q1] at r1
      rw [q2] at r2
      match i, hi with
      | 0, _ =>
        cases ho
        exact wpOp_load rfl rfl rfl (hJ.kept (t := 4) (by kernel_rfl)) (lg_load (Tryd.isAgg36 w') (hR.part0 (hJ.notyet hn' 12 (by kernel_rfl))).cell) ⟨_, rfl, hR.still (by decide) (by decide) (by decide) hg0, fun _ => rfl, fun _ _ _ h => h⟩
      | 1, _ =>
        cases ho
        exact wpOp_load rfl rfl rfl (hJ.kept (t := 2) (by kernel_rfl)) (lg_load (Tryd.isAgg22 w') hR.bb.cell) ⟨_, rfl, hR.still (by decide) (by decide) (by decide) hg0, fun _ => rfl, fun _ _ _ h => h⟩
      | 2, _ =>
        cases ho
        exact wpOp_field rfl rfl rfl (hJ.kept (t := 8) (by kernel_rfl)) (by simp [go_sem]) ⟨_, rfl, hR.still (by decide) (by decide) (by decide) hg0, fun _ => rfl, fun _ _ _ h => h⟩
      | 3, _ =>
        cases ho
        exact wpOp_load rfl rfl rfl (hJ.slot 2 19 rfl (hpre ⟨2, .data⟩ (by simp) rfl) rfl) (lg_load (Tryd.isAgg3 w') r1) ⟨_, rfl, hR.still (by decide) (by decide) (by decide) hg0, fun _ => rfl, fun _ _ _ h => h⟩
      | 4, _ =>
        cases ho
        exact wpOp_field rfl rfl rfl (hJ.kept (t := 8) (by kernel_rfl)) (by simp [go_sem]) ⟨_, rfl, hR.still (by decide) (by decide) (by decide) hg0, fun _ => rfl, fun _ _ _ h => h⟩
      | 5, _ =>
        cases ho
        exact wpOp_load rfl rfl rfl (hJ.slot 4 21 rfl (hpre ⟨4, .data⟩ (by simp) rfl) rfl) (lg_load (Tryd.isAgg3 w') r2) ⟨_, rfl, hR.still (by decide) (by decide) (by decide) hg0, fun _ => rfl, fun _ _ _ h => h⟩
      | 6, _ =>
        cases ho
        exact wpOp_slice (vlo := some (.int .i64 F)) (vhi := some (.int .i64 T)) (vmx := none) rfl rfl rfl (hJ.slot 1 18 rfl (hpre ⟨1, .data⟩ (by simp) rfl) rfl) (congrArg some (hJ.slot 3 20 rfl (hpre ⟨3, .data⟩ (by simp) rfl) rfl)) (congrArg some (hJ.slot 5 22 rfl (hpre ⟨5, .data⟩ (by simp) rfl) rfl)) rfl
          (lg_slice_lh w' a l.length c F T hFT (by omega)) ⟨_, rfl, hR.still (by decide) (by decide) (by decide) hg0, fun _ => rfl, fun _ _ _ h => h⟩
      | 7, _ =>
        cases ho
        have e6 : a0.eval (.tmp 23) = .slice (lgCutAt a c F) (T - F) (c - F) := hJ.slot 6 23 rfl (hpre ⟨6, .data⟩ (by simp) rfl) rfl
        have hlen : ((l.drop F).take (T - F)).length = T - F := by rw [List.length_take, List.length_drop]; omega
        have hC := lg_clone w' (lgCutAt a c F) ((l.drop F).take (T - F)) (c - F) N ((lg_mid hmx hc).below hR.below) (lgCutAt_none HZ.out.2.2.2) (by omega) (by omega)
        rw [hlen] at hC
        refine wpOp_callFn rfl rfl rfl (vs := #[.slice (lgCutAt a c F) (T - F) (c - F)]) (by simp only [List.map_toArray, List.map_cons, List.map_nil, e6]) (fun _ _ => by kernel_rfl) (hC.mono ?_)
        rintro e' w2 ⟨v2, rfl, hO, hb2⟩
        exact ⟨_, rfl, _, rfl, hR.still (by decide) (by decide) (by decide) (below_grown hb2), fun _ => ownB_base hO (by have := hR.lt; omega), fun j u _ h => V7.still (below_grown hb2) j u h⟩
      | 8, _ =>
        cases ho
        have e7 : OwnB w' (N + 6) (a0.eval (.tmp 24)) ((l.drop F).take (T - F)) := hJ.slot 7 24 rfl (hpre ⟨7, .data⟩ (by simp) rfl) rfl
        obtain ⟨ao, cp, ey, -⟩ := e7.form
        have hg := World.grownBy_alloc w' (.cells #[.slice ao ((l.drop F).take (T - F)).length cp] 22) none
        refine wpOp_buildSlice rfl rfl rfl (vs := #[(0, .slice ao ((l.drop F).take (T - F)).length cp)]) (by simp only [List.map_toArray, List.map_cons, List.map_nil, ey]) (lg_build w' _ _ _) ⟨_, rfl, hR.still (by decide) (by decide) (by decide) hg, fun _ => ?_, fun j u _ h => V7.still hg j u h⟩
        refine ⟨w'.heap.size, _, rfl, fun e => ?_, Boxed.new _ _ _, by have := hR.lt; omega, by have h := ownB_far e7 hg (fun r e => by cases e); rw [ey] at h; exact h⟩
        have h9 := hJ.notyet hn' 9 (by kernel_rfl)
        obtain ⟨-, c2, f2, h2⟩ := (hR.row h9).kind _ e
        have := (Array.getElem?_eq_some_iff.1 h2).1
        omega
      | 9, _ =>
        cases ho
        have e0 : a0.eval (.tmp 17) = v := hJ.slot 0 17 rfl (hpre ⟨0, .data⟩ (by simp) rfl) rfl
        obtain ⟨g, y, e8, k2, k3, k4, k5⟩ : V7 N l a c (lgParts l s.ps) v P F T 8 (a0.eval (.tmp 25)) w' := hJ.slot 8 25 rfl (hpre ⟨8, .data⟩ (by simp) rfl) rfl
        have hrw := hR.row hn'
        have hlen : (lgParts l s.ps).length ≤ 1000000 := by
          have h3 : s.ps.length ≤ 0 + pre.length := lgFold_len hs
          unfold lgParts
          rw [List.length_map]
          omega
        obtain ⟨v', w2, hrun, hO, hgr⟩ := lg_append w' (N + 6) 36 v (lgParts l s.ps) hrw g 1 y _ k3.cell k5 hlen hR.lt
        exact wpOp_append rfl rfl rfl e0 e8 hrun ⟨_, rfl, hR.app (by omega) hn' (hJ.notyet hn' 12 (by kernel_rfl)) hgr, fun _ => hO, fun j u hj h => V7.app hrw hgr j u (fun e => by rw [e, hn'] at hj; cases hj) h⟩
      | 10, _ =>
        cases ho
        exact wpOp_field rfl rfl rfl (hJ.kept (t := 8) (by kernel_rfl)) (by simp [go_sem]) ⟨_, rfl, hR.still (by decide) (by decide) (by decide) hg0, fun _ => rfl, fun _ _ _ h => h⟩
      | 11, _ =>
        cases ho
        exact wpOp_load rfl rfl rfl (hJ.slot 10 27 rfl (hpre ⟨10, .data⟩ (by simp) rfl) rfl) (lg_load (Tryd.isAgg3 w') r2) ⟨_, rfl, hR.still (by decide) (by decide) (by decide) hg0, fun _ => rfl, fun _ _ _ h => h⟩
      | 12, _ =>
        cases ho
        have e9 : LgL w' (N + 6) (a0.eval (.tmp 26)) (lgParts l s.ps ++ [(l.drop F).take (T - F)]) := hJ.slot 9 26 rfl (hpre ⟨9, .data⟩ (by simp) rfl) rfl
        have h9 := hpre ⟨9, .data⟩ (by simp) rfl
        have hbx := hR.part0 hn'
        obtain ⟨ao, m, k, eu⟩ := e9.form
        exact wpOp_store rfl rfl rfl (hJ.kept (t := 4) (by kernel_rfl)) eu (lg_store_row hbx) ⟨_, rfl, hR.put (by omega) h9 hn' _ (by rw [← eu]; exact e9), (fun e => by cases e), fun j u _ h => V7.box hbx (by decide) (by decide) _ j u h⟩
      | 13, _ =>
        cases ho
        have h12 := hpre ⟨12, .chain⟩ (by simp) rfl
        have h9 := hpre ⟨9, .phase⟩ (by simp) rfl
        exact wpOp_store rfl rfl rfl (hJ.kept (t := 7) (by kernel_rfl)) (hJ.slot 11 28 rfl (hpre ⟨11, .data⟩ (by simp) rfl) rfl) (lg_store_int hR.en) ⟨_, rfl, hR.end_ (by omega) h12 h9, (fun e => by cases e), fun j u _ h => V7.box hR.en (by decide) (by decide) _ j u h⟩
    case fin =>
      intro listed a0 w' hJ hall
      have hR := hJ.inv
      have hen := hR.en
      rw [if_pos (hall 13 (by decide))] at hen
      obtain ⟨u, hu, hLu⟩ := hR.part1 (hall 12 (by decide))
      rw [← lgParts_snoc] at hLu
      rw [hF, hT] at HY
      exact ⟨hR.oth.from _, hR.kp, _, hone _ HY.out, ⟨hR.below, hR.bb, hR.most, ⟨u, hu, hLu⟩, hR.err, hen, hR.sp⟩⟩
  case done =>
    rintro D ys W hD rfl ⟨s, hs, hI⟩ hK
    have hsp : lgSplit l most = s := lgCut_all l hl most _ 0 _ _ hs
    have hen : s.en ≤ l.length := lgFold_en hs (Nat.zero_le _)
    clear hs
    have cE := hI.err.cell
    have fE := hI.err.frozen
    obtain ⟨v, hv, hL⟩ := hI.parts
    obtain ⟨va, vn, vc, rfl⟩ := hL.form
    have cV := hv.cell
    have fV := hv.frozen
    have HS := Lib.hid (And.intro hsp (And.intro hI (And.intro hK (And.intro hv hL))))
    by_cases k0 : s.err = 0
    · have hz : ((s.err : Int) != 0) = false := by simpa using k0
      have hC : ∀ W', R16 N w (lgParts l s.ps) W (.slice va vn vc) W' → Calls Tryd.prog 18 #[.slice (lgCutAt a c s.en) (l.length - s.en) (c - s.en)] W' fun e w' => ∃ v', e = .returned v' ∧ OwnB w' W'.heap.size v' (l.drop s.en) ∧ Below W'.heap.size W' w' := fun W' hW' => by
        have hm := HZ.out.1
        rw [hN] at hm
        have hl6 := hI.lt
        have hm' : BytesAt N W' a l := fun hne => by
          obtain ⟨b, off, e, hb, hcl⟩ := hm.below hI.below hne
          exact ⟨b, off, e, hb, fun j hj => (World.cell?_of_block (hW'.low b (by omega) (by omega) (by omega))).trans (hcl j hj)⟩
        have h := lg_clone W' (lgCutAt a c s.en) (l.drop s.en) (c - s.en) N (lg_rest hm' hc) (lgCutAt_none HZ.out.2.2.2) (by rw [List.length_drop]; omega) (by rw [List.length_drop]; omega)
        rwa [List.length_drop] at h
      have hsl : ∀ W', (Instr.sliceAt 22 (.slice a l.length c) (some (.int .i64 (s.en : Int))) none none).run Tryd.prog W' = .ok (.slice (lgCutAt a c s.en) (l.length - s.en) (c - s.en)) W' := fun W' => lg_slice_l W' a l.length c s.en hen
      have hlt := hI.lt
      have he0 := hI.err
      rw [k0] at he0
      have hb0 := hI.bb
      have hB0 := hI.below
      have hn0 := hI.en
      have K0 := Lib.hid k0
      clear hsp hI hK k0
      gi_wp2
      refine wpIn_wide.2 ?_
      refine wp_region_m (fun _ W' => R16 N w (lgParts l s.ps) W (.slice va vn vc) W') (V16 l a c (.slice va vn vc) W.heap.size s.en) (by kernel_rfl) (by kernel_rfl) (by kernel_rfl) (by kernel_rfl) ⟨Nat.le_refl _, fun _ _ _ _ => rfl, hv, he0, hB0.drew, hL⟩ ?step ?fin
      case step =>
        intro i o ho listed a0 w' hJ hn' hpre
        have hi : i < 8 := (Array.getElem?_eq_some_iff.1 ho).1
        have hR := hJ.inv
        have hz0 := hR.size
        match i, hi with
        | 0, _ =>
          cases ho
          exact wpOp_load rfl rfl rfl (hJ.kept (t := 4) (by kernel_rfl)) (lg_load (Tryd.isAgg36 w') hR.parts.cell) ⟨_, rfl, hR, fun _ => rfl, fun _ _ _ h => h⟩
        | 1, _ =>
          cases ho
          exact wpOp_load rfl rfl rfl (hJ.kept (t := 2) (by kernel_rfl)) (lg_load (Tryd.isAgg22 w') (show Boxed w' N _ _ from (hR.low N (by omega) (by omega) (by omega)).trans hb0).cell) ⟨_, rfl, hR, fun _ => rfl, fun _ _ _ h => h⟩
        | 2, _ =>
          cases ho
          exact wpOp_load rfl rfl rfl (hJ.kept (t := 7) (by kernel_rfl)) (lg_load (Tryd.isAgg3 w') (show Boxed w' (N + 4) _ _ from (hR.low (N + 4) (by omega) (by omega) (by omega)).trans hn0).cell) ⟨_, rfl, hR, fun _ => rfl, fun _ _ _ h => h⟩
        | 3, _ =>
          cases ho
          exact wpOp_slice (vlo := some (.int .i64 s.en)) (vhi := none) (vmx := none) rfl rfl rfl (hJ.slot 1 56 rfl (hpre ⟨1, .data⟩ (by simp) rfl) rfl) (congrArg some (hJ.slot 2 57 rfl (hpre ⟨2, .data⟩ (by simp) rfl) rfl)) rfl rfl (hsl w') ⟨_, rfl, hR, fun _ => rfl, fun _ _ _ h => h⟩
        | 4, _ =>
          cases ho
          have e3 : a0.eval (.tmp 58) = .slice (lgCutAt a c s.en) (l.length - s.en) (c - s.en) := hJ.slot 3 58 rfl (hpre ⟨3, .data⟩ (by simp) rfl) rfl
          refine wpOp_callFn rfl rfl rfl (vs := #[.slice (lgCutAt a c s.en) (l.length - s.en) (c - s.en)]) (by simp only [List.map_toArray, List.map_cons, List.map_nil, e3]) (fun _ _ => by kernel_rfl) ((hC w' hR).mono ?_)
          rintro e' w2 ⟨v2, rfl, hO, hb2⟩
          have hg := below_grown hb2
          exact ⟨_, rfl, _, rfl, ⟨Nat.le_trans hR.size hb2.size, fun k h1 h2 h3 => (hb2.block k (by omega)).trans (hR.low k h1 h2 h3), hR.parts.kept hg (fun e => by cases e), hR.err.kept hg (fun e => by cases e), hR.below.trans (hb2.mono (by omega)), hR.row.far hg (LgFar.none _)⟩, fun _ => ownB_base hO hR.size, fun j u _ h => V16.keep hg (LgFar.none _) j u h⟩
        | 5, _ =>
          cases ho
          have e0 : a0.eval (.tmp 55) = .slice va vn vc := hJ.slot 0 55 rfl (hpre ⟨0, .data⟩ (by simp) rfl) rfl
          have hg := grownBy_setCell' w' (N + 2) (.slice va vn vc)
          exact wpOp_store rfl rfl rfl (hJ.kept (t := 4) (by kernel_rfl)) e0 (lg_store_row hR.parts) ⟨_, rfl, ⟨Nat.le_trans hR.size hg.size, fun k h1 h2 h3 => (hg.block k (by omega) (fun e => by cases e; exact h2 rfl)).trans (hR.low k h1 h2 h3), hR.parts.set _, hR.err.other (by omega) _, hR.below.setCell (by show N ≤ N + 2; omega) _, hR.row.far hg (LgFar.box hR.parts (by decide) (by decide))⟩, (fun e => by cases e), fun j u _ h => V16.keep hg (LgFar.box hR.parts (by decide) (by decide)) j u h⟩
        | 6, _ =>
          cases ho
          exact wpOp_move rfl rfl (.inr rfl) rfl ⟨_, rfl, hR, fun _ => hJ.slot 4 59 rfl (hpre ⟨4, .data⟩ (by simp) rfl) rfl, fun _ _ _ h => h⟩
        | 7, _ =>
          cases ho
          have hg := grownBy_setCell' w' (N + 3) (.int .i64 0)
          exact wpOp_store rfl rfl rfl (hJ.kept (t := 6) (by kernel_rfl)) rfl (lg_store_err hR.err) ⟨_, rfl, ⟨Nat.le_trans hR.size hg.size, fun k h1 h2 h3 => (hg.block k (by omega) (fun e => by cases e; exact h3 rfl)).trans (hR.low k h1 h2 h3), hR.parts.other (by omega) _, hR.err.set _, hR.below.setCell (by show N ≤ N + 3; omega) _, hR.row.far hg (LgFar.box hR.err (by decide) (by decide))⟩, (fun e => by cases e), fun j u _ h => V16.keep hg (LgFar.box hR.err (by decide) (by decide)) j u h⟩
      case fin =>
        intro listed a0 w' hJ hall
        have hR := hJ.inv
        have hO : OwnB w' W.heap.size (a0.tmps.getD 5 undef) (l.drop s.en) := hJ.slot 6 5 rfl (hall 6 (by decide)) rfl
        have t4 : a0.tmps.getD 4 undef = _ := hJ.kept (t := 4) (by kernel_rfl)
        have t6 : a0.tmps.getD 6 undef = _ := hJ.kept (t := 6) (by kernel_rfl)
        have hdf := hJ.defers
        obtain ⟨T, df⟩ := a0
        simp only at hdf t4 t6 hO
        subst hdf
        have HE := Lib.hid (And.intro hR (And.intro hO (And.intro t4 t6)))
        clear hR hO t4 t6 hJ hall
        gi_wp2
        obtain ⟨hR, hO, t4, t6⟩ := HE.out
        obtain ⟨hsp, hI, hK, hv, hL⟩ := HS.out
        rw [Exit.noGoto_ret]
        have hl6 := hI.lt
        have hDl := (Array.getElem?_eq_some_iff.1 hK).1
        refine split_leaves hN t4 rfl t6 hR.parts hR.err (by omega) ((hR.low D hDl (by omega) (by omega)).trans hK) ⟨by rw [hN]; exact hR.below, .inl ?_⟩
        rw [hsp, hN]
        exact ⟨K0.out, _, _, rfl, hR.row.le (by omega), ownB_base hO (by omega)⟩
    · have hz : ((s.err : Int) != 0) = true := by simpa using k0
      have K0 := Lib.hid k0
      clear hsp hI hK k0 hv hL
      gi_wp2
      refine wpIn_wide.2 ?_
      go_region
      gi_wp2
      obtain ⟨hsp, hI, hK, hv, hL⟩ := HS.out
      rw [Exit.noGoto_ret]
      have hl6 := hI.lt
      have g1 := grownBy_setCell' W (N + 2) (.slice none 0 0)
      have g2 := grownBy_setCell' (W.setCell ⟨N + 2, 0, none⟩ (.slice none 0 0)) (N + 3) (.int .i64 (s.err : Int))
      have hDl := (Array.getElem?_eq_some_iff.1 hK).1
      refine split_leaves (v := .slice none 0 0) (e := .int .i64 (s.err : Int)) (u := .slice none 0 0) hN rfl rfl rfl ((hv.set _).other (by omega) _) ((hI.err.other (by omega) _).set _) (by omega)
        ((g2.block D (by simpa using hDl) (fun e => by cases e; omega)).trans ((g1.block D hDl (fun e => by cases e; omega)).trans hK)) ⟨by rw [hN]; exact ((hI.below.setCell (by show N ≤ N + 2; omega) _).setCell (by show N ≤ N + 3; omega) _).drew, .inr ?_⟩
      rw [hsp]
      exact ⟨K0.out, rfl⟩
  case stop =>
    rintro D c' pre W hD hpr ⟨rfl, pre', x, s0, rfl, hs, hno, hI⟩ hK
    obtain ⟨rest, hrest⟩ := hpr
    have hsp : lgSplit l most = lgLast x s0 := lgCut_stop l hl most _ 0 _ s0 pre' rest x (by rw [← hrest, List.append_assoc]; rfl) hs hno
    have hen : (lgLast x s0).en ≤ l.length := by
      have := lgFold_en hs (Nat.zero_le _)
      unfold lgLast; split <;> exact this
    clear hs hno hrest
    generalize lgLast x s0 = s at *
    have cE := hI.err.cell
    have fE := hI.err.frozen
    obtain ⟨v, hv, hL⟩ := hI.parts
    obtain ⟨va, vn, vc, rfl⟩ := hL.form
    have cV := hv.cell
    have fV := hv.frozen
    have HS := Lib.hid (And.intro hsp (And.intro hI (And.intro hK (And.intro hv hL))))
    by_cases k0 : s.err = 0
    · have hz : ((s.err : Int) != 0) = false := by simpa using k0
      have hC : ∀ W', R16 N w (lgParts l s.ps) W (.slice va vn vc) W' → Calls Tryd.prog 18 #[.slice (lgCutAt a c s.en) (l.length - s.en) (c - s.en)] W' fun e w' => ∃ v', e = .returned v' ∧ OwnB w' W'.heap.size v' (l.drop s.en) ∧ Below W'.heap.size W' w' := fun W' hW' => by
        have hm := HZ.out.1
        rw [hN] at hm
        have hl6 := hI.lt
        have hm' : BytesAt N W' a l := fun hne => by
          obtain ⟨b, off, e, hb, hcl⟩ := hm.below hI.below hne
          exact ⟨b, off, e, hb, fun j hj => (World.cell?_of_block (hW'.low b (by omega) (by omega) (by omega))).trans (hcl j hj)⟩
        have h := lg_clone W' (lgCutAt a c s.en) (l.drop s.en) (c - s.en) N (lg_rest hm' hc) (lgCutAt_none HZ.out.2.2.2) (by rw [List.length_drop]; omega) (by rw [List.length_drop]; omega)
        rwa [List.length_drop] at h
      have hsl : ∀ W', (Instr.sliceAt 22 (.slice a l.length c) (some (.int .i64 (s.en : Int))) none none).run Tryd.prog W' = .ok (.slice (lgCutAt a c s.en) (l.length - s.en) (c - s.en)) W' := fun W' => lg_slice_l W' a l.length c s.en hen
      have hlt := hI.lt
      have he0 := hI.err
      rw [k0] at he0
      have hb0 := hI.bb
      have hB0 := hI.below
      have hn0 := hI.en
      have K0 := Lib.hid k0
      clear hsp hI hK k0
      gi_wp2
      refine wpIn_wide.2 ?_
      refine wp_region_m (fun _ W' => R16 N w (lgParts l s.ps) W (.slice va vn vc) W') (V16 l a c (.slice va vn vc) W.heap.size s.en) (by kernel_rfl) (by kernel_rfl) (by kernel_rfl) (by kernel_rfl) ⟨Nat.le_refl _, fun _ _ _ _ => rfl, hv, he0, hB0.drew, hL⟩ ?step ?fin
      case step =>
        intro i o ho listed a0 w' hJ hn' hpre
        have hi : i < 8 := (Array.getElem?_eq_some_iff.1 ho).1
        have hR := hJ.inv
        have hz0 := hR.size
        match i, hi with
        | 0, _ =>
          cases ho
          exact wpOp_load rfl rfl rfl (hJ.kept (t := 4) (by kernel_rfl)) (lg_load (Tryd.isAgg36 w') hR.parts.cell) ⟨_, rfl, hR, fun _ => rfl, fun _ _ _ h => h⟩
        | 1, _ =>
          cases ho
          exact wpOp_load rfl rfl rfl (hJ.kept (t := 2) (by kernel_rfl)) (lg_load (Tryd.isAgg22 w') (show Boxed w' N _ _ from (hR.low N (by omega) (by omega) (by omega)).trans hb0).cell) ⟨_, rfl, hR, fun _ => rfl, fun _ _ _ h => h⟩
        | 2, _ =>
          cases ho
          exact wpOp_load rfl rfl rfl (hJ.kept (t := 7) (by kernel_rfl)) (lg_load (Tryd.isAgg3 w') (show Boxed w' (N + 4) _ _ from (hR.low (N + 4) (by omega) (by omega) (by omega)).trans hn0).cell) ⟨_, rfl, hR, fun _ => rfl, fun _ _ _ h => h⟩
        | 3, _ =>
          cases ho
          exact wpOp_slice (vlo := some (.int .i64 s.en)) (vhi := none) (vmx := none) rfl rfl rfl (hJ.slot 1 56 rfl (hpre ⟨1, .data⟩ (by simp) rfl) rfl) (congrArg some (hJ.slot 2 57 rfl (hpre ⟨2, .data⟩ (by simp) rfl) rfl)) rfl rfl (hsl w') ⟨_, rfl, hR, fun _ => rfl, fun _ _ _ h => h⟩
        | 4, _ =>
          cases ho
          have e3 : a0.eval (.tmp 58) = .slice (lgCutAt a c s.en) (l.length - s.en) (c - s.en) := hJ.slot 3 58 rfl (hpre ⟨3, .data⟩ (by simp) rfl) rfl
          refine wpOp_callFn rfl rfl rfl (vs := #[.slice (lgCutAt a c s.en) (l.length - s.en) (c - s.en)]) (by simp only [List.map_toArray, List.map_cons, List.map_nil, e3]) (fun _ _ => by kernel_rfl) ((hC w' hR).mono ?_)
          rintro e' w2 ⟨v2, rfl, hO, hb2⟩
          have hg := below_grown hb2
          exact ⟨_, rfl, _, rfl, ⟨Nat.le_trans hR.size hb2.size, fun k h1 h2 h3 => (hb2.block k (by omega)).trans (hR.low k h1 h2 h3), hR.parts.kept hg (fun e => by cases e), hR.err.kept hg (fun e => by cases e), hR.below.trans (hb2.mono (by omega)), hR.row.far hg (LgFar.none _)⟩, fun _ => ownB_base hO hR.size, fun j u _ h => V16.keep hg (LgFar.none _) j u h⟩
        | 5, _ =>
          cases ho
          have e0 : a0.eval (.tmp 55) = .slice va vn vc := hJ.slot 0 55 rfl (hpre ⟨0, .data⟩ (by simp) rfl) rfl
          have hg := grownBy_setCell' w' (N + 2) (.slice va vn vc)
          exact wpOp_store rfl rfl rfl (hJ.kept (t := 4) (by kernel_rfl)) e0 (lg_store_row hR.parts) ⟨_, rfl, ⟨Nat.le_trans hR.size hg.size, fun k h1 h2 h3 => (hg.block k (by omega) (fun e => by cases e; exact h2 rfl)).trans (hR.low k h1 h2 h3), hR.parts.set _, hR.err.other (by omega) _, hR.below.setCell (by show N ≤ N + 2; omega) _, hR.row.far hg (LgFar.box hR.parts (by decide) (by decide))⟩, (fun e => by cases e), fun j u _ h => V16.keep hg (LgFar.box hR.parts (by decide) (by decide)) j u h⟩
        | 6, _ =>
          cases ho
          exact wpOp_move rfl rfl (.inr rfl) rfl ⟨_, rfl, hR, fun _ => hJ.slot 4 59 rfl (hpre ⟨4, .data⟩ (by simp) rfl) rfl, fun _ _ _ h => h⟩
        | 7, _ =>
          cases ho
          have hg := grownBy_setCell' w' (N + 3) (.int .i64 0)
          exact wpOp_store rfl rfl rfl (hJ.kept (t := 6) (by kernel_rfl)) rfl (lg_store_err hR.err) ⟨_, rfl, ⟨Nat.le_trans hR.size hg.size, fun k h1 h2 h3 => (hg.block k (by omega) (fun e => by cases e; exact h3 rfl)).trans (hR.low k h1 h2 h3), hR.parts.other (by omega) _, hR.err.set _, hR.below.setCell (by show N ≤ N + 3; omega) _, hR.row.far hg (LgFar.box hR.err (by decide) (by decide))⟩, (fun e => by cases e), fun j u _ h => V16.keep hg (LgFar.box hR.err (by decide) (by decide)) j u h⟩
      case fin =>
        intro listed a0 w' hJ hall
        have hR := hJ.inv
        have hO : OwnB w' W.heap.size (a0.tmps.getD 5 undef) (l.drop s.en) := hJ.slot 6 5 rfl (hall 6 (by decide)) rfl
        have t4 : a0.tmps.getD 4 undef = _ := hJ.kept (t := 4) (by kernel_rfl)
        have t6 : a0.tmps.getD 6 undef = _ := hJ.kept (t := 6) (by kernel_rfl)
        have hdf := hJ.defers
        obtain ⟨T, df⟩ := a0
        simp only at hdf t4 t6 hO
        subst hdf
        have HE := Lib.hid (And.intro hR (And.intro hO (And.intro t4 t6)))
        clear hR hO t4 t6 hJ hall
        gi_wp2
        obtain ⟨hR, hO, t4, t6⟩ := HE.out
        obtain ⟨hsp, hI, hK, hv, hL⟩ := HS.out
        rw [Exit.noGoto_ret]
        have hl6 := hI.lt
        have hDl := (Array.getElem?_eq_some_iff.1 hK).1
        refine split_leaves hN t4 rfl t6 hR.parts hR.err (by omega) ((hR.low D hDl (by omega) (by omega)).trans hK) ⟨by rw [hN]; exact hR.below, .inl ?_⟩
        rw [hsp, hN]
        exact ⟨K0.out, _, _, rfl, hR.row.le (by omega), ownB_base hO (by omega)⟩
    · have hz : ((s.err : Int) != 0) = true := by simpa using k0
      have K0 := Lib.hid k0
      clear hsp hI hK k0 hv hL
      gi_wp2
      refine wpIn_wide.2 ?_
      go_region
      gi_wp2
      obtain ⟨hsp, hI, hK, hv, hL⟩ := HS.out
      rw [Exit.noGoto_ret]
      have hl6 := hI.lt
      have g1 := grownBy_setCell' W (N + 2) (.slice none 0 0)
      have g2 := grownBy_setCell' (W.setCell ⟨N + 2, 0, none⟩ (.slice none 0 0)) (N + 3) (.int .i64 (s.err : Int))
      have hDl := (Array.getElem?_eq_some_iff.1 hK).1
      refine split_leaves (v := .slice none 0 0) (e := .int .i64 (s.err : Int)) (u := .slice none 0 0) hN rfl rfl rfl ((hv.set _).other (by omega) _) ((hI.err.other (by omega) _).set _) (by omega)
        ((g2.block D (by simpa using hDl) (fun e => by cases e; omega)).trans ((g1.block D hDl (fun e => by cases e; omega)).trans hK)) ⟨by rw [hN]; exact ((hI.below.setCell (by show N ≤ N + 2; omega) _).setCell (by show N ≤ N + 3; omega) _).drew, .inr ?_⟩
      rw [hsp]
      exact ⟨K0.out, rfl⟩
theorem lgSplit_any (a : Option Addr) (l : List UInt8) (c : Nat) (hl : l.length ≤ 1000000) (hc : l.length ≤ c) (hnone : a = none → c = 0) (most : Nat) (hmost : most ≤ 268435455) (w : World) (hm : BytesAt w.heap.size w a l) (ht : LgTab w) :
    Calls Tryd.prog 14 #[.slice a l.length c, .int .i64 most] w fun e w' => SplitPost w l most e w' := callsIn_wide.1 (split_wide 4 (by decide) a l c hl hc hnone most hmost w hm ht)
end Go.Proofs.YtmbjdfmbbmeofaaDoor

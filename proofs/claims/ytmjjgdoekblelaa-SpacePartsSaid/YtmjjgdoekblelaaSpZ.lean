/- Layer 7: a call, and what the document says of it. -/
import Derived.Test.YtmjjgdoekblelaaSpY
namespace Go.Proofs.Ytmjjgdoekblelaa
open Go.RowKit

theorem NatsAt.keeps {n₀ n : Nat} {w w' : World} {a : Option Addr} {l : List Nat} (h : NatsAt n w a l) (k : SpKeeps n₀ w w') : NatsAt n w' a l := fun hl => by
  obtain ⟨b, off, rfl, hlt, ⟨cs, fr, hb⟩, hc⟩ := h hl
  have hb' := k.cells b cs _ fr hb (by decide)
  exact ⟨b, off, rfl, hlt, ⟨cs, fr, hb'⟩, fun j hj => (World.cell?_of_block (a := ⟨b, off + j, none⟩) (hb'.trans hb.symm)).trans (hc j hj)⟩
theorem IsG.keeps {n₀ : Nat} {w w' : World} {a1 a2 : Option Addr} {c1 c2 : Nat} {g : GSp} (h : IsG w a1 c1 a2 c2 g) (k : SpKeeps n₀ w w') : IsG w' a1 c1 a2 c2 g :=
  ⟨(h.now_.keeps k).mono k.below.size, (h.last_.keeps k).mono k.below.size, h.no1, h.no2, h.le1, h.le2, h.few1, h.few2⟩
theorem IsSp.other {n₀ : Nat} {w w' : World} {B : Nat} {s : Spc} (h : IsSp n₀ w B s) {k : Nat} {cs : Array Value} {t : TypeId} {fr : Nat × Nat} (hk : w.heap[k]? = some (.cells cs t fr)) (ht : t ≠ 59) (hb : ∀ j, j ≠ k → w'.heap[j]? = w.heap[j]?) : IsSp n₀ w' B s := by
  obtain ⟨bl, bp, h, h1⟩ := h
  obtain ⟨x1, x2, x3⟩ := h.not_cells hk ht
  exact ⟨bl, bp, ⟨h.ok, (hb B x1.symm).trans h.row, h.last.at_block (hb bl x2.symm), h.now.at_block (hb bp x3.symm), h.ne⟩, h1⟩
theorem set3_far (w : World) (k : Nat) (v0 v1 v2 : Value) : ∀ j, j ≠ k → (((w.setCell ⟨k, 0, none⟩ v0).setCell ⟨k, 1, none⟩ v1).setCell ⟨k, 2, none⟩ v2).heap[j]? = w.heap[j]? := fun j hj =>
  (Below.heap_setCell _ ⟨k, 2, none⟩ v2 j hj).trans ((Below.heap_setCell _ ⟨k, 1, none⟩ v1 j hj).trans (Below.heap_setCell w ⟨k, 0, none⟩ v0 j hj))
theorem IsSp.set3 {n₀ : Nat} {w : World} {B : Nat} {s : Spc} (h : IsSp n₀ w B s) {k : Nat} {cs : Array Value} {t : TypeId} {fr : Nat × Nat} (hk : w.heap[k]? = some (.cells cs t fr)) (ht : t ≠ 59) (v0 v1 v2 : Value) : IsSp n₀ (((w.setCell ⟨k, 0, none⟩ v0).setCell ⟨k, 1, none⟩ v1).setCell ⟨k, 2, none⟩ v2) B s :=
  h.other hk ht (set3_far w k v0 v1 v2)
theorem SpKeeps.set3 {n₀ : Nat} {w w' : World} (h : SpKeeps n₀ w w') {k : Nat} (hk : w.heap.size ≤ k) (hn : n₀ ≤ w.heap.size) (v0 v1 v2 : Value) : SpKeeps n₀ w (((w'.setCell ⟨k, 0, none⟩ v0).setCell ⟨k, 1, none⟩ v1).setCell ⟨k, 2, none⟩ v2) :=
  ⟨set3_below h.below (Nat.le_trans hn hk) v0 v1 v2, fun j cs t fr hj ht => (set3_far w' k v0 v1 v2 j (by have := (Array.getElem?_eq_some_iff.1 hj).1; omega)).trans (h.cells j cs t fr hj ht)⟩
/-- does's own variables: the document's space, the call, the result. -/
structure DoesAt (w : World) (S : Nat) (x : Array Value) (k p : Int) : Prop where
  g : w.heap[S]? = some (.cells x 40 (0, 0))
  act : w.heap[S + 1]? = some (.cells #[.int .i64 k, .int .i64 p] 35 (0, 0))
  res : w.heap[S + 2]? = some (.cells #[.int .i64 0, .slice none 0 0, .slice none 0 0] 40 (0, 0))
theorem DoesAt.keeps {n₀ : Nat} {w w' : World} {S : Nat} {x : Array Value} {k p : Int} (h : DoesAt w S x k p) (q : SpKeeps n₀ w w') : DoesAt w' S x k p :=
  ⟨q.cells _ _ _ _ h.g (by decide), q.cells _ _ _ _ h.act (by decide), q.cells _ _ _ _ h.res (by decide)⟩
theorem DoesAt.start (w : World) (x : Array Value) (k p : Int) : DoesAt (((w.alloc (.cells x 40)).alloc (.cells #[.int .i64 k, .int .i64 p] 35)).alloc (.cells #[.int .i64 0, .slice none 0 0, .slice none 0 0] 40)) w.heap.size x k p := by
  have h1 := (MapKept.heap_alloc w (.cells x 40)).1
  have h2 := (MapKept.heap_alloc (w.alloc (.cells x 40)) (.cells #[.int .i64 k, .int .i64 p] 35)).1
  have h3 := (MapKept.heap_alloc ((w.alloc (.cells x 40)).alloc (.cells #[.int .i64 k, .int .i64 p] 35)) (.cells #[.int .i64 0, .slice none 0 0, .slice none 0 0] 40)).1
  rw [World.size_alloc] at h2 h3
  rw [World.size_alloc] at h3
  exact ⟨(Below.heap_alloc _ _ _ (by simp; omega)).trans ((Below.heap_alloc _ _ _ (by simp)).trans h1), (Below.heap_alloc _ _ _ (by simp)).trans h2, h3⟩
theorem DoesAt.cells {w : World} {S : Nat} {x0 x1 x2 : Value} {k p : Int} (h : DoesAt w S #[x0, x1, x2] k p) : w.cell? ⟨S, 0, none⟩ = some x0 ∧ w.cell? ⟨S, 1, none⟩ = some x1 ∧ w.cell? ⟨S, 2, none⟩ = some x2 ∧
    w.cell? ⟨S + 1, 0, none⟩ = some (.int .i64 k) ∧ w.cell? ⟨S + 1, 1, none⟩ = some (.int .i64 p) ∧
    w.cell? ⟨S + 2, 0, none⟩ = some (.int .i64 0) ∧ w.cell? ⟨S + 2, 1, none⟩ = some (.slice none 0 0) ∧ w.cell? ⟨S + 2, 2, none⟩ = some (.slice none 0 0) ∧ w.frozen? ⟨S + 2, 0, none⟩ = false ∧ w.frozen? ⟨S + 2, 1, none⟩ = false ∧ w.frozen? ⟨S + 2, 2, none⟩ = false :=
  ⟨cell_of_row w S 0 _ _ _ h.g, cell_of_row w S 1 _ _ _ h.g, cell_of_row w S 2 _ _ _ h.g, cell_of_row w _ 0 _ _ _ h.act, cell_of_row w _ 1 _ _ _ h.act, cell_of_row w _ 0 _ _ _ h.res, cell_of_row w _ 1 _ _ _ h.res, cell_of_row w _ 2 _ _ _ h.res, frozen_of_row w _ 0 _ _ h.res, frozen_of_row w _ 1 _ _ h.res, frozen_of_row w _ 2 _ _ h.res⟩
def stepS (s : Spc) (k p : Int) : Spc := if k = 1 then s.take.1 else if k = 2 then (s.give p).1 else if k = 3 then s.lasts else if k = 4 then s.undo else s
def stepG (g : GSp) (k p : Int) : GSp := if k = 1 then g.take.1 else if k = 2 then (g.give p).1 else if k = 3 then g.lasts else if k = 4 then g.undo else g
def okD (s : Spc) (g : GSp) (k p : Int) : Bool := if k = 1 then decide (s.take.2 = g.take.2) else if k = 2 then decide ((s.give p).2 = (g.give p).2) else true
/-- What does leaves. -/
def DoesPost (n₀ : Nat) (w : World) (B : Nat) (s : Spc) (g : GSp) (ok : Bool) (e : Ending) (w' : World) : Prop := ∃ a1 c1 a2 c2, e = .returned (.tuple #[gval g.most a1 g.now.length c1 a2 g.last.length c2, .bool ok]) ∧ IsG w' a1 c1 a2 c2 g ∧ IsSp n₀ w' B s ∧ SpKeeps n₀ w w'
set_option maxRecDepth 100000 in
set_option maxHeartbeats 2000000 in
theorem does4 {n₀ : Nat} {w : World} {B : Nat} {s : Spc} (h : IsSp n₀ w B s) (g : GSp) (a1 a2 : Option Addr) (c1 c2 : Nat) (hg : IsG w a1 c1 a2 c2 g) (_hsm : g.now.length ≤ 4999) (p : Int) :
    Calls Try.prog 11 #[ptr B, gval g.most a1 g.now.length c1 a2 g.last.length c2, .agg #[.int .i64 4, .int .i64 p]] w fun e w' => DoesPost n₀ w B (s.undo) (g.undo) true e w' := by
  obtain ⟨S, hS⟩ : ∃ S, w.heap.size = S := ⟨_, rfl⟩
  obtain ⟨w1, hw1⟩ : ∃ w1, (((w.alloc (.cells #[.int .i64 g.most, .slice a1 g.now.length c1, .slice a2 g.last.length c2] 40)).alloc (.cells #[.int .i64 4, .int .i64 p] 35)).alloc (.cells #[.int .i64 0, .slice none 0 0, .slice none 0 0] 40)) = w1 := ⟨_, rfl⟩
  have hd1 := DoesAt.start w #[.int .i64 g.most, .slice a1 g.now.length c1, .slice a2 g.last.length c2] 4 p
  rw [hw1, hS] at hd1
  have hb1 : Below S w w1 := by rw [← hw1, ← hS]; exact (((Below.refl _ w).alloc (Nat.le_refl _) _).alloc (by simp) _).alloc (by simp; omega) _
  have hnS : n₀ ≤ S := by rw [← hS]; exact h.n_le
  have HS := Lib.hid hS
  have HW := Lib.hid hw1
  have HD1 := Lib.hid hd1
  have HK1 := Lib.hid (SpKeeps.of_below (n₀ := n₀) (by rw [hS]; exact hb1) (by rw [hS]; exact hnS))
  have HP1 := Lib.hid (h.below (by rw [hS]; exact hb1))
  have HG1 := Lib.hid (hg.below (by rw [hS]; exact hb1))
  have HN := Lib.hid hnS
  clear h hg hS hw1 hd1 hb1 hnS
  unfold gval
  go_enter Try.func11, Try.ntmps11
  go_wp2_with (first
    | (go_at_call 21; rw [HS.out, HW.out]; refine (gundo_any g a1 a2 c1 c2 _ HG1.out).mono ?_; rintro e w2 ⟨v, rfl, b1, d1, b2, d2, rfl, hG2, hb2⟩; have hk2 := SpKeeps.of_below (n₀ := n₀) hb2 HP1.out.n_le; have HG2 := Lib.hid hG2; have HD2 := Lib.hid (HD1.out.keeps hk2); have HP2 := Lib.hid (HP1.out.below hb2); have HK2 := Lib.hid (HK1.out.trans hk2); clear hG2 hb2 hk2; unfold gval)
    | (go_at_call 20; refine (undo_k HP2.out).mono ?_; rintro e w3 ⟨rfl, hs3, hk3⟩; have HG3 := Lib.hid (HG2.out.keeps hk3); have HD3 := Lib.hid (HD2.out.keeps hk3); have HP3 := Lib.hid hs3; have HK3 := Lib.hid (HK2.out.trans hk3); clear hs3 hk3; obtain ⟨-, -, -, -, -, r0, r1, r2, q0, q1, q2⟩ := HD3.out.cells))
  have hkf := HK3.out.set3 (k := S + 2) (by rw [HS.out]; omega) (by rw [HS.out]; exact HN.out) (.int .i64 g.most) (.slice b1 g.undo.now.length d1) (.slice b2 g.undo.last.length d2)
  have hr := set3_heap (.int .i64 g.most) (.slice b1 g.undo.now.length d1) (.slice b2 g.undo.last.length d2) HD3.out.res
  have hsf := HP3.out.set3 HD3.out.res (by decide) (.int .i64 g.most) (.slice b1 g.undo.now.length d1) (.slice b2 g.undo.last.length d2)
  have hgf := HG3.out.set3 HD3.out.res (by decide) (.int .i64 g.most) (.slice b1 g.undo.now.length d1) (.slice b2 g.undo.last.length d2)
  refine bodyPost_ret (results_cell_tmps rfl _ _ (S + 2) 40 _ (0, 0) rfl hr Try.underlying40 (by kernel_rfl)) rfl ?_
  exact ⟨b1, d1, b2, d2, rfl, hgf, hsf, hkf⟩
set_option maxRecDepth 100000 in
set_option maxHeartbeats 2000000 in
theorem does3 {n₀ : Nat} {w : World} {B : Nat} {s : Spc} (h : IsSp n₀ w B s) (g : GSp) (a1 a2 : Option Addr) (c1 c2 : Nat) (hg : IsG w a1 c1 a2 c2 g) (_hsm : g.now.length ≤ 4999) (p : Int) :
    Calls Try.prog 11 #[ptr B, gval g.most a1 g.now.length c1 a2 g.last.length c2, .agg #[.int .i64 3, .int .i64 p]] w fun e w' => DoesPost n₀ w B (s.lasts) (g.lasts) true e w' := by
  obtain ⟨S, hS⟩ : ∃ S, w.heap.size = S := ⟨_, rfl⟩
  obtain ⟨w1, hw1⟩ : ∃ w1, (((w.alloc (.cells #[.int .i64 g.most, .slice a1 g.now.length c1, .slice a2 g.last.length c2] 40)).alloc (.cells #[.int .i64 3, .int .i64 p] 35)).alloc (.cells #[.int .i64 0, .slice none 0 0, .slice none 0 0] 40)) = w1 := ⟨_, rfl⟩
  have hd1 := DoesAt.start w #[.int .i64 g.most, .slice a1 g.now.length c1, .slice a2 g.last.length c2] 3 p
  rw [hw1, hS] at hd1
  have hb1 : Below S w w1 := by rw [← hw1, ← hS]; exact (((Below.refl _ w).alloc (Nat.le_refl _) _).alloc (by simp) _).alloc (by simp; omega) _
  have hnS : n₀ ≤ S := by rw [← hS]; exact h.n_le
  have HS := Lib.hid hS
  have HW := Lib.hid hw1
  have HD1 := Lib.hid hd1
  have HK1 := Lib.hid (SpKeeps.of_below (n₀ := n₀) (by rw [hS]; exact hb1) (by rw [hS]; exact hnS))
  have HP1 := Lib.hid (h.below (by rw [hS]; exact hb1))
  have HG1 := Lib.hid (hg.below (by rw [hS]; exact hb1))
  have HN := Lib.hid hnS
  clear h hg hS hw1 hd1 hb1 hnS
  unfold gval
  go_enter Try.func11, Try.ntmps11
  go_wp2_with (first
    | (go_at_call 29; rw [HS.out, HW.out]; refine (glasts_any g a1 a2 c1 c2 _ HG1.out).mono ?_; rintro e w2 ⟨v, rfl, b1, d1, b2, d2, rfl, hG2, hb2⟩; have hk2 := SpKeeps.of_below (n₀ := n₀) hb2 HP1.out.n_le; have HG2 := Lib.hid hG2; have HD2 := Lib.hid (HD1.out.keeps hk2); have HP2 := Lib.hid (HP1.out.below hb2); have HK2 := Lib.hid (HK1.out.trans hk2); clear hG2 hb2 hk2; unfold gval)
    | (go_at_call 23; refine (lasts_k HP2.out).mono ?_; rintro e w3 ⟨rfl, hs3, hk3⟩; have HG3 := Lib.hid (HG2.out.keeps hk3); have HD3 := Lib.hid (HD2.out.keeps hk3); have HP3 := Lib.hid hs3; have HK3 := Lib.hid (HK2.out.trans hk3); clear hs3 hk3; obtain ⟨-, -, -, -, -, r0, r1, r2, q0, q1, q2⟩ := HD3.out.cells))
  have hkf := HK3.out.set3 (k := S + 2) (by rw [HS.out]; omega) (by rw [HS.out]; exact HN.out) (.int .i64 g.most) (.slice b1 g.lasts.now.length d1) (.slice b2 g.lasts.last.length d2)
  have hr := set3_heap (.int .i64 g.most) (.slice b1 g.lasts.now.length d1) (.slice b2 g.lasts.last.length d2) HD3.out.res
  have hsf := HP3.out.set3 HD3.out.res (by decide) (.int .i64 g.most) (.slice b1 g.lasts.now.length d1) (.slice b2 g.lasts.last.length d2)
  have hgf := HG3.out.set3 HD3.out.res (by decide) (.int .i64 g.most) (.slice b1 g.lasts.now.length d1) (.slice b2 g.lasts.last.length d2)
  refine bodyPost_ret (results_cell_tmps rfl _ _ (S + 2) 40 _ (0, 0) rfl hr Try.underlying40 (by kernel_rfl)) rfl ?_
  exact ⟨b1, d1, b2, d2, rfl, hgf, hsf, hkf⟩
set_option maxRecDepth 100000 in
set_option maxHeartbeats 2000000 in
theorem does0 {n₀ : Nat} {w : World} {B : Nat} {s : Spc} (h : IsSp n₀ w B s) (g : GSp) (a1 a2 : Option Addr) (c1 c2 : Nat) (hg : IsG w a1 c1 a2 c2 g) (_hsm : g.now.length ≤ 4999) (p : Int) (k : Int) (n1 : k ≠ 1) (n2 : k ≠ 2) (n3 : k ≠ 3) (n4 : k ≠ 4) :
    Calls Try.prog 11 #[ptr B, gval g.most a1 g.now.length c1 a2 g.last.length c2, .agg #[.int .i64 k, .int .i64 p]] w fun e w' => DoesPost n₀ w B (s) (g) true e w' := by
  obtain ⟨S, hS⟩ : ∃ S, w.heap.size = S := ⟨_, rfl⟩
  obtain ⟨w1, hw1⟩ : ∃ w1, (((w.alloc (.cells #[.int .i64 g.most, .slice a1 g.now.length c1, .slice a2 g.last.length c2] 40)).alloc (.cells #[.int .i64 k, .int .i64 p] 35)).alloc (.cells #[.int .i64 0, .slice none 0 0, .slice none 0 0] 40)) = w1 := ⟨_, rfl⟩
  have hd1 := DoesAt.start w #[.int .i64 g.most, .slice a1 g.now.length c1, .slice a2 g.last.length c2] k p
  rw [hw1, hS] at hd1
  have hb1 : Below S w w1 := by rw [← hw1, ← hS]; exact (((Below.refl _ w).alloc (Nat.le_refl _) _).alloc (by simp) _).alloc (by simp; omega) _
  have hnS : n₀ ≤ S := by rw [← hS]; exact h.n_le
  have HS := Lib.hid hS
  have HW := Lib.hid hw1
  have HD1 := Lib.hid hd1
  have HK1 := Lib.hid (SpKeeps.of_below (n₀ := n₀) (by rw [hS]; exact hb1) (by rw [hS]; exact hnS))
  have HP1 := Lib.hid (h.below (by rw [hS]; exact hb1))
  have HG1 := Lib.hid (hg.below (by rw [hS]; exact hb1))
  have HP0 := Lib.hid h
  have HG0 := Lib.hid hg
  have HN := Lib.hid hnS
  clear h hg hS hw1 hd1 hb1 hnS
  unfold gval
  have m1 : (k == 1) = false := by simp [n1]
  have m2 : (k == 2) = false := by simp [n2]
  have m3 : (k == 3) = false := by simp [n3]
  have m4 : (k == 4) = false := by simp [n4]
  clear n1 n2 n3 n4
  go_enter Try.func11, Try.ntmps11
  go_wp2
  rw [HS.out]
  have hr := (MapKept.heap_alloc ((w.alloc (.cells #[.int .i64 g.most, .slice a1 g.now.length c1, .slice a2 g.last.length c2] 40)).alloc (.cells #[.int .i64 k, .int .i64 p] 35)) (.cells #[.int .i64 g.most, .slice a1 g.now.length c1, .slice a2 g.last.length c2] 40)).1
  have hb := (((Below.refl _ w).alloc (Nat.le_refl _) (.cells #[.int .i64 g.most, .slice a1 g.now.length c1, .slice a2 g.last.length c2] 40)).alloc (by simp) (.cells #[.int .i64 k, .int .i64 p] 35)).alloc (by simp; omega) (.cells #[.int .i64 g.most, .slice a1 g.now.length c1, .slice a2 g.last.length c2] 40)
  rw [World.size_alloc, World.size_alloc, HS.out] at hr
  have hsp := HP0.out.below hb
  have hgg := HG0.out.below hb
  refine bodyPost_ret (results_cell_tmps rfl _ _ (S + 1 + 1) 40 _ (0, 0) rfl hr Try.underlying40 (by kernel_rfl)) rfl ?_
  exact ⟨a1, c1, a2, c2, rfl, hgg, hsp, SpKeeps.of_below hb HP0.out.n_le⟩
end Go.Proofs.Ytmjjgdoekblelaa

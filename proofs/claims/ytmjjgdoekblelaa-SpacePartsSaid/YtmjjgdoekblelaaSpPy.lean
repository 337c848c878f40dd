/- Layer 7: the law's does beside a block that it does not turn. -/
import Derived.Test.YtmjjgdoekblelaaSpPx
namespace Go.Proofs.Ytmjjgdoekblelaa
open Go.RowKit

/-- What does leaves. -/
def DoesPostX (n₀ X : Nat) (w : World) (B : Nat) (s : Spc) (g : GSp) (ok : Bool) (e : Ending) (w' : World) : Prop := ∃ a1 c1 a2 c2, e = .returned (.tuple #[gval g.most a1 g.now.length c1 a2 g.last.length c2, .bool ok]) ∧ IsG w' a1 c1 a2 c2 g ∧ IsSpX n₀ X w' B s ∧ SpKeepsX n₀ X w w'
set_option maxRecDepth 100000 in
set_option maxHeartbeats 2000000 in
theorem does4X {n₀ X : Nat} {w : World} {B : Nat} {s : Spc} (h : IsSpX n₀ X w B s) (g : GSp) (a1 a2 : Option Addr) (c1 c2 : Nat) (hg : IsG w a1 c1 a2 c2 g) (_hsm : g.now.length ≤ 4999) (p : Int) :
    Calls Try.prog 11 #[ptr B, gval g.most a1 g.now.length c1 a2 g.last.length c2, .agg #[.int .i64 4, .int .i64 p]] w fun e w' => DoesPostX n₀ X w B (s.undo) (g.undo) true e w' := by
  obtain ⟨S, hS⟩ : ∃ S, w.heap.size = S := ⟨_, rfl⟩
  obtain ⟨w1, hw1⟩ : ∃ w1, (((w.alloc (.cells #[.int .i64 g.most, .slice a1 g.now.length c1, .slice a2 g.last.length c2] 40)).alloc (.cells #[.int .i64 4, .int .i64 p] 35)).alloc (.cells #[.int .i64 0, .slice none 0 0, .slice none 0 0] 40)) = w1 := ⟨_, rfl⟩
  have hd1 := DoesAt.start w #[.int .i64 g.most, .slice a1 g.now.length c1, .slice a2 g.last.length c2] 4 p
  rw [hw1, hS] at hd1
  have hb1 : Below S w w1 := by rw [← hw1, ← hS]; exact (((Below.refl _ w).alloc (Nat.le_refl _) _).alloc (by simp) _).alloc (by simp; omega) _
  have hnS : n₀ ≤ S := by rw [← hS]; exact h.n_le
  have HS := Lib.hid hS
  have HW := Lib.hid hw1
  have HD1 := Lib.hid hd1
  have HK1 := Lib.hid (SpKeepsX.of_below (n₀ := n₀) (X := X) (by rw [hS]; exact hb1) (by rw [hS]; exact hnS))
  have HP1 := Lib.hid (h.below (by rw [hS]; exact hb1))
  have HG1 := Lib.hid (hg.below (by rw [hS]; exact hb1))
  have HN := Lib.hid hnS
  clear h hg hS hw1 hd1 hb1 hnS
  unfold gval
  go_enter Try.func11, Try.ntmps11
  go_wp2_with (first
    | (go_at_call 21; rw [HS.out, HW.out]; refine (gundo_any g a1 a2 c1 c2 _ HG1.out).mono ?_; rintro e w2 ⟨v, rfl, b1, d1, b2, d2, rfl, hG2, hb2⟩; have hk2 := SpKeepsX.of_below (n₀ := n₀) (X := X) hb2 HP1.out.n_le; have HG2 := Lib.hid hG2; have HD2 := Lib.hid (HD1.out.keeps hk2.toSpKeeps); have HP2 := Lib.hid (HP1.out.below hb2); have HK2 := Lib.hid (HK1.out.trans hk2); clear hG2 hb2 hk2; unfold gval)
    | (go_at_call 20; refine (undo_kX HP2.out).mono ?_; rintro e w3 ⟨rfl, hs3, hk3⟩; have HG3 := Lib.hid (HG2.out.keeps hk3.toSpKeeps); have HD3 := Lib.hid (HD2.out.keeps hk3.toSpKeeps); have HP3 := Lib.hid hs3; have HK3 := Lib.hid (HK2.out.trans hk3); clear hs3 hk3; obtain ⟨-, -, -, -, -, r0, r1, r2, q0, q1, q2⟩ := HD3.out.cells))
  have hkf := HK3.out.set3 (k := S + 2) (by rw [HS.out]; omega) (by rw [HS.out]; exact HN.out) (.int .i64 g.most) (.slice b1 g.undo.now.length d1) (.slice b2 g.undo.last.length d2)
  have hr := set3_heap (.int .i64 g.most) (.slice b1 g.undo.now.length d1) (.slice b2 g.undo.last.length d2) HD3.out.res
  have hsf := HP3.out.set3 HD3.out.res (by decide) (.int .i64 g.most) (.slice b1 g.undo.now.length d1) (.slice b2 g.undo.last.length d2)
  have hgf := HG3.out.set3 HD3.out.res (by decide) (.int .i64 g.most) (.slice b1 g.undo.now.length d1) (.slice b2 g.undo.last.length d2)
  refine bodyPost_ret (results_cell_tmps rfl _ _ (S + 2) 40 _ (0, 0) rfl hr Try.underlying40 (by kernel_rfl)) rfl ?_
  exact ⟨b1, d1, b2, d2, rfl, hgf, hsf, hkf⟩
set_option maxRecDepth 100000 in
set_option maxHeartbeats 2000000 in
theorem does3X {n₀ X : Nat} {w : World} {B : Nat} {s : Spc} (h : IsSpX n₀ X w B s) (g : GSp) (a1 a2 : Option Addr) (c1 c2 : Nat) (hg : IsG w a1 c1 a2 c2 g) (_hsm : g.now.length ≤ 4999) (p : Int) :
    Calls Try.prog 11 #[ptr B, gval g.most a1 g.now.length c1 a2 g.last.length c2, .agg #[.int .i64 3, .int .i64 p]] w fun e w' => DoesPostX n₀ X w B (s.lasts) (g.lasts) true e w' := by
  obtain ⟨S, hS⟩ : ∃ S, w.heap.size = S := ⟨_, rfl⟩
  obtain ⟨w1, hw1⟩ : ∃ w1, (((w.alloc (.cells #[.int .i64 g.most, .slice a1 g.now.length c1, .slice a2 g.last.length c2] 40)).alloc (.cells #[.int .i64 3, .int .i64 p] 35)).alloc (.cells #[.int .i64 0, .slice none 0 0, .slice none 0 0] 40)) = w1 := ⟨_, rfl⟩
  have hd1 := DoesAt.start w #[.int .i64 g.most, .slice a1 g.now.length c1, .slice a2 g.last.length c2] 3 p
  rw [hw1, hS] at hd1
  have hb1 : Below S w w1 := by rw [← hw1, ← hS]; exact (((Below.refl _ w).alloc (Nat.le_refl _) _).alloc (by simp) _).alloc (by simp; omega) _
  have hnS : n₀ ≤ S := by rw [← hS]; exact h.n_le
  have HS := Lib.hid hS
  have HW := Lib.hid hw1
  have HD1 := Lib.hid hd1
  have HK1 := Lib.hid (SpKeepsX.of_below (n₀ := n₀) (X := X) (by rw [hS]; exact hb1) (by rw [hS]; exact hnS))
  have HP1 := Lib.hid (h.below (by rw [hS]; exact hb1))
  have HG1 := Lib.hid (hg.below (by rw [hS]; exact hb1))
  have HN := Lib.hid hnS
  clear h hg hS hw1 hd1 hb1 hnS
  unfold gval
  go_enter Try.func11, Try.ntmps11
  go_wp2_with (first
    | (go_at_call 29; rw [HS.out, HW.out]; refine (glasts_any g a1 a2 c1 c2 _ HG1.out).mono ?_; rintro e w2 ⟨v, rfl, b1, d1, b2, d2, rfl, hG2, hb2⟩; have hk2 := SpKeepsX.of_below (n₀ := n₀) (X := X) hb2 HP1.out.n_le; have HG2 := Lib.hid hG2; have HD2 := Lib.hid (HD1.out.keeps hk2.toSpKeeps); have HP2 := Lib.hid (HP1.out.below hb2); have HK2 := Lib.hid (HK1.out.trans hk2); clear hG2 hb2 hk2; unfold gval)
    | (go_at_call 23; refine (lasts_kX HP2.out).mono ?_; rintro e w3 ⟨rfl, hs3, hk3⟩; have HG3 := Lib.hid (HG2.out.keeps hk3.toSpKeeps); have HD3 := Lib.hid (HD2.out.keeps hk3.toSpKeeps); have HP3 := Lib.hid hs3; have HK3 := Lib.hid (HK2.out.trans hk3); clear hs3 hk3; obtain ⟨-, -, -, -, -, r0, r1, r2, q0, q1, q2⟩ := HD3.out.cells))
  have hkf := HK3.out.set3 (k := S + 2) (by rw [HS.out]; omega) (by rw [HS.out]; exact HN.out) (.int .i64 g.most) (.slice b1 g.lasts.now.length d1) (.slice b2 g.lasts.last.length d2)
  have hr := set3_heap (.int .i64 g.most) (.slice b1 g.lasts.now.length d1) (.slice b2 g.lasts.last.length d2) HD3.out.res
  have hsf := HP3.out.set3 HD3.out.res (by decide) (.int .i64 g.most) (.slice b1 g.lasts.now.length d1) (.slice b2 g.lasts.last.length d2)
  have hgf := HG3.out.set3 HD3.out.res (by decide) (.int .i64 g.most) (.slice b1 g.lasts.now.length d1) (.slice b2 g.lasts.last.length d2)
  refine bodyPost_ret (results_cell_tmps rfl _ _ (S + 2) 40 _ (0, 0) rfl hr Try.underlying40 (by kernel_rfl)) rfl ?_
  exact ⟨b1, d1, b2, d2, rfl, hgf, hsf, hkf⟩
set_option maxRecDepth 100000 in
set_option maxHeartbeats 2000000 in
theorem does0X {n₀ X : Nat} {w : World} {B : Nat} {s : Spc} (h : IsSpX n₀ X w B s) (g : GSp) (a1 a2 : Option Addr) (c1 c2 : Nat) (hg : IsG w a1 c1 a2 c2 g) (_hsm : g.now.length ≤ 4999) (p : Int) (k : Int) (n1 : k ≠ 1) (n2 : k ≠ 2) (n3 : k ≠ 3) (n4 : k ≠ 4) :
    Calls Try.prog 11 #[ptr B, gval g.most a1 g.now.length c1 a2 g.last.length c2, .agg #[.int .i64 k, .int .i64 p]] w fun e w' => DoesPostX n₀ X w B (s) (g) true e w' := by
  obtain ⟨S, hS⟩ : ∃ S, w.heap.size = S := ⟨_, rfl⟩
  obtain ⟨w1, hw1⟩ : ∃ w1, (((w.alloc (.cells #[.int .i64 g.most, .slice a1 g.now.length c1, .slice a2 g.last.length c2] 40)).alloc (.cells #[.int .i64 k, .int .i64 p] 35)).alloc (.cells #[.int .i64 0, .slice none 0 0, .slice none 0 0] 40)) = w1 := ⟨_, rfl⟩
  have hd1 := DoesAt.start w #[.int .i64 g.most, .slice a1 g.now.length c1, .slice a2 g.last.length c2] k p
  rw [hw1, hS] at hd1
  have hb1 : Below S w w1 := by rw [← hw1, ← hS]; exact (((Below.refl _ w).alloc (Nat.le_refl _) _).alloc (by simp) _).alloc (by simp; omega) _
  have hnS : n₀ ≤ S := by rw [← hS]; exact h.n_le
  have HS := Lib.hid hS
  have HW := Lib.hid hw1
  have HD1 := Lib.hid hd1
  have HK1 := Lib.hid (SpKeepsX.of_below (n₀ := n₀) (X := X) (by rw [hS]; exact hb1) (by rw [hS]; exact hnS))
  have HP1 := Lib.hid (h.below (by rw [hS]; exact hb1))
  have HG1 := Lib.hid (hg.below (by rw [hS]; exact hb1))
  have HP0 := Lib.hid h
  have HG0 := Lib.hid hg
  have HN := Lib.hid hnS
  clear h hg hS hw1 hd1 hb1 hnS
  unfold gval
  have m1 : (k == 1) = false := by simp [n1]
  have m2 : (k == 2) = false := by simp [n2]
  have m3 : (k == 3) = false := by simp [n3]
  have m4 : (k == 4) = false := by simp [n4]
  clear n1 n2 n3 n4
  go_enter Try.func11, Try.ntmps11
  go_wp2
  rw [HS.out]
  have hr := (MapKept.heap_alloc ((w.alloc (.cells #[.int .i64 g.most, .slice a1 g.now.length c1, .slice a2 g.last.length c2] 40)).alloc (.cells #[.int .i64 k, .int .i64 p] 35)) (.cells #[.int .i64 g.most, .slice a1 g.now.length c1, .slice a2 g.last.length c2] 40)).1
  have hb := (((Below.refl _ w).alloc (Nat.le_refl _) (.cells #[.int .i64 g.most, .slice a1 g.now.length c1, .slice a2 g.last.length c2] 40)).alloc (by simp) (.cells #[.int .i64 k, .int .i64 p] 35)).alloc (by simp; omega) (.cells #[.int .i64 g.most, .slice a1 g.now.length c1, .slice a2 g.last.length c2] 40)
  rw [World.size_alloc, World.size_alloc, HS.out] at hr
  have hsp := HP0.out.below hb
  have hgg := HG0.out.below hb
  refine bodyPost_ret (results_cell_tmps rfl _ _ (S + 1 + 1) 40 _ (0, 0) rfl hr Try.underlying40 (by kernel_rfl)) rfl ?_
  exact ⟨a1, c1, a2, c2, rfl, hgg, hsp, SpKeepsX.of_below hb HP0.out.n_le⟩
set_option maxRecDepth 100000 in
set_option maxHeartbeats 2000000 in
theorem does2X {n₀ X : Nat} {w : World} {B : Nat} {s : Spc} (h : IsSpX n₀ X w B s) (g : GSp) (a1 a2 : Option Addr) (c1 c2 : Nat) (hg : IsG w a1 c1 a2 c2 g) (_hsm : g.now.length ≤ 4999) (p : Int) :
    Calls Try.prog 11 #[ptr B, gval g.most a1 g.now.length c1 a2 g.last.length c2, .agg #[.int .i64 2, .int .i64 p]] w fun e w' => DoesPostX n₀ X w B ((s.give p).1) ((g.give p).1) (decide ((s.give p).2 = (g.give p).2)) e w' := by
  obtain ⟨S, hS⟩ : ∃ S, w.heap.size = S := ⟨_, rfl⟩
  obtain ⟨w1, hw1⟩ : ∃ w1, (((w.alloc (.cells #[.int .i64 g.most, .slice a1 g.now.length c1, .slice a2 g.last.length c2] 40)).alloc (.cells #[.int .i64 2, .int .i64 p] 35)).alloc (.cells #[.int .i64 0, .slice none 0 0, .slice none 0 0] 40)) = w1 := ⟨_, rfl⟩
  have hd1 := DoesAt.start w #[.int .i64 g.most, .slice a1 g.now.length c1, .slice a2 g.last.length c2] 2 p
  rw [hw1, hS] at hd1
  have hb1 : Below S w w1 := by rw [← hw1, ← hS]; exact (((Below.refl _ w).alloc (Nat.le_refl _) _).alloc (by simp) _).alloc (by simp; omega) _
  have hnS : n₀ ≤ S := by rw [← hS]; exact h.n_le
  have HS := Lib.hid hS
  have HW := Lib.hid hw1
  have HD1 := Lib.hid hd1
  have HK1 := Lib.hid (SpKeepsX.of_below (n₀ := n₀) (X := X) (by rw [hS]; exact hb1) (by rw [hS]; exact hnS))
  have HP1 := Lib.hid (h.below (by rw [hS]; exact hb1))
  have HG1 := Lib.hid (hg.below (by rw [hS]; exact hb1))
  have HN := Lib.hid hnS
  clear h hg hS hw1 hd1 hb1 hnS
  unfold gval
  by_cases e1 : (s.give p).2 = (g.give p).2
  · have q1 : (((s.give p).2 : Int) == ((g.give p).2 : Int)) = true := by simp [e1]
    have HOK : Hid (decide ((s.give p).2 = (g.give p).2) = true) := Lib.hid (by rw [decide_eq_true_eq]; exact e1)
    clear e1
    go_enter Try.func11, Try.ntmps11
    go_wp2_with (first
      | (go_at_call 28; rw [HS.out, HW.out]; refine (ggive_any g a1 a2 c1 c2 _ HG1.out p).mono ?_; rintro e w2 ⟨v, rfl, b1, d1, b2, d2, rfl, hG2, hb2⟩; have HG2 := Lib.hid hG2; have HB2 := Lib.hid hb2; clear hG2 hb2; unfold gval))
    obtain ⟨W4, hW4⟩ : ∃ W4, w2.alloc (.cells #[.int .i64 (g.give p).1.most, .slice b1 (g.give p).1.now.length d1, .slice b2 (g.give p).1.last.length d2] 40) = W4 := ⟨_, rfl⟩
    obtain ⟨R, hR⟩ : ∃ R, w2.heap.size = R := ⟨_, rfl⟩
    rw [hW4, hR]
    have hb4 : Below w2.heap.size w2 W4 := by rw [← hW4]; exact (Below.refl _ w2).alloc (Nat.le_refl _) _
    have hr4 : W4.heap[R]? = some (.cells #[.int .i64 (g.give p).1.most, .slice b1 (g.give p).1.now.length d1, .slice b2 (g.give p).1.last.length d2] 40 (0, 0)) := by rw [← hW4, ← hR]; exact (MapKept.heap_alloc w2 _).1
    have hb14 := HB2.out.trans (hb4.mono HB2.out.size)
    have hk4 := SpKeepsX.of_below (n₀ := n₀) (X := X) hb14 HP1.out.n_le
    have HD4 := Lib.hid (HD1.out.keeps hk4.toSpKeeps)
    have HP4 : Hid (IsSpX n₀ X W4.drew B s) := Lib.hid (by obtain ⟨x, y, hx, hy⟩ := HP1.out.below hb14; exact ⟨x, y, hx.drew, hy⟩)
    have HK4 := Lib.hid (HK1.out.trans hk4)
    have HG4 := Lib.hid (HG2.out.below hb4)
    have HR4 := Lib.hid hr4
    have k0 := cell_of_row W4 R 0 _ _ _ hr4
    have k1 := cell_of_row W4 R 1 _ _ _ hr4
    have k2 := cell_of_row W4 R 2 _ _ _ hr4
    simp only [List.getElem?_toArray, List.getElem?_cons_zero, List.getElem?_cons_succ] at k0 k1 k2
    obtain ⟨-, -, -, -, ka, r0, r1, r2, q0, q1, q2⟩ := HD4.out.cells
    have HDd : Hid (DoesAt W4.drew S _ 2 p) := Lib.hid ⟨HD4.out.g, HD4.out.act, HD4.out.res⟩
    have HGd : Hid (IsG W4.drew b1 d1 b2 d2 (g.give p).1) := Lib.hid ⟨HG4.out.now_, HG4.out.last_, HG4.out.no1, HG4.out.no2, HG4.out.le1, HG4.out.le2, HG4.out.few1, HG4.out.few2⟩
    have HRd : Hid (W4.drew.heap[R]? = some (.cells #[.int .i64 (g.give p).1.most, .slice b1 (g.give p).1.now.length d1, .slice b2 (g.give p).1.last.length d2] 40 (0, 0))) := HR4
    clear hW4 hR hb4 hr4 hb14 hk4
    go_region_with (go_at_call 22; refine (give_kX HP4.out p).mono ?_; rintro e w5 ⟨rfl, hs5, hk5⟩; have HP5 := Lib.hid hs5; have HD5 := Lib.hid (HDd.out.keeps hk5.toSpKeeps); have HG5 := Lib.hid (HGd.out.keeps hk5.toSpKeeps); have HK5 := Lib.hid (HK4.out.trans (⟨⟨⟨hk5.below.os, hk5.below.tape, hk5.below.output, hk5.below.size, hk5.below.block⟩, hk5.cells⟩, hk5.at_⟩ : SpKeepsX n₀ X W4 w5)); have hr5 := hk5.cells R _ _ _ HRd.out (by decide); have m0 := cell_of_row w5 R 0 _ _ _ hr5; have m1 := cell_of_row w5 R 1 _ _ _ hr5; have m2 := cell_of_row w5 R 2 _ _ _ hr5; simp only [List.getElem?_toArray, List.getElem?_cons_zero, List.getElem?_cons_succ] at m0 m1 m2; clear hs5 hk5 hr5; obtain ⟨-, -, -, -, kb, x0, x1, x2, y0, y1, y2⟩ := HD5.out.cells)
    all_goals go_wp2
    all_goals
      have hkf := HK5.out.set3 (k := S + 2) (by rw [HS.out]; omega) (by rw [HS.out]; exact HN.out) (.int .i64 (g.give p).1.most) (.slice b1 (g.give p).1.now.length d1) (.slice b2 (g.give p).1.last.length d2)
      have hr := set3_heap (.int .i64 (g.give p).1.most) (.slice b1 (g.give p).1.now.length d1) (.slice b2 (g.give p).1.last.length d2) HD5.out.res
      have hsf := HP5.out.set3 HD5.out.res (by decide) (.int .i64 (g.give p).1.most) (.slice b1 (g.give p).1.now.length d1) (.slice b2 (g.give p).1.last.length d2)
      have hgf := HG5.out.set3 HD5.out.res (by decide) (.int .i64 (g.give p).1.most) (.slice b1 (g.give p).1.now.length d1) (.slice b2 (g.give p).1.last.length d2)
      refine bodyPost_ret (results_cell_tmps rfl _ _ (S + 2) 40 _ (0, 0) rfl hr Try.underlying40 (by kernel_rfl)) rfl ?_
      rw [HOK.out]
      exact ⟨b1, d1, b2, d2, rfl, hgf, hsf, hkf⟩
  · have q1 : (((s.give p).2 : Int) == ((g.give p).2 : Int)) = false := by simp; omega
    have HOK : Hid (decide ((s.give p).2 = (g.give p).2) = false) := Lib.hid (by rw [decide_eq_false_iff_not]; exact e1)
    clear e1
    go_enter Try.func11, Try.ntmps11
    go_wp2_with (first
      | (go_at_call 28; rw [HS.out, HW.out]; refine (ggive_any g a1 a2 c1 c2 _ HG1.out p).mono ?_; rintro e w2 ⟨v, rfl, b1, d1, b2, d2, rfl, hG2, hb2⟩; have HG2 := Lib.hid hG2; have HB2 := Lib.hid hb2; clear hG2 hb2; unfold gval))
    obtain ⟨W4, hW4⟩ : ∃ W4, w2.alloc (.cells #[.int .i64 (g.give p).1.most, .slice b1 (g.give p).1.now.length d1, .slice b2 (g.give p).1.last.length d2] 40) = W4 := ⟨_, rfl⟩
    obtain ⟨R, hR⟩ : ∃ R, w2.heap.size = R := ⟨_, rfl⟩
    rw [hW4, hR]
    have hb4 : Below w2.heap.size w2 W4 := by rw [← hW4]; exact (Below.refl _ w2).alloc (Nat.le_refl _) _
    have hr4 : W4.heap[R]? = some (.cells #[.int .i64 (g.give p).1.most, .slice b1 (g.give p).1.now.length d1, .slice b2 (g.give p).1.last.length d2] 40 (0, 0)) := by rw [← hW4, ← hR]; exact (MapKept.heap_alloc w2 _).1
    have hb14 := HB2.out.trans (hb4.mono HB2.out.size)
    have hk4 := SpKeepsX.of_below (n₀ := n₀) (X := X) hb14 HP1.out.n_le
    have HD4 := Lib.hid (HD1.out.keeps hk4.toSpKeeps)
    have HP4 : Hid (IsSpX n₀ X W4.drew B s) := Lib.hid (by obtain ⟨x, y, hx, hy⟩ := HP1.out.below hb14; exact ⟨x, y, hx.drew, hy⟩)
    have HK4 := Lib.hid (HK1.out.trans hk4)
    have HG4 := Lib.hid (HG2.out.below hb4)
    have HR4 := Lib.hid hr4
    have k0 := cell_of_row W4 R 0 _ _ _ hr4
    have k1 := cell_of_row W4 R 1 _ _ _ hr4
    have k2 := cell_of_row W4 R 2 _ _ _ hr4
    simp only [List.getElem?_toArray, List.getElem?_cons_zero, List.getElem?_cons_succ] at k0 k1 k2
    obtain ⟨-, -, -, -, ka, r0, r1, r2, q0, q1, q2⟩ := HD4.out.cells
    have HDd : Hid (DoesAt W4.drew S _ 2 p) := Lib.hid ⟨HD4.out.g, HD4.out.act, HD4.out.res⟩
    have HGd : Hid (IsG W4.drew b1 d1 b2 d2 (g.give p).1) := Lib.hid ⟨HG4.out.now_, HG4.out.last_, HG4.out.no1, HG4.out.no2, HG4.out.le1, HG4.out.le2, HG4.out.few1, HG4.out.few2⟩
    have HRd : Hid (W4.drew.heap[R]? = some (.cells #[.int .i64 (g.give p).1.most, .slice b1 (g.give p).1.now.length d1, .slice b2 (g.give p).1.last.length d2] 40 (0, 0))) := HR4
    clear hW4 hR hb4 hr4 hb14 hk4
    go_region_with (go_at_call 22; refine (give_kX HP4.out p).mono ?_; rintro e w5 ⟨rfl, hs5, hk5⟩; have HP5 := Lib.hid hs5; have HD5 := Lib.hid (HDd.out.keeps hk5.toSpKeeps); have HG5 := Lib.hid (HGd.out.keeps hk5.toSpKeeps); have HK5 := Lib.hid (HK4.out.trans (⟨⟨⟨hk5.below.os, hk5.below.tape, hk5.below.output, hk5.below.size, hk5.below.block⟩, hk5.cells⟩, hk5.at_⟩ : SpKeepsX n₀ X W4 w5)); have hr5 := hk5.cells R _ _ _ HRd.out (by decide); have m0 := cell_of_row w5 R 0 _ _ _ hr5; have m1 := cell_of_row w5 R 1 _ _ _ hr5; have m2 := cell_of_row w5 R 2 _ _ _ hr5; simp only [List.getElem?_toArray, List.getElem?_cons_zero, List.getElem?_cons_succ] at m0 m1 m2; clear hs5 hk5 hr5; obtain ⟨-, -, -, -, kb, x0, x1, x2, y0, y1, y2⟩ := HD5.out.cells)
    all_goals go_wp2
    all_goals
      have hkf := HK5.out.set3 (k := S + 2) (by rw [HS.out]; omega) (by rw [HS.out]; exact HN.out) (.int .i64 (g.give p).1.most) (.slice b1 (g.give p).1.now.length d1) (.slice b2 (g.give p).1.last.length d2)
      have hr := set3_heap (.int .i64 (g.give p).1.most) (.slice b1 (g.give p).1.now.length d1) (.slice b2 (g.give p).1.last.length d2) HD5.out.res
      have hsf := HP5.out.set3 HD5.out.res (by decide) (.int .i64 (g.give p).1.most) (.slice b1 (g.give p).1.now.length d1) (.slice b2 (g.give p).1.last.length d2)
      have hgf := HG5.out.set3 HD5.out.res (by decide) (.int .i64 (g.give p).1.most) (.slice b1 (g.give p).1.now.length d1) (.slice b2 (g.give p).1.last.length d2)
      refine bodyPost_ret (results_cell_tmps rfl _ _ (S + 2) 40 _ (0, 0) rfl hr Try.underlying40 (by kernel_rfl)) rfl ?_
      rw [HOK.out]
      exact ⟨b1, d1, b2, d2, rfl, hgf, hsf, hkf⟩
theorem does_kX {n₀ X : Nat} {w : World} {B : Nat} {s : Spc} (h : IsSpX n₀ X w B s) (g : GSp) (a1 a2 : Option Addr) (c1 c2 : Nat) (hg : IsG w a1 c1 a2 c2 g) (hsm : g.now.length ≤ 4999) (k p : Int) (hk : k ≠ 1) :
    Calls Try.prog 11 #[ptr B, gval g.most a1 g.now.length c1 a2 g.last.length c2, .agg #[.int .i64 k, .int .i64 p]] w fun e w' => (∃ v ok, e = .returned (.tuple #[v, .bool ok])) ∧ IsSpX n₀ X w' B (stepS s k p) ∧ SpKeepsX n₀ X w w' := by
  have fin : ∀ {s' : Spc} {g' : GSp} {ok : Bool} {e : Ending} {w' : World}, DoesPostX n₀ X w B s' g' ok e w' → (∃ v ok, e = .returned (.tuple #[v, .bool ok])) ∧ IsSpX n₀ X w' B s' ∧ SpKeepsX n₀ X w w' := by
    rintro s' g' ok e w' ⟨b1, d1, b2, d2, rfl, -, h2, h3⟩
    exact ⟨⟨_, _, rfl⟩, h2, h3⟩
  unfold stepS
  rw [if_neg hk]
  by_cases e2 : k = 2
  · subst e2; exact (does2X h g a1 a2 c1 c2 hg hsm p).mono fun e w' h => fin h
  rw [if_neg e2]
  by_cases e3 : k = 3
  · subst e3; exact (does3X h g a1 a2 c1 c2 hg hsm p).mono fun e w' h => fin h
  rw [if_neg e3]
  by_cases e4 : k = 4
  · subst e4; exact (does4X h g a1 a2 c1 c2 hg hsm p).mono fun e w' h => fin h
  rw [if_neg e4]
  exact (does0X h g a1 a2 c1 c2 hg hsm p k hk e2 e3 e4).mono fun e w' h => fin h
end Go.Proofs.Ytmjjgdoekblelaa

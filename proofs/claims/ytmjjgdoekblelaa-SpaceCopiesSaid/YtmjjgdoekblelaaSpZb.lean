/- Layer 7: a call, and what the document says of it. -/
import Derived.Test.YtmjjgdoekblelaaSpZ
namespace Go.Proofs.Ytmjjgdoekblelaa
open Go.RowKit

set_option maxRecDepth 100000 in
set_option maxHeartbeats 2000000 in
theorem does1 {n₀ : Nat} {w : World} {B : Nat} {s : Spc} (h : IsSp n₀ w B s) (g : GSp) (a1 a2 : Option Addr) (c1 c2 : Nat) (hg : IsG w a1 c1 a2 c2 g) (hsm : g.now.length ≤ 4999) (p : Int) :
    Calls Try.prog 11 #[ptr B, gval g.most a1 g.now.length c1 a2 g.last.length c2, .agg #[.int .i64 1, .int .i64 p]] w fun e w' => DoesPost n₀ w B (s.take.1) (g.take.1) (decide (s.take.2 = g.take.2)) e w' := by
  obtain ⟨S, hS⟩ : ∃ S, w.heap.size = S := ⟨_, rfl⟩
  obtain ⟨w1, hw1⟩ : ∃ w1, (((w.alloc (.cells #[.int .i64 g.most, .slice a1 g.now.length c1, .slice a2 g.last.length c2] 40)).alloc (.cells #[.int .i64 1, .int .i64 p] 35)).alloc (.cells #[.int .i64 0, .slice none 0 0, .slice none 0 0] 40)) = w1 := ⟨_, rfl⟩
  have hd1 := DoesAt.start w #[.int .i64 g.most, .slice a1 g.now.length c1, .slice a2 g.last.length c2] 1 p
  rw [hw1, hS] at hd1
  have hb1 : Below S w w1 := by rw [← hw1, ← hS]; exact (((Below.refl _ w).alloc (Nat.le_refl _) _).alloc (by simp) _).alloc (by simp; omega) _
  have hnS : n₀ ≤ S := by rw [← hS]; exact h.n_le
  have HS := Lib.hid hS
  have HW := Lib.hid hw1
  have HD1 := Lib.hid hd1
  have HK1 := Lib.hid (SpKeeps.of_below (n₀ := n₀) (by rw [hS]; exact hb1) (by rw [hS]; exact hnS))
  have HP1 := Lib.hid (h.below (by rw [hS]; exact hb1))
  have HG1 := Lib.hid (hg.below (by rw [hS]; exact hb1))
  have HN := Lib.hid hnS
  clear h hg hS hw1 hd1 hb1 hnS
  unfold gval
  by_cases e1 : s.take.2.1 = g.take.2.1
  · have q1 : ((s.take.2.1 : Int) == (g.take.2.1 : Int)) = true := by simp [e1]
    by_cases e2 : s.take.2.2 = g.take.2.2
    · have q2 : ((s.take.2.2 : Int) == (g.take.2.2 : Int)) = true := by simp [e2]
      have HOK : Hid (decide (s.take.2 = g.take.2) = true) := Lib.hid (by rw [decide_eq_true_eq]; exact Prod.ext e1 e2)
      clear e1 e2
      go_enter Try.func11, Try.ntmps11
      go_wp2_with (first
        | (go_at_call 10; rw [HS.out, HW.out]; refine (take_k HP1.out).mono ?_; rintro e w2 ⟨rfl, hs2, hk2⟩; have HG2 := Lib.hid (HG1.out.keeps hk2); have HD2 := Lib.hid (HD1.out.keeps hk2); have HP2 := Lib.hid hs2; have HK2 := Lib.hid (HK1.out.trans hk2); clear hs2 hk2; obtain ⟨g0, g1, g2, -⟩ := HD2.out.cells)
        | (go_at_call 27; refine (gtake_any g a1 a2 c1 c2 _ HG2.out hsm).mono ?_; rintro e w3 ⟨v, rfl, b1, d1, b2, d2, rfl, hG3, hb3⟩; have hk3 := SpKeeps.of_below (n₀ := n₀) (hb3.trans (((Below.refl w3.heap.size w3).alloc (Nat.le_refl _) (.cells #[.int .i64 g.take.1.most, .slice b1 g.take.1.now.length d1, .slice b2 g.take.1.last.length d2] 40)).mono hb3.size)) HP2.out.n_le; have HG3 := Lib.hid (hG3.below ((Below.refl w3.heap.size w3).alloc (Nat.le_refl _) (.cells #[.int .i64 g.take.1.most, .slice b1 g.take.1.now.length d1, .slice b2 g.take.1.last.length d2] 40))); have HD3 := Lib.hid (HD2.out.keeps hk3); have HP3 := Lib.hid (HP2.out.below (hb3.trans (((Below.refl w3.heap.size w3).alloc (Nat.le_refl _) (.cells #[.int .i64 g.take.1.most, .slice b1 g.take.1.now.length d1, .slice b2 g.take.1.last.length d2] 40)).mono hb3.size))); have HK3 := Lib.hid (HK2.out.trans hk3); clear hG3 hb3 hk3 g0 g1 g2; obtain ⟨-, -, -, -, -, r0, r1, r2, q0, q1, q2⟩ := HD3.out.cells; unfold gval))
      have hkf := HK3.out.set3 (k := S + 2) (by rw [HS.out]; omega) (by rw [HS.out]; exact HN.out) (.int .i64 g.take.1.most) (.slice b1 g.take.1.now.length d1) (.slice b2 g.take.1.last.length d2)
      have hr := set3_heap (.int .i64 g.take.1.most) (.slice b1 g.take.1.now.length d1) (.slice b2 g.take.1.last.length d2) HD3.out.res
      have hsf := HP3.out.set3 HD3.out.res (by decide) (.int .i64 g.take.1.most) (.slice b1 g.take.1.now.length d1) (.slice b2 g.take.1.last.length d2)
      have hgf := HG3.out.set3 HD3.out.res (by decide) (.int .i64 g.take.1.most) (.slice b1 g.take.1.now.length d1) (.slice b2 g.take.1.last.length d2)
      refine bodyPost_ret (results_cell_tmps rfl _ _ (S + 2) 40 _ (0, 0) rfl hr Try.underlying40 (by kernel_rfl)) rfl ?_
      rw [HOK.out]
      exact ⟨b1, d1, b2, d2, rfl, hgf, hsf, hkf⟩
    · have q2 : ((s.take.2.2 : Int) == (g.take.2.2 : Int)) = false := by simp; omega
      have HOK : Hid (decide (s.take.2 = g.take.2) = false) := Lib.hid (by rw [decide_eq_false_iff_not]; intro h; exact e2 (by rw [h]))
      clear e1 e2
      go_enter Try.func11, Try.ntmps11
      go_wp2_with (first
        | (go_at_call 10; rw [HS.out, HW.out]; refine (take_k HP1.out).mono ?_; rintro e w2 ⟨rfl, hs2, hk2⟩; have HG2 := Lib.hid (HG1.out.keeps hk2); have HD2 := Lib.hid (HD1.out.keeps hk2); have HP2 := Lib.hid hs2; have HK2 := Lib.hid (HK1.out.trans hk2); clear hs2 hk2; obtain ⟨g0, g1, g2, -⟩ := HD2.out.cells)
        | (go_at_call 27; refine (gtake_any g a1 a2 c1 c2 _ HG2.out hsm).mono ?_; rintro e w3 ⟨v, rfl, b1, d1, b2, d2, rfl, hG3, hb3⟩; have hk3 := SpKeeps.of_below (n₀ := n₀) (hb3.trans (((Below.refl w3.heap.size w3).alloc (Nat.le_refl _) (.cells #[.int .i64 g.take.1.most, .slice b1 g.take.1.now.length d1, .slice b2 g.take.1.last.length d2] 40)).mono hb3.size)) HP2.out.n_le; have HG3 := Lib.hid (hG3.below ((Below.refl w3.heap.size w3).alloc (Nat.le_refl _) (.cells #[.int .i64 g.take.1.most, .slice b1 g.take.1.now.length d1, .slice b2 g.take.1.last.length d2] 40))); have HD3 := Lib.hid (HD2.out.keeps hk3); have HP3 := Lib.hid (HP2.out.below (hb3.trans (((Below.refl w3.heap.size w3).alloc (Nat.le_refl _) (.cells #[.int .i64 g.take.1.most, .slice b1 g.take.1.now.length d1, .slice b2 g.take.1.last.length d2] 40)).mono hb3.size))); have HK3 := Lib.hid (HK2.out.trans hk3); clear hG3 hb3 hk3 g0 g1 g2; obtain ⟨-, -, -, -, -, r0, r1, r2, q0, q1, q2⟩ := HD3.out.cells; unfold gval))
      have hkf := HK3.out.set3 (k := S + 2) (by rw [HS.out]; omega) (by rw [HS.out]; exact HN.out) (.int .i64 g.take.1.most) (.slice b1 g.take.1.now.length d1) (.slice b2 g.take.1.last.length d2)
      have hr := set3_heap (.int .i64 g.take.1.most) (.slice b1 g.take.1.now.length d1) (.slice b2 g.take.1.last.length d2) HD3.out.res
      have hsf := HP3.out.set3 HD3.out.res (by decide) (.int .i64 g.take.1.most) (.slice b1 g.take.1.now.length d1) (.slice b2 g.take.1.last.length d2)
      have hgf := HG3.out.set3 HD3.out.res (by decide) (.int .i64 g.take.1.most) (.slice b1 g.take.1.now.length d1) (.slice b2 g.take.1.last.length d2)
      refine bodyPost_ret (results_cell_tmps rfl _ _ (S + 2) 40 _ (0, 0) rfl hr Try.underlying40 (by kernel_rfl)) rfl ?_
      rw [HOK.out]
      exact ⟨b1, d1, b2, d2, rfl, hgf, hsf, hkf⟩
  · have q1 : ((s.take.2.1 : Int) == (g.take.2.1 : Int)) = false := by simp; omega
    have e2 : True := trivial
    have HOK : Hid (decide (s.take.2 = g.take.2) = false) := Lib.hid (by rw [decide_eq_false_iff_not]; intro h; exact e1 (by rw [h]))
    clear e1 e2
    go_enter Try.func11, Try.ntmps11
    go_wp2_with (first
      | (go_at_call 10; rw [HS.out, HW.out]; refine (take_k HP1.out).mono ?_; rintro e w2 ⟨rfl, hs2, hk2⟩; have HG2 := Lib.hid (HG1.out.keeps hk2); have HD2 := Lib.hid (HD1.out.keeps hk2); have HP2 := Lib.hid hs2; have HK2 := Lib.hid (HK1.out.trans hk2); clear hs2 hk2; obtain ⟨g0, g1, g2, -⟩ := HD2.out.cells)
      | (go_at_call 27; refine (gtake_any g a1 a2 c1 c2 _ HG2.out hsm).mono ?_; rintro e w3 ⟨v, rfl, b1, d1, b2, d2, rfl, hG3, hb3⟩; have hk3 := SpKeeps.of_below (n₀ := n₀) (hb3.trans (((Below.refl w3.heap.size w3).alloc (Nat.le_refl _) (.cells #[.int .i64 g.take.1.most, .slice b1 g.take.1.now.length d1, .slice b2 g.take.1.last.length d2] 40)).mono hb3.size)) HP2.out.n_le; have HG3 := Lib.hid (hG3.below ((Below.refl w3.heap.size w3).alloc (Nat.le_refl _) (.cells #[.int .i64 g.take.1.most, .slice b1 g.take.1.now.length d1, .slice b2 g.take.1.last.length d2] 40))); have HD3 := Lib.hid (HD2.out.keeps hk3); have HP3 := Lib.hid (HP2.out.below (hb3.trans (((Below.refl w3.heap.size w3).alloc (Nat.le_refl _) (.cells #[.int .i64 g.take.1.most, .slice b1 g.take.1.now.length d1, .slice b2 g.take.1.last.length d2] 40)).mono hb3.size))); have HK3 := Lib.hid (HK2.out.trans hk3); clear hG3 hb3 hk3 g0 g1 g2; obtain ⟨-, -, -, -, -, r0, r1, r2, q0, q1, q2⟩ := HD3.out.cells; unfold gval))
    have hkf := HK3.out.set3 (k := S + 2) (by rw [HS.out]; omega) (by rw [HS.out]; exact HN.out) (.int .i64 g.take.1.most) (.slice b1 g.take.1.now.length d1) (.slice b2 g.take.1.last.length d2)
    have hr := set3_heap (.int .i64 g.take.1.most) (.slice b1 g.take.1.now.length d1) (.slice b2 g.take.1.last.length d2) HD3.out.res
    have hsf := HP3.out.set3 HD3.out.res (by decide) (.int .i64 g.take.1.most) (.slice b1 g.take.1.now.length d1) (.slice b2 g.take.1.last.length d2)
    have hgf := HG3.out.set3 HD3.out.res (by decide) (.int .i64 g.take.1.most) (.slice b1 g.take.1.now.length d1) (.slice b2 g.take.1.last.length d2)
    refine bodyPost_ret (results_cell_tmps rfl _ _ (S + 2) 40 _ (0, 0) rfl hr Try.underlying40 (by kernel_rfl)) rfl ?_
    rw [HOK.out]
    exact ⟨b1, d1, b2, d2, rfl, hgf, hsf, hkf⟩
end Go.Proofs.Ytmjjgdoekblelaa

/- Layer 2: the document's disk in memory; its Write. -/
import Derived.Test.YtkophpipehdkmaaRefD3
namespace Go.Proofs.Ytkophpipehdkmaa
open Go.RowKit

set_option maxRecDepth 100000 in
set_option maxHeartbeats 4000000 in
theorem gwrite_any {w : World} {la wa : Option Addr} {lc wc : Nat} {g : GD} (h : IsG w.heap.size w la lc wa wc g) (p : Int) (ab : Option Addr) (l : List UInt8) (cb : Nat) (hf : g.waits.length ≤ 1000000) (hm : BytesAt w.heap.size w ab l) :
    Calls Try.prog 23 #[gv la lc wa wc g, .int .i64 p, .slice ab l.length cb] w fun e w' => GPost w (g.write p l) e w' := by
  obtain ⟨L, hL⟩ : ∃ L, g.lasts.length = L := ⟨_, rfl⟩
  obtain ⟨n, hn⟩ : ∃ n, g.waits.length = n := ⟨_, rfl⟩
  have hgv : gv la lc wa wc g = .agg #[.slice la L lc, .slice wa n wc, .int .i64 g.k, .int .i64 g.l, .bool g.b, .int .i64 g.s] := by unfold gv rv; rw [hL, hn]
  have hB2 : Below w.heap.size w ((w.alloc (.cells #[.slice la L lc, .slice wa n wc, .int .i64 g.k, .int .i64 g.l, .bool g.b, .int .i64 g.s] 34)).alloc (.cells #[.slice la L lc, .slice wa n wc, .int .i64 g.k, .int .i64 g.l, .bool g.b, .int .i64 g.s] 34)) :=
    ((Below.refl _ _).alloc (Nat.le_refl _) _).alloc (by simp) _
  rw [hgv]
  by_cases h1 : l.length ≠ 256
  · have e1 : g.write p l = (g, 2) := by unfold GD.write; rw [if_pos h1]
    have P : GPost w (g, 2) (.returned (.tuple #[.agg #[.slice la L lc, .slice wa n wc, .int .i64 g.k, .int .i64 g.l, .bool g.b, .int .i64 g.s], .int .i64 2])) ((w.alloc (.cells #[.slice la L lc, .slice wa n wc, .int .i64 g.k, .int .i64 g.l, .bool g.b, .int .i64 g.s] 34)).alloc (.cells #[.slice la L lc, .slice wa n wc, .int .i64 g.k, .int .i64 g.l, .bool g.b, .int .i64 g.s] 34)) :=
      ⟨la, lc, wa, wc, by rw [← hgv], ⟨(h.below hB2).lasts.mono hB2.size, (h.below hB2).waits.mono hB2.size, h.lle, h.wle, h.wnone, h.lnone, h.fewl⟩, hB2⟩
    rw [e1]
    have HP := Lib.hid P
    have hne : ((l.length : Int) == 256) = false := by simp; omega
    have hne2 : ¬ ((l.length : Int) = 256) := by omega
    clear P e1 hB2 hgv hL hn h hm
    go_enter Try.func23, Try.ntmps23
    go_wp2
    refine bodyPost_ret (results_ref rfl _ _ _ _ _ _ rfl (heap_alloc_new' _ _ _) Try.underlying34 (by kernel_rfl)) rfl ?_
    exact HP.out
  · have h256 : l.length = 256 := by omega
    have hee : ((l.length : Int) == 256) = true := by simp; omega
    have hee2 : ((l.length : Int) = 256) := by omega
    by_cases h2 : p < 0 ∨ (g.lasts.length : Int) ≤ p
    · have e1 : g.write p l = (g, 4) := by unfold GD.write; rw [if_neg h1, if_pos h2]
      have P : GPost w (g, 4) (.returned (.tuple #[.agg #[.slice la L lc, .slice wa n wc, .int .i64 g.k, .int .i64 g.l, .bool g.b, .int .i64 g.s], .int .i64 4])) ((w.alloc (.cells #[.slice la L lc, .slice wa n wc, .int .i64 g.k, .int .i64 g.l, .bool g.b, .int .i64 g.s] 34)).alloc (.cells #[.slice la L lc, .slice wa n wc, .int .i64 g.k, .int .i64 g.l, .bool g.b, .int .i64 g.s] 34)) :=
        ⟨la, lc, wa, wc, by rw [← hgv], ⟨(h.below hB2).lasts.mono hB2.size, (h.below hB2).waits.mono hB2.size, h.lle, h.wle, h.wnone, h.lnone, h.fewl⟩, hB2⟩
      rw [e1]
      have HP := Lib.hid P
      rw [hL] at h2
      clear P e1 hB2 hgv hL hn h hm
      rcases h2 with h2 | h2
      · have hd : decide (p < 0) = true := decide_eq_true h2
        go_enter Try.func23, Try.ntmps23
        go_wp2
        refine bodyPost_ret (results_ref rfl _ _ _ _ _ _ rfl (heap_alloc_new' _ _ _) Try.underlying34 (by kernel_rfl)) rfl ?_
        exact HP.out
      · by_cases h3 : p < 0
        · exfalso; omega
        · have hd : decide (p < 0) = false := decide_eq_false h3
          have hd2 : decide ((L : Int) ≤ p) = true := decide_eq_true h2
          go_enter Try.func23, Try.ntmps23
          go_wp2
          refine bodyPost_ret (results_ref rfl _ _ _ _ _ _ rfl (heap_alloc_new' _ _ _) Try.underlying34 (by kernel_rfl)) rfl ?_
          exact HP.out
    · have e1 : g.write p l = if g.stepped.2 = 0 then ({ g.stepped.1 with waits := g.waits ++ [(p, ⟨l.toArray⟩)] }, 0) else g.stepped := by unfold GD.write; rw [if_neg h1, if_neg h2]
      rw [hL] at h2
      have hd : decide (p < 0) = false := decide_eq_false (by omega)
      have hd2 : decide ((L : Int) ≤ p) = false := decide_eq_false (by omega)
      rw [e1]
      unfold GD.stepped at *
      obtain ⟨r, hr⟩ : ∃ r, rstep g.k g.l g.b g.s = r := ⟨_, rfl⟩
      obtain ⟨rk, rl, rb, rs, rn⟩ := r
      have ST := Lib.hid (fun w => rstep_any la L lc wa n wc g.k g.l g.b g.s w)
      simp only [StepPost, rv, hr] at ST ⊢
      have HM := Lib.hid hm
      have HH := Lib.hid h
      clear e1 hgv hm h
      by_cases hrn : rn = 0
      · subst hrn
        rw [if_pos rfl]
        exact gwrite_ok p ab l cb L n hL hn rk rl rb rs hf hee2 hd hd2 ST HM HH
      · rw [if_neg hrn]
        have hrn2 : (rn == 0) = false := by simpa using hrn
        go_enter Try.func23, Try.ntmps23
        go_wp2_with (go_at_call 43; refine (ST.out _).mono ?_; rintro e w3 ⟨rfl, hb3⟩; have hr0 := (hb3.block w.heap.size (by simp; omega)).trans ((Below.heap_alloc _ _ _ (by simp)).trans (heap_alloc_new w (.cells #[.slice la L lc, .slice wa n wc, .int .i64 g.k, .int .i64 g.l, .bool g.b, .int .i64 g.s] 34))); have hr1 := (hb3.block (w.heap.size + 1) (by simp)).trans (heap_alloc_new' w (.cells #[.slice la L lc, .slice wa n wc, .int .i64 g.k, .int .i64 g.l, .bool g.b, .int .i64 g.s] 34) (.cells #[.slice none 0 0, .slice none 0 0, .int .i64 0, .int .i64 0, .bool false, .int .i64 0] 34)); have c00 := cell_of_row w3 w.heap.size 0 _ _ _ hr0; have f00 := frozen_of_row w3 w.heap.size 0 _ _ hr0; have c01 := cell_of_row w3 w.heap.size 1 _ _ _ hr0; have f01 := frozen_of_row w3 w.heap.size 1 _ _ hr0; have c02 := cell_of_row w3 w.heap.size 2 _ _ _ hr0; have f02 := frozen_of_row w3 w.heap.size 2 _ _ hr0; have c03 := cell_of_row w3 w.heap.size 3 _ _ _ hr0; have f03 := frozen_of_row w3 w.heap.size 3 _ _ hr0; have c04 := cell_of_row w3 w.heap.size 4 _ _ _ hr0; have f04 := frozen_of_row w3 w.heap.size 4 _ _ hr0; have c05 := cell_of_row w3 w.heap.size 5 _ _ _ hr0; have f05 := frozen_of_row w3 w.heap.size 5 _ _ hr0; have c10 := cell_of_row w3 (w.heap.size + 1) 0 _ _ _ hr1; have f10 := frozen_of_row w3 (w.heap.size + 1) 0 _ _ hr1; have c11 := cell_of_row w3 (w.heap.size + 1) 1 _ _ _ hr1; have f11 := frozen_of_row w3 (w.heap.size + 1) 1 _ _ hr1; have c12 := cell_of_row w3 (w.heap.size + 1) 2 _ _ _ hr1; have f12 := frozen_of_row w3 (w.heap.size + 1) 2 _ _ hr1; have c13 := cell_of_row w3 (w.heap.size + 1) 3 _ _ _ hr1; have f13 := frozen_of_row w3 (w.heap.size + 1) 3 _ _ hr1; have c14 := cell_of_row w3 (w.heap.size + 1) 4 _ _ _ hr1; have f14 := frozen_of_row w3 (w.heap.size + 1) 4 _ _ hr1; have c15 := cell_of_row w3 (w.heap.size + 1) 5 _ _ _ hr1; have f15 := frozen_of_row w3 (w.heap.size + 1) 5 _ _ hr1; simp only [List.getElem?_toArray, List.getElem?_cons_zero, List.getElem?_cons_succ] at c00 c01 c02 c03 c04 c05 c10 c11 c12 c13 c14 c15)
        have g0 := set6_grown w3 w.heap.size (.slice la L lc) (.slice wa n wc) (.int .i64 rk) (.int .i64 rl) (.bool rb) (.int .i64 rs)
        have h16 := (g0.block (w.heap.size + 1) (Array.getElem?_eq_some_iff.1 hr1).1 (by simp)).trans hr1
        refine bodyPost_ret (results_ref rfl _ _ _ _ _ _ rfl (set6_heap _ _ _ _ _ _ h16) Try.underlying34 (by kernel_rfl)) rfl ?_
        have hbA : Below w.heap.size w w3 := (((Below.refl _ _).alloc (Nat.le_refl _) _).alloc (by simp) _).trans (hb3.mono (by simp; omega))
        have hbB := (hbA.grown g0 hbA.size (fun k e => by cases e; exact Nat.le_refl _)).grown (set6_grown _ (w.heap.size + 1) (.slice la L lc) (.slice wa n wc) (.int .i64 rk) (.int .i64 rl) (.bool rb) (.int .i64 rs)) (Nat.le_trans hbA.size g0.size) (fun k e => by cases e; omega)
        have hI := HH.out.below hbB
        exact ⟨la, lc, wa, wc, by unfold gv rv; rw [hL, hn]; rfl, ⟨hI.lasts.mono hbB.size, hI.waits.mono hbB.size, hI.lle, hI.wle, hI.wnone, hI.lnone, hI.fewl⟩, hbB⟩
end Go.Proofs.Ytkophpipehdkmaa

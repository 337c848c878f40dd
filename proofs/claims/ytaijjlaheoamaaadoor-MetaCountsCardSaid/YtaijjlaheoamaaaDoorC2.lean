/- Texts of the proof in one file, in build order: MetaS, MetaCounts, MetaCountsCard. -/
import Derived.Test.YtaijjlaheoamaaaDoorC1
import Derived.Test.YtaijjlaheoamaaaDoorG6
/- Layer 6: the document's Counts. -/
namespace Go.Proofs.YtaijjlaheoamaaaDoor
open Go.RowKit

theorem opt_one {n : Int} {b : List UInt8} {o o' : Option Mt} (h : Opt n b o) (h' : Opt n b o') : o = o' := by
  cases o with
  | none => cases o' with
    | none => rfl
    | some m => exact absurd h' (h m)
  | some m => cases o' with
    | none => exact absurd h (h' m)
    | some m' => rw [isMt_one h h']
set_option maxRecDepth 100000 in
set_option maxHeartbeats 8000000 in
theorem dcounts_any (a1 a2 : Option Addr) (la lb : List UInt8) (c1 c2 : Nat) (oa ob : Option Mt) (hoa : Opt 0 la oa) (hob : Opt 1 lb ob) (w : World) (n₁ : Nat) (hn₁ : n₁ ≤ w.heap.size)
    (hA : BsAt n₁ w a1 la c1) (hB : BsAt n₁ w a2 lb c2) :
    Calls Tryd.prog 10 #[.slice a1 la.length c1, .slice a2 lb.length c2] w fun e w' => e = .returned (.tuple #[optM (cnt oa ob), .bool (cnt oa ob).isSome]) ∧ Below w.heap.size w w' := by
  have hb0 : Below w.heap.size w (w.alloc (.cells #[.int .i64 0, .int .i64 0, .int .i64 0, .int .i64 0] 25)) := (Below.refl _ _).alloc (Nat.le_refl _) _
  have hr0 := heap_alloc_new w (.cells #[.int .i64 0, .int .i64 0, .int .i64 0, .int .i64 0] 25)
  have HB := Lib.hid (And.intro hb0 hr0)
  have hp0 := dparse_any 0 la a1 c1 n₁ hA.2.2.1 hA.2.2.2 _ (hA.1.below (hb0.mono hn₁)) (Nat.le_trans hn₁ hb0.size) hA.2.1
  have hp1 := fun w' (h : Below w.heap.size w w') => dparse_any 1 lb a2 c2 n₁ hB.2.2.1 hB.2.2.2 w' (hB.1.below (h.mono hn₁)) (Nat.le_trans hn₁ h.size) hB.2.1
  obtain ⟨ka, hka⟩ : ∃ k, la.length = k := ⟨_, rfl⟩
  obtain ⟨kb, hkb⟩ : ∃ k, lb.length = k := ⟨_, rfl⟩
  rw [hka] at hp0 ⊢
  rw [hkb]
  simp only [hkb] at hp1
  have H0 := Lib.hid hp0
  have H1 := Lib.hid hp1
  have HO := Lib.hid (And.intro hoa hob)
  obtain ⟨res, hres⟩ : ∃ r, cnt oa ob = r := ⟨_, rfl⟩
  rw [hres]
  have HRS := Lib.hid hres
  clear hb0 hr0 hp0 hp1 hA hB hn₁ hoa hob hka hkb hres
  go_enter Tryd.func10, Tryd.ntmps10
  go_wp2_with fail
  refine H0.out.mono ?_
  rintro e w1 ⟨o, ho, rfl, hb1⟩
  have hoe := opt_one ho HO.out.1
  subst hoe
  have hb := go_on HB.out.1 hb1
  have hR1 := go_row HB.out.2 hb1
  have hlt := (Array.getElem?_eq_some_iff.1 hR1).1
  cases o with
  | none =>
    have hal := (Below.refl w1.heap.size w1).alloc (Nat.le_refl _) (.cells #[.int .i64 0, .int .i64 0, .int .i64 0, .int .i64 0] 25)
    have hX := heap_alloc_new w1 (.cells #[.int .i64 0, .int .i64 0, .int .i64 0, .int .i64 0] 25)
    have HX := Lib.hid (And.intro (go_on hb hal) (And.intro (go_row hR1 hal) hX))
    have ee0 : (optE 0 la none == 0) = false := by simpa [optE] using errM_ne 0 la
    have ee1 : (optE 0 la none != 0) = true := by simpa [optE] using errM_ne 0 la
    rw [show optM none = mtv 0 0 0 0 from rfl]
    generalize optE 0 la none = ea at ee0 ee1
    clear hal hX hb hR1 hb1 ho HB H0 hlt
    go_wp2_with fail
    refine (H1.out _ HX.out.1).mono ?_
    rintro e w2 ⟨o2, ho2, rfl, hb2⟩
    have hoe := opt_one ho2 HO.out.2
    subst hoe
    have hb := go_on HX.out.1 hb2
    have hR1 := go_row HX.out.2.1 hb2
    have hRx := go_row HX.out.2.2 hb2
    have hlt := (Array.getElem?_eq_some_iff.1 hR1).1
    have hltx := (Array.getElem?_eq_some_iff.1 hRx).1
    have d0 := cell_of_row w2 w.heap.size 0 _ _ _ hR1; have fd0 := frozen_of_row w2 w.heap.size 0 _ _ hR1
    have d1 := cell_of_row w2 w.heap.size 1 _ _ _ hR1; have fd1 := frozen_of_row w2 w.heap.size 1 _ _ hR1
    have d2 := cell_of_row w2 w.heap.size 2 _ _ _ hR1; have fd2 := frozen_of_row w2 w.heap.size 2 _ _ hR1
    have d3 := cell_of_row w2 w.heap.size 3 _ _ _ hR1; have fd3 := frozen_of_row w2 w.heap.size 3 _ _ hR1
    simp only [List.getElem?_toArray, List.getElem?_cons_zero, List.getElem?_cons_succ] at d0 d1 d2 d3
    have x0 := cell_of_row w2 w1.heap.size 0 _ _ _ hRx
    have x1 := cell_of_row w2 w1.heap.size 1 _ _ _ hRx
    have x2 := cell_of_row w2 w1.heap.size 2 _ _ _ hRx
    have x3 := cell_of_row w2 w1.heap.size 3 _ _ _ hRx
    simp only [List.getElem?_toArray, List.getElem?_cons_zero, List.getElem?_cons_succ] at x0 x1 x2 x3
    have HX2 := Lib.hid (And.intro hR1 hb)
    clear hR1 hb hRx hb2 HX H1 ho2
    cases o2 with
    | none =>
      have gg0 : (optE 1 lb none == 0) = false := by simpa [optE] using errM_ne 1 lb
      rw [show optM none = mtv 0 0 0 0 from rfl]
      generalize optE 1 lb none = eb at gg0
      have hres : res = none := by
        rw [← HRS.out]
        rfl
      subst hres
      go_wp2
      obtain ⟨hR1, hb⟩ := HX2.out
      have hg1 := set4_grown w2 w.heap.size (.int .i64 0) (.int .i64 0) (.int .i64 0) (.int .i64 0)
      have hR2 := set4_heap (.int .i64 0) (.int .i64 0) (.int .i64 0) (.int .i64 0) hR1
      have hbf := hb.grown hg1 hb.size (fun q e => by cases e; exact Nat.le_refl _)
      refine bodyPost_ret (results_ct rfl _ _ _ _ _ _ rfl ((Below.heap_alloc _ _ _ (Array.getElem?_eq_some_iff.1 hR2).1).trans hR2) Tryd.underlying25 (by kernel_rfl)) rfl ?_
      exact ⟨rfl, hbf.alloc hbf.size _⟩
    | some y =>
      rw [show optM (some y) = y.val from rfl, show optE 1 lb (some y) = 0 from rfl]
      have hres : res = some y := by
        rw [← HRS.out]
        rfl
      subst hres
      go_wp2
      obtain ⟨hR1, hb⟩ := HX2.out
      have hg1 := set4_grown w2 w.heap.size (.int .i64 y.t) (.int .i64 y.r) (.int .i64 y.f) (.int .i64 y.h)
      have hR2 := set4_heap (.int .i64 y.t) (.int .i64 y.r) (.int .i64 y.f) (.int .i64 y.h) hR1
      have hbf := hb.grown hg1 hb.size (fun q e => by cases e; exact Nat.le_refl _)
      refine bodyPost_ret (results_ct rfl _ _ _ _ _ _ rfl ((Below.heap_alloc _ _ _ (Array.getElem?_eq_some_iff.1 hR2).1).trans hR2) Tryd.underlying25 (by kernel_rfl)) rfl ?_
      exact ⟨rfl, hbf.alloc hbf.size _⟩
  | some x =>
    have hal := (Below.refl w1.heap.size w1).alloc (Nat.le_refl _) (.cells #[.int .i64 x.t, .int .i64 x.r, .int .i64 x.f, .int .i64 x.h] 25)
    have hX := heap_alloc_new w1 (.cells #[.int .i64 x.t, .int .i64 x.r, .int .i64 x.f, .int .i64 x.h] 25)
    have HX := Lib.hid (And.intro (go_on hb hal) (And.intro (go_row hR1 hal) hX))
    rw [show optM (some x) = x.val from rfl, show optE 0 la (some x) = 0 from rfl]
    clear hal hX hb hR1 hb1 ho HB H0 hlt
    go_wp2_with fail
    refine (H1.out _ HX.out.1).mono ?_
    rintro e w2 ⟨o2, ho2, rfl, hb2⟩
    have hoe := opt_one ho2 HO.out.2
    subst hoe
    have hb := go_on HX.out.1 hb2
    have hR1 := go_row HX.out.2.1 hb2
    have hRx := go_row HX.out.2.2 hb2
    have hlt := (Array.getElem?_eq_some_iff.1 hR1).1
    have hltx := (Array.getElem?_eq_some_iff.1 hRx).1
    have d0 := cell_of_row w2 w.heap.size 0 _ _ _ hR1; have fd0 := frozen_of_row w2 w.heap.size 0 _ _ hR1
    have d1 := cell_of_row w2 w.heap.size 1 _ _ _ hR1; have fd1 := frozen_of_row w2 w.heap.size 1 _ _ hR1
    have d2 := cell_of_row w2 w.heap.size 2 _ _ _ hR1; have fd2 := frozen_of_row w2 w.heap.size 2 _ _ hR1
    have d3 := cell_of_row w2 w.heap.size 3 _ _ _ hR1; have fd3 := frozen_of_row w2 w.heap.size 3 _ _ hR1
    simp only [List.getElem?_toArray, List.getElem?_cons_zero, List.getElem?_cons_succ] at d0 d1 d2 d3
    have x0 := cell_of_row w2 w1.heap.size 0 _ _ _ hRx
    have x1 := cell_of_row w2 w1.heap.size 1 _ _ _ hRx
    have x2 := cell_of_row w2 w1.heap.size 2 _ _ _ hRx
    have x3 := cell_of_row w2 w1.heap.size 3 _ _ _ hRx
    simp only [List.getElem?_toArray, List.getElem?_cons_zero, List.getElem?_cons_succ] at x0 x1 x2 x3
    have HX2 := Lib.hid (And.intro hR1 hb)
    clear hR1 hb hRx hb2 HX H1 ho2
    cases o2 with
    | none =>
      have gg0 : (optE 1 lb none == 0) = false := by simpa [optE] using errM_ne 1 lb
      rw [show optM none = mtv 0 0 0 0 from rfl]
      generalize optE 1 lb none = eb at gg0
      have hres : res = some x := by
        rw [← HRS.out]
        rfl
      subst hres
      go_wp2
      obtain ⟨hR1, hb⟩ := HX2.out
      have hg1 := set4_grown w2 w.heap.size (.int .i64 x.t) (.int .i64 x.r) (.int .i64 x.f) (.int .i64 x.h)
      have hR2 := set4_heap (.int .i64 x.t) (.int .i64 x.r) (.int .i64 x.f) (.int .i64 x.h) hR1
      have hbf := hb.grown hg1 hb.size (fun q e => by cases e; exact Nat.le_refl _)
      refine bodyPost_ret (results_ct rfl _ _ _ _ _ _ rfl ((Below.heap_alloc _ _ _ (Array.getElem?_eq_some_iff.1 hR2).1).trans hR2) Tryd.underlying25 (by kernel_rfl)) rfl ?_
      exact ⟨rfl, hbf.alloc hbf.size _⟩
    | some y =>
      rw [show optM (some y) = y.val from rfl, show optE 1 lb (some y) = 0 from rfl]
      by_cases hlq : (x.t : Int) < (y.t : Int)
      · skip
        have hres : res = some y := by
          rw [← HRS.out]
          show gstep (some x) y = _; simp only [gstep]; rw [if_pos (by omega)]
        subst hres
        go_wp2
        obtain ⟨hR1, hb⟩ := HX2.out
        have hg1 := set4_grown w2 w.heap.size (.int .i64 y.t) (.int .i64 y.r) (.int .i64 y.f) (.int .i64 y.h)
        have hR2 := set4_heap (.int .i64 y.t) (.int .i64 y.r) (.int .i64 y.f) (.int .i64 y.h) hR1
        have hbf := hb.grown hg1 hb.size (fun q e => by cases e; exact Nat.le_refl _)
        refine bodyPost_ret (results_ct rfl _ _ _ _ _ _ rfl ((Below.heap_alloc _ _ _ (Array.getElem?_eq_some_iff.1 hR2).1).trans hR2) Tryd.underlying25 (by kernel_rfl)) rfl ?_
        exact ⟨rfl, hbf.alloc hbf.size _⟩
      · skip
        have hres : res = some x := by
          rw [← HRS.out]
          show gstep (some x) y = _; simp only [gstep]; rw [if_neg (by omega)]
        subst hres
        go_wp2
        obtain ⟨hR1, hb⟩ := HX2.out
        have hg1 := set4_grown w2 w.heap.size (.int .i64 x.t) (.int .i64 x.r) (.int .i64 x.f) (.int .i64 x.h)
        have hR2 := set4_heap (.int .i64 x.t) (.int .i64 x.r) (.int .i64 x.f) (.int .i64 x.h) hR1
        have hbf := hb.grown hg1 hb.size (fun q e => by cases e; exact Nat.le_refl _)
        refine bodyPost_ret (results_ct rfl _ _ _ _ _ _ rfl ((Below.heap_alloc _ _ _ (Array.getElem?_eq_some_iff.1 hR2).1).trans hR2) Tryd.underlying25 (by kernel_rfl)) rfl ?_
        exact ⟨rfl, hbf.alloc hbf.size _⟩
end Go.Proofs.YtaijjlaheoamaaaDoor
/- Layer 6: the law on which meta counts. -/
namespace Go.Proofs.YtaijjlaheoamaaaDoor
open Go.RowKit

set_option maxRecDepth 100000 in
set_option maxHeartbeats 16000000 in
theorem metaCounts_any (a1 a2 : Option Addr) (la lb : List UInt8) (c1 c2 : Nat) (n : Int) (w : World) (hA : BsAt w.heap.size w a1 la c1) (hB : BsAt w.heap.size w a2 lb c2) (hT : Tab w) (hg : 0 + 1 ≤ w.heap.size) :
    Calls Tryd.prog 3 #[.slice a1 la.length c1, .slice a2 lb.length c2, .int .i64 n] w fun e w' => e = .returned (.bool true) ∧ Below w.heap.size w w' := by
  have HK := Lib.hid (fun W (h : Below w.heap.size w W) => mknown_any W (hT.below hg h) (Nat.le_trans hg h.size))
  obtain ⟨ka, hka⟩ : ∃ k, la.length = k := ⟨_, rfl⟩
  obtain ⟨kb, hkb⟩ : ∃ k, lb.length = k := ⟨_, rfl⟩
  by_cases h1 : 300 < ka
  · have hd : decide ((300 : Int) < (ka : Int)) = true := by simp; omega
    rw [hka, hkb]
    have HKN := Lib.hid (HK.out w (Below.refl _ _))
    clear hA hB hT hg hka hkb HK
    go_enter Tryd.func3, Tryd.ntmps3
    go_wp2_with (go_at_call 8; refine HKN.out.mono ?_; rintro e w' ⟨rfl, hb'⟩)
    go_ret
    exact ⟨rfl, hb'⟩
  have hd1 : decide ((300 : Int) < (ka : Int)) = false := by simp; omega
  by_cases h2 : 300 < kb
  · have hd : decide ((300 : Int) < (kb : Int)) = true := by simp; omega
    rw [hka, hkb]
    have HKN := Lib.hid (HK.out w (Below.refl _ _))
    clear hA hB hT hg hka hkb HK
    go_enter Tryd.func3, Tryd.ntmps3
    go_wp2_with (go_at_call 8; refine HKN.out.mono ?_; rintro e w' ⟨rfl, hb'⟩)
    go_ret
    exact ⟨rfl, hb'⟩
  have hd2 : decide ((300 : Int) < (kb : Int)) = false := by simp; omega
  obtain ⟨oa, hoa⟩ := opt_some 0 la
  obtain ⟨ob, hob⟩ := opt_some 1 lb
  obtain ⟨on, hon⟩ := opt_some n la
  have hcn := fun W (h : Below w.heap.size w W) => counts_any a1 a2 la lb c1 c2 oa ob hoa hob W w.heap.size h.size ⟨hA.1.below h, hA.2⟩ ⟨hB.1.below h, hB.2⟩ (hT.below hg h) (Nat.le_trans hg h.size)
  have hdc := fun W (h : Below w.heap.size w W) => dcounts_any a1 a2 la lb c1 c2 oa ob hoa hob W w.heap.size h.size ⟨hA.1.below h, hA.2⟩ ⟨hB.1.below h, hB.2⟩
  have hpa := fun W (h : Below w.heap.size w W) => mparse_opt n la a1 c1 w.heap.size hA.2.2.1 hA.2.2.2 W (hA.1.below h) h.size hA.2.1 (hT.below hg h) (Nat.le_trans hg h.size) on hon
  have hdp := fun W (h : Below w.heap.size w W) => dparse_any n la a1 c1 w.heap.size hA.2.2.1 hA.2.2.2 W (hA.1.below h) h.size hA.2.1
  simp only [hka] at hcn hdc hpa hdp
  simp only [hkb] at hcn hdc
  rw [hka, hkb]
  obtain ⟨res, hres⟩ : ∃ r, cnt oa ob = r := ⟨_, rfl⟩
  simp only [hres] at hcn hdc
  have HC := Lib.hid hcn
  have HD := Lib.hid hdc
  have HP := Lib.hid hpa
  have HQ := Lib.hid (And.intro hdp hon)
  clear hcn hdc hpa hdp hA hB hT hg hka hkb hoa hob hon hres
  go_enter Tryd.func3, Tryd.ntmps3
  go_wp2_with fail
  refine (HC.out w (Below.refl _ _)).mono ?_
  rintro e w1 ⟨rfl, hb1⟩
  cases res with
  | none =>
    cases on with
    | none =>
      rw [show optM (none) = mtv 0 0 0 0 from rfl, show cntE (none) = 160 from rfl]
      have hal1 := hb1.alloc hb1.size (.cells #[.int .i64 0, .int .i64 0, .int .i64 0, .int .i64 0] 25)
      have H1 := Lib.hid (And.intro hal1 (heap_alloc_new w1 (.cells #[.int .i64 0, .int .i64 0, .int .i64 0, .int .i64 0] 25)))
      have HDD := Lib.hid (HD.out _ hal1)
      clear hal1 hb1 HC HD
      go_wp2_with fail
      refine HDD.out.mono ?_
      rintro e w2 ⟨rfl, hb2⟩
      rw [show optM (none) = mtv 0 0 0 0 from rfl, show (none : Option Mt).isSome = false from rfl]
      have hal := (Below.refl w2.heap.size w2).alloc (Nat.le_refl _) (.cells #[.int .i64 0, .int .i64 0, .int .i64 0, .int .i64 0] 25)
      have hbw := go_on (go_on H1.out.1 hb2) hal
      have H2 := Lib.hid (And.intro hbw (And.intro (go_row (go_row H1.out.2 hb2) hal) (heap_alloc_new w2 (.cells #[.int .i64 0, .int .i64 0, .int .i64 0, .int .i64 0] 25))))
      have HPP := Lib.hid (HP.out _ hbw)
      clear hal hbw hb2 H1 HDD HP
      go_wp2_with fail
      refine HPP.out.mono ?_
      rintro e w3 ⟨rfl, hb3⟩
      rw [show optM (none) = mtv 0 0 0 0 from rfl]
      obtain ⟨pe, hpe⟩ : ∃ p, optE n la (none) = p := ⟨_, rfl⟩
      rw [hpe]
      have HPE := Lib.hid hpe
      have hal := (Below.refl w3.heap.size w3).alloc (Nat.le_refl _) (.cells #[.int .i64 0, .int .i64 0, .int .i64 0, .int .i64 0] 25)
      have hbw := go_on (go_on H2.out.1 hb3) hal
      have H3 := Lib.hid (And.intro hbw (And.intro (go_row (go_row H2.out.2.1 hb3) hal) (And.intro (go_row (go_row H2.out.2.2 hb3) hal) (heap_alloc_new w3 (.cells #[.int .i64 0, .int .i64 0, .int .i64 0, .int .i64 0] 25)))))
      have HQQ := Lib.hid (HQ.out.1 _ hbw)
      clear hal hbw hb3 H2 HPP hpe
      go_wp2_with fail
      refine HQQ.out.mono ?_
      rintro e w4 ⟨o4, ho4, rfl, hb4⟩
      have hoe := opt_one ho4 HQ.out.2
      subst hoe
      rw [show optM (none) = mtv 0 0 0 0 from rfl, HPE.out]
      obtain ⟨hbw3, r1, r2, r3⟩ := H3.out
      have r1 := go_row r1 hb4
      have r2 := go_row r2 hb4
      have r3 := go_row r3 hb4
      have l1 := (Array.getElem?_eq_some_iff.1 r1).1
      have l2 := (Array.getElem?_eq_some_iff.1 r2).1
      have l3 := (Array.getElem?_eq_some_iff.1 r3).1
      have p0 := cell_of_row w4 _ 0 _ _ _ r1
      have p1 := cell_of_row w4 _ 1 _ _ _ r1
      have p2 := cell_of_row w4 _ 2 _ _ _ r1
      have p3 := cell_of_row w4 _ 3 _ _ _ r1
      simp only [List.getElem?_toArray, List.getElem?_cons_zero, List.getElem?_cons_succ] at p0 p1 p2 p3
      have q0 := cell_of_row w4 _ 0 _ _ _ r2
      have q1 := cell_of_row w4 _ 1 _ _ _ r2
      have q2 := cell_of_row w4 _ 2 _ _ _ r2
      have q3 := cell_of_row w4 _ 3 _ _ _ r2
      simp only [List.getElem?_toArray, List.getElem?_cons_zero, List.getElem?_cons_succ] at q0 q1 q2 q3
      have s0 := cell_of_row w4 _ 0 _ _ _ r3
      have s1 := cell_of_row w4 _ 1 _ _ _ r3
      have s2 := cell_of_row w4 _ 2 _ _ _ r3
      have s3 := cell_of_row w4 _ 3 _ _ _ r3
      simp only [List.getElem?_toArray, List.getElem?_cons_zero, List.getElem?_cons_succ] at s0 s1 s2 s3
      have hbf := (go_on hbw3 hb4).alloc (go_on hbw3 hb4).size (.cells #[.int .i64 0, .int .i64 0, .int .i64 0, .int .i64 0] 25)
      have HKN := Lib.hid (And.intro hbf (HK.out _ hbf))
      clear hbw3 r1 r2 r3 hb4 hbf H3 HQQ ho4 HK HQ
      go_wp2_with (go_at_call 8; refine HKN.out.2.mono ?_; rintro e w8 ⟨rfl, hb8⟩; have HB8 := Lib.hid hb8; clear hb8)
      go_ret
      exact ⟨rfl, go_on HKN.out.1 HB8.out⟩
    | some x =>
      rw [show optM (none) = mtv 0 0 0 0 from rfl, show cntE (none) = 160 from rfl]
      have hal1 := hb1.alloc hb1.size (.cells #[.int .i64 0, .int .i64 0, .int .i64 0, .int .i64 0] 25)
      have H1 := Lib.hid (And.intro hal1 (heap_alloc_new w1 (.cells #[.int .i64 0, .int .i64 0, .int .i64 0, .int .i64 0] 25)))
      have HDD := Lib.hid (HD.out _ hal1)
      clear hal1 hb1 HC HD
      go_wp2_with fail
      refine HDD.out.mono ?_
      rintro e w2 ⟨rfl, hb2⟩
      rw [show optM (none) = mtv 0 0 0 0 from rfl, show (none : Option Mt).isSome = false from rfl]
      have hal := (Below.refl w2.heap.size w2).alloc (Nat.le_refl _) (.cells #[.int .i64 0, .int .i64 0, .int .i64 0, .int .i64 0] 25)
      have hbw := go_on (go_on H1.out.1 hb2) hal
      have H2 := Lib.hid (And.intro hbw (And.intro (go_row (go_row H1.out.2 hb2) hal) (heap_alloc_new w2 (.cells #[.int .i64 0, .int .i64 0, .int .i64 0, .int .i64 0] 25))))
      have HPP := Lib.hid (HP.out _ hbw)
      clear hal hbw hb2 H1 HDD HP
      go_wp2_with fail
      refine HPP.out.mono ?_
      rintro e w3 ⟨rfl, hb3⟩
      rw [show optM (some x) = x.val from rfl]
      obtain ⟨pe, hpe⟩ : ∃ p, optE n la (some x) = p := ⟨_, rfl⟩
      rw [hpe]
      have HPE := Lib.hid hpe
      have hal := (Below.refl w3.heap.size w3).alloc (Nat.le_refl _) (.cells #[.int .i64 x.t, .int .i64 x.r, .int .i64 x.f, .int .i64 x.h] 25)
      have hbw := go_on (go_on H2.out.1 hb3) hal
      have H3 := Lib.hid (And.intro hbw (And.intro (go_row (go_row H2.out.2.1 hb3) hal) (And.intro (go_row (go_row H2.out.2.2 hb3) hal) (heap_alloc_new w3 (.cells #[.int .i64 x.t, .int .i64 x.r, .int .i64 x.f, .int .i64 x.h] 25)))))
      have HQQ := Lib.hid (HQ.out.1 _ hbw)
      clear hal hbw hb3 H2 HPP hpe
      go_wp2_with fail
      refine HQQ.out.mono ?_
      rintro e w4 ⟨o4, ho4, rfl, hb4⟩
      have hoe := opt_one ho4 HQ.out.2
      subst hoe
      rw [show optM (some x) = x.val from rfl, HPE.out]
      obtain ⟨hbw3, r1, r2, r3⟩ := H3.out
      have r1 := go_row r1 hb4
      have r2 := go_row r2 hb4
      have r3 := go_row r3 hb4
      have l1 := (Array.getElem?_eq_some_iff.1 r1).1
      have l2 := (Array.getElem?_eq_some_iff.1 r2).1
      have l3 := (Array.getElem?_eq_some_iff.1 r3).1
      have p0 := cell_of_row w4 _ 0 _ _ _ r1
      have p1 := cell_of_row w4 _ 1 _ _ _ r1
      have p2 := cell_of_row w4 _ 2 _ _ _ r1
      have p3 := cell_of_row w4 _ 3 _ _ _ r1
      simp only [List.getElem?_toArray, List.getElem?_cons_zero, List.getElem?_cons_succ] at p0 p1 p2 p3
      have q0 := cell_of_row w4 _ 0 _ _ _ r2
      have q1 := cell_of_row w4 _ 1 _ _ _ r2
      have q2 := cell_of_row w4 _ 2 _ _ _ r2
      have q3 := cell_of_row w4 _ 3 _ _ _ r2
      simp only [List.getElem?_toArray, List.getElem?_cons_zero, List.getElem?_cons_succ] at q0 q1 q2 q3
      have s0 := cell_of_row w4 _ 0 _ _ _ r3
      have s1 := cell_of_row w4 _ 1 _ _ _ r3
      have s2 := cell_of_row w4 _ 2 _ _ _ r3
      have s3 := cell_of_row w4 _ 3 _ _ _ r3
      simp only [List.getElem?_toArray, List.getElem?_cons_zero, List.getElem?_cons_succ] at s0 s1 s2 s3
      have hbf := (go_on hbw3 hb4).alloc (go_on hbw3 hb4).size (.cells #[.int .i64 x.t, .int .i64 x.r, .int .i64 x.f, .int .i64 x.h] 25)
      have HKN := Lib.hid (And.intro hbf (HK.out _ hbf))
      clear hbw3 r1 r2 r3 hb4 hbf H3 HQQ ho4 HK HQ
      go_wp2_with (go_at_call 8; refine HKN.out.2.mono ?_; rintro e w8 ⟨rfl, hb8⟩; have HB8 := Lib.hid hb8; clear hb8)
      go_ret
      exact ⟨rfl, go_on HKN.out.1 HB8.out⟩
  | some m =>
    cases on with
    | none =>
      rw [show optM (some m) = m.val from rfl, show cntE (some m) = 0 from rfl]
      have hal1 := hb1.alloc hb1.size (.cells #[.int .i64 m.t, .int .i64 m.r, .int .i64 m.f, .int .i64 m.h] 25)
      have H1 := Lib.hid (And.intro hal1 (heap_alloc_new w1 (.cells #[.int .i64 m.t, .int .i64 m.r, .int .i64 m.f, .int .i64 m.h] 25)))
      have HDD := Lib.hid (HD.out _ hal1)
      clear hal1 hb1 HC HD
      go_wp2_with fail
      refine HDD.out.mono ?_
      rintro e w2 ⟨rfl, hb2⟩
      rw [show optM (some m) = m.val from rfl, show (some m : Option Mt).isSome = true from rfl]
      have hal := (Below.refl w2.heap.size w2).alloc (Nat.le_refl _) (.cells #[.int .i64 m.t, .int .i64 m.r, .int .i64 m.f, .int .i64 m.h] 25)
      have hbw := go_on (go_on H1.out.1 hb2) hal
      have H2 := Lib.hid (And.intro hbw (And.intro (go_row (go_row H1.out.2 hb2) hal) (heap_alloc_new w2 (.cells #[.int .i64 m.t, .int .i64 m.r, .int .i64 m.f, .int .i64 m.h] 25))))
      have HPP := Lib.hid (HP.out _ hbw)
      clear hal hbw hb2 H1 HDD HP
      go_wp2_with fail
      refine HPP.out.mono ?_
      rintro e w3 ⟨rfl, hb3⟩
      rw [show optM (none) = mtv 0 0 0 0 from rfl]
      obtain ⟨pe, hpe⟩ : ∃ p, optE n la (none) = p := ⟨_, rfl⟩
      rw [hpe]
      have HPE := Lib.hid hpe
      have hal := (Below.refl w3.heap.size w3).alloc (Nat.le_refl _) (.cells #[.int .i64 0, .int .i64 0, .int .i64 0, .int .i64 0] 25)
      have hbw := go_on (go_on H2.out.1 hb3) hal
      have H3 := Lib.hid (And.intro hbw (And.intro (go_row (go_row H2.out.2.1 hb3) hal) (And.intro (go_row (go_row H2.out.2.2 hb3) hal) (heap_alloc_new w3 (.cells #[.int .i64 0, .int .i64 0, .int .i64 0, .int .i64 0] 25)))))
      have HQQ := Lib.hid (HQ.out.1 _ hbw)
      clear hal hbw hb3 H2 HPP hpe
      go_wp2_with fail
      refine HQQ.out.mono ?_
      rintro e w4 ⟨o4, ho4, rfl, hb4⟩
      have hoe := opt_one ho4 HQ.out.2
      subst hoe
      rw [show optM (none) = mtv 0 0 0 0 from rfl, HPE.out]
      obtain ⟨hbw3, r1, r2, r3⟩ := H3.out
      have r1 := go_row r1 hb4
      have r2 := go_row r2 hb4
      have r3 := go_row r3 hb4
      have l1 := (Array.getElem?_eq_some_iff.1 r1).1
      have l2 := (Array.getElem?_eq_some_iff.1 r2).1
      have l3 := (Array.getElem?_eq_some_iff.1 r3).1
      have p0 := cell_of_row w4 _ 0 _ _ _ r1
      have p1 := cell_of_row w4 _ 1 _ _ _ r1
      have p2 := cell_of_row w4 _ 2 _ _ _ r1
      have p3 := cell_of_row w4 _ 3 _ _ _ r1
      simp only [List.getElem?_toArray, List.getElem?_cons_zero, List.getElem?_cons_succ] at p0 p1 p2 p3
      have q0 := cell_of_row w4 _ 0 _ _ _ r2
      have q1 := cell_of_row w4 _ 1 _ _ _ r2
      have q2 := cell_of_row w4 _ 2 _ _ _ r2
      have q3 := cell_of_row w4 _ 3 _ _ _ r2
      simp only [List.getElem?_toArray, List.getElem?_cons_zero, List.getElem?_cons_succ] at q0 q1 q2 q3
      have s0 := cell_of_row w4 _ 0 _ _ _ r3
      have s1 := cell_of_row w4 _ 1 _ _ _ r3
      have s2 := cell_of_row w4 _ 2 _ _ _ r3
      have s3 := cell_of_row w4 _ 3 _ _ _ r3
      simp only [List.getElem?_toArray, List.getElem?_cons_zero, List.getElem?_cons_succ] at s0 s1 s2 s3
      have hbf := (go_on hbw3 hb4).alloc (go_on hbw3 hb4).size (.cells #[.int .i64 0, .int .i64 0, .int .i64 0, .int .i64 0] 25)
      have HKN := Lib.hid (And.intro hbf (HK.out _ hbf))
      clear hbw3 r1 r2 r3 hb4 hbf H3 HQQ ho4 HK HQ
      go_wp2_with (go_at_call 8; refine HKN.out.2.mono ?_; rintro e w8 ⟨rfl, hb8⟩; have HB8 := Lib.hid hb8; clear hb8)
      go_ret
      exact ⟨rfl, go_on HKN.out.1 HB8.out⟩
    | some x =>
      rw [show optM (some m) = m.val from rfl, show cntE (some m) = 0 from rfl]
      have hal1 := hb1.alloc hb1.size (.cells #[.int .i64 m.t, .int .i64 m.r, .int .i64 m.f, .int .i64 m.h] 25)
      have H1 := Lib.hid (And.intro hal1 (heap_alloc_new w1 (.cells #[.int .i64 m.t, .int .i64 m.r, .int .i64 m.f, .int .i64 m.h] 25)))
      have HDD := Lib.hid (HD.out _ hal1)
      clear hal1 hb1 HC HD
      go_wp2_with fail
      refine HDD.out.mono ?_
      rintro e w2 ⟨rfl, hb2⟩
      rw [show optM (some m) = m.val from rfl, show (some m : Option Mt).isSome = true from rfl]
      have hal := (Below.refl w2.heap.size w2).alloc (Nat.le_refl _) (.cells #[.int .i64 m.t, .int .i64 m.r, .int .i64 m.f, .int .i64 m.h] 25)
      have hbw := go_on (go_on H1.out.1 hb2) hal
      have H2 := Lib.hid (And.intro hbw (And.intro (go_row (go_row H1.out.2 hb2) hal) (heap_alloc_new w2 (.cells #[.int .i64 m.t, .int .i64 m.r, .int .i64 m.f, .int .i64 m.h] 25))))
      have HPP := Lib.hid (HP.out _ hbw)
      clear hal hbw hb2 H1 HDD HP
      go_wp2_with fail
      refine HPP.out.mono ?_
      rintro e w3 ⟨rfl, hb3⟩
      rw [show optM (some x) = x.val from rfl]
      obtain ⟨pe, hpe⟩ : ∃ p, optE n la (some x) = p := ⟨_, rfl⟩
      rw [hpe]
      have HPE := Lib.hid hpe
      have hal := (Below.refl w3.heap.size w3).alloc (Nat.le_refl _) (.cells #[.int .i64 x.t, .int .i64 x.r, .int .i64 x.f, .int .i64 x.h] 25)
      have hbw := go_on (go_on H2.out.1 hb3) hal
      have H3 := Lib.hid (And.intro hbw (And.intro (go_row (go_row H2.out.2.1 hb3) hal) (And.intro (go_row (go_row H2.out.2.2 hb3) hal) (heap_alloc_new w3 (.cells #[.int .i64 x.t, .int .i64 x.r, .int .i64 x.f, .int .i64 x.h] 25)))))
      have HQQ := Lib.hid (HQ.out.1 _ hbw)
      clear hal hbw hb3 H2 HPP hpe
      go_wp2_with fail
      refine HQQ.out.mono ?_
      rintro e w4 ⟨o4, ho4, rfl, hb4⟩
      have hoe := opt_one ho4 HQ.out.2
      subst hoe
      rw [show optM (some x) = x.val from rfl, HPE.out]
      obtain ⟨hbw3, r1, r2, r3⟩ := H3.out
      have r1 := go_row r1 hb4
      have r2 := go_row r2 hb4
      have r3 := go_row r3 hb4
      have l1 := (Array.getElem?_eq_some_iff.1 r1).1
      have l2 := (Array.getElem?_eq_some_iff.1 r2).1
      have l3 := (Array.getElem?_eq_some_iff.1 r3).1
      have p0 := cell_of_row w4 _ 0 _ _ _ r1
      have p1 := cell_of_row w4 _ 1 _ _ _ r1
      have p2 := cell_of_row w4 _ 2 _ _ _ r1
      have p3 := cell_of_row w4 _ 3 _ _ _ r1
      simp only [List.getElem?_toArray, List.getElem?_cons_zero, List.getElem?_cons_succ] at p0 p1 p2 p3
      have q0 := cell_of_row w4 _ 0 _ _ _ r2
      have q1 := cell_of_row w4 _ 1 _ _ _ r2
      have q2 := cell_of_row w4 _ 2 _ _ _ r2
      have q3 := cell_of_row w4 _ 3 _ _ _ r2
      simp only [List.getElem?_toArray, List.getElem?_cons_zero, List.getElem?_cons_succ] at q0 q1 q2 q3
      have s0 := cell_of_row w4 _ 0 _ _ _ r3
      have s1 := cell_of_row w4 _ 1 _ _ _ r3
      have s2 := cell_of_row w4 _ 2 _ _ _ r3
      have s3 := cell_of_row w4 _ 3 _ _ _ r3
      simp only [List.getElem?_toArray, List.getElem?_cons_zero, List.getElem?_cons_succ] at s0 s1 s2 s3
      have hbf := (go_on hbw3 hb4).alloc (go_on hbw3 hb4).size (.cells #[.int .i64 x.t, .int .i64 x.r, .int .i64 x.f, .int .i64 x.h] 25)
      have HKN := Lib.hid (And.intro hbf (HK.out _ hbf))
      clear hbw3 r1 r2 r3 hb4 hbf H3 HQQ ho4 HK HQ
      go_wp2_with (go_at_call 8; refine HKN.out.2.mono ?_; rintro e w8 ⟨rfl, hb8⟩; have HB8 := Lib.hid hb8; clear hb8)
      go_ret
      exact ⟨rfl, go_on HKN.out.1 HB8.out⟩
end Go.Proofs.YtaijjlaheoamaaaDoor
/- MetaCounts: for every two byte strings and every number: it answers true, over 300 bytes as over few; in between stands the walk through the document`s Counts, and the calls of the package answer as it. No condition but the table, which the card ties to the program`s text. -/
namespace Go.Proofs.YtaijjlaheoamaaaDoor.metaCounts
open Go.ChangeShapes Go.WideShapes Go.ChangeAt Go.RowKit

theorem laid_met (os : Os) : laidMet Tryd.prog Rows.metaCountsRow.laid ((laidWorld os).forCall (fun _ _ => 0) ⟨#[], #[.slice none 0 0, .slice none 0 0, .int .i64 0], []⟩).memory :=
  laidMet_of_run' 8 (by kernel_rfl) (by kernel_rfl)
theorem reads (os : Os) {H : Type} (enc : TypeId × Value → H) : ∃ places, DataW.whole enc Tryd.prog ((laidWorld os).forCall (fun _ _ => 0) ⟨#[], #[.slice none 0 0, .slice none 0 0, .int .i64 0], []⟩).memory Tryd.f3.params.toList Rows.metaCountsSpec.vars false (#[.slice none 0 0, .slice none 0 0, .int .i64 0] : Array Value).toList 8 = some ([.nil, .nil, .lit (.int .i64 0)], [], places) :=
  ⟨[], by kernel_rfl⟩

set_option maxRecDepth 100000 in
theorem contract (H : Type) (enc : TypeId × Value → H) (W : World) (base : Nat) (args : Array Value) (ds gs : List (DataW H)) (before : List MemPlace)
    (hval : ∀ (j : Nat) t v, Tryd.f3.params[j]? = some t → args[j]? = some v → Value.okWide Tryd.prog W .any base t v)
    (hW : DataW.Whole enc Tryd.prog Tryd.f3.params.toList Rows.metaCountsSpec.vars false W args.toList ds gs before) (hL : laidMetH Tryd.prog Rows.metaCountsRow.laid W) :
    Calls Tryd.prog 3 args W fun e W' => ∃ v, e = .returned v ∧ Rows.metaCountsSpec.post enc Tryd.prog Tryd.f3 false true false false W args v W' := by
  have hW' := hW
  obtain ⟨p, q, hA0, hV, rfl, hfz, hnd⟩ := hW
  have hA : DataW.TrodAll enc Tryd.prog W 0 (fun _ => true) true Tryd.f3.params.toList args.toList ds p := hA0
  rw [Tryd.params3] at hA hval
  obtain ⟨rfl, rfl⟩ := trodVars_none hV
  obtain ⟨v0, vs0, d0, ds0, p0, q0, hargs, rfl, rfl, h0, r0⟩ := trodAll_cons hA
  obtain ⟨v1, vs1, d1, ds1, p1, q1, rfl, rfl, rfl, h1, r1⟩ := trodAll_cons r0
  obtain ⟨v2, vs2, d2, ds2, p2, q2, rfl, rfl, rfl, h2, r2⟩ := trodAll_cons r1
  obtain ⟨rfl, rfl, rfl⟩ := trodAll_nil r2
  obtain rfl : args = #[v0, v1, v2] := by cases args; simp_all
  obtain ⟨a1, la, c1, rfl, hc1, hm1, hx1, hn1⟩ := open_bytes Tryd.underlying22 Tryd.underlying5 (by kernel_rfl) (hval 0 22 v0 rfl rfl) h0
  obtain ⟨a2, lb, c2, rfl, hc2, hm2, hx2, hn2⟩ := open_bytes Tryd.underlying22 Tryd.underlying5 (by kernel_rfl) (hval 1 22 v1 rfl rfl) h1
  obtain ⟨n, rfl, -, -, -⟩ := open_int Tryd.underlying2 (hval 2 2 v2 rfl rfl) h2
  unfold maxLen at hm1 hm2
  refine (metaCounts_any a1 a2 la lb c1 c2 n W ⟨hx1, hn1, hc1, by omega⟩ ⟨hx2, hn2, hc2, by omega⟩ (tab hL) (by simpa using tab_size (tab hL))).mono fun e W' ⟨he, hb⟩ => ?_
  subst he
  exact ⟨_, rfl, law_post laidOut (fun t ht => types_ok t (by rw [Tryd.params3] at ht; revert ht; decide +revert)) rfl hW' rfl rfl rfl Tryd.underlying4 (by kernel_rfl) hb⟩

set_option maxRecDepth 100000 in
theorem lifted (os : Os) (started : os.Started) (H : Type) (enc : TypeId × Value → H) (F : Stop.Interp) :
    ReturnsInHanded {} Tryd.checked os 3 .any ((OpenSpec.ofChange Rows.metaCountsSpec).preRow enc Tryd.prog Tryd.f3 Rows.metaCountsRow.domain false Rows.metaCountsRow.laid) (((OpenSpec.ofChange Rows.metaCountsSpec).at F).post enc Tryd.prog Tryd.f3 false true false false) := by
  obtain ⟨places, hx⟩ := reads os enc
  refine returnsInHanded_of_row (C := Tryd.checked) (s := OpenSpec.ofChange Rows.metaCountsSpec) own started (by kernel_rfl) Tryd.func3
    (witness_row_at (enc := enc) (C := Tryd.checked) false (laidWorld os) #[.slice none 0 0, .slice none 0 0, .int .i64 0] rfl (by kernel_rfl) (by kernel_rfl) (by kernel_rfl)
      (OpenSpec.preRow_of_cond 8 hx (by kernel_rfl) (fun k hk => by cases hk) (by kernel_rfl) (laid_met os))) ?_
  intro W base args ds gs before hval hW _ _ _ hL _ _
  exact contract H enc W base args ds gs before hval hW hL

theorem said : Rows.MetaCountsSaid :=
  OpenClaim.holds_of_cond 3 Tryd.f3 rfl rfl rfl rfl rfl rfl rfl ⟨rfl, rfl, rfl, rfl, rfl⟩ rfl rfl rfl rfl rfl (by kernel_rfl) Tryd.func3 (by kernel_rfl)
    (of_decide_eq_true (by kernel_rfl)) (by unfold Func.isWrapper; first | (rw [if_pos (by decide +kernel)]; kernel_rfl) | (rw [if_neg (by decide +kernel)]; exact ⟨rfl, rfl⟩))
    (fun os started H enc _ F => by rw [OpenClaim.pre_eq_preRow]; exact lifted os started H enc F)

theorem plain (f : FuncId) (fn : Func) (hf : Tryd.pinned.checked.prog.funcNamed "pigeonry/pigeonrylaw06.MetaCounts" = some f) (hfn : Tryd.pinned.checked.prog.funcs[f]? = some fn) :
    true = Tryd.pinned.checked.prog.looks [] ∧ ∀ (j : Nat) t, fn.params[j]? = some t → Tryd.pinned.checked.prog.wantsStandIn t = false := by
  obtain rfl : f = 3 := Option.some.inj ((show Tryd.prog.funcNamed "pigeonry/pigeonrylaw06.MetaCounts" = some 3 by kernel_rfl).symm.trans hf) |>.symm
  obtain rfl : fn = Tryd.f3 := (Option.some.inj (Tryd.func3.symm.trans hfn)).symm
  refine ⟨by kernel_rfl, fun j t ht => ?_⟩
  rw [Tryd.params3] at ht
  have h : ∀ t ∈ Tryd.f3.params.toList, Tryd.prog.wantsStandIn t = false := by
    have h : ((Tryd.f3.params.toList).all fun t => !Tryd.prog.wantsStandIn t) = true := by kernel_rfl
    intro t ht
    simpa using List.all_eq_true.1 h t ht
  exact h t (by rw [Tryd.params3]; exact Array.mem_toList_iff.2 (Array.mem_of_getElem? ht))

/-- THE CARD. -/
theorem card : Rows.MetaCountsCardSaid :=
  Claim7.holds_tied_plain_at .later [] _ _ _ _ said (fun _ h => by cases h) (by kernel_rfl) (fun _ h => by cases h) metaCounts_row_tie rfl ⟨rfl, rfl⟩ (by kernel_rfl) rfl plain (by kernel_rfl)
end Go.Proofs.YtaijjlaheoamaaaDoor.metaCounts

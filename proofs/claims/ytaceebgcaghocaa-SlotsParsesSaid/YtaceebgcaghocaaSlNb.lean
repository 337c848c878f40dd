/- Layer 5: read, of a branch. -/
import Derived.Test.YtaceebgcaghocaaSlM
namespace Go.Proofs.Ytaceebgcaghocaa
open Go.RowKit

set_option maxRecDepth 100000 in
set_option maxHeartbeats 4000000 in
theorem read_branch (b : List UInt8) (a : Option Addr) (c n₁ : Nat) (hc : b.length ≤ c) (w : World) (hm : BytesAt n₁ w a b) (hno : a = none → c = 0) (hbl : b.length ≤ 1000000) :
    Calls Try.prog 13 #[.int .i64 3, .slice a b.length c] w fun e w' => ReadPost5 w 3 b e w' := by
  by_cases h232 : b.length ≤ 232
  case neg =>
    have hd : (232 : Int) < (b.length : Int) := by omega
    have HN := Lib.hid (show ∀ L, ¬ Parsed 3 b L from fun L h => h232 h.1)
    clear hm hno h232
    go_enter Try.func13, Try.ntmps13
    go_wp2
    exact ⟨rfl, Below.refl _ _, .inr ⟨HN.out, rfl⟩⟩
  have hd : ¬ (232 : Int) < (b.length : Int) := by omega
  have HC := Lib.hid (newReader_any w a b c n₁ hm hno hc hbl)
  clear hm hno hc
  go_enter Try.func13, Try.ntmps13
  go_wp2_with fail
  refine HC.out.mono ?_
  rintro e w1 ⟨B, rfl, ⟨v, l, i0, hat, hbe⟩, hb1⟩
  have HAT := Lib.hid (And.intro hat (And.intro hbe hb1))
  clear hat hbe hb1 HC
  go_wp2_with fail
  obtain ⟨hat, hbe, hb1⟩ := HAT.out
  have hA1 : Below w1.heap.size w1 (w1.alloc (.cells #[wptr B] 73)) := (Below.refl _ _).alloc (Nat.le_refl _) _
  have hR1 : RdIn w.heap.size (w1.alloc (.cells #[wptr B] 73)) B v l b := RdIn.below ⟨i0, hat, hbe⟩ hA1
  have hbA := go_on hb1 hA1
  have hP1 := heap_alloc_new w1 (.cells #[wptr B] 73)
  obtain ⟨P, hP⟩ : ∃ P, w1.heap.size = P := ⟨_, rfl⟩
  have hwP : w.heap.size ≤ P := by rw [← hP]; exact hb1.size
  have hBP : B < P := by rw [← hP]; exact hat.lt
  rw [hP] at hP1 ⊢
  revert hR1 hbA hP1
  generalize w1.alloc (.cells #[wptr B] 73) = w2
  intro hR1 hbA hP1
  have p0 := cell_of_row w2 P 0 _ _ _ hP1
  simp only [List.getElem?_toArray, List.getElem?_cons_zero] at p0
  have H1 := Lib.hid (And.intro hR1 (And.intro hbA hP1))
  have HN0 := Lib.hid (rnext_any hR1 2 (by omega) (by omega))
  clear hA1 hR1 hbA hP1 hat hbe hb1 hP HAT
  by_cases h2 : 2 ≤ b.length
  case neg =>
    rw [if_neg h2] at HN0
    have HN := Lib.hid (show ∀ L, ¬ Parsed 3 b L from fun L h => h2 h.2.1)
    refine HN0.out.mono ?_
    rintro e w3 ⟨hg, ⟨x, r', hx, rfl, hR⟩ | ⟨hx, rfl⟩⟩
    · cases hx
    · have HX := Lib.hid (H1.out.2.1.grown hg H1.out.2.1.size (fun k e => by cases e; exact H1.out.1.lo))
      clear hg hx
      go_wp2
      exact ⟨rfl, HX.out, .inr ⟨HN.out, rfl⟩⟩
  rw [if_pos h2] at HN0
  have hnl := numOf_lt (b.take 2)
  rw [List.length_take, Nat.min_eq_left h2] at hnl
  obtain ⟨n, hn⟩ : ∃ n, countOf b = n := ⟨_, rfl⟩
  rw [show numOf (b.take 2) = n from hn] at HN0 hnl
  have hnl2 : n < 65536 := hnl
  have HNN := Lib.hid hn
  clear hnl hn
  refine HN0.out.mono ?_
  rintro e w3 ⟨hg, ⟨x, r', hx, rfl, hR⟩ | ⟨hx, rfl⟩⟩
  case inr => cases hx
  cases hx
  have hb3 := H1.out.2.1.grown hg H1.out.2.1.size (fun k e => by cases e; exact H1.out.1.lo)
  have hP3 := (hg.block P (Array.getElem?_eq_some_iff.1 H1.out.2.2).1 (by simp; omega)).trans H1.out.2.2
  have H3 := Lib.hid (And.intro hR (And.intro hb3 hP3))
  clear hR hb3 hP3 hg HN0
  go_wp2
  go_loopw [6, 19, 20, 21, 22, 23, 24, 25, 26, 27] (fun s y _ _ _ _ _ _ _ _ wr => Below w.heap.size w wr ∧ wr.heap[P]? = some (.cells #[wptr B] 73 (0, 0)) ∧ ∃ i : Nat, y = .int .u64 i ∧ i ≤ n ∧ 2 + 2 * i ≤ b.length ∧ RdIn w.heap.size wr B v l (b.drop (2 + 2 * i)) ∧ OwnI wr w.heap.size s (placesUpto b i)) (fun _ y _ _ _ _ _ _ _ _ _ => n - (intOf y).toNat)
  case atStart => exact ⟨H3.out.2.1, H3.out.2.2, 0, rfl, Nat.zero_le _, h2, H3.out.1, OwnI.nil _ _⟩
  case round =>
    obtain ⟨hb, hP, i, rfl, hi, hil, hR, hO⟩ := hrel
    have x0 := cell_of_row wr P 0 _ _ _ hP
    simp only [List.getElem?_toArray, List.getElem?_cons_zero] at x0
    by_cases hlt : i < n
    · have hiN : (i : Int) < (n : Int) := by omega
      have HN := Lib.hid (rnext_any hR 2 (by omega) (by omega))
      have HY := Lib.hid (And.intro hb (And.intro hP (And.intro hil (And.intro hO (And.intro hR.cell hR)))))
      by_cases hmore : 2 + 2 * (i + 1) ≤ b.length
      · have e1 : 2 ≤ (b.drop (2 + 2 * i)).length := by rw [List.length_drop]; omega
        have hml := numOf_lt ((b.drop (2 + 2 * i)).take 2)
        rw [List.length_take, Nat.min_eq_left e1] at hml
        rw [if_pos e1, List.drop_drop, show 2 + 2 * i + 2 = 2 + 2 * (i + 1) by omega] at HN
        obtain ⟨m, hm⟩ : ∃ m, placeAt b i = m := ⟨_, rfl⟩
        rw [show numOf ((b.drop (2 + 2 * i)).take 2) = m from hm] at HN hml
        have hml2 : m < 65536 := hml
        have HM := Lib.hid hm
        clear hb hP hil hR hO e1 hml hm
        go_wp2_with fail
        refine HN.out.mono ?_
        rintro e w5 ⟨hg5, ⟨x, r', hx, rfl, hR5⟩ | ⟨hx, rfl⟩⟩
        case inr => cases hx
        cases hx
        obtain ⟨csB, hBr⟩ := HY.out.2.2.2.2.1
        have hO5 := HY.out.2.2.2.1.besides hg5 (fun g e cs hh => by cases e; rw [hBr] at hh; cases hh)
        have hP5 := (hg5.block P (Array.getElem?_eq_some_iff.1 HY.out.2.1).1 (by simp; omega)).trans HY.out.2.1
        have hb5 := HY.out.1.grown hg5 HY.out.1.size (fun k e => by cases e; exact HY.out.2.2.2.2.2.lo)
        have hA5 : Below w5.heap.size w5 (w5.alloc (.cells #[.int .i64 m] 3)) := (Below.refl _ _).alloc (Nat.le_refl _) _
        have hcl : (w5.alloc (.cells #[.int .i64 m] 3)).cell? ⟨w5.heap.size, 0, none⟩ = some (.int .i64 m) := cell_of_row _ _ 0 _ _ _ (heap_alloc_new w5 _)
        have H5 := Lib.hid (And.intro (go_on hb5 hA5) (And.intro (hO5.below hA5) (And.intro (go_row hP5 hA5) (And.intro (hR5.below hA5) hcl))))
        clear hO5 hP5 hb5 hA5 hcl hR5 hg5 HN hBr
        go_wp2_with (at_builtin; refine wpList_append_int rfl (.tmp 21) (.tmp 25) rfl w.heap.size _ _ rfl H5.out.2.1 _ _ _ rfl H5.out.2.2.2.2 (by rw [placesUpto_len]; have := HY.out.2.2.1; omega) H5.out.1.size ?_; intro v6 w6 hO6 hg6; rw [← HM.out, ← placesUpto_succ] at hO6; have HV := Lib.hid (And.intro hO6 hg6); clear hO6 hg6)
        obtain ⟨hbA, hOA, hPA, hRA, -⟩ := H5.out
        have hown : ∀ g, u6.ownBlock = some g → w.heap.size ≤ g ∧ ∃ cs, (w5.alloc (.cells #[.int .i64 m] 3)).heap[g]? = some (.cells cs 3 (0, 0)) := fun g hg => ownI_block hOA g hg
        have hb6 := hbA.grown HV.out.2 hbA.size (fun k e => (hown k e).1)
        have hP6 := (HV.out.2.block P (Array.getElem?_eq_some_iff.1 hPA).1 (fun e => by
          obtain ⟨-, cs, hh⟩ := hown P e.symm
          rw [hPA] at hh; cases hh)).trans hPA
        have hR6 := hRA.away HV.out.2 (fun g e => by
          obtain ⟨-, cs, hh⟩ := hown g e
          exact ⟨cs, _, hh, by decide, by decide⟩)
        have HW := Lib.hid (And.intro hb6 (And.intro hP6 (And.intro hR6 HV.out.1)))
        clear hbA hOA hPA hRA hown hb6 hP6 hR6
        go_wp2
        exact ⟨⟨HW.out.1, HW.out.2.1, i + 1, by go_num, hlt, hmore, HW.out.2.2.1, HW.out.2.2.2⟩, by simp only [intOf]; omega⟩
      · have e1 : ¬ 2 ≤ (b.drop (2 + 2 * i)).length := by rw [List.length_drop]; omega
        rw [if_neg e1] at HN
        have HNO := Lib.hid (show ∀ L, ¬ Parsed 3 b L from fun L h => by have := h.2.2.1; rw [HNN.out] at this; omega)
        clear hb hP hil hR hO e1
        go_wp2_with fail
        refine HN.out.mono ?_
        rintro e w5 ⟨hg5, ⟨x, r', hx, rfl, hR5⟩ | ⟨hx, rfl⟩⟩
        · cases hx
        · have HZ := Lib.hid (HY.out.1.grown hg5 HY.out.1.size (fun k e => by cases e; exact HY.out.2.2.2.2.2.lo))
          clear hg5 hx
          go_wp2
          exact ⟨rfl, HZ.out, .inr ⟨HNO.out, rfl⟩⟩
    · obtain rfl : i = n := by omega
      have hiN : ¬ ((i : Int) < (i : Int)) := by omega
      obtain ⟨ap, cp, e6, -, hform⟩ := hO.form
      rw [placesUpto_len] at e6
      subst e6
      have HY := Lib.hid (And.intro hb (And.intro hP (And.intro hil (And.intro hR hO))))
      clear hb hP hR hO hform x0
      go_wp2_with fail
      refine (kinds_any wr).mono ?_
      rintro e w4 ⟨rfl, hm, hbk⟩
      have hkf := kindF_3
      have HK := Lib.hid (And.intro (go_on HY.out.1 hbk) (And.intro (go_row HY.out.2.1 hbk) (And.intro (HY.out.2.2.2.1.below hbk) (HY.out.2.2.2.2.below hbk))))
      clear hbk
      go_wp2_with (refine wpList_look rfl _ _ false rfl Try.underlying22 Try.underlying43 zeroPart hm rfl 3 (by omega) rfl ?_; rw [hkf]; simp only [Option.getD_some, Bool.false_eq_true, if_false]; clear hm hkf)
      go_loopw [8, 9, 33, 34, 35, 36, 37, 38, 39, 40, 41, 42, 43, 44, 45, 46, 47, 48, 49, 50, 51, 52, 53, 54, 55, 56] (fun s _ y _ _ _ _ _ _ _ _ _ _ _ _ _ _ _ _ _ _ _ _ _ _ _ wr => Below w.heap.size w wr ∧ wr.heap[P]? = some (.cells #[wptr B] 73 (0, 0)) ∧ OwnI wr w.heap.size (.slice ap i cp) (placesUpto b i) ∧ ∃ (j : Nat) (L : List Cv) (rem : List UInt8), y = .int .i64 j ∧ j ≤ i ∧ rem.length ≤ b.length ∧ readUpto false b j (b.drop (2 + 2 * i)) = some (L, rem) ∧ RdIn w.heap.size wr B v l rem ∧ OwnC wr w.heap.size s L) (fun _ _ y _ _ _ _ _ _ _ _ _ _ _ _ _ _ _ _ _ _ _ _ _ _ _ _ => i - (intOf y).toNat)
      case atStart => exact ⟨HK.out.1, HK.out.2.1, HK.out.2.2.2, 0, [], _, rfl, Nat.zero_le _, by rw [List.length_drop]; omega, rfl, HK.out.2.2.1, OwnC.nil _ _⟩
      case round =>
        obtain ⟨hb, hP, hO, j, L, rem, rfl, hj, hrl, hup, hR, hC⟩ := hrel
        by_cases hlt : j < i
        · have hjI : (j : Int) < (i : Int) := by omega
          have HY2 := Lib.hid (And.intro hb (And.intro hP (And.intro hO (And.intro hup (And.intro hR (And.intro hC hR.cell))))))
          obtain ⟨ap2, cp2, e6, -, hform⟩ := hO.form
          rw [placesUpto_len] at e6
          cases e6
          obtain ⟨g, rfl, hg, hcs⟩ := hform (by intro e; have := congrArg List.length e; rw [placesUpto_len] at this; simp at this; omega)
          have hc := hcs j (by rw [placesUpto_len]; exact hlt)
          rw [placesUpto_at b i j hlt] at hc
          obtain ⟨m, hm⟩ : ∃ m, placeAt b j = m := ⟨_, rfl⟩
          rw [hm] at hc
          have hcd : wr.drew.cell? ⟨g, j, none⟩ = some (.int .i64 m) := hc
          have x0 := cell_of_row wr P 0 _ _ _ hP
          simp only [List.getElem?_toArray, List.getElem?_cons_zero] at x0
          have x0d : wr.drew.cell? ⟨P, 0, none⟩ = some (wptr B) := x0
          have hRd := hR.below ((Below.refl wr.heap.size wr).drew)
          have HRL := Lib.hid (rleft_v hRd)
          obtain ⟨rl, hrlen⟩ : ∃ k, rem.length = k := ⟨_, rfl⟩
          rw [hrlen] at HRL hrl
          have HM := Lib.hid (And.intro hm hrlen)
          clear hb hP hO hup hR hC hcs hm hRd hrlen
          go_wp2_with fail
          go_cut [46] (fun x wx => Below wr.heap.size wr wx ∧ ((m = b.length - rl ∧ x = .bool false) ∨ (m ≠ b.length - rl ∧ x = .bool true)))
          case first =>
            by_cases hpl : m = b.length - rl
            · have hq : ((m : Int) != (b.length : Int) - (rl : Int)) = false := by simp; omega
              have HPL := Lib.hid hpl
              clear hpl
              have hw64 : IntKind.i64.wrap ((b.length : Int) - (rl : Int)) = (b.length : Int) - (rl : Int) := (wrapEq _).trans (wrap64_eq (by omega) (by omega))
              first | go_region_with (go_at_call 30; refine HRL.out.mono ?_; rintro e w5 ⟨rfl, hb5⟩; have hc5 := (hb5.cell (p := ⟨g, j, none⟩) hg).trans hcd; have HZ := Lib.hid hb5; clear hb5) | fail
              all_goals
                go_wp2_with fail
                go_meet
              all_goals exact ⟨((Below.refl _ _).drew).trans HZ.out, .inl ⟨HPL.out, by first | rfl | rw [hw64, hq]⟩⟩
            · have hq : ((m : Int) != (b.length : Int) - (rl : Int)) = true := by simp; omega
              have HPL := Lib.hid hpl
              clear hpl
              have hw64 : IntKind.i64.wrap ((b.length : Int) - (rl : Int)) = (b.length : Int) - (rl : Int) := (wrapEq _).trans (wrap64_eq (by omega) (by omega))
              first | go_region_with (go_at_call 30; refine HRL.out.mono ?_; rintro e w5 ⟨rfl, hb5⟩; have hc5 := (hb5.cell (p := ⟨g, j, none⟩) hg).trans hcd; have HZ := Lib.hid hb5; clear hb5) | fail
              all_goals
                go_wp2_with fail
                go_meet
              all_goals exact ⟨((Below.refl _ _).drew).trans HZ.out, .inr ⟨HPL.out, by first | rfl | rw [hw64, hq]⟩⟩
          case rest =>
            obtain ⟨hbx, hpl⟩ := hcut
            obtain ⟨hb, hP, hO, hup, hR, hC, hcell⟩ := HY2.out
            have hbw := go_on hb hbx
            have hPx := go_row hP hbx
            have hOx := hO.below hbx
            have hRx := hR.below hbx
            have hCx := hC.below hbx
            have hmr := HM.out
            rcases hpl with ⟨hpl, rfl⟩ | ⟨hpl, rfl⟩
            · have HPT := Lib.hid (branchR_any hRx default)
              cases hrp : readPart false rem with
              | none =>
                have hcr : cellRes (readBranch rem) = none := by rw [show readBranch rem = readPart false rem from rfl, hrp]; rfl
                rw [hcr] at HPT
                have hnone : readUpto false b (j + 1) (b.drop (2 + 2 * i)) = none := by
                  rw [readUpto, hup]
                  simp only [Option.bind_some]
                  rw [if_pos (by rw [hmr.1, hmr.2]; exact hpl), hrp]; rfl
                have HNO := Lib.hid (And.intro hbw (show ∀ L, ¬ Parsed 3 b L from fun L h => by
                  have h4 : readUpto false b (countOf b) (b.drop (2 + 2 * countOf b)) = some (L, []) := h.2.2.2.1
                  rw [HNN.out, readUpto_none hnone i (by omega)] at h4; cases h4))
                have x1 := cell_of_row wc P 0 _ _ _ hPx
                simp only [List.getElem?_toArray, List.getElem?_cons_zero] at x1
                have hlo := hRx.lo
                clear hb hP hO hup hR hC hcell hbw hPx hOx hRx hCx hmr hcr hnone hrp hbx hpl x0 x0d hc hcd
                go_wp2_with fail
                refine HPT.out.mono ?_
                rintro e w5 ⟨hg5, ⟨x, r', hx, rfl, hR5⟩ | ⟨hx, rfl⟩⟩
                · cases hx
                · have HZ := Lib.hid (HNO.out.1.grown hg5 HNO.out.1.size (fun k e => by cases e; exact hlo))
                  clear hg5 hx
                  go_wp2
                  exact ⟨rfl, HZ.out, .inr ⟨HNO.out.2, rfl⟩⟩
              | some y =>
                obtain ⟨c', rem'⟩ := y
                have hcr : cellRes (readBranch rem) = some (cellv c', rem') := by rw [show readBranch rem = readPart false rem from rfl, hrp]; rfl
                rw [hcr] at HPT
                have hsome : readUpto false b (j + 1) (b.drop (2 + 2 * i)) = some (L ++ [c'], rem') := by
                  rw [readUpto, hup]
                  simp only [Option.bind_some]
                  rw [if_pos (by rw [hmr.1, hmr.2]; exact hpl), hrp]; rfl
                have hle2 := readPart_le hrp
                have hLl := readUpto_len hup
                have x1 := cell_of_row wc P 0 _ _ _ hPx
                simp only [List.getElem?_toArray, List.getElem?_cons_zero] at x1
                have HS := Lib.hid (And.intro hsome (And.intro hle2 (And.intro hmr.2 hLl)))
                have HX := Lib.hid (And.intro hbw (And.intro hPx (And.intro hOx (And.intro hCx hRx))))
                clear hb hP hO hup hR hC hcell hbw hPx hOx hRx hCx hmr hcr hsome hle2 hLl hrp hbx hpl x0 x0d hc hcd
                go_wp2_with fail
                refine HPT.out.mono ?_
                rintro e w5 ⟨hg5, ⟨x, r', hx, rfl, hR5⟩ | ⟨hx, rfl⟩⟩
                case inr => cases hx
                cases hx
                obtain ⟨hbw, hPx, hOx, hCx, hRx⟩ := HX.out
                obtain ⟨csB, hBr⟩ := hRx.cell
                have hO5 := hOx.besides hg5 (fun g e cs hh => by cases e; rw [hBr] at hh; cases hh)
                have hC5 := hCx.besides hg5 (fun g e cs hh => by cases e; rw [hBr] at hh; cases hh)
                have hP5 := (hg5.block P (Array.getElem?_eq_some_iff.1 hPx).1 (by simp; omega)).trans hPx
                have hb5 := hbw.grown hg5 hbw.size (fun k e => by cases e; exact hRx.lo)
                have hA5 : Below w5.heap.size w5 (w5.alloc (.cells #[.string c'.key, .string c'.text, .bool c'.long, .int .i64 c'.page, .int .i64 c'.size] 36)) := (Below.refl _ _).alloc (Nat.le_refl _) _
                have hcl : ∀ q, q < 1 → CellAt (w5.alloc (.cells #[.string c'.key, .string c'.text, .bool c'.long, .int .i64 c'.page, .int .i64 c'.size] 36)) w5.heap.size (0 + q * 5) ([c'].getD q default) := fun q hq => by
                  obtain rfl : q = 0 := by omega
                  obtain ⟨h0, h1, h2, h3, h4⟩ := cell5 (heap_alloc_new w5 (.cells #[.string c'.key, .string c'.text, .bool c'.long, .int .i64 c'.page, .int .i64 c'.size] 36))
                  exact ⟨h0, h1, h2, h3, h4⟩
                have H5 := Lib.hid (And.intro (go_on hb5 hA5) (And.intro (hO5.below hA5) (And.intro (go_row hP5 hA5) (And.intro (hR5.below hA5) (And.intro (hC5.below hA5) hcl)))))
                clear hO5 hP5 hb5 hA5 hcl hR5 hg5 hC5 HPT hBr hbw hPx hOx hCx hRx
                go_wp2_with (at_builtin; refine wpList_append_cell rfl (.tmp 48) (.tmp 54) rfl w.heap.size _ _ rfl H5.out.2.2.2.2.1 _ _ _ [c'] rfl H5.out.2.2.2.2.2 (by have := HS.out.2.2.2; have := h2; simp; omega) H5.out.1.size ?_; intro v6 w6 hO6 hg6; have HV := Lib.hid (And.intro hO6 hg6); clear hO6 hg6)
                obtain ⟨hbA, hOA, hPA, hRA, hCA, -⟩ := H5.out
                have hown : ∀ g, u8.ownBlock = some g → w.heap.size ≤ g ∧ ∃ cs, (w5.alloc (.cells #[.string c'.key, .string c'.text, .bool c'.long, .int .i64 c'.page, .int .i64 c'.size] 36)).heap[g]? = some (.cells cs 36 (0, 0)) := fun g hg => ⟨hCA.block g hg, ownC_block hCA g hg⟩
                have hb6 := hbA.grown HV.out.2 hbA.size (fun k e => (hown k e).1)
                have hP6 := (HV.out.2.block P (Array.getElem?_eq_some_iff.1 hPA).1 (fun e => by
                  obtain ⟨-, cs, hh⟩ := hown P e.symm
                  rw [hPA] at hh; cases hh)).trans hPA
                have hO6 := hOA.besides HV.out.2 (fun g e cs hh => by
                  obtain ⟨-, cs, hh2⟩ := hown g e
                  rw [hh2] at hh; cases hh)
                have hR6 := hRA.away HV.out.2 (fun g e => by
                  obtain ⟨-, cs, hh⟩ := hown g e
                  exact ⟨cs, _, hh, by decide, by decide⟩)
                have HW := Lib.hid (And.intro hb6 (And.intro hP6 (And.intro hO6 (And.intro hR6 HV.out.1))))
                clear hbA hOA hPA hRA hCA hown hb6 hP6 hR6 hO6
                go_wp2
                exact ⟨⟨HW.out.1, HW.out.2.1, HW.out.2.2.1, j + 1, L ++ [c'], rem', by go_num, hlt, Nat.le_trans (show rem'.length ≤ rem.length from HS.out.2.1) (by rw [HS.out.2.2.1]; exact hrl), HS.out.1, HW.out.2.2.2.1, HW.out.2.2.2.2⟩, by simp only [intOf]; omega⟩
            · have hnone : readUpto false b (j + 1) (b.drop (2 + 2 * i)) = none := by
                rw [readUpto, hup]
                simp only [Option.bind_some]
                rw [if_neg (by rw [hmr.1, hmr.2]; exact hpl)]
              have HNO := Lib.hid (And.intro hbw (show ∀ L, ¬ Parsed 3 b L from fun L h => by
                have h4 : readUpto false b (countOf b) (b.drop (2 + 2 * countOf b)) = some (L, []) := h.2.2.2.1
                rw [HNN.out, readUpto_none hnone i (by omega)] at h4; cases h4))
              clear hb hP hO hup hR hC hcell hbw hPx hOx hRx hCx hmr hnone hbx hpl x0 x0d hc hcd
              go_wp2
              exact ⟨rfl, HNO.out.1, .inr ⟨HNO.out.2, rfl⟩⟩
        · obtain rfl : j = i := by omega
          have hjI : ¬ ((j : Int) < (j : Int)) := by omega
          have HRL := Lib.hid (rleft_v hR)
          have x0 := cell_of_row wr P 0 _ _ _ hP
          simp only [List.getElem?_toArray, List.getElem?_cons_zero] at x0
          have HY2 := Lib.hid (And.intro hb (And.intro hup hC))
          have HLL := Lib.hid (readUpto_len hup)
          clear hb hO hup hR hC
          by_cases hrem : rem = []
          · subst hrem
            go_wp2_with fail
            refine HRL.out.mono ?_
            rintro e w5 ⟨rfl, hb5⟩
            have hC5 := HY2.out.2.2.below hb5
            obtain ⟨al, cl, rfl, hcl, hcm, hno2, hcs, -⟩ := hC5.form
            have HCK := Lib.hid (checkC_any 3 (by decide) w5 al L cl (by have := HLL.out; omega) hcs)
            have HZ := Lib.hid (And.intro (go_on HY2.out.1 hb5) hC5)
            clear hb5 hC5 hcs hP
            simp only [List.length_nil]
            go_wp2_with fail
            refine HCK.out.mono ?_
            rintro e w6 ⟨hb6, ⟨hrc, rfl⟩ | ⟨hrc, rfl⟩⟩
            · have HF := Lib.hid (And.intro (go_on HZ.out.1 hb6) (And.intro (HZ.out.2.below hb6) (show Parsed 3 b L from ⟨h232, h2, by rw [HNN.out]; exact hil, by rw [HNN.out]; exact HY2.out.2.1, hrc⟩)))
              clear hb6 hrc HCK
              go_wp2
              go_ret
              exact ⟨HF.out.1, .inl ⟨L, _, HF.out.2.2, rfl, HF.out.2.1⟩⟩
            · have HF := Lib.hid (And.intro (go_on HZ.out.1 hb6) (show ∀ M, ¬ Parsed 3 b M from fun M h => by
                have h4 : readUpto false b (countOf b) (b.drop (2 + 2 * countOf b)) = some (M, []) := h.2.2.2.1
                rw [HNN.out, HY2.out.2.1] at h4
                cases h4; exact hrc h.2.2.2.2))
              clear hb6 hrc HCK
              go_wp2
              exact ⟨rfl, HF.out.1, .inr ⟨HF.out.2, rfl⟩⟩
          · have hpos : (0 : Int) < (rem.length : Int) := by
              have : rem.length ≠ 0 := fun e => hrem (List.eq_nil_of_length_eq_zero e)
              omega
            have hpd : decide ((0 : Int) < (rem.length : Int)) = true := decide_eq_true hpos
            have HF := Lib.hid (show ∀ M, ¬ Parsed 3 b M from fun M h => by
              have h4 : readUpto false b (countOf b) (b.drop (2 + 2 * countOf b)) = some (M, []) := h.2.2.2.1
              rw [HNN.out, HY2.out.2.1] at h4
              cases h4; exact hrem rfl)
            obtain ⟨rl, hrl2⟩ : ∃ k, rem.length = k := ⟨_, rfl⟩
            rw [hrl2] at HRL hpos hpd
            clear hrem hP hrl hrl2
            have hpn : 0 < rl := by omega
            have hpd2 : decide (0 < rl) = true := decide_eq_true hpn
            go_wp2_with fail
            refine HRL.out.mono ?_
            rintro e w5 ⟨rfl, hb5⟩
            have HZ := Lib.hid (go_on HY2.out.1 hb5)
            clear hb5
            go_wp2
            exact ⟨rfl, HZ.out, .inr ⟨HF.out, rfl⟩⟩
end Go.Proofs.Ytaceebgcaghocaa

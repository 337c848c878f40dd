/- Layer 5: what tells the parts of a cell of a leaf, over the hand that reads. -/
import Derived.Test.YtaceebgcaghocaaSlK
namespace Go.Proofs.Ytaceebgcaghocaa
open Go.RowKit

section
variable {n₀ : Nat} {w : World} {B : Nat} {v : Value} {l r : List UInt8}
set_option maxRecDepth 100000 in
set_option maxHeartbeats 1000000 in
theorem leafR_any (h : RdIn n₀ w B v l r) (c : Cv) :
    Calls Try.prog 26 #[rhand B, cellv c] w fun e w' => RHand n₀ w B v l (cellRes (readLeaf r)) e w' := by
  have hmt := mr_text B
  have hmn := mr_number B
  have hmu := mr_truth B
  have hB := h.lt
  have hb0 : Below w.heap.size w ((w.alloc (.cells #[.string c.key, .string c.text, .bool c.long, .int .i64 c.page, .int .i64 c.size] 36)).alloc (.cells #[.string ByteArray.empty, .string ByteArray.empty, .bool false, .int .i64 0, .int .i64 0] 36)) := ((Below.refl _ _).alloc (Nat.le_refl _) _).alloc (by simp) _
  have HB0 := Lib.hid hb0
  by_cases hs1 : TxOk r
  case neg =>
    have HC := Lib.hid (rtx_any (h.below hb0) c.key 1 48)
    rw [rTx_no hs1] at HC
    have HR := Lib.hid (show cellRes (readLeaf r) = none by unfold readLeaf; rw [if_neg hs1]; rfl)
    clear hb0 h hs1
    go_enter Try.func26, Try.ntmps26
    go_wp2_with fail
    refine HC.out.mono ?_
    rintro e w1 ⟨hg, ⟨x, r', hx, rfl, hR⟩ | ⟨hx, rfl⟩⟩
    · cases hx
    · have HX := Lib.hid hg
      clear hg hx HC
      go_wp2
      exact ⟨rfl, grown_after HB0.out HX.out, .inr ⟨HR.out, rfl⟩⟩
  have HC := Lib.hid (rtx_any (h.below hb0) c.key 1 48)
  rw [rTx_yes hs1] at HC
  have HS1 := Lib.hid hs1
  obtain ⟨s1, hs⟩ : ∃ s, txS r = s := ⟨_, rfl⟩
  obtain ⟨q1, hq⟩ : ∃ q, txR r = q := ⟨_, rfl⟩
  rw [hs, hq] at HC
  have HSQ := Lib.hid (And.intro hs hq)
  clear hb0 h hs1 hs hq
  by_cases ht : q1.length < 1 ∨ 1 < numOf (q1.take 1)
  case pos =>
    have HR := Lib.hid (show cellRes (readLeaf r) = none by unfold readLeaf; rw [if_pos HS1.out, HSQ.out.2, if_pos ht]; rfl)
    go_enter Try.func26, Try.ntmps26
    go_wp2_with fail
    refine HC.out.mono ?_
    rintro e w1 ⟨hg, ⟨x, r', hx, rfl, hR⟩ | ⟨hx, rfl⟩⟩
    case inr => cases hx
    cases hx
    have hS := partR_start hB hg #[.string s1, .string ByteArray.empty, .bool false, .int .i64 0, .int .i64 0]
    have hR2 := hR.below ((Below.refl w1.heap.size w1).alloc (Nat.le_refl _) (.cells #[.string s1, .string ByteArray.empty, .bool false, .int .i64 0, .int .i64 0] 36))
    have hx1 : w1.heap[w.heap.size]? = some (.cells c.row 36 (0, 0)) := by
      have := hS.x
      rwa [Below.heap_alloc _ _ _ (by have := (Array.getElem?_eq_some_iff.1 this).1; rw [World.size_alloc] at this; have := hS.ne.1; omega)] at this
    obtain ⟨-, -, x2, x3, -⟩ := cell5 hx1
    have hlt1 := (Array.getElem?_eq_some_iff.1 hx1).1
    have HI := Lib.hid (And.intro hR2 hS)
    clear hR hg hx1 HC hR2 hS
    go_wp2_with fail
    obtain ⟨hR2, hS⟩ := HI.out
    have HN := rtr_any hR2 c.long
    rw [show rTr q1 = none by unfold rTr; rw [if_pos ht]] at HN
    refine HN.mono ?_
    rintro e w9 ⟨hg, ⟨x, r', hx, rfl, hR⟩ | ⟨hx, rfl⟩⟩
    · cases hx
    · have HX := Lib.hid (World.grownBy.trans hS.grown hg)
      clear hg hx
      go_wp2
      exact ⟨rfl, HX.out, .inr ⟨HR.out, rfl⟩⟩
  have htr : rTr q1 = some (.bool (numOf (q1.take 1) == 1), q1.drop 1) := by unfold rTr; rw [if_neg ht]
  obtain ⟨q2, hq2⟩ : ∃ q, q1.drop 1 = q := ⟨_, rfl⟩
  rw [hq2] at htr
  have hread : readLeaf r = if numOf (q1.take 1) == 1 then readLong s1 q2 else readShort s1 q2 := by
    unfold readLeaf; rw [if_pos HS1.out, HSQ.out.2, if_neg ht, HSQ.out.1, hq2]
  cases hl : numOf (q1.take 1) == 1
  all_goals
    rw [hl] at htr hread
    simp only [Bool.false_eq_true, if_false, if_true] at hread
    have HTR := Lib.hid (And.intro htr hread)
    clear htr hread hl ht hq2
  · by_cases hs2 : TxOk q2
    case neg =>
      have HR := Lib.hid (show cellRes (readLeaf r) = none by rw [HTR.out.2]; unfold readShort; rw [if_neg hs2]; rfl)
      go_enter Try.func26, Try.ntmps26
      go_wp2_with fail
      refine HC.out.mono ?_
      rintro e w1 ⟨hg, ⟨x, r', hx, rfl, hR⟩ | ⟨hx, rfl⟩⟩
      case inr => cases hx
      cases hx
      have hS := partR_start hB hg #[.string s1, .string ByteArray.empty, .bool false, .int .i64 0, .int .i64 0]
      have hR2 := hR.below ((Below.refl w1.heap.size w1).alloc (Nat.le_refl _) (.cells #[.string s1, .string ByteArray.empty, .bool false, .int .i64 0, .int .i64 0] 36))
      have hx1 : w1.heap[w.heap.size]? = some (.cells c.row 36 (0, 0)) := by
        have := hS.x
        rwa [Below.heap_alloc _ _ _ (by have := (Array.getElem?_eq_some_iff.1 this).1; rw [World.size_alloc] at this; have := hS.ne.1; omega)] at this
      obtain ⟨-, -, x2, x3, -⟩ := cell5 hx1
      have hlt1 := (Array.getElem?_eq_some_iff.1 hx1).1
      have HI := Lib.hid (And.intro hR2 hS)
      clear hR hg hx1 HC hR2 hS
      go_wp2_with fail
      obtain ⟨hR2, hS⟩ := HI.out
      have HN := rtr_any hR2 c.long
      rw [HTR.out.1] at HN
      refine HN.mono ?_
      rintro e w3 ⟨hg3, ⟨x, r', hx, rfl, hR3⟩ | ⟨hx, rfl⟩⟩
      case inr => cases hx
      cases hx
      have hS3 := hS.on hg3
      obtain ⟨h0, h1, h2, h3, h4⟩ := cell5 hS3.h
      obtain ⟨r0, r1, r2, r3, r4⟩ := cell5 hS3.r
      obtain ⟨x0, x1, x2, x3, x4⟩ := cell5 hS3.x
      have f1 := frozen_of_row w3 w1.heap.size 1 _ _ hS3.h; have f2 := frozen_of_row w3 w1.heap.size 2 _ _ hS3.h; have f3 := frozen_of_row w3 w1.heap.size 3 _ _ hS3.h; have f4 := frozen_of_row w3 w1.heap.size 4 _ _ hS3.h
      have g0 := frozen_of_row w3 (w.heap.size + 1) 0 _ _ hS3.r; have g1 := frozen_of_row w3 (w.heap.size + 1) 1 _ _ hS3.r; have g2 := frozen_of_row w3 (w.heap.size + 1) 2 _ _ hS3.r; have g3 := frozen_of_row w3 (w.heap.size + 1) 3 _ _ hS3.r; have g4 := frozen_of_row w3 (w.heap.size + 1) 4 _ _ hS3.r
      have hne1 := hS3.ne.2.1; have hne2 := hS3.ne.1; have hne3 := hS3.ne.2.2
      have H3 := Lib.hid (And.intro hR3 hS3)
      clear hR3 hS3 hg3 hR2 hS HI hlt1 HN
      go_wp2_with fail
      obtain ⟨hR3, hS3⟩ := H3.out
      clear h0 h1 h2 h3 h4 r0 r1 r2 r3 r4 x0 x1 x2 x3 x4 f1 f2 f3 f4 g0 g1 g2 g3 g4 hne1 hne2 hne3
      have hS4 := hS3.setH 2 (.bool false); have hR4 := hR3.set hS3.h 2 (.bool false)
      clear hS3 hR3 H3
      have HN := rtx_any hR4 c.text 0 60
      rw [rTx_no hs2] at HN
      refine HN.mono ?_
      rintro e w9 ⟨hg, ⟨x, r', hx, rfl, hR⟩ | ⟨hx, rfl⟩⟩
      · cases hx
      · have HX := Lib.hid (World.grownBy.trans hS4.grown hg)
        clear hg hx
        go_wp2
        exact ⟨rfl, HX.out, .inr ⟨HR.out, rfl⟩⟩
    have HR := Lib.hid (show cellRes (readLeaf r) = some (cellv ⟨s1, txS q2, false, 0, 0⟩, txR q2) by rw [HTR.out.2]; unfold readShort; rw [if_pos hs2]; rfl)
    have htx := rTx_yes hs2
    obtain ⟨s2, hs3⟩ : ∃ s, txS q2 = s := ⟨_, rfl⟩
    rw [hs3] at HR htx
    go_enter Try.func26, Try.ntmps26
    go_wp2_with fail
    refine HC.out.mono ?_
    rintro e w1 ⟨hg, ⟨x, r', hx, rfl, hR⟩ | ⟨hx, rfl⟩⟩
    case inr => cases hx
    cases hx
    have hS := partR_start hB hg #[.string s1, .string ByteArray.empty, .bool false, .int .i64 0, .int .i64 0]
    have hR2 := hR.below ((Below.refl w1.heap.size w1).alloc (Nat.le_refl _) (.cells #[.string s1, .string ByteArray.empty, .bool false, .int .i64 0, .int .i64 0] 36))
    have hx1 : w1.heap[w.heap.size]? = some (.cells c.row 36 (0, 0)) := by
      have := hS.x
      rwa [Below.heap_alloc _ _ _ (by have := (Array.getElem?_eq_some_iff.1 this).1; rw [World.size_alloc] at this; have := hS.ne.1; omega)] at this
    obtain ⟨-, -, x2, x3, -⟩ := cell5 hx1
    have hlt1 := (Array.getElem?_eq_some_iff.1 hx1).1
    have HI := Lib.hid (And.intro hR2 hS)
    clear hR hg hx1 HC hR2 hS
    go_wp2_with fail
    obtain ⟨hR2, hS⟩ := HI.out
    have HN := rtr_any hR2 c.long
    rw [HTR.out.1] at HN
    refine HN.mono ?_
    rintro e w3 ⟨hg3, ⟨x, r', hx, rfl, hR3⟩ | ⟨hx, rfl⟩⟩
    case inr => cases hx
    cases hx
    have hS3 := hS.on hg3
    obtain ⟨h0, h1, h2, h3, h4⟩ := cell5 hS3.h
    obtain ⟨r0, r1, r2, r3, r4⟩ := cell5 hS3.r
    obtain ⟨x0, x1, x2, x3, x4⟩ := cell5 hS3.x
    have f1 := frozen_of_row w3 w1.heap.size 1 _ _ hS3.h; have f2 := frozen_of_row w3 w1.heap.size 2 _ _ hS3.h; have f3 := frozen_of_row w3 w1.heap.size 3 _ _ hS3.h; have f4 := frozen_of_row w3 w1.heap.size 4 _ _ hS3.h
    have g0 := frozen_of_row w3 (w.heap.size + 1) 0 _ _ hS3.r; have g1 := frozen_of_row w3 (w.heap.size + 1) 1 _ _ hS3.r; have g2 := frozen_of_row w3 (w.heap.size + 1) 2 _ _ hS3.r; have g3 := frozen_of_row w3 (w.heap.size + 1) 3 _ _ hS3.r; have g4 := frozen_of_row w3 (w.heap.size + 1) 4 _ _ hS3.r
    have hne1 := hS3.ne.2.1; have hne2 := hS3.ne.1; have hne3 := hS3.ne.2.2
    have H3 := Lib.hid (And.intro hR3 hS3)
    clear hR3 hS3 hg3 hR2 hS HI hlt1 HN
    go_wp2_with fail
    obtain ⟨hR3, hS3⟩ := H3.out
    clear h0 h1 h2 h3 h4 r0 r1 r2 r3 r4 x0 x1 x2 x3 x4 f1 f2 f3 f4 g0 g1 g2 g3 g4 hne1 hne2 hne3
    have hS4 := hS3.setH 2 (.bool false); have hR4 := hR3.set hS3.h 2 (.bool false)
    clear hS3 hR3 H3
    have HN := rtx_any hR4 c.text 0 60
    rw [htx] at HN
    refine HN.mono ?_
    rintro e w5 ⟨hg5, ⟨x, r', hx, rfl, hR5⟩ | ⟨hx, rfl⟩⟩
    case inr => cases hx
    cases hx
    have hS5 := hS4.on hg5
    obtain ⟨h0, h1, h2, h3, h4⟩ := cell5 hS5.h
    obtain ⟨r0, r1, r2, r3, r4⟩ := cell5 hS5.r
    obtain ⟨x0, x1, x2, x3, x4⟩ := cell5 hS5.x
    have f1 := frozen_of_row w5 w1.heap.size 1 _ _ hS5.h; have f2 := frozen_of_row w5 w1.heap.size 2 _ _ hS5.h; have f3 := frozen_of_row w5 w1.heap.size 3 _ _ hS5.h; have f4 := frozen_of_row w5 w1.heap.size 4 _ _ hS5.h
    have g0 := frozen_of_row w5 (w.heap.size + 1) 0 _ _ hS5.r; have g1 := frozen_of_row w5 (w.heap.size + 1) 1 _ _ hS5.r; have g2 := frozen_of_row w5 (w.heap.size + 1) 2 _ _ hS5.r; have g3 := frozen_of_row w5 (w.heap.size + 1) 3 _ _ hS5.r; have g4 := frozen_of_row w5 (w.heap.size + 1) 4 _ _ hS5.r
    have hne1 := hS5.ne.2.1; have hne2 := hS5.ne.1; have hne3 := hS5.ne.2.2
    have H5 := Lib.hid (And.intro hR5 hS5)
    clear hR5 hS5 hg5 hR4 hS4 HN htx hs3 hs2
    go_wp2
    obtain ⟨hR5, hS5⟩ := H5.out
    clear h0 h1 h2 h3 h4 r0 r1 r2 r3 r4 x0 x1 x2 x3 x4 f1 f2 f3 f4 g0 g1 g2 g3 g4 hne1 hne2 hne3
    have hS5_1 := hS5.setH 1 (.string s2); have hR5_1 := hR5.set hS5.h 1 (.string s2)
    have hS5_2 := hS5_1.setR 0 (.string s1); have hR5_2 := hR5_1.set hS5_1.r 0 (.string s1)
    have hS5_3 := hS5_2.setR 1 (.string s2); have hR5_3 := hR5_2.set hS5_2.r 1 (.string s2)
    have hS5_4 := hS5_3.setR 2 (.bool false); have hR5_4 := hR5_3.set hS5_3.r 2 (.bool false)
    have hS5_5 := hS5_4.setR 3 (.int .i64 0); have hR5_5 := hR5_4.set hS5_4.r 3 (.int .i64 0)
    have hS5_6 := hS5_5.setR 4 (.int .i64 0); have hR5_6 := hR5_5.set hS5_5.r 4 (.int .i64 0)
    refine bodyPost_ret (results_cell rfl _ _ _ _ _ _ rfl hS5_6.r Try.underlying36 (by kernel_rfl)) rfl ?_
    exact ⟨hS5_6.grown, .inl ⟨_, _, HR.out, rfl, hR5_6⟩⟩
  · by_cases h4a : 4 ≤ q2.length
    case neg =>
      have HR := Lib.hid (show cellRes (readLeaf r) = none by rw [HTR.out.2]; unfold readLong; rw [if_neg h4a]; rfl)
      go_enter Try.func26, Try.ntmps26
      go_wp2_with fail
      refine HC.out.mono ?_
      rintro e w1 ⟨hg, ⟨x, r', hx, rfl, hR⟩ | ⟨hx, rfl⟩⟩
      case inr => cases hx
      cases hx
      have hS := partR_start hB hg #[.string s1, .string ByteArray.empty, .bool false, .int .i64 0, .int .i64 0]
      have hR2 := hR.below ((Below.refl w1.heap.size w1).alloc (Nat.le_refl _) (.cells #[.string s1, .string ByteArray.empty, .bool false, .int .i64 0, .int .i64 0] 36))
      have hx1 : w1.heap[w.heap.size]? = some (.cells c.row 36 (0, 0)) := by
        have := hS.x
        rwa [Below.heap_alloc _ _ _ (by have := (Array.getElem?_eq_some_iff.1 this).1; rw [World.size_alloc] at this; have := hS.ne.1; omega)] at this
      obtain ⟨-, -, x2, x3, -⟩ := cell5 hx1
      have hlt1 := (Array.getElem?_eq_some_iff.1 hx1).1
      have HI := Lib.hid (And.intro hR2 hS)
      clear hR hg hx1 HC hR2 hS
      go_wp2_with fail
      obtain ⟨hR2, hS⟩ := HI.out
      have HN := rtr_any hR2 c.long
      rw [HTR.out.1] at HN
      refine HN.mono ?_
      rintro e w3 ⟨hg3, ⟨x, r', hx, rfl, hR3⟩ | ⟨hx, rfl⟩⟩
      case inr => cases hx
      cases hx
      have hS3 := hS.on hg3
      obtain ⟨h0, h1, h2, h3, h4⟩ := cell5 hS3.h
      obtain ⟨r0, r1, r2, r3, r4⟩ := cell5 hS3.r
      obtain ⟨x0, x1, x2, x3, x4⟩ := cell5 hS3.x
      have f1 := frozen_of_row w3 w1.heap.size 1 _ _ hS3.h; have f2 := frozen_of_row w3 w1.heap.size 2 _ _ hS3.h; have f3 := frozen_of_row w3 w1.heap.size 3 _ _ hS3.h; have f4 := frozen_of_row w3 w1.heap.size 4 _ _ hS3.h
      have g0 := frozen_of_row w3 (w.heap.size + 1) 0 _ _ hS3.r; have g1 := frozen_of_row w3 (w.heap.size + 1) 1 _ _ hS3.r; have g2 := frozen_of_row w3 (w.heap.size + 1) 2 _ _ hS3.r; have g3 := frozen_of_row w3 (w.heap.size + 1) 3 _ _ hS3.r; have g4 := frozen_of_row w3 (w.heap.size + 1) 4 _ _ hS3.r
      have hne1 := hS3.ne.2.1; have hne2 := hS3.ne.1; have hne3 := hS3.ne.2.2
      have H3 := Lib.hid (And.intro hR3 hS3)
      clear hR3 hS3 hg3 hR2 hS HI hlt1 HN
      go_wp2_with fail
      obtain ⟨hR3, hS3⟩ := H3.out
      clear h0 h1 h2 h3 h4 r0 r1 r2 r3 r4 x0 x1 x2 x3 x4 f1 f2 f3 f4 g0 g1 g2 g3 g4 hne1 hne2 hne3
      have hS4 := hS3.setH 2 (.bool true); have hR4 := hR3.set hS3.h 2 (.bool true)
      clear hS3 hR3 H3
      have HN := rnumber_any hR4 c.page 1 4095
      rw [if_neg h4a] at HN
      refine HN.mono ?_
      rintro e w9 ⟨hg, ⟨x, r', hx, rfl, hR⟩ | ⟨hx, rfl⟩⟩
      · cases hx
      · have HX := Lib.hid (World.grownBy.trans hS4.grown hg)
        clear hg hx
        go_wp2
        exact ⟨rfl, HX.out, .inr ⟨HR.out, rfl⟩⟩
    have hnl := numOf_lt (q2.take 4)
    rw [List.length_take, Nat.min_eq_left h4a] at hnl
    obtain ⟨n, hn⟩ : ∃ n, numOf (q2.take 4) = n := ⟨_, rfl⟩
    by_cases h4b : 4 ≤ (q2.drop 4).length
    case neg =>
      have HR := Lib.hid (show cellRes (readLeaf r) = none by rw [HTR.out.2]; unfold readLong; rw [if_pos h4a, if_neg h4b]; rfl)
      go_enter Try.func26, Try.ntmps26
      go_wp2_with fail
      refine HC.out.mono ?_
      rintro e w1 ⟨hg, ⟨x, r', hx, rfl, hR⟩ | ⟨hx, rfl⟩⟩
      case inr => cases hx
      cases hx
      have hS := partR_start hB hg #[.string s1, .string ByteArray.empty, .bool false, .int .i64 0, .int .i64 0]
      have hR2 := hR.below ((Below.refl w1.heap.size w1).alloc (Nat.le_refl _) (.cells #[.string s1, .string ByteArray.empty, .bool false, .int .i64 0, .int .i64 0] 36))
      have hx1 : w1.heap[w.heap.size]? = some (.cells c.row 36 (0, 0)) := by
        have := hS.x
        rwa [Below.heap_alloc _ _ _ (by have := (Array.getElem?_eq_some_iff.1 this).1; rw [World.size_alloc] at this; have := hS.ne.1; omega)] at this
      obtain ⟨-, -, x2, x3, -⟩ := cell5 hx1
      have hlt1 := (Array.getElem?_eq_some_iff.1 hx1).1
      have HI := Lib.hid (And.intro hR2 hS)
      clear hR hg hx1 HC hR2 hS
      go_wp2_with fail
      obtain ⟨hR2, hS⟩ := HI.out
      have HN := rtr_any hR2 c.long
      rw [HTR.out.1] at HN
      refine HN.mono ?_
      rintro e w3 ⟨hg3, ⟨x, r', hx, rfl, hR3⟩ | ⟨hx, rfl⟩⟩
      case inr => cases hx
      cases hx
      have hS3 := hS.on hg3
      obtain ⟨h0, h1, h2, h3, h4⟩ := cell5 hS3.h
      obtain ⟨r0, r1, r2, r3, r4⟩ := cell5 hS3.r
      obtain ⟨x0, x1, x2, x3, x4⟩ := cell5 hS3.x
      have f1 := frozen_of_row w3 w1.heap.size 1 _ _ hS3.h; have f2 := frozen_of_row w3 w1.heap.size 2 _ _ hS3.h; have f3 := frozen_of_row w3 w1.heap.size 3 _ _ hS3.h; have f4 := frozen_of_row w3 w1.heap.size 4 _ _ hS3.h
      have g0 := frozen_of_row w3 (w.heap.size + 1) 0 _ _ hS3.r; have g1 := frozen_of_row w3 (w.heap.size + 1) 1 _ _ hS3.r; have g2 := frozen_of_row w3 (w.heap.size + 1) 2 _ _ hS3.r; have g3 := frozen_of_row w3 (w.heap.size + 1) 3 _ _ hS3.r; have g4 := frozen_of_row w3 (w.heap.size + 1) 4 _ _ hS3.r
      have hne1 := hS3.ne.2.1; have hne2 := hS3.ne.1; have hne3 := hS3.ne.2.2
      have H3 := Lib.hid (And.intro hR3 hS3)
      clear hR3 hS3 hg3 hR2 hS HI hlt1 HN
      go_wp2_with fail
      obtain ⟨hR3, hS3⟩ := H3.out
      clear h0 h1 h2 h3 h4 r0 r1 r2 r3 r4 x0 x1 x2 x3 x4 f1 f2 f3 f4 g0 g1 g2 g3 g4 hne1 hne2 hne3
      have hS4 := hS3.setH 2 (.bool true); have hR4 := hR3.set hS3.h 2 (.bool true)
      clear hS3 hR3 H3
      have HN := rnumber_any hR4 c.page 1 4095
      rw [if_pos h4a, hn] at HN
      refine HN.mono ?_
      rintro e w5 ⟨hg5, ⟨x, r', hx, rfl, hR5⟩ | ⟨hx, rfl⟩⟩
      case inr => cases hx
      cases hx
      have hS5 := hS4.on hg5
      obtain ⟨h0, h1, h2, h3, h4⟩ := cell5 hS5.h
      obtain ⟨r0, r1, r2, r3, r4⟩ := cell5 hS5.r
      obtain ⟨x0, x1, x2, x3, x4⟩ := cell5 hS5.x
      have f1 := frozen_of_row w5 w1.heap.size 1 _ _ hS5.h; have f2 := frozen_of_row w5 w1.heap.size 2 _ _ hS5.h; have f3 := frozen_of_row w5 w1.heap.size 3 _ _ hS5.h; have f4 := frozen_of_row w5 w1.heap.size 4 _ _ hS5.h
      have g0 := frozen_of_row w5 (w.heap.size + 1) 0 _ _ hS5.r; have g1 := frozen_of_row w5 (w.heap.size + 1) 1 _ _ hS5.r; have g2 := frozen_of_row w5 (w.heap.size + 1) 2 _ _ hS5.r; have g3 := frozen_of_row w5 (w.heap.size + 1) 3 _ _ hS5.r; have g4 := frozen_of_row w5 (w.heap.size + 1) 4 _ _ hS5.r
      have hne1 := hS5.ne.2.1; have hne2 := hS5.ne.1; have hne3 := hS5.ne.2.2
      have H5 := Lib.hid (And.intro hR5 hS5)
      clear hR5 hS5 hg5 hR4 hS4 HN
      go_wp2_with fail
      obtain ⟨hR5, hS5⟩ := H5.out
      clear h0 h1 h2 h3 h4 r0 r1 r2 r3 r4 x0 x1 x2 x3 x4 f1 f2 f3 f4 g0 g1 g2 g3 g4 hne1 hne2 hne3
      have hS6 := hS5.setH 3 (.int .i64 n); have hR6 := hR5.set hS5.h 3 (.int .i64 n)
      clear hS5 hR5 H5
      have HN := rnumber_any hR6 c.size 61 4096
      rw [if_neg h4b] at HN
      refine HN.mono ?_
      rintro e w9 ⟨hg, ⟨x, r', hx, rfl, hR⟩ | ⟨hx, rfl⟩⟩
      · cases hx
      · have HX := Lib.hid (World.grownBy.trans hS6.grown hg)
        clear hg hx
        go_wp2
        exact ⟨rfl, HX.out, .inr ⟨HR.out, rfl⟩⟩
    have hml := numOf_lt ((q2.drop 4).take 4)
    obtain ⟨m, hm⟩ : ∃ m, numOf ((q2.drop 4).take 4) = m := ⟨_, rfl⟩
    have HR := Lib.hid (show cellRes (readLeaf r) = some (cellv ⟨s1, ByteArray.empty, true, n, m⟩, (q2.drop 4).drop 4) by rw [HTR.out.2]; unfold readLong; rw [if_pos h4a, if_pos h4b, hn, hm]; rfl)
    go_enter Try.func26, Try.ntmps26
    go_wp2_with fail
    refine HC.out.mono ?_
    rintro e w1 ⟨hg, ⟨x, r', hx, rfl, hR⟩ | ⟨hx, rfl⟩⟩
    case inr => cases hx
    cases hx
    have hS := partR_start hB hg #[.string s1, .string ByteArray.empty, .bool false, .int .i64 0, .int .i64 0]
    have hR2 := hR.below ((Below.refl w1.heap.size w1).alloc (Nat.le_refl _) (.cells #[.string s1, .string ByteArray.empty, .bool false, .int .i64 0, .int .i64 0] 36))
    have hx1 : w1.heap[w.heap.size]? = some (.cells c.row 36 (0, 0)) := by
      have := hS.x
      rwa [Below.heap_alloc _ _ _ (by have := (Array.getElem?_eq_some_iff.1 this).1; rw [World.size_alloc] at this; have := hS.ne.1; omega)] at this
    obtain ⟨-, -, x2, x3, -⟩ := cell5 hx1
    have hlt1 := (Array.getElem?_eq_some_iff.1 hx1).1
    have HI := Lib.hid (And.intro hR2 hS)
    clear hR hg hx1 HC hR2 hS
    go_wp2_with fail
    obtain ⟨hR2, hS⟩ := HI.out
    have HN := rtr_any hR2 c.long
    rw [HTR.out.1] at HN
    refine HN.mono ?_
    rintro e w3 ⟨hg3, ⟨x, r', hx, rfl, hR3⟩ | ⟨hx, rfl⟩⟩
    case inr => cases hx
    cases hx
    have hS3 := hS.on hg3
    obtain ⟨h0, h1, h2, h3, h4⟩ := cell5 hS3.h
    obtain ⟨r0, r1, r2, r3, r4⟩ := cell5 hS3.r
    obtain ⟨x0, x1, x2, x3, x4⟩ := cell5 hS3.x
    have f1 := frozen_of_row w3 w1.heap.size 1 _ _ hS3.h; have f2 := frozen_of_row w3 w1.heap.size 2 _ _ hS3.h; have f3 := frozen_of_row w3 w1.heap.size 3 _ _ hS3.h; have f4 := frozen_of_row w3 w1.heap.size 4 _ _ hS3.h
    have g0 := frozen_of_row w3 (w.heap.size + 1) 0 _ _ hS3.r; have g1 := frozen_of_row w3 (w.heap.size + 1) 1 _ _ hS3.r; have g2 := frozen_of_row w3 (w.heap.size + 1) 2 _ _ hS3.r; have g3 := frozen_of_row w3 (w.heap.size + 1) 3 _ _ hS3.r; have g4 := frozen_of_row w3 (w.heap.size + 1) 4 _ _ hS3.r
    have hne1 := hS3.ne.2.1; have hne2 := hS3.ne.1; have hne3 := hS3.ne.2.2
    have H3 := Lib.hid (And.intro hR3 hS3)
    clear hR3 hS3 hg3 hR2 hS HI hlt1 HN
    go_wp2_with fail
    obtain ⟨hR3, hS3⟩ := H3.out
    clear h0 h1 h2 h3 h4 r0 r1 r2 r3 r4 x0 x1 x2 x3 x4 f1 f2 f3 f4 g0 g1 g2 g3 g4 hne1 hne2 hne3
    have hS4 := hS3.setH 2 (.bool true); have hR4 := hR3.set hS3.h 2 (.bool true)
    clear hS3 hR3 H3
    have HN := rnumber_any hR4 c.page 1 4095
    rw [if_pos h4a, hn] at HN
    refine HN.mono ?_
    rintro e w5 ⟨hg5, ⟨x, r', hx, rfl, hR5⟩ | ⟨hx, rfl⟩⟩
    case inr => cases hx
    cases hx
    have hS5 := hS4.on hg5
    obtain ⟨h0, h1, h2, h3, h4⟩ := cell5 hS5.h
    obtain ⟨r0, r1, r2, r3, r4⟩ := cell5 hS5.r
    obtain ⟨x0, x1, x2, x3, x4⟩ := cell5 hS5.x
    have f1 := frozen_of_row w5 w1.heap.size 1 _ _ hS5.h; have f2 := frozen_of_row w5 w1.heap.size 2 _ _ hS5.h; have f3 := frozen_of_row w5 w1.heap.size 3 _ _ hS5.h; have f4 := frozen_of_row w5 w1.heap.size 4 _ _ hS5.h
    have g0 := frozen_of_row w5 (w.heap.size + 1) 0 _ _ hS5.r; have g1 := frozen_of_row w5 (w.heap.size + 1) 1 _ _ hS5.r; have g2 := frozen_of_row w5 (w.heap.size + 1) 2 _ _ hS5.r; have g3 := frozen_of_row w5 (w.heap.size + 1) 3 _ _ hS5.r; have g4 := frozen_of_row w5 (w.heap.size + 1) 4 _ _ hS5.r
    have hne1 := hS5.ne.2.1; have hne2 := hS5.ne.1; have hne3 := hS5.ne.2.2
    have H5 := Lib.hid (And.intro hR5 hS5)
    clear hR5 hS5 hg5 hR4 hS4 HN
    go_wp2_with fail
    obtain ⟨hR5, hS5⟩ := H5.out
    clear h0 h1 h2 h3 h4 r0 r1 r2 r3 r4 x0 x1 x2 x3 x4 f1 f2 f3 f4 g0 g1 g2 g3 g4 hne1 hne2 hne3
    have hS6 := hS5.setH 3 (.int .i64 n); have hR6 := hR5.set hS5.h 3 (.int .i64 n)
    clear hS5 hR5 H5
    have HN := rnumber_any hR6 c.size 61 4096
    rw [if_pos h4b, hm] at HN
    refine HN.mono ?_
    rintro e w7 ⟨hg7, ⟨x, r', hx, rfl, hR7⟩ | ⟨hx, rfl⟩⟩
    case inr => cases hx
    cases hx
    have hS7 := hS6.on hg7
    obtain ⟨h0, h1, h2, h3, h4⟩ := cell5 hS7.h
    obtain ⟨r0, r1, r2, r3, r4⟩ := cell5 hS7.r
    obtain ⟨x0, x1, x2, x3, x4⟩ := cell5 hS7.x
    have f1 := frozen_of_row w7 w1.heap.size 1 _ _ hS7.h; have f2 := frozen_of_row w7 w1.heap.size 2 _ _ hS7.h; have f3 := frozen_of_row w7 w1.heap.size 3 _ _ hS7.h; have f4 := frozen_of_row w7 w1.heap.size 4 _ _ hS7.h
    have g0 := frozen_of_row w7 (w.heap.size + 1) 0 _ _ hS7.r; have g1 := frozen_of_row w7 (w.heap.size + 1) 1 _ _ hS7.r; have g2 := frozen_of_row w7 (w.heap.size + 1) 2 _ _ hS7.r; have g3 := frozen_of_row w7 (w.heap.size + 1) 3 _ _ hS7.r; have g4 := frozen_of_row w7 (w.heap.size + 1) 4 _ _ hS7.r
    have hne1 := hS7.ne.2.1; have hne2 := hS7.ne.1; have hne3 := hS7.ne.2.2
    have H7 := Lib.hid (And.intro hR7 hS7)
    clear hR7 hS7 hg7 hR6 hS6 HN hn hm hnl hml
    go_wp2
    obtain ⟨hR7, hS7⟩ := H7.out
    clear h0 h1 h2 h3 h4 r0 r1 r2 r3 r4 x0 x1 x2 x3 x4 f1 f2 f3 f4 g0 g1 g2 g3 g4 hne1 hne2 hne3
    have hS7_1 := hS7.setH 4 (.int .i64 m); have hR7_1 := hR7.set hS7.h 4 (.int .i64 m)
    have hS7_2 := hS7_1.setR 0 (.string s1); have hR7_2 := hR7_1.set hS7_1.r 0 (.string s1)
    have hS7_3 := hS7_2.setR 1 (.string ByteArray.empty); have hR7_3 := hR7_2.set hS7_2.r 1 (.string ByteArray.empty)
    have hS7_4 := hS7_3.setR 2 (.bool true); have hR7_4 := hR7_3.set hS7_3.r 2 (.bool true)
    have hS7_5 := hS7_4.setR 3 (.int .i64 n); have hR7_5 := hR7_4.set hS7_4.r 3 (.int .i64 n)
    have hS7_6 := hS7_5.setR 4 (.int .i64 m); have hR7_6 := hR7_5.set hS7_5.r 4 (.int .i64 m)
    refine bodyPost_ret (results_cell rfl _ _ _ _ _ _ rfl hS7_6.r Try.underlying36 (by kernel_rfl)) rfl ?_
    exact ⟨hS7_6.grown, .inl ⟨_, _, HR.out, rfl, hR7_6⟩⟩
end
end Go.Proofs.Ytaceebgcaghocaa

/- Layer 13: does any filter meet any name. -/
import Derived.Test.YtkabdalnkmbloaaDoorTopW
import Derived.Test.YtkabdalnkmbloaaDoorTopT
namespace Go.Proofs.YtkabdalnkmbloaaDoor
open Go.RowKit Go.Shelf

theorem mt_plain {F : List (List UInt8)} (hF : ∀ x ∈ F, hasS x = false) (N : List (List UInt8)) : mt F N = decide (F = N) := by
  induction F generalizing N with
  | nil => cases N <;> simp [mt]
  | cons f F ih =>
    have h1 : (f == [35]) = false := by
      cases h : f == [35]
      · rfl
      · have := eq_of_beq h; subst this; have := hF [35] (by simp); simp [hasS, sgn] at this
    have h2 : (f == [43]) = false := by
      cases h : f == [43]
      · rfl
      · have := eq_of_beq h; subst this; have := hF [43] (by simp); simp [hasS, sgn] at this
    cases N with
    | nil => unfold mt; rw [h1]; simp
    | cons x N =>
      show (f == [35] || ((f == [43] || f == x) && mt F N)) = _
      rw [h1, h2, ih (fun y hy => hF y (by simp [hy])) N]
      simp only [Bool.false_or]
      rw [Bool.eq_iff_iff]; simp
theorem name_filt {n : List UInt8} (h : nameL n = true) : filtL n = true := by
  unfold nameL at h
  unfold filtL
  simp only [Bool.and_eq_true, Bool.not_eq_true'] at h ⊢
  exact ⟨h.1, okF_plain (hasS_lv h.2)⟩
theorem name_hasS {n : List UInt8} (h : nameL n = true) : hasS n = false := by
  unfold nameL at h
  simp only [Bool.and_eq_true, Bool.not_eq_true'] at h
  exact h.2
theorem sFst_plain {L : List (List UInt8)} (h : ∀ x ∈ L, hasS x = false) : sFst L = false := by
  cases L with
  | nil => rfl
  | cons x r =>
    have h0 := h x (by simp)
    have h2 : (x == [43]) = false := by
      cases e : x == [43]
      · rfl
      · have := eq_of_beq e; subst this; simp [hasS, sgn] at h0
    have h1 : (x == [35]) = false := by
      cases e : x == [35]
      · rfl
      · have := eq_of_beq e; subst this; simp [hasS, sgn] at h0
    show (x == [43] || x == [35]) = false
    rw [h1, h2]; rfl
theorem covL_plain {n m : List UInt8} (h : nameL n = true) (hm : nameL m = true) : covL n m = decide (n = m) := by
  rw [covL_meets (name_filt h) hm]
  unfold meetsL
  have hp := hasS_lv (name_hasS h)
  rw [sFst_plain hp, mt_plain hp]
  simp only [Bool.and_false, Bool.not_false, Bool.true_and]
  rw [Bool.eq_iff_iff]; simp only [decide_eq_true_eq]
  constructor
  · intro e
    have := congrArg joinL e
    rw [joinL_lv, joinL_lv] at this; exact this
  · rintro rfl; rfl
theorem covL_self {n : List UInt8} (h : nameL n = true) : covL n n = true := by rw [covL_plain h h]; simp
theorem covL_other {n : List UInt8} (h : nameL n = true) (hm : nameL (n ++ [120]) = true) : covL n (n ++ [120]) = false := by rw [covL_plain h hm]; simp
set_option maxRecDepth 100000 in
theorem meets_law (f n : ByteArray) (w : World) (ht : Tabs w) : Calls Tryd.prog 3 #[.string f, .string n] w fun e w' => BPost w true e w' := by
  have HT := Lib.hid (And.intro ht ht.two)
  by_cases h : f.size ≤ 300 ∧ n.size ≤ 300
  · obtain ⟨hf, hn⟩ := h
    have g1 : ¬ (300 : Int) < (f.size : Int) := by omega
    have g2 : ¬ (300 : Int) < (n.size : Int) := by omega
    have C1 := Lib.hid (fun W => meets_any f n (by omega) (by omega) W)
    have C2 := Lib.hid (fun W => rfilter_any f (by omega) W)
    have C3 := Lib.hid (fun W => rname_any n (by omega) W)
    rcases Bool.eq_false_or_eq_true (filtL f.data.toList) with hA | hA
    · rcases Bool.eq_false_or_eq_true (nameL n.data.toList) with hB | hB
      · have hxs : (n ++ (⟨#[120]⟩ : ByteArray)).data.toList = n.data.toList ++ [120] := by rw [ByteArray.data_append, Array.toList_append]
        have hxz : (n ++ (⟨#[120]⟩ : ByteArray)).size = n.size + 1 := by rw [ByteArray.size_append]; rfl
        have C5 := Lib.hid (fun W => meets_any n n (by omega) (by omega) W)
        have C6 := fun W => meets_any n (n ++ (⟨#[120]⟩ : ByteArray)) (by omega) (by omega) W
        rw [hxs] at C6
        have C6 := Lib.hid C6
        have hne : f.data.toList ≠ [] := by
          intro e; rw [e] at hA
          unfold filtL at hA; rw [fitL_nil] at hA; cases hA
        have hnn : n.data.toList ≠ [] := by
          intro e; rw [e, nameL_nil] at hB; cases hB
        obtain ⟨b, t, hb⟩ := List.exists_cons_of_ne_nil hne
        obtain ⟨d, u, hd⟩ := List.exists_cons_of_ne_nil hnn
        have hok : okF (lv (b :: t)) = true := by
          rw [← hb]; unfold filtL at hA; simp only [Bool.and_eq_true] at hA; exact hA.2
        have C4 := fun W => rmeets_any f n (by omega) (by omega) b d t u hb hd hok W
        rw [← covL_meets hA hB] at C4
        have C4 := Lib.hid C4
        have hself := covL_self hB
        have hfn := name_filt hB
        have hoth := covL_other hB
        rw [hA, hB] at C1
        rw [hA] at C2
        rw [hB] at C3
        rw [hself, hfn, hB] at C5
        rw [hfn] at C6
        simp only [Bool.true_and, MePost, if_true] at C1 C5 C6
        clear hself hfn hA hB hb hd hok hne hnn hxs
        have hcat : ¬ (9223372036854775807 : Nat) < n.size + 1 := by omega
        generalize covL f.data.toList n.data.toList = is at *
        obtain ⟨z, hz⟩ : ∃ z, covL n.data.toList (n.data.toList ++ [120]) = z := ⟨_, rfl⟩
        rw [hz] at C6 hoth
        clear hz
        rcases Bool.eq_false_or_eq_true (nameL (n.data.toList ++ [120])) with hC | hC
        case' inl => obtain rfl := hoth hC
        all_goals
          rw [hC] at C6
          simp only [Bool.true_and, Bool.false_and, if_true, Bool.false_eq_true, if_false] at C6
          clear hC hoth ht
          go_enter Tryd.func3, Tryd.ntmps3
          go_wp2_with fail
          refine (C1.out w HT.out.1).mono ?_
          rintro e w1 ⟨rfl, hb1⟩
          have HB1 := Lib.hid hb1
          clear hb1
          go_wp2_with fail
          refine (C2.out w1).mono ?_
          rintro e w2 ⟨rfl, hb2⟩
          have HB2 := Lib.hid (show Below w.heap.size w w2 from HB1.out.trans (hb2.mono HB1.out.size))
          clear hb2
          go_wp2_with fail
          refine (C3.out w2).mono ?_
          rintro e w3 ⟨rfl, hb3⟩
          have HB3 := Lib.hid (show Below w.heap.size w w3 from HB2.out.trans (hb3.mono HB2.out.size))
          clear hb3
          go_wp2_with fail
          refine (C4.out w3).mono ?_
          rintro e w4 ⟨rfl, hb4⟩
          have HB4 := Lib.hid (show Below w.heap.size w w4 from HB3.out.trans (hb4.mono HB3.out.size))
          clear hb4
          go_wp2_with fail
          refine (C5.out w4 (HT.out.1.below HB4.out HT.out.2)).mono ?_
          rintro e w5 ⟨rfl, hb5⟩
          have HB5 := Lib.hid (show Below w.heap.size w w5 from HB4.out.trans (hb5.mono HB4.out.size))
          clear hb5
          go_wp2_with fail
          refine (C6.out w5 (HT.out.1.below HB5.out HT.out.2)).mono ?_
          rintro e w6 ⟨rfl, hb6⟩
          have HB6 := Lib.hid (show Below w.heap.size w w6 from HB5.out.trans (hb6.mono HB5.out.size))
          clear hb6
          go_wp2_with fail
          refine (known_top w6 (HT.out.1.below HB6.out HT.out.2)).mono ?_
          rintro e w7 ⟨rfl, hb7⟩
          have HB7 := Lib.hid (show Below w.heap.size w w7 from HB6.out.trans (hb7.mono HB6.out.size))
          clear hb7
          go_wp2
          go_ret
          exact ⟨rfl, HB7.out⟩
      · rw [hA, hB] at C1
        rw [hA] at C2
        rw [hB] at C3
        simp only [Bool.and_false, Bool.false_and, MePost, Bool.false_eq_true, if_false] at C1
        clear hA hB ht
        go_enter Tryd.func3, Tryd.ntmps3
        go_wp2_with fail
        refine (C1.out w HT.out.1).mono ?_
        rintro e w1 ⟨rfl, hb1⟩
        have HB1 := Lib.hid hb1
        clear hb1
        go_wp2_with fail
        refine (C2.out w1).mono ?_
        rintro e w2 ⟨rfl, hb2⟩
        have HB2 := Lib.hid (show Below w.heap.size w w2 from HB1.out.trans (hb2.mono HB1.out.size))
        clear hb2
        go_wp2_with fail
        refine (C3.out w2).mono ?_
        rintro e w3 ⟨rfl, hb3⟩
        have HB3 := Lib.hid (show Below w.heap.size w w3 from HB2.out.trans (hb3.mono HB2.out.size))
        clear hb3
        go_wp2_with fail
        refine (known_top w3 (HT.out.1.below HB3.out HT.out.2)).mono ?_
        rintro e w7 ⟨rfl, hb7⟩
        have HB7 := Lib.hid (show Below w.heap.size w w7 from HB3.out.trans (hb7.mono HB3.out.size))
        clear hb7
        go_wp2
        go_ret
        exact ⟨rfl, HB7.out⟩
    · rw [hA] at C1 C2
      simp only [Bool.false_and, MePost, Bool.false_eq_true, if_false] at C1
      clear hA ht
      go_enter Tryd.func3, Tryd.ntmps3
      go_wp2_with fail
      refine (C1.out w HT.out.1).mono ?_
      rintro e w1 ⟨rfl, hb1⟩
      have HB1 := Lib.hid hb1
      clear hb1
      go_wp2_with fail
      refine (C2.out w1).mono ?_
      rintro e w3 ⟨rfl, hb2⟩
      have HB3 := Lib.hid (show Below w.heap.size w w3 from HB1.out.trans (hb2.mono HB1.out.size))
      clear hb2
      go_wp2_with fail
      refine (known_top w3 (HT.out.1.below HB3.out HT.out.2)).mono ?_
      rintro e w7 ⟨rfl, hb7⟩
      have HB7 := Lib.hid (show Below w.heap.size w w7 from HB3.out.trans (hb7.mono HB3.out.size))
      clear hb7
      go_wp2
      go_ret
      exact ⟨rfl, HB7.out⟩
  · by_cases hf : f.size ≤ 300
    case' pos => have g1 : ¬ (300 : Int) < (f.size : Int) := by omega
    case' pos => have g2 : (300 : Int) < (n.size : Int) := by omega
    case' neg => have g1 : (300 : Int) < (f.size : Int) := by omega
    all_goals
      clear ht h hf
      go_enter Tryd.func3, Tryd.ntmps3
      go_wp2_with fail
      refine (known_top w HT.out.1).mono ?_
      rintro e w4 ⟨rfl, hb4⟩
      have HB4 := Lib.hid hb4
      clear hb4
      go_wp2
      go_ret
      exact ⟨rfl, HB4.out⟩
end Go.Proofs.YtkabdalnkmbloaaDoor

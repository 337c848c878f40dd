/- Layer 5: SlotsAll: each cell is found where it stands, and nothing is found between. -/
import Derived.Test.YtaclbloconlhnaaSlY
namespace Go.Proofs.Ytaclbloconlhnaa
open Go.RowKit

theorem less_app : ∀ a : List UInt8, Op.bytesLess a (a ++ [0]) = true
  | [] => rfl
  | a :: x => by
    have h1 : ¬ a < a := by show ¬ a.toNat < a.toNat; omega
    simp [Op.bytesLess, h1, less_app x]
theorem app_least (a b : List UInt8) (h : Op.bytesLess a b = true) : Op.bytesLess b (a ++ [0]) = false := by
  induction a generalizing b with
  | nil =>
    cases b with
    | nil => cases h
    | cons y b =>
      have h1 : ¬ y < 0 := by show ¬ y.toNat < 0; omega
      cases b <;> simp [Op.bytesLess, h1]
  | cons x a ih =>
    cases b with
    | nil => cases h
    | cons y b =>
      simp only [Op.bytesLess, Bool.or_eq_true, decide_eq_true_eq, Bool.and_eq_true, beq_iff_eq] at h
      rcases h with h | ⟨rfl, h⟩
      · have h1 : ¬ y < x := by have h' : x.toNat < y.toNat := h; show ¬ y.toNat < x.toNat; omega
        have h2 : (y == x) = false := by simp only [beq_eq_false_iff_ne, ne_eq]; rintro rfl; have h' : y.toNat < y.toNat := h; omega
        simp [Op.bytesLess, h1, h2]
      · have h1 : ¬ x < x := by show ¬ x.toNat < x.toNat; omega
        simp [Op.bytesLess, h1, ih b h]
theorem cat_list (s t : ByteArray) : (s ++ t).toList = s.toList ++ t.toList := by
  rw [ByteArray.toList_eq, ByteArray.toList_eq, ByteArray.toList_eq]
  simp
theorem cat_nul (s : ByteArray) : (s ++ (⟨#[0]⟩ : ByteArray)).toList = s.toList ++ [0] := by
  rw [cat_list, ByteArray.toList_eq (⟨#[0]⟩ : ByteArray)]
theorem stands_at {k : Int} {L : List Cv} (h : RightC k L) {i : Nat} (hi : i < L.length) : StandsAt L (L.getD i default).key i :=
  ⟨by omega, fun j hj => rise_lt h hj hi, fun j h1 h2 => by
    rcases Nat.eq_or_lt_of_le h1 with rfl | h3
    · exact less_irrefl _
    · cases hv : keyB (L.getD j default) (L.getD i default).key
      · rfl
      · have := less_trans _ _ _ (rise_lt h h3 h2) hv
        rw [less_irrefl] at this; cases this⟩
theorem stands_next {k : Int} {L : List Cv} (h : RightC k L) {i : Nat} (hi : i < L.length) : StandsAt L ((L.getD i default).key ++ (⟨#[0]⟩ : ByteArray)) (i + 1) := by
  refine ⟨by omega, fun j hj => ?_, fun j h1 h2 => ?_⟩
  · unfold keyB
    rw [cat_nul]
    rcases Nat.eq_or_lt_of_le (show j ≤ i by omega) with rfl | h3
    · exact less_app _
    · exact less_trans _ _ _ (rise_lt h h3 hi) (less_app _)
  · unfold keyB
    rw [cat_nul]
    exact app_least _ _ (rise_lt h (show i < j by omega) h2)
theorem cat_run (s : ByteArray) (h : s.size ≤ 1000000) (w : World) : (binOp .add 9 (.string s) (.string ⟨#[0]⟩)).run Try.prog w = .ok (.string (s ++ ⟨#[0]⟩)) w := by
  rw [binOp_string_add]
  unfold Op.stringOp
  have h1 : (⟨#[0]⟩ : ByteArray).size = 1 := rfl
  have h2 : IntKind.i64.max = 9223372036854775807 := rfl
  rw [if_neg (by rw [h1, h2]; omega)]
  rfl
set_option maxRecDepth 100000 in
set_option maxHeartbeats 2000000 in
theorem slotsAll_any (k : Int) (a : Option Addr) (L : List Cv) (cap : Nat) (hle : L.length ≤ cap) (hcm : cap ≤ maxLen) (W : World) (hm : CellsAt W.heap.size W a L) (hs : Sized L) :
    Calls Try.prog 9 #[.int .i64 k, .slice a L.length cap] W fun e W' => e = .returned (.bool true) ∧ Below W.heap.size W W' := by
  have HM := Lib.hid (And.intro hm (And.intro hs (And.intro hle hcm)))
  have hcm2 : cap ≤ 9223372036854775807 := by unfold maxLen at hcm; omega
  have HF := Lib.hid (few_any a L cap (by omega) W hm hs)
  clear hm hs hcm
  go_enter Try.func9, Try.ntmps9
  go_wp2_with fail
  refine HF.out.mono ?_
  rintro e w ⟨bf, rfl, rfl, hfew⟩
  cases bf
  · clear hfew HF
    go_wp2_with fail
    refine (known_any _).mono ?_
    rintro e w' ⟨rfl, hb⟩
    go_wp2
    go_ret
    exact ⟨rfl, hb⟩
  have hf := hfew rfl
  have h60 := hf.1
  have HFW := Lib.hid hf
  clear hfew hf HF
  go_wp2_with fail
  refine (right_any k _ a L cap (by omega) HM.out.1 HM.out.2.1).mono ?_
  rintro e w1 ⟨hb1, ⟨hr, rfl⟩ | ⟨hr, rfl⟩⟩
  case inr =>
    have H1 := Lib.hid hb1
    clear hb1 hr
    go_wp2_with fail
    refine (known_any _).mono ?_
    rintro e w' ⟨rfl, hb⟩
    go_wp2
    go_ret
    exact ⟨rfl, go_on H1.out hb⟩
  have HR := Lib.hid (And.intro hr hb1)
  clear hr hb1
  go_wp2
  go_loopw [5, 6, 7, 8, 9, 20, 21, 22, 23, 24, 25, 26, 27, 28, 29, 30, 31, 32, 33, 34, 35, 36, 37, 38, 39, 40, 41, 42, 43, 44, 45, 46, 47, 48, 49, 50, 51, 52, 53, 54, 55, 56, 57, 58, 59, 60, 61, 62, 63, 64, 65, 66, 67, 68, 69, 70, 71, 72, 73, 74, 75, 76, 77, 78, 79, 80, 81, 82, 83] (fun y _ _ _ _ _ _ _ _ _ _ _ _ _ _ _ _ _ _ _ _ _ _ _ _ _ _ _ _ _ _ _ _ _ _ _ _ _ _ _ _ _ _ _ _ _ _ _ _ _ _ _ _ _ _ _ _ _ _ _ _ _ _ _ _ _ _ _ _ wr => Below W.heap.size W wr ∧ ∃ i : Nat, y = .int .i64 i ∧ i ≤ L.length) (fun y _ _ _ _ _ _ _ _ _ _ _ _ _ _ _ _ _ _ _ _ _ _ _ _ _ _ _ _ _ _ _ _ _ _ _ _ _ _ _ _ _ _ _ _ _ _ _ _ _ _ _ _ _ _ _ _ _ _ _ _ _ _ _ _ _ _ _ _ _ => L.length - (intOf y).toNat)
  case atStart => exact ⟨HR.out.2, 0, rfl, Nat.zero_le _⟩
  case round =>
    obtain ⟨hb, i, rfl, hi⟩ := hrel
    by_cases hlt : i < L.length
    · have hiL : (i : Int) < (L.length : Int) := by omega
      obtain ⟨b, off, rfl, hbs, hcs⟩ := (HM.out.1.below hb) (by rintro rfl; simp at hlt)
      have hci := hcs i hlt
      obtain ⟨c, hcd⟩ : ∃ c, L.getD i default = c := ⟨_, rfl⟩
      have hks := (HFW.out.2 i hlt).1
      have hst1 := stands_at HR.out.1 hlt
      have hst2 := stands_next HR.out.1 hlt
      rw [hcd] at hci hks hst1 hst2
      have HF1 := Lib.hid (find_any L c.key (right_mono HR.out.1 _) (by omega) (some ⟨b, off, none⟩) cap wr ((HM.out.1.below hb).mono hb.size))
      have HX := Lib.hid (And.intro hb (And.intro hcs (And.intro hcd (And.intro hst1 (And.intro hst2 hlt)))))
      have HBS := Lib.hid hbs
      have hblt : b < wr.heap.size := Nat.lt_of_lt_of_le hbs hb.size
      obtain ⟨k0, -, -, -, -⟩ := hci
      have K0 := Lib.hid k0
      have hcat := cat_run c.key (by omega)
      clear hb hcs hcd hst1 hst2 hbs hlt
      go_wp2_with fail
      refine HF1.out.mono ?_
      rintro e w2 ⟨hb2, m, hst, rfl⟩
      obtain rfl := stands_one hst HX.out.2.2.2.1
      rw [HX.out.2.2.1, decide_eq_true HX.out.2.2.2.2.2, Bool.true_and, beq_self_eq_true]
      have k02 := (hb2.cell (p := ⟨b, off + m * 5, none⟩) hblt).trans K0.out
      have HF2 := Lib.hid (find_any L (c.key ++ ⟨#[0]⟩) (right_mono HR.out.1 _) (by omega) (some ⟨b, off, none⟩) cap w2 ((HM.out.1.below (go_on HX.out.1 hb2)).mono (go_on HX.out.1 hb2).size))
      have H2 := Lib.hid hb2
      have hblt2 : b < w2.heap.size := Nat.lt_of_lt_of_le hblt hb2.size
      clear hst hb2 k0
      go_wp2_with fail
      refine HF2.out.mono ?_
      rintro e w3 ⟨hb3, m2, hst, rfl⟩
      obtain rfl := stands_one hst HX.out.2.2.2.2.1
      have k03 := (hb3.cell (p := ⟨b, off + m * 5, none⟩) hblt2).trans k02
      have H3 := Lib.hid (go_on (go_on HX.out.1 H2.out) hb3)
      have hw1 : IntKind.i64.wrap ((m : Int) + 1) = (m : Int) + 1 := by rw [wrapEq]; unfold wrap64; omega
      by_cases hn : m + 1 < L.length
      · have hd1 : decide ((m : Int) + 1 < (L.length : Int)) = true := by simp; omega
        have hd2 : (m : Int) + 1 < (L.length : Int) := by omega
        obtain ⟨d, hdd⟩ : ∃ d, L.getD (m + 1) default = d := ⟨_, rfl⟩
        have hc1 := HX.out.2.1 (m + 1) hn
        rw [hdd] at hc1
        have q3 := (hb3.cell (p := ⟨b, off + (m + 1) * 5, none⟩) hblt2).trans ((H2.out.cell (p := ⟨b, off + (m + 1) * 5, none⟩) hblt).trans hc1.key)
        rw [hdd, decide_eq_true hn, Bool.true_and]
        obtain ⟨q, hq⟩ : ∃ q, (d.key.toList == (c.key ++ (⟨#[0]⟩ : ByteArray)).toList) = q := ⟨_, rfl⟩
        rw [hq]
        clear hst hb3 k02 hdd hc1
        cases q
        all_goals
          go_wp2_with fail
          go_quiet (fail)
          go_wp2_with fail
          exact ⟨⟨below_drewN H3.out nq, m + 1, by go_num, HX.out.2.2.2.2.2⟩, by have := HX.out.2.2.2.2.2; simp only [intOf]; omega⟩
      · have hd1 : decide ((m : Int) + 1 < (L.length : Int)) = false := by simp; omega
        have hd2 : ¬ (m : Int) + 1 < (L.length : Int) := by omega
        rw [decide_eq_false hn, Bool.false_and]
        clear hst hb3 k02
        go_wp2_with fail
        go_quiet (fail)
        go_wp2_with fail
        exact ⟨⟨below_drewN H3.out nq, m + 1, by go_num, HX.out.2.2.2.2.2⟩, by have := HX.out.2.2.2.2.2; simp only [intOf]; omega⟩
    · obtain rfl : i = L.length := by omega
      have hkL : ¬ ((L.length : Int) < (L.length : Int)) := by omega
      have HX := Lib.hid hb
      clear hb
      go_wp2_with fail
      refine (known_any _).mono ?_
      rintro e w' ⟨rfl, hb⟩
      go_wp2
      go_ret
      exact ⟨rfl, go_on HX.out hb⟩
end Go.Proofs.Ytaclbloconlhnaa

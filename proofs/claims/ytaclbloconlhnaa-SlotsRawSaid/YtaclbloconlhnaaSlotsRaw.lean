/- Layer 5: SlotsRaw: the bytes of any cells, and back. -/
import Derived.Test.YtaclbloconlhnaaSlRt
import Derived.Test.YtaclbloconlhnaaSlV
namespace Go.Proofs.Ytaclbloconlhnaa
open Go.RowKit

theorem same_self (L : List Cv) : sameL L L := ⟨rfl, fun _ _ => Cv.same_iff.2 rfl⟩
/-- The cells may not be. -/
def RawsA (k : Int) (L : List Cv) (a : Option Addr) (cap : Nat) (W : World) : Prop :=
  Calls Try.prog 3 #[.int .i64 k, .slice a L.length cap] W fun e W' => e = .returned (.bool true) ∧ Below W.heap.size W W'
set_option maxRecDepth 100000 in
set_option maxHeartbeats 2000000 in
theorem raws_no (k : Int) (L : List Cv) (hw : (Lit.int .i64 k).wf = true) (hr : ¬ RightC k L) (a : Option Addr) (cap : Nat) (W : World) (hm : CellsAt W.heap.size W a L) (hs : Sized L) (hf : Calls Try.prog 10 #[.slice a L.length cap] W fun e w' => FewPost W L e w') : RawsA k L a cap W := by
  have HF := Lib.hid hf
  have HM := Lib.hid (And.intro hm (And.intro hs hr))
  clear hf hm hs hr
  unfold RawsA
  go_enter Try.func3, Try.ntmps3
  go_wp2_with fail
  refine HF.out.mono ?_
  rintro e w ⟨bf, rfl, rfl, hfew⟩
  cases bf
  · clear hfew HF
    go_wp2_with fail
    refine (known_any _).mono ?_
    rintro e w' ⟨rfl, hb⟩
    go_wp2
    go_ret
    exact ⟨rfl, hb⟩
  have h60 := (hfew rfl).1
  clear hfew HF
  go_wp2_with fail
  refine (rawC_any k hw _ a L cap (by omega) HM.out.1).mono ?_
  rintro e w1 ⟨hb1, ⟨-, rfl⟩ | ⟨hn, -⟩ | ⟨hn, -⟩⟩
  case inr.inl => exact absurd hn HM.out.2.2
  case inr.inr => exact absurd hn HM.out.2.2
  have H1 := Lib.hid hb1
  clear hb1
  go_wp2_with fail
  refine (sizeC_any k hw _ a L cap (by omega) ((HM.out.1.below H1.out).mono H1.out.size)).mono ?_
  rintro e w2 ⟨hb2, ⟨hn, -⟩ | ⟨-, rfl⟩⟩
  case inl => exact absurd hn HM.out.2.2
  have H2 := Lib.hid (go_on H1.out hb2)
  clear hb2
  go_wp2_with fail
  refine (right_any k _ a L cap (by omega) ((HM.out.1.below H2.out).mono H2.out.size) HM.out.2.1).mono ?_
  rintro e w3 ⟨hb3, ⟨hn, -⟩ | ⟨-, rfl⟩⟩
  case inl => exact absurd hn HM.out.2.2
  have H3 := Lib.hid (go_on H2.out hb3)
  clear hb3
  go_wp2_with fail
  refine (checkC_any k hw _ a L cap (by omega) ((HM.out.1.below H3.out).mono H3.out.size)).mono ?_
  rintro e w4 ⟨hb4, ⟨hn, -⟩ | ⟨-, rfl⟩⟩
  case inl => exact absurd hn HM.out.2.2
  have H4 := Lib.hid (go_on H3.out hb4)
  clear hb4
  go_wp2_with fail
  refine (known_any _).mono ?_
  rintro e w' ⟨rfl, hb⟩
  go_wp2
  go_ret
  exact ⟨rfl, go_on H4.out hb⟩
set_option maxRecDepth 100000 in
set_option maxHeartbeats 2000000 in
theorem raws_full (k : Int) (L : List Cv) (hw : (Lit.int .i64 k).wf = true) (hr : RightC k L) (hfull : 232 < 2 + takenN (bytesOf (k == 2) L)) (a : Option Addr) (cap : Nat) (W : World) (hm : CellsAt W.heap.size W a L) (hs : Sized L) (hf : Calls Try.prog 10 #[.slice a L.length cap] W fun e w' => FewPost W L e w') : RawsA k L a cap W := by
  have HF := Lib.hid hf
  have HM := Lib.hid (And.intro hm (And.intro hs hr))
  have h9 := takenN_le (bytesOf (k == 2) L) (bytesOf_le _ _)
  rw [bytesOf_len] at h9
  have hrl := rawB_len (bytesOf (k == 2) L)
  obtain ⟨n, hn⟩ : ∃ n, takenN (bytesOf (k == 2) L) = n := ⟨_, rfl⟩
  rw [hn] at hfull h9 hrl
  have HN := Lib.hid (And.intro hn hrl)
  clear hf hm hs hr hn hrl
  unfold RawsA
  go_enter Try.func3, Try.ntmps3
  go_wp2_with fail
  refine HF.out.mono ?_
  rintro e w ⟨bf, rfl, rfl, hfew⟩
  cases bf
  · clear hfew HF
    go_wp2_with fail
    refine (known_any _).mono ?_
    rintro e w' ⟨rfl, hb⟩
    go_wp2
    go_ret
    exact ⟨rfl, hb⟩
  have h60 := (hfew rfl).1
  clear hfew HF
  go_wp2_with fail
  refine (rawC_any k hw _ a L cap (by omega) HM.out.1).mono ?_
  rintro e w1 ⟨hb1, ⟨hn, -⟩ | ⟨-, -, rfl⟩ | ⟨-, hn, -⟩⟩
  case inl => exact absurd HM.out.2.2 hn
  case inr.inr => exact absurd hn (by have := HN.out.1; omega)
  have H1 := Lib.hid hb1
  clear hb1
  go_wp2_with fail
  refine (sizeC_any k hw _ a L cap (by omega) ((HM.out.1.below H1.out).mono H1.out.size)).mono ?_
  rintro e w2 ⟨hb2, ⟨-, rfl⟩ | ⟨hn, -⟩⟩
  case inr => exact absurd HM.out.2.2 hn
  rw [HN.out.1]
  have H2 := Lib.hid (go_on H1.out hb2)
  clear hb2
  go_wp2_with fail
  refine (right_any k _ a L cap (by omega) ((HM.out.1.below H2.out).mono H2.out.size) HM.out.2.1).mono ?_
  rintro e w3 ⟨hb3, ⟨-, rfl⟩ | ⟨hn, -⟩⟩
  case inr => exact absurd HM.out.2.2 hn
  have H3 := Lib.hid (go_on H2.out hb3)
  clear hb3
  go_wp2_with fail
  refine (all5_any k L HM.out.2.2 (by omega) a cap _ ((HM.out.1.below H3.out).mono H3.out.size)).mono ?_
  rintro e w4 ⟨v4, rfl, hO4, hb4⟩
  obtain ⟨a4, c4, rfl, -⟩ := hO4.form
  rw [HN.out.2]
  have H4 := Lib.hid (go_on H3.out hb4)
  clear hb4 hO4
  go_wp2_with fail
  refine (checkC_any k hw _ a L cap (by omega) ((HM.out.1.below H4.out).mono H4.out.size)).mono ?_
  rintro e w5 ⟨hb5, ⟨-, rfl⟩ | ⟨hn, -⟩⟩
  case inr => exact absurd HM.out.2.2 hn
  have H5 := Lib.hid (go_on H4.out hb5)
  clear hb5
  go_wp2_with fail
  refine (known_any _).mono ?_
  rintro e w' ⟨rfl, hb⟩
  go_wp2
  go_ret
  exact ⟨rfl, go_on H5.out hb⟩
set_option maxRecDepth 100000 in
set_option maxHeartbeats 2000000 in
theorem raws_yes (k : Int) (L : List Cv) (hw : (Lit.int .i64 k).wf = true) (hr : RightC k L) (hfit : 2 + takenN (bytesOf (k == 2) L) ≤ 232) (a : Option Addr) (cap : Nat) (W : World) (hm : CellsAt W.heap.size W a L) (hs : Sized L) (hf : Calls Try.prog 10 #[.slice a L.length cap] W fun e w' => FewPost W L e w') : RawsA k L a cap W := by
  have HF := Lib.hid hf
  have HM := Lib.hid (And.intro hm (And.intro hs hr))
  have hrl := rawB_len (bytesOf (k == 2) L)
  have hP := parsed_raw hr hfit
  obtain ⟨b, hbb⟩ : ∃ b, rawB (bytesOf (k == 2) L) = b := ⟨_, rfl⟩
  rw [hbb] at hrl hP
  rw [← hrl] at hfit
  have HN := Lib.hid (And.intro hrl (And.intro hbb hP))
  clear hf hm hs hr hrl hbb hP
  unfold RawsA
  go_enter Try.func3, Try.ntmps3
  go_wp2_with fail
  refine HF.out.mono ?_
  rintro e w ⟨bf, rfl, rfl, hfew⟩
  cases bf
  · clear hfew HF
    go_wp2_with fail
    refine (known_any _).mono ?_
    rintro e w' ⟨rfl, hb⟩
    go_wp2
    go_ret
    exact ⟨rfl, hb⟩
  have h60 := (hfew rfl).1
  clear hfew HF
  go_wp2_with fail
  refine (rawC_any k hw _ a L cap (by omega) HM.out.1).mono ?_
  rintro e w1 ⟨hb1, ⟨hn, -⟩ | ⟨-, hn, -⟩ | ⟨-, -, v1, rfl, hO1⟩⟩
  case inl => exact absurd HM.out.2.2 hn
  case inr.inl => exact absurd hn (by have := HN.out.1; omega)
  rw [HN.out.2.1] at hO1
  obtain ⟨a1, c1, rfl, hB1, hc1, hm1, hn1, -⟩ := hO1.form
  have H1 := Lib.hid hb1
  have HB1 := Lib.hid (And.intro hB1 hn1)
  clear hb1 hO1 hB1 hn1
  go_wp2_with fail
  refine (sizeC_any k hw _ a L cap (by omega) ((HM.out.1.below H1.out).mono H1.out.size)).mono ?_
  rintro e w2 ⟨hb2, ⟨-, rfl⟩ | ⟨hn, -⟩⟩
  case inr => exact absurd HM.out.2.2 hn
  rw [← HN.out.1]
  have C2 := Lib.hid hb2
  have H2 := Lib.hid (go_on H1.out hb2)
  clear hb2
  go_wp2_with fail
  refine (right_any k _ a L cap (by omega) ((HM.out.1.below H2.out).mono H2.out.size) HM.out.2.1).mono ?_
  rintro e w3 ⟨hb3, ⟨-, rfl⟩ | ⟨hn, -⟩⟩
  case inr => exact absurd HM.out.2.2 hn
  have C3 := Lib.hid (go_on C2.out hb3)
  have H3 := Lib.hid (go_on H2.out hb3)
  clear hb3
  go_wp2_with fail
  refine (all5_any k L HM.out.2.2 (by omega) a cap _ ((HM.out.1.below H3.out).mono H3.out.size)).mono ?_
  rintro e w4 ⟨v4, rfl, hO4, hb4⟩
  rw [HN.out.2.1] at hO4
  obtain ⟨a4, c4, rfl, hB4, hc4, hm4, hn4, -⟩ := hO4.form
  have HB4 := Lib.hid hB4
  have C4 := Lib.hid (go_on C3.out hb4)
  have H4 := Lib.hid (go_on H3.out hb4)
  clear hb4 hO4 hB4 hn4
  go_wp2_with fail
  refine (checkC_any k hw _ a L cap (by omega) ((HM.out.1.below H4.out).mono H4.out.size)).mono ?_
  rintro e w5 ⟨hb5, ⟨-, rfl⟩ | ⟨hn, -⟩⟩
  case inr => exact absurd HM.out.2.2 hn
  have C5 := Lib.hid (go_on C4.out hb5)
  have D5 := Lib.hid hb5
  have H5 := Lib.hid (go_on H4.out hb5)
  clear hb5
  go_wp2_with fail
  refine (parse_any k hw b a1 c1 w1.heap.size hc1 _ (HB1.out.1.below C5.out) C5.out.size HB1.out.2 (by omega)).mono ?_
  rintro e w6 ⟨hb6, ⟨hk2, hk3, -⟩ | ⟨M, v6, hP, rfl, hO6⟩ | ⟨-, hno, -⟩⟩
  case inl => rcases HM.out.2.2.1 with h | h; exact absurd h hk2; exact absurd h hk3
  case inr.inr => exact absurd HN.out.2.2 (hno L)
  obtain rfl := parsed_one HN.out.2.2 hP
  obtain ⟨a6, c6, rfl, hc6, hm6, -, hA6, -⟩ := hO6.form
  have HA6 := Lib.hid hA6
  have hcv1 := conv_at w6 a1 b c1 w1.heap.size (HB1.out.1.below (go_on C5.out hb6))
  have hcv4 := conv_at w6 a4 b c4 w4.heap.size (HB4.out.below (go_on D5.out hb6))
  have H6 := Lib.hid (go_on H5.out hb6)
  clear hb6 hO6 hP hA6
  go_wp2_with fail
  refine (sameR_any _ a6 L c6 a L cap HA6.out ((HM.out.1.below H6.out).mono H6.out.size) (by omega) (by omega)).mono ?_
  rintro e w7 ⟨hb7, ⟨-, rfl⟩ | ⟨hn, -⟩⟩
  case inr => exact absurd (same_self L) hn
  have H7 := Lib.hid (go_on H6.out hb7)
  clear hb7
  go_wp2_with fail
  refine (known_any _).mono ?_
  rintro e w' ⟨rfl, hb⟩
  go_wp2
  go_ret
  exact ⟨rfl, go_on H7.out hb⟩
theorem slotsRaw_any (k : Int) (hw : (Lit.int .i64 k).wf = true) (a : Option Addr) (L : List Cv) (cap : Nat) (hle : L.length ≤ cap) (hcm : cap ≤ maxLen) (W : World) (hm : CellsAt W.heap.size W a L) (hs : Sized L) :
    Calls Try.prog 3 #[.int .i64 k, .slice a L.length cap] W fun e W' => e = .returned (.bool true) ∧ Below W.heap.size W W' := by
  have hcm2 : cap ≤ 9223372036854775807 := by unfold maxLen at hcm; omega
  have hf := few_any a L cap (by omega) W hm hs
  by_cases hr : RightC k L
  case neg => exact raws_no k L hw hr a cap W hm hs hf
  by_cases hfit : 2 + takenN (bytesOf (k == 2) L) ≤ 232
  · exact raws_yes k L hw hr hfit a cap W hm hs hf
  · exact raws_full k L hw hr (by omega) a cap W hm hs hf
end Go.Proofs.Ytaclbloconlhnaa

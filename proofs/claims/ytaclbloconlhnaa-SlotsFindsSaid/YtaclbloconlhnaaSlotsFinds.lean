/- Layer 5: SlotsFinds: where any key stands among cells. -/
import Derived.Test.YtaclbloconlhnaaSlY
namespace Go.Proofs.Ytaclbloconlhnaa
open Go.RowKit

set_option maxRecDepth 100000 in
set_option maxHeartbeats 2000000 in
theorem slotsFinds_any (k : Int) (a : Option Addr) (L : List Cv) (cap : Nat) (hle : L.length ≤ cap) (hcm : cap ≤ maxLen) (key : ByteArray) (hkey : key.size ≤ 9223372036854775807) (W : World) (hm : CellsAt W.heap.size W a L) (hs : Sized L) :
    Calls Try.prog 5 #[.int .i64 k, .slice a L.length cap, .string key] W fun e W' => e = .returned (.bool true) ∧ Below W.heap.size W W' := by
  have HM := Lib.hid (And.intro hm (And.intro hs (And.intro hle hcm)))
  have hcm2 : cap ≤ 9223372036854775807 := by unfold maxLen at hcm; omega
  have HF := Lib.hid (few_any a L cap (by omega) W hm hs)
  clear hm hs hcm
  go_enter Try.func5, Try.ntmps5
  go_wp2_with fail
  refine HF.out.mono ?_
  rintro e w ⟨bf, rfl, rfl, hfew⟩
  cases bf
  · clear hfew HF
    go_wp2_with fail
    refine (known_any _).mono ?_
    rintro e w' ⟨rfl, hb⟩
    go_wp2
    go_ret
    exact ⟨rfl, hb⟩
  have hf := hfew rfl
  have h60 := hf.1
  clear hfew hf HF
  by_cases hk3 : key.size ≤ 300
  case neg =>
    have hd : (300 : Int) < (key.size : Int) := by omega
    go_wp2_with fail
    refine (known_any _).mono ?_
    rintro e w' ⟨rfl, hb⟩
    go_wp2
    go_ret
    exact ⟨rfl, hb⟩
  have hd : ¬ ((300 : Int) < (key.size : Int)) := by omega
  go_wp2_with fail
  refine (right_any k _ a L cap (by omega) HM.out.1 HM.out.2.1).mono ?_
  rintro e w1 ⟨hb1, ⟨hr, rfl⟩ | ⟨hr, rfl⟩⟩
  case inr =>
    have H1 := Lib.hid hb1
    clear hb1 hr
    go_wp2_with fail
    refine (known_any _).mono ?_
    rintro e w' ⟨rfl, hb⟩
    go_wp2
    go_ret
    exact ⟨rfl, go_on H1.out hb⟩
  have HR := Lib.hid (And.intro hr hb1)
  clear hr hb1
  go_wp2_with fail
  refine (find_any L key (right_mono HR.out.1 key) (by omega) a cap w1 ((HM.out.1.below HR.out.2).mono HR.out.2.size)).mono ?_
  rintro e w2 ⟨hb2, m, hst, rfl⟩
  have H2 := Lib.hid (And.intro (go_on HR.out.2 hb2) hst)
  clear hb2 hst
  obtain ⟨q, hq⟩ : ∃ q, (decide (m < L.length) && ((L.getD m default).key.toList == key.toList)) = q := ⟨_, rfl⟩
  rw [hq]
  have HQ := Lib.hid hq
  clear hq
  go_wp2_with fail
  refine (refFind_any L key (right_mono HR.out.1 key) (by omega) a cap w2 ((HM.out.1.below H2.out.1).mono H2.out.1.size)).mono ?_
  rintro e w3 ⟨hb3, n, hst3, rfl⟩
  obtain rfl := stands_one H2.out.2 hst3
  rw [HQ.out]
  have H3 := Lib.hid (go_on H2.out.1 hb3)
  clear hb3 hst3
  cases q
  all_goals
    go_wp2_with fail
    refine (known_any _).mono ?_
    rintro e w' ⟨rfl, hb⟩
    go_wp2
    go_ret
    exact ⟨rfl, go_on H3.out hb⟩
end Go.Proofs.Ytaclbloconlhnaa

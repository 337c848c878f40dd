/- Layer 5: SlotsParses: the cells of any bytes, or that they are none's. -/
import Derived.Test.YtaceebgcaghocaaSlPe
import Derived.Test.YtaceebgcaghocaaSlS
import Derived.Test.YtaceebgcaghocaaSlV
import Derived.Test.YtaceebgcaghocaaSlQ
import Derived.Test.YtaceebgcaghocaaSlW
namespace Go.Proofs.Ytaceebgcaghocaa
open Go.RowKit

theorem same_selfP (L : List Cv) : sameL L L := ⟨rfl, fun _ _ => Cv.same_iff.2 rfl⟩
theorem cells_nil (n : Nat) (w : World) : CellsAt n w none [] := fun h => absurd rfl h
set_option maxRecDepth 100000 in
set_option maxHeartbeats 4000000 in
theorem slotsParses_any (k : Int) (hw : (Lit.int .i64 k).wf = true) (b : List UInt8) (a : Option Addr) (c : Nat) (hc : b.length ≤ c) (hno : a = none → c = 0) (W : World) (hm : BytesAt W.heap.size W a b) :
    Calls Try.prog 3 #[.int .i64 k, .slice a b.length c] W fun e W' => e = .returned (.bool true) ∧ Below W.heap.size W W' := by
  have HM := Lib.hid (And.intro hm hno)
  by_cases h3 : 300 < b.length
  · have g3 : (300 : Int) < b.length := by omega
    clear hm hno
    go_enter Try.func3, Try.ntmps3
    go_wp2_with fail
    refine (known_any _).mono ?_
    rintro e w' ⟨rfl, hb⟩
    go_wp2
    go_ret
    exact ⟨rfl, hb⟩
  have g3 : ¬ (300 : Int) < b.length := by omega
  have HP := Lib.hid (parse_any k hw b a c W.heap.size hc W hm (Nat.le_refl _) hno (by omega))
  have HD := Lib.hid (fun (w : World) (hb : Below W.heap.size W w) => dparse5_any k b a c (by omega) hc hno w ((hm.below hb).mono hb.size))
  have hb300 : b.length ≤ 300 := by omega
  clear hm hno h3
  go_enter Try.func3, Try.ntmps3
  go_wp2_with fail
  refine HP.out.mono ?_
  rintro e w1 ⟨hb1, hp⟩
  have H1 := Lib.hid hb1
  clear hb1
  rcases hp with ⟨hk2, hk3, rfl⟩ | ⟨L, v, hPL, rfl, hO1⟩ | ⟨hk, hnone, rfl⟩
  case inl =>
    have HK := Lib.hid (And.intro hk2 hk3)
    clear hk2 hk3
    go_wp2_with fail
    refine (HD.out w1 H1.out).mono ?_
    rintro e w2 ⟨hb2, ⟨-, rfl⟩ | ⟨hk, -⟩ | ⟨hk, -⟩⟩
    case inr.inl => rcases hk with h | h; exact absurd h HK.out.1; exact absurd h HK.out.2
    case inr.inr => rcases hk with h | h; exact absurd h HK.out.1; exact absurd h HK.out.2
    have H2 := Lib.hid (go_on H1.out hb2)
    have HS := Lib.hid (sameR_any w2 none [] 0 none [] 0 (cells_nil _ _) (cells_nil _ _) (by simp) (by simp))
    clear hb2
    go_wp2_with fail
    refine HS.out.mono ?_
    rintro e w3 ⟨hb3, ⟨-, rfl⟩ | ⟨hn, -⟩⟩
    case inr => exact absurd (same_selfP []) hn
    have H3 := Lib.hid (go_on H2.out hb3)
    clear hb3
    go_wp2_with fail
    refine (known_any _).mono ?_
    rintro e w' ⟨rfl, hb⟩
    go_wp2
    go_ret
    exact ⟨rfl, go_on H3.out hb⟩
  case inr.inr =>
    have HN := Lib.hid (And.intro hk hnone)
    clear hk hnone
    go_wp2_with fail
    refine (HD.out w1 H1.out).mono ?_
    rintro e w2 ⟨hb2, ⟨hk, -⟩ | ⟨-, L, v, hPL, -⟩ | ⟨-, -, rfl⟩⟩
    case inl => exact absurd HN.out.1 hk
    case inr.inl => exact absurd hPL (HN.out.2 L)
    have H2 := Lib.hid (go_on H1.out hb2)
    have HS := Lib.hid (sameR_any w2 none [] 0 none [] 0 (cells_nil _ _) (cells_nil _ _) (by simp) (by simp))
    clear hb2
    go_wp2_with fail
    refine HS.out.mono ?_
    rintro e w3 ⟨hb3, ⟨-, rfl⟩ | ⟨hn, -⟩⟩
    case inr => exact absurd (same_selfP []) hn
    have H3 := Lib.hid (go_on H2.out hb3)
    clear hb3
    go_wp2_with fail
    refine (known_any _).mono ?_
    rintro e w' ⟨rfl, hb⟩
    go_wp2
    go_ret
    exact ⟨rfl, go_on H3.out hb⟩
  case inr.inl =>
    have hLn : L.length ≤ 1000 := by
      have h1 := readUpto_len hPL.2.2.2.1
      have h2 := hPL.1
      have h3 := hPL.2.2.1
      omega
    obtain ⟨a1, c1, rfl, -, -, -, hA1, -⟩ := hO1.form
    have HL := Lib.hid hPL
    have HA1 := Lib.hid hA1
    have HLn := Lib.hid hLn
    clear hPL hA1 hO1 hLn
    go_wp2_with fail
    refine (HD.out w1 H1.out).mono ?_
    rintro e w2 ⟨hb2, ⟨hk, -⟩ | ⟨-, M, v, hPM, rfl, hO2⟩ | ⟨-, hno, -⟩⟩
    case inl => exact absurd HL.out.2.2.2.2.1 hk
    case inr.inr => exact absurd HL.out (hno L)
    obtain rfl := parsed_one HL.out hPM
    obtain ⟨a2, c2, rfl, -, -, -, hA2, -⟩ := hO2.form
    have H2 := Lib.hid (go_on H1.out hb2)
    have HA12 := Lib.hid ((HA1.out.below hb2).mono hb2.size)
    have HA2 := Lib.hid hA2
    have HS := Lib.hid (sameR_any w2 a1 L c1 a2 L c2 HA12.out hA2 HLn.out HLn.out)
    clear hb2 hPM hO2 hA2
    go_wp2_with fail
    refine HS.out.mono ?_
    rintro e w3 ⟨hb3, ⟨-, rfl⟩ | ⟨hn, -⟩⟩
    case inr => exact absurd (same_selfP L) hn
    have H3 := Lib.hid (go_on H2.out hb3)
    have HA13 := Lib.hid ((HA12.out.below hb3).mono hb3.size)
    have HR := Lib.hid (rawC_any k hw w3 a1 L c1 HLn.out HA13.out)
    clear hb3
    go_wp2_with fail
    refine HR.out.mono ?_
    rintro e w4 ⟨hb4, ⟨hn, -⟩ | ⟨-, hbig, -⟩ | ⟨-, -, v4, rfl, hO4⟩⟩
    case inl => exact absurd HL.out.2.2.2.2 hn
    case inr.inl =>
      have h1 := congrArg List.length (raw_forth HL.out)
      rw [rawB_len] at h1
      have := HL.out.1
      omega
    rw [raw_forth HL.out] at hO4
    obtain ⟨a4, c4, rfl, hB4, -⟩ := hO4.form
    have H4 := Lib.hid (go_on H3.out hb4)
    have hcv1 := conv_at w4 a b c W.heap.size (HM.out.1.below H4.out)
    have hcv4 := conv_at w4 a4 b c4 w4.heap.size hB4
    clear hb4 hO4 hB4
    go_wp2_with fail
    refine (known_any _).mono ?_
    rintro e w' ⟨rfl, hb⟩
    go_wp2
    go_ret
    exact ⟨rfl, go_on H4.out hb⟩
end Go.Proofs.Ytaceebgcaghocaa

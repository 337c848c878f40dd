/- Layer 13: does a filter meet a name, by definition. -/
import Derived.Test.YtgcfgheamaoceaaGreatDoorTopU
import Derived.BigQuiet
namespace Go.Proofs.YtgcfgheamaoceaaGreatDoor
open Go.RowKit Go.Shelf

theorem below_dr (w : World) (n : Nat) : Below w.heap.size w (w.drewN n) := ⟨rfl, rfl, rfl, Nat.le_refl _, fun _ _ => rfl⟩
theorem tx_dr {w : World} {a : Option Addr} {L : List (List UInt8)} (h : TxAt w a L) (n : Nat) : TxAt (w.drewN n) a L := h.below (below_dr w n)
def MtR (w : World) (b : Bool) (e : Ending) (w' : World) : Prop := e = .returned (.bool b) ∧ ∃ n, w' = w.drewN n
theorem mt_dr {f : FuncId} {args : Array Value} {w : World} {b : Bool} (m : Nat) (h : Calls Tryz.prog f args (w.drewN m) fun e w' => MtR (w.drewN m) b e w') : Calls Tryz.prog f args (w.drewN m) fun e w' => e = .returned (.bool b) ∧ ∃ n, w' = w.drewN n := by
  refine h.mono ?_
  rintro e w' ⟨rfl, n, rfl⟩
  exact ⟨rfl, m + n, by simp only [World.drewN, Nat.add_assoc]⟩
set_option maxRecDepth 100000 in
set_option maxHeartbeats 400000 in
theorem mt_any (L : List (List UInt8)) : ∀ (M : List (List UInt8)) (a b : Option Addr) (ca cb : Nat) (w : World), L.length ≤ 100000 → M.length ≤ 100000 → L.length ≤ ca → M.length ≤ cb → TxAt w a L → TxAt w b M →
    Calls Tryz.prog 56 #[.slice a L.length ca, .slice b M.length cb] w fun e w' => MtR w (mt L M) e w' := by
  induction L with
  | nil =>
    intro M a b ca cb w _ hl2 _ _ _ _
    have HM := Lib.hid (show mt [] M = M.isEmpty from rfl)
    cases M with
    | nil =>
      simp only [List.length_nil]
      go_enter Tryz.func56, Tryz.ntmps56
      go_wp2
      go_ret
      exact ⟨rfl, 0, rfl⟩
    | cons x N =>
      simp only [List.length_cons, List.length_nil] at hl2 ⊢
      generalize N.length = q at *
      have e1 : ((q : Int) + 1 == 0) = false := by simp; omega
      go_enter Tryz.func56, Tryz.ntmps56
      go_wp2
      go_ret
      exact ⟨rfl, 0, rfl⟩
  | cons f F ih =>
    intro M a b ca cb w hl1 hl2 hc1 hc2 h1 h2
    obtain ⟨b1, o1, rfl, hb1, hx1⟩ := h1 (by simp)
    have d1 := hx1 0 f rfl
    simp only [List.length_cons, Nat.add_zero] at hl1 hc1 d1 ⊢
    obtain ⟨o1', hs1, ht1⟩ := tx_from b1 o1 (F.length + 1) ca 1 (by omega) (by omega)
    have hF : TxAt w (some ⟨b1, o1', none⟩) F := ht1 w (f :: F) rfl h1
    simp only [Nat.add_sub_cancel, show ((1 : Nat) : Int) = 1 from rfl] at hs1
    have HF := Lib.hid hF
    have HI := Lib.hid ih
    clear ht1 hx1 h1 ih hF
    have HL := Lib.hid (And.intro hl1 hc1)
    rcases Bool.eq_false_or_eq_true (f == [35]) with h35 | h35
    · have HV := Lib.hid (show mt (f :: F) M = true by unfold mt; rw [h35]; rfl)
      generalize F.length = q at *
      generalize M.length = p at *
      have q0 : 0 < q + 1 := by omega
      go_enter Tryz.func56, Tryz.ntmps56
      go_wp2
      go_ret
      exact ⟨by rw [HV.out]; rfl, 0, rfl⟩
    · cases M with
      | nil =>
        have HV := Lib.hid (show mt (f :: F) [] = false by unfold mt; rw [h35]; rfl)
        simp only [List.length_nil]
        generalize F.length = q at *
        have q0 : 0 < q + 1 := by omega
        have e1 : ((q : Int) + 1 == 0) = false := by simp; omega
        go_enter Tryz.func56, Tryz.ntmps56
        go_wp2
        go_ret
        exact ⟨by rw [HV.out]; rfl, 0, rfl⟩
      | cons x N =>
        obtain ⟨b2, o2, rfl, hb2, hx2⟩ := h2 (by simp)
        have d2 := hx2 0 x rfl
        simp only [List.length_cons, Nat.add_zero] at hl2 hc2 d2 ⊢
        obtain ⟨o2', hs2, ht2⟩ := tx_from b2 o2 (N.length + 1) cb 1 (by omega) (by omega)
        have hN : TxAt w (some ⟨b2, o2', none⟩) N := ht2 w (x :: N) rfl h2
        simp only [Nat.add_sub_cancel, show ((1 : Nat) : Int) = 1 from rfl] at hs2
        have HN := Lib.hid hN
        clear ht2 hx2 h2 hN
        have hrec : ∀ m, Calls Tryz.prog 56 #[.slice (some ⟨b1, o1', none⟩) F.length (ca - 1), .slice (some ⟨b2, o2', none⟩) N.length (cb - 1)] (w.drewN m) fun e w' => e = .returned (.bool (mt F N)) ∧ ∃ n, w' = w.drewN n :=
          fun m => mt_dr m (HI.out N _ _ _ _ _ (by omega) (by omega) (by omega) (by omega) (tx_dr HF.out m) (tx_dr HN.out m))
        have HV := Lib.hid (show mt (f :: F) (x :: N) = ((f == [43] || f == x) && mt F N) by
          show (f == [35] || ((f == [43] || f == x) && mt F N)) = _
          rw [h35]; rfl)
        have HR := Lib.hid hrec
        clear hrec
        have HL2 := Lib.hid (And.intro hl2 hc2)
        clear hl1 hc1 hl2 hc2 HI
        generalize F.length = q at *
        generalize N.length = p at *
        generalize mt F N = z at *
        have q0 : 0 < q + 1 := by omega
        have e1 : ((q : Int) + 1 == 0) = false := by simp; omega
        have e2 : ((p : Int) + 1 == 0) = false := by simp; omega
        rcases Bool.eq_false_or_eq_true (f == [43]) with h43 | h43
        · have HV2 := Lib.hid (show mt (f :: F) (x :: N) = z by rw [HV.out, h43]; rfl)
          go_enter Tryz.func56, Tryz.ntmps56
          go_wp2
          go_quiet ((go_at_call 56; exact HR.out _))
          go_wp2
          go_ret
          exact ⟨by rw [HV2.out]; rfl, _, rfl⟩
        · rcases Bool.eq_false_or_eq_true (f == x) with hfx | hfx
          · have HV2 := Lib.hid (show mt (f :: F) (x :: N) = z by rw [HV.out, h43, hfx]; rfl)
            go_enter Tryz.func56, Tryz.ntmps56
            go_wp2
            go_quiet ((go_at_call 56; exact HR.out _))
            go_wp2
            go_ret
            exact ⟨by rw [HV2.out]; rfl, _, rfl⟩
          · have HV2 := Lib.hid (show mt (f :: F) (x :: N) = false by rw [HV.out, h43, hfx]; rfl)
            go_enter Tryz.func56, Tryz.ntmps56
            go_wp2
            go_quiet (fail)
            go_wp2
            go_ret
            exact ⟨by rw [HV2.out]; rfl, _, rfl⟩
end Go.Proofs.YtgcfgheamaoceaaGreatDoor

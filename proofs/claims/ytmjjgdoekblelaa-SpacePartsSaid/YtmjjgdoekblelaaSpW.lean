/- Layer 7: the document's Same of two lists of pages. -/
import Derived.Test.YtmjjgdoekblelaaSpV
namespace Go.Proofs.Ytmjjgdoekblelaa
open Go.RowKit

set_option maxRecDepth 100000 in
set_option maxHeartbeats 2000000 in
theorem gsame_any (b1 b2 : Nat) (a1 a2 : Option Addr) (c1 c2 : Nat) (l1 l2 : List Nat) (w : World) (h1 : OwnP w b1 (.slice a1 l1.length c1) l1) (h2 : OwnP w b2 (.slice a2 l2.length c2) l2) (hs1 : l1.length ≤ 5000) (hs2 : l2.length ≤ 5000) :
    Calls Try.prog 33 #[.slice a1 l1.length c1, .slice a2 l2.length c2] w fun e w' => e = .returned (.bool (decide (l1 = l2))) ∧ Below w.heap.size w w' := by
  have H1 := Lib.hid h1
  have H2 := Lib.hid h2
  clear h1 h2
  by_cases hl : l1.length = l2.length
  · have HL := Lib.hid hl
    obtain ⟨n, hn⟩ : ∃ n, l1.length = n := ⟨_, rfl⟩
    rw [← hl, hn] at H2 ⊢
    rw [hn] at H1 hs1
    have HN := Lib.hid hn
    clear hl hn hs2
    have hnn : (((n : Nat) : Int) != n) = false := by simp
    go_enter Try.func33, Try.ntmps33
    go_wp2
    go_loopw [5, 11, 12, 13, 14, 15, 16, 17, 18, 19, 20, 21, 22, 23, 24, 25] (fun x _ _ _ _ _ _ _ _ _ _ _ _ _ _ _ wr => ∃ k : Nat, x = .int .i64 k ∧ k ≤ n ∧ Hid (∀ j, j < k → l1[j]?.getD 0 = l2[j]?.getD 0) ∧ Below w.heap.size w wr)
      (fun x _ _ _ _ _ _ _ _ _ _ _ _ _ _ _ _ => n - (intOf x).toNat)
    case atStart => exact ⟨0, rfl, Nat.zero_le _, Lib.hid (fun j hj => absurd hj (Nat.not_lt_zero _)), Below.refl _ _⟩
    case round =>
      obtain ⟨k, rfl, hk, hE, hbw⟩ := hrel
      by_cases hlt : k < n
      · have hn1 := HN.out
        have hn2 := HL.out
        obtain ⟨g1, cp1, ev1, -, hg1⟩ := row_some H1.out (by omega)
        obtain ⟨g2, cp2, ev2, -, hg2⟩ := row_some H2.out (by omega)
        injection ev1 with e1 e2 e3
        injection ev2 with e4 e5 e6
        subst e1; subst e4; subst e3; subst e6
        clear e2 e5
        have hr1 := H1.out
        have hr2 := H2.out
        rw [← hn1] at hr1
        rw [show n = l2.length by omega] at hr2
        have hc1 := (hbw.cell (p := ⟨g1, k, none⟩) hg1).trans (row_nat hr1 (by omega))
        have hc2 := (hbw.cell (p := ⟨g2, k, none⟩) hg2).trans (row_nat hr2 (by omega))
        have hq : Hid (∀ p : Nat, l1[k]?.getD 0 = l2[k]?.getD 0 → ∀ j, j < k + 1 → l1[j]?.getD 0 = l2[j]?.getD 0) := Lib.hid (fun _ h j hj => by
          by_cases hjk : j = k
          · subst hjk; exact h
          · exact hE.out j (by omega))
        have hne : Hid (l1[k]?.getD 0 ≠ l2[k]?.getD 0 → decide (l1 = l2) = false) := Lib.hid (fun h => by
          simp; rintro rfl; exact h rfl)
        have HB := Lib.hid hbw
        clear hr1 hr2 hn1 hn2 hbw hE hg1 hg2
        generalize l1[k]?.getD 0 = q1 at hc1 hq hne
        generalize l2[k]?.getD 0 = q2 at hc2 hq hne
        by_cases hqq : q1 = q2
        · have hx : (((q1 : Nat) : Int) != q2) = false := by simp [hqq]
          have hq' := Lib.hid (hq.out 0 hqq)
          clear hqq hq hne
          go_wp2
          go_quiet (fail)
          go_wp2
          go_roundw
          case rel => exact ⟨k + 1, by go_num, by omega, hq', HB.out.trans ⟨rfl, rfl, rfl, Nat.le_refl _, fun _ _ => rfl⟩⟩
          case measure => simp [intOf]; omega
        · have hx : (((q1 : Nat) : Int) != q2) = true := by simp; omega
          have hq' := Lib.hid (hne.out hqq)
          clear hqq hq hne
          go_wp2
          go_quiet (fail)
          go_wp2
          go_ret
          rw [hq'.out]
          exact ⟨rfl, HB.out.trans ⟨rfl, rfl, rfl, Nat.le_refl _, fun _ _ => rfl⟩⟩
      · have hy : Hid (decide (l1 = l2) = true) := Lib.hid (by
          simp only [decide_eq_true_eq]
          have := HN.out
          exact list_ext HL.out (fun i hi => hE.out i (by omega)))
        go_wp2
        go_ret
        rw [hy.out]
        exact ⟨rfl, hbw⟩
  · have hx : (((l1.length : Nat) : Int) != l2.length) = true := by simp; omega
    have hq : Hid (decide (l1 = l2) = false) := Lib.hid (by simp; rintro rfl; exact hl rfl)
    generalize l1.length = n1 at hx
    generalize l2.length = n2 at hx
    clear hl
    go_enter Try.func33, Try.ntmps33
    go_wp2
    go_ret
    rw [hq.out]
    exact ⟨rfl, Below.refl _ _⟩
end Go.Proofs.Ytmjjgdoekblelaa

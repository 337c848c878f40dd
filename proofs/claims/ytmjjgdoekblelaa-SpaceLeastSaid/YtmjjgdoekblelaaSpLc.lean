/- A run of numbers without one of them: the statement's ten operations, in whatever order. -/
import Derived.Test.YtmjjgdoekblelaaSpLb
import Derived.Test.YtmjjgdoekblelaaReg3
namespace Go.Proofs.Ytmjjgdoekblelaa
open Go.RowKit

theorem slice_lo (w : World) (b off N c n : Nat) (h : n ≤ c) : (Instr.sliceAt 23 (.slice (some ⟨b, off, none⟩) N c) none (some (.int .i64 n)) none).run Try.prog w = .ok (.slice (some ⟨b, off, none⟩) n c) w := by
  have h1 : (0 : Int) ≤ n := by omega
  have h2 : (n : Int) ≤ c := by omega
  simp [go_sem, h1, h2]
theorem slice_hi (w : World) (b off N c n : Nat) (h : n < N) (hN : N ≤ c) : (Instr.sliceAt 23 (.slice (some ⟨b, off, none⟩) N c) (some (.int .i64 n)) none none).run Try.prog w = .ok (.slice (some ⟨b, off + n, none⟩) (N - n) (c - n)) w := by
  have h1 : (0 : Int) ≤ n := by omega
  have h2 : (n : Int) ≤ N := by omega
  simp [go_sem, h1, h2]
  omega
theorem slice_hi2 (N b off c n : Nat) (h : n ≤ N) (hN : N ≤ c) : ∃ b' off', (n < N → b' = b ∧ off' = off + n) ∧ ∀ w : World, (Instr.sliceAt 23 (.slice (some ⟨b, off, none⟩) N c) (some (.int .i64 n)) none none).run Try.prog w = .ok (.slice (some ⟨b', off', none⟩) (N - n) (c - n)) w := by
  rcases Nat.lt_or_ge n N with h1 | h1
  · exact ⟨b, off + n, fun _ => ⟨rfl, rfl⟩, fun w => slice_hi w b off N c n h1 hN⟩
  · obtain rfl : n = N := by omega
    by_cases hc : c = n
    · exact ⟨b, off, fun h => absurd h (by omega), fun w => by simp [go_sem, hc]⟩
    · exact ⟨b, off + n, fun h => absurd h (by omega), fun w => by
        have h1 : (0 : Int) ≤ n := by omega
        have h2 : (n : Int) ≤ c := by omega
        simp [go_sem, hc]⟩
theorem wpOp_add1 {ops : Array Oper} {Q : Exit → Act → World → Prop} {i : Nat} {o : Oper} {a : Act} {w : World} {K : Act → World → Prop} {x y : Operand} {n : Nat} (ho : ops[i]? = some o) (hg : Region.wanted o (yielded ops a.tmps) = true) (hop : o.op = .binOp .add 3 x y 3) (hx : a.eval x = .int .i64 n) (hy : a.eval y = .int .i64 1) (hn : n ≤ 1000) (hK : K (a.put o.dst (.int .i64 ((n + 1 : Nat) : Int))) w) : wpOp Try.prog ops Q i K a w := by
  have h : IntKind.i64.wrap ((n : Int) + 1) = ((n + 1 : Nat) : Int) := by rw [IntKind.wrap_i64]; omega
  exact wpOp_val ho hg (by simp only [execOp, hop, hx, hy]; simp [go_sem, h]) hK
def WoV (sl : Value) (b off m cap b' off' n' c' : Nat) (v3 v8 : Value) : Nat → Value → World → Prop
  | 0, v, _ => v = sl
  | 1, v, _ => v = .int .i64 m
  | 2, v, _ => v = .slice (some ⟨b, off, none⟩) m cap
  | 3, v, _ => v = v3
  | 4, v, _ => v = sl
  | 5, v, _ => v = .int .i64 m
  | 6, v, _ => v = .int .i64 ((m + 1 : Nat) : Int)
  | 7, v, _ => v = .slice (some ⟨b', off', none⟩) n' c'
  | 8, v, _ => v = v8
  | 9, v, _ => v = v8
  | _, _, _ => True
theorem WoV.any {sl : Value} {b off m cap b' off' n' c' : Nat} {v3 v8 : Value} {w w' : World} (j : Nat) (u : Value) (h : WoV sl b off m cap b' off' n' c' v3 v8 j u w) : WoV sl b off m cap b' off' n' c' v3 v8 j u w' := by
  unfold WoV at h ⊢
  split at h
  all_goals exact h
def WoI (wd w3 w8 : World) (listed : Array Bool) (w : World) : Prop := w = (if listed.getD 8 false then w8 else if listed.getD 3 false then w3 else wd)
theorem listed_ne (listed : Array Bool) (i j : Nat) (h : j ≠ i) : (listed.setIfInBounds i true).getD j false = listed.getD j false := by
  simp [Array.getD_eq_getD_getElem?, Ne.symm h]
theorem listed_eq (listed : Array Bool) (i : Nat) (h : i < listed.size) : (listed.setIfInBounds i true).getD i false = true := by simp [h]
theorem WoI.still {wd w3 w8 : World} {listed : Array Bool} {w : World} (h : WoI wd w3 w8 listed w) {i : Nat} (h3 : 3 ≠ i) (h8 : 8 ≠ i) : WoI wd w3 w8 (listed.setIfInBounds i true) w := by
  unfold WoI at h ⊢
  rw [listed_ne _ _ _ h3, listed_ne _ _ _ h8]; exact h
theorem WoI.at0 {wd w3 w8 : World} {listed : Array Bool} {w : World} (h : WoI wd w3 w8 listed w) (k8 : listed.getD 8 false = false) (k3 : listed.getD 3 false = false) : w = wd := by
  unfold WoI at h; rw [k8, k3] at h; exact h
theorem WoI.at3 {wd w3 w8 : World} {listed : Array Bool} {w : World} (h : WoI wd w3 w8 listed w) (k8 : listed.getD 8 false = false) (k3 : listed.getD 3 false = true) : w = w3 := by
  unfold WoI at h; rw [k8, k3] at h; exact h
theorem WoI.at8 {wd w3 w8 : World} {listed : Array Bool} {w : World} (h : WoI wd w3 w8 listed w) (k8 : listed.getD 8 false = true) : w = w8 := by
  unfold WoI at h; rw [k8] at h; exact h
theorem WoI.to3 {wd w3 w8 : World} {listed : Array Bool} (k8 : listed.getD 8 false = false) (hs : 3 < listed.size) : WoI wd w3 w8 (listed.setIfInBounds 3 true) w3 := by
  unfold WoI
  rw [listed_ne _ _ _ (by decide), k8, listed_eq _ _ hs]; rfl
theorem WoI.to8 {wd w3 w8 : World} {listed : Array Bool} (hs : 8 < listed.size) : WoI wd w3 w8 (listed.setIfInBounds 8 true) w8 := by
  unfold WoI
  rw [listed_eq _ _ hs]; rfl
end Go.Proofs.Ytmjjgdoekblelaa

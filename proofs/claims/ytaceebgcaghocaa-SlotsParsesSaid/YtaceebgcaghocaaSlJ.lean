/- Layer 5: the law's own few; the document's May. -/
import Derived.Test.YtaceebgcaghocaaSlF
namespace Go.Proofs.Ytaceebgcaghocaa
open Go.RowKit

def Few (L : List Cv) : Prop := L.length ≤ 60 ∧ ∀ j, j < L.length → (L.getD j default).key.size ≤ 300 ∧ (L.getD j default).text.size ≤ 300
def FewPost (w : World) (L : List Cv) (e : Ending) (w' : World) : Prop := ∃ b : Bool, e = .returned (.bool b) ∧ w = w' ∧ (b = true → Few L)
def mayB (leaf : Bool) (c : Cv) : Bool :=
  decide (c.key.size ≤ 48) && (!leaf || decide (c.key.size ≠ 0)) &&
  (if leaf = true ∧ c.long = false then decide (c.page = 0) && (decide (c.size = 0) && decide (c.text.size ≤ 60))
   else decide (1 ≤ c.page) && (decide (c.page ≤ 4095) && (decide (c.text.toList = []) && (if leaf then decide (61 ≤ c.size) && decide (c.size ≤ 4096) else !c.long && decide (c.size = 0)))))
theorem size_zero (s : ByteArray) : s.toList = [] ↔ s.size = 0 := by
  rw [ByteArray.toList_eq, ← data_len, List.length_eq_zero_iff]
theorem cellOk_may (leaf : Bool) (c : Cv) : CellOk leaf c ↔ mayB leaf c = true := by
  obtain ⟨key, text, long, page, size⟩ := c
  unfold CellOk mayB
  rw [Cv.same_iff]
  have hempty : ByteArray.empty.toList = [] := by rw [ByteArray.toList_eq]; rfl
  have he : (ByteArray.empty = text) ↔ text.toList = [] := by
    constructor
    · rintro rfl; exact hempty
    · intro h; exact toList_inj (by rw [h]; exact hempty)
  have b1 : ((key.size : Int) ≤ 48) = (key.size ≤ 48) := propext ⟨by omega, by omega⟩
  have b0 : (1 ≤ (key.size : Int)) = ¬ (key.size = 0) := propext ⟨by omega, by omega⟩
  have b2 : ((text.size : Int) ≤ 60) = (text.size ≤ 60) := propext ⟨by omega, by omega⟩
  have b3 : (0 ≤ (key.size : Int)) = True := propext ⟨fun _ => trivial, by omega⟩
  have b4 : (0 ≤ (text.size : Int)) = True := propext ⟨fun _ => trivial, by omega⟩
  cases leaf
  · simp only [hasOf, branchHas, handOf, branchHand, Bool.false_eq_true, if_false, hNum, hText, Cv.mk.injEq, b1, b3]
    by_cases a1 : key.size ≤ 48 <;> by_cases a2 : 1 ≤ page <;> by_cases a3 : page ≤ 4095 <;> cases long <;> by_cases a4 : size = 0 <;> by_cases a5 : text.toList = [] <;> simp [he, a1, a2, a3, a4, a5, eq_comm]
  · cases long
    · simp only [hasOf, leafHas, handOf, leafHand, Bool.false_eq_true, if_false, if_true, hNum, hText, hTruth, Cv.mk.injEq, b0, b1, b2, b4]
      by_cases a1 : key.size ≤ 48 <;> by_cases a0 : key.size = 0 <;> by_cases a2 : page = 0 <;> by_cases a4 : size = 0 <;> by_cases a5 : text.size ≤ 60 <;> simp [a0, a1, a2, a4, a5, eq_comm]
    · simp only [hasOf, leafHas, handOf, leafHand, Bool.false_eq_true, if_false, if_true, hNum, hText, hTruth, Cv.mk.injEq, b0, b1]
      by_cases a1 : key.size ≤ 48 <;> by_cases a0 : key.size = 0 <;> by_cases a2 : 1 ≤ page <;> by_cases a3 : page ≤ 4095 <;> by_cases a4 : 61 ≤ size <;> by_cases a6 : size ≤ 4096 <;> by_cases a5 : text.toList = [] <;> simp [he, a0, a1, a2, a3, a4, a5, a6]
set_option maxHeartbeats 4000000 in
set_option maxRecDepth 100000 in
theorem may_any (leaf : Bool) (c : Cv) (w : World) (hk : c.key.size ≤ 9223372036854775807) (ht : c.text.size ≤ 9223372036854775807) : Calls Try.prog 32 #[.bool leaf, cellv c] w fun e w' => e = .returned (.bool (mayB leaf c)) ∧ Below w.heap.size w w' := by
  by_cases hk48 : c.key.size ≤ 48
  case neg =>
    have hd : (48 : Int) < (c.key.size : Int) := by omega
    rw [show mayB leaf c = false by unfold mayB; rw [decide_eq_false hk48]; rfl]
    go_enter Try.func32, Try.ntmps32
    go_wp2
    go_ret
    exact ⟨rfl, (Below.refl _ _).alloc (Nat.le_refl _) _⟩
  have hd : ¬ (48 : Int) < (c.key.size : Int) := by omega
  have hd2 : decide ((48 : Int) < (c.key.size : Int)) = false := decide_eq_false hd
  cases leaf
  · have e : mayB false c = (decide (1 ≤ c.page) && (decide (c.page ≤ 4095) && (decide (c.text.toList = []) && (!c.long && decide (c.size = 0))))) := by
      unfold mayB; rw [decide_eq_true hk48]; simp
    rw [e]
    go_enter Try.func32, Try.ntmps32
    go_wp2
    all_goals
      go_ret
      refine ⟨ret_bool ?_, (Below.refl _ _).alloc (Nat.le_refl _) _⟩
      first | (rw [Bool.eq_iff_iff]; done) | (rw [Bool.eq_iff_iff]; simp [*]; done) | (rw [Bool.eq_iff_iff]; simp [*]; omega)
  · by_cases hk0 : c.key.size = 0
    · rw [show mayB true c = false by unfold mayB; rw [decide_eq_true hk48, hk0]; rfl]
      go_enter Try.func32, Try.ntmps32
      go_wp2
      go_ret
      exact ⟨rfl, (Below.refl _ _).alloc (Nat.le_refl _) _⟩
    · have hz : ((c.key.size : Int) == 0) = false := by simp only [beq_eq_false_iff_ne, ne_eq]; omega
      have e : mayB true c = (if c.long = false then decide (c.page = 0) && (decide (c.size = 0) && decide (c.text.size ≤ 60)) else decide (1 ≤ c.page) && (decide (c.page ≤ 4095) && (decide (c.text.toList = []) && (decide (61 ≤ c.size) && decide (c.size ≤ 4096))))) := by
        unfold mayB; rw [decide_eq_true hk48, decide_eq_true (show c.key.size ≠ 0 from hk0)]; simp
      rw [e]
      clear hk0
      go_enter Try.func32, Try.ntmps32
      go_wp2
      all_goals
        go_ret
        refine ⟨ret_bool ?_, (Below.refl _ _).alloc (Nat.le_refl _) _⟩
        first | (rw [Bool.eq_iff_iff]; done) | (rw [Bool.eq_iff_iff]; simp [*]; done) | (rw [Bool.eq_iff_iff]; simp [*]; omega)
end Go.Proofs.Ytaceebgcaghocaa

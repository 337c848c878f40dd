/- Layer 5: a copy of cells; are two lists the same, in the program's words and the document's. -/
import Derived.Test.YtaceebgcaghocaaSlW
import Derived.Test.YtaceebgcaghocaaSlU
namespace Go.Proofs.Ytaceebgcaghocaa
open Go.RowKit

def CopyPost (w : World) (M : List Cv) (e : Ending) (w' : World) : Prop := ∃ v, e = .returned v ∧ OwnC w' w.heap.size v M ∧ Below w.heap.size w w'
def sameL (L M : List Cv) : Prop := L.length = M.length ∧ ∀ j, j < L.length → (L.getD j default).same (M.getD j default) = true
def SamePost5 (w : World) (L M : List Cv) (e : Ending) (w' : World) : Prop := Below w.heap.size w w' ∧ ((sameL L M ∧ e = .returned (.bool true)) ∨ (¬ sameL L M ∧ e = .returned (.bool false)))
set_option maxRecDepth 100000 in
set_option maxHeartbeats 1000000 in
theorem sameR_any (w : World) (a : Option Addr) (L : List Cv) (c : Nat) (a' : Option Addr) (M : List Cv) (c' : Nat) (hm : CellsAt w.heap.size w a L) (hm' : CellsAt w.heap.size w a' M) (hL : L.length ≤ 1000) (hM : M.length ≤ 1000) :
    Calls Try.prog 7 #[.slice a L.length c, .slice a' M.length c'] w fun e w' => SamePost5 w L M e w' := by
  by_cases hll : L.length = M.length
  case neg =>
    have hd : ((L.length : Int) != (M.length : Int)) = true := by simp; omega
    have HN := Lib.hid (show ¬ sameL L M from fun h => hll h.1)
    clear hm hm' hll
    go_enter Try.func7, Try.ntmps7
    go_wp2
    go_ret
    exact ⟨Below.refl _ _, .inr ⟨HN.out, rfl⟩⟩
  have HL := Lib.hid hll
  rw [← hll]
  have HM := Lib.hid (And.intro hm hm')
  clear hm hm' hll
  go_enter Try.func7, Try.ntmps7
  go_wp2
  go_loopw [5, 11, 12, 13, 14, 15, 16, 17, 18, 19, 20, 21, 22, 23, 24, 25] (fun y _ _ _ _ _ _ _ _ _ _ _ _ _ _ _ wr => Below w.heap.size w wr ∧ ∃ i : Nat, y = .int .i64 i ∧ i ≤ L.length ∧ ∀ j, j < i → (L.getD j default).same (M.getD j default) = true) (fun y _ _ _ _ _ _ _ _ _ _ _ _ _ _ _ _ => L.length - (intOf y).toNat)
  case atStart => exact ⟨Below.refl _ _, 0, rfl, Nat.zero_le _, fun j hj => by omega⟩
  case round =>
    obtain ⟨hb, i, rfl, hi, hall⟩ := hrel
    by_cases hlt : i < L.length
    · have hiL : (i : Int) < (L.length : Int) := by omega
      obtain ⟨b, off, rfl, hbs, hcs⟩ := (HM.out.1.below hb) (by rintro rfl; simp at hlt)
      obtain ⟨b2, off2, rfl, hbs2, hcs2⟩ := (HM.out.2.below hb) (by rintro rfl; have h9 := HL.out; rw [List.length_nil] at h9; omega)
      obtain ⟨c1, hc1⟩ : ∃ c, L.getD i default = c := ⟨_, rfl⟩
      obtain ⟨c2, hc2⟩ : ∃ c, M.getD i default = c := ⟨_, rfl⟩
      have h1 := hcs i hlt
      have h2 := hcs2 i (by have := HL.out; omega)
      rw [hc1] at h1
      rw [hc2] at h2
      obtain ⟨k0, k1, k2, k3, k4⟩ := h1
      obtain ⟨q0, q1, q2, q3, q4⟩ := h2
      have hneq := fun w => neq_cell c1 c2 w
      cases hs : c1.same c2
      · simp only [hs, Bool.not_false] at hneq
        have HX := Lib.hid (And.intro hb (show ¬ sameL L M from fun h => by have := h.2 i hlt; rw [hc1, hc2, hs] at this; cases this))
        clear hb hall hcs hcs2 hc1 hc2 hlt hs
        go_wp2_with fail
        go_quiet (fail)
        go_wp2_with fail
        go_ret
        exact ⟨below_drewN HX.out.1 nq, .inr ⟨HX.out.2, rfl⟩⟩
      · simp only [hs, Bool.not_true] at hneq
        have HX := Lib.hid (And.intro hb (And.intro hlt (show ∀ j, j < i + 1 → (L.getD j default).same (M.getD j default) = true from fun j hj => by
          by_cases hji : j = i
          · subst hji; rw [hc1, hc2, hs]
          · exact hall j (by omega))))
        clear hb hall hcs hcs2 hc1 hc2 hlt hs
        go_wp2_with fail
        go_quiet (fail)
        go_wp2_with fail
        exact ⟨⟨below_drewN HX.out.1 nq, i + 1, by go_num, HX.out.2⟩, by have := HX.out.2.1; simp only [intOf]; omega⟩
    · obtain rfl : i = L.length := by omega
      have hkL : ¬ ((L.length : Int) < (L.length : Int)) := by omega
      have HX := Lib.hid (And.intro hb (show sameL L M from ⟨HL.out, hall⟩))
      clear hb hall
      go_wp2
      go_ret
      exact ⟨HX.out.1, .inl ⟨HX.out.2, rfl⟩⟩
end Go.Proofs.Ytaceebgcaghocaa

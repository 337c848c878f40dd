/- Layer 7: what the law of copies needs: a space that is not there is none's like; a copy beside its first. -/
import Derived.Test.YtmjjgdoekblelaaSpZe
import Derived.Test.YtmjjgdoekblelaaSpM
namespace Go.Proofs.Ytmjjgdoekblelaa
open Go.RowKit

theorem two_of {N : Nat} {w w2 : World} {B A : Nat} {s t : Spc} (h : IsSp N w B s) (hb : Below w.heap.size w w2) (ht : IsSp w.heap.size w2 A t) : IsTwo N w2 B s A t := by
  have hn := h.n_le
  obtain ⟨bl, bp, h, h1, h2, h3⟩ := h
  obtain ⟨al, ap, ht, t1, t2, t3⟩ := ht
  have e1 := h.row.lt
  have e2 := h.last.lt
  have e3 := h.now.lt
  refine ⟨bl, bp, al, ap, ⟨h.below hb, ht, fun j hj => ?_⟩, ⟨h1, h2, h3⟩, ⟨by omega, by omega, by omega⟩⟩
  simp only [List.mem_cons, List.not_mem_nil, or_false, not_or] at hj ⊢
  omega
theorem copy_new {N : Nat} {w : World} {B : Nat} {s : Spc} (h : IsSp N w B s) :
    Calls Try.prog 17 #[ptr B] w fun en w' => ∃ A, en = .returned (ptr A) ∧ IsSp w.heap.size w' A s ∧ Below w.heap.size w w' := by
  obtain ⟨bl, bp, h, -⟩ := h
  refine (copy_any h).mono ?_
  rintro en w' ⟨rfl, hc, hb⟩
  exact ⟨_, rfl, ⟨_, _, hc, Nat.le_refl _, by omega, by omega⟩, hb⟩
set_option maxRecDepth 100000 in
theorem same_nil {N : Nat} {w : World} {B : Nat} {s : Spc} (h : IsSp N w B s) :
    Calls Try.prog 19 #[ptr B, .pointer none] w fun en w' => en = .returned (.bool false) ∧ Below w.heap.size w w' := by
  obtain ⟨bl, bp, h, -⟩ := h
  have h1 := Lib.hid (there_yes h.row h.pos)
  have h2 := Lib.hid (there_absent (w := w) (v := .pointer none) (.inl rfl))
  have k1 : True := trivial
  clear h
  go_enter Try.func19, Try.ntmps19
  go_wp2_with (first
    | (have _t := k1; go_at_call 25; refine h1.out.mono ?_; rintro e w' ⟨rfl, rfl⟩; clear k1 _t; have k2 : True := trivial)
    | (have _t := k2; go_at_call 25; refine h2.out.mono ?_; rintro e w' ⟨rfl, rfl⟩; clear k2 _t; have k3 : True := trivial)
    | (have _t := k3; go_at_call 25; refine h1.out.mono ?_; rintro e w' ⟨rfl, rfl⟩; clear k3 _t; have k4 : True := trivial)
    | (have _t := k4; go_at_call 25; refine h2.out.mono ?_; rintro e w' ⟨rfl, rfl⟩; clear k4 _t))
  go_ret
  exact ⟨rfl, Below.refl _ _⟩
/-- Ahead of the k-th page, while what is now is held against what is now. -/
def Alike3 (g o : GSp) (k : Nat) (al : Bool) : Prop := (al = true → g.now.length = o.now.length ∧ g.last.length = o.last.length ∧ ∀ j, j < k → g.now[j]?.getD 0 = o.now[j]?.getD 0) ∧ (al = false → ¬ (g.now = o.now ∧ g.last = o.last))
/-- The same of what lasted. -/
def Alike4 (g o : GSp) (k : Nat) (al : Bool) : Prop := (al = true → g.now = o.now ∧ g.last.length = o.last.length ∧ ∀ j, j < k → g.last[j]?.getD 0 = o.last[j]?.getD 0) ∧ (al = false → ¬ (g.now = o.now ∧ g.last = o.last))
theorem alike_start {g o : GSp} {bl bm : Bool} (hl : ((g.now.length : Int) == o.now.length) = bl) (hm : ((g.last.length : Int) == o.last.length) = bm) : Alike3 g o 0 (bl && bm) := by
  refine ⟨fun h => ?_, fun h => ?_⟩
  · rw [Bool.and_eq_true] at h
    rw [h.1] at hl
    rw [h.2] at hm
    have e1 : (g.now.length : Int) = o.now.length := by simpa using hl
    have e2 : (g.last.length : Int) = o.last.length := by simpa using hm
    exact ⟨by omega, by omega, fun j hj => absurd hj (Nat.not_lt_zero _)⟩
  · rintro ⟨e1, e2⟩
    rw [e1] at hl
    rw [e2] at hm
    rw [← hl, ← hm] at h
    simp at h
theorem alike_step3 {g o : GSp} {k : Nat} (h : Alike3 g o k true) {b : Bool} (hb : b = true ↔ g.now[k]?.getD 0 = o.now[k]?.getD 0) : Alike3 g o (k + 1) b := by
  refine ⟨fun e => ?_, fun e => ?_⟩
  · obtain ⟨h1, h2, h3⟩ := h.1 rfl
    refine ⟨h1, h2, fun j hj => ?_⟩
    by_cases hjk : j = k
    · subst hjk; exact hb.1 e
    · exact h3 j (by omega)
  · rintro ⟨e1, -⟩
    have := hb.2 (by rw [e1])
    rw [this] at e; cases e
theorem alike_mid {g o : GSp} {k : Nat} {al : Bool} (h : Alike3 g o k al) (hk : al = true → g.now.length ≤ k) : Alike4 g o 0 al := by
  refine ⟨fun e => ?_, h.2⟩
  obtain ⟨h1, h2, h3⟩ := h.1 e
  exact ⟨list_ext h1 (fun i hi => h3 i (by have := hk e; omega)), h2, fun j hj => absurd hj (Nat.not_lt_zero _)⟩
theorem alike_step4 {g o : GSp} {k : Nat} (h : Alike4 g o k true) {b : Bool} (hb : b = true ↔ g.last[k]?.getD 0 = o.last[k]?.getD 0) : Alike4 g o (k + 1) b := by
  refine ⟨fun e => ?_, fun e => ?_⟩
  · obtain ⟨h1, h2, h3⟩ := h.1 rfl
    refine ⟨h1, h2, fun j hj => ?_⟩
    by_cases hjk : j = k
    · subst hjk; exact hb.1 e
    · exact h3 j (by omega)
  · rintro ⟨-, e2⟩
    have := hb.2 (by rw [e2])
    rw [this] at e; cases e
theorem alike_end {g o : GSp} {k : Nat} {al : Bool} (h : Alike4 g o k al) (hk : al = true → g.last.length ≤ k) : al = true ↔ (g.now = o.now ∧ g.last = o.last) := by
  constructor
  · intro e
    obtain ⟨h1, h2, h3⟩ := h.1 e
    exact ⟨h1, list_ext h2 (fun i hi => h3 i (by have := hk e; omega))⟩
  · intro e
    cases al with
    | true => rfl
    | false => exact absurd e (h.2 rfl)
end Go.Proofs.Ytmjjgdoekblelaa

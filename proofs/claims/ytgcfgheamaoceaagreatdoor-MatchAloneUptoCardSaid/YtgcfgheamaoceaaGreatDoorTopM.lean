/- Layer 13: purely, what the program puts together of a filter's levels; and in memory: texts, what both functions tell, are two lists the same. -/
import Derived.Test.YtgcfgheamaoceaaGreatDoorTopL
namespace Go.Proofs.YtgcfgheamaoceaaGreatDoor
open Go.RowKit Go.Shelf

def isSp (f : List UInt8) : Bool := f == [43] || f == [35]
/-- What a special level meets of those that are left. -/
def mM (f : List UInt8) (L : List (List UInt8)) : List (List UInt8) := if f = [43] then (match L with | [] => [[43]] | x :: _ => if x = [35] then [[43]] else [x]) else L
def cvStep (all : List (List UInt8)) (hid : Bool) (met : List (List UInt8)) (n : Nat) (f : List UInt8) : Bool × List (List UInt8) :=
  if isSp f then (if n = 0 ∧ hid = true then (true, met) else (decide (all.length < (met ++ mM f (all.drop met.length)).length), met ++ mM f (all.drop met.length)))
  else (decide (all.length < (met ++ [f]).length), met ++ [f])
def cvF (all : List (List UInt8)) (hid : Bool) (s : Bool × List (List UInt8)) (x : Nat × List UInt8) : Bool × List (List UInt8) := if s.1 then s else cvStep all hid s.2 x.1 x.2
def cvP (all : List (List UInt8)) (hid : Bool) (p : List (Nat × List UInt8)) : Bool × List (List UInt8) := p.foldl (cvF all hid) (false, [])
theorem cvP_snoc (all : List (List UInt8)) (hid : Bool) (p : List (Nat × List UInt8)) (x : Nat × List UInt8) : cvP all hid (p ++ [x]) = cvF all hid (cvP all hid p) x := by simp [cvP]
theorem cvF_stop (all : List (List UInt8)) (hid : Bool) (met : List (List UInt8)) (l : List (Nat × List UInt8)) : l.foldl (cvF all hid) (true, met) = (true, met) := by
  induction l with
  | nil => rfl
  | cons x l ih => rw [List.foldl_cons]; exact ih
theorem cvP_stop {all : List (List UInt8)} {hid : Bool} {p q : List (Nat × List UInt8)} (h : p <+: q) (hs : (cvP all hid p).1 = true) : cvP all hid q = cvP all hid p := by
  obtain ⟨r, rfl⟩ := h
  unfold cvP at hs ⊢
  rw [List.foldl_append]
  generalize p.foldl (cvF all hid) (false, []) = sm at hs ⊢
  obtain ⟨s, m⟩ := sm
  simp only at hs
  subst hs
  exact cvF_stop all hid m r
def en : Nat → List (List UInt8) → List (Nat × List UInt8)
  | _, [] => []
  | k, f :: F => (k, f) :: en (k + 1) F
theorem cv_fold {all : List (List UInt8)} {hid : Bool} (F : List (List UInt8)) : ∀ (k : Nat) (met : List (List UInt8)), met.length ≤ all.length → ¬ (k = 0 ∧ hid = true ∧ sFst F = true) →
    (((en k F).foldl (cvF all hid) (false, met)).2 = all ↔ ∃ rest, all = met ++ rest ∧ cv F rest = true) := by
  induction F with
  | nil =>
    intro k met hm _
    simp only [en, List.foldl_nil, cv, List.isEmpty_iff]
    exact ⟨fun h => ⟨[], by rw [h, List.append_nil], rfl⟩, fun ⟨r, h, e⟩ => by rw [h, e, List.append_nil]⟩
  | cons f F ih =>
    intro k met hm hk
    have hdrop : ∀ rest, all = met ++ rest → all.drop met.length = rest := fun rest h => by rw [h, List.drop_left]
    have hk1 : ¬ (k + 1 = 0 ∧ hid = true ∧ sFst F = true) := fun h => by omega
    rw [en, List.foldl_cons]
    have e0 : cvF all hid (false, met) (k, f) = cvStep all hid met k f := rfl
    rw [e0]
    by_cases hs : isSp f = true
    · have hno : ¬ (k = 0 ∧ hid = true) := fun h => hk ⟨h.1, h.2, by unfold sFst; exact hs⟩
      have e1 : cvStep all hid met k f = (decide (all.length < (met ++ mM f (all.drop met.length)).length), met ++ mM f (all.drop met.length)) := by unfold cvStep; rw [if_pos hs, if_neg hno]
      rw [e1]
      by_cases hp : f = [43]
      · subst hp
        cases hX : all.drop met.length with
        | nil =>
          have hl : all.length ≤ met.length := by simpa using hX
          have e2 : mM [43] [] = [[43]] := rfl
          rw [e2, show decide (all.length < (met ++ ([[43]] : List (List UInt8))).length) = true by simp; omega, cvF_stop]
          constructor
          · intro h
            have := congrArg List.length h
            simp at this; omega
          · rintro ⟨rest, h, hc⟩
            rw [hdrop rest h] at hX
            subst hX
            simp [cv] at hc
        | cons x T =>
          have hl : met.length < all.length := by
            rcases Nat.lt_or_ge met.length all.length with h | h
            · exact h
            · rw [List.drop_of_length_le h] at hX; cases hX
          by_cases hx : x = [35]
          · have e2 : mM [43] (x :: T) = [[43]] := by unfold mM; rw [if_pos rfl]; simp only; rw [if_pos hx]
            rw [e2, show decide (all.length < (met ++ ([[43]] : List (List UInt8))).length) = false by simp; omega]
            rw [ih (k + 1) _ (by simp; omega) hk1]
            constructor
            · rintro ⟨rest, h, -⟩
              rw [List.append_assoc] at h
              rw [hdrop _ h] at hX
              cases hX
              exact absurd hx (by decide)
            · rintro ⟨rest, h, hc⟩
              rw [hdrop rest h] at hX
              subst hX
              simp [cv, hx] at hc
          · have e2 : mM [43] (x :: T) = [x] := by unfold mM; rw [if_pos rfl]; simp only; rw [if_neg hx]
            rw [e2, show decide (all.length < (met ++ [x]).length) = false by simp; omega]
            rw [ih (k + 1) _ (by simp; omega) hk1]
            constructor
            · rintro ⟨rest, h, hc⟩
              exact ⟨x :: rest, by rw [h]; simp, by simp [cv, hx, hc]⟩
            · rintro ⟨rest, h, hc⟩
              rw [hdrop rest h] at hX
              subst hX
              simp [cv, hx] at hc
              exact ⟨T, by rw [h]; simp, hc⟩
      · have hh : f = [35] := by
          unfold isSp at hs
          simpa [hp] using hs
        subst hh
        have e2 : ∀ L, mM [35] L = L := fun L => by unfold mM; rw [if_neg (by decide)]
        rw [e2]
        have hlen : (met ++ all.drop met.length).length = all.length := by simp; omega
        rw [show decide (all.length < (met ++ all.drop met.length).length) = false by rw [hlen]; simp]
        rw [ih (k + 1) _ (by omega) hk1]
        constructor
        · rintro ⟨rest, h, hc⟩
          have h1 := congrArg List.length h
          rw [List.length_append, hlen] at h1
          obtain rfl : rest = [] := List.length_eq_zero_iff.1 (by omega)
          rw [List.append_nil] at h
          exact ⟨_, h, by simp [cv, hc]⟩
        · rintro ⟨rest, h, hc⟩
          have := hdrop rest h
          simp [cv] at hc
          exact ⟨[], by rw [List.append_nil, this]; exact h, hc⟩
    · have hp : f ≠ [43] ∧ f ≠ [35] := by
        unfold isSp at hs
        simpa using hs
      have e1 : cvStep all hid met k f = (decide (all.length < (met ++ [f]).length), met ++ [f]) := by unfold cvStep; rw [if_neg hs]
      rw [e1]
      rcases Nat.lt_or_ge met.length all.length with hl | hl
      · rw [show decide (all.length < (met ++ [f]).length) = false by simp; omega]
        rw [ih (k + 1) _ (by simp; omega) hk1]
        constructor
        · rintro ⟨rest, h, hc⟩
          exact ⟨f :: rest, by rw [h]; simp, by simp [cv, hp.1, hp.2, hc]⟩
        · rintro ⟨rest, h, hc⟩
          cases rest with
          | nil => simp [cv, hp.2] at hc
          | cons x T =>
            simp [cv, hp.1, hp.2] at hc
            obtain ⟨rfl, hc⟩ := hc
            exact ⟨T, by rw [h]; simp, hc⟩
      · rw [show decide (all.length < (met ++ [f]).length) = true by simp; omega]
        rw [cvF_stop]
        constructor
        · intro h
          have := congrArg List.length h
          simp at this; omega
        · rintro ⟨rest, h, hc⟩
          have h1 := congrArg List.length h
          rw [List.length_append] at h1
          obtain rfl : rest = [] := List.length_eq_zero_iff.1 (by omega)
          simp [cv, hp.2] at hc
theorem cvP_all {F all : List (List UInt8)} {hid : Bool} (hF : F ≠ []) (ha : all ≠ []) : decide ((cvP all hid (en 0 F)).2 = all) = (!(hid && sFst F) && cv F all) := by
  rw [Bool.eq_iff_iff, decide_eq_true_eq]
  by_cases h : hid = true ∧ sFst F = true
  · cases F with
    | nil => exact absurd rfl hF
    | cons f F =>
      have hs : isSp f = true := h.2
      have e : cvP all hid (en 0 (f :: F)) = (true, []) := by
        unfold cvP
        rw [en, List.foldl_cons]
        have : cvF all hid (false, []) (0, f) = (true, []) := by
          unfold cvF cvStep
          simp [hs, h.1]
        rw [this, cvF_stop]
      rw [e, h.1, h.2]
      constructor
      · intro e'; exact absurd e'.symm ha
      · intro e'; simp at e'
  · have hb : (hid && sFst F) = false := by
      cases hid <;> cases hsf : sFst F <;> simp_all
    rw [hb, Bool.not_false, Bool.true_and]
    unfold cvP
    rw [cv_fold F 0 [] (Nat.zero_le _) (fun ⟨_, h1, h2⟩ => h ⟨h1, h2⟩)]
    constructor
    · rintro ⟨rest, h1, h2⟩
      rw [List.nil_append] at h1
      rw [h1]; exact h2
    · exact fun h => ⟨all, rfl, h⟩
end Go.Proofs.YtgcfgheamaoceaaGreatDoor

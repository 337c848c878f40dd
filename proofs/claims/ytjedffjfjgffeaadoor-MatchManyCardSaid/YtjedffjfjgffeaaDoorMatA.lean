/- Layer 14, of no program: entries; what of them lies behind a path of levels; which of them meet what is left of a name. -/
import Derived.Test.YtjedffjfjgffeaaDoorTopB
namespace Go.Proofs.YtjedffjfjgffeaaDoor

/-- An entry: its Filter, its Client, its Qos. -/
structure Sb where
  f : List UInt8
  c : List UInt8
  q : Nat
deriving DecidableEq

theorem filter_or_perm {α : Type} (a b : α → Bool) : ∀ l : List α, (∀ x ∈ l, ¬ (a x = true ∧ b x = true)) → (l.filter fun x => a x || b x).Perm (l.filter a ++ l.filter b)
  | [], _ => .nil
  | x :: l, h => by
    have ih := filter_or_perm a b l fun y hy => h y (by simp [hy])
    have hx := h x (by simp)
    cases ha : a x with
    | true =>
      have hb : b x = false := by
        cases hb : b x with
        | false => rfl
        | true => exact absurd ⟨ha, hb⟩ hx
      simp only [List.filter_cons, ha, hb, Bool.true_or, if_true, Bool.false_eq_true, if_false, List.cons_append]
      exact ih.cons x
    | false =>
      cases hb : b x with
      | true =>
        simp only [List.filter_cons, ha, hb, Bool.or_true, if_true, Bool.false_eq_true, if_false]
        exact (ih.cons x).trans List.perm_middle.symm
      | false =>
        simp only [List.filter_cons, ha, hb, Bool.or_self, Bool.false_eq_true, if_false]
        exact ih

theorem filt_no {α : Type} (l : List α) : (l.filter fun _ => false) = [] := List.filter_eq_nil_iff.2 fun _ _ h => by cases h
abbrev Pth := List (List UInt8)
/-- Lies an entry at a path, or further on? -/
def under (p : Pth) (s : Sb) : Bool := decide (p <+: lv s.f)
theorem under_iff {p : Pth} {s : Sb} : under p s = true ↔ ∃ r, lv s.f = p ++ r := by
  unfold under
  rw [decide_eq_true_eq]
  exact ⟨fun ⟨r, h⟩ => ⟨r, h.symm⟩, fun ⟨r, h⟩ => ⟨r, h.symm⟩⟩
/-- Do the levels that are left meet what is left of a name? -/
def gmm (o : Bool) (r N : Pth) : Bool := (o || !sFst r) && mt r N
/-- Is an entry told by a walk that stands at a path? -/
def got (o : Bool) (p N : Pth) (s : Sb) : Bool := under p s && gmm o ((lv s.f).drop p.length) N

theorem got_of {o : Bool} {p N r : Pth} {s : Sb} (h : lv s.f = p ++ r) : got o p N s = gmm o r N := by
  unfold got
  rw [under_iff.2 ⟨r, h⟩, h, List.drop_left, Bool.true_and]
theorem got_not {o : Bool} {p N : Pth} {s : Sb} (h : ∀ r, lv s.f ≠ p ++ r) : got o p N s = false := by
  unfold got
  cases hu : under p s with
  | false => rfl
  | true =>
    obtain ⟨r, hr⟩ := under_iff.1 hu
    exact absurd hr (h r)
theorem got_on {o : Bool} {p N r : Pth} {x y : List UInt8} {s : Sb} (h : lv s.f = p ++ x :: r) : got o (p ++ [y]) N s = (decide (x = y) && gmm o r N) := by
  by_cases e : x = y
  · subst e
    rw [got_of (r := r) (by rw [h]; simp)]
    simp
  · rw [got_not (fun r' h' => by
      rw [h, List.append_assoc] at h'
      have := List.append_cancel_left h'
      simp at this
      exact e this.1)]
    simp [e]
theorem got_end {o : Bool} {p N : Pth} {y : List UInt8} {s : Sb} (h : lv s.f = p) : got o (p ++ [y]) N s = false := got_not fun r h' => by
  rw [h] at h'
  have := congrArg List.length h'
  simp at this
theorem okF_tail {x : List UInt8} {r : Pth} (h : okF (x :: r) = true) : okF r = true := by
  unfold okF at h; rw [Bool.and_eq_true] at h; exact h.2
theorem okF_app {p r : Pth} (h : okF (p ++ r) = true) : okF r = true := by
  induction p with
  | nil => exact h
  | cons x p ih => exact ih (okF_tail h)
theorem okF_hash {r : Pth} (h : okF ([35] :: r) = true) : r = [] := by
  unfold okF at h
  rw [Bool.and_eq_true] at h
  have h1 := h.1
  cases r with
  | nil => rfl
  | cons x r => exact absurd h1 (by simp [hasS, sgn])
/-- Nothing is left of the name: what is told is what ends here, and behind a #. -/
theorem got_nil {o : Bool} {p : Pth} {s : Sb} (hk : okF (lv s.f) = true) : got o p [] s = ((o && got true (p ++ [[35]]) [] s) || decide (lv s.f = p)) := by
  cases hu : under p s with
  | false =>
    have h0 : ∀ r, lv s.f ≠ p ++ r := fun r hr => by rw [under_iff.2 ⟨r, hr⟩] at hu; cases hu
    rw [got_not h0, got_not (fun r hr => h0 ([35] :: r) (by rw [hr]; simp))]
    simp only [Bool.and_false, Bool.false_or]
    exact (decide_eq_false fun e => h0 [] (by rw [e]; simp)).symm
  | true =>
    obtain ⟨r, hr⟩ := under_iff.1 hu
    rw [got_of hr]
    cases r with
    | nil =>
      have e : lv s.f = p := by rw [hr, List.append_nil]
      rw [got_end e, decide_eq_true e]
      cases o <;> rfl
    | cons x r =>
      have hne : ¬ lv s.f = p := fun e => by
        rw [hr] at e
        have := congrArg List.length e
        simp at this
      rw [got_on hr, decide_eq_false hne, Bool.or_false]
      have hk2 : okF (x :: r) = true := okF_app (p := p) (hr ▸ hk)
      by_cases e : x = [35]
      · subst e
        rw [okF_hash hk2]
        cases o <;> rfl
      · have : (x == [35]) = false := by simpa using e
        simp [gmm, mt, this, e]
theorem sFst_cons (x : List UInt8) (r : Pth) : sFst (x :: r) = (x == [43] || x == [35]) := rfl
/-- Some is left: what is told lies behind a #, behind a +, behind the very level. -/
theorem got_cons {o : Bool} {p N : Pth} {x : List UInt8} {s : Sb} (hx : hasS x = false) (hk : okF (lv s.f) = true) :
    got o p (x :: N) s = ((o && got true (p ++ [[35]]) [] s) || ((o && got true (p ++ [[43]]) N s) || got true (p ++ [x]) N s)) := by
  have x1 : x ≠ [43] := hasS_plus hx
  have x2 : x ≠ [35] := hasS_hash hx
  cases hu : under p s with
  | false =>
    have h0 : ∀ r, lv s.f ≠ p ++ r := fun r hr => by rw [under_iff.2 ⟨r, hr⟩] at hu; cases hu
    rw [got_not h0, got_not (fun r hr => h0 ([35] :: r) (by rw [hr]; simp)), got_not (fun r hr => h0 ([43] :: r) (by rw [hr]; simp)), got_not (fun r hr => h0 (x :: r) (by rw [hr]; simp))]
    simp
  | true =>
    obtain ⟨r, hr⟩ := under_iff.1 hu
    rw [got_of hr]
    cases r with
    | nil =>
      have e : lv s.f = p := by rw [hr, List.append_nil]
      rw [got_end e, got_end e, got_end e]
      simp [gmm, mt]
    | cons y r =>
      rw [got_on hr, got_on hr, got_on hr]
      have hk2 : okF (y :: r) = true := okF_app (p := p) (hr ▸ hk)
      by_cases e : y = [35]
      · subst e
        have e2 : ¬ ([35] : List UInt8) = x := fun e => x2 e.symm
        rw [okF_hash hk2]
        cases o <;> simp [gmm, mt, sFst, e2]
      · by_cases e3 : y = [43]
        · subst e3
          have e2 : ¬ ([43] : List UInt8) = x := fun e => x1 e.symm
          cases o <;> simp [gmm, mt, sFst, e2]
        · have b1 : (y == [35]) = false := by simpa using e
          have b2 : (y == [43]) = false := by simpa using e3
          have b3 : (y == x) = decide (y = x) := by by_cases hyx : y = x <;> simp [hyx]
          simp [gmm, mt, sFst, b1, b2, e, e3, b3]
/-- What is told of some entries where nothing is left. -/
theorem got_nil_perm {o : Bool} {p : Pth} {g : List Sb} (hk : ∀ s ∈ g, okF (lv s.f) = true) :
    (g.filter (got o p [])).Perm ((if o then g.filter (got true (p ++ [[35]]) []) else []) ++ g.filter fun s => decide (lv s.f = p)) := by
  have e : g.filter (got o p []) = g.filter fun s => (o && got true (p ++ [[35]]) [] s) || decide (lv s.f = p) := List.filter_congr fun s hs => got_nil (hk s hs)
  rw [e]
  refine (filter_or_perm _ _ g fun s hs h => ?_).trans ?_
  · rw [got_end (of_decide_eq_true h.2)] at h
    simp at h
  · cases o with
    | true => simp only [Bool.true_and, if_true]; exact .refl _
    | false => simp [filt_no]
theorem got_cons_perm {o : Bool} {p N : Pth} {x : List UInt8} {g : List Sb} (hx : hasS x = false) (hk : ∀ s ∈ g, okF (lv s.f) = true) :
    (g.filter (got o p (x :: N))).Perm ((if o then g.filter (got true (p ++ [[35]]) []) else []) ++ ((if o then g.filter (got true (p ++ [[43]]) N) else []) ++ g.filter (got true (p ++ [x]) N))) := by
  have e : g.filter (got o p (x :: N)) = g.filter fun s => (o && got true (p ++ [[35]]) [] s) || ((o && got true (p ++ [[43]]) N s) || got true (p ++ [x]) N s) := List.filter_congr fun s hs => got_cons hx (hk s hs)
  have apart : ∀ (s : Sb) (y z : List UInt8) (o1 o2 : Bool) (M1 M2 : Pth), y ≠ z → got o1 (p ++ [y]) M1 s = true → got o2 (p ++ [z]) M2 s = true → False := fun s y z o1 o2 M1 M2 hne h1 h2 => by
    unfold got at h1 h2
    rw [Bool.and_eq_true] at h1 h2
    obtain ⟨r1, e1⟩ := under_iff.1 h1.1
    obtain ⟨r2, e2⟩ := under_iff.1 h2.1
    rw [e1, List.append_assoc, List.append_assoc] at e2
    have := List.append_cancel_left e2
    simp at this
    exact hne this.1
  have x1 : x ≠ [43] := hasS_plus hx
  have x2 : x ≠ [35] := hasS_hash hx
  rw [e]
  refine (filter_or_perm _ _ g fun s hs h => ?_).trans ?_
  · obtain ⟨h1, h2⟩ := h
    rw [Bool.and_eq_true] at h1
    rw [Bool.or_eq_true, Bool.and_eq_true] at h2
    rcases h2 with h2 | h2
    · exact apart s _ _ _ _ _ _ (by decide) h1.2 h2.2
    · exact apart s _ _ _ _ _ _ (fun e => x2 e.symm) h1.2 h2
  · refine List.Perm.append ?_ ((filter_or_perm _ _ g fun s hs h => ?_).trans ?_)
    · cases o with
      | true => simp only [Bool.true_and, if_true]; exact .refl _
      | false => simp [filt_no]
    · obtain ⟨h1, h2⟩ := h
      rw [Bool.and_eq_true] at h1
      exact apart s _ _ _ _ _ _ (fun e => x1 e.symm) h1.2 h2
    · cases o with
      | true => simp only [Bool.true_and, if_true]; exact .refl _
      | false => simp [filt_no]
/-- The whole: at no level, told are the filters that meet the name. -/
theorem got_meets {n : List UInt8} {s : Sb} : got (!dol n) [] (lv n) s = meetsL s.f n := by
  rw [got_of (r := lv s.f) rfl]
  unfold gmm meetsL
  cases dol n <;> simp
end Go.Proofs.YtjedffjfjgffeaaDoor

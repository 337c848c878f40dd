/- Layer 13, of no program: levels of a text, signs, filters, what a filter meets. -/
import Derived.Test.YtgcfgheamaoceaaGreatDoorUtfA
namespace Go.Proofs.YtgcfgheamaoceaaGreatDoor

/-- The levels of a text. -/
def lv : List UInt8 → List (List UInt8)
  | [] => [[]]
  | b :: t => if b = 47 then [] :: lv t else match lv t with
    | [] => [[b]]
    | x :: r => (b :: x) :: r
theorem lv_ne (l : List UInt8) : lv l ≠ [] := by
  cases l with
  | nil => simp [lv]
  | cons b t =>
    unfold lv
    split
    · simp
    · split <;> simp
theorem lv_slash (t : List UInt8) : lv (47 :: t) = [] :: lv t := by rw [lv, if_pos rfl]
theorem lv_other {b : UInt8} (h : b ≠ 47) (t : List UInt8) {x : List UInt8} {r : List (List UInt8)} (hr : lv t = x :: r) : lv (b :: t) = (b :: x) :: r := by
  rw [lv, if_neg h, hr]
theorem lv_app (a y : List UInt8) : lv (a ++ 47 :: y) = lv a ++ lv y := by
  induction a with
  | nil => rw [List.nil_append, lv_slash]; rfl
  | cons b t ih =>
    rw [List.cons_append]
    by_cases h : b = 47
    · subst h; rw [lv_slash, lv_slash, ih]; rfl
    · cases ht : lv t with
      | nil => exact absurd ht (lv_ne t)
      | cons x r =>
        rw [ht] at ih
        rw [lv_other h t ht, lv_other h (t ++ 47 :: y) (x := x) (r := r ++ lv y) (by rw [ih]; rfl)]
        rfl
theorem lv_plain {l : List UInt8} (h : ∀ b ∈ l, b ≠ 47) : lv l = [l] := by
  induction l with
  | nil => rfl
  | cons b t ih => exact lv_other (h b (by simp)) t (ih fun c hc => h c (by simp [hc]))
theorem lv_cut {x : List UInt8} (h : ∀ b ∈ x, b ≠ 47) (y : List UInt8) : lv (x ++ 47 :: y) = x :: lv y := by
  rw [lv_app, lv_plain h]; rfl
theorem lv_more (l : List UInt8) : lv (l ++ [47]) = lv l ++ [[]] := lv_app l []
theorem lv_grow {b : UInt8} (hb : b ≠ 47) (l : List UInt8) : ∃ i x, lv l = i ++ [x] ∧ lv (l ++ [b]) = i ++ [x ++ [b]] := by
  induction l with
  | nil => exact ⟨[], [], rfl, by rw [List.nil_append, lv_other hb [] rfl]; rfl⟩
  | cons c t ih =>
    obtain ⟨i, x, h1, h2⟩ := ih
    by_cases h : c = 47
    · subst h
      exact ⟨[] :: i, x, by rw [lv_slash, h1]; rfl, by rw [List.cons_append, lv_slash, h2]; rfl⟩
    · cases i with
      | nil => exact ⟨[], c :: x, by rw [lv_other h t h1]; rfl, by rw [List.cons_append, lv_other h (t ++ [b]) h2]; rfl⟩
      | cons z i => exact ⟨(c :: z) :: i, x, by rw [lv_other h t h1]; rfl, by rw [List.cons_append, lv_other h (t ++ [b]) h2]; rfl⟩
/-- Levels, as a text. -/
def joinL : List (List UInt8) → List UInt8
  | [] => []
  | [x] => x
  | x :: y :: r => x ++ 47 :: joinL (y :: r)
theorem joinL_cons (x : List UInt8) {r : List (List UInt8)} (h : r ≠ []) : joinL (x :: r) = x ++ 47 :: joinL r := by
  cases r with
  | nil => exact absurd rfl h
  | cons y r => rfl
theorem joinL_app {a : List (List UInt8)} (h : a ≠ []) (x : List UInt8) : joinL (a ++ [x]) = joinL a ++ 47 :: x := by
  induction a with
  | nil => exact absurd rfl h
  | cons z a ih =>
    cases a with
    | nil => rfl
    | cons y a =>
      rw [List.cons_append, joinL_cons z (by simp), ih (by simp), joinL_cons z (by simp)]
      simp
theorem joinL_lv (l : List UInt8) : joinL (lv l) = l := by
  induction l with
  | nil => rfl
  | cons b t ih =>
    by_cases h : b = 47
    · subst h; rw [lv_slash, joinL_cons _ (lv_ne t), ih]; rfl
    · cases ht : lv t with
      | nil => exact absurd ht (lv_ne t)
      | cons x r =>
        rw [lv_other h t ht]
        rw [ht] at ih
        cases r with
        | nil => show b :: x = b :: t; rw [← ih]; rfl
        | cons y r =>
          rw [joinL_cons _ (by simp)] at ih ⊢
          rw [List.cons_append, ih]
theorem lv_joinL {L : List (List UInt8)} (hne : L ≠ []) (h : ∀ x ∈ L, ∀ b ∈ x, b ≠ 47) : lv (joinL L) = L := by
  induction L with
  | nil => exact absurd rfl hne
  | cons x r ih =>
    cases r with
    | nil => exact lv_plain (h x (by simp))
    | cons y r => rw [joinL_cons _ (by simp), lv_cut (h x (by simp)), ih (by simp) fun z hz => h z (by simp [hz])]
theorem lv_no47 (l : List UInt8) : ∀ x ∈ lv l, ∀ b ∈ x, b ≠ 47 := by
  induction l with
  | nil => intro x hx; simp [lv] at hx; subst hx; intro b hb; cases hb
  | cons c t ih =>
    by_cases h : c = 47
    · subst h
      rw [lv_slash]
      intro x hx
      rcases List.mem_cons.1 hx with rfl | hx
      · intro b hb; cases hb
      · exact ih x hx
    · cases ht : lv t with
      | nil => exact absurd ht (lv_ne t)
      | cons y r =>
        rw [lv_other h t ht]
        rw [ht] at ih
        intro x hx
        rcases List.mem_cons.1 hx with rfl | hx
        · intro b hb
          rcases List.mem_cons.1 hb with rfl | hb
          · exact h
          · exact ih y (by simp) b hb
        · exact ih x (by simp [hx])
theorem lv_mem (l : List UInt8) : ∀ x ∈ lv l, ∀ b ∈ x, b ∈ l := by
  induction l with
  | nil => intro x hx; simp [lv] at hx; subst hx; intro b hb; cases hb
  | cons c t ih =>
    by_cases h : c = 47
    · subst h
      rw [lv_slash]
      intro x hx
      rcases List.mem_cons.1 hx with rfl | hx
      · intro b hb; cases hb
      · exact fun b hb => List.mem_cons_of_mem _ (ih x hx b hb)
    · cases ht : lv t with
      | nil => exact absurd ht (lv_ne t)
      | cons y r =>
        rw [lv_other h t ht]
        rw [ht] at ih
        intro x hx
        rcases List.mem_cons.1 hx with rfl | hx
        · intro b hb
          rcases List.mem_cons.1 hb with rfl | hb
          · simp
          · exact List.mem_cons_of_mem _ (ih y (by simp) b hb)
        · exact fun b hb => List.mem_cons_of_mem _ (ih x (by simp [hx]) b hb)
theorem joinL_len_le {L : List (List UInt8)} {x : List UInt8} (h : x ∈ L) : x.length ≤ (joinL L).length := by
  induction L with
  | nil => cases h
  | cons y r ih =>
    cases r with
    | nil => simp at h; subst h; exact Nat.le_refl _
    | cons z r =>
      rw [joinL_cons _ (by simp), List.length_append, List.length_cons]
      rcases List.mem_cons.1 h with rfl | h
      · omega
      · have := ih h; omega
theorem lv_len_le (l : List UInt8) : (lv l).length ≤ l.length + 1 := by
  induction l with
  | nil => simp [lv]
  | cons b t ih =>
    by_cases h : b = 47
    · subst h; rw [lv_slash]; simp; omega
    · cases ht : lv t with
      | nil => exact absurd ht (lv_ne t)
      | cons x r => rw [lv_other h t ht]; rw [ht] at ih; simp at ih ⊢; omega

/-- Is a byte a sign? -/
def sgn (b : UInt8) : Bool := b == 43 || b == 35
def hasS (l : List UInt8) : Bool := l.any sgn
/-- Are these a filter's levels? -/
def okF : List (List UInt8) → Bool
  | [] => true
  | x :: r => (!hasS x || x == [43] || x == [35] && r.isEmpty) && okF r
/-- May a text be said? -/
def okU (l : List UInt8) : Prop := ∃ rs, (∀ r ∈ rs, Good r) ∧ textR rs = l
open Classical in
noncomputable def fitL (l : List UInt8) : Bool := decide (l ≠ [] ∧ l.length ≤ 200 ∧ okU l)
theorem fitL_iff {l : List UInt8} : fitL l = true ↔ l ≠ [] ∧ l.length ≤ 200 ∧ okU l := by unfold fitL; simp
theorem okU_of {l : List UInt8} {rs : List Nat} (h : Reads l rs) : okU l ↔ ¬ (textR rs).length < l.length := by
  constructor
  · rintro ⟨rs', hg, he⟩
    have h2 : Reads l rs' := ⟨hg, [], by rw [List.append_nil]; exact he.symm, dec_nil⟩
    rw [reads_one h h2, he]; omega
  · intro hn
    obtain ⟨hg, rest, he, -⟩ := h
    refine ⟨rs, hg, ?_⟩
    have := congrArg List.length he
    rw [List.length_append] at this
    have hr : rest = [] := List.length_eq_zero_iff.1 (by omega)
    rw [he, hr, List.append_nil]
theorem okU_nil : okU [] := ⟨[], (fun _ h => by cases h), rfl⟩
theorem okU_app {x y : List UInt8} (hx : okU x) (hy : okU y) : okU (x ++ y) := by
  obtain ⟨a, ha, rfl⟩ := hx
  obtain ⟨b, hb, rfl⟩ := hy
  exact ⟨a ++ b, (fun r hr => (List.mem_append.1 hr).elim (ha r) (hb r)), textR_append a b⟩
theorem okU_one (b : UInt8) (h0 : 0 < b.toNat) (h : b.toNat < 128) : okU [b] := by
  refine ⟨[b.toNat], ?_, ?_⟩
  · intro r hr
    simp at hr; subst hr
    exact ⟨h0, by unfold mayN; simp; omega⟩
  · simp [textR, rawR, h]
theorem rawR_high {r : Nat} (hm : mayN r = true) (h : ¬ r < 128) : ∀ b ∈ rawR r, 128 ≤ b.toNat := by
  have hlt := mayN_lt hm
  intro b hb
  unfold rawR at hb
  rw [if_neg h] at hb
  split at hb
  · simp only [List.mem_cons, List.not_mem_nil, or_false] at hb
    rcases hb with rfl | rfl <;> rw [toNat_of (by omega)] <;> omega
  split at hb
  · simp only [List.mem_cons, List.not_mem_nil, or_false] at hb
    rcases hb with rfl | rfl | rfl <;> rw [toNat_of (by omega)] <;> omega
  · simp only [List.mem_cons, List.not_mem_nil, or_false] at hb
    rcases hb with rfl | rfl | rfl | rfl <;> rw [toNat_of (by omega)] <;> omega
theorem okU_cut {x y : List UInt8} (h : okU (x ++ 47 :: y)) : okU x ∧ okU y := by
  obtain ⟨rs, hg, he⟩ := h
  induction rs generalizing x with
  | nil => simp [textR] at he
  | cons r t ih =>
    have hr := hg r (by simp)
    have ht : ∀ r ∈ t, Good r := fun r h => hg r (by simp [h])
    have one : okU (rawR r) := ⟨[r], (fun z hz => by simp at hz; subst hz; exact hr), textR_one r⟩
    rcases List.append_eq_append_iff.1 (show rawR r ++ textR t = x ++ 47 :: y from he) with ⟨a, rfl, h2⟩ | ⟨c, h1, h2⟩
    · obtain ⟨p, q⟩ := ih ht h2
      exact ⟨okU_app one p, q⟩
    · cases c with
      | nil =>
        rw [List.append_nil] at h1
        obtain ⟨p, q⟩ := ih (x := []) ht (by rw [List.nil_append]; exact h2.symm)
        exact ⟨h1 ▸ one, q⟩
      | cons b c =>
        have hb : 47 = b := by simpa using (List.cons.inj h2).1
        subst hb
        have h3 : y = c ++ textR t := (List.cons.inj h2).2
        by_cases hlt : r < 128
        · unfold rawR at h1
          rw [if_pos hlt] at h1
          have hl := congrArg List.length h1
          simp at hl
          have hx : x = [] := List.length_eq_zero_iff.1 (by omega)
          have hc : c = [] := List.length_eq_zero_iff.1 (by omega)
          subst hx hc
          exact ⟨okU_nil, t, ht, by rw [h3]; rfl⟩
        · have := rawR_high hr.2 hlt 47 (by rw [h1]; simp)
          simp at this
theorem okU_lv {l : List UInt8} (h : okU l) : ∀ x ∈ lv l, okU x := by
  suffices ∀ L : List (List UInt8), okU (joinL L) → ∀ x ∈ L, okU x from this (lv l) (by rw [joinL_lv]; exact h)
  intro L
  induction L with
  | nil => intro _ x hx; cases hx
  | cons y r ih =>
    intro hu x hx
    cases r with
    | nil => simp at hx; subst hx; exact hu
    | cons z r =>
      rw [joinL_cons _ (by simp)] at hu
      obtain ⟨p, q⟩ := okU_cut hu
      rcases List.mem_cons.1 hx with rfl | hx
      · exact p
      · exact ih q x hx
theorem okU_joinL {L : List (List UInt8)} (h : ∀ x ∈ L, okU x) : okU (joinL L) := by
  induction L with
  | nil => exact okU_nil
  | cons y r ih =>
    cases r with
    | nil => exact h y (by simp)
    | cons z r =>
      rw [joinL_cons _ (by simp)]
      exact okU_app (h y (by simp)) (okU_app (okU_one 47 (by decide) (by decide)) (ih fun x hx => h x (by simp [hx])))
noncomputable def nameL (l : List UInt8) : Bool := fitL l && !hasS l
noncomputable def filtL (l : List UInt8) : Bool := fitL l && okF (lv l)
theorem hasS_lv {l : List UInt8} (h : hasS l = false) : ∀ x ∈ lv l, hasS x = false := by
  intro x hx
  unfold hasS at h ⊢
  rw [List.any_eq_false] at h ⊢
  exact fun b hb => h b (lv_mem l x hx b hb)
theorem okF_plain {L : List (List UInt8)} (h : ∀ x ∈ L, hasS x = false) : okF L = true := by
  induction L with
  | nil => rfl
  | cons x r ih => unfold okF; rw [h x (by simp), ih fun y hy => h y (by simp [hy])]; rfl
/-- Do a filter's levels meet those of a name? -/
def mt : List (List UInt8) → List (List UInt8) → Bool
  | [], n => n.isEmpty
  | f :: F, n => f == [35] || match n with
    | [] => false
    | x :: N => (f == [43] || f == x) && mt F N
/-- Is a first level a sign? -/
def sFst (L : List (List UInt8)) : Bool := match L with
  | [] => false
  | x :: _ => x == [43] || x == [35]
def dol (l : List UInt8) : Bool := match l with
  | [] => false
  | b :: _ => b == 36
/-- Does a filter meet a name? -/
def meetsL (f n : List UInt8) : Bool := !(dol n && sFst (lv f)) && mt (lv f) (lv n)
/-- Are a text's levels what a filter's ones stand for? -/
def cv : List (List UInt8) → List (List UInt8) → Bool
  | [], t => t.isEmpty
  | f :: F, t => if f = [35] then cv F [] else match t with
    | [] => false
    | x :: T => if f = [43] then x != [35] && cv F T else f == x && cv F T
def covL (f t : List UInt8) : Bool := !(dol t && sFst (lv f)) && cv (lv f) (lv t)
/-- A filter that meets the same, and whose levels ahead of a # each name has. -/
def spL (l : List UInt8) : List UInt8 := if l = [35] ∨ l = [47, 35] then l.dropLast ++ [43, 47, 35] else l
end Go.Proofs.YtgcfgheamaoceaaGreatDoor

/- Layer 13, of no program: what one filter's levels stand for, and which names tell two filters apart. -/
import Derived.Test.YtgcfgheamaoceaaGreatDoorTopA
namespace Go.Proofs.YtgcfgheamaoceaaGreatDoor

theorem hasS_plus {x : List UInt8} (h : hasS x = false) : x ≠ [43] := fun e => by subst e; exact absurd h (by decide)
theorem hasS_hash {x : List UInt8} (h : hasS x = false) : x ≠ [35] := fun e => by subst e; exact absurd h (by decide)
theorem cv_names {F : List (List UInt8)} (hF : okF F = true) {N : List (List UInt8)} (hN : ∀ x ∈ N, hasS x = false) : cv F N = mt F N := by
  induction F generalizing N with
  | nil => rfl
  | cons f F ih =>
    unfold okF at hF
    simp only [Bool.and_eq_true] at hF
    obtain ⟨h1, h2⟩ := hF
    unfold cv mt
    by_cases hh : f = [35]
    · subst hh
      have hE : F = [] := by
        cases F with
        | nil => rfl
        | cons a b => exact absurd h1 (by simp; decide)
      subst hE
      simp [cv]
    · rw [if_neg hh]
      cases N with
      | nil => simp [hh]
      | cons x N =>
        have hx := hasS_hash (hN x (by simp))
        have := ih h2 (N := N) fun y hy => hN y (by simp [hy])
        simp only [this]
        by_cases hp : f = [43]
        · subst hp; simp [hx]
        · have e1 : (f == [35]) = false := by simpa using hh
          have e2 : (f == [43]) = false := by simpa using hp
          rw [if_neg hp, e1, e2]; rfl
theorem covL_meets {f n : List UInt8} (hf : filtL f = true) (hn : nameL n = true) : covL f n = meetsL f n := by
  unfold filtL at hf
  unfold nameL at hn
  simp only [Bool.and_eq_true, Bool.not_eq_true'] at hf hn
  unfold covL meetsL
  rw [cv_names hf.2 (hasS_lv hn.2)]
theorem cv_sound {B A N : List (List UInt8)} (h : cv B A = true) (hA : mt A N = true) : mt B N = true := by
  induction B generalizing A N with
  | nil =>
    cases A with
    | nil => exact hA
    | cons a A => simp [cv] at h
  | cons b B ih =>
    unfold cv at h
    unfold mt
    by_cases hb : b = [35]
    · simp [hb]
    · rw [if_neg hb] at h
      cases A with
      | nil => simp at h
      | cons a A =>
        simp only at h
        by_cases hp : b = [43]
        · subst hp
          simp only [if_true, Bool.and_eq_true, bne_iff_ne, ne_eq] at h
          unfold mt at hA
          rw [show (a == [35]) = false by simpa using h.1] at hA
          cases N with
          | nil => simp at hA
          | cons n N =>
            simp only [Bool.false_or, Bool.and_eq_true] at hA
            simp [ih h.2 hA.2]
        · rw [if_neg hp] at h
          simp only [Bool.and_eq_true, beq_iff_eq] at h
          obtain ⟨rfl, h⟩ := h
          unfold mt at hA
          rw [show (b == [35]) = false by simpa using hb] at hA
          cases N with
          | nil => simp at hA
          | cons n N =>
            simp only [Bool.false_or, Bool.and_eq_true] at hA ⊢
            rw [show (b == [43]) = false by simpa using hp] at hA ⊢
            simp only [Bool.false_or, beq_iff_eq] at hA
            simp [hA.1, ih h hA.2]
theorem spL_lv (a : List UInt8) : (a = [35] ∧ lv (spL a) = [[43], [35]]) ∨ (a = [47, 35] ∧ lv (spL a) = [[], [43], [35]]) ∨ (a ≠ [35] ∧ a ≠ [47, 35] ∧ spL a = a) := by
  by_cases h1 : a = [35]
  · subst h1; exact .inl ⟨rfl, by decide⟩
  · by_cases h2 : a = [47, 35]
    · subst h2; exact .inr (.inl ⟨rfl, by decide⟩)
    · exact .inr (.inr ⟨h1, h2, by unfold spL; rw [if_neg (by simp [h1, h2])]⟩)
theorem spL_dol (a : List UInt8) : dol (spL a) = dol a := by
  rcases spL_lv a with ⟨rfl, -⟩ | ⟨rfl, -⟩ | ⟨-, -, h⟩
  · decide
  · decide
  · rw [h]
theorem mt_spL {a x : List UInt8} (hx : x ≠ []) (h : mt (lv a) (lv x) = true) : mt (lv (spL a)) (lv x) = true := by
  rcases spL_lv a with ⟨rfl, e⟩ | ⟨rfl, e⟩ | ⟨-, -, e⟩
  · rw [e]
    cases hl : lv x with
    | nil => exact absurd hl (lv_ne x)
    | cons y r => simp [mt]
  · rw [e]
    rw [show lv [47, 35] = [[], [35]] by decide] at h
    cases hl : lv x with
    | nil => exact absurd hl (lv_ne x)
    | cons y r =>
      rw [hl] at h
      cases r with
      | nil =>
        have h1 := joinL_lv x
        rw [hl] at h1
        simp [mt] at h
        subst h
        exact absurd h1.symm hx
      | cons z r =>
        simp [mt] at h ⊢
        exact h
  · rw [e]; exact h
theorem dol_first {n : List UInt8} (h : dol n = true) : ∃ x r, lv n = (36 :: x) :: r := by
  cases n with
  | nil => cases h
  | cons b t =>
    obtain rfl : b = 36 := by simpa [dol] using h
    cases ht : lv t with
    | nil => exact absurd ht (lv_ne t)
    | cons x r => exact ⟨x, r, lv_other (by decide) t ht⟩
theorem dol_of {n x : List UInt8} {r : List (List UInt8)} (h : lv n = (36 :: x) :: r) : dol n = true := by
  have h1 := joinL_lv n
  rw [h] at h1
  rw [← h1]
  cases r with
  | nil => rfl
  | cons y r => rw [joinL_cons _ (by simp)]; rfl
theorem meets_dol {a n : List UInt8} (h : meetsL a n = true) (hn : dol n = true) : dol a = true ∧ sFst (lv a) = false := by
  unfold meetsL at h
  rw [hn] at h
  simp only [Bool.true_and, Bool.and_eq_true, Bool.not_eq_true'] at h
  obtain ⟨h1, h2⟩ := h
  obtain ⟨x, r, hx⟩ := dol_first hn
  refine ⟨?_, h1⟩
  rw [hx] at h2
  cases ha : lv a with
  | nil => exact absurd ha (lv_ne a)
  | cons y A =>
    rw [ha] at h1 h2
    simp only [sFst, Bool.or_eq_false_iff, beq_eq_false_iff_ne, ne_eq] at h1
    unfold mt at h2
    rw [show (y == [35]) = false by simpa using h1.2] at h2
    simp only [Bool.false_or, Bool.and_eq_true] at h2
    rw [show (y == [43]) = false by simpa using h1.1] at h2
    simp only [Bool.false_or, beq_iff_eq] at h2
    rw [h2.1] at ha
    exact dol_of ha
/-- WITHIN IS SOUND. -/
theorem within_sound {a b x : List UInt8} (h : covL b (spL a) = true) (hx : nameL x = true) (hm : meetsL a x = true) : meetsL b x = true := by
  have hne : x ≠ [] := by
    unfold nameL at hx
    simp only [Bool.and_eq_true] at hx
    exact (fitL_iff.1 hx.1).1
  unfold covL at h
  simp only [Bool.and_eq_true, Bool.not_eq_true', spL_dol] at h
  have h2 : mt (lv a) (lv x) = true := by
    unfold meetsL at hm
    simp only [Bool.and_eq_true] at hm
    exact hm.2
  have h3 := cv_sound h.2 (mt_spL hne h2)
  unfold meetsL
  rw [h3, Bool.and_true]
  cases hd : dol x with
  | false => rfl
  | true =>
    rw [(meets_dol hm hd).1] at h
    simpa using h.1

/-- A level that is another one than that of a list at a place. -/
def unlL (Y : List (List UInt8)) (i : Nat) : List UInt8 := if Y[i]? = some [122] then [121] else [122]
def bsF (Y : List (List UInt8)) : Nat → List (List UInt8) → List (List UInt8)
  | _, [] => []
  | i, x :: r => (if x = [35] then [] else if x = [43] then [unlL Y i] else [x]) ++ bsF Y (i + 1) r
def namesL (a b : List UInt8) : List (List UInt8) :=
  joinL (bsF (lv b) 0 (lv a)) :: if (lv a).contains [35] then [joinL (bsF (lv b) 0 (lv a) ++ [unlL (lv b) (bsF (lv b) 0 (lv a)).length]), joinL (bsF (lv b) 0 (lv a) ++ [unlL (lv b) (bsF (lv b) 0 (lv a)).length] ++ [unlL (lv b) ((bsF (lv b) 0 (lv a)).length + 1)])] else []
theorem unlL_or (Y : List (List UInt8)) (i : Nat) : unlL Y i = [121] ∨ unlL Y i = [122] := by unfold unlL; split <;> simp
theorem unlL_ne {Y : List (List UInt8)} {i : Nat} {x : List UInt8} (h : Y[i]? = some x) : unlL Y i ≠ x := by
  unfold unlL
  split
  · rename_i h1
    rw [h] at h1
    rw [Option.some.inj h1]; decide
  · rename_i h1
    rw [h] at h1
    intro e; exact h1 (by rw [e])
def okP (P : List (List UInt8)) : Prop := ∀ x ∈ P, x = [43] ∨ hasS x = false
theorem okP_not {P : List (List UInt8)} (h : okP P) : ∀ x ∈ P, x ≠ [35] := fun x hx e => by
  rcases h x hx with h1 | h1
  · rw [e] at h1; exact absurd h1 (by decide)
  · exact hasS_hash h1 e
theorem okF_parts {X : List (List UInt8)} (h : okF X = true) : okP X ∨ ∃ P, X = P ++ [[35]] ∧ okP P := by
  induction X with
  | nil => exact .inl fun _ h => by cases h
  | cons x X ih =>
    unfold okF at h
    simp only [Bool.and_eq_true, Bool.or_eq_true, Bool.not_eq_true', beq_iff_eq, List.isEmpty_iff] at h
    obtain ⟨h1, h2⟩ := h
    rcases h1 with h1 | ⟨rfl, rfl⟩
    · have hx : x = [43] ∨ hasS x = false := h1.symm
      rcases ih h2 with h3 | ⟨P, rfl, h3⟩
      · exact .inl fun y hy => by
          rcases List.mem_cons.1 hy with rfl | hy
          · exact hx
          · exact h3 y hy
      · exact .inr ⟨x :: P, rfl, fun y hy => by
          rcases List.mem_cons.1 hy with rfl | hy
          · exact hx
          · exact h3 y hy⟩
    · exact .inr ⟨[], rfl, fun _ h => by cases h⟩
theorem bsF_cons {Y : List (List UInt8)} {i : Nat} {x : List UInt8} {P : List (List UInt8)} (h : x ≠ [35]) : bsF Y i (x :: P) = (if x = [43] then unlL Y i else x) :: bsF Y (i + 1) P := by
  rw [bsF, if_neg h]; split <;> rfl
theorem bsF_app (Y : List (List UInt8)) (i : Nat) (P Q : List (List UInt8)) (h : okP P) : bsF Y i (P ++ Q) = bsF Y i P ++ bsF Y (i + P.length) Q := by
  induction P generalizing i with
  | nil => rfl
  | cons x P ih =>
    have hx := okP_not h x (by simp)
    rw [List.cons_append, bsF_cons hx, bsF_cons hx, ih (i + 1) fun y hy => h y (by simp [hy]), List.cons_append, List.length_cons, show i + (P.length + 1) = i + 1 + P.length by omega]
theorem bsF_len (Y : List (List UInt8)) (i : Nat) {P : List (List UInt8)} (h : okP P) : (bsF Y i P).length = P.length := by
  induction P generalizing i with
  | nil => rfl
  | cons x P ih => rw [bsF_cons (okP_not h x (by simp)), List.length_cons, ih (i + 1) fun y hy => h y (by simp [hy]), List.length_cons]
theorem bsF_mem (Y : List (List UInt8)) (i : Nat) {P : List (List UInt8)} (h : okP P) : ∀ y ∈ bsF Y i P, (y ∈ P ∧ hasS y = false) ∨ y = [121] ∨ y = [122] := by
  induction P generalizing i with
  | nil => intro y hy; cases hy
  | cons x P ih =>
    rw [bsF_cons (okP_not h x (by simp))]
    intro y hy
    rcases List.mem_cons.1 hy with rfl | hy
    · split
      · exact .inr (unlL_or Y i)
      · rename_i hn
        rcases h x (by simp) with h1 | h1
        · exact absurd h1 hn
        · exact .inl ⟨by simp, h1⟩
    · rcases ih (i + 1) (fun y hy => h y (by simp [hy])) y hy with h1 | h1
      · exact .inl ⟨by simp [h1.1], h1.2⟩
      · exact .inr h1
theorem bsF_join (Y : List (List UInt8)) (i : Nat) {P : List (List UInt8)} (h : okP P) : (joinL (bsF Y i P)).length = (joinL P).length := by
  induction P generalizing i with
  | nil => rfl
  | cons x P ih =>
    have hP : okP P := fun y hy => h y (by simp [hy])
    have hl : (if x = [43] then unlL Y i else x).length = x.length := by
      split
      · rename_i e
        subst e
        rcases unlL_or Y i with e | e <;> rw [e] <;> rfl
      · rfl
    rw [bsF_cons (okP_not h x (by simp))]
    cases P with
    | nil => simpa [bsF, joinL] using hl
    | cons y P =>
      have hne : bsF Y (i + 1) (y :: P) ≠ [] := by rw [bsF_cons (okP_not h y (by simp))]; simp
      rw [joinL_cons _ hne, joinL_cons _ (by simp), List.length_append, List.length_append, List.length_cons, List.length_cons, ih (i + 1) hP, hl]
theorem mt_bsF (Y : List (List UInt8)) (i : Nat) {P : List (List UInt8)} (h : okP P) : mt P (bsF Y i P) = true := by
  induction P generalizing i with
  | nil => rfl
  | cons x P ih =>
    rw [bsF_cons (okP_not h x (by simp)), mt]
    rw [ih (i + 1) fun y hy => h y (by simp [hy])]
    by_cases hx : x = [43]
    · simp [hx]
    · simp [hx]
theorem mt_bsF_more (Y : List (List UInt8)) (i : Nat) {P : List (List UInt8)} (h : okP P) (Z : List (List UInt8)) : mt (P ++ [[35]]) (bsF Y i P ++ Z) = true := by
  induction P generalizing i with
  | nil => simp [mt]
  | cons x P ih =>
    rw [bsF_cons (okP_not h x (by simp)), List.cons_append, List.cons_append, mt]
    rw [ih (i + 1) fun y hy => h y (by simp [hy])]
    by_cases hx : x = [43]
    · simp [hx]
    · simp [hx]
theorem cv_of {Y B : List (List UInt8)} {i : Nat} {P : List (List UInt8)} (hB : okF B = true) (hY : Y.drop i = B) (hP : okP P) (h : mt B (bsF Y i P) = true) : cv B P = true := by
  induction B generalizing i P with
  | nil =>
    cases P with
    | nil => rfl
    | cons p P => rw [bsF_cons (okP_not hP p (by simp))] at h; simp [mt] at h
  | cons b B ih =>
    have hYi : Y[i]? = some b := by have := congrArg (·[0]?) hY; simpa using this
    have hYd : Y.drop (i + 1) = B := by have := congrArg (List.drop 1) hY; simpa [List.drop_drop, Nat.add_comm] using this
    unfold okF at hB
    simp only [Bool.and_eq_true] at hB
    obtain ⟨h1, h2⟩ := hB
    unfold cv
    by_cases hh : b = [35]
    · subst hh
      have hE : B = [] := by
        cases B with
        | nil => rfl
        | cons a b => exact absurd h1 (by simp; decide)
      subst hE
      simp [cv]
    · rw [if_neg hh]
      cases P with
      | nil => simp [bsF, mt, hh] at h
      | cons p P =>
        have hp := okP_not hP p (by simp)
        have hP' : okP P := fun y hy => hP y (by simp [hy])
        rw [bsF_cons hp, mt] at h
        rw [show (b == [35]) = false by simpa using hh] at h
        simp only [Bool.false_or, Bool.and_eq_true, Bool.or_eq_true, beq_iff_eq] at h
        have ih' := ih h2 hYd hP' h.2
        by_cases hb : b = [43]
        · simp [hb, hp, ih']
        · rcases h.1 with h3 | h3
          · exact absurd h3 hb
          · by_cases hpp : p = [43]
            · rw [if_pos hpp] at h3
              exact absurd h3.symm (unlL_ne hYi)
            · rw [if_neg hpp] at h3
              simp [h3, ih', hpp]
theorem cv_of_more {Y B : List (List UInt8)} {i : Nat} {P : List (List UInt8)} {u : List UInt8} (hB : okF B = true) (hY : Y.drop i = B) (hP : okP P) (h : mt B (bsF Y i P) = true) (hu : mt B (bsF Y i P ++ [u]) = true) : cv B (P ++ [[35]]) = true := by
  induction B generalizing i P with
  | nil => simp [mt] at hu
  | cons b B ih =>
    have hYi : Y[i]? = some b := by have := congrArg (·[0]?) hY; simpa using this
    have hYd : Y.drop (i + 1) = B := by have := congrArg (List.drop 1) hY; simpa [List.drop_drop, Nat.add_comm] using this
    unfold okF at hB
    simp only [Bool.and_eq_true] at hB
    obtain ⟨h1, h2⟩ := hB
    unfold cv
    by_cases hh : b = [35]
    · subst hh
      have hE : B = [] := by
        cases B with
        | nil => rfl
        | cons a b => exact absurd h1 (by simp; decide)
      subst hE
      simp [cv]
    · rw [if_neg hh]
      cases P with
      | nil => simp [bsF, mt, hh] at h
      | cons p P =>
        have hp := okP_not hP p (by simp)
        have hP' : okP P := fun y hy => hP y (by simp [hy])
        rw [bsF_cons hp, mt] at h
        rw [bsF_cons hp, List.cons_append, mt] at hu
        rw [show (b == [35]) = false by simpa using hh] at h hu
        simp only [Bool.false_or, Bool.and_eq_true, Bool.or_eq_true, beq_iff_eq] at h hu
        have ih' := ih h2 hYd hP' h.2 hu.2
        by_cases hb : b = [43]
        · simp [hb, hp, ih']
        · rcases h.1 with h3 | h3
          · exact absurd h3 hb
          · by_cases hpp : p = [43]
            · rw [if_pos hpp] at h3
              exact absurd h3.symm (unlL_ne hYi)
            · rw [if_neg hpp] at h3
              simp [h3, ih', hpp]
theorem hasS_joinL {L : List (List UInt8)} (h : ∀ x ∈ L, hasS x = false) : hasS (joinL L) = false := by
  induction L with
  | nil => rfl
  | cons y r ih =>
    cases r with
    | nil => exact h y (by simp)
    | cons z r =>
      rw [joinL_cons _ (by simp)]
      have h1 := h y (by simp)
      have h2 := ih fun x hx => h x (by simp [hx])
      unfold hasS at h1 h2 ⊢
      rw [List.any_append, h1, List.any_cons, h2]
      decide
/-- A name made of a filter's levels. -/
theorem name_of {a : List UInt8} (hu : okU a) {L : List (List UInt8)} (hL : ∀ y ∈ L, (y ∈ lv a ∧ hasS y = false) ∨ y = [121] ∨ y = [122]) (hne : joinL L ≠ []) (hlen : (joinL L).length ≤ 200) : nameL (joinL L) = true ∧ lv (joinL L) = L := by
  refine ⟨?_, ?_⟩
  · have h1 : okU (joinL L) := okU_joinL fun x hx => by
      rcases hL x hx with h | h | h
      · exact okU_lv hu x h.1
      · subst h; exact okU_one 121 (by decide) (by decide)
      · subst h; exact okU_one 122 (by decide) (by decide)
    have h2 : hasS (joinL L) = false := hasS_joinL fun x hx => by
      rcases hL x hx with h | h | h
      · exact h.2
      · subst h; decide
      · subst h; decide
    unfold nameL
    rw [fitL_iff.2 ⟨hne, hlen, h1⟩, h2]; rfl
  · refine lv_joinL (fun e => hne (by rw [e]; rfl)) fun x hx => ?_
    rcases hL x hx with h | h | h
    · exact lv_no47 a x h.1
    · subst h; decide
    · subst h; decide
def dolH : List (List UInt8) → Bool
  | [] => false
  | x :: _ => dol x
theorem dol_lv {n : List UInt8} (L : List (List UInt8)) (h : lv n = L) : dol n = dolH L := by
  have h1 := joinL_lv n
  rw [h] at h1
  cases L with
  | nil => exact absurd h (lv_ne n)
  | cons x r =>
    cases x with
    | nil =>
      cases r with
      | nil => rw [← h1]; rfl
      | cons y r => rw [joinL_cons _ (by simp)] at h1; rw [← h1]; rfl
    | cons b x =>
      cases r with
      | nil => rw [← h1]; rfl
      | cons y r => rw [joinL_cons _ (by simp)] at h1; rw [← h1]; rfl
/-- A name that a filter meets and another one does not. -/
theorem apart_of {a b n p u : List UInt8} {A N : List (List UInt8)} (hp : p ≠ [35]) (ha : lv a = p :: A) (hu : u = [121] ∨ u = [122]) (hn : lv n = (if p = [43] then u else p) :: N) (hmt : mt (lv a) (lv n) = true)
    (hno : mt (lv b) (lv n) = false ∨ (dol a = true ∧ sFst (lv b) = true)) : meetsL a n = true ∧ meetsL b n = false := by
  have h1 := dol_lv _ hn
  have h2 := dol_lv _ ha
  simp only [dolH] at h1 h2
  unfold meetsL
  rw [hmt]
  by_cases hpp : p = [43]
  · rw [if_pos hpp] at h1
    have hd : dol n = false := by rw [h1]; rcases hu with e | e <;> rw [e] <;> rfl
    have ha' : dol a = false := by rw [h2, hpp]; rfl
    rw [hd]
    rcases hno with h | h
    · rw [h]; simp
    · rw [ha'] at h; cases h.1
  · rw [if_neg hpp] at h1
    have hs : sFst (lv a) = false := by rw [ha]; simp [sFst, hp, hpp]
    rw [hs]
    refine ⟨by simp, ?_⟩
    rcases hno with h | h
    · rw [h]; simp
    · rw [h1, ← h2, h.1, h.2]; simp
/-- WITHIN IS COMPLETE: one of these names tells two filters apart. -/
theorem within_apart {a b : List UInt8} (ha : filtL a = true) (hb : filtL b = true) (h : covL b (spL a) = false) : ∃ n ∈ namesL a b, nameL n = true ∧ meetsL a n = true ∧ meetsL b n = false := by
  unfold filtL at ha hb
  simp only [Bool.and_eq_true] at ha hb
  obtain ⟨ha1, ha2⟩ := ha
  obtain ⟨hne, hlen, hu⟩ := fitL_iff.1 ha1
  obtain ⟨-, hb2⟩ := hb
  have hcv : cv (lv b) (lv (spL a)) = false ∨ (dol a = true ∧ sFst (lv b) = true) := by
    unfold covL at h
    rw [spL_dol] at h
    cases h1 : cv (lv b) (lv (spL a)) with
    | false => exact .inl rfl
    | true => rw [h1, Bool.and_true] at h; exact .inr (by simpa using h)
  have hnz : lv a ≠ [] := lv_ne a
  have hj := joinL_lv a
  have hlv := okU_lv hu
  rcases okF_parts ha2 with hP | ⟨P, hX, hP⟩
  · -- no # at all: its levels alone
    have hsp : spL a = a := by
      rcases spL_lv a with ⟨rfl, -⟩ | ⟨rfl, -⟩ | ⟨-, -, e⟩
      · exact absurd rfl (okP_not hP [35] (by decide))
      · exact absurd rfl (okP_not hP [35] (by decide))
      · exact e
    rw [hsp] at hcv
    have hl := bsF_join (lv b) 0 hP
    rw [hj] at hl
    obtain ⟨hN, hNl⟩ := name_of hu (L := bsF (lv b) 0 (lv a)) (bsF_mem (lv b) 0 hP) (fun e => hne (List.length_eq_zero_iff.1 (by rw [← hl, e]; rfl))) (by omega)
    refine ⟨joinL (bsF (lv b) 0 (lv a)), by simp [namesL], hN, ?_⟩
    cases hla : lv a with
    | nil => exact absurd hla hnz
    | cons p A =>
      have hp := okP_not hP p (by rw [hla]; simp)
      rw [← hla]
      refine apart_of hp hla (unlL_or (lv b) 0) (by rw [hNl, hla, bsF_cons hp]) (by rw [hNl]; exact mt_bsF _ _ hP) ?_
      rcases hcv with h1 | h1
      · left
        rw [hNl]
        cases h2 : mt (lv b) (bsF (lv b) 0 (lv a)) with
        | false => rfl
        | true => rw [cv_of hb2 (by simp) hP h2] at h1; cases h1
      · exact .inr h1
  · have hbs : bsF (lv b) 0 (lv a) = bsF (lv b) 0 P := by
      rw [hX, bsF_app _ _ _ _ hP]; simp [bsF]
    have hbl := bsF_len (lv b) 0 hP
    have hin : (lv a).contains [35] = true := by rw [hX]; simp
    have hnm : namesL a b = [joinL (bsF (lv b) 0 P), joinL (bsF (lv b) 0 P ++ [unlL (lv b) P.length]), joinL (bsF (lv b) 0 P ++ [unlL (lv b) P.length] ++ [unlL (lv b) (P.length + 1)])] := by
      unfold namesL
      rw [hin, hbs, hbl]; rfl
    have hmem := bsF_mem (lv b) 0 hP
    have hmem' : ∀ y ∈ bsF (lv b) 0 P, (y ∈ lv a ∧ hasS y = false) ∨ y = [121] ∨ y = [122] := fun y hy => by
      rcases hmem y hy with h1 | h1
      · exact .inl ⟨by rw [hX]; simp [h1.1], h1.2⟩
      · exact .inr h1
    by_cases hs : P = [] ∨ P = [[]]
    · -- '#' and '/#': what stands for them has a level more
      have hPd : okP (P ++ [[43]]) := fun y hy => by
        rcases List.mem_append.1 hy with hy | hy
        · exact hP y hy
        · simp at hy; exact .inl hy
      have hbs2 : bsF (lv b) 0 (P ++ [[43]]) = bsF (lv b) 0 P ++ [unlL (lv b) P.length] := by
        rw [bsF_app _ _ _ _ hP, Nat.zero_add, bsF_cons (by decide)]; rfl
      have hsp : lv (spL a) = (P ++ [[43]]) ++ [[35]] ∧ dol a = false := by
        rcases hs with rfl | rfl
        · rw [hX] at hj
          rw [show a = [35] from hj.symm]; decide
        · rw [hX] at hj
          rw [show a = [47, 35] from hj.symm]; decide
      have h1 : cv (lv b) (lv (spL a)) = false := by
        rcases hcv with h1 | h1
        · exact h1
        · rw [hsp.2] at h1; cases h1.1
      rw [hsp.1] at h1
      have hsm : ∀ Z : List (List UInt8), (∀ y ∈ Z, y = [121] ∨ y = [122]) → Z.length ≤ 1 → nameL (joinL (bsF (lv b) 0 (P ++ [[43]]) ++ Z)) = true ∧ lv (joinL (bsF (lv b) 0 (P ++ [[43]]) ++ Z)) = bsF (lv b) 0 (P ++ [[43]]) ++ Z := fun Z hZ hZl => by
        refine name_of hu (fun y hy => ?_) ?_ ?_
        · rcases List.mem_append.1 hy with hy | hy
          · rw [hbs2] at hy
            rcases List.mem_append.1 hy with hy | hy
            · exact hmem' y hy
            · simp at hy; subst hy; exact .inr (unlL_or _ _)
          · exact .inr (hZ y hy)
        all_goals
          rw [hbs2]
          have hu0 := unlL_or (lv b) P.length
          rcases Z with _ | ⟨z, Z⟩
          · rcases hs with rfl | rfl <;> rcases hu0 with e | e <;> rw [e] <;> simp [bsF, joinL]
          · have hz := hZ z (by simp)
            obtain rfl : Z = [] := List.length_eq_zero_iff.1 (by rw [List.length_cons] at hZl; omega)
            rcases hs with rfl | rfl <;> rcases hu0 with e | e <;> rcases hz with e' | e' <;> rw [e, e'] <;> simp [bsF, joinL]
      have key : ∀ Z : List (List UInt8), (∀ y ∈ Z, y = [121] ∨ y = [122]) → Z.length ≤ 1 → mt (lv b) (bsF (lv b) 0 (P ++ [[43]]) ++ Z) = false → joinL (bsF (lv b) 0 (P ++ [[43]]) ++ Z) ∈ namesL a b → ∃ n ∈ namesL a b, nameL n = true ∧ meetsL a n = true ∧ meetsL b n = false := fun Z hZ hZl hm hi => by
        obtain ⟨hN, hNl⟩ := hsm Z hZ hZl
        refine ⟨_, hi, hN, ?_, ?_⟩
        · have hd : dol (joinL (bsF (lv b) 0 (P ++ [[43]]) ++ Z)) = false := by
            rw [dol_lv _ hNl, hbs2]
            rcases hs with rfl | rfl
            · rcases unlL_or (lv b) 0 with e | e <;> simp [bsF, e, dol, dolH]
            · simp [bsF, dol, dolH]
          unfold meetsL
          rw [hd, hNl, hbs2, hX, List.append_assoc, mt_bsF_more _ _ hP]; rfl
        · unfold meetsL
          rw [hNl, hm, Bool.and_false]
      have hu1 := unlL_or (lv b) (P.length + 1)
      cases h2 : mt (lv b) (bsF (lv b) 0 (P ++ [[43]]) ++ []) with
      | false => exact key [] (fun _ h => by cases h) (by simp) h2 (by rw [hnm, hbs2]; simp)
      | true =>
        cases h3 : mt (lv b) (bsF (lv b) 0 (P ++ [[43]]) ++ [unlL (lv b) (P.length + 1)]) with
        | false => exact key [unlL (lv b) (P.length + 1)] (fun y hy => by simp at hy; subst hy; exact hu1) (by simp) h3 (by rw [hnm, hbs2]; simp)
        | true =>
          rw [List.append_nil] at h2
          rw [cv_of_more hb2 (by simp) hPd h2 h3] at h1
          cases h1
    · -- any other one: its levels ahead of the #, and one more
      have hsp : spL a = a := by
        rcases spL_lv a with ⟨rfl, -⟩ | ⟨rfl, -⟩ | ⟨-, -, e⟩
        · exfalso
          apply hs; left
          have h3 : ([[35]] : List (List UInt8)) = P ++ [[35]] := by rw [← hX]; decide
          exact (List.append_cancel_right (show [] ++ [[35]] = P ++ [[35]] from h3)).symm
        · exfalso
          apply hs; right
          have h3 : ([[], [35]] : List (List UInt8)) = P ++ [[35]] := by rw [← hX]; decide
          have := List.append_cancel_right (show [[]] ++ [[35]] = P ++ [[35]] from h3)
          exact this.symm
        · exact e
      rw [hsp] at hcv
      have hPn : P ≠ [] := fun e => hs (.inl e)
      have hjl : (joinL P).length + 2 = a.length := by rw [← hj, hX, joinL_app hPn]; simp
      have hl := bsF_join (lv b) 0 hP
      have hj0 : joinL P ≠ [] := fun e => by
        cases P with
        | nil => exact hPn rfl
        | cons p P =>
          cases P with
          | nil => exact hs (.inr (by rw [show p = [] from e]))
          | cons q P => rw [joinL_cons _ (by simp)] at e; simp at e
      have hbn : bsF (lv b) 0 P ≠ [] := fun e => hPn (List.length_eq_zero_iff.1 (by rw [← hbl, e]; rfl))
      have hu1 := unlL_or (lv b) P.length
      have hn0 := name_of hu hmem' (fun e => hj0 (List.length_eq_zero_iff.1 (by rw [← hl, e]; rfl))) (by omega)
      have hn1 := name_of hu (L := bsF (lv b) 0 P ++ [unlL (lv b) P.length]) (fun y hy => by
        rcases List.mem_append.1 hy with hy | hy
        · exact hmem' y hy
        · simp at hy; subst hy; exact .inr hu1) (by rw [joinL_app hbn]; simp) (by rw [joinL_app hbn]; rcases hu1 with e | e <;> rw [e] <;> simp <;> omega)
      cases hPc : P with
      | nil => exact absurd hPc hPn
      | cons p P' =>
        have hp := okP_not hP p (by rw [hPc]; simp)
        have hla : lv a = p :: (P' ++ [[35]]) := by rw [hX, hPc]; rfl
        have hbc : bsF (lv b) 0 P = (if p = [43] then unlL (lv b) 0 else p) :: bsF (lv b) 1 P' := by rw [hPc, bsF_cons hp]
        have k0 : mt (lv b) (bsF (lv b) 0 P) = false ∨ (dol a = true ∧ sFst (lv b) = true) → ∃ n ∈ namesL a b, nameL n = true ∧ meetsL a n = true ∧ meetsL b n = false := fun hc =>
          ⟨joinL (bsF (lv b) 0 P), by rw [hnm]; simp, hn0.1, apart_of hp hla (unlL_or (lv b) 0) (by rw [hn0.2, hbc]) (by rw [hn0.2, hX]; have := mt_bsF_more (lv b) 0 hP []; rwa [List.append_nil] at this) (by rw [hn0.2]; exact hc)⟩
        rcases hcv with h1 | h1
        · cases h2 : mt (lv b) (bsF (lv b) 0 P) with
          | false => exact k0 (.inl h2)
          | true =>
            cases h3 : mt (lv b) (bsF (lv b) 0 P ++ [unlL (lv b) P.length]) with
            | false =>
              exact ⟨joinL (bsF (lv b) 0 P ++ [unlL (lv b) P.length]), by rw [hnm]; simp, hn1.1, apart_of hp hla (unlL_or (lv b) 0) (by rw [hn1.2, hbc]; rfl) (by rw [hn1.2, hX]; exact mt_bsF_more _ _ hP _) (by rw [hn1.2]; exact .inl h3)⟩
            | true =>
              rw [hX, cv_of_more hb2 (by simp) hP h2 h3] at h1
              cases h1
        · exact k0 (.inr h1)
/-- A filter is within itself; one within one that is within a third is within that. -/
theorem within_self {a : List UInt8} (ha : filtL a = true) : covL a (spL a) = true := by
  cases h : covL a (spL a) with
  | true => rfl
  | false =>
    obtain ⟨n, -, -, h1, h2⟩ := within_apart ha ha h
    rw [h1] at h2; cases h2
theorem within_three {a b c : List UInt8} (ha : filtL a = true) (hc : filtL c = true) (h1 : covL b (spL a) = true) (h2 : covL c (spL b) = true) : covL c (spL a) = true := by
  cases h : covL c (spL a) with
  | true => rfl
  | false =>
    obtain ⟨n, -, hn, m1, m2⟩ := within_apart ha hc h
    rw [within_sound h2 hn (within_sound h1 hn m1)] at m2
    cases m2
end Go.Proofs.YtgcfgheamaoceaaGreatDoor

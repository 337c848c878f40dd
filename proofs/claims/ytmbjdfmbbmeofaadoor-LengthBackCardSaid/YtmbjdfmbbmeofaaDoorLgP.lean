/- Layer 15, of no program: runs of bytes behind their lengths, and how they are cut again. -/
import Derived.Test.YtmbjdfmbbmeofaaDoorLgA
namespace Go.Proofs.YtmbjdfmbbmeofaaDoor

/-- Runs of bytes, each behind its length. -/
def lgJoin (ls : List (List UInt8)) : List UInt8 := ls.flatMap fun l => lgRaw l.length ++ l
theorem lgJoin_append (a b : List (List UInt8)) : lgJoin (a ++ b) = lgJoin a ++ lgJoin b := by simp [lgJoin]
theorem lgJoin_snoc (a : List (List UInt8)) (l : List UInt8) : lgJoin (a ++ [l]) = lgJoin a ++ lgRaw l.length ++ l := by simp [lgJoin]
/-- Where the k-th one ends. -/
def lgEnd (ls : List (List UInt8)) (k : Nat) : Nat := (lgJoin (ls.take k)).length
theorem lgEnd_zero (ls : List (List UInt8)) : lgEnd ls 0 = 0 := rfl
theorem lgEnd_succ {ls : List (List UInt8)} {k : Nat} (h : k < ls.length) : lgEnd ls (k + 1) = lgEnd ls k + lgSize (ls.getD k []).length + (ls.getD k []).length := by
  unfold lgEnd
  rw [List.take_succ_eq_append_getElem h, lgJoin_snoc, List.length_append, List.length_append, lgRaw_len]
  simp [List.getD, List.getElem?_eq_getElem h]
theorem lgEnd_le {ls : List (List UInt8)} {j k : Nat} (h : j ≤ k) (hk : k ≤ ls.length) : lgEnd ls j ≤ lgEnd ls k := by
  induction k with
  | zero => obtain rfl : j = 0 := by omega
            exact Nat.le_refl _
  | succ k ih =>
    by_cases e : j = k + 1
    · subst e; exact Nat.le_refl _
    · have := ih (by omega) (by omega)
      rw [lgEnd_succ (by omega)]; omega
theorem lgEnd_bound {ls : List (List UInt8)} {k : Nat} (hk : k ≤ ls.length) (h : ∀ j, j < k → (ls.getD j []).length ≤ 300) : lgEnd ls k ≤ 304 * k := by
  induction k with
  | zero => exact Nat.le_refl _
  | succ k ih =>
    have h1 := ih (by omega) (fun j hj => h j (by omega))
    have h2 := h k (by omega)
    have h3 := lgSize_pos (ls.getD k []).length
    rw [lgEnd_succ (by omega)]; omega
theorem lgEnd_all (ls : List (List UInt8)) : lgEnd ls ls.length = (lgJoin ls).length := by unfold lgEnd; rw [List.take_length]
theorem lgJoin_drop {ls : List (List UInt8)} {k : Nat} (h : k < ls.length) : (lgJoin ls).drop (lgEnd ls k) = lgRaw (ls.getD k []).length ++ (ls.getD k [] ++ lgJoin (ls.drop (k + 1))) := by
  have e : ls = ls.take k ++ (ls.getD k [] :: ls.drop (k + 1)) := by
    conv => lhs; rw [← List.take_append_drop k ls]
    rw [List.drop_eq_getElem_cons h]
    simp [List.getD, List.getElem?_eq_getElem h]
  have e2 : lgJoin ls = lgJoin (ls.take k) ++ (lgRaw (ls.getD k []).length ++ (ls.getD k [] ++ lgJoin (ls.drop (k + 1)))) := by
    conv => lhs; rw [e, lgJoin_append]
    simp [lgJoin]
  rw [e2]
  unfold lgEnd
  rw [List.drop_left]
/-- Where the first n of them stand. -/
def lgPlaces (ls : List (List UInt8)) (n : Nat) : List (Nat × Nat) := (List.range n).map fun j => (lgEnd ls j + lgSize (ls.getD j []).length, lgEnd ls (j + 1))
theorem lgPlaces_succ (ls : List (List UInt8)) (n : Nat) : lgPlaces ls (n + 1) = lgPlaces ls n ++ [(lgEnd ls n + lgSize (ls.getD n []).length, lgEnd ls (n + 1))] := by
  simp [lgPlaces, List.range_succ]
theorem take_app {a b : List UInt8} {m : Nat} (h : a.length ≤ m) : (a ++ b).take m = a ++ b.take (m - a.length) := by
  rw [List.take_append, List.take_of_length_le h]
theorem lgCut_back (ls : List (List UInt8)) (hls : ∀ l ∈ ls, l.length ≤ 300) (come : Nat) (hc : come ≤ (lgJoin ls).length) (n : Nat) (hn : n ≤ ls.length) (h1 : lgEnd ls n ≤ come) (h2 : n = ls.length ∨ come < lgEnd ls (n + 1)) (m : Nat) :
    ∀ k f, k + m = n → come < f + lgEnd ls k → lgCut ((lgJoin ls).take come) 300 f (lgEnd ls k) ⟨0, lgPlaces ls k, lgEnd ls k⟩ = ⟨0, lgPlaces ls n, lgEnd ls n⟩ := by
  have hT : ((lgJoin ls).take come).length = come := by rw [List.length_take]; omega
  have hmem : ∀ k, k < ls.length → (ls.getD k []).length ≤ 300 := fun k hk => by
    have e : ls.getD k [] = ls[k] := by simp [List.getD, List.getElem?_eq_getElem hk]
    rw [e]; exact hls _ (List.getElem_mem hk)
  have hdrop : ∀ k, k < ls.length → ((lgJoin ls).take come).drop (lgEnd ls k) = (lgRaw (ls.getD k []).length ++ (ls.getD k [] ++ lgJoin (ls.drop (k + 1)))).take (come - lgEnd ls k) := fun k hk => by
    rw [List.drop_take, lgJoin_drop hk]
  induction m with
  | zero =>
    intro k f hk hf
    obtain rfl : k = n := by omega
    cases f with
    | zero => omega
    | succ f =>
      unfold lgCut
      by_cases hp : lgEnd ls k < ((lgJoin ls).take come).length
      · rw [if_pos hp]
        rw [hT] at hp ⊢
        have hkl : k < ls.length := by
          rcases Nat.lt_or_ge k ls.length with h | h
          · exact h
          · obtain rfl : k = ls.length := by omega
            rw [lgEnd_all] at hp; omega
        have hlt : come < lgEnd ls (k + 1) := by
          rcases h2 with h | h
          · omega
          · exact h
        rw [lgEnd_succ hkl] at hlt
        have h300 := hmem k hkl
        rw [hdrop k hkl]
        have hrl := lgRaw_len (ls.getD k []).length
        generalize ls.getD k [] = l at *
        rcases Nat.lt_or_ge (come - lgEnd ls k) (lgSize l.length) with h | h
        · rw [List.take_append_of_le_length (by omega), lgRead_cut h]
          rw [if_neg (by simp), if_neg (by simp), if_pos (.inl rfl)]
        · rw [take_app (by omega), lgRead_raw (by omega)]
          rw [if_neg (by simp), if_neg (by show ¬ 300 < l.length; omega), if_pos (.inr (by show come < lgEnd ls k + lgSize l.length + l.length; omega))]
      · rw [if_neg hp]
  | succ m ih =>
    intro k f hk hf
    have hkl : k < ls.length := by omega
    have hle : lgEnd ls (k + 1) ≤ come := Nat.le_trans (lgEnd_le (by omega) hn) h1
    have hsucc := lgEnd_succ hkl
    have h300 := hmem k hkl
    have hsp := lgSize_pos (ls.getD k []).length
    have hrl := lgRaw_len (ls.getD k []).length
    cases f with
    | zero => omega
    | succ f =>
      have hi := ih (k + 1) f (by omega) (by omega)
      unfold lgCut
      rw [if_pos (by rw [hT]; omega), hdrop k hkl, take_app (by omega), lgRead_raw (by omega)]
      rw [if_neg (by simp), if_neg (by show ¬ 300 < (ls.getD k []).length; omega), if_neg (by
        show ¬ (lgSize (ls.getD k []).length = 0 ∨ ((lgJoin ls).take come).length < lgEnd ls k + lgSize (ls.getD k []).length + (ls.getD k []).length)
        rw [hT]; omega)]
      rw [lgPlaces_succ] at hi
      show lgCut _ 300 f (lgEnd ls k + lgSize (ls.getD k []).length + (ls.getD k []).length) ⟨0, lgPlaces ls k ++ [(lgEnd ls k + lgSize (ls.getD k []).length, lgEnd ls k + lgSize (ls.getD k []).length + (ls.getD k []).length)], lgEnd ls k + lgSize (ls.getD k []).length + (ls.getD k []).length⟩ = _
      rw [← hsucc]
      exact hi
theorem lgSplit_back (ls : List (List UInt8)) (hls : ∀ l ∈ ls, l.length ≤ 300) (come : Nat) (hc : come ≤ (lgJoin ls).length) (n : Nat) (hn : n ≤ ls.length) (h1 : lgEnd ls n ≤ come) (h2 : n = ls.length ∨ come < lgEnd ls (n + 1)) :
    lgSplit ((lgJoin ls).take come) 300 = ⟨0, lgPlaces ls n, lgEnd ls n⟩ := by
  have := lgCut_back ls hls come hc n hn h1 h2 n 0 (((lgJoin ls).take come).length + 1) (by omega) (by rw [List.length_take]; omega)
  exact this
/-- The parts are the runs again. -/
theorem lgPart_back (ls : List (List UInt8)) (come : Nat) (j : Nat) (hj : j < ls.length) (h : lgEnd ls (j + 1) ≤ come) :
    (((lgJoin ls).take come).drop (lgEnd ls j + lgSize (ls.getD j []).length)).take (lgEnd ls (j + 1) - (lgEnd ls j + lgSize (ls.getD j []).length)) = ls.getD j [] := by
  have hsucc := lgEnd_succ hj
  have hrl := lgRaw_len (ls.getD j []).length
  rw [← List.drop_drop, List.drop_take, lgJoin_drop hj]
  generalize ls.getD j [] = l at *
  rw [take_app (by omega), List.drop_append_of_le_length (by omega), List.drop_of_length_le (by omega), List.nil_append, List.take_take]
  rw [show lgEnd ls (j + 1) - (lgEnd ls j + lgSize l.length) = l.length by omega]
  rw [Nat.min_eq_left (by omega), List.take_left]
/-- How many came whole. -/
theorem lg_upto (ls : List (List UInt8)) (come : Nat) (m : Nat) (hm : m ≤ ls.length) (h : m = ls.length ∨ come < lgEnd ls (m + 1)) : ∃ n, n ≤ m ∧ lgEnd ls n ≤ come ∧ (n = ls.length ∨ come < lgEnd ls (n + 1)) := by
  induction m with
  | zero => exact ⟨0, Nat.le_refl _, Nat.zero_le _, h⟩
  | succ m ih =>
    rcases Nat.lt_or_ge come (lgEnd ls (m + 1)) with h1 | h1
    · obtain ⟨n, h2, h3, h4⟩ := ih (by omega) (.inr h1)
      exact ⟨n, by omega, h3, h4⟩
    · exact ⟨m + 1, Nat.le_refl _, h1, h⟩
/-- How far the ends go. -/
theorem lg_ends_step {ls : List (List UInt8)} {k : Nat} (h : k < ls.length) : ((List.range (k + 1)).map fun j => (lgEnd ls (j + 1) : Int)) = ((List.range k).map fun j => (lgEnd ls (j + 1) : Int)) ++ [((lgEnd ls k + lgSize (ls.getD k []).length + (ls.getD k []).length : Nat) : Int)] := by
  rw [List.range_succ, List.map_append, ← lgEnd_succ h]; rfl
end Go.Proofs.YtmbjdfmbbmeofaaDoor

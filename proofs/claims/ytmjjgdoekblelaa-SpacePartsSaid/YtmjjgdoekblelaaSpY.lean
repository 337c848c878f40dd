/- Layer 7: the document's space tells the same as the program's. -/
import Derived.Test.YtmjjgdoekblelaaSpX
namespace Go.Proofs.Ytmjjgdoekblelaa
open Go.RowKit

def listOf (h : Nat) (now : Pl) : List Nat := (List.range h).map fun (i : Nat) => isP h now i
theorem listOf_len (h : Nat) (now : Pl) : (listOf h now).length = h := by simp [listOf]
theorem listOf_get (h : Nat) (now : Pl) {i : Nat} (hi : i < h) : (listOf h now)[i]?.getD 0 = isP h now i := by simp [listOf, hi]
structure Agr (s : Spc) (g : GSp) : Prop where
  most_ : g.most = s.most
  now_ : g.now = listOf s.high s.now
  last_ : g.last = listOf s.lhigh s.last
theorem Agr.len {s : Spc} {g : GSp} (h : Agr s g) : g.now.length = s.high := by rw [h.now_, listOf_len]
theorem isP_cast {h : Nat} {now : Pl} {j : Nat} (h2 : 2 ≤ j) (hj : j < h) : isP h now (j : Int) = (now j).getD 1 := isP_in h2 hj
theorem isP_low {h : Nat} {now : Pl} {j : Nat} (hj : j < 2) : isP h now (j : Int) = 0 := by unfold isP; rw [if_neg (by omega)]
theorem isP_ne {s : Spc} (hs : s.Ok) {j : Nat} (h2 : 2 ≤ j) (hj : j < s.high) : isP s.high s.now (j : Int) ≠ 0 := by
  rw [isP_cast h2 hj]
  cases hn : s.now j with
  | none => simp
  | some p =>
    have := (hs.now_ j p hn).2.2
    simp; omega
theorem agr_new {m h : Nat} {l : List Int} : Agr (Spc.new m h l) (GSp.new m h l) := by
  have e : newList h l = listOf h (newPl l) := list_ext (by rw [newList_len, listOf_len]) (fun i hi => by
    rw [newList_len] at hi
    rw [newList_get h l hi, listOf_get h _ hi]
    by_cases h2 : i < 2
    · rw [if_pos h2, isP_low h2]
    · rw [if_neg h2, isP_cast (by omega) hi]
      unfold newPl
      by_cases hm : (i : Int) ∈ l
      · rw [if_pos hm, if_pos hm]; rfl
      · rw [if_neg hm, if_neg hm]; rfl)
  exact ⟨rfl, by show newList (h : Int).toNat l = _; rw [Int.toNat_natCast]; exact e, by show newList (h : Int).toNat l = _; rw [Int.toNat_natCast]; exact e⟩
theorem Agr.is {s : Spc} {g : GSp} (h : Agr s g) (p : Int) : g.is p = s.is p := by
  unfold GSp.is Spc.is
  by_cases hp : 2 ≤ p ∧ p < s.high
  · rw [if_pos (by rw [h.len]; exact hp), h.now_, listOf_get _ _ (by omega)]
    congr 1; omega
  · rw [if_neg (by rw [h.len]; exact hp)]
    unfold isP; rw [if_neg hp]
theorem listOf_put {h : Nat} {now : Pl} {k q : Nat} (h2 : 2 ≤ k) (_hk : k < h) : listOf h (plPut now k q) = (listOf h now).set k q := list_ext (by rw [List.length_set, listOf_len, listOf_len]) (fun i hi => by
  rw [listOf_len] at hi
  rw [set_get _ _ _ _ (by rw [listOf_len]; exact hi), listOf_get _ _ hi, listOf_get _ _ hi]
  by_cases hik : i = k
  · subst hik; rw [if_pos rfl, isP_cast h2 hi]; simp [plPut]
  · rw [if_neg hik]
    by_cases hi2 : i < 2
    · rw [isP_low hi2, isP_low hi2]
    · rw [isP_cast (by omega) hi, isP_cast (by omega) hi]; simp [plPut, hik])
theorem Agr.give {s : Spc} {g : GSp} (h : Agr s g) (p : Int) : Agr (s.give p).1 (g.give p).1 ∧ (g.give p).2 = (s.give p).2 := by
  unfold GSp.give Spc.give
  rw [h.is p]
  by_cases e1 : s.is p = 1
  · obtain ⟨k, rfl, h2, hk⟩ := isP_pos (h := s.high) (now := s.now) (p := p) (by unfold Spc.is at e1; omega)
    rw [if_pos e1, if_neg (by omega), if_pos e1]
    exact ⟨⟨h.most_, by show g.now.set _ 3 = _; rw [Int.toNat_natCast, listOf_put h2 hk, h.now_], h.last_⟩, rfl⟩
  · by_cases e2 : s.is p = 2
    · obtain ⟨k, rfl, h2, hk⟩ := isP_pos (h := s.high) (now := s.now) (p := p) (by unfold Spc.is at e2; omega)
      rw [if_pos e2, if_neg e1, if_pos e2]
      exact ⟨⟨h.most_, by show g.now.set _ 4 = _; rw [Int.toNat_natCast, listOf_put h2 hk, h.now_], h.last_⟩, rfl⟩
    · rw [if_neg e1, if_neg e2, if_neg e2, if_neg e1]
      exact ⟨h, rfl⟩
theorem Agr.undo {s : Spc} {g : GSp} (h : Agr s g) : Agr s.undo g.undo := ⟨h.most_, h.last_, h.last_⟩
theorem lasted_list {s : Spc} (_hs : s.Ok) : listOf s.high s.lasted = lastsUpto (listOf s.high s.now) s.high := list_ext (by rw [lastsUpto_len, listOf_len, listOf_len]) (fun i hi => by
  rw [listOf_len] at hi
  rw [lastsUpto_get _ _ (by rw [listOf_len]; exact hi), listOf_get _ _ hi, listOf_get _ _ hi]
  by_cases h2 : i < 2
  · rw [if_neg (by omega), isP_low h2, isP_low h2]
  · rw [if_pos (by omega), isP_cast (by omega) hi, isP_cast (by omega) hi]
    unfold Spc.lasted lq
    cases hn : s.now i with
    | none => simp
    | some p =>
      by_cases e2 : p = 2
      · simp [e2]
      · by_cases e3 : p = 3
        · simp [e3]
        · simp [e2, e3])
theorem Agr.lasts {s : Spc} {g : GSp} (h : Agr s g) (hs : s.Ok) : Agr s.lasts g.lasts := by
  have e : lastsUpto g.now g.now.length = listOf s.high s.lasted := by rw [lasted_list hs, h.len, h.now_]
  exact ⟨h.most_, e, e⟩
theorem Agr.of {s : Spc} {g : GSp} (h : Agr s g) (ls : List Nat) (a b : Nat) (hl : ∀ q, ls.contains q = (q == a || q == b)) : g.of a b = s.of ls := by
  unfold GSp.of ofUpto Spc.of
  rw [ofL_pgL, h.len]
  refine List.filter_congr (fun j hj => ?_)
  have := List.mem_range'_1.1 hj
  rw [h.now_, listOf_get _ _ (by omega), hl]
theorem taken_eq (s : Spc) : s.taken = (List.range' 2 (s.most - 2)).find? fun (j : Nat) => fitP (j, isP s.high s.now j) := by
  unfold Spc.taken pgL
  rw [List.find?_map, Option.map_map]
  have : (Prod.fst ∘ fun (j : Nat) => (j, isP s.high s.now j)) = id := rfl
  rw [this, Option.map_id]
  rfl
theorem Agr.take {s : Spc} {g : GSp} (h : Agr s g) (hs : s.Ok) : Agr s.take.1 g.take.1 ∧ g.take.2 = s.take.2 := by
  have hgm : g.most = (s.most : Int) := h.most_
  have hhi := hs.hi
  have hlo := hs.lo
  have hlh := hs.lh
  cases hf : g.free with
  | some k =>
    have hf' := hf
    unfold GSp.free at hf'
    rw [List.find?_range'_eq_some] at hf'
    obtain ⟨h4, hm, hno⟩ := hf'
    have hm' := List.mem_range'_1.1 hm
    rw [h.len] at hm'
    have hk2 : 2 ≤ k := hm'.1
    have hk : k < s.high := by omega
    rw [h.now_, listOf_get _ _ hk] at h4
    have ht : s.taken = some k := by
      rw [taken_eq]
      refine find_range (fun j h1 h2 => ?_) ?_ hk2 (by omega)
      · have := hno j h1 h2
        rw [h.now_, listOf_get _ _ (by omega)] at this
        have hne := isP_ne hs h1 (by omega : j < s.high)
        unfold fitP
        simp at this ⊢
        exact ⟨this, hne⟩
      · unfold fitP
        simp at h4 ⊢
        exact .inl h4
    unfold GSp.take Spc.take
    rw [hf, ht]
    refine ⟨⟨h.most_, ?_, h.last_⟩, rfl⟩
    show g.now.set k 2 = listOf (max s.high (k + 1)) (plPut s.now k 2)
    rw [show max s.high (k + 1) = s.high by omega, listOf_put hk2 hk, h.now_]
  | none =>
    have hf' := hf
    unfold GSp.free at hf'
    rw [List.find?_eq_none] at hf'
    have hno : ∀ j, 2 ≤ j → j < s.high → fitP (j, isP s.high s.now j) = false := fun j h1 h2 => by
      have := hf' j (List.mem_range'_1.2 ⟨h1, by rw [h.len]; omega⟩)
      rw [h.now_, listOf_get _ _ h2] at this
      have hne := isP_ne hs h1 h2
      unfold fitP
      simp at this ⊢
      exact ⟨this, hne⟩
    by_cases hm : s.most ≤ s.high
    · have ht : s.taken = none := by
        rw [taken_eq, List.find?_eq_none]
        intro j hj
        have := List.mem_range'_1.1 hj
        rw [hno j this.1 (by omega)]; decide
      unfold GSp.take Spc.take
      rw [hf, ht, if_pos (by rw [h.len, hgm]; omega)]
      exact ⟨h, rfl⟩
    · have ht : s.taken = some s.high := by
        rw [taken_eq]
        refine find_range (fun j h1 h2 => hno j h1 h2) ?_ (by omega) (by omega)
        unfold fitP isP
        rw [if_neg (by omega)]; rfl
      unfold GSp.take Spc.take
      rw [hf, ht, if_neg (by rw [h.len, hgm]; omega)]
      refine ⟨⟨h.most_, ?_, h.last_⟩, by rw [h.len]⟩
      show g.now ++ [2] = listOf (max s.high (s.high + 1)) (plPut s.now s.high 2)
      rw [show max s.high (s.high + 1) = s.high + 1 by omega, h.now_]
      refine list_ext (by rw [List.length_append, listOf_len, listOf_len]; rfl) (fun i hi => ?_)
      rw [List.length_append, listOf_len] at hi
      have hi' : i < s.high + 1 := hi
      rw [listOf_get _ _ hi']
      by_cases hlt : i < s.high
      · rw [List.getElem?_append_left (by rw [listOf_len]; exact hlt), listOf_get _ _ hlt]
        by_cases h2 : i < 2
        · rw [isP_low h2, isP_low h2]
        · rw [isP_cast (by omega) hlt, isP_cast (by omega) hi']
          have : i ≠ s.high := by omega
          simp [plPut, this]
      · obtain rfl : i = s.high := by omega
        rw [List.getElem?_append_right (by rw [listOf_len]; exact Nat.le_refl _), listOf_len, isP_cast (by omega) hi']
        simp [plPut]
end Go.Proofs.Ytmjjgdoekblelaa

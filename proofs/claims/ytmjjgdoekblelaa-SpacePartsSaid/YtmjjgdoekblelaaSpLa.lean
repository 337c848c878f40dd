/- Layer 7: the pages that may be taken, by their numbers: what Take and Give make of them. -/
import Derived.Test.YtmjjgdoekblelaaSpZ
namespace Go.Proofs.Ytmjjgdoekblelaa
open Go.RowKit

/-- The pages that may be taken, rising. -/
def cands (s : Spc) : List Nat := (List.range' 2 (s.most - 2)).filter fun (j : Nat) => isP s.high s.now j == 4 || isP s.high s.now j == 0
theorem taken_cands (s : Spc) : s.taken = (cands s).head? := by
  unfold Spc.taken cands pgL
  rw [← List.head?_filter, List.filter_map, List.head?_map, Option.map_map]
  have e : (fitP ∘ fun j : Nat => (j, isP s.high s.now j)) = fun (j : Nat) => isP s.high s.now j == 4 || isP s.high s.now j == 0 := by funext j; rfl
  rw [e]
  cases (List.filter (fun (j : Nat) => isP s.high s.now j == 4 || isP s.high s.now j == 0) (List.range' 2 (s.most - 2))).head? <;> rfl
theorem mem_cands {s : Spc} {j : Nat} : j ∈ cands s ↔ 2 ≤ j ∧ j < s.most ∧ (isP s.high s.now j = 4 ∨ isP s.high s.now j = 0) := by
  unfold cands
  rw [List.mem_filter, List.mem_range']
  simp only [Bool.or_eq_true, beq_iff_eq]
  constructor
  · rintro ⟨⟨i, hi, rfl⟩, h⟩; exact ⟨by omega, by omega, h⟩
  · rintro ⟨h1, h2, h⟩; exact ⟨⟨j - 2, by omega, by omega⟩, h⟩
theorem cands_lt (s : Spc) : (cands s).Pairwise (· < ·) := by
  unfold cands
  exact List.Pairwise.sublist List.filter_sublist (List.pairwise_lt_range' (s := 2) (n := s.most - 2))
theorem cands_len (s : Spc) : (cands s).length ≤ s.most - 2 := by
  unfold cands
  have := List.length_filter_le (fun (j : Nat) => isP s.high s.now j == 4 || isP s.high s.now j == 0) (List.range' 2 (s.most - 2))
  rwa [List.length_range'] at this
theorem take_none {s : Spc} (h : cands s = []) : s.take = (s, 0, 170) := by unfold Spc.take; rw [taken_cands, h]; rfl
theorem take_some {s : Spc} {k : Nat} {r : List Nat} (h : cands s = k :: r) : s.take = ({ s with high := max s.high (k + 1), now := plPut s.now k 2 }, k, 0) := by unfold Spc.take; rw [taken_cands, h]; rfl
theorem isP_put {h : Nat} {now : Pl} {k q j : Nat} (h2 : 2 ≤ j) (hj : j < h) : isP h (plPut now k q) (j : Int) = if j = k then q else isP h now (j : Int) := by
  rw [isP_in h2 hj, isP_in h2 hj]
  unfold plPut
  by_cases e : j = k
  · rw [if_pos e, if_pos e]; rfl
  · rw [if_neg e, if_neg e]
theorem isP_high {h : Nat} {now : Pl} {j : Nat} (hj : h ≤ j) : isP h now (j : Int) = 0 := by unfold isP; rw [if_neg (by omega)]
theorem take_rest {s : Spc} {k : Nat} {r : List Nat} (h : cands s = k :: r) : cands s.take.1 = r := by
  have hk := mem_cands.1 (show k ∈ cands s by rw [h]; exact List.mem_cons_self ..)
  have hlt := cands_lt s
  rw [h] at hlt
  obtain ⟨hmin, -⟩ := List.pairwise_cons.1 hlt
  have hnot : k ∉ r := fun hm => Nat.lt_irrefl _ (hmin k hm)
  rw [take_some h]
  have key : cands { s with high := max s.high (k + 1), now := plPut s.now k 2 } = (cands s).filter fun j => j != k := by
    unfold cands
    rw [List.filter_filter]
    refine List.filter_congr fun j hj => ?_
    obtain ⟨i, hi, rfl⟩ := List.mem_range'.1 hj
    show (isP (max s.high (k + 1)) (plPut s.now k 2) ((2 + 1 * i : Nat) : Int) == 4 || isP (max s.high (k + 1)) (plPut s.now k 2) ((2 + 1 * i : Nat) : Int) == 0) = _
    replace hi : i < s.most - 2 := hi
    generalize hj' : 2 + 1 * i = j at *
    have hj2 : 2 ≤ j := by omega
    have hjm : j < s.most := by omega
    by_cases e : j = k
    · subst e
      rw [isP_put hj2 (by omega), if_pos rfl]; simp
    · have hne : (j != k) = true := by simp [e]
      rw [hne, Bool.true_and]
      by_cases hh : j < max s.high (k + 1)
      · rw [isP_put hj2 hh, if_neg e]
        by_cases hs : j < s.high
        · rw [isP_in hj2 hh, isP_in hj2 hs]
        · exfalso
          have hm : j ∈ cands s := mem_cands.2 ⟨hj2, hjm, .inr (isP_high (by omega))⟩
          rw [h] at hm
          rcases List.mem_cons.1 hm with e' | e'
          · exact e e'
          · have := hmin j e'; omega
      · rw [isP_high (by omega), isP_high (by omega)]
  rw [key, h, List.filter_cons_of_neg (by simp)]
  exact List.filter_eq_self.2 fun j hj => by
    have : j ≠ k := fun e => hnot (e ▸ hj)
    simp [this]
/-- One more is counted. -/
theorem count_more {p q : Nat → Bool} {k : Nat} : ∀ {l : List Nat}, l.Nodup → k ∈ l → p k = false → q k = true → (∀ j, j ≠ k → q j = p j) → (l.filter q).length = (l.filter p).length + 1
  | [], _, h, _, _, _ => by cases h
  | a :: l, hn, hm, hp, hq, he => by
    obtain ⟨hna, hn⟩ := List.nodup_cons.1 hn
    by_cases e : a = k
    · subst e
      rw [List.filter_cons_of_pos hq, List.filter_cons_of_neg (by rw [hp]; decide), List.length_cons]
      congr 2
      exact List.filter_congr fun j hj => he j (fun e => hna (e ▸ hj))
    · have hm' : k ∈ l := (List.mem_cons.1 hm).resolve_left (fun e' => e e'.symm)
      have ih := count_more hn hm' hp hq he
      by_cases hpa : p a = true
      · rw [List.filter_cons_of_pos (by rw [he a e]; exact hpa), List.filter_cons_of_pos hpa, List.length_cons, List.length_cons, ih]
      · rw [List.filter_cons_of_neg (by rw [he a e]; exact hpa), List.filter_cons_of_neg hpa, ih]
theorem give_more {s : Spc} (h : s.Ok) {k : Nat} (hk : s.now k = some 2) : (s.give k).2 = 0 ∧ (s.give k).1 = { s with now := plPut s.now k 4 } ∧ (cands (s.give k).1).length = (cands s).length + 1 := by
  obtain ⟨h2, hlt, -⟩ := h.now_ k 2 hk
  have e : s.is k = 2 := by
    show isP s.high s.now k = 2
    rw [isP_in h2 hlt, hk]; rfl
  have eg : s.give k = ({ s with now := plPut s.now k 4 }, 0) := by
    unfold Spc.give
    rw [if_pos e, Int.toNat_natCast]
  rw [eg]
  refine ⟨rfl, rfl, ?_⟩
  unfold cands
  refine count_more (k := k) List.nodup_range' ?_ ?_ ?_ fun j hj => ?_
  · exact List.mem_range'.2 ⟨k - 2, by show k - 2 < s.most - 2; have := h.hi; omega, by omega⟩
  · show (isP s.high s.now k == 4 || isP s.high s.now k == 0) = false
    rw [show isP s.high s.now k = 2 from e]; decide
  · show (isP s.high (plPut s.now k 4) k == 4 || isP s.high (plPut s.now k 4) k == 0) = true
    rw [isP_put h2 hlt, if_pos rfl]; rfl
  · show (isP s.high (plPut s.now k 4) j == 4 || isP s.high (plPut s.now k 4) j == 0) = (isP s.high s.now j == 4 || isP s.high s.now j == 0)
    by_cases hj2 : 2 ≤ j ∧ j < s.high
    · rw [isP_put hj2.1 hj2.2, if_neg hj]
    · have e1 : ∀ f : Pl, isP s.high f (j : Int) = 0 := fun f => by unfold isP; rw [if_neg (by omega)]
      rw [e1, e1]
/-- How many of a range stand in a list that rises within it. -/
theorem count_list (n : Nat) : ∀ (l : List Int), (∀ x ∈ l, 2 ≤ x ∧ x < n) → l.Pairwise (· < ·) → ((List.range' 2 (n - 2)).filter fun (j : Nat) => decide ((j : Int) ∈ l)).length = l.length
  | [], _, _ => by
    rw [List.filter_eq_nil_iff.2 (fun j _ => by simp)]; rfl
  | x :: l, hx, hl => by
    obtain ⟨h1, h2⟩ := List.pairwise_cons.1 hl
    obtain ⟨k, rfl⟩ : ∃ k : Nat, x = k := ⟨x.toNat, by have := hx x (by simp); omega⟩
    have ih := count_list n l (fun y hy => hx y (List.mem_cons_of_mem _ hy)) h2
    have hk := hx k (by simp)
    rw [List.length_cons, ← ih]
    refine count_more (k := k) List.nodup_range' (List.mem_range'.2 ⟨k - 2, by omega, by omega⟩) ?_ ?_ fun j hj => ?_
    · exact decide_eq_false fun hm => by have := h1 _ hm; omega
    · exact decide_eq_true (List.mem_cons_self ..)
    · have : (j : Int) ≠ k := by omega
      exact decide_eq_decide.2 ⟨fun h => (List.mem_cons.1 h).resolve_left this, fun h => List.mem_cons_of_mem _ h⟩
theorem newIs {h : Nat} {l : List Int} {j : Nat} (h2 : 2 ≤ j) (hj : j < h) : isP h (newPl l) (j : Int) = if (j : Int) ∈ l then 4 else 1 := by
  rw [isP_in h2 hj]
  unfold newPl
  by_cases e : (j : Int) ∈ l
  · rw [if_pos e, if_pos e]; rfl
  · rw [if_neg e, if_neg e]; rfl
theorem new_free {m h : Nat} {l : List Int} (hl : Rise h l) : ((Spc.new m h l).of [4]).length = l.length := by
  rw [← count_list h l hl.1 hl.2]
  show (ofL [4] (pgL h (newPl l) h)).length = _
  rw [ofL_pgL]
  congr 1
  refine List.filter_congr fun j hj => ?_
  obtain ⟨i, hi, rfl⟩ := List.mem_range'.1 hj
  rw [newIs (by omega) (by omega)]
  by_cases e : ((2 + 1 * i : Nat) : Int) ∈ l
  · rw [if_pos e, decide_eq_true e]; rfl
  · rw [if_neg e, decide_eq_false e]; rfl
theorem new_new {m h : Nat} {l : List Int} : ((Spc.new m h l).of [2]) = [] := by
  show ofL [2] (pgL h (newPl l) h) = _
  rw [ofL_pgL]
  refine List.filter_eq_nil_iff.2 fun j hj => ?_
  obtain ⟨i, hi, rfl⟩ := List.mem_range'.1 hj
  rw [newIs (by omega) (by omega)]
  split <;> decide
theorem new_cands {m h : Nat} {l : List Int} (hh : 2 ≤ h) (hm : h ≤ m) (hl : Rise h l) : (cands (Spc.new m h l)).length = l.length + (m - h) := by
  unfold cands
  show ((List.range' 2 (m - 2)).filter fun (j : Nat) => isP h (newPl l) j == 4 || isP h (newPl l) j == 0).length = _
  have e : List.range' 2 (m - 2) = List.range' 2 (h - 2) ++ List.range' h (m - h) := by
    have := List.range'_append_1 (s := 2) (m := h - 2) (n := m - h)
    rw [show 2 + (h - 2) = h by omega, show (h - 2) + (m - h) = m - 2 by omega] at this
    exact this.symm
  rw [e, List.filter_append, List.length_append]
  congr 1
  · rw [← count_list h l hl.1 hl.2]
    congr 1
    refine List.filter_congr fun j hj => ?_
    obtain ⟨i, hi, rfl⟩ := List.mem_range'.1 hj
    rw [newIs (by omega) (by omega)]
    by_cases e : ((2 + 1 * i : Nat) : Int) ∈ l
    · rw [if_pos e, decide_eq_true e]; rfl
    · rw [if_neg e, decide_eq_false e]; rfl
  · rw [List.filter_eq_self.2 fun j hj => by
      obtain ⟨i, hi, rfl⟩ := List.mem_range'.1 hj
      rw [isP_high (by omega)]; rfl, List.length_range']
theorem all_taken {s : Spc} (h : s.Ok) (hc : cands s = []) : s.high = s.most := by
  have h1 := h.hi
  have h2 := h.lo
  have h3 := h.lh
  by_cases e : s.high < s.most
  · have : s.high ∈ cands s := mem_cands.2 ⟨by omega, e, .inr (isP_high (Nat.le_refl _))⟩
    rw [hc] at this; cases this
  · omega
theorem IsSp.grown {n₀ : Nat} {w w' : World} {B : Nat} {s : Spc} {V : Option Nat} (h : IsSp n₀ w B s) (hg : w.grownBy w' V) (hV : ∀ g, V = some g → ∃ cs fr T, w.heap[g]? = some (.cells cs T fr) ∧ T ≠ 59) : IsSp n₀ w' B s := by
  obtain ⟨bl, bp, h, h1⟩ := h
  have hb : ∀ j, j < w.heap.size → (∀ g, V = some g → j ≠ g) → w'.heap[j]? = w.heap[j]? := fun j hj hn => hg.block j hj (fun e => hn j e.symm rfl)
  have hne : ∀ g, V = some g → g ≠ B ∧ g ≠ bl ∧ g ≠ bp := fun g e => by
    obtain ⟨cs, fr, T, hk, ht⟩ := hV g e
    exact h.not_cells hk ht
  refine ⟨bl, bp, ⟨h.ok, (hb B h.row.lt (fun g e => (hne g e).1.symm)).trans h.row, h.last.at_block (hb bl h.last.lt (fun g e => (hne g e).2.1.symm)), h.now.at_block (hb bp h.now.lt (fun g e => (hne g e).2.2.symm)), h.ne⟩, h1⟩
end Go.Proofs.Ytmjjgdoekblelaa

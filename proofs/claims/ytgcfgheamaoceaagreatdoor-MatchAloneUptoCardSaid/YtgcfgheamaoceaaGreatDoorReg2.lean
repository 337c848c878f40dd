/- A statement whose order is open, when all its operations have come up: the activation is the old one with their slots put. Of no program. -/
import Derived.Test.YtgcfgheamaoceaaGreatDoorReg
namespace Go.Proofs.YtgcfgheamaoceaaGreatDoor

section
variable {P : Program} {ops : Array Oper}
theorem put_size (a : Act) (d : Tmp) (v : Value) : (a.put (some d) v).tmps.size = a.tmps.size := by simp [Act.put]
def putAll (f : Nat → Value) (ds : List Nat) (a : Act) : Act := ds.foldl (fun b d => b.put (some d) (f d)) a
theorem putAll_size (f : Nat → Value) (ds : List Nat) (a : Act) : (putAll f ds a).tmps.size = a.tmps.size := by
  induction ds generalizing a with
  | nil => rfl
  | cons d ds ih => show (putAll f ds (a.put (some d) (f d))).tmps.size = _; rw [ih, put_size]
theorem putAll_defers (f : Nat → Value) (ds : List Nat) (a : Act) : (putAll f ds a).defers = a.defers := by
  induction ds generalizing a with
  | nil => rfl
  | cons d ds ih => show (putAll f ds (a.put (some d) (f d))).defers = _; rw [ih]; rfl
theorem putAll_getD (f : Nat → Value) (ds : List Nat) (a : Act) (t : Nat) (ht : t < a.tmps.size) : (putAll f ds a).tmps.getD t undef = if t ∈ ds then f t else a.tmps.getD t undef := by
  induction ds generalizing a with
  | nil => simp [putAll]
  | cons d ds ih =>
    show (putAll f ds (a.put (some d) (f d))).tmps.getD t undef = _
    rw [ih _ (by rw [put_size]; exact ht)]
    by_cases h1 : t ∈ ds
    · rw [if_pos h1, if_pos (List.mem_cons_of_mem _ h1)]
    · rw [if_neg h1]
      by_cases h2 : d = t
      · subst h2
        rw [if_pos (List.mem_cons_self), getD_putL_same ht]
      · rw [if_neg (by simp [h1, Ne.symm h2]), getD_putL_other h2]
def dstsIn (ops : Array Oper) (ds : List Nat) : Bool := ops.toList.all fun o => match o.dst with | some d => ds.contains d | none => true
theorem RegL.puts {I : Array Bool → World → Prop} {Sp : Nat → Value → World → Prop} {a0 : Act} {listed : Array Bool} {a : Act} {w : World} (h : RegL ops I Sp a0 listed a w) (ds : List Nat) (hds : dstsIn ops ds = true) :
    a = putAll (fun d => a.tmps.getD d undef) ds a0 := by
  have key : a.tmps = (putAll (fun d => a.tmps.getD d undef) ds a0).tmps := by
    apply Array.ext
    · rw [putAll_size, h.len]
    · intro t h1 h2
      have ht : t < a0.tmps.size := by rw [← h.len]; exact h1
      have e1 : a.tmps[t] = a.tmps.getD t undef := by rw [Array.getD, dif_pos h1]; rfl
      have e2 : (putAll (fun d => a.tmps.getD d undef) ds a0).tmps[t] = (putAll (fun d => a.tmps.getD d undef) ds a0).tmps.getD t undef := by rw [Array.getD, dif_pos h2]; rfl
      rw [e1, e2, putAll_getD _ _ _ _ ht]
      by_cases hm : t ∈ ds
      · rw [if_pos hm]
      · rw [if_neg hm]
        refine h.old t fun i o ho e => hm ?_
        have h3 := List.all_eq_true.1 hds o (Array.mem_toList_iff.2 (Array.mem_of_getElem? ho))
        rw [e] at h3
        simpa using h3
  obtain ⟨T, D⟩ := a
  have h4 : D = (putAll (fun d => T.getD d undef) ds a0).defers := by rw [putAll_defers]; exact h.defers
  have key' : T = (putAll (fun d => T.getD d undef) ds a0).tmps := key
  generalize hq : putAll (fun d => T.getD d undef) ds a0 = q at key' h4
  obtain ⟨T2, D2⟩ := q
  have h5 : D = D2 := h4
  rw [h5]
  exact congrArg (fun x => Act.mk x D2) key'
/-- The slots that are written stand side by side: from lo on, n of them. -/
def dstsFrom (ops : Array Oper) (lo n : Nat) : Bool := ops.toList.all fun o => match o.dst with | some d => decide (lo ≤ d ∧ d < lo + n) | none => true
theorem RegL.frame {I : Array Bool → World → Prop} {Sp : Nat → Value → World → Prop} {L : List Value} {D : List Deferred} {listed : Array Bool} {a : Act} {w : World} (h : RegL ops I Sp ⟨L.toArray, D⟩ listed a w) (lo n : Nat) (hn : lo + n ≤ L.length) (hds : dstsFrom ops lo n = true) :
    ∃ vs : List Value, vs.length = n ∧ (∀ j, j < n → vs[j]? = some (a.tmps.getD (lo + j) undef)) ∧ a = ⟨(L.take lo ++ vs ++ L.drop (lo + n)).toArray, D⟩ := by
  have hlen : a.tmps.size = L.length := h.len.trans (by simp)
  have hold : ∀ t, t < lo ∨ lo + n ≤ t → a.tmps.getD t undef = L.toArray.getD t undef := fun t ht => h.old t fun i o ho e => by
    have h3 := List.all_eq_true.1 hds o (Array.mem_toList_iff.2 (Array.mem_of_getElem? ho))
    rw [e] at h3
    have h4 : lo ≤ t ∧ t < lo + n := of_decide_eq_true h3
    omega
  refine ⟨(List.range n).map fun j => a.tmps.getD (lo + j) undef, by simp, fun j hj => by simp [hj], ?_⟩
  obtain ⟨T, D2⟩ := a
  have hD : D2 = D := h.defers
  subst hD
  have hT : T = (L.take lo ++ ((List.range n).map fun j => T.getD (lo + j) undef) ++ L.drop (lo + n)).toArray := by
    have hl2 : (L.take lo).length = lo := by rw [List.length_take]; omega
    apply Array.ext
    · simp only [List.size_toArray, List.length_append, List.length_map, List.length_range, List.length_drop, hl2]
      have : T.size = L.length := hlen
      omega
    · intro t h1 h2
      have ht : t < L.length := by have : T.size = L.length := hlen; omega
      have e1 : T[t] = T.getD t undef := by rw [Array.getD, dif_pos h1]; rfl
      rw [e1, List.getElem_toArray]
      rcases Nat.lt_or_ge t lo with c1 | c1
      · rw [hold t (.inl c1), List.getElem_append_left (by simp [hl2]; omega), List.getElem_append_left (by rw [hl2]; exact c1), List.getElem_take]
        simp [Array.getD, ht]
      · rcases Nat.lt_or_ge t (lo + n) with c2 | c2
        · rw [List.getElem_append_left (by simp [hl2]; omega), List.getElem_append_right (by rw [hl2]; exact c1)]
          simp [hl2, show lo + (t - lo) = t by omega]
        · rw [hold t (.inr c2), List.getElem_append_right (by simp [hl2]; omega)]
          simp [Array.getD, ht, hl2, show lo + n + (t - (lo + n)) = t by omega]
  exact congrArg (fun x => Act.mk x D2) hT
end
end Go.Proofs.YtgcfgheamaoceaaGreatDoor

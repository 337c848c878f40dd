/- A statement whose order is open: its slots stand in two runs, side by side each. Of no program. -/
import Derived.Test.YtgcfgheamaoceaaGreatDoorReg2
namespace Go.Proofs.YtgcfgheamaoceaaGreatDoor

section
variable {P : Program} {ops : Array Oper}
def dstsTwo (ops : Array Oper) (lo n lo2 n2 : Nat) : Bool := ops.toList.all fun o => match o.dst with | some d => decide ((lo ≤ d ∧ d < lo + n) ∨ (lo2 ≤ d ∧ d < lo2 + n2)) | none => true
theorem RegL.frame2 {I : Array Bool → World → Prop} {Sp : Nat → Value → World → Prop} {L : List Value} {D : List Deferred} {listed : Array Bool} {a : Act} {w : World} (h : RegL ops I Sp ⟨L.toArray, D⟩ listed a w) (lo n lo2 n2 : Nat) (h12 : lo + n ≤ lo2) (hn : lo2 + n2 ≤ L.length) (hds : dstsTwo ops lo n lo2 n2 = true) :
    ∃ vs us : List Value, vs.length = n ∧ us.length = n2 ∧ (∀ j, j < n → vs[j]? = some (a.tmps.getD (lo + j) undef)) ∧ (∀ j, j < n2 → us[j]? = some (a.tmps.getD (lo2 + j) undef)) ∧
      a = ⟨(L.take lo ++ (vs ++ ((L.drop (lo + n)).take (lo2 - (lo + n)) ++ (us ++ L.drop (lo2 + n2))))).toArray, D⟩ := by
  have hlen : a.tmps.size = L.length := h.len.trans (by simp)
  have hold : ∀ t, (t < lo ∨ lo + n ≤ t) → (t < lo2 ∨ lo2 + n2 ≤ t) → a.tmps.getD t undef = L.toArray.getD t undef := fun t ht ht2 => h.old t fun i o ho e => by
    have h3 := List.all_eq_true.1 hds o (Array.mem_toList_iff.2 (Array.mem_of_getElem? ho))
    rw [e] at h3
    have h4 : (lo ≤ t ∧ t < lo + n) ∨ (lo2 ≤ t ∧ t < lo2 + n2) := of_decide_eq_true h3
    omega
  refine ⟨(List.range n).map fun j => a.tmps.getD (lo + j) undef, (List.range n2).map fun j => a.tmps.getD (lo2 + j) undef, by simp, by simp, fun j hj => by simp [hj], fun j hj => by simp [hj], ?_⟩
  obtain ⟨T, D2⟩ := a
  have hD : D2 = D := h.defers
  subst hD
  have hT : T = (L.take lo ++ (((List.range n).map fun j => T.getD (lo + j) undef) ++ ((L.drop (lo + n)).take (lo2 - (lo + n)) ++ (((List.range n2).map fun j => T.getD (lo2 + j) undef) ++ L.drop (lo2 + n2))))).toArray := by
    have hTL : T.size = L.length := hlen
    have l1 : (L.take lo).length = lo := by rw [List.length_take]; omega
    have l2 : ((List.range n).map fun j => T.getD (lo + j) undef).length = n := by simp
    have l3 : ((L.drop (lo + n)).take (lo2 - (lo + n))).length = lo2 - (lo + n) := by rw [List.length_take, List.length_drop]; omega
    have l4 : ((List.range n2).map fun j => T.getD (lo2 + j) undef).length = n2 := by simp
    apply Array.ext
    · simp only [List.size_toArray, List.length_append, l1, l2, l3, l4, List.length_drop]
      omega
    · intro t h1 h2
      have ht : t < L.length := by omega
      have e1 : T[t] = T.getD t undef := by rw [Array.getD, dif_pos h1]; rfl
      rw [e1, List.getElem_toArray]
      rcases Nat.lt_or_ge t lo with c1 | c1
      · rw [hold t (.inl c1) (by omega), List.getElem_append_left (by rw [l1]; exact c1), List.getElem_take]
        simp [Array.getD, ht]
      · rw [List.getElem_append_right (by rw [l1]; exact c1)]
        rcases Nat.lt_or_ge t (lo + n) with c2 | c2
        · rw [List.getElem_append_left (by rw [l2, l1]; omega)]
          simp [l1, show lo + (t - lo) = t by omega]
        · rw [List.getElem_append_right (by rw [l2, l1]; omega)]
          rcases Nat.lt_or_ge t lo2 with c3 | c3
          · rw [hold t (.inr c2) (.inl c3), List.getElem_append_left (by rw [l3, l2, l1]; omega), List.getElem_take, List.getElem_drop]
            simp [Array.getD, ht, l1, show lo + n + (t - lo - n) = t by omega]
          · rw [List.getElem_append_right (by rw [l3, l2, l1]; omega)]
            rcases Nat.lt_or_ge t (lo2 + n2) with c4 | c4
            · rw [List.getElem_append_left (by rw [l4, l3, l2, l1]; omega)]
              simp [l1, l3, show lo2 + (t - lo - n - (lo2 - (lo + n))) = t by omega]
            · rw [hold t (.inr (by omega)) (.inr c4), List.getElem_append_right (by rw [l4, l3, l2, l1]; omega), List.getElem_drop]
              simp [Array.getD, ht, l1, l3, show lo2 + n2 + (t - lo - n - (lo2 - (lo + n)) - n2) = t by omega]
  exact congrArg (fun x => Act.mk x D2) hT
/-- Only the edges that bind in every order need stand ahead. -/
def lexAnyB (ops : Array Oper) : Bool := (List.range ops.size).all fun i => match ops[i]? with | some o => o.after.all fun e => !Region.binds .any e || decide (e.on < i) | none => true
theorem lexAny_of (h : lexAnyB ops = true) : ∀ i o, ops[i]? = some o → ∀ e ∈ o.after, Region.binds .any e = true → e.on < i := fun i o ho e he hb => by
  have hi := (Array.getElem?_eq_some_iff.1 ho).1
  have := List.all_eq_true.1 h i (List.mem_range.2 hi)
  simp only [ho] at this
  have := Array.all_eq_true_iff_forall_mem.1 this e he
  rw [hb] at this
  simpa using this
variable {Q : Exit → Act → World → Prop}
theorem wp_region_m {id : Nat} (I : Array Bool → World → Prop) (Sp : Nat → Value → World → Prop) {a0 : Act} {w : World} (hm : P.follows .mixedOrders = true)
    (hlex : lexAnyB ops = true) (hdst : dstB ops = true) (hin : inB ops a0.tmps.size = true) (hI : I (Array.replicate ops.size false) w.drew)
    (step : ∀ (i : Nat) (o : Oper), ops[i]? = some o → ∀ listed a w', RegL ops I Sp a0 listed a w' → listed.getD i false = false → (∀ e ∈ o.after, Region.binds .any e = true → listed.getD e.on false = true) →
      wpOp P ops Q i (fun a' w'' => ∃ v, a' = a.put o.dst v ∧ I (listed.setIfInBounds i true) w'' ∧ (o.dst.isSome = true → Sp i v w'') ∧ ∀ j u, listed.getD j false = true → Sp j u w' → Sp j u w'') a w')
    (fin : ∀ listed a w', RegL ops I Sp a0 listed a w' → (∀ i, i < ops.size → listed.getD i false = true) → Q .normal a w') :
    (Code.region id ops true).wp P Q a0 w := by
  have hno : ∀ i, (Array.replicate ops.size false).getD i false = false := fun i => by
    simp only [Array.getD_eq_getD_getElem?, Array.getElem?_replicate]
    split <;> rfl
  refine wp_region_any hm (wpAny_l I Sp a0 (lexAny_of hlex) (fun i j oi oj d hi hj hne hd => dst_of hdst i j oi oj d hi hj hne hd) (fun i o d hi hd => in_of hin i o d hi hd) step fin _ _ _ _ ?_ (by simp))
  refine ⟨hI, by simp, rfl, rfl, fun _ _ => rfl, ?_, ?_⟩
  · intro i o d _ hl _
    rw [hno i] at hl; cases hl
  · intro i o _ hl
    rw [hno i] at hl; cases hl
end
end Go.Proofs.YtgcfgheamaoceaaGreatDoor

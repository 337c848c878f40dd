/- A statement whose order Go leaves open, in which calls make memory: one invariant serves every order. Each operation is looked at once: given what the operations that it waits for have yielded, it yields a value that meets its own word, and leaves a world in which all words still hold. Of no program. -/
import Derived.Orders
import Derived.OrdersHeld
namespace Go.Proofs.YtjpjijjnkjomnaaDoor

section
variable {P : Program} {ops : Array Oper} {Q : Exit → Act → World → Prop} {md : Region.Mode}

/-- What is known when the operations in 'listed' have come up: those that came up since the beginning (not in 'l0') have left values that meet their words. -/
structure RegInv (ops : Array Oper) (I : World → Prop) (Sp : Nat → Value → World → Prop) (a0 : Act) (l0 listed : Array Bool) (a : Act) (w : World) : Prop where
  inv : I w
  size : listed.size = ops.size
  defers : a.defers = a0.defers
  len : a.tmps.size = a0.tmps.size
  old : ∀ t, (∀ (i : Nat) (o : Oper), ops[i]? = some o → l0.getD i true = false → o.dst ≠ some t) → a.tmps.getD t undef = a0.tmps.getD t undef
  said : ∀ (i : Nat) (o : Oper) (d : Tmp), ops[i]? = some o → l0.getD i true = false → listed.getD i false = true → o.dst = some d → Sp i (a.tmps.getD d undef) w
  mono : ∀ i, l0.getD i false = true → listed.getD i false = true
  l0size : ops.size ≤ l0.size

theorem getD_put_same {a : Act} {d : Tmp} {v : Value} (h : d < a.tmps.size) : (a.put (some d) v).tmps.getD d undef = v := by
  simp [Act.put, h]
theorem getD_put_other {a : Act} {d t : Tmp} {v : Value} (h : d ≠ t) : (a.put (some d) v).tmps.getD t undef = a.tmps.getD t undef := by
  simp [Act.put, h]

theorem ready_nil_all {listed : Array Bool} (hsz : listed.size = ops.size) (hlex : ∀ i o, ops[i]? = some o → ∀ e ∈ o.after, Region.binds md e = true → e.on < i) (h : Region.ready md ops listed = []) :
    ∀ i, i < ops.size → listed.getD i false = true := by
  intro i
  induction i using Nat.strongRecOn with
  | _ i ih =>
    intro hi
    cases hb : listed.getD i false with
    | true => rfl
    | false =>
      have hb2 : listed.getD i true = false := by
        rw [Array.getD, dif_pos (by omega)] at hb ⊢; exact hb
      have ho : ops[i]? = some ops[i] := Array.getElem?_eq_getElem hi
      have : i ∈ Region.ready md ops listed := mem_ready.2 ⟨hb2, ops[i], ho, fun e he hbd => by
        have hlt := hlex i _ ho e he hbd
        exact ih e.on hlt (by omega)⟩
      rw [h] at this
      cases this

theorem wpAny_inv (I : World → Prop) (Sp : Nat → Value → World → Prop) (a0 : Act) (l0 : Array Bool)
    (hlex : ∀ i o, ops[i]? = some o → ∀ e ∈ o.after, Region.binds md e = true → e.on < i)
    (hd : ∀ (i j : Nat) (oi oj : Oper) (d : Tmp), ops[i]? = some oi → ops[j]? = some oj → l0.getD i true = false → l0.getD j true = false → i ≠ j → oi.dst = some d → oj.dst ≠ some d)
    (hin : ∀ (i : Nat) (o : Oper) (d : Tmp), ops[i]? = some o → o.dst = some d → d < a0.tmps.size)
    (step : ∀ (i : Nat) (o : Oper), ops[i]? = some o → l0.getD i true = false → ∀ listed a w, RegInv ops I Sp a0 l0 listed a w → (∀ e ∈ o.after, Region.binds md e = true → listed.getD e.on false = true) →
      wpOp P ops Q i (fun a' w' => ∃ v, a' = a.put o.dst v ∧ I w' ∧ Sp i v w' ∧ ∀ j u, Sp j u w → Sp j u w') a w)
    (fin : ∀ listed a w, RegInv ops I Sp a0 l0 listed a w → (∀ i, i < ops.size → listed.getD i false = true) → Q .normal a w) :
    ∀ (fuel : Nat) (listed : Array Bool) (a : Act) (w : World), RegInv ops I Sp a0 l0 listed a w → listed.toList.count false = fuel → wpAny P md ops Q fuel listed a w := by
  intro fuel
  induction fuel with
  | zero =>
    intro listed a w hI hc
    have hno : ∀ i, i < ops.size → listed.getD i false = true := by
      intro i hi
      have hi2 : i < listed.size := by rw [hI.size]; exact hi
      have := List.count_eq_zero.1 hc
      rw [Array.getD, dif_pos hi2]
      have h2 : listed[i] ≠ false := fun hb => this (by rw [← hb]; exact Array.mem_toList_iff.2 (Array.getElem_mem hi2))
      exact (Bool.not_eq_false _).mp h2
    refine ⟨?_, fin listed a w hI hno⟩
    apply List.eq_nil_iff_forall_not_mem.2
    intro i hi
    obtain ⟨h0, o, ho, -⟩ := mem_ready.1 hi
    have hi1 := (Array.getElem?_eq_some_iff.1 ho).1
    have hi2 : i < listed.size := by rw [hI.size]; exact hi1
    have h1 := hno i hi1
    rw [Array.getD, dif_pos hi2] at h0 h1
    rw [h0] at h1
    cases h1
  | succ fuel ih =>
    intro listed a w hI hc
    refine ⟨fun h => fin listed a w hI (ready_nil_all hI.size hlex h), fun i hi => ?_⟩
    obtain ⟨h0, o, ho, hpre⟩ := mem_ready.1 hi
    have hi1 := (Array.getElem?_eq_some_iff.1 ho).1
    have hi2 : i < listed.size := by rw [hI.size]; exact hi1
    have hl0 : l0.getD i true = false := by
      rcases hx : l0.getD i true with _ | _
      · rfl
      · by_cases hl : i < l0.size
        · have h2 : l0.getD i false = true := by rw [Array.getD, dif_pos hl] at hx ⊢; exact hx
          have h3 := hI.mono i h2
          rw [Array.getD, dif_pos hi2] at h0 h3
          rw [h0] at h3; cases h3
        · exact absurd hI.l0size (by omega)
    refine wpOp_mono ?_ (step i o ho hl0 listed a w hI hpre)
    rintro a' w' ⟨v, rfl, hI', hS, hkeep⟩
    refine ih _ _ _ ?_ ?_
    · have hset : ∀ k, k ≠ i → (listed.setIfInBounds i true).getD k false = listed.getD k false := fun k hk => by
        simp [Ne.symm hk]
      refine ⟨hI', by simpa using hI.size, ?_, ?_, ?_, ?_, ?_, hI.l0size⟩
      · cases hdst : o.dst <;> simp [Act.put, hI.defers]
      · cases hdst : o.dst <;> simp [Act.put, hI.len]
      · intro t ht
        rw [← hI.old t ht]
        cases hdst : o.dst with
        | none => rfl
        | some d => exact getD_put_other (fun e => ht i o ho hl0 (by rw [hdst, e]))
      · intro j oj d hj hlj hlist hdj
        by_cases hji : j = i
        · subst hji
          obtain rfl : o = oj := Option.some.inj (ho.symm.trans hj)
          rw [hdj, getD_put_same (by rw [hI.len]; exact hin j o d ho hdj)]
          exact hS
        · rw [hset j hji] at hlist
          have hold := hkeep j _ (hI.said j oj d hj hlj hlist hdj)
          cases hdst : o.dst with
          | none => exact hold
          | some d' =>
            have hne : d' ≠ d := fun e => hd i j o oj d' ho hj hl0 hlj (Ne.symm hji) hdst (by rw [hdj, e])
            rw [getD_put_other hne]
            exact hold
      · intro k hk
        by_cases hki : k = i
        · subst hki; simp [hi2]
        · rw [hset k hki]; exact hI.mono k hk
    · rw [Array.toList_setIfInBounds, List.count_set (by simpa using hi2)]
      have hf : listed.toList[i]'(by simpa using hi2) = false := by
        rw [Array.getElem_toList]
        rw [Array.getD, dif_pos hi2] at h0; exact h0
      simp [hf, hc]

/- Closed facts on a region's text, as Bools. -/
def regLexB (ops : Array Oper) : Bool := (List.range ops.size).all fun i => match ops[i]? with | some o => o.after.all fun e => decide (e.on < i) | none => true
def regDstB (ops : Array Oper) : Bool := (List.range ops.size).all fun i => (List.range ops.size).all fun j => i == j || match ops[i]?, ops[j]? with | some oi, some oj => oi.dst == none || oi.dst != oj.dst | _, _ => true
def regInB (ops : Array Oper) (n : Nat) : Bool := (List.range ops.size).all fun i => match ops[i]? with | some o => (match o.dst with | some d => decide (d < n) | none => true) | none => true
def regOldB (ops : Array Oper) (t : Tmp) : Bool := (List.range ops.size).all fun i => match ops[i]? with | some o => o.dst != some t | none => true
theorem regLex_of (h : regLexB ops = true) : ∀ i o, ops[i]? = some o → ∀ e ∈ o.after, Region.binds md e = true → e.on < i := fun i o ho e he _ => by
  have hi := (Array.getElem?_eq_some_iff.1 ho).1
  have := List.all_eq_true.1 h i (List.mem_range.2 hi)
  simp only [ho] at this
  have := Array.all_eq_true_iff_forall_mem.1 this e he
  simpa using this
theorem regDst_of (h : regDstB ops = true) (i j : Nat) (oi oj : Oper) (d : Tmp) (hi : ops[i]? = some oi) (hj : ops[j]? = some oj) (hne : i ≠ j) (hd : oi.dst = some d) : oj.dst ≠ some d := fun e => by
  have h1 := List.all_eq_true.1 h i (List.mem_range.2 (Array.getElem?_eq_some_iff.1 hi).1)
  have h2 := List.all_eq_true.1 h1 j (List.mem_range.2 (Array.getElem?_eq_some_iff.1 hj).1)
  simp [hi, hj, hd, e, hne] at h2
theorem regIn_of {n : Nat} (h : regInB ops n = true) (i : Nat) (o : Oper) (d : Tmp) (hi : ops[i]? = some o) (hd : o.dst = some d) : d < n := by
  have h1 := List.all_eq_true.1 h i (List.mem_range.2 (Array.getElem?_eq_some_iff.1 hi).1)
  simp only [hi, hd] at h1
  simpa using h1
theorem regOld_of {t : Tmp} (h : regOldB ops t = true) (i : Nat) (o : Oper) (hi : ops[i]? = some o) : o.dst ≠ some t := fun e => by
  have h1 := List.all_eq_true.1 h i (List.mem_range.2 (Array.getElem?_eq_some_iff.1 hi).1)
  simp [hi, e] at h1

/-- The region's law, all orders at once. -/
theorem wp_region_inv {id : Nat} (I : World → Prop) (Sp : Nat → Value → World → Prop) {a0 : Act} {w : World} (hm : P.follows .mixedOrders = true)
    (hlex : regLexB ops = true) (hdst : regDstB ops = true) (hin : regInB ops a0.tmps.size = true) (hI : I { w with drawn := w.drawn + 1 })
    (step : ∀ (i : Nat) (o : Oper), ops[i]? = some o → ∀ listed a w', RegInv ops I Sp a0 (Array.replicate ops.size false) listed a w' → (∀ e ∈ o.after, Region.binds .any e = true → listed.getD e.on false = true) →
      wpOp P ops Q i (fun a' w'' => ∃ v, a' = a.put o.dst v ∧ I w'' ∧ Sp i v w'' ∧ ∀ j u, Sp j u w' → Sp j u w'') a w')
    (fin : ∀ listed a w', RegInv ops I Sp a0 (Array.replicate ops.size false) listed a w' → (∀ i, i < ops.size → listed.getD i false = true) → Q .normal a w') :
    (Code.region id ops true).wp P Q a0 w := by
  refine wp_region_any hm (wpAny_inv I Sp a0 (Array.replicate ops.size false) (regLex_of hlex) (fun i j oi oj d hi hj _ _ hne hd => regDst_of hdst i j oi oj d hi hj hne hd) (fun i o d hi hd => regIn_of hin i o d hi hd)
    (fun i o ho _ listed a w' hI' hp => step i o ho listed a w' hI' hp) fin _ _ _ _ ?_ (by simp))
  exact ⟨hI, by simp, rfl, rfl, fun _ _ => rfl, fun i o d ho _ hl _ => by
    simp only [Array.getD_eq_getD_getElem?, Array.getElem?_replicate] at hl
    split at hl <;> simp at hl, fun i h => h, by simp⟩

/-- What an operation's own slot holds once it has come up. -/
theorem RegInv.slot {I : World → Prop} {Sp : Nat → Value → World → Prop} {a0 a : Act} {listed : Array Bool} {w : World} (h : RegInv ops I Sp a0 (Array.replicate ops.size false) listed a w) (i : Nat) {o : Oper} (d : Tmp) (ho : ops[i]? = some o)
    (hl : listed.getD i false = true) (hd : o.dst = some d) : Sp i (a.eval (.tmp d)) w :=
  h.said i o d ho (by
    have hi := (Array.getElem?_eq_some_iff.1 ho).1
    simp [Array.getD_eq_getD_getElem?, hi]) hl hd
theorem RegInv.kept {I : World → Prop} {Sp : Nat → Value → World → Prop} {a0 a : Act} {l0 listed : Array Bool} {w : World} (h : RegInv ops I Sp a0 l0 listed a w) {t : Tmp} (ht : regOldB ops t = true) : a.eval (.tmp t) = a0.tmps.getD t undef :=
  h.old t (fun i o hi _ => regOld_of ht i o hi)

theorem wpOp_value {i : Nat} {o : Oper} {a : Act} {w w' : World} {v : Value} {K : Act → World → Prop} (ho : ops[i]? = some o) (hg : o.guard = none) (hrun : (execOp a.eval o).run P w = .ok (.value v) w') (hK : K (a.put o.dst v) w') : wpOp P ops Q i K a w := by
  unfold wpOp
  simp only [ho]
  rw [if_pos (by simp [Region.wanted, hg])]
  left
  unfold Oper.wp
  rw [hrun]
  exact hK
theorem wpOp_skip {i : Nat} {o : Oper} {a : Act} {w w' : World} {K : Act → World → Prop} (ho : ops[i]? = some o) (hg : o.guard = none) (hrun : (execOp a.eval o).run P w = .ok .skip w') (hK : K (a.put o.dst undef) w') : wpOp P ops Q i K a w := by
  unfold wpOp
  simp only [ho]
  rw [if_pos (by simp [Region.wanted, hg])]
  left
  unfold Oper.wp
  rw [hrun]
  exact hK
theorem wpOp_enter {i : Nat} {o : Oper} {a : Act} {w : World} {f : FuncId} {args : Array Value} {K : Act → World → Prop} (ho : ops[i]? = some o) (hw : Region.wanted o (yielded ops a.tmps) = true) (hrun : (execOp a.eval o).run P w = .ok (.enter f args) w)
    (hC : Calls P f args w fun e w' => ∃ v, e = .returned v ∧ K (a.put o.dst v) w') : wpOp P ops Q i K a w := by
  unfold wpOp
  simp only [ho]
  rw [if_pos hw]
  left
  unfold Oper.wp
  rw [hrun]
  refine hC.mono ?_
  rintro e w' ⟨v, rfl, h⟩
  exact h
end
end Go.Proofs.YtjpjijjnkjomnaaDoor

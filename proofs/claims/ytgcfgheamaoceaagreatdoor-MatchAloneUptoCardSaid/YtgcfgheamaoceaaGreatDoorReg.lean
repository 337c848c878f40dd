/- A statement whose order Go leaves open: one look at each operation serves every order. What is known of the world may hang on which operations have come up ('I listed'); an operation that has not come up tells that those that wait for it have not. Of no program. -/
import Derived.Orders
import Derived.OrdersHeld
import Derived.Below
namespace Go.Proofs.YtgcfgheamaoceaaGreatDoor

section
variable {P : Program} {ops : Array Oper} {Q : Exit → Act → World → Prop}

/-- What is known when the operations in 'listed' have come up. -/
structure RegL (ops : Array Oper) (I : Array Bool → World → Prop) (Sp : Nat → Value → World → Prop) (a0 : Act) (listed : Array Bool) (a : Act) (w : World) : Prop where
  inv : I listed w
  size : listed.size = ops.size
  defers : a.defers = a0.defers
  len : a.tmps.size = a0.tmps.size
  old : ∀ t, (∀ (i : Nat) (o : Oper), ops[i]? = some o → o.dst ≠ some t) → a.tmps.getD t undef = a0.tmps.getD t undef
  said : ∀ (i : Nat) (o : Oper) (d : Tmp), ops[i]? = some o → listed.getD i false = true → o.dst = some d → Sp i (a.tmps.getD d undef) w
  closed : ∀ (i : Nat) (o : Oper), ops[i]? = some o → listed.getD i false = true → ∀ e ∈ o.after, Region.binds .any e = true → listed.getD e.on false = true

theorem getD_putL_same {a : Act} {d : Tmp} {v : Value} (h : d < a.tmps.size) : (a.put (some d) v).tmps.getD d undef = v := by
  simp [Act.put, h]
theorem getD_putL_other {a : Act} {d t : Tmp} {v : Value} (h : d ≠ t) : (a.put (some d) v).tmps.getD t undef = a.tmps.getD t undef := by
  simp [Act.put, h]

theorem readyL_nil_all {listed : Array Bool} (hsz : listed.size = ops.size) (hlex : ∀ i o, ops[i]? = some o → ∀ e ∈ o.after, Region.binds .any e = true → e.on < i) (h : Region.ready .any ops listed = []) :
    ∀ i, i < ops.size → listed.getD i false = true := by
  intro i
  induction i using Nat.strongRecOn with
  | _ i ih =>
    intro hi
    cases hb : listed.getD i false with
    | true => rfl
    | false =>
      have hb2 : listed.getD i true = false := by
        rw [Array.getD, dif_pos (by omega)] at hb ⊢; exact hb
      have ho : ops[i]? = some ops[i] := Array.getElem?_eq_getElem hi
      have : i ∈ Region.ready .any ops listed := mem_ready.2 ⟨hb2, ops[i], ho, fun e he hbd => by
        have hlt := hlex i _ ho e he hbd
        exact ih e.on hlt (by omega)⟩
      rw [h] at this
      cases this

theorem wpAny_l (I : Array Bool → World → Prop) (Sp : Nat → Value → World → Prop) (a0 : Act)
    (hlex : ∀ i o, ops[i]? = some o → ∀ e ∈ o.after, Region.binds .any e = true → e.on < i)
    (hd : ∀ (i j : Nat) (oi oj : Oper) (d : Tmp), ops[i]? = some oi → ops[j]? = some oj → i ≠ j → oi.dst = some d → oj.dst ≠ some d)
    (hin : ∀ (i : Nat) (o : Oper) (d : Tmp), ops[i]? = some o → o.dst = some d → d < a0.tmps.size)
    (step : ∀ (i : Nat) (o : Oper), ops[i]? = some o → ∀ listed a w, RegL ops I Sp a0 listed a w → listed.getD i false = false → (∀ e ∈ o.after, Region.binds .any e = true → listed.getD e.on false = true) →
      wpOp P ops Q i (fun a' w' => ∃ v, a' = a.put o.dst v ∧ I (listed.setIfInBounds i true) w' ∧ (o.dst.isSome = true → Sp i v w') ∧ ∀ j u, listed.getD j false = true → Sp j u w → Sp j u w') a w)
    (fin : ∀ listed a w, RegL ops I Sp a0 listed a w → (∀ i, i < ops.size → listed.getD i false = true) → Q .normal a w) :
    ∀ (fuel : Nat) (listed : Array Bool) (a : Act) (w : World), RegL ops I Sp a0 listed a w → listed.toList.count false = fuel → wpAny P .any ops Q fuel listed a w := by
  intro fuel
  induction fuel with
  | zero =>
    intro listed a w hI hc
    have hno : ∀ i, i < ops.size → listed.getD i false = true := by
      intro i hi
      have hi2 : i < listed.size := by rw [hI.size]; exact hi
      have := List.count_eq_zero.1 hc
      rw [Array.getD, dif_pos hi2]
      have h2 : listed[i] ≠ false := fun hb => this (by rw [← hb]; exact Array.mem_toList_iff.2 (Array.getElem_mem hi2))
      exact (Bool.not_eq_false _).mp h2
    refine ⟨?_, fin listed a w hI hno⟩
    apply List.eq_nil_iff_forall_not_mem.2
    intro i hi
    obtain ⟨h0, o, ho, -⟩ := mem_ready.1 hi
    have hi1 := (Array.getElem?_eq_some_iff.1 ho).1
    have hi2 : i < listed.size := by rw [hI.size]; exact hi1
    have h1 := hno i hi1
    rw [Array.getD, dif_pos hi2] at h0 h1
    rw [h0] at h1
    cases h1
  | succ fuel ih =>
    intro listed a w hI hc
    refine ⟨fun h => fin listed a w hI (readyL_nil_all hI.size hlex h), fun i hi => ?_⟩
    obtain ⟨h0, o, ho, hpre⟩ := mem_ready.1 hi
    have hi1 := (Array.getElem?_eq_some_iff.1 ho).1
    have hi2 : i < listed.size := by rw [hI.size]; exact hi1
    have h0' : listed.getD i false = false := by
      rw [Array.getD, dif_pos hi2] at h0 ⊢; exact h0
    refine wpOp_mono ?_ (step i o ho listed a w hI h0' hpre)
    rintro a' w' ⟨v, rfl, hI', hS, hkeep⟩
    have hset : ∀ k, k ≠ i → (listed.setIfInBounds i true).getD k false = listed.getD k false := fun k hk => by
      simp [Ne.symm hk]
    have hseti : (listed.setIfInBounds i true).getD i false = true := by simp [hi2]
    have hup : ∀ k, listed.getD k false = true → (listed.setIfInBounds i true).getD k false = true := fun k hk => by
      by_cases hki : k = i
      · rw [hki]; exact hseti
      · rw [hset k hki]; exact hk
    refine ih _ _ _ ?_ ?_
    · refine ⟨hI', by simpa using hI.size, ?_, ?_, ?_, ?_, ?_⟩
      · cases hdst : o.dst <;> simp [Act.put, hI.defers]
      · cases hdst : o.dst <;> simp [Act.put, hI.len]
      · intro t ht
        rw [← hI.old t ht]
        cases hdst : o.dst with
        | none => rfl
        | some d => exact getD_putL_other (fun e => ht i o ho (by rw [hdst, e]))
      · intro j oj d hj hlist hdj
        by_cases hji : j = i
        · subst hji
          obtain rfl : o = oj := Option.some.inj (ho.symm.trans hj)
          rw [hdj, getD_putL_same (by rw [hI.len]; exact hin j o d ho hdj)]
          exact hS (by rw [hdj]; rfl)
        · rw [hset j hji] at hlist
          have hold := hkeep j _ hlist (hI.said j oj d hj hlist hdj)
          cases hdst : o.dst with
          | none => exact hold
          | some d' =>
            have hne : d' ≠ d := fun e => hd i j o oj d' ho hj (Ne.symm hji) hdst (by rw [hdj, e])
            rw [getD_putL_other hne]
            exact hold
      · intro k ok hk hlk e he hb
        by_cases hki : k = i
        · subst hki
          obtain rfl : o = ok := Option.some.inj (ho.symm.trans hk)
          exact hup _ (hpre e he hb)
        · rw [hset k hki] at hlk
          exact hup _ (hI.closed k ok hk hlk e he hb)
    · rw [Array.toList_setIfInBounds, List.count_set (by simpa using hi2)]
      have hf : listed.toList[i]'(by simpa using hi2) = false := by
        rw [Array.getElem_toList]
        rw [Array.getD, dif_pos hi2] at h0; exact h0
      simp [hf, hc]

/- Closed facts on a region's text, as Bools. -/
def lexB (ops : Array Oper) : Bool := (List.range ops.size).all fun i => match ops[i]? with | some o => o.after.all fun e => decide (e.on < i) | none => true
def dstB (ops : Array Oper) : Bool := (List.range ops.size).all fun i => (List.range ops.size).all fun j => i == j || match ops[i]?, ops[j]? with | some oi, some oj => oi.dst == none || oi.dst != oj.dst | _, _ => true
def inB (ops : Array Oper) (n : Nat) : Bool := (List.range ops.size).all fun i => match ops[i]? with | some o => (match o.dst with | some d => decide (d < n) | none => true) | none => true
def oldB (ops : Array Oper) (t : Tmp) : Bool := (List.range ops.size).all fun i => match ops[i]? with | some o => o.dst != some t | none => true
/-- Operation j waits for operation i. -/
def waitsB (ops : Array Oper) (i j : Nat) : Bool := match ops[j]? with | some o => o.after.any fun e => e.on == i && Region.binds .any e | none => false
theorem lex_of (h : lexB ops = true) : ∀ i o, ops[i]? = some o → ∀ e ∈ o.after, Region.binds .any e = true → e.on < i := fun i o ho e he _ => by
  have hi := (Array.getElem?_eq_some_iff.1 ho).1
  have := List.all_eq_true.1 h i (List.mem_range.2 hi)
  simp only [ho] at this
  have := Array.all_eq_true_iff_forall_mem.1 this e he
  simpa using this
theorem dst_of (h : dstB ops = true) (i j : Nat) (oi oj : Oper) (d : Tmp) (hi : ops[i]? = some oi) (hj : ops[j]? = some oj) (hne : i ≠ j) (hd : oi.dst = some d) : oj.dst ≠ some d := fun e => by
  have h1 := List.all_eq_true.1 h i (List.mem_range.2 (Array.getElem?_eq_some_iff.1 hi).1)
  have h2 := List.all_eq_true.1 h1 j (List.mem_range.2 (Array.getElem?_eq_some_iff.1 hj).1)
  simp [hi, hj, hd, e, hne] at h2
theorem in_of {n : Nat} (h : inB ops n = true) (i : Nat) (o : Oper) (d : Tmp) (hi : ops[i]? = some o) (hd : o.dst = some d) : d < n := by
  have h1 := List.all_eq_true.1 h i (List.mem_range.2 (Array.getElem?_eq_some_iff.1 hi).1)
  simp only [hi, hd] at h1
  simpa using h1
theorem old_of {t : Tmp} (h : oldB ops t = true) (i : Nat) (o : Oper) (hi : ops[i]? = some o) : o.dst ≠ some t := fun e => by
  have h1 := List.all_eq_true.1 h i (List.mem_range.2 (Array.getElem?_eq_some_iff.1 hi).1)
  simp [hi, e] at h1

/-- The region's law, all orders at once. -/
theorem wp_region_l {id : Nat} (I : Array Bool → World → Prop) (Sp : Nat → Value → World → Prop) {a0 : Act} {w : World} (hm : P.follows .mixedOrders = true)
    (hlex : lexB ops = true) (hdst : dstB ops = true) (hin : inB ops a0.tmps.size = true) (hI : I (Array.replicate ops.size false) w.drew)
    (step : ∀ (i : Nat) (o : Oper), ops[i]? = some o → ∀ listed a w', RegL ops I Sp a0 listed a w' → listed.getD i false = false → (∀ e ∈ o.after, Region.binds .any e = true → listed.getD e.on false = true) →
      wpOp P ops Q i (fun a' w'' => ∃ v, a' = a.put o.dst v ∧ I (listed.setIfInBounds i true) w'' ∧ (o.dst.isSome = true → Sp i v w'') ∧ ∀ j u, listed.getD j false = true → Sp j u w' → Sp j u w'') a w')
    (fin : ∀ listed a w', RegL ops I Sp a0 listed a w' → (∀ i, i < ops.size → listed.getD i false = true) → Q .normal a w') :
    (Code.region id ops true).wp P Q a0 w := by
  have hno : ∀ i, (Array.replicate ops.size false).getD i false = false := fun i => by
    simp only [Array.getD_eq_getD_getElem?, Array.getElem?_replicate]
    split <;> rfl
  refine wp_region_any hm (wpAny_l I Sp a0 (lex_of hlex) (fun i j oi oj d hi hj hne hd => dst_of hdst i j oi oj d hi hj hne hd) (fun i o d hi hd => in_of hin i o d hi hd) step fin _ _ _ _ ?_ (by simp))
  refine ⟨hI, by simp, rfl, rfl, fun _ _ => rfl, ?_, ?_⟩
  · intro i o d _ hl _
    rw [hno i] at hl; cases hl
  · intro i o _ hl
    rw [hno i] at hl; cases hl

section
variable {I : Array Bool → World → Prop} {Sp : Nat → Value → World → Prop} {a0 a : Act} {listed : Array Bool} {w : World}
/-- What an operation's own slot holds once it has come up. -/
theorem RegL.slot (h : RegL ops I Sp a0 listed a w) (i : Nat) {o : Oper} (d : Tmp) (ho : ops[i]? = some o) (hl : listed.getD i false = true) (hd : o.dst = some d) : Sp i (a.eval (.tmp d)) w := h.said i o d ho hl hd
theorem RegL.kept (h : RegL ops I Sp a0 listed a w) {t : Tmp} (ht : oldB ops t = true) : a.eval (.tmp t) = a0.tmps.getD t undef := h.old t (fun i o hi => old_of ht i o hi)
/-- An operation has not come up: one that waits for it has not. -/
theorem RegL.notyet (h : RegL ops I Sp a0 listed a w) {i : Nat} (hi : listed.getD i false = false) (j : Nat) (hw : waitsB ops i j = true) : listed.getD j false = false := by
  cases hj : listed.getD j false with
  | false => rfl
  | true =>
    unfold waitsB at hw
    split at hw
    · rename_i o ho
      rw [← Array.any_toList, List.any_eq_true] at hw
      obtain ⟨e, he, hb⟩ := hw
      rw [Array.mem_toList_iff] at he
      simp only [Bool.and_eq_true, beq_iff_eq] at hb
      have := h.closed j o ho hj e he hb.2
      rw [hb.1, hi] at this; cases this
    · cases hw
end
theorem listed_other {listed : Array Bool} {i j : Nat} (h : j ≠ i) : (listed.setIfInBounds i true).getD j false = listed.getD j false := by
  simp [Ne.symm h]
theorem listed_same {listed : Array Bool} {i : Nat} (h : i < listed.size) : (listed.setIfInBounds i true).getD i false = true := by
  simp [h]

theorem wpOp_val {i : Nat} {o : Oper} {a : Act} {w w' : World} {v : Value} {K : Act → World → Prop} (ho : ops[i]? = some o) (hg : Region.wanted o (yielded ops a.tmps) = true) (hrun : (execOp a.eval o).run P w = .ok (.value v) w') (hK : K (a.put o.dst v) w') : wpOp P ops Q i K a w := by
  unfold wpOp
  simp only [ho]
  rw [if_pos hg]
  left
  unfold Oper.wp
  rw [hrun]
  exact hK
theorem wpOp_unit {i : Nat} {o : Oper} {a : Act} {w w' : World} {K : Act → World → Prop} (ho : ops[i]? = some o) (hg : Region.wanted o (yielded ops a.tmps) = true) (hrun : (execOp a.eval o).run P w = .ok .skip w') (hK : K (a.put o.dst undef) w') : wpOp P ops Q i K a w := by
  unfold wpOp
  simp only [ho]
  rw [if_pos hg]
  left
  unfold Oper.wp
  rw [hrun]
  exact hK
theorem wpOp_call {i : Nat} {o : Oper} {a : Act} {w : World} {f : FuncId} {args : Array Value} {K : Act → World → Prop} (ho : ops[i]? = some o) (hw : Region.wanted o (yielded ops a.tmps) = true) (hrun : (execOp a.eval o).run P w = .ok (.enter f args) w)
    (hC : Calls P f args w fun e w' => ∃ v, e = .returned v ∧ K (a.put o.dst v) w') : wpOp P ops Q i K a w := by
  unfold wpOp
  simp only [ho]
  rw [if_pos hw]
  left
  unfold Oper.wp
  rw [hrun]
  refine hC.mono ?_
  rintro e w' ⟨v, rfl, h⟩
  exact h

section
variable {i : Nat} {o : Oper} {a : Act} {w w' : World} {v : Value} {K : Act → World → Prop}
theorem wpOp_look {T : TypeId} {m x : Operand} {c : Bool} {vm vx : Value} (ho : ops[i]? = some o) (hg : Region.wanted o (yielded ops a.tmps) = true) (hop : o.op = .lookup T m x c) (hm : a.eval m = vm) (hx : a.eval x = vx) (hrun : (Instr.lookup T vm vx c).run P w = .ok v w') (hK : K (a.put o.dst v) w') : wpOp P ops Q i K a w :=
  wpOp_val ho hg (by simp only [execOp, hop, hm, hx, hrun, Sem.run_bind, Sem.run_pure, Result.andThen_ok]) hK
theorem wpOp_load {T : TypeId} {x : Operand} {vx : Value} (ho : ops[i]? = some o) (hg : Region.wanted o (yielded ops a.tmps) = true) (hop : o.op = .load T x) (hx : a.eval x = vx) (hrun : (Instr.loadAt T vx).run P w = .ok v w') (hK : K (a.put o.dst v) w') : wpOp P ops Q i K a w :=
  wpOp_val ho hg (by simp only [execOp, hop, hx, hrun, Sem.run_bind, Sem.run_pure, Result.andThen_ok]) hK
theorem wpOp_store {T : TypeId} {x y : Operand} {vx vy : Value} (ho : ops[i]? = some o) (hg : Region.wanted o (yielded ops a.tmps) = true) (hop : o.op = .store T x y) (hx : a.eval x = vx) (hy : a.eval y = vy) (hrun : (Instr.storeAt T vx vy).run P w = .ok () w') (hK : K (a.put o.dst undef) w') : wpOp P ops Q i K a w :=
  wpOp_unit ho hg (by simp only [execOp, hop, hx, hy, hrun, Sem.run_bind, Sem.run_pure, Result.andThen_ok]) hK
theorem wpOp_alloc {T : TypeId} (ho : ops[i]? = some o) (hg : Region.wanted o (yielded ops a.tmps) = true) (hop : o.op = .alloc T) (hrun : (Instr.alloc T true (.tuple #[])).run P w = .ok v w') (hK : K (a.put o.dst v) w') : wpOp P ops Q i K a w :=
  wpOp_val ho hg (by simp only [execOp, hop, hrun, Sem.run_bind, Sem.run_pure, Result.andThen_ok]) hK
theorem wpOp_build {T : TypeId} {parts : Array (Nat × Operand)} {vs : Array (Nat × Value)} (ho : ops[i]? = some o) (hg : Region.wanted o (yielded ops a.tmps) = true) (hop : o.op = .build T parts) (hv : (parts.map fun (j, x) => (j, a.eval x)) = vs) (hrun : (Instr.build T vs).run P w = .ok v w') (hK : K (a.put o.dst v) w') : wpOp P ops Q i K a w :=
  wpOp_val ho hg (by simp only [execOp, hop, hv, hrun, Sem.run_bind, Sem.run_pure, Result.andThen_ok]) hK
theorem wpOp_buildSlice {T : TypeId} {n : Nat} {parts : Array (Nat × Operand)} {vs : Array (Nat × Value)} (ho : ops[i]? = some o) (hg : Region.wanted o (yielded ops a.tmps) = true) (hop : o.op = .buildSlice T n parts) (hv : (parts.map fun (j, x) => (j, a.eval x)) = vs) (hrun : (Instr.buildSlice T n vs).run P w = .ok v w') (hK : K (a.put o.dst v) w') : wpOp P ops Q i K a w :=
  wpOp_val ho hg (by simp only [execOp, hop, hv, hrun, Sem.run_bind, Sem.run_pure, Result.andThen_ok]) hK
theorem wpOp_update {T : TypeId} {m x y : Operand} {vm vx vy : Value} (ho : ops[i]? = some o) (hg : Region.wanted o (yielded ops a.tmps) = true) (hop : o.op = .mapUpdate T m x y) (hm : a.eval m = vm) (hx : a.eval x = vx) (hy : a.eval y = vy) (hrun : (Instr.mapUpdate T vm vx vy).run P w = .ok () w') (hK : K (a.put o.dst undef) w') : wpOp P ops Q i K a w :=
  wpOp_unit ho hg (by simp only [execOp, hop, hm, hx, hy, hrun, Sem.run_bind, Sem.run_pure, Result.andThen_ok]) hK
theorem wpOp_move {x : Operand} (ho : ops[i]? = some o) (hg : Region.wanted o (yielded ops a.tmps) = true) (hop : o.op = .move x ∨ o.op = .assign x) (hx : a.eval x = v) (hK : K (a.put o.dst v) w) : wpOp P ops Q i K a w :=
  wpOp_val (w' := w) ho hg (by rcases hop with hop | hop <;> simp only [execOp, hop, hx, Sem.run_pure]) hK
theorem wpOp_nilCheck {x : Operand} {ad : Addr} (ho : ops[i]? = some o) (hg : Region.wanted o (yielded ops a.tmps) = true) (hop : o.op = .nilCheck x) (hx : a.eval x = .pointer (some ad)) (hK : K (a.put o.dst (.pointer (some ad))) w) : wpOp P ops Q i K a w :=
  wpOp_val (v := .pointer (some ad)) (w' := w) ho hg (by simp only [execOp, hop, hx, Sem.run_pure]) hK
theorem wpOp_field {T : TypeId} {x : Operand} {f : Nat} {vx : Value} (ho : ops[i]? = some o) (hg : Region.wanted o (yielded ops a.tmps) = true) (hop : o.op = .fieldAddr T x f) (hx : a.eval x = vx) (hrun : (Instr.fieldAt T vx f).run P w = .ok v w') (hK : K (a.put o.dst v) w') : wpOp P ops Q i K a w :=
  wpOp_val ho hg (by simp only [execOp, hop, hx, hrun, Sem.run_bind, Sem.run_pure, Result.andThen_ok]) hK
theorem wpOp_index {T : TypeId} {x y : Operand} {vx vy : Value} (ho : ops[i]? = some o) (hg : Region.wanted o (yielded ops a.tmps) = true) (hop : o.op = .indexAddr T x y) (hx : a.eval x = vx) (hy : a.eval y = vy) (hrun : (Instr.indexAt T vx vy).run P w = .ok v w') (hK : K (a.put o.dst v) w') : wpOp P ops Q i K a w :=
  wpOp_val ho hg (by simp only [execOp, hop, hx, hy, hrun, Sem.run_bind, Sem.run_pure, Result.andThen_ok]) hK
theorem wpOp_slice {T : TypeId} {x : Operand} {lo hi mx : Option Operand} {vx : Value} {vlo vhi vmx : Option Value} (ho : ops[i]? = some o) (hg : Region.wanted o (yielded ops a.tmps) = true) (hop : o.op = .slice T x lo hi mx) (hx : a.eval x = vx) (h1 : lo.map a.eval = vlo) (h2 : hi.map a.eval = vhi) (h3 : mx.map a.eval = vmx)
    (hrun : (Instr.sliceAt T vx vlo vhi vmx).run P w = .ok v w') (hK : K (a.put o.dst v) w') : wpOp P ops Q i K a w :=
  wpOp_val ho hg (by simp only [execOp, hop, hx, h1, h2, h3, hrun, Sem.run_bind, Sem.run_pure, Result.andThen_ok]) hK
theorem wpOp_toArray {T : TypeId} {x : Operand} {vx : Value} (ho : ops[i]? = some o) (hg : Region.wanted o (yielded ops a.tmps) = true) (hop : o.op = .sliceToArrayPointer T x) (hx : a.eval x = vx) (hrun : (Instr.arrayAt T vx).run P w = .ok v w') (hK : K (a.put o.dst v) w') : wpOp P ops Q i K a w :=
  wpOp_val ho hg (by simp only [execOp, hop, hx, hrun, Sem.run_bind, Sem.run_pure, Result.andThen_ok]) hK
theorem wpOp_append {x y : Operand} {ts : Array TypeId} {vx vy : Value} (ho : ops[i]? = some o) (hg : Region.wanted o (yielded ops a.tmps) = true) (hop : o.op = .call { callee := .builtin .append, args := #[x, y], argTypes := ts }) (hx : a.eval x = vx) (hy : a.eval y = vy)
    (hrun : (Builtin.append_ ts o.type #[vx, vy]).run P w = .ok v w') (hK : K (a.put o.dst v) w') : wpOp P ops Q i K a w :=
  wpOp_val (v := v) (w' := w') ho hg (by simp [execOp, hop, resolve, invoke, Go.builtin, hx, hy, hrun, Result.andThen]) hK
theorem wpOp_copy {x y : Operand} {ts : Array TypeId} {vx vy : Value} (ho : ops[i]? = some o) (hg : Region.wanted o (yielded ops a.tmps) = true) (hop : o.op = .call { callee := .builtin .copy, args := #[x, y], argTypes := ts }) (hx : a.eval x = vx) (hy : a.eval y = vy)
    (hrun : (Builtin.copy_ ts o.type #[vx, vy]).run P w = .ok v w') (hK : K (a.put o.dst v) w') : wpOp P ops Q i K a w :=
  wpOp_val (v := v) (w' := w') ho hg (by simp [execOp, hop, resolve, invoke, Go.builtin, hx, hy, hrun, Result.andThen]) hK
/-- A call of a Go function by its number. -/
theorem wpOp_callFn {f : FuncId} {args : Array Operand} {ts : Array TypeId} {vs : Array Value} (ho : ops[i]? = some o) (hg : Region.wanted o (yielded ops a.tmps) = true) (hop : o.op = .call { callee := .value (.func f), args := args, argTypes := ts }) (hv : args.map a.eval = vs)
    (hen : ∀ args w, (callFunc f args).run P w = .ok (.enter f args) w) (hC : Calls P f vs w fun e w' => ∃ v, e = .returned v ∧ K (a.put o.dst v) w') : wpOp P ops Q i K a w :=
  wpOp_call ho hg (by simp [execOp, hop, resolve, invoke, Deferred.ofValue, hv, hen, Act.eval]) hC
end
end
end Go.Proofs.YtgcfgheamaoceaaGreatDoor

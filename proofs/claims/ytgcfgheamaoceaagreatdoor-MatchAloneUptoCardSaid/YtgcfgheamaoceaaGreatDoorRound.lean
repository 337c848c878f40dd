/- A loop over an iterator that reads memory of its own making: what it hands over is told of the world at each call of the round. And: a statement in a round does what it does anywhere. Of no program. -/
import Derived.RangeFuncNested
import Derived.RangeFuncBound
import Derived.RangeFuncCalls
import Derived.RangeFuncLeaves
import Derived.Shelf.Abstract
import Derived.Shelf.RegionOpen
import Derived.WalkKit
import Derived.OwnWalkIn
import Derived.TacticsInMore
import Derived.LoopNIn
import Derived.LoopIn
import Derived.Test.YtgcfgheamaoceaaGreatDoorReg
namespace Go.Proofs.YtgcfgheamaoceaaGreatDoor
open Go.RowKit

section
variable {P : Program} {ops : Array Oper} {Q : Exit → Act → World → Prop}
/-- The fence that asks nothing, in a round of loop l. -/
abbrev rnd (l : Nat) : Fence := Fence.wide.inRound l

def noDeferB (ops : Array Oper) : Bool := ops.toList.all fun o => match o.op with | .defer _ => false | _ => true
theorem noDefer_of (h : noDeferB ops = true) {i : Nat} {o : Oper} (ho : ops[i]? = some o) : ∀ c, o.op ≠ .defer c := fun c e => by
  have h1 := List.all_eq_true.1 h o (by rw [Array.mem_toList_iff]; exact Array.mem_of_getElem? ho)
  simp only [e] at h1
  cases h1
theorem oper_round {l n : Nat} {o : Oper} (hd : ∀ c, o.op ≠ .defer c) {a : Act} {w : World} {K : Act → World → Prop} (h : o.wp P a w K Q) : o.wpIn (rnd l) n P a w K Q := by
  refine ⟨fun _ _ => trivial, ?_⟩
  show o.uponIn (rnd l) n P a K Q ((o.semAt (some l) a.eval).run P w)
  rw [Oper.semAt_some l _ _ hd]
  unfold Oper.wp at h
  generalize (execOp a.eval o).run P w = r at h ⊢
  cases r with
  | ok x w' =>
    cases x <;> simp only [Oper.upon, Oper.uponIn] at h ⊢ <;>
      first
        | exact h
        | exact ⟨fun hx => (by cases hx), CallsIn.inRound l (CallsIn.mono ((callsIn_wide (n := n - 1)).2 h) (fun e w'' he => by cases e <;> exact he))⟩
        | exact ⟨fun hx => (by cases hx), fun c cs _ => (h c cs).elim fun v hv => hv.elim fun w'' hw => ⟨v, w'', hw.1, stepsIn_wide.2 hw.2⟩⟩
        | exact False.elim h
  | halt x w' => cases x <;> simp only [Oper.upon, Oper.uponIn] at h ⊢ <;> exact h
theorem wpOp_round {l n : Nat} (hL : ¬LetsOut Q) (hd : noDeferB ops = true) {i : Nat} {a : Act} {w : World} {K K' : Act → World → Prop} (hk : ∀ a w, K a w → K' a w) (h : wpOp P ops Q i K a w) : wpOpIn (rnd l) n P ops Q i K' a w := by
  unfold wpOp at h
  unfold wpOpIn
  cases ho : ops[i]? with
  | none => simp only [ho] at h; exact hk _ _ h
  | some o =>
    simp only [ho] at h ⊢
    by_cases hw : Region.wanted o (yielded ops a.tmps) = true
    · rw [if_pos hw] at h ⊢
      rcases h with h | h
      · exact Oper.wpIn_mono hk (oper_round (noDefer_of hd ho) h)
      · exact absurd h.2 hL
    · rw [if_neg hw] at h ⊢
      exact ⟨fun _ _ => trivial, hk _ _ h⟩
theorem wpOps_round {l n : Nat} (hL : ¬LetsOut Q) (hd : noDeferB ops = true) : ∀ (is : List Nat) (a : Act) (w : World), wpOps P ops Q is a w → wpOpsIn (rnd l) n P ops Q is a w
  | [], _, _, h => h
  | i :: rest, a, w, h => by
    rw [wpOpsIn_cons]
    rw [wpOps_cons] at h
    exact wpOp_round hL hd (fun a w => wpOps_round hL hd rest a w) h
/-- One operation by a law of the walk at no fence. -/
theorem wpListIn_one {F : Fence} {n : Nat} (hF : F = Fence.wide ∨ ∃ l, F = rnd l) {o : Oper} {rest : List Oper} {a : Act} {w : World} (hg : o.guard = none) (hnd : (match o.op with | .defer _ => false | _ => true) = true)
    (h : wpList P ops (fun e a' w' => e = .normal ∧ wpListIn F n P ops Q rest a' w') [o] a w) : wpListIn F n P ops Q (o :: rest) a w := by
  have hd : ∀ c, o.op ≠ .defer c := fun c e => by rw [e] at hnd; cases hnd
  refine wpListIn_plain hg fun K hK => ?_
  unfold wpList at h
  rw [if_pos (by simp only [Region.wanted, hg])] at h
  rcases h with h | ⟨-, ⟨_, _, h, -⟩⟩
  · have hfn : ∀ f, F.fn f := by rcases hF with rfl | ⟨l, rfl⟩ <;> exact fun _ => trivial
    have hdep : F.depth.isSome = false := by rcases hF with rfl | ⟨l, rfl⟩ <;> rfl
    have hcall : ∀ {f args w R}, Calls P f args w R → CallsIn F (n - 1) P f args w R := by
      intro f args w R hc
      rcases hF with rfl | ⟨l, rfl⟩
      · exact callsIn_wide.2 hc
      · exact CallsIn.inRound l (callsIn_wide.2 hc)
    have hrow : ∀ {f args w R}, Rows P f args w R → RowsIn F (n - 1) P f args w R := by
      intro f args w R hc c cs _
      obtain ⟨v, w', r, s⟩ := hc c cs
      refine ⟨v, w', r, ?_⟩
      rcases hF with rfl | ⟨l, rfl⟩
      · exact stepsIn_wide.2 s
      · exact stepsIn_wide.2 s
    refine ⟨fun _ _ => hfn _, ?_⟩
    rw [Oper.semAt_plain F _ _ hd]
    unfold Oper.wp at h
    generalize (execOp a.eval o).run P w = r at h ⊢
    cases r with
    | ok x w' =>
      cases x <;> simp only [Oper.upon, Oper.uponIn] at h ⊢ <;>
        first
          | exact hK _ _ h.2
          | exact ⟨fun hx => (by rw [hdep] at hx; cases hx), CallsIn.mono (hcall h) (fun e w'' he => by
              cases e with
              | returned v => exact hK _ _ he.2
              | panicked c => exact absurd he.1 (by simp)
              | outgrown => exact (by obtain ⟨_, _, h, -⟩ := he; cases h))⟩
          | exact ⟨fun hx => (by rw [hdep] at hx; cases hx), RowsIn.mono (hrow h) (fun _ _ he => hK _ _ he.2)⟩
          | exact False.elim h
    | halt x w' =>
      cases x <;> simp only [Oper.upon, Oper.uponIn] at h ⊢
      all_goals first | exact h | exact absurd h.1 (by simp)
  · cases h
/-- A statement in a round. -/
theorem region_round {l n id : Nat} {a : Act} {w : World} (hL : ¬LetsOut Q) (hd : noDeferB ops = true) (h : wpList P ops Q ops.toList a w) : (Code.region id ops false).wpIn (rnd l) n P Q a w :=
  wpIn_region (wpOps_round hL hd _ _ _ (by rw [List.range_eq_range', ← Array.length_toList, wpOps_eq_wpList ops.toList 0 (by simp)]; exact h))
theorem wpAny_round {l n : Nat} (hL : ¬LetsOut Q) (hd : noDeferB ops = true) : ∀ (fuel : Nat) (listed : Array Bool) (a : Act) (w : World), wpAny P .any ops Q fuel listed a w → wpAnyIn (rnd l) n P .any ops Q fuel listed a w
  | 0, _, _, _, h => h
  | fuel + 1, _, _, _, h => ⟨h.1, fun i hi => wpOp_round hL hd (fun a w => wpAny_round hL hd fuel _ a w) (h.2 i hi)⟩
/-- A statement in a round whose order Go leaves open. -/
theorem region_round_l {l n id : Nat} (I : Array Bool → World → Prop) (Sp : Nat → Value → World → Prop) {a0 : Act} {w : World} (hm : P.follows .mixedOrders = true) (hL : ¬LetsOut Q) (hd : noDeferB ops = true)
    (hlex : lexB ops = true) (hdst : dstB ops = true) (hin : inB ops a0.tmps.size = true) (hI : I (Array.replicate ops.size false) w.drew)
    (step : ∀ (i : Nat) (o : Oper), ops[i]? = some o → ∀ listed a w', RegL ops I Sp a0 listed a w' → listed.getD i false = false → (∀ e ∈ o.after, Region.binds .any e = true → listed.getD e.on false = true) →
      wpOp P ops Q i (fun a' w'' => ∃ v, a' = a.put o.dst v ∧ I (listed.setIfInBounds i true) w'' ∧ (o.dst.isSome = true → Sp i v w'') ∧ ∀ j u, listed.getD j false = true → Sp j u w' → Sp j u w'') a w')
    (fin : ∀ listed a w', RegL ops I Sp a0 listed a w' → (∀ i, i < ops.size → listed.getD i false = true) → Q .normal a w') :
    (Code.region id ops true).wpIn (rnd l) n P Q a0 w := by
  have hno : ∀ i, (Array.replicate ops.size false).getD i false = false := fun i => by
    simp only [Array.getD_eq_getD_getElem?, Array.getElem?_replicate]
    split <;> rfl
  refine wpIn_region_any hm (wpAny_round hL hd _ _ _ _ (wpAny_l I Sp a0 (lex_of hlex) (fun i j oi oj d hi hj hne hd => dst_of hdst i j oi oj d hi hj hne hd) (fun i o d hi hd => in_of hin i o d hi hd) step fin _ _ _ _ ?_ (by simp)))
  refine ⟨hI, by simp, rfl, rfl, fun _ _ => rfl, ?_, ?_⟩
  · intro i o d _ hl _
    rw [hno i] at hl; cases hl
  · intro i o _ hl
    rw [hno i] at hl; cases hl
end

/- The same, where what is known may hang on the activation too. -/
section
variable {P : Program} {ops : Array Oper} {Q : Exit → Act → World → Prop}
theorem wpAny_j (I : Array Bool → World → Prop) (Sp : Nat → Value → World → Prop) (J : Array Bool → Act → World → Prop) (a0 : Act)
    (hlex : ∀ i o, ops[i]? = some o → ∀ e ∈ o.after, Region.binds .any e = true → e.on < i)
    (hd : ∀ (i j : Nat) (oi oj : Oper) (d : Tmp), ops[i]? = some oi → ops[j]? = some oj → i ≠ j → oi.dst = some d → oj.dst ≠ some d)
    (hin : ∀ (i : Nat) (o : Oper) (d : Tmp), ops[i]? = some o → o.dst = some d → d < a0.tmps.size)
    (step : ∀ (i : Nat) (o : Oper), ops[i]? = some o → ∀ listed a w, RegL ops I Sp a0 listed a w → J listed a w → listed.getD i false = false → (∀ e ∈ o.after, Region.binds .any e = true → listed.getD e.on false = true) →
      wpOp P ops Q i (fun a' w' => ∃ v, a' = a.put o.dst v ∧ I (listed.setIfInBounds i true) w' ∧ (o.dst.isSome = true → Sp i v w') ∧ (∀ j u, listed.getD j false = true → Sp j u w → Sp j u w') ∧ J (listed.setIfInBounds i true) a' w') a w)
    (fin : ∀ listed a w, RegL ops I Sp a0 listed a w → J listed a w → (∀ i, i < ops.size → listed.getD i false = true) → Q .normal a w) :
    ∀ (fuel : Nat) (listed : Array Bool) (a : Act) (w : World), RegL ops I Sp a0 listed a w → J listed a w → listed.toList.count false = fuel → wpAny P .any ops Q fuel listed a w := by
  intro fuel
  induction fuel with
  | zero =>
    intro listed a w hI hJ hc
    have hno : ∀ i, i < ops.size → listed.getD i false = true := by
      intro i hi
      have hi2 : i < listed.size := by rw [hI.size]; exact hi
      have := List.count_eq_zero.1 hc
      rw [Array.getD, dif_pos hi2]
      have h2 : listed[i] ≠ false := fun hb => this (by rw [← hb]; exact Array.mem_toList_iff.2 (Array.getElem_mem hi2))
      exact (Bool.not_eq_false _).mp h2
    refine ⟨?_, fin listed a w hI hJ hno⟩
    apply List.eq_nil_iff_forall_not_mem.2
    intro i hi
    obtain ⟨h0, o, ho, -⟩ := mem_ready.1 hi
    have hi1 := (Array.getElem?_eq_some_iff.1 ho).1
    have hi2 : i < listed.size := by rw [hI.size]; exact hi1
    have h1 := hno i hi1
    rw [Array.getD, dif_pos hi2] at h0 h1
    rw [h0] at h1
    cases h1
  | succ fuel ih =>
    intro listed a w hI hJ hc
    refine ⟨fun h => fin listed a w hI hJ (readyL_nil_all hI.size hlex h), fun i hi => ?_⟩
    obtain ⟨h0, o, ho, hpre⟩ := mem_ready.1 hi
    have hi1 := (Array.getElem?_eq_some_iff.1 ho).1
    have hi2 : i < listed.size := by rw [hI.size]; exact hi1
    have h0' : listed.getD i false = false := by
      rw [Array.getD, dif_pos hi2] at h0 ⊢; exact h0
    refine wpOp_mono ?_ (step i o ho listed a w hI hJ h0' hpre)
    rintro a' w' ⟨v, rfl, hI', hS, hkeep, hJ'⟩
    have hset : ∀ k, k ≠ i → (listed.setIfInBounds i true).getD k false = listed.getD k false := fun k hk => by
      simp [Ne.symm hk]
    have hseti : (listed.setIfInBounds i true).getD i false = true := by simp [hi2]
    have hup : ∀ k, listed.getD k false = true → (listed.setIfInBounds i true).getD k false = true := fun k hk => by
      by_cases hki : k = i
      · rw [hki]; exact hseti
      · rw [hset k hki]; exact hk
    refine ih _ _ _ ?_ hJ' ?_
    · refine ⟨hI', by simpa using hI.size, ?_, ?_, ?_, ?_, ?_⟩
      · cases hdst : o.dst <;> simp [Act.put, hI.defers]
      · cases hdst : o.dst <;> simp [Act.put, hI.len]
      · intro t ht
        rw [← hI.old t ht]
        cases hdst : o.dst with
        | none => rfl
        | some d => exact getD_putL_other (fun e => ht i o ho (by rw [hdst, e]))
      · intro j oj d hj hlist hdj
        by_cases hji : j = i
        · subst hji
          obtain rfl : o = oj := Option.some.inj (ho.symm.trans hj)
          rw [hdj, getD_putL_same (by rw [hI.len]; exact hin j o d ho hdj)]
          exact hS (by rw [hdj]; rfl)
        · rw [hset j hji] at hlist
          have hold := hkeep j _ hlist (hI.said j oj d hj hlist hdj)
          cases hdst : o.dst with
          | none => exact hold
          | some d' =>
            have hne : d' ≠ d := fun e => hd i j o oj d' ho hj (Ne.symm hji) hdst (by rw [hdj, e])
            rw [getD_putL_other hne]
            exact hold
      · intro k ok hk hlk e he hb
        by_cases hki : k = i
        · subst hki
          obtain rfl : o = ok := Option.some.inj (ho.symm.trans hk)
          exact hup _ (hpre e he hb)
        · rw [hset k hki] at hlk
          exact hup _ (hI.closed k ok hk hlk e he hb)
    · rw [Array.toList_setIfInBounds, List.count_set (by simpa using hi2)]
      have hf : listed.toList[i]'(by simpa using hi2) = false := by
        rw [Array.getElem_toList]
        rw [Array.getD, dif_pos hi2] at h0; exact h0
      simp [hf, hc]

/-- A statement in a round whose order Go leaves open. -/
theorem region_round_j {l n id : Nat} (I : Array Bool → World → Prop) (Sp : Nat → Value → World → Prop) (J : Array Bool → Act → World → Prop) {a0 : Act} {w : World} (hm : P.follows .mixedOrders = true) (hL : ¬LetsOut Q) (hd : noDeferB ops = true)
    (hlex : lexB ops = true) (hdst : dstB ops = true) (hin : inB ops a0.tmps.size = true) (hI : I (Array.replicate ops.size false) w.drew) (hJ : J (Array.replicate ops.size false) a0 w.drew)
    (step : ∀ (i : Nat) (o : Oper), ops[i]? = some o → ∀ listed a w', RegL ops I Sp a0 listed a w' → J listed a w' → listed.getD i false = false → (∀ e ∈ o.after, Region.binds .any e = true → listed.getD e.on false = true) →
      wpOp P ops Q i (fun a' w'' => ∃ v, a' = a.put o.dst v ∧ I (listed.setIfInBounds i true) w'' ∧ (o.dst.isSome = true → Sp i v w'') ∧ (∀ j u, listed.getD j false = true → Sp j u w' → Sp j u w'') ∧ J (listed.setIfInBounds i true) a' w'') a w')
    (fin : ∀ listed a w', RegL ops I Sp a0 listed a w' → J listed a w' → (∀ i, i < ops.size → listed.getD i false = true) → Q .normal a w') :
    (Code.region id ops true).wpIn (rnd l) n P Q a0 w := by
  have hno : ∀ i, (Array.replicate ops.size false).getD i false = false := fun i => by
    simp only [Array.getD_eq_getD_getElem?, Array.getElem?_replicate]
    split <;> rfl
  refine wpIn_region_any hm (wpAny_round hL hd _ _ _ _ (wpAny_j I Sp J a0 (lex_of hlex) (fun i j oi oj d hi hj hne hd => dst_of hdst i j oi oj d hi hj hne hd) (fun i o d hi hd => in_of hin i o d hi hd) step fin _ _ _ _ ?_ hJ (by simp)))
  refine ⟨hI, by simp, rfl, rfl, fun _ _ => rfl, ?_, ?_⟩
  · intro i o d _ hl _
    rw [hno i] at hl; cases hl
  · intro i o _ hl
    rw [hno i] at hl; cases hl
theorem eval_put_ne {a : Act} {dst : Option Tmp} {v : Value} {t : Tmp} (h : dst ≠ some t) : (a.put dst v).eval (.tmp t) = a.eval (.tmp t) := by
  cases dst with
  | none => rfl
  | some d =>
    show (a.put (some d) v).tmps.getD t undef = a.tmps.getD t undef
    exact getD_putL_other (fun e => h (by rw [e]))
theorem eval_put_eq {a : Act} {v : Value} {t : Tmp} (h : t < a.tmps.size) : (a.put (some t) v).eval (.tmp t) = v := getD_putL_same h
end

section
variable {F : Fence} {n : Nat} {P : Program}
/-- What an iterator promises that hands over just N times; M k args W: what is told of the k-th call's arguments and of the world at that call. -/
def Hands (F : Fence) (n : Nat) (P : Program) (g : Nat) (lb : Array Value) (Kp : World → World → Prop) (M : Nat → Array Value → World → Prop) (N : Nat) (w : World) : Prop :=
  ∀ (l : Nat) (J Jx : Nat → World → Prop) (W : World), Below w.heap.size w W → AbidesFrom W.heap.size J → AbidesFrom W.heap.size Jx →
    (∀ k args W1, J k W1 → M k args W1 → k < N → YieldAt F (n - 1) P l args W1 fun e W' =>
      (e = .returned (.bool true) ∧ J (k + 1) W' ∧ Kp W1 W') ∨ (e = .returned (.bool false) ∧ Jx (k + 1) W')) →
    J 0 W → CallsIn F n P g (#[.func (.yield l) #[] #[]] ++ lb) W fun e W' => (∃ v, e = .returned v) ∧ (J N W' ∨ ∃ k, Jx k W')
/-- How a round may be left. -/
def leftBy (B : Nat) (Kp : World → World → Prop) (I : World → Prop) (Ix : Code → World → Prop) (W : World) : Exit → Act → World → Prop
  | .normal, _, W' => KeepsFrom B W W' ∧ Kp W W' ∧ I W'
  | .ret, _, W' => KeepsFrom B W W' ∧ Ix .ret W'
  | .exit id, _, W' => KeepsFrom B W W' ∧ Ix (.exit id) W'
  | .goto t, _, W' => KeepsFrom B W W' ∧ Ix (.goto t) W'
  | .panic _, _, _ => False
  | .outgrown, _, _ => False
theorem leftBy_in {B : Nat} {Kp : World → World → Prop} {I : World → Prop} {Ix : Code → World → Prop} {W : World} : ¬LetsOut (leftBy B Kp I Ix W) := fun ⟨_, _, h⟩ => h

/-- A round, its record ready ahead of it and behind it. -/
theorem round_yields {l B N : Nat} {rec : LoopState → Option Code → Loop} {fn : FuncId} {tmps : Array Value} {ps : Array Tmp} {assign body : Code} {d : Nat} {Kp : World → World → Prop} {M : Nat → Array Value → World → Prop}
    (hrec : rec = fun st pe => { state := st, pending := pe, fn := fn, tmps := tmps, params := ps, assign := assign, body := body, defers := d }) (hfn : F.fn fn) (hBl : B ≤ l)
    (hKt : ∀ {A B C : World}, Kp A B → Kp B C → Kp A C) (hKb : ∀ (W : World) (l : Nat) (o o' : Obj), B ≤ l → W.heap[l]? = some o → o.isCells = false → o.isWalk = false → Kp W (W.putObj l o'))
    (hps : ∀ k args W, M k args W → args.size = ps.size)
    (I : Nat → World → Prop) (Ix : Code → Nat → World → Prop) (hI : OwnFrom B I) (hIx : ∀ c, OwnFrom B (Ix c)) (Ax : Nat → Act → World → Prop) (hAx : ∀ k a', OwnFrom B (fun (_ : Unit) W => Ax k a' W))
    (hassign : ∀ (k : Nat) (args : Array Value) (W : World) (K : Act → World → Prop), I k W → M k args W → (∀ a' W', KeepsFrom B W W' → Kp W W' → I k W' → Ax k a' W' → K a' W') →
      assign.wpIn (F.inRound l) n P (Exit.then K (fun _ _ _ => False)) { tmps := (ps.zip args).foldl (fun t (p, v) => t.setIfInBounds p v) tmps, defers := [] } W)
    (hbody : ∀ (k : Nat) (a' : Act) (W : World), (∃ r, W.heap[l]? = some (.loop r)) → I k W → Ax k a' W → k < N → body.wpIn (F.inRound l) n P (leftBy B Kp (I (k + 1)) (fun c => Ix c (k + 1)) W) a' W)
    (k : Nat) (args : Array Value) (W : World) (hi : I k W) (hl : W.heap[l]? = some (.loop (rec .ready none))) (hM : M k args W) (hk : k < N) :
    YieldAt F n P l args W fun e W' =>
      (e = .returned (.bool true) ∧ (I (k + 1) W' ∧ W'.heap[l]? = some (.loop (rec .ready none)) ∧ ∀ (j : Nat) (o : Obj), B ≤ j → j ≠ l → W.heap[j]? = some o → o.isCells = false → W'.heap[j]? = some o) ∧ Kp W W') ∨
      (e = .returned (.bool false) ∧ ∃ c, Ix c (k + 1) W' ∧ W'.heap[l]? = some (.loop (rec .done (some c))) ∧ ∀ (j : Nat) (o : Obj), B ≤ j → j ≠ l → W.heap[j]? = some o → o.isCells = false → W'.heap[j]? = some o) := by
  have hy := run_yield (P := P) (args := args) hl (by rw [hrec]; exact hps _ _ _ hM)
  rw [hrec] at hy
  refine ⟨fn, _, assign, body, hy, roundIn_of_wpIn hfn (hassign k args W _ hi hM ?_)⟩
  intro a' Wa hkfa hkpa hia hax
  have hla := hkfa.same l _ hBl hl rfl
  refine ⟨_, run_beginRound hla (by rw [hrec]), ?_⟩
  have hl2 : (Wa.putObj l (.loop { rec .ready none with state := .busy })).heap[l]? = some (.loop { rec .ready none with state := .busy }) := World.putObj_heap_same (Array.getElem?_eq_some_iff.1 hla).1
  have hw2 : Kp W (Wa.putObj l (.loop { rec .ready none with state := .busy })) := hKt hkpa (hKb _ _ _ _ hBl hla rfl rfl)
  refine wpIn_mono (hbody k a' _ ⟨_, hl2⟩ (hI.putObj _ hia hBl hla rfl) ((hAx k a').putObj (s := ()) _ hax hBl hla rfl) hk) ?_
  have fin : ∀ (jump : Option Code) (W3 : World), KeepsFrom B (Wa.putObj l (.loop { rec .ready none with state := .busy })) W3 →
      (Instr.endRound l jump).run P W3 = .ok (.bool jump.isNone) (W3.putObj l (.loop (rec (if jump.isNone then .ready else .done) jump))) ∧ (∃ r, W3.heap[l]? = some (.loop r)) ∧
      (W3.putObj l (.loop (rec (if jump.isNone then .ready else .done) jump))).heap[l]? = some (.loop (rec (if jump.isNone then .ready else .done) jump)) ∧
      ∀ (j : Nat) (o : Obj), B ≤ j → j ≠ l → W.heap[j]? = some o → o.isCells = false → (W3.putObj l (.loop (rec (if jump.isNone then .ready else .done) jump))).heap[j]? = some o := fun jump W3 hk3 => by
    have hl3 := hk3.same l _ hBl hl2 rfl
    have hend := run_endRound (P := P) jump hl3
    rw [hrec] at hend hl3
    refine ⟨by rw [hrec]; exact hend, ⟨_, hl3⟩, World.putObj_heap_same (Array.getElem?_eq_some_iff.1 hl3).1, fun j o hj hjl ho hc => ?_⟩
    rw [World.putObj_heap_other hjl]
    exact hk3.same j o hj ((World.putObj_heap_other hjl).trans (hkfa.same j o hj ho hc)) hc
  have stop : ∀ (c : Code) (W3 : World), KeepsFrom B (Wa.putObj l (.loop { rec .ready none with state := .busy })) W3 → Ix c (k + 1) W3 →
      ∃ c', Ix c' (k + 1) (W3.putObj l (.loop (rec .done (some c)))) ∧ (W3.putObj l (.loop (rec .done (some c)))).heap[l]? = some (.loop (rec .done (some c'))) ∧ ∀ (j : Nat) (o : Obj), B ≤ j → j ≠ l → W.heap[j]? = some o → o.isCells = false → (W3.putObj l (.loop (rec .done (some c)))).heap[j]? = some o := fun c W3 hk3 hi3 => by
    obtain ⟨-, ⟨r, hl3⟩, hl4, hk4⟩ := fin (some c) W3 hk3
    exact ⟨c, (hIx c).putObj _ hi3 hBl hl3 rfl, hl4, hk4⟩
  rintro e a3 W3 hp
  cases e with
  | normal =>
    obtain ⟨hk3, hkp3, hi3⟩ := hp
    obtain ⟨hr, ⟨r, hl3⟩, hl4, hk4⟩ := fin none W3 hk3
    exact ⟨_, _, hr, .inl ⟨rfl, ⟨hI.putObj _ hi3 hBl hl3 rfl, hl4, hk4⟩, hKt (hKt hw2 hkp3) (hKb _ _ _ _ hBl hl3 rfl rfl)⟩⟩
  | ret => exact ⟨_, _, (fin (some .ret) W3 hp.1).1, .inr ⟨rfl, stop _ W3 hp.1 hp.2⟩⟩
  | exit id => exact ⟨_, _, (fin (some (.exit id)) W3 hp.1).1, .inr ⟨rfl, stop _ W3 hp.1 hp.2⟩⟩
  | goto t => exact ⟨_, _, (fin (some (.goto t)) W3 hp.1).1, .inr ⟨rfl, stop _ W3 hp.1 hp.2⟩⟩
  | panic ch => exact hp.elim
  | outgrown => exact hp.elim

variable {g : Operand} {ps : Array Tmp} {assign body : Code} {Q : Exit → Act → World → Prop} {a : Act} {w : World}
/-- A loop over such an iterator, in no round. -/
theorem wpIn_range_hands (hro : F.round = none) (h1 : F.depth.isSome = true → 1 ≤ n) {gf : Nat} {lb : Array Value} (hg : a.eval g = .func (.func gf) #[] lb) (hFg : F.fn gf) (eg : ∀ args w, (callFunc gf args).run P w = .ok (.enter gf args) w)
    {Kp : World → World → Prop} {M : Nat → Array Value → World → Prop} {N : Nat} (hseq : Hands F (n - 1) P gf lb Kp M N w)
    (hKt : ∀ {A B C : World}, Kp A B → Kp B C → Kp A C) (hKb : ∀ (W : World) (l : Nat) (o o' : Obj), w.heap.size ≤ l → W.heap[l]? = some o → o.isCells = false → o.isWalk = false → Kp W (W.putObj l o'))
    (hps : ∀ k args W, M k args W → args.size = ps.size)
    (I : Nat → World → Prop) (Ix : Code → Nat → World → Prop) (hI : OwnFrom w.heap.size I) (hIx : ∀ c, OwnFrom w.heap.size (Ix c)) (h0 : I 0 w) (Ax : Nat → Act → World → Prop) (hAx : ∀ k a', OwnFrom w.heap.size (fun (_ : Unit) W => Ax k a' W))
    (hassign : ∀ (l k : Nat) (args : Array Value) (W : World) (K : Act → World → Prop), I k W → M k args W → (∀ a' W', KeepsFrom w.heap.size W W' → Kp W W' → I k W' → Ax k a' W' → K a' W') →
      assign.wpIn (F.inRound l) (n - 1 - 1) P (Exit.then K (fun _ _ _ => False)) { tmps := (ps.zip args).foldl (fun t (p, v) => t.setIfInBounds p v) a.tmps, defers := [] } W)
    (hbody : ∀ (l k : Nat) (a' : Act) (W : World), w.heap.size ≤ l → (∃ r, W.heap[l]? = some (.loop r)) → I k W → Ax k a' W → k < N → body.wpIn (F.inRound l) (n - 1 - 1) P (leftBy w.heap.size Kp (I (k + 1)) (fun c => Ix c (k + 1)) W) a' W)
    (hdone : ∀ (D : Nat) (W : World), w.heap.size ≤ D → I N W → W.heap[D]? = some (.deferred (some [])) → Q .normal { a with defers := { target := .collected D, args := #[] } :: a.defers } W)
    (hstop : ∀ (D : Nat) (c : Code) (k : Nat) (W : World), w.heap.size ≤ D → Ix c k W → W.heap[D]? = some (.deferred (some [])) → c.wpIn F n P Q { a with defers := { target := .collected D, args := #[] } :: a.defers } W) :
    (Code.rangeFunc g ps assign body).wpIn F n P Q a w := by
  refine wpIn_rangeFunc ?_
  intro fn hfn
  rw [hro]
  obtain ⟨rec, hrec⟩ : ∃ rec : LoopState → Option Code → Loop, rec = fun st pe => { state := st, pending := pe, fn, tmps := a.tmps, params := ps, assign, body, defers := w.heap.size } := ⟨_, rfl⟩
  obtain ⟨W1, hW1⟩ : ∃ W1, (w.alloc (.deferred (some []))).alloc (.loop (rec .ready none)) = W1 := ⟨_, rfl⟩
  have hs1 : W1.heap.size = w.heap.size + 2 := by rw [← hW1]; simp
  have hL1 : W1.heap[w.heap.size + 1]? = some (.loop (rec .ready none)) := by
    rw [← hW1]; have := World.alloc_heap_new (w.alloc (.deferred (some []))) (.loop (rec .ready none)); rwa [World.size_alloc] at this
  have hK1 : W1.heap[w.heap.size]? = some (.deferred (some [])) := by
    rw [← hW1]; exact (Below.heap_alloc _ _ _ (by simp)).trans (World.alloc_heap_new w _)
  have hI1 : I 0 W1 := by rw [← hW1]; exact hI.alloc _ (hI.alloc _ h0)
  have hb1 : Below w.heap.size w W1 := by
    rw [← hW1]; exact ((Below.refl _ w).alloc (Nat.le_refl _) _).alloc (by simp) _
  refine ⟨w.heap.size + 1, [{ target := .collected w.heap.size, args := #[] }], W1, { target := .fn (.func gf) lb, args := #[.func (.yield (w.heap.size + 1)) #[] #[]] }, W1, gf,
    #[.func (.yield (w.heap.size + 1)) #[] #[]] ++ lb, W1, ?_, ?_, ?_, ?_, h1, ?_⟩
  · rw [← hW1, hrec]; exact run_enterLoop_outer _ _ _ _ _
  · simp only [resolve, hg]
    simp [go_sem]
  · intro f' hf'; simp [Target.leads] at hf'; subst hf'; exact hFg
  · simp [invoke, go_sem, eg]
  · have hnw : ∀ {A B : World} {row : Option Nat}, (∀ r, row = some r → W1.heap.size ≤ r ∧ ∃ o : Obj, A.heap[r]? = some o ∧ o.isWalk = true) → (∀ r, row = some r → w.heap.size ≤ r ∧ ∃ o : Obj, A.heap[r]? = some o ∧ o.isCells = false) :=
      fun hr r e => by obtain ⟨hB, o, ho, hw⟩ := hr r e; exact ⟨by omega, o, ho, Obj.not_cells_of_walk hw⟩
    refine (hseq (w.heap.size + 1)
      (fun k W => I k W ∧ W.heap[w.heap.size + 1]? = some (.loop (rec .ready none)) ∧ W.heap[w.heap.size]? = some (.deferred (some [])))
      (fun k W => ∃ c, Ix c k W ∧ W.heap[w.heap.size + 1]? = some (.loop (rec .done (some c))) ∧ W.heap[w.heap.size]? = some (.deferred (some [])))
      W1 hb1
      (fun s A B row hs hg' hr => ⟨hI s A B row hs.1 hg' (hnw (B := B) hr), (grownBy_keeps hg' (fun r e => (hr r e).2) hs.2.1 rfl).trans hs.2.1, (grownBy_keeps hg' (fun r e => (hr r e).2) hs.2.2 rfl).trans hs.2.2⟩)
      (fun s A B row hs hg' hr => by
        obtain ⟨c, hc, hl, hk⟩ := hs
        exact ⟨c, hIx c s A B row hc hg' (hnw (B := B) hr), (grownBy_keeps hg' (fun r e => (hr r e).2) hl rfl).trans hl, (grownBy_keeps hg' (fun r e => (hr r e).2) hk rfl).trans hk⟩)
      ?_ ⟨hI1, hL1, hK1⟩).mono ?_
    · rintro k args W ⟨hi, hl, hk⟩ hM hlt
      obtain ⟨fn', tmps', as', bd', hy, hR⟩ := round_yields (l := w.heap.size + 1) (N := N) (Kp := Kp) (n := n - 1 - 1) (P := P) hrec hfn (Nat.le_succ _) hKt hKb hps I Ix hI hIx Ax hAx (hassign (w.heap.size + 1)) (fun k a' W => hbody (w.heap.size + 1) k a' W (Nat.le_succ _)) k args W hi hl hM hlt
      refine ⟨fn', tmps', as', bd', hy, hR.mono ?_⟩
      rintro e W' (⟨rfl, ⟨h1, h2, h3⟩, h4⟩ | ⟨rfl, c, h1, h2, h3⟩)
      · exact .inl ⟨rfl, ⟨h1, h2, h3 _ _ (Nat.le_refl _) (by omega) hk rfl⟩, h4⟩
      · exact .inr ⟨rfl, c, h1, h2, h3 _ _ (Nat.le_refl _) (by omega) hk rfl⟩
    · rintro e W2 ⟨⟨v, rfl⟩, (⟨hi, hl, hk⟩ | ⟨k, c, hi, hl, hk⟩)⟩
      · exact ⟨none, _, by have := run_endLoop (P := P) hl (by rw [hrec]; simp); rw [hrec] at this; exact this, hdone _ _ (Nat.le_refl _) (hI.putObj _ hi (by omega) hl rfl) ((World.putObj_heap_other (by omega)).trans hk)⟩
      · exact ⟨some c, _, by have := run_endLoop (P := P) hl (by rw [hrec]; simp); rw [hrec] at this; exact this, hstop _ c k _ (Nat.le_refl _) ((hIx c).putObj _ hi (by omega) hl rfl) ((World.putObj_heap_other (by omega)).trans hk)⟩

/-- The same in a round of loop l₀. -/
theorem wpIn_range_hands_in {l₀ : Nat} {r₀ : Loop} (hro : F.round = some l₀) (hl₀ : w.heap[l₀]? = some (.loop r₀)) (h1 : F.depth.isSome = true → 1 ≤ n) {gf : Nat} {lb : Array Value} (hg : a.eval g = .func (.func gf) #[] lb) (hFg : F.fn gf) (eg : ∀ args w, (callFunc gf args).run P w = .ok (.enter gf args) w)
    {Kp : World → World → Prop} {M : Nat → Array Value → World → Prop} {N : Nat} (hseq : Hands F (n - 1) P gf lb Kp M N w)
    (hKt : ∀ {A B C : World}, Kp A B → Kp B C → Kp A C) (hKb : ∀ (W : World) (l : Nat) (o o' : Obj), w.heap.size ≤ l → W.heap[l]? = some o → o.isCells = false → o.isWalk = false → Kp W (W.putObj l o'))
    (hps : ∀ k args W, M k args W → args.size = ps.size)
    (I : Nat → World → Prop) (Ix : Code → Nat → World → Prop) (hI : OwnFrom w.heap.size I) (hIx : ∀ c, OwnFrom w.heap.size (Ix c)) (h0 : I 0 w) (Ax : Nat → Act → World → Prop) (hAx : ∀ k a', OwnFrom w.heap.size (fun (_ : Unit) W => Ax k a' W))
    (hassign : ∀ (l k : Nat) (args : Array Value) (W : World) (K : Act → World → Prop), I k W → M k args W → (∀ a' W', KeepsFrom w.heap.size W W' → Kp W W' → I k W' → Ax k a' W' → K a' W') →
      assign.wpIn (F.inRound l) (n - 1 - 1) P (Exit.then K (fun _ _ _ => False)) { tmps := (ps.zip args).foldl (fun t (p, v) => t.setIfInBounds p v) a.tmps, defers := [] } W)
    (hbody : ∀ (l k : Nat) (a' : Act) (W : World), w.heap.size ≤ l → (∃ r, W.heap[l]? = some (.loop r)) → I k W → Ax k a' W → k < N → body.wpIn (F.inRound l) (n - 1 - 1) P (leftBy w.heap.size Kp (I (k + 1)) (fun c => Ix c (k + 1)) W) a' W)
    (hdone : ∀ (W : World), I N W → Q .normal a W)
    (hstop : ∀ (c : Code) (k : Nat) (W : World), Ix c k W → c.wpIn F n P Q a W) :
    (Code.rangeFunc g ps assign body).wpIn F n P Q a w := by
  refine wpIn_rangeFunc ?_
  intro fn hfn
  rw [hro]
  obtain ⟨rec, hrec⟩ : ∃ rec : LoopState → Option Code → Loop, rec = fun st pe => { state := st, pending := pe, fn, tmps := a.tmps, params := ps, assign, body, defers := r₀.defers } := ⟨_, rfl⟩
  obtain ⟨W1, hW1⟩ : ∃ W1, w.alloc (.loop (rec .ready none)) = W1 := ⟨_, rfl⟩
  have hs1 : W1.heap.size = w.heap.size + 1 := by rw [← hW1]; simp
  have hL1 : W1.heap[w.heap.size]? = some (.loop (rec .ready none)) := by rw [← hW1]; exact World.alloc_heap_new w _
  have hI1 : I 0 W1 := by rw [← hW1]; exact hI.alloc _ h0
  have hb1 : Below w.heap.size w W1 := by rw [← hW1]; exact (Below.refl _ w).alloc (Nat.le_refl _) _
  refine ⟨w.heap.size, [], W1, { target := .fn (.func gf) lb, args := #[.func (.yield w.heap.size) #[] #[]] }, W1, gf,
    #[.func (.yield w.heap.size) #[] #[]] ++ lb, W1, ?_, ?_, ?_, ?_, h1, ?_⟩
  · rw [← hW1, hrec]; exact run_enterLoop_inner hl₀ _ _ _ _ _
  · simp only [resolve, hg]
    simp [go_sem]
  · intro f' hf'; simp [Target.leads] at hf'; subst hf'; exact hFg
  · simp [invoke, go_sem, eg]
  · have hnw : ∀ {A B : World} {row : Option Nat}, (∀ r, row = some r → W1.heap.size ≤ r ∧ ∃ o : Obj, A.heap[r]? = some o ∧ o.isWalk = true) → (∀ r, row = some r → w.heap.size ≤ r ∧ ∃ o : Obj, A.heap[r]? = some o ∧ o.isCells = false) :=
      fun hr r e => by obtain ⟨hB, o, ho, hw⟩ := hr r e; exact ⟨by omega, o, ho, Obj.not_cells_of_walk hw⟩
    refine (hseq w.heap.size
      (fun k W => I k W ∧ W.heap[w.heap.size]? = some (.loop (rec .ready none)))
      (fun k W => ∃ c, Ix c k W ∧ W.heap[w.heap.size]? = some (.loop (rec .done (some c))))
      W1 hb1
      (fun s A B row hs hg' hr => ⟨hI s A B row hs.1 hg' (hnw (B := B) hr), (grownBy_keeps hg' (fun r e => (hr r e).2) hs.2 rfl).trans hs.2⟩)
      (fun s A B row hs hg' hr => by
        obtain ⟨c, hc, hl⟩ := hs
        exact ⟨c, hIx c s A B row hc hg' (hnw (B := B) hr), (grownBy_keeps hg' (fun r e => (hr r e).2) hl rfl).trans hl⟩)
      ?_ ⟨hI1, hL1⟩).mono ?_
    · rintro k args W ⟨hi, hl⟩ hM hlt
      obtain ⟨fn', tmps', as', bd', hy, hR⟩ := round_yields (l := w.heap.size) (N := N) (Kp := Kp) (n := n - 1 - 1) (P := P) hrec hfn (Nat.le_refl _) hKt hKb hps I Ix hI hIx Ax hAx (hassign w.heap.size) (fun k a' W => hbody w.heap.size k a' W (Nat.le_refl _)) k args W hi hl hM hlt
      refine ⟨fn', tmps', as', bd', hy, hR.mono ?_⟩
      rintro e W' (⟨rfl, ⟨h1, h2, -⟩, h4⟩ | ⟨rfl, c, h1, h2, -⟩)
      · exact .inl ⟨rfl, ⟨h1, h2⟩, h4⟩
      · exact .inr ⟨rfl, c, h1, h2⟩
    · rintro e W2 ⟨⟨v, rfl⟩, (⟨hi, hl⟩ | ⟨k, c, hi, hl⟩)⟩
      · exact ⟨none, _, by have := run_endLoop (P := P) hl (by rw [hrec]; simp); rw [hrec] at this; exact this, hdone _ (hI.putObj _ hi (Nat.le_refl _) hl rfl)⟩
      · exact ⟨some c, _, by have := run_endLoop (P := P) hl (by rw [hrec]; simp); rw [hrec] at this; exact this, hstop c k _ ((hIx c).putObj _ hi (Nat.le_refl _) hl rfl)⟩
end
end Go.Proofs.YtgcfgheamaoceaaGreatDoor

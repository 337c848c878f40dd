/- Texts of the proof in one file, in build order: Reg2, RegOps, Reg3, MakeB, LDrop, RefNum, RefRead, PageL, Stops, CrcLin, CrcSum, CrcRef. -/
import Derived.Test.YtaijjlaheoamaaaDoorG1
import Derived.Test.YtaijjlaheoamaaaDoorG2
import Derived.Laws.MakeOwn
import Derived.WalkKit
import Derived.OwnWalk
import Derived.Lib.Hide
import Derived.Test.YtaijjlaheoamaaaDoorProg
import Derived.RangeFuncNested
import Derived.RangeFuncBound
import Derived.RangeFuncCalls
import Derived.RangeFuncLeaves
import Derived.Shelf.Abstract
import Derived.Shelf.RegionOpen
import Derived.OwnWalkIn
import Derived.TacticsInMore
import Derived.LoopNIn
import Derived.LoopIn
import Derived.Outline
import Derived.LoopTactic
/- A statement whose order is open, when all its operations have come up: the activation is the old one with their slots put. Of no program. -/
namespace Go.Proofs.YtaijjlaheoamaaaDoor

section
variable {P : Program} {ops : Array Oper}
theorem put_size (a : Act) (d : Tmp) (v : Value) : (a.put (some d) v).tmps.size = a.tmps.size := by simp [Act.put]
def putAll (f : Nat → Value) (ds : List Nat) (a : Act) : Act := ds.foldl (fun b d => b.put (some d) (f d)) a
theorem putAll_size (f : Nat → Value) (ds : List Nat) (a : Act) : (putAll f ds a).tmps.size = a.tmps.size := by
  induction ds generalizing a with
  | nil => rfl
  | cons d ds ih => show (putAll f ds (a.put (some d) (f d))).tmps.size = _; rw [ih, put_size]
theorem putAll_defers (f : Nat → Value) (ds : List Nat) (a : Act) : (putAll f ds a).defers = a.defers := by
  induction ds generalizing a with
  | nil => rfl
  | cons d ds ih => show (putAll f ds (a.put (some d) (f d))).defers = _; rw [ih]; rfl
theorem putAll_getD (f : Nat → Value) (ds : List Nat) (a : Act) (t : Nat) (ht : t < a.tmps.size) : (putAll f ds a).tmps.getD t undef = if t ∈ ds then f t else a.tmps.getD t undef := by
  induction ds generalizing a with
  | nil => simp [putAll]
  | cons d ds ih =>
    show (putAll f ds (a.put (some d) (f d))).tmps.getD t undef = _
    rw [ih _ (by rw [put_size]; exact ht)]
    by_cases h1 : t ∈ ds
    · rw [if_pos h1, if_pos (List.mem_cons_of_mem _ h1)]
    · rw [if_neg h1]
      by_cases h2 : d = t
      · subst h2
        rw [if_pos (List.mem_cons_self), getD_putL_same ht]
      · rw [if_neg (by simp [h1, Ne.symm h2]), getD_putL_other h2]
def dstsIn (ops : Array Oper) (ds : List Nat) : Bool := ops.toList.all fun o => match o.dst with | some d => ds.contains d | none => true
theorem RegL.puts {I : Array Bool → World → Prop} {Sp : Nat → Value → World → Prop} {a0 : Act} {listed : Array Bool} {a : Act} {w : World} (h : RegL ops I Sp a0 listed a w) (ds : List Nat) (hds : dstsIn ops ds = true) :
    a = putAll (fun d => a.tmps.getD d undef) ds a0 := by
  have key : a.tmps = (putAll (fun d => a.tmps.getD d undef) ds a0).tmps := by
    apply Array.ext
    · rw [putAll_size, h.len]
    · intro t h1 h2
      have ht : t < a0.tmps.size := by rw [← h.len]; exact h1
      have e1 : a.tmps[t] = a.tmps.getD t undef := by rw [Array.getD, dif_pos h1]; rfl
      have e2 : (putAll (fun d => a.tmps.getD d undef) ds a0).tmps[t] = (putAll (fun d => a.tmps.getD d undef) ds a0).tmps.getD t undef := by rw [Array.getD, dif_pos h2]; rfl
      rw [e1, e2, putAll_getD _ _ _ _ ht]
      by_cases hm : t ∈ ds
      · rw [if_pos hm]
      · rw [if_neg hm]
        refine h.old t fun i o ho e => hm ?_
        have h3 := List.all_eq_true.1 hds o (Array.mem_toList_iff.2 (Array.mem_of_getElem? ho))
        rw [e] at h3
        simpa using h3
  obtain ⟨T, D⟩ := a
  have h4 : D = (putAll (fun d => T.getD d undef) ds a0).defers := by rw [putAll_defers]; exact h.defers
  have key' : T = (putAll (fun d => T.getD d undef) ds a0).tmps := key
  generalize hq : putAll (fun d => T.getD d undef) ds a0 = q at key' h4
  obtain ⟨T2, D2⟩ := q
  have h5 : D = D2 := h4
  rw [h5]
  exact congrArg (fun x => Act.mk x D2) key'
/-- The slots that are written stand side by side: from lo on, n of them. -/
def dstsFrom (ops : Array Oper) (lo n : Nat) : Bool := ops.toList.all fun o => match o.dst with | some d => decide (lo ≤ d ∧ d < lo + n) | none => true
theorem RegL.frame {I : Array Bool → World → Prop} {Sp : Nat → Value → World → Prop} {L : List Value} {D : List Deferred} {listed : Array Bool} {a : Act} {w : World} (h : RegL ops I Sp ⟨L.toArray, D⟩ listed a w) (lo n : Nat) (hn : lo + n ≤ L.length) (hds : dstsFrom ops lo n = true) :
    ∃ vs : List Value, vs.length = n ∧ (∀ j, j < n → vs[j]? = some (a.tmps.getD (lo + j) undef)) ∧ a = ⟨(L.take lo ++ vs ++ L.drop (lo + n)).toArray, D⟩ := by
  have hlen : a.tmps.size = L.length := h.len.trans (by simp)
  have hold : ∀ t, t < lo ∨ lo + n ≤ t → a.tmps.getD t undef = L.toArray.getD t undef := fun t ht => h.old t fun i o ho e => by
    have h3 := List.all_eq_true.1 hds o (Array.mem_toList_iff.2 (Array.mem_of_getElem? ho))
    rw [e] at h3
    have h4 : lo ≤ t ∧ t < lo + n := of_decide_eq_true h3
    omega
  refine ⟨(List.range n).map fun j => a.tmps.getD (lo + j) undef, by simp, fun j hj => by simp [hj], ?_⟩
  obtain ⟨T, D2⟩ := a
  have hD : D2 = D := h.defers
  subst hD
  have hT : T = (L.take lo ++ ((List.range n).map fun j => T.getD (lo + j) undef) ++ L.drop (lo + n)).toArray := by
    have hl2 : (L.take lo).length = lo := by rw [List.length_take]; omega
    apply Array.ext
    · simp only [List.size_toArray, List.length_append, List.length_map, List.length_range, List.length_drop, hl2]
      have : T.size = L.length := hlen
      omega
    · intro t h1 h2
      have ht : t < L.length := by have : T.size = L.length := hlen; omega
      have e1 : T[t] = T.getD t undef := by rw [Array.getD, dif_pos h1]; rfl
      rw [e1, List.getElem_toArray]
      rcases Nat.lt_or_ge t lo with c1 | c1
      · rw [hold t (.inl c1), List.getElem_append_left (by simp [hl2]; omega), List.getElem_append_left (by rw [hl2]; exact c1), List.getElem_take]
        simp [Array.getD, ht]
      · rcases Nat.lt_or_ge t (lo + n) with c2 | c2
        · rw [List.getElem_append_left (by simp [hl2]; omega), List.getElem_append_right (by rw [hl2]; exact c1)]
          simp [hl2, show lo + (t - lo) = t by omega]
        · rw [hold t (.inr c2), List.getElem_append_right (by simp [hl2]; omega)]
          simp [Array.getD, ht, hl2, show lo + n + (t - (lo + n)) = t by omega]
  exact congrArg (fun x => Act.mk x D2) hT
end
end Go.Proofs.YtaijjlaheoamaaaDoor
/- Layer 3: operations of statements in no fixed order: lengths, comparisons, conversions. -/
namespace Go.Proofs.YtaijjlaheoamaaaDoor
open Go.RowKit
section
variable {ops : Array Oper} {Q : Exit → Act → World → Prop} {i : Nat} {o : Oper} {a : Act} {w w' : World} {K : Act → World → Prop}
theorem wantedOf {oi : Oper} {b : Bool} {d : Tmp} {j : Nat} (hg : o.guard = some (j, b)) (ho : ops[j]? = some oi) (hd : oi.dst = some d) (hsz : d < a.tmps.size) (hv : a.eval (.tmp d) = .bool b) : Region.wanted o (yielded ops a.tmps) = true := by
  have h1 : a.tmps[d]? = some (.bool b) := by
    have : a.tmps.getD d undef = .bool b := hv
    rw [Array.getD, dif_pos hsz] at this
    rw [Array.getElem?_eq_getElem hsz]; exact congrArg some this
  unfold Region.wanted
  rw [hg]
  simp [yielded, ho, hd, h1]
theorem wpOp_lenS {x : Operand} {ao : Option Addr} {n c : Nat} (ho : ops[i]? = some o) (hg : Region.wanted o (yielded ops a.tmps) = true) (hop : o.op = .call { callee := .builtin .len, args := #[x], argTypes := #[22] }) (hx : a.eval x = .slice ao n c) (hK : K (a.put o.dst (.int .i64 n)) w) : wpOp Tryd.prog ops Q i K a w :=
  wpOp_val (v := .int .i64 n) (w' := w) ho hg (by simp only [execOp, hop, resolve, invoke, Go.builtin, List.map_toArray, List.map_cons, List.map_nil, hx, Sem.run_bind, Sem.run_pure, Result.andThen_ok]; rw [run_len_slice w 22 o.type ao n c (by rw [show Tryd.prog.elem 22 = 5 by kernel_rfl]; exact Tryd.underlying22)]; rfl) hK
theorem wpOp_neqI {x y : Operand} {n m : Int} (ho : ops[i]? = some o) (hg : Region.wanted o (yielded ops a.tmps) = true) (hop : o.op = .binOp .neq 3 x y 3) (hx : a.eval x = .int .i64 n) (hy : a.eval y = .int .i64 m) (hK : K (a.put o.dst (.bool (n != m))) w) : wpOp Tryd.prog ops Q i K a w :=
  wpOp_val ho hg (by simp only [execOp, hop, hx, hy]; simp [go_sem]) hK
theorem wpOp_neqE {x y : Operand} {n m : Int} (ho : ops[i]? = some o) (hg : Region.wanted o (yielded ops a.tmps) = true) (hop : o.op = .binOp .neq 26 x y 26) (hx : a.eval x = .int .i64 n) (hy : a.eval y = .int .i64 m) (hK : K (a.put o.dst (.bool (n != m))) w) : wpOp Tryd.prog ops Q i K a w :=
  wpOp_val ho hg (by simp only [execOp, hop, hx, hy]; simp [go_sem]) hK
theorem wpOp_neqS {x y : Operand} {s t : ByteArray} (ho : ops[i]? = some o) (hg : Region.wanted o (yielded ops a.tmps) = true) (hop : o.op = .binOp .neq 9 x y 9) (hx : a.eval x = .string s) (hy : a.eval y = .string t) (hK : K (a.put o.dst (.bool (s.toList != t.toList))) w) : wpOp Tryd.prog ops Q i K a w :=
  wpOp_val ho hg (by simp only [execOp, hop, hx, hy]; simp [go_sem, bne]) hK
theorem wpOp_eqS {x y : Operand} {s t : ByteArray} (ho : ops[i]? = some o) (hg : Region.wanted o (yielded ops a.tmps) = true) (hop : o.op = .binOp .eql 9 x y 9) (hx : a.eval x = .string s) (hy : a.eval y = .string t) (hK : K (a.put o.dst (.bool (s.toList == t.toList))) w) : wpOp Tryd.prog ops Q i K a w :=
  wpOp_val ho hg (by simp only [execOp, hop, hx, hy]; simp [go_sem]) hK
theorem wpOp_eqI {x y : Operand} {n m : Int} (ho : ops[i]? = some o) (hg : Region.wanted o (yielded ops a.tmps) = true) (hop : o.op = .binOp .eql 3 x y 3) (hx : a.eval x = .int .i64 n) (hy : a.eval y = .int .i64 m) (hK : K (a.put o.dst (.bool (n == m))) w) : wpOp Tryd.prog ops Q i K a w :=
  wpOp_val ho hg (by simp only [execOp, hop, hx, hy]; simp [go_sem]) hK
theorem wpOp_pick2 {c x y : Operand} {b : Bool} {v u : Value} (ho : ops[i]? = some o) (hg : Region.wanted o (yielded ops a.tmps) = true) (hop : o.op = .pick c x y) (hc : a.eval c = .bool b) (hx : b = true → a.eval x = v) (hy : b = false → a.eval y = v) (hu : u = v) (hK : K (a.put o.dst u) w) : wpOp Tryd.prog ops Q i K a w := by
  subst hu
  refine wpOp_val (v := u) ho hg ?_ hK
  cases b with
  | true => simp only [execOp, hop, hc, hx rfl]; simp [go_sem]
  | false => simp only [execOp, hop, hc, hy rfl]; simp [go_sem]
theorem wpOp_conv {s t : TypeId} {x : Operand} {vx v : Value} (ho : ops[i]? = some o) (hg : Region.wanted o (yielded ops a.tmps) = true) (hop : o.op = .convert s t x) (hx : a.eval x = vx) (hrun : (convert s t vx).run Tryd.prog w = .ok v w') (hK : K (a.put o.dst v) w') : wpOp Tryd.prog ops Q i K a w :=
  wpOp_val ho hg (by simp only [execOp, hop, hx, hrun, Sem.run_bind, Sem.run_pure, Result.andThen_ok]) hK
end
end Go.Proofs.YtaijjlaheoamaaaDoor
/- A statement whose order is open: its slots stand in two runs, side by side each. Of no program. -/
namespace Go.Proofs.YtaijjlaheoamaaaDoor

section
variable {P : Program} {ops : Array Oper}
def dstsTwo (ops : Array Oper) (lo n lo2 n2 : Nat) : Bool := ops.toList.all fun o => match o.dst with | some d => decide ((lo ≤ d ∧ d < lo + n) ∨ (lo2 ≤ d ∧ d < lo2 + n2)) | none => true
theorem RegL.frame2 {I : Array Bool → World → Prop} {Sp : Nat → Value → World → Prop} {L : List Value} {D : List Deferred} {listed : Array Bool} {a : Act} {w : World} (h : RegL ops I Sp ⟨L.toArray, D⟩ listed a w) (lo n lo2 n2 : Nat) (h12 : lo + n ≤ lo2) (hn : lo2 + n2 ≤ L.length) (hds : dstsTwo ops lo n lo2 n2 = true) :
    ∃ vs us : List Value, vs.length = n ∧ us.length = n2 ∧ (∀ j, j < n → vs[j]? = some (a.tmps.getD (lo + j) undef)) ∧ (∀ j, j < n2 → us[j]? = some (a.tmps.getD (lo2 + j) undef)) ∧
      a = ⟨(L.take lo ++ (vs ++ ((L.drop (lo + n)).take (lo2 - (lo + n)) ++ (us ++ L.drop (lo2 + n2))))).toArray, D⟩ := by
  have hlen : a.tmps.size = L.length := h.len.trans (by simp)
  have hold : ∀ t, (t < lo ∨ lo + n ≤ t) → (t < lo2 ∨ lo2 + n2 ≤ t) → a.tmps.getD t undef = L.toArray.getD t undef := fun t ht ht2 => h.old t fun i o ho e => by
    have h3 := List.all_eq_true.1 hds o (Array.mem_toList_iff.2 (Array.mem_of_getElem? ho))
    rw [e] at h3
    have h4 : (lo ≤ t ∧ t < lo + n) ∨ (lo2 ≤ t ∧ t < lo2 + n2) := of_decide_eq_true h3
    omega
  refine ⟨(List.range n).map fun j => a.tmps.getD (lo + j) undef, (List.range n2).map fun j => a.tmps.getD (lo2 + j) undef, by simp, by simp, fun j hj => by simp [hj], fun j hj => by simp [hj], ?_⟩
  obtain ⟨T, D2⟩ := a
  have hD : D2 = D := h.defers
  subst hD
  have hT : T = (L.take lo ++ (((List.range n).map fun j => T.getD (lo + j) undef) ++ ((L.drop (lo + n)).take (lo2 - (lo + n)) ++ (((List.range n2).map fun j => T.getD (lo2 + j) undef) ++ L.drop (lo2 + n2))))).toArray := by
    have hTL : T.size = L.length := hlen
    have l1 : (L.take lo).length = lo := by rw [List.length_take]; omega
    have l2 : ((List.range n).map fun j => T.getD (lo + j) undef).length = n := by simp
    have l3 : ((L.drop (lo + n)).take (lo2 - (lo + n))).length = lo2 - (lo + n) := by rw [List.length_take, List.length_drop]; omega
    have l4 : ((List.range n2).map fun j => T.getD (lo2 + j) undef).length = n2 := by simp
    apply Array.ext
    · simp only [List.size_toArray, List.length_append, l1, l2, l3, l4, List.length_drop]
      omega
    · intro t h1 h2
      have ht : t < L.length := by omega
      have e1 : T[t] = T.getD t undef := by rw [Array.getD, dif_pos h1]; rfl
      rw [e1, List.getElem_toArray]
      rcases Nat.lt_or_ge t lo with c1 | c1
      · rw [hold t (.inl c1) (by omega), List.getElem_append_left (by rw [l1]; exact c1), List.getElem_take]
        simp [Array.getD, ht]
      · rw [List.getElem_append_right (by rw [l1]; exact c1)]
        rcases Nat.lt_or_ge t (lo + n) with c2 | c2
        · rw [List.getElem_append_left (by rw [l2, l1]; omega)]
          simp [l1, show lo + (t - lo) = t by omega]
        · rw [List.getElem_append_right (by rw [l2, l1]; omega)]
          rcases Nat.lt_or_ge t lo2 with c3 | c3
          · rw [hold t (.inr c2) (.inl c3), List.getElem_append_left (by rw [l3, l2, l1]; omega), List.getElem_take, List.getElem_drop]
            simp [Array.getD, ht, l1, show lo + n + (t - lo - n) = t by omega]
          · rw [List.getElem_append_right (by rw [l3, l2, l1]; omega)]
            rcases Nat.lt_or_ge t (lo2 + n2) with c4 | c4
            · rw [List.getElem_append_left (by rw [l4, l3, l2, l1]; omega)]
              simp [l1, l3, show lo2 + (t - lo - n - (lo2 - (lo + n))) = t by omega]
            · rw [hold t (.inr (by omega)) (.inr c4), List.getElem_append_right (by rw [l4, l3, l2, l1]; omega), List.getElem_drop]
              simp [Array.getD, ht, l1, l3, show lo2 + n2 + (t - lo - n - (lo2 - (lo + n)) - n2) = t by omega]
  exact congrArg (fun x => Act.mk x D2) hT
/-- Only the edges that bind in every order need stand ahead. -/
def lexAnyB (ops : Array Oper) : Bool := (List.range ops.size).all fun i => match ops[i]? with | some o => o.after.all fun e => !Region.binds .any e || decide (e.on < i) | none => true
theorem lexAny_of (h : lexAnyB ops = true) : ∀ i o, ops[i]? = some o → ∀ e ∈ o.after, Region.binds .any e = true → e.on < i := fun i o ho e he hb => by
  have hi := (Array.getElem?_eq_some_iff.1 ho).1
  have := List.all_eq_true.1 h i (List.mem_range.2 hi)
  simp only [ho] at this
  have := Array.all_eq_true_iff_forall_mem.1 this e he
  rw [hb] at this
  simpa using this
variable {Q : Exit → Act → World → Prop}
theorem wp_region_m {id : Nat} (I : Array Bool → World → Prop) (Sp : Nat → Value → World → Prop) {a0 : Act} {w : World} (hm : P.follows .mixedOrders = true)
    (hlex : lexAnyB ops = true) (hdst : dstB ops = true) (hin : inB ops a0.tmps.size = true) (hI : I (Array.replicate ops.size false) w.drew)
    (step : ∀ (i : Nat) (o : Oper), ops[i]? = some o → ∀ listed a w', RegL ops I Sp a0 listed a w' → listed.getD i false = false → (∀ e ∈ o.after, Region.binds .any e = true → listed.getD e.on false = true) →
      wpOp P ops Q i (fun a' w'' => ∃ v, a' = a.put o.dst v ∧ I (listed.setIfInBounds i true) w'' ∧ (o.dst.isSome = true → Sp i v w'') ∧ ∀ j u, listed.getD j false = true → Sp j u w' → Sp j u w'') a w')
    (fin : ∀ listed a w', RegL ops I Sp a0 listed a w' → (∀ i, i < ops.size → listed.getD i false = true) → Q .normal a w') :
    (Code.region id ops true).wp P Q a0 w := by
  have hno : ∀ i, (Array.replicate ops.size false).getD i false = false := fun i => by
    simp only [Array.getD_eq_getD_getElem?, Array.getElem?_replicate]
    split <;> rfl
  refine wp_region_any hm (wpAny_l I Sp a0 (lexAny_of hlex) (fun i j oi oj d hi hj hne hd => dst_of hdst i j oi oj d hi hj hne hd) (fun i o d hi hd => in_of hin i o d hi hd) step fin _ _ _ _ ?_ (by simp))
  refine ⟨hI, by simp, rfl, rfl, fun _ _ => rfl, ?_, ?_⟩
  · intro i o d _ hl _
    rw [hno i] at hl; cases hl
  · intro i o _ hl
    rw [hno i] at hl; cases hl
end
end Go.Proofs.YtaijjlaheoamaaaDoor
/- make of bytes. -/
namespace Go.Proofs.YtaijjlaheoamaaaDoor
open Go.RowKit

theorem made (n : Nat) : madeCells (Value.int .u8 0).cells n = (byteVals (List.replicate n 0)).toArray := by
  apply Array.ext_getElem?
  intro i
  by_cases h : i < n
  · simp [madeCells, byteVals, h, Value.cells, Nat.mod_one]
  · simp [madeCells, byteVals, h, Value.cells, Nat.mod_one]
theorem makeB (w : World) (n : Nat) (hn : n ≤ 16777216) : (Instr.makeSlice 22 (.int .i64 n) (.int .i64 n)).run Tryd.prog w = .ok (.slice (some ⟨w.heap.size, 0, none⟩) n n) (w.alloc (.cells (byteVals (List.replicate n 0)).toArray 5)) := by
  obtain ⟨i, hi, hz, hs, hb⟩ := info_parts infoU8
  have := run_makeSlice (P := Tryd.prog) w 22 5 i _ Tryd.underlying22 hi hz .i64 .i64 n n (by omega) (Int.le_refl _) (by rw [hs]; simpa using hn) (by rw [hb]; omega) (by omega)
  rw [this, hs, Nat.mul_one, Int.toNat_natCast, made]
end Go.Proofs.YtaijjlaheoamaaaDoor
/- A list's rest, its first one apart. -/
namespace Go.Proofs.YtaijjlaheoamaaaDoor

theorem drop_cons {α : Type} {L : List α} {k : Nat} {d : α} (h : k < L.length) : L.drop k = L.getD k d :: L.drop (k + 1) := by
  rw [List.drop_eq_getElem_cons h]; simp [List.getD, h]
end Go.Proofs.YtaijjlaheoamaaaDoor
/- The document's number as bytes. -/
namespace Go.Proofs.YtaijjlaheoamaaaDoor
open Go.RowKit

theorem laidB_drop {n k m : Nat} (h0 : 0 < m) (hm : m ≤ k) : (laidB n k k).drop (m - 1) = UInt8.ofNat (n / 2 ^ (8 * (k - m))) :: (laidB n k k).drop m := by
  rw [drop_cons (d := 0) (by rw [laidB_len]; omega), show m - 1 + 1 = m by omega]
  congr 1
  simp only [laidB, List.getD, List.getElem?_map, List.getElem?_range (show m - 1 < k by omega), Option.map_some, Option.getD_some]
  rw [show k - 1 - (m - 1) = k - m by omega]
/-- The document's bytes of a number, from the last one on. -/
def fillB (n k m : Nat) : List UInt8 := List.replicate m 0 ++ (laidB n k k).drop m
theorem fillB_len {n k m : Nat} (hm : m ≤ k) : (fillB n k m).length = k := by
  unfold fillB; rw [List.length_append, List.length_replicate, List.length_drop, laidB_len]; omega
theorem fillB_set {n k m : Nat} (h0 : 0 < m) (hm : m ≤ k) : (fillB n k m).set (m - 1) (UInt8.ofNat (n / 2 ^ (8 * (k - m)))) = fillB n k (m - 1) := by
  unfold fillB
  rw [laidB_drop h0 hm]
  have e1 : List.replicate m (0 : UInt8) = List.replicate (m - 1) 0 ++ [0] := by
    conv => lhs; rw [show m = (m - 1) + 1 by omega]
    rw [List.replicate_succ']
  rw [e1, List.append_assoc, List.set_append_right _ _ (by rw [List.length_replicate]; omega), List.length_replicate, Nat.sub_self]
  rfl
theorem fillB_zero (n k : Nat) : fillB n k 0 = laidB n k k := by simp [fillB]
theorem fillB_all (n k : Nat) : fillB n k k = List.replicate k 0 := by
  unfold fillB; rw [List.drop_of_length_le (by rw [laidB_len]; omega), List.append_nil]

def RefNumPost (w : World) (n : Nat) (k : Int) (e : Ending) (w' : World) : Prop :=
  ((k < 1 ∨ 8 < k) ∧ e = .returned (.tuple #[.slice none 0 0, .bool false]) ∧ w = w') ∨
  (1 ≤ k ∧ k ≤ 8 ∧ ∃ g, e = .returned (.tuple #[.slice (some ⟨g, 0, none⟩) k.toNat k.toNat, .bool (decide (n < 2 ^ (8 * k.toNat)))]) ∧ OwnB w' w.heap.size (.slice (some ⟨g, 0, none⟩) k.toNat k.toNat) (laidB n k.toNat k.toNat) ∧ Below w.heap.size w w')
set_option maxHeartbeats 1000000 in
set_option maxRecDepth 100000 in
theorem refNum_any (n : Nat) (hn : n < 18446744073709551616) (k : Int) (w : World) : Calls Tryd.prog 29 #[.int .u64 n, .int .i64 k] w fun e w' => RefNumPost w n k e w' := by
  by_cases h1 : k < 1
  · have hd : decide (k < 1) = true := by simpa using h1
    have P : RefNumPost w n k (.returned (.tuple #[.slice none 0 0, .bool false])) w := .inl ⟨.inl h1, rfl, rfl⟩
    go_enter Tryd.func29, Tryd.ntmps29
    go_wp2
    go_ret2
    exact P
  · have hd : decide (k < 1) = false := by simpa using h1
    by_cases h2 : 8 < k
    · have hd2 : decide (8 < k) = true := by simpa using h2
      have P : RefNumPost w n k (.returned (.tuple #[.slice none 0 0, .bool false])) w := .inl ⟨.inr h2, rfl, rfl⟩
      go_enter Tryd.func29, Tryd.ntmps29
      go_wp2
      go_ret2
      exact P
    · have hd2 : decide (8 < k) = false := by simpa using h2
      obtain ⟨K, rfl⟩ : ∃ K : Nat, k = K := ⟨k.toNat, by omega⟩
      have FIN := Lib.hid (fun e w' g (he : e = Ending.returned (.tuple #[.slice (some ⟨g, 0, none⟩) K K, .bool (decide (n < 2 ^ (8 * K)))])) (hO : OwnB w' w.heap.size (.slice (some ⟨g, 0, none⟩) K K) (laidB n K K)) (hb : Below w.heap.size w w') => (show RefNumPost w n (K : Int) e w' from .inr ⟨by omega, by omega, g, by rw [Int.toNat_natCast]; exact he, by rw [Int.toNat_natCast]; exact hO, hb⟩))
      go_enter Tryd.func29, Tryd.ntmps29
      have hmk := makeB w K (by omega)
      have hb0 : Below w.heap.size w (w.alloc (.cells (byteVals (List.replicate K 0)).toArray 5)) := (Below.refl _ w).alloc (Nat.le_refl _) _
      have hO0 : OwnB (w.alloc (.cells (byteVals (List.replicate K 0)).toArray 5)) w.heap.size (.slice (some ⟨w.heap.size, 0, none⟩) K K) (fillB n K K) := by
        rw [fillB_all]
        refine ⟨by simp [byteVals], .inr ⟨w.heap.size, K, _, by simp, Nat.le_refl _, heap_alloc_new w _, by simp, by unfold maxLen; omega, by simp [byteVals], by simp [byteVals]⟩⟩
      obtain ⟨W, hW⟩ : ∃ W, w.alloc (.cells (byteVals (List.replicate K 0)).toArray 5) = W := ⟨_, rfl⟩
      rw [hW] at hmk hb0 hO0
      clear hW
      go_wp2
      go_loopw [0, 7] (fun x y wr => ∃ m : Nat, y = .int .i64 ((m : Int) - 1) ∧ m ≤ K ∧ x = .int .u64 (n / 2 ^ (8 * (K - m)) : Nat) ∧ OwnB wr w.heap.size (.slice (some ⟨w.heap.size, 0, none⟩) K K) (fillB n K m) ∧ Below w.heap.size w wr)
        (fun _ y _ => (intOf y + 1).toNat)
      case atStart => exact ⟨K, rfl, Nat.le_refl _, by simp, hO0, hb0⟩
      case round =>
        obtain ⟨m, rfl, hmK, rfl, hO, hb⟩ := hrel
        by_cases hm0 : m = 0
        · subst hm0
          rw [fillB_zero] at hO
          have hge : decide ((0 : Int) ≤ ((0 : Nat) : Int) - 1) = false := by decide
          rw [Nat.sub_zero]
          by_cases hfit : n < 2 ^ (8 * K)
          · have hq0 : n / 2 ^ (8 * K) = 0 := Nat.div_eq_of_lt hfit
            rw [hq0]
            have F := Lib.hid (FIN.out _ wr w.heap.size rfl hO hb)
            rw [decide_eq_true hfit] at F
            clear hO hb hO0 hb0 hq0 hfit
            go_wp2
            go_ret2
            exact F.out
          · have hq0 : 0 < n / 2 ^ (8 * K) := Nat.div_pos (by omega) (Nat.two_pow_pos _)
            obtain ⟨q, hq⟩ : ∃ q, n / 2 ^ (8 * K) = q := ⟨_, rfl⟩
            rw [hq] at hq0 ⊢
            have hqz : ((q : Int) == 0) = false := by simp; omega
            have F := Lib.hid (FIN.out _ wr w.heap.size rfl hO hb)
            rw [decide_eq_false hfit] at F
            clear hO hb hO0 hb0 hq hfit
            go_wp2
            go_ret2
            exact F.out
        · have hge : decide ((0 : Int) ≤ (m : Int) - 1) = true := decide_eq_true (by omega)
          have hge2 : (0 : Int) ≤ (m : Int) - 1 := by omega
          have hltK : (m : Int) - 1 < (K : Int) := by omega
          obtain ⟨q, hq⟩ : ∃ q, n / 2 ^ (8 * (K - m)) = q := ⟨_, rfl⟩
          have hq64 : q < 18446744073709551616 := by rw [← hq]; exact Nat.lt_of_le_of_lt (Nat.div_le_self _ _) hn
          have hset := hO.set (m - 1) (UInt8.ofNat q)
          rw [← hq, fillB_set (by omega) hmK, hq] at hset
          have hcell : wr.cell? ⟨w.heap.size, m - 1, none⟩ = some (.int .u8 (((fillB n K m)[m - 1]?.getD 0).toNat : Int)) ∧ wr.frozen? ⟨w.heap.size, m - 1, none⟩ = false := by
            rcases hO.bytes with ⟨e, -⟩ | ⟨g', c', e, -, -, -, -, -, hcc⟩
            · cases e
            · have hg' : w.heap.size = g' := by
                injection e with e1
                injection e1 with e2
                injection e2
              subst hg'
              exact hcc (m - 1) (by rw [fillB_len hmK]; omega)
          obtain ⟨c, hc⟩ : ∃ c, (fillB n K m)[m - 1]?.getD 0 = c := ⟨_, rfl⟩
          rw [hc] at hcell
          obtain ⟨hc1, hc2⟩ := hcell
          have hbyte : (((UInt8.ofNat q).toNat : Nat) : Int) = (q : Int) % 256 := by rw [UInt8.toNat_ofNat']; exact Int.natCast_emod _ _
          rw [hbyte] at hset
          have hqq : q / 256 = n / 2 ^ (8 * (K - (m - 1))) := by
            rw [← hq, Nat.div_div_eq_div_mul, show 8 * (K - (m - 1)) = 8 * (K - m) + 8 by omega, Nat.pow_add]
          rw [hq]
          have HS := Lib.hid hset
          have HB := Lib.hid (hb.setCell (p := ⟨w.heap.size, m - 1, none⟩) (Nat.le_refl _) (.int .u8 ((q : Int) % 256)))
          have HQ := Lib.hid hqq
          have hidx : ((m - 1 : Nat) : Int) = (m : Int) - 1 := by omega
          clear hset hO hc hbyte hqq hq
          obtain ⟨j, rfl⟩ : ∃ j, m = j + 1 := ⟨m - 1, by omega⟩
          simp only [Nat.add_sub_cancel] at hc1 hc2 HS HB HQ
          have e1 : (((j + 1 : Nat) : Int) - 1) = (j : Int) := by omega
          rw [e1] at hge hge2 hltK ⊢
          go_wp2
          exact ⟨⟨j, rfl, by omega, by rw [← HQ.out, show ((q / 256 : Nat) : Int) = (q : Int) / 256 by omega], HS.out, HB.out⟩, by simp only [intOf]; omega⟩
end Go.Proofs.YtaijjlaheoamaaaDoor
/- The document's number out of bytes. -/
namespace Go.Proofs.YtaijjlaheoamaaaDoor
open Go.RowKit

def RefReadPost (w : World) (l : List UInt8) (k : Nat) (e : Ending) (w' : World) : Prop :=
  e = .returned (if l.length < k then .tuple #[.int .u64 0, .bool false] else .tuple #[.int .u64 (numOf (l.take k) : Nat), .bool true]) ∧ w = w'
set_option maxHeartbeats 1000000 in
set_option maxRecDepth 100000 in
/-- The document's Read. -/
theorem refRead_any (ao : Option Addr) (l : List UInt8) (cap k n₁ : Nat) (hk : k ≤ 8) (w : World) (hm : BytesAt n₁ w ao l) (hl : l.length ≤ 1000000) :
    Calls Tryd.prog 25 #[.slice ao l.length cap, .int .i64 k] w fun e w' => RefReadPost w l k e w' := by
  by_cases hs : l.length < k
  · have hd : decide ((l.length : Int) < (k : Int)) = true := by simp; omega
    have P : RefReadPost w l k (.returned (.tuple #[.int .u64 0, .bool false])) w := ⟨by rw [if_pos hs], rfl⟩
    go_enter Tryd.func25, Tryd.ntmps25
    go_wp2
    go_ret2
    exact P
  · have hd : decide ((l.length : Int) < (k : Int)) = false := by simp; omega
    have P : RefReadPost w l k (.returned (.tuple #[.int .u64 (numOf (l.take k) : Nat), .bool true])) w := ⟨by rw [if_neg hs], rfl⟩
    have HP := Lib.hid P
    clear P
    go_enter Tryd.func25, Tryd.ntmps25
    go_wp2
    go_loopw [6, 7, 12, 13, 14, 15, 16, 17, 18, 19, 20, 21, 22, 23, 24] (fun x y _ _ _ _ _ _ _ _ _ _ _ _ _ wr => wr = w ∧ ∃ j : Nat, j ≤ k ∧ y = .int .i64 j ∧ x = .int .u64 (numOf (l.take j) : Nat)) (fun _ y _ _ _ _ _ _ _ _ _ _ _ _ _ _ => k - (intOf y).toNat)
    case atStart => exact ⟨rfl, 0, Nat.zero_le _, rfl, by simp [numOf]⟩
    case round =>
      obtain ⟨rfl, j, hj, rfl, rfl⟩ := hrel
      by_cases hlt : j < k
      · obtain ⟨b, off, rfl, hb, hc⟩ := hm (by rintro rfl; simp at hs; omega)
        have hcj := hc j (by omega)
        have hjk : (j : Int) < k := by omega
        have hjl : (j : Int) < l.length := by omega
        have hlt2 := numOf_lt (l.take j)
        rw [List.length_take, show min j l.length = j by omega] at hlt2
        have hnt := numOf_take (l := l) (j := j) (by omega)
        obtain ⟨x, hx⟩ : ∃ x, numOf (l.take j) = x := ⟨_, rfl⟩
        obtain ⟨y, hy⟩ : ∃ y, l[j]?.getD 0 = y := ⟨_, rfl⟩
        rw [hx] at hlt2 hnt ⊢
        rw [hy] at hcj hnt
        have hx2 : x < 72057594037927936 := by have := Nat.pow_le_pow_right (n := 256) (by omega) (show j ≤ 7 by omega); omega
        have hy2 := UInt8.toNat_lt y
        have HNT := Lib.hid hnt
        clear hc hnt
        go_wp2
        exact ⟨⟨trivial, j + 1, hlt, by rw [show ((j + 1 : Nat) : Int) = (j : Int) + 1 by omega], by rw [HNT.out, show ((x * 256 + y.toNat : Nat) : Int) = 256 * (x : Int) + (y.toNat : Int) by omega]⟩, by simp only [intOf]; omega⟩
      · obtain rfl : j = k := by omega
        have hjk : ¬ ((j : Int) < j) := by omega
        go_wp2
        go_ret2
        exact HP.out
end Go.Proofs.YtaijjlaheoamaaaDoor
/- Layer 4: the bytes of a head's parts. -/
namespace Go.Proofs.YtaijjlaheoamaaaDoor
open Go.RowKit

def laidParts (ps : List (Nat × Nat)) : List UInt8 := ps.flatMap fun x => laidB x.1 x.2 x.2
theorem laidParts_snoc (ps : List (Nat × Nat)) (x : Nat × Nat) : laidParts (ps ++ [x]) = laidParts ps ++ laidB x.1 x.2 x.2 := by simp [laidParts]
theorem laidParts_len (ps : List (Nat × Nat)) (h : ∀ x ∈ ps, x.2 ≤ 8) : (laidParts ps).length ≤ ps.length * 8 := by
  induction ps with
  | nil => simp [laidParts]
  | cons x ps ih =>
    have := ih (fun y hy => h y (by simp [hy]))
    have h2 := h x (by simp)
    rw [show laidParts (x :: ps) = laidB x.1 x.2 x.2 ++ laidParts ps from rfl, List.length_append, laidB_len, List.length_cons]
    omega
theorem wNum_fits {l : List UInt8} {n k : Nat} (h1 : 1 ≤ k) (h8 : k ≤ 8) (hn : n < 2 ^ (8 * k)) (hl : l.length + k ≤ 65536) : wNum l n (k : Int) = (0, l ++ laidB n k k) := by
  unfold wNum
  rw [if_neg (by rw [Int.toNat_natCast]; omega), Int.toNat_natCast, if_neg (by omega)]
/-- From the block's first cell on lie these parts. -/
def PartRows (w : World) (P : Nat) (ps : List (Nat × Nat)) : Prop := P < w.heap.size ∧ ∀ j, j < ps.length → w.cell? ⟨P, j * 2, none⟩ = some (.int .u64 ((ps.getD j (0, 0)).1 : Int)) ∧ w.cell? ⟨P, j * 2 + 1, none⟩ = some (.int .i64 ((ps.getD j (0, 0)).2 : Int))
theorem PartRows.below {w w' : World} {P : Nat} {ps : List (Nat × Nat)} (h : PartRows w P ps) (hb : Below w.heap.size w w') : PartRows w' P ps :=
  ⟨Nat.lt_of_lt_of_le h.1 hb.size, fun j hj => ⟨(hb.cell (p := ⟨P, j * 2, none⟩) h.1).trans (h.2 j hj).1, (hb.cell (p := ⟨P, j * 2 + 1, none⟩) h.1).trans (h.2 j hj).2⟩⟩
def LaidPost (w : World) (l : List UInt8) (e : Ending) (w' : World) : Prop := ∃ v, e = .returned v ∧ OwnB w' w.heap.size v l ∧ Below w.heap.size w w'
set_option maxRecDepth 100000 in
set_option maxHeartbeats 1000000 in
theorem laid_any (w : World) (P c : Nat) (ps : List (Nat × Nat)) (hp : PartRows w P ps) (hok : ∀ x ∈ ps, 1 ≤ x.2 ∧ x.2 ≤ 8 ∧ x.1 < 2 ^ (8 * x.2)) (hf : ps.length ≤ 100) :
    Calls Tryd.prog 42 #[.slice (some ⟨P, 0, none⟩) ps.length c] w fun e w' => LaidPost w (laidParts ps) e w' := by
  have hmf : ∀ (fn : Fn) (first cap : Array Value) (w : World), (Instr.makeFunc fn first cap).run Tryd.prog w = .ok (.func fn first cap) w := fun _ _ _ _ => rfl
  have HP := Lib.hid hp
  have HO := Lib.hid hok
  clear hp hok
  go_enter Tryd.func42, Tryd.ntmps42
  go_wp2_with (go_at_call 45; refine (newWriter_any _).mono ?_; rintro e w1 ⟨rfl, hW1, hb1⟩)
  obtain ⟨B, hB⟩ : ∃ B, w.heap.size = B := ⟨_, rfl⟩
  rw [hB]
  rw [hB] at hW1 hb1
  have HBe := Lib.hid hB
  clear hB
  go_loopw [6, 12, 13, 14, 15, 16, 17, 18, 19, 20, 21, 22] (fun _ i _ _ _ _ _ _ _ _ _ _ wr => ∃ (k : Nat) (v : Value), i = .int .i64 k ∧ k ≤ ps.length ∧ IsWr B wr B v (laidParts (ps.take k)) ∧ Below B w wr)
    (fun _ i _ _ _ _ _ _ _ _ _ _ _ => ps.length - (intOf i).toNat)
  case atStart => exact ⟨0, _, rfl, Nat.zero_le _, hW1, hb1⟩
  case round =>
    obtain ⟨k, v, rfl, hk, hW, hbr⟩ := hrel
    by_cases hlt : k < ps.length
    · have hP := HP.out.below (HBe.out ▸ hbr)
      obtain ⟨hc1, hc2⟩ := hP.2 k hlt
      have hPlt := hP.1
      clear hP
      have hx := HO.out (ps.getD k (0, 0)) (by rw [List.getD_eq_getElem?_getD, List.getElem?_eq_getElem hlt]; exact List.getElem_mem hlt)
      have hts : ps.take (k + 1) = ps.take k ++ [ps.getD k (0, 0)] := by
        rw [List.take_succ_eq_append_getElem hlt, List.getD_eq_getElem?_getD, List.getElem?_eq_getElem hlt]; rfl
      have hll : (laidParts (ps.take k)).length ≤ 800 := by
        have := laidParts_len (ps.take k) (fun x hx => (HO.out x (List.mem_of_mem_take hx)).2.1)
        have := List.length_take_le k ps
        omega
      obtain ⟨⟨n, s⟩, hx0⟩ : ∃ x, ps.getD k (0, 0) = x := ⟨_, rfl⟩
      rw [hx0] at hx hc1 hc2 hts
      dsimp only at hx hc1 hc2
      have hnum := wNum_fits (l := laidParts (ps.take k)) hx.1 hx.2.1 hx.2.2 (by omega)
      rw [← laidParts_snoc (ps.take k) (n, s), ← hts] at hnum
      have HN := Lib.hid hnum
      have HV := Lib.hid (hW.own.block)
      have HB := Lib.hid hbr
      clear hnum hts hx0 hll hbr
      have hkL : (k : Int) < (ps.length : Int) := by omega
      have hle := Nat.le_of_lt hW.lt
      have hW' := fun o => hW.below ((Below.refl _ _).alloc (Nat.le_refl _) o)
      have HW := Lib.hid hW'
      clear hW'
      go_wp2_with (go_at_call 46; refine (wnum_any (HW.out _) n (s : Int)).mono ?_; rw [HN.out]; rintro e w2 ⟨rfl, v2, hW2, hg2⟩; have hsz := HB.out.size; have HB2 := Lib.hid (hg2.below (n₀ := B) (by have := HBe.out; simp; omega) (Nat.le_refl _) (HV.out)); clear HW)
      refine ⟨⟨k + 1, v2, by rw [show ((k + 1 : Nat) : Int) = (k : Int) + 1 by omega], hlt, hW2, ?_⟩, by simp only [intOf]; omega⟩
      exact (HB.out.alloc (by have := HBe.out; omega) _).trans (HB2.out.mono (by have := HBe.out; omega))
    · obtain rfl : k = ps.length := by omega
      have hkL : ¬ ((ps.length : Int) < (ps.length : Int)) := by omega
      rw [List.take_length] at hW
      have HB := Lib.hid hbr
      clear hbr hb1 hW1
      go_wp2_with (go_at_call 47; refine (wbytes_any hW).mono ?_; rintro e w2 ⟨v2, rfl, hO2, hb2⟩)
      go_ret
      have hsz := HB.out.size
      have he := HBe.out
      exact ⟨v2, rfl, hO2.mono (by omega), by rw [he]; exact HB.out.trans (hb2.mono (by omega))⟩
end Go.Proofs.YtaijjlaheoamaaaDoor
/- Two words for a walk that comes to an append: halt there; take a run that is known. -/
namespace Go.Proofs.YtaijjlaheoamaaaDoor
open Go.RowKit

section
variable {P : Program} {Q : Exit → Act → World → Prop}
theorem wpList_append_val {w w' : World} {v' : Value} {ops : Array Oper} {rest : List Oper} {o : Oper} {a : Act} {s x : Operand} {ts : Array TypeId} {vs vx : Value} (hgd : o.guard = none) (ho : o.op = .call { callee := .builtin .append, args := #[s, x], argTypes := ts }) (hs : a.eval s = vs) (hx : a.eval x = vx)
    (hr : (Builtin.append_ ts o.type #[vs, vx]).run P w = .ok v' w') (h : wpList P ops Q rest (a.put o.dst v') w') : wpList P ops Q (o :: rest) a w := by
  refine wpList_plain hgd fun K hK => ?_
  unfold Oper.wp execOp
  simp only [ho, resolve, invoke, builtin, Sem.run_bind, Sem.run_pure, Result.andThen_ok, List.map_toArray, List.map_cons, List.map_nil, hs, hx, hr]
  exact hK _ _ h
end
theorem stop_here {p : Prop} (h : Hid p) : p := h
end Go.Proofs.YtaijjlaheoamaaaDoor
/- Plain numbers for layer 1: sums are linear; what bytes of 0 make of a sum; runs that are joined. Nothing of the program. -/
namespace Go.Proofs.YtaijjlaheoamaaaDoor

/-- A function on numbers of 32 bits that keeps xor. -/
structure Lin (f : Nat → Nat) : Prop where
  lt : ∀ a, a < 4294967296 → f a < 4294967296
  xor : ∀ a b, a < 4294967296 → b < 4294967296 → f (a ^^^ b) = f a ^^^ f b
theorem Lin.zero {f : Nat → Nat} (h : Lin f) : f 0 = 0 := by
  have := h.xor 0 0 (by decide) (by decide)
  simpa using this
theorem Lin.comp {f g : Nat → Nat} (hf : Lin f) (hg : Lin g) : Lin (fun s => f (g s)) :=
  ⟨fun a ha => hf.lt _ (hg.lt a ha), fun a b ha hb => by rw [hg.xor a b ha hb, hf.xor _ _ (hg.lt a ha) (hg.lt b hb)]⟩
theorem Lin.id : Lin (fun s => s) := ⟨fun _ h => h, fun _ _ _ _ => rfl⟩

theorem crcT_xor (a b : Nat) (ha : a < 16) (hb : b < 16) : crcT (a ^^^ b) = crcT a ^^^ crcT b := by
  have : ∀ x y : Fin 16, crcT (x.1 ^^^ y.1) = crcT x.1 ^^^ crcT y.1 := by decide +kernel
  exact this ⟨a, ha⟩ ⟨b, hb⟩
theorem xor_xchg (a b c d : Nat) : (a ^^^ b) ^^^ (c ^^^ d) = (a ^^^ c) ^^^ (b ^^^ d) := by
  rw [Nat.xor_assoc, Nat.xor_assoc, ← Nat.xor_assoc b c d, Nat.xor_comm b c, Nat.xor_assoc c b d]
theorem crcHalf_xor (a b : Nat) : crcHalf (a ^^^ b) = crcHalf a ^^^ crcHalf b := by
  unfold crcHalf
  rw [show (16 : Nat) = 2 ^ 4 from rfl, Nat.xor_mod_two_pow, Nat.xor_div_two_pow, crcT_xor _ _ (Nat.mod_lt _ (by decide)) (Nat.mod_lt _ (by decide)), xor_xchg]
theorem crcWord_xor (a b : Nat) : crcWord (a ^^^ b) = crcWord a ^^^ crcWord b := by
  unfold crcWord; rw [crcHalf_xor, crcHalf_xor]
/-- One step: linear in the sum and the byte together. -/
theorem crcStep_xor (s t a b : Nat) : crcStep (s ^^^ t) (a ^^^ b) = crcStep s a ^^^ crcStep t b := by
  unfold crcStep
  rw [show (256 : Nat) = 2 ^ 8 from rfl, Nat.xor_mod_two_pow, Nat.xor_div_two_pow, xor_xchg, crcWord_xor, xor_xchg]
theorem crcStep_zero (s b : Nat) : crcStep s b = crcStep s 0 ^^^ crcStep 0 b := by
  have := crcStep_xor s 0 0 b
  simpa using this

/-- What one byte of 0 makes of a sum. -/
def crcZ (s : Nat) : Nat := crcStep s 0
theorem crcZ_lin : Lin crcZ := ⟨fun _ h => crcStep_lt h (by decide), fun a b _ _ => by
  have := crcStep_xor a b 0 0
  simpa [crcZ] using this⟩
/-- What n bytes of 0 make of a sum. -/
def crcZs : Nat → Nat → Nat
  | 0, s => s
  | n + 1, s => crcZs n (crcZ s)
theorem crcZs_lin : ∀ n, Lin (crcZs n)
  | 0 => Lin.id
  | n + 1 => (crcZs_lin n).comp crcZ_lin
theorem crcZs_add : ∀ m n s, crcZs (m + n) s = crcZs n (crcZs m s)
  | 0, n, s => by simp [crcZs]
  | m + 1, n, s => by rw [show m + 1 + n = (m + n) + 1 by omega]; exact crcZs_add m n (crcZ s)

/-- A lead's numbers, put together by the bits of s. -/
def leadOf (f : Nat → Nat) (s : Nat) : Nat → Nat
  | 0 => 0
  | k + 1 => if s / 2 ^ k % 2 = 1 then leadOf f s k ^^^ f (2 ^ k) else leadOf f s k
theorem pow32 {k : Nat} (h : k < 32) : 2 ^ k < 4294967296 := Nat.pow_lt_pow_right (a := 2) (by decide) h
theorem split_bit {s k : Nat} (h : s / 2 ^ k % 2 = 1) : s % 2 ^ (k + 1) = s % 2 ^ k ^^^ 2 ^ k := by
  apply Nat.eq_of_testBit_eq
  intro i
  rw [Nat.testBit_xor, Nat.testBit_mod_two_pow, Nat.testBit_mod_two_pow, Nat.testBit_two_pow]
  have hk : s.testBit k = true := by rw [Nat.testBit_eq_decide_div_mod_eq]; simp [h]
  by_cases h1 : i < k
  · simp [h1, show i < k + 1 by omega, show ¬ k = i by omega]
  · by_cases h2 : i = k
    · subst h2; simp [hk]
    · simp [show ¬ i < k + 1 by omega, h1, show ¬ k = i by omega]
theorem split_nobit {s k : Nat} (h : ¬ s / 2 ^ k % 2 = 1) : s % 2 ^ (k + 1) = s % 2 ^ k := by
  apply Nat.eq_of_testBit_eq
  intro i
  rw [Nat.testBit_mod_two_pow, Nat.testBit_mod_two_pow]
  have hk : s.testBit k = false := by rw [Nat.testBit_eq_decide_div_mod_eq]; simp [h]
  by_cases h1 : i < k
  · simp [h1, show i < k + 1 by omega]
  · by_cases h2 : i = k
    · subst h2; simp [hk]
    · simp [show ¬ i < k + 1 by omega, h1]
theorem leadOf_eq {f : Nat → Nat} (hf : Lin f) (s : Nat) (hs : s < 4294967296) : ∀ k, k ≤ 32 → leadOf f s k = f (s % 2 ^ k)
  | 0, _ => by simp [leadOf, Nat.mod_one, hf.zero]
  | k + 1, hk => by
    have ih := leadOf_eq hf s hs k (by omega)
    unfold leadOf
    have hm : s % 2 ^ k < 4294967296 := Nat.lt_of_le_of_lt (Nat.mod_le _ _) hs
    split
    · rename_i h
      rw [split_bit h, hf.xor _ _ hm (pow32 (by omega)), ih]
    · rename_i h
      rw [split_nobit h, ih]
theorem leadOf_all {f : Nat → Nat} (hf : Lin f) {s : Nat} (hs : s < 4294967296) : leadOf f s 32 = f s := by
  rw [leadOf_eq hf s hs 32 (by omega), Nat.mod_eq_of_lt hs]
theorem leadOf_lt {f : Nat → Nat} (hf : Lin f) {s : Nat} (hs : s < 4294967296) {k : Nat} (hk : k ≤ 32) : leadOf f s k < 4294967296 := by
  rw [leadOf_eq hf s hs k hk]; exact hf.lt _ (Nat.lt_of_le_of_lt (Nat.mod_le _ _) hs)

/- RUNS THAT ARE JOINED. -/
theorem crcRun_split : ∀ (l : List UInt8) (s : Nat), s < 4294967296 → crcRun s l = crcZs l.length s ^^^ crcRun 0 l
  | [], s, _ => by simp [crcRun, crcZs]
  | b :: l, s, hs => by
    have hb := UInt8.toNat_lt b
    have e : crcRun s (b :: l) = crcRun (crcStep s b.toNat) l := rfl
    have e0 : crcRun 0 (b :: l) = crcRun (crcStep 0 b.toNat) l := rfl
    have h0 : crcStep 0 b.toNat < 4294967296 := crcStep_lt (by decide) hb
    rw [e, e0, crcRun_split l _ (crcStep_lt hs hb), crcRun_split l (crcStep 0 b.toNat) h0, crcStep_zero s, (crcZs_lin l.length).xor _ _ (crcStep_lt hs (by decide)) h0, Nat.xor_assoc]
    rfl
theorem crcSum_eq (l : List UInt8) : crcSum l = 4294967295 ^^^ crcRun 4294967295 l := (not_nat (crcRun_lt (by decide) l)).symm
theorem crcSum_lt (l : List UInt8) : crcSum l < 4294967296 := by unfold crcSum; omega
theorem crcSum_append (x y : List UInt8) : crcSum (x ++ y) = crcZs y.length (crcSum x) ^^^ crcSum y := by
  have hx := crcRun_lt (s := 4294967295) (by decide) x
  rw [crcSum_eq, crcSum_eq, crcSum_eq, crcRun_append, crcRun_split y _ hx, crcRun_split y 4294967295 (by decide), (crcZs_lin y.length).xor _ _ (by decide) hx]
  generalize crcZs y.length (crcRun 4294967295 x) = a
  generalize crcZs y.length 4294967295 = b
  generalize crcRun 0 y = c
  rw [← Nat.xor_assoc 4294967295 a c, ← Nat.xor_assoc 4294967295 b c, Nat.xor_comm 4294967295 a, Nat.xor_comm 4294967295 b, Nat.xor_comm b a, Nat.xor_assoc b 4294967295 c, Nat.xor_assoc a b, ← Nat.xor_assoc b b, Nat.xor_self, Nat.zero_xor, Nat.xor_assoc]
end Go.Proofs.YtaijjlaheoamaaaDoor
/- The contract of layer 1's Sum: of any parts the sum of their bytes, one part behind the other; what lay in memory stays. -/
namespace Go.Proofs.YtaijjlaheoamaaaDoor
open Go.RowKit Go.Shelf

attribute [local go_sem] Oper.semAt_some

theorem Tab.below {A B : World} {n₀ : Nat} (hn : 0 + 1 ≤ n₀) (h : Below n₀ A B) (k : Tab A) : Tab B := fun i hi => (h.cell (p := ⟨0, i, none⟩) hn).trans (k i hi)

theorem take_succ_get {l : List UInt8} {k : Nat} (h : k < l.length) : l.take (k + 1) = l.take k ++ [l[k]?.getD 0] := by
  rw [List.take_succ_eq_append_getElem h]; simp [h]
theorem flat_succ {ls : List (List UInt8)} {k : Nat} (h : k < ls.length) : (ls.take (k + 1)).flatten = (ls.take k).flatten ++ ls[k]?.getD [] := by
  rw [List.take_succ_eq_append_getElem h, List.flatten_append]; congr 1; simp [h]
theorem flat_lt {ls : List (List UInt8)} {k j : Nat} (h : k < ls.length) (hj : j < (ls[k]?.getD []).length) : (ls.take k).flatten.length + j < ls.flatten.length := by
  have e : ls.flatten = (ls.take (k + 1)).flatten ++ (ls.drop (k + 1)).flatten := by rw [← List.flatten_append, List.take_append_drop]
  rw [e, flat_succ h, List.length_append, List.length_append]; omega

set_option maxHeartbeats 1000000 in
/-- each: the parts are boxed; the function that comes back holds the box. -/
theorem each_in (F : Fence) (n : Nat) (hf : F.fn 59) (hro : F.round = none) (a : Option Addr) (len cap : Nat) (w : World) :
    CallsIn F n Tryd.prog 59 #[.slice a len cap] w fun e w' => e = .returned (.func (.func 70) #[] #[.pointer (some ⟨w.heap.size, 0, none⟩)]) ∧ w.alloc (.cells #[.slice a len cap] 71) = w' := by
  refine callsIn_of_wp Tryd.func59 rfl hf ?_ hro
  simp only [Tryd.ntmps59, List.size_toArray, List.length_cons, List.length_nil, Nat.reduceAdd, Nat.reduceSub, Array.replicate_succ, Array.replicate_zero, List.push_toArray, List.append_toArray, List.nil_append, List.cons_append]
  gi_wp2
  go_ret
  exact ⟨rfl, rfl⟩

set_option maxRecDepth 100000 in
set_option maxHeartbeats 2000000 in
/-- What each hands back goes over the bytes of the parts, one part behind the other. -/
theorem each1_in (F : Fence) (n : Nat) (hf : F.fn 70) (hro : F.round = none) (hn : 1 ≤ n) (l Bs : Nat) (K : Nat → Prop) (a : Option Addr) (cap : Nat) (ls : List (List UInt8)) (hls : ls.length ≤ 9223372036854775807) (J Jx : List UInt8 → World → Prop)
    (hY : ∀ pre x W, J pre W → pre.length < ls.flatten.length → YieldAt F (n - 1) Tryd.prog l #[.int .u8 ((x : UInt8).toNat : Int)] W fun e W' =>
      (e = .returned (.bool true) ∧ J (pre ++ [x]) W' ∧ KeepsOn K W W') ∨ (e = .returned (.bool false) ∧ Jx (pre ++ [x]) W'))
    (W : World) (hBs : W.cell? ⟨Bs, 0, none⟩ = some (.slice a ls.length cap)) (hc : PartsOn K W a ls) (h0 : J [] W) :
    CallsIn F n Tryd.prog 70 #[.func (.yield l) #[] #[], .pointer (some ⟨Bs, 0, none⟩)] W fun e W' => (∃ v, e = .returned v) ∧
      ((∃ ys, ys = ls.flatten ∧ J ys W') ∨ (∃ pre, True ∧ Jx pre W')) := by
  refine callsIn_of_wp Tryd.func70 rfl hf ?_ hro
  simp only [Tryd.ntmps70, List.size_toArray, List.length_cons, List.length_nil, Nat.reduceAdd, Nat.reduceSub, Array.replicate_succ, Array.replicate_zero, List.push_toArray, List.append_toArray, List.nil_append, List.cons_append]
  gi_wp2
  gi_loopw [9] (fun i wr => ∃ k : Nat, k ≤ ls.length ∧ i = .int .i64 k ∧ J (ls.take k).flatten wr ∧ KeepsOn K W wr)
    (fun i _ => ls.length - (intOf i).toNat)
  case atStart => exact ⟨0, Nat.zero_le _, rfl, h0, KeepsOn.refl _ _⟩
  case round =>
    obtain ⟨k, hk, rfl, hJs, hnx⟩ := hrel
    obtain ⟨wo, rfl⟩ : ∃ wo : World, wo = wr := ⟨_, rfl⟩
    by_cases hlt : k < ls.length
    · obtain ⟨b, off, rfl, hb, hcs⟩ := hc (by rintro rfl; simp at hlt)
      obtain ⟨hpl, ai, ci, hcx, hba⟩ := hcs k hlt
      have hcx' := (hnx.cell hb).trans hcx
      have HF := Lib.hid (flat_succ hlt)
      have HT := Lib.hid (fun j (hj : j < (ls[k]?.getD []).length) => flat_lt hlt hj)
      obtain ⟨pt, hpt⟩ : ∃ pt, ls[k]?.getD [] = pt := ⟨_, rfl⟩
      rw [hpt] at hcx' hba hpl HF HT
      clear hpt hcs hcx
      gi_wp2
      gi_loopw [15] (fun i wr => ∃ j : Nat, j ≤ pt.length ∧ i = .int .i64 j ∧ J ((ls.take k).flatten ++ pt.take j) wr ∧ KeepsOn K W wr)
        (fun i _ => pt.length - (intOf i).toNat)
      case atStart => exact ⟨0, Nat.zero_le _, rfl, by simpa using hJs, hnx⟩
      case round =>
        obtain ⟨j, hj, rfl, hJ2, hn2⟩ := hrel
        by_cases hlj : j < pt.length
        · obtain ⟨b2, off2, rfl, hb2, hc2⟩ := hba (by rintro rfl; simp at hlj)
          have hcy := (hn2.cell hb2).trans (hc2 j hlj)
          have hts := take_succ_get hlj
          obtain ⟨x, hx⟩ : ∃ x, pt[j]?.getD 0 = x := ⟨_, rfl⟩
          rw [hx] at hcy hts
          have HS := Lib.hid hts
          clear hx hts hc2
          obtain ⟨fn, tmps, assign, body, hy, hR⟩ := hY _ x wr hJ2 (by have := HT.out j hlj; rw [List.length_append, List.length_take]; omega)
          gi_wp2
          refine hR.mono ?_
          rintro e W3 (⟨rfl, hJ3, hk3⟩ | ⟨rfl, hJx3⟩)
          · gi_wp2
            go_roundw
            case rel => exact ⟨j + 1, by omega, by go_num, by rw [HS.out, ← List.append_assoc]; exact hJ3, hn2.trans hk3⟩
            case measure => simp [intOf]; omega
          · gi_wp2
            refine bodyPost_ret (results_none rfl _ _ _) rfl ?_
            exact ⟨⟨_, rfl⟩, .inr ⟨_, trivial, hJx3⟩⟩
        · obtain rfl : j = pt.length := by omega
          gi_wp2
          go_roundw
          case rel => exact ⟨k + 1, by omega, by go_num, by rw [HF.out]; simpa using hJ2, hn2⟩
          case measure => simp [intOf]; omega
    · obtain rfl : k = ls.length := by omega
      gi_wp2
      go_end0
      exact ⟨⟨_, rfl⟩, .inl ⟨_, rfl, by simpa using hJs⟩⟩

theorem each_stops (F : Fence) (n : Nat) (hf : F.fn 70) (hro : F.round = none) (hn : 1 ≤ n) (Bs : Nat) (K : Nat → Prop) (a : Option Addr) (cap : Nat) (ls : List (List UInt8)) (hls : ls.length ≤ 9223372036854775807) (w : World) (hBs : Bs < w.heap.size) (hK : ∀ k, K k → k < w.heap.size)
    (hb : w.cell? ⟨Bs, 0, none⟩ = some (.slice a ls.length cap)) (hc : PartsOn K w a ls) :
    SeqStopsK F n Tryd.prog 70 #[.pointer (some ⟨Bs, 0, none⟩)] (fun x : UInt8 => #[Value.int .u8 (x.toNat : Int)]) (KeepsOn K) (fun ys => ys = ls.flatten) (fun _ => True) ls.flatten.length w := fun l J Jx W hW _ _ hY h0 =>
  each1_in F n hf hro hn l Bs K a cap ls hls J Jx hY W ((hW.cell (p := ⟨Bs, 0, none⟩) hBs).trans hb) (hc.keeps (.of_below hW hK)) h0
theorem keepsOn_b {K : Nat → Prop} {w : World} (hK : ∀ k, K k → k < w.heap.size) (W : World) (l : Nat) (o o' : Obj) (hl : w.heap.size ≤ l) (h : W.heap[l]? = some o) (_ : o.isCells = false) (_ : o.isWalk = false) : KeepsOn K W (W.putObj l o') :=
  .of_grown (grownBy_putObj' W l o') (fun k hk => by have := hK k hk; have := (Array.getElem?_eq_some_iff.1 h).1; exact ⟨by omega, fun e => by cases e; omega⟩)

set_option maxRecDepth 100000 in
set_option maxHeartbeats 2000000 in
/-- Sum: of any parts the sum of their bytes; nothing that lay turns. -/
theorem sum_wide (n : Nat) (hn : 4 ≤ n) (a : Option Addr) (cap : Nat) (ls : List (List UInt8)) (hls : ls.length ≤ 9223372036854775807)
    (w : World) (ht : Tab w) (h1w : 0 + 1 ≤ w.heap.size) (hc : PartsAt w.heap.size w a ls) :
    CallsIn Fence.wide n Tryd.prog 43 #[.slice a ls.length cap] w fun e W' => e = .returned (.int .u32 (crcSum ls.flatten : Int)) ∧ Below w.heap.size w W' := by
  have h1 : 1 ≤ n := by omega
  refine callsIn_of_wp_marks Tryd.func43 rfl trivial ?_ rfl
  simp only [Tryd.ntmps43, List.size_toArray, List.length_cons, List.length_nil, Nat.reduceAdd, Nat.reduceSub, Array.replicate_succ, Array.replicate_zero, List.push_toArray, List.append_toArray, List.nil_append, List.cons_append]
  gi_wp2_with (refine ⟨trivial, ?_⟩; gi_at_call 59; refine (each_in Fence.wide (n - 1) trivial rfl _ _ _ _).mono ?_; rintro e w' ⟨rfl, rfl⟩)
  have bS := Boxed.new w 86 (.int .u32 4294967295)
  have bN := Boxed.new (w.alloc (.cells #[.int .u32 4294967295] 86)) 71 (.slice a ls.length cap)
  rw [World.size_alloc] at bN
  have hB0 : Below w.heap.size w ((w.alloc (.cells #[.int .u32 4294967295] 86)).alloc (.cells #[.slice a ls.length cap] 71)) := ((Below.refl _ w).alloc (Nat.le_refl _) _).alloc (by simp) _
  refine wpIn_rangeFunc_ownF rfl h1 (gf := 70) (lb := #[.pointer (some ⟨w.heap.size + 1, 0, none⟩)]) rfl trivial (enters_of Tryd.func70 (by kernel_rfl) rfl)
    (each_stops Fence.wide (n - 1) trivial rfl (by omega) (w.heap.size + 1) (fun k => k < w.heap.size) a cap ls hls _ (by simp) (fun k hk => by simp; omega) bN.cell (hc.below hB0).on) KeepsOn.trans (keepsOn_b (fun k hk => by simp; omega)) (Below.refl _ _) (fun _ => rfl)
    (fun pre W => (W.cell? ⟨w.heap.size, 0, none⟩ = some (.int .u32 (crcRun 4294967295 pre : Int)) ∧ W.frozen? ⟨w.heap.size, 0, none⟩ = false) ∧ Below w.heap.size w W)
    (fun _ _ _ => False)
    (OwnFrom.and (Own.from (fun s A B row hs hg hr => ⟨cell_kept hs.1 hg hr, (frozen_kept hs.1 hg hr).trans hs.2⟩) _) (ownFrom_below (Nat.le_refl _) (by simp; omega)))
    (fun _ _ _ _ _ hs _ _ => hs)
    ⟨⟨(bS.alloc _).cell, (bS.alloc _).frozen⟩, hB0⟩
    (fun x => { tmps := #[.slice a ls.length cap, undef, .int .u32 0, .pointer (some ⟨w.heap.size, 0, none⟩), .int .u8 (x.toNat : Int), .slice a ls.length cap, .func (.func 70) #[] #[.pointer (some ⟨w.heap.size + 1, 0, none⟩)], .int .u8 (x.toNat : Int), undef, undef, undef, undef, undef], defers := [] }) ?assign ?body ?done ?stop
  case assign =>
    intro l x W K hK
    gi_wp2
    exact hK
  case body =>
    rintro l pre x W ⟨⟨hc, hf⟩, hB⟩ _
    have hT := ht.below h1w hB
    have hR := crcRun_lt (s := 4294967295) (by decide) pre
    have hdp : Fence.wide.depth.isSome = true → 1 ≤ n - 1 - 1 := fun _ => by omega
    gi_wp2_with (refine ⟨trivial, hdp, ?_⟩; refine (CallsIn.inRound l (callsIn_wide.2 (step_any _ _ hR _ hT))).mono ?_; rintro e w' ⟨rfl, rfl⟩)
    exact ⟨KeepsOthers.setCell _ _ _, KeepsOn.of_below ((Below.refl w.heap.size W).setCell (p := ⟨w.heap.size, 0, none⟩) (Nat.le_refl _) _) (fun _ h => h), ⟨by rw [crcRun_snoc]; exact World.cell?_setCell_same' _ _ _ (by rw [hc]; rfl), by rw [World.frozen?_setCell]; exact hf⟩, hB.setCell (p := ⟨w.heap.size, 0, none⟩) (Nat.le_refl _) _⟩
  case done =>
    rintro D ys W hD rfl ⟨⟨hc, _⟩, hB⟩ hK
    have hx := not32 (crcRun_lt (s := 4294967295) (by decide) ls.flatten)
    have hs : IntKind.u32.signed = false := rfl
    gi_wp2
    refine ⟨by simp, .inl ⟨_, _, rfl, run_takeDeferred hK, ?_⟩⟩
    exact ⟨_, results_tmp rfl _ _ _, rfl, hB.trans (belowK_b (w := w) (Nat.le_refl _) W D _ _ (by simp at hD; omega) hK rfl rfl)⟩
  case stop =>
    rintro D c pre W _ _ h _
    exact h.elim

theorem sum_any (a : Option Addr) (cap : Nat) (ls : List (List UInt8)) (hls : ls.length ≤ 9223372036854775807) (w : World) (ht : Tab w) (h1w : 0 + 1 ≤ w.heap.size) (hc : PartsAt w.heap.size w a ls) :
    Calls Tryd.prog 43 #[.slice a ls.length cap] w fun e W' => e = .returned (.int .u32 (crcSum ls.flatten : Int)) ∧ Below w.heap.size w W' :=
  callsIn_wide.1 (sum_wide 4 (by decide) a cap ls hls w ht h1w hc)
end Go.Proofs.YtaijjlaheoamaaaDoor
/- The contracts of the document's own answers for layer 1: a byte's word bit by bit, the sum of bytes. -/
namespace Go.Proofs.YtaijjlaheoamaaaDoor
open Go.RowKit

/-- One halving. -/
def halving (q : Nat) : Nat := if q % 2 = 1 then (q / 2) ^^^ 3988292384 else q / 2
def halvings : Nat → Nat → Nat
  | 0, q => q
  | k + 1, q => halving (halvings k q)
theorem halving_lt {q : Nat} (h : q < 4294967296) : halving q < 4294967296 := by
  unfold halving
  split
  · exact xor_lt32 (by omega) (by decide)
  · omega
theorem halvings_lt {q : Nat} (h : q < 4294967296) : ∀ k, halvings k q < 4294967296
  | 0 => h
  | k + 1 => halving_lt (halvings_lt h k)
theorem halvings_word (b : UInt8) : halvings 8 b.toNat = crcWord b.toNat := by
  have : ∀ x : Fin 256, halvings 8 x.1 = crcWord x.1 := by decide +kernel
  exact this ⟨b.toNat, UInt8.toNat_lt b⟩

set_option maxHeartbeats 1000000 in
theorem refWord_any (b : Nat) (hb : b < 256) (w : World) :
    Calls Tryd.prog 57 #[.int .u8 b] w fun e w' => e = .returned (.int .u32 (crcWord b : Int)) ∧ w = w' := by
  have HW := Lib.hid (halvings_word (UInt8.ofNat b))
  rw [UInt8.toNat_ofNat_of_lt' hb] at HW
  have hlt2 : ∀ k, halvings k b < 4294967296 := halvings_lt (by omega)
  have HL := Lib.hid hlt2
  clear hlt2
  go_enter Tryd.func57, Tryd.ntmps57
  go_wp2_with fail
  go_loop [3, 4] (fun s i => ∃ k : Nat, k ≤ 8 ∧ i = .int .i64 k ∧ s = .int .u32 (halvings k b : Int)) (fun _ i => 8 - (intOf i).toNat)
  case atStart => exact ⟨0, by omega, rfl, by simp [halvings]⟩
  case round =>
    obtain ⟨k, hk, rfl, rfl⟩ := hrel
    have hq := HL.out k
    obtain ⟨q, hqq⟩ : ∃ q, halvings k b = q := ⟨_, rfl⟩
    have HS : Hid (halvings (k + 1) b = halving q) := by rw [← hqq]; rfl
    rw [hqq] at hq ⊢
    by_cases hlt : k < 8
    · have hx := xor32 (x := q / 2) (y := 3988292384) (by omega) (by decide)
      rw [Int.natCast_ediv] at hx
      by_cases ho : q % 2 = 1
      · have hbit : ((q : Int) % 2 == 1) = true := by rw [show (q : Int) % 2 = 1 by omega]; rfl
        clear hqq
        go_wp2_with fail
        go_round
        case rel => exact ⟨k + 1, by omega, by go_num, by rw [HS.out, halving, if_pos ho]; exact congrArg _ hx⟩
        case measure => simp [intOf]; omega
      · have hbit : ((q : Int) % 2 == 1) = false := by rw [show (q : Int) % 2 = 0 by omega]; rfl
        clear hqq
        go_wp2_with fail
        go_round
        case rel => exact ⟨k + 1, by omega, by go_num, by rw [HS.out, halving, if_neg ho]; simp⟩
        case measure => simp [intOf]; omega
    · obtain rfl : k = 8 := by omega
      rw [HW.out] at hqq
      subst hqq
      go_wp2_with fail
      go_ret
      exact ⟨rfl, rfl⟩

set_option maxHeartbeats 1000000 in
theorem refSum_any (n₀ : Nat) (a : Option Addr) (cap : Nat) (l : List UInt8) (hl : l.length ≤ 9223372036854775807) (w : World) (hc : BytesAt n₀ w a l) :
    Calls Tryd.prog 39 #[.slice a l.length cap] w fun e w' => e = .returned (.int .u32 (crcSum l : Int)) ∧ w = w' := by
  have HE : Hid (crcSum l = 4294967295 - crcRun 4294967295 l) := rfl
  have HL := Lib.hid (crcRun_lt (s := 4294967295) (by decide))
  go_enter Tryd.func39, Tryd.ntmps39
  go_wp2_with fail
  go_loop [3, 4] (fun s i => ∃ k : Nat, k ≤ l.length ∧ i = .int .i64 k ∧ s = .int .u32 (crcRun 4294967295 (l.take k) : Int)) (fun _ i => l.length - (intOf i).toNat)
  case atStart => exact ⟨0, by omega, rfl, by simp [crcRun]⟩
  case round =>
    obtain ⟨k, hk, rfl, rfl⟩ := hrel
    have hq := HL.out (l.take k)
    by_cases hlt : k < l.length
    · obtain ⟨b, off, rfl, hb, hcs⟩ := hc (by rintro rfl; simp at hlt)
      have hcell := hcs k hlt
      have hts := take_succ_get hlt
      obtain ⟨x, hx⟩ : ∃ x, l[k]?.getD 0 = x := ⟨_, rfl⟩
      rw [hx] at hcell hts
      have HS : Hid (crcRun 4294967295 (l.take (k + 1)) = crcStep (crcRun 4294967295 (l.take k)) x.toNat) := by rw [hts]; exact crcRun_snoc _ _ _
      clear hx hts hcs
      obtain ⟨q, hqq⟩ : ∃ q, crcRun 4294967295 (l.take k) = q := ⟨_, rfl⟩
      rw [hqq] at hq HS ⊢
      have hx8 := UInt8.toNat_lt x
      have x8 : bits .xor .u8 ((q : Int) % 256 % 256) (x.toNat : Int) = (((q % 256) ^^^ x.toNat : Nat) : Int) := by
        have := xor8 (x := q % 256) (y := x.toNat) (by omega) hx8
        rw [show (q : Int) % 256 % 256 = ((q % 256 : Nat) : Int) by omega]; exact this
      have x8' : bits .xor .u8 ((q : Int) % 256) (x.toNat : Int) = (((q % 256) ^^^ x.toNat : Nat) : Int) := by
        have := xor8 (x := q % 256) (y := x.toNat) (by omega) hx8
        rw [show (q : Int) % 256 = ((q % 256 : Nat) : Int) by omega]; exact this
      have hy : (q % 256) ^^^ x.toNat < 256 := xor_lt8 (by omega) hx8
      obtain ⟨y, hyy⟩ : ∃ y, (q % 256) ^^^ x.toNat = y := ⟨_, rfl⟩
      have HS2 : Hid (crcStep q x.toNat = crcWord y ^^^ q / 256) := by rw [← hyy]; rfl
      rw [hyy] at x8 x8' hy
      have x32 := xor32 (crcWord_lt hy) (y := q / 256) (by omega)
      rw [Int.natCast_ediv] at x32
      clear hyy hqq
      go_wp2_with (go_at_call 57; refine (refWord_any _ hy _).mono ?_; rintro e w' ⟨rfl, rfl⟩)
      go_round
      case rel => exact ⟨k + 1, by omega, by go_num, by rw [HS.out, HS2.out]; first | rfl | exact congrArg _ x32⟩
      case measure => simp [intOf]; omega
    · obtain rfl : k = l.length := by omega
      rw [List.take_length] at hq ⊢
      go_wp2_with fail
      go_ret
      exact ⟨by rw [HE.out]; go_num, rfl⟩
end Go.Proofs.YtaijjlaheoamaaaDoor

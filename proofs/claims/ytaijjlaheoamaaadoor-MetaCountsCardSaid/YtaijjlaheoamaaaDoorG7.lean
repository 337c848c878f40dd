/- Texts of the proof in one file, in build order: MetaG, MetaH, Round, MetaI, MetaJ, MetaK, MetaL. -/
import Derived.Laws.CopyRow
import Derived.Test.YtaijjlaheoamaaaDoorG6
import Derived.RangeFuncNested
import Derived.RangeFuncBound
import Derived.RangeFuncCalls
import Derived.RangeFuncLeaves
import Derived.Shelf.Abstract
import Derived.Shelf.RegionOpen
import Derived.WalkKit
import Derived.OwnWalkIn
import Derived.TacticsInMore
import Derived.LoopNIn
import Derived.LoopIn
import Derived.Test.YtaijjlaheoamaaaDoorG1
/- Layer 6: both pages' bytes. -/
namespace Go.Proofs.YtaijjlaheoamaaaDoor
open Go.RowKit

set_option maxRecDepth 100000 in
set_option maxHeartbeats 1000000 in
theorem pages_any (w : World) (P : Nat) (a1 a2 : Option Addr) (n1 c1 n2 c2 : Nat) (h : w.heap[P]? = some (.cells #[.slice a1 n1 c1, .slice a2 n2 c2] 22 (0, 0))) : Calls Tryd.prog 20 #[.slice (some ⟨P, 0, none⟩) 2 2] w fun e w' => e = .returned (.agg #[.slice a1 n1 c1, .slice a2 n2 c2]) ∧ Below w.heap.size w w' := by
  have hlt := (Array.getElem?_eq_some_iff.1 h).1
  have hb0 : Below w.heap.size w (w.alloc (.cells #[.slice none 0 0, .slice none 0 0] 50)) := (Below.refl _ _).alloc (Nat.le_refl _) _
  have hr0 := heap_alloc_new w (.cells #[.slice none 0 0, .slice none 0 0] 50)
  have hP := (Below.heap_alloc w (.cells #[.slice none 0 0, .slice none 0 0] 50) P hlt).trans h
  have hcp := run_copy_row (P := Tryd.prog) (w.alloc (.cells #[.slice none 0 0, .slice none 0 0] 50)) 71 71 3 22 w.heap.size 0 2 2 ⟨P, 0, none⟩ 2 2 #[.slice none 0 0, .slice none 0 0] _ [.slice a1 n1 c1, .slice a2 n2 c2] Tryd.underlying71 (by kernel_rfl) hr0 rfl (fun j v hv => by
      rw [addr_add, Nat.zero_add, cell_of_row _ _ _ _ _ _ hP]
      simpa using hv) (by simp) (by simp [Value.oneCell'])
  simp only [List.take_zero, List.nil_append, List.length_cons, List.length_nil, Nat.zero_add, Nat.reduceAdd, List.drop_succ_cons, List.drop_nil, List.append_nil] at hcp
  have hb1 := hb0.grown (row_grown _ w.heap.size #[.slice a1 n1 c1, .slice a2 n2 c2]) hb0.size (fun q e => by cases e; exact Nat.le_refl _)
  have hr1 := row_set #[.slice a1 n1 c1, .slice a2 n2 c2] hr0
  generalize (w.alloc (.cells #[.slice none 0 0, .slice none 0 0] 50)).setRow w.heap.size #[.slice a1 n1 c1, .slice a2 n2 c2] = W1 at hcp hb1 hr1
  have HX := Lib.hid (And.intro hb1 hr1)
  have d0 := cell_of_row W1 w.heap.size 0 _ _ _ hr1; have f0 := frozen_of_row W1 w.heap.size 0 _ _ hr1
  have d1 := cell_of_row W1 w.heap.size 1 _ _ _ hr1; have f1 := frozen_of_row W1 w.heap.size 1 _ _ hr1
  simp only [List.getElem?_toArray, List.getElem?_cons_zero, List.getElem?_cons_succ] at d0 d1
  clear hb0 hr0 hP h hb1 hr1 hlt
  go_enter Tryd.func20, Tryd.ntmps20
  go_wp2_with fail
  obtain ⟨hb, hr⟩ := HX.out
  have e1 := heap_setCell_same _ _ 1 _ _ (.slice a2 n2 c2) (heap_setCell_same _ _ 0 _ _ (.slice a1 n1 c1) hr)
  have hbb := (hb.setCell (p := ⟨w.heap.size, 0, none⟩) (Nat.le_refl _) (.slice a1 n1 c1)).setCell (p := ⟨w.heap.size, 1, none⟩) (Nat.le_refl _) (.slice a2 n2 c2)
  refine bodyPost_ret (results_cell_row rfl _ _ _ _ _ _ _ rfl e1 Tryd.underlying50 rfl (by kernel_rfl)) rfl ?_
  exact ⟨rfl, hbb⟩
end Go.Proofs.YtaijjlaheoamaaaDoor
/- Layer 6: those that stand, handed over one by one. -/
namespace Go.Proofs.YtaijjlaheoamaaaDoor
open Go.RowKit Go.Shelf

attribute [local go_sem] Oper.semAt_some

/-- Which meta these bytes are at that number. -/
def Opt (n : Int) (b : List UInt8) : Option Mt → Prop
  | some m => IsMt n b m
  | none => ∀ m, ¬ IsMt n b m
theorem isMt_one {n : Int} {b : List UInt8} {m m' : Mt} (h : IsMt n b m) (h' : IsMt n b m') : m = m' := by
  have hp := h.look.2.2.1
  rw [tells_one ((isMt_iff hp).1 h).2, tells_one ((isMt_iff hp).1 h').2]
theorem opt_some (n : Int) (b : List UInt8) : ∃ o, Opt n b o := by
  by_cases h : ∃ m, IsMt n b m
  · obtain ⟨m, h⟩ := h; exact ⟨some m, h⟩
  · exact ⟨none, fun m hm => h ⟨m, hm⟩⟩
def optM (o : Option Mt) : Value := match o with | some m => m.val | none => mtv 0 0 0 0
def optE (n : Int) (b : List UInt8) (o : Option Mt) : Int := match o with | some _ => 0 | none => errM n b
theorem mparse_opt (n : Int) (b : List UInt8) (a : Option Addr) (c n₁ : Nat) (hc : b.length ≤ c) (hlb : b.length ≤ 9223372036854775807) (w : World) (hm : BytesAt n₁ w a b) (hn₁ : n₁ ≤ w.heap.size) (hno : a = none → c = 0) (hT : Tab w) (hg : 0 + 1 ≤ w.heap.size) (o : Option Mt) (ho : Opt n b o) :
    Calls Tryd.prog 11 #[.int .i64 n, .slice a b.length c] w fun e w' => e = .returned (.tuple #[optM o, .int .i64 (optE n b o)]) ∧ Below w.heap.size w w' := by
  refine (mparse_any n b a c n₁ hc hlb w hm hn₁ hno hT hg).mono ?_
  rintro e w' ⟨hb, ⟨m, hm, rfl⟩ | ⟨hm, rfl⟩⟩
  · cases o with
    | some m' => rw [isMt_one hm ho]; exact ⟨rfl, hb⟩
    | none => exact absurd hm (ho m)
  · cases o with
    | some m' => exact absurd ho (hm m')
    | none => exact ⟨rfl, hb⟩
theorem errM_ne (n : Int) (b : List UInt8) : errM n b ≠ 0 := by unfold errM; split <;> decide
theorem index_b0 (v0 v1 : Value) (w : World) : (Instr.index 50 (.agg #[v0, v1]) (.int .i64 0)).run Tryd.prog w = .ok v0 w := by kernel_rfl
theorem index_b1 (v0 v1 : Value) (w : World) : (Instr.index 50 (.agg #[v0, v1]) (.int .i64 1)).run Tryd.prog w = .ok v1 w := by kernel_rfl
def stL (oa ob : Option Mt) : Nat → List Mt
  | 0 => []
  | 1 => oa.toList
  | _ => oa.toList ++ ob.toList
abbrev BsAt (n₀ : Nat) (W : World) (a : Option Addr) (l : List UInt8) (c : Nat) : Prop := BytesAt n₀ W a l ∧ (a = none → c = 0) ∧ l.length ≤ c ∧ l.length ≤ 9223372036854775807
set_option maxRecDepth 100000 in
set_option maxHeartbeats 2000000 in
theorem stand1_in (n : Nat) (hn : 1 ≤ n) (l Bs n₀ : Nat) (a1 a2 : Option Addr) (la lb : List UInt8) (c1 c2 : Nat) (oa ob : Option Mt) (hoa : Opt 0 la oa) (hob : Opt 1 lb ob) (J Jx : List Mt → World → Prop)
    (W : World) (hJ : AbidesFrom W.heap.size J)
    (hY : ∀ pre x W, J pre W → pre.length < (oa.toList ++ ob.toList).length → YieldAt Fence.wide (n - 1) Tryd.prog l #[.int .i64 (x : Mt).t, x.val] W fun e W' =>
      (e = .returned (.bool true) ∧ J (pre ++ [x]) W' ∧ Below n₀ W W') ∨ (e = .returned (.bool false) ∧ Jx (pre ++ [x]) W'))
    (hn0 : n₀ ≤ W.heap.size) (hc0 : W.cell? ⟨Bs, 0, none⟩ = some (.slice a1 la.length c1)) (hc1 : W.cell? ⟨Bs, 1, none⟩ = some (.slice a2 lb.length c2))
    (hA : BsAt n₀ W a1 la c1) (hB : BsAt n₀ W a2 lb c2) (hT : Tab W) (hg : 0 + 1 ≤ n₀) (h0 : J [] W) :
    CallsIn Fence.wide n Tryd.prog 31 #[.func (.yield l) #[] #[], .pointer (some ⟨Bs, 0, none⟩)] W fun e W' => (∃ v, e = .returned v) ∧
      ((∃ ys, ys = oa.toList ++ ob.toList ∧ J ys W') ∨ (∃ pre, True ∧ Jx pre W')) := by
  refine callsIn_of_wp Tryd.func31 rfl trivial ?_ rfl
  simp only [Tryd.ntmps31, List.size_toArray, List.length_cons, List.length_nil, Nat.reduceAdd, Nat.reduceSub, Array.replicate_succ, Array.replicate_zero, List.push_toArray, List.append_toArray, List.nil_append, List.cons_append]
  have HA := Lib.hid (And.intro hA (And.intro hB (And.intro hT hg)))
  clear hA hB hT hg
  gi_wp2
  gi_loopw [3, 4, 5, 6, 8, 9, 10, 11, 12, 13, 14, 15, 16, 17, 18, 19, 20, 21, 22, 23, 24, 25, 26, 27, 28] (fun _ _ _ _ i _ _ _ _ _ _ _ _ _ _ _ _ _ _ _ _ _ _ _ _ wr => ∃ k : Nat, k ≤ 2 ∧ i = .int .i64 k ∧ J (stL oa ob k) wr ∧ Below n₀ W wr)
    (fun _ _ _ _ i _ _ _ _ _ _ _ _ _ _ _ _ _ _ _ _ _ _ _ _ _ => 2 - (intOf i).toNat)
  case atStart => exact ⟨0, Nat.zero_le _, rfl, h0, Below.refl _ _⟩
  case round =>
    obtain ⟨k, hk, rfl, hJr, hbr⟩ := hrel
    by_cases hlt : k < 2
    · obtain rfl | rfl : k = 0 ∨ k = 1 := by omega
      · have hix := index_b0 (.slice a1 la.length c1) (.slice a2 lb.length c2)
        cases oa with
        | none =>
          have HQ := Lib.hid (mparse_opt 0 la a1 c1 n₀ HA.out.1.2.2.1 HA.out.1.2.2.2 wr (HA.out.1.1.below hbr) (Nat.le_trans hn0 hbr.size) HA.out.1.2.1 (HA.out.2.2.1.below HA.out.2.2.2 hbr) (Nat.le_trans HA.out.2.2.2 (Nat.le_trans hn0 hbr.size)) none hoa)
          have HX := Lib.hid (And.intro hJr hbr)
          have hee : ((errM 0 la) == 0) = false := by simpa using errM_ne 0 la
          simp only [optM, optE] at HQ
          generalize errM 0 la = ee at HQ hee
          clear hY hJr hbr hc0 hc1 hlt
          gi_wp2_with (refine ⟨trivial, ?_⟩; gi_at_call 11; refine (callsIn_wide.2 HQ.out).mono ?_; rintro e w2 ⟨rfl, hb2⟩)
          have hal := hb2.alloc hb2.size (.cells #[.int .i64 0, .int .i64 0, .int .i64 0, .int .i64 0] 25)
          refine ⟨fun _ _ => trivial, ?_⟩
          gi_wp2
          go_roundw
          case rel => exact ⟨1, by decide, by go_num, by have h := hJ _ _ _ none (HX.out.1) (below_grown hal) (fun r e => by cases e); exact h, HX.out.2.trans (hal.mono (Nat.le_trans hn0 HX.out.2.size))⟩
          case measure => simp [intOf]
        | some m =>
          have HQ := Lib.hid (mparse_opt 0 la a1 c1 n₀ HA.out.1.2.2.1 HA.out.1.2.2.2 wr (HA.out.1.1.below hbr) (Nat.le_trans hn0 hbr.size) HA.out.1.2.1 (HA.out.2.2.1.below HA.out.2.2.2 hbr) (Nat.le_trans HA.out.2.2.2 (Nat.le_trans hn0 hbr.size)) (some m) hoa)
          have HX := Lib.hid (And.intro hJr hbr)
          simp only [optM, optE] at HQ
          have HY := Lib.hid (fun W (h : J (stL (some m) ob 0) W) => hY _ m W h (by simp [stL]))
          have HL := Lib.hid (show stL (some m) ob 1 = stL (some m) ob 0 ++ [m] by simp [stL])
          clear hY hJr hbr hc0 hc1 hlt
          gi_wp2_with (refine ⟨trivial, ?_⟩; gi_at_call 11; refine (callsIn_wide.2 HQ.out).mono ?_; rintro e w2 ⟨rfl, hb2⟩; have hal := hb2.alloc hb2.size (.cells #[.int .i64 m.t, .int .i64 m.r, .int .i64 m.f, .int .i64 m.h] 25); have HAL := Lib.hid hal; obtain ⟨fn, tmps, assign, body, hy, hR⟩ := HY.out _ (hJ _ _ _ none (HX.out.1) (below_grown hal) (fun r e => by cases e)); clear hal hb2)
          refine hR.mono ?_
          rintro e W3 (⟨rfl, hJ3, hk3⟩ | ⟨rfl, hJx3⟩)
          · gi_wp2
            go_roundw
            case rel => exact ⟨1, by decide, by go_num, by rw [HL.out]; exact hJ3, HX.out.2.trans ((HAL.out.mono (Nat.le_trans hn0 HX.out.2.size)).trans hk3)⟩
            case measure => simp [intOf]
          · gi_wp2
            refine bodyPost_ret (results_none rfl _ _ _) rfl ?_
            exact ⟨⟨_, rfl⟩, .inr ⟨_, trivial, hJx3⟩⟩
      · have hix := index_b1 (.slice a1 la.length c1) (.slice a2 lb.length c2)
        cases ob with
        | none =>
          have HQ := Lib.hid (mparse_opt 1 lb a2 c2 n₀ HA.out.2.1.2.2.1 HA.out.2.1.2.2.2 wr (HA.out.2.1.1.below hbr) (Nat.le_trans hn0 hbr.size) HA.out.2.1.2.1 (HA.out.2.2.1.below HA.out.2.2.2 hbr) (Nat.le_trans HA.out.2.2.2 (Nat.le_trans hn0 hbr.size)) none hob)
          have HX := Lib.hid (And.intro hJr hbr)
          have hee : ((errM 1 lb) == 0) = false := by simpa using errM_ne 1 lb
          simp only [optM, optE] at HQ
          generalize errM 1 lb = ee at HQ hee
          clear hY hJr hbr hc0 hc1 hlt
          gi_wp2_with (refine ⟨trivial, ?_⟩; gi_at_call 11; refine (callsIn_wide.2 HQ.out).mono ?_; rintro e w2 ⟨rfl, hb2⟩)
          have hal := hb2.alloc hb2.size (.cells #[.int .i64 0, .int .i64 0, .int .i64 0, .int .i64 0] 25)
          refine ⟨fun _ _ => trivial, ?_⟩
          gi_wp2
          go_roundw
          case rel => exact ⟨2, by decide, by go_num, by have h := hJ _ _ _ none (HX.out.1) (below_grown hal) (fun r e => by cases e); simpa [stL] using h, HX.out.2.trans (hal.mono (Nat.le_trans hn0 HX.out.2.size))⟩
          case measure => simp [intOf]
        | some m =>
          have HQ := Lib.hid (mparse_opt 1 lb a2 c2 n₀ HA.out.2.1.2.2.1 HA.out.2.1.2.2.2 wr (HA.out.2.1.1.below hbr) (Nat.le_trans hn0 hbr.size) HA.out.2.1.2.1 (HA.out.2.2.1.below HA.out.2.2.2 hbr) (Nat.le_trans HA.out.2.2.2 (Nat.le_trans hn0 hbr.size)) (some m) hob)
          have HX := Lib.hid (And.intro hJr hbr)
          simp only [optM, optE] at HQ
          have HY := Lib.hid (fun W (h : J (stL oa (some m) 1) W) => hY _ m W h (by simp [stL]))
          have HL := Lib.hid (show stL oa (some m) 2 = stL oa (some m) 1 ++ [m] by simp [stL])
          clear hY hJr hbr hc0 hc1 hlt
          gi_wp2_with (refine ⟨trivial, ?_⟩; gi_at_call 11; refine (callsIn_wide.2 HQ.out).mono ?_; rintro e w2 ⟨rfl, hb2⟩; have hal := hb2.alloc hb2.size (.cells #[.int .i64 m.t, .int .i64 m.r, .int .i64 m.f, .int .i64 m.h] 25); have HAL := Lib.hid hal; obtain ⟨fn, tmps, assign, body, hy, hR⟩ := HY.out _ (hJ _ _ _ none (HX.out.1) (below_grown hal) (fun r e => by cases e)); clear hal hb2)
          refine hR.mono ?_
          rintro e W3 (⟨rfl, hJ3, hk3⟩ | ⟨rfl, hJx3⟩)
          · gi_wp2
            go_roundw
            case rel => exact ⟨2, by decide, by go_num, by rw [HL.out]; exact hJ3, HX.out.2.trans ((HAL.out.mono (Nat.le_trans hn0 HX.out.2.size)).trans hk3)⟩
            case measure => simp [intOf]
          · gi_wp2
            refine bodyPost_ret (results_none rfl _ _ _) rfl ?_
            exact ⟨⟨_, rfl⟩, .inr ⟨_, trivial, hJx3⟩⟩
    · obtain rfl : k = 2 := by omega
      have hlt2 : ¬ ((2 : Int) < 2) := by decide
      clear hY
      gi_wp2
      go_end0
      exact ⟨⟨_, rfl⟩, .inl hJr⟩
end Go.Proofs.YtaijjlaheoamaaaDoor
/- A loop over an iterator that reads memory of its own making: what it hands over is told of the world at each call of the round. And: a statement in a round does what it does anywhere. Of no program. -/
namespace Go.Proofs.YtaijjlaheoamaaaDoor
open Go.RowKit

section
variable {P : Program} {ops : Array Oper} {Q : Exit → Act → World → Prop}
/-- The fence that asks nothing, in a round of loop l. -/
abbrev rnd (l : Nat) : Fence := Fence.wide.inRound l

def noDeferB (ops : Array Oper) : Bool := ops.toList.all fun o => match o.op with | .defer _ => false | _ => true
theorem noDefer_of (h : noDeferB ops = true) {i : Nat} {o : Oper} (ho : ops[i]? = some o) : ∀ c, o.op ≠ .defer c := fun c e => by
  have h1 := List.all_eq_true.1 h o (by rw [Array.mem_toList_iff]; exact Array.mem_of_getElem? ho)
  simp only [e] at h1
  cases h1
theorem oper_round {l n : Nat} {o : Oper} (hd : ∀ c, o.op ≠ .defer c) {a : Act} {w : World} {K : Act → World → Prop} (h : o.wp P a w K Q) : o.wpIn (rnd l) n P a w K Q := by
  refine ⟨fun _ _ => trivial, ?_⟩
  show o.uponIn (rnd l) n P a K Q ((o.semAt (some l) a.eval).run P w)
  rw [Oper.semAt_some l _ _ hd]
  unfold Oper.wp at h
  generalize (execOp a.eval o).run P w = r at h ⊢
  cases r with
  | ok x w' =>
    cases x <;> simp only [Oper.upon, Oper.uponIn] at h ⊢ <;>
      first
        | exact h
        | exact ⟨fun hx => (by cases hx), CallsIn.inRound l (CallsIn.mono ((callsIn_wide (n := n - 1)).2 h) (fun e w'' he => by cases e <;> exact he))⟩
        | exact ⟨fun hx => (by cases hx), fun c cs _ => (h c cs).elim fun v hv => hv.elim fun w'' hw => ⟨v, w'', hw.1, stepsIn_wide.2 hw.2⟩⟩
        | exact False.elim h
  | halt x w' => cases x <;> simp only [Oper.upon, Oper.uponIn] at h ⊢ <;> exact h
theorem wpOp_round {l n : Nat} (hL : ¬LetsOut Q) (hd : noDeferB ops = true) {i : Nat} {a : Act} {w : World} {K K' : Act → World → Prop} (hk : ∀ a w, K a w → K' a w) (h : wpOp P ops Q i K a w) : wpOpIn (rnd l) n P ops Q i K' a w := by
  unfold wpOp at h
  unfold wpOpIn
  cases ho : ops[i]? with
  | none => simp only [ho] at h; exact hk _ _ h
  | some o =>
    simp only [ho] at h ⊢
    by_cases hw : Region.wanted o (yielded ops a.tmps) = true
    · rw [if_pos hw] at h ⊢
      rcases h with h | h
      · exact Oper.wpIn_mono hk (oper_round (noDefer_of hd ho) h)
      · exact absurd h.2 hL
    · rw [if_neg hw] at h ⊢
      exact ⟨fun _ _ => trivial, hk _ _ h⟩
theorem wpOps_round {l n : Nat} (hL : ¬LetsOut Q) (hd : noDeferB ops = true) : ∀ (is : List Nat) (a : Act) (w : World), wpOps P ops Q is a w → wpOpsIn (rnd l) n P ops Q is a w
  | [], _, _, h => h
  | i :: rest, a, w, h => by
    rw [wpOpsIn_cons]
    rw [wpOps_cons] at h
    exact wpOp_round hL hd (fun a w => wpOps_round hL hd rest a w) h
/-- One operation by a law of the walk at no fence. -/
theorem wpListIn_one {F : Fence} {n : Nat} (hF : F = Fence.wide ∨ ∃ l, F = rnd l) {o : Oper} {rest : List Oper} {a : Act} {w : World} (hg : o.guard = none) (hnd : (match o.op with | .defer _ => false | _ => true) = true)
    (h : wpList P ops (fun e a' w' => e = .normal ∧ wpListIn F n P ops Q rest a' w') [o] a w) : wpListIn F n P ops Q (o :: rest) a w := by
  have hd : ∀ c, o.op ≠ .defer c := fun c e => by rw [e] at hnd; cases hnd
  refine wpListIn_plain hg fun K hK => ?_
  unfold wpList at h
  rw [if_pos (by simp only [Region.wanted, hg])] at h
  rcases h with h | ⟨-, ⟨_, _, h, -⟩⟩
  · have hfn : ∀ f, F.fn f := by rcases hF with rfl | ⟨l, rfl⟩ <;> exact fun _ => trivial
    have hdep : F.depth.isSome = false := by rcases hF with rfl | ⟨l, rfl⟩ <;> rfl
    have hcall : ∀ {f args w R}, Calls P f args w R → CallsIn F (n - 1) P f args w R := by
      intro f args w R hc
      rcases hF with rfl | ⟨l, rfl⟩
      · exact callsIn_wide.2 hc
      · exact CallsIn.inRound l (callsIn_wide.2 hc)
    have hrow : ∀ {f args w R}, Rows P f args w R → RowsIn F (n - 1) P f args w R := by
      intro f args w R hc c cs _
      obtain ⟨v, w', r, s⟩ := hc c cs
      refine ⟨v, w', r, ?_⟩
      rcases hF with rfl | ⟨l, rfl⟩
      · exact stepsIn_wide.2 s
      · exact stepsIn_wide.2 s
    refine ⟨fun _ _ => hfn _, ?_⟩
    rw [Oper.semAt_plain F _ _ hd]
    unfold Oper.wp at h
    generalize (execOp a.eval o).run P w = r at h ⊢
    cases r with
    | ok x w' =>
      cases x <;> simp only [Oper.upon, Oper.uponIn] at h ⊢ <;>
        first
          | exact hK _ _ h.2
          | exact ⟨fun hx => (by rw [hdep] at hx; cases hx), CallsIn.mono (hcall h) (fun e w'' he => by
              cases e with
              | returned v => exact hK _ _ he.2
              | panicked c => exact absurd he.1 (by simp)
              | outgrown => exact (by obtain ⟨_, _, h, -⟩ := he; cases h))⟩
          | exact ⟨fun hx => (by rw [hdep] at hx; cases hx), RowsIn.mono (hrow h) (fun _ _ he => hK _ _ he.2)⟩
          | exact False.elim h
    | halt x w' =>
      cases x <;> simp only [Oper.upon, Oper.uponIn] at h ⊢
      all_goals first | exact h | exact absurd h.1 (by simp)
  · cases h
/-- A statement in a round. -/
theorem region_round {l n id : Nat} {a : Act} {w : World} (hL : ¬LetsOut Q) (hd : noDeferB ops = true) (h : wpList P ops Q ops.toList a w) : (Code.region id ops false).wpIn (rnd l) n P Q a w :=
  wpIn_region (wpOps_round hL hd _ _ _ (by rw [List.range_eq_range', ← Array.length_toList, wpOps_eq_wpList ops.toList 0 (by simp)]; exact h))
theorem wpAny_round {l n : Nat} (hL : ¬LetsOut Q) (hd : noDeferB ops = true) : ∀ (fuel : Nat) (listed : Array Bool) (a : Act) (w : World), wpAny P .any ops Q fuel listed a w → wpAnyIn (rnd l) n P .any ops Q fuel listed a w
  | 0, _, _, _, h => h
  | fuel + 1, _, _, _, h => ⟨h.1, fun i hi => wpOp_round hL hd (fun a w => wpAny_round hL hd fuel _ a w) (h.2 i hi)⟩
/-- A statement in a round whose order Go leaves open. -/
theorem region_round_l {l n id : Nat} (I : Array Bool → World → Prop) (Sp : Nat → Value → World → Prop) {a0 : Act} {w : World} (hm : P.follows .mixedOrders = true) (hL : ¬LetsOut Q) (hd : noDeferB ops = true)
    (hlex : lexB ops = true) (hdst : dstB ops = true) (hin : inB ops a0.tmps.size = true) (hI : I (Array.replicate ops.size false) w.drew)
    (step : ∀ (i : Nat) (o : Oper), ops[i]? = some o → ∀ listed a w', RegL ops I Sp a0 listed a w' → listed.getD i false = false → (∀ e ∈ o.after, Region.binds .any e = true → listed.getD e.on false = true) →
      wpOp P ops Q i (fun a' w'' => ∃ v, a' = a.put o.dst v ∧ I (listed.setIfInBounds i true) w'' ∧ (o.dst.isSome = true → Sp i v w'') ∧ ∀ j u, listed.getD j false = true → Sp j u w' → Sp j u w'') a w')
    (fin : ∀ listed a w', RegL ops I Sp a0 listed a w' → (∀ i, i < ops.size → listed.getD i false = true) → Q .normal a w') :
    (Code.region id ops true).wpIn (rnd l) n P Q a0 w := by
  have hno : ∀ i, (Array.replicate ops.size false).getD i false = false := fun i => by
    simp only [Array.getD_eq_getD_getElem?, Array.getElem?_replicate]
    split <;> rfl
  refine wpIn_region_any hm (wpAny_round hL hd _ _ _ _ (wpAny_l I Sp a0 (lex_of hlex) (fun i j oi oj d hi hj hne hd => dst_of hdst i j oi oj d hi hj hne hd) (fun i o d hi hd => in_of hin i o d hi hd) step fin _ _ _ _ ?_ (by simp)))
  refine ⟨hI, by simp, rfl, rfl, fun _ _ => rfl, ?_, ?_⟩
  · intro i o d _ hl _
    rw [hno i] at hl; cases hl
  · intro i o _ hl
    rw [hno i] at hl; cases hl
end

/- The same, where what is known may hang on the activation too. -/
section
variable {P : Program} {ops : Array Oper} {Q : Exit → Act → World → Prop}
theorem wpAny_j (I : Array Bool → World → Prop) (Sp : Nat → Value → World → Prop) (J : Array Bool → Act → World → Prop) (a0 : Act)
    (hlex : ∀ i o, ops[i]? = some o → ∀ e ∈ o.after, Region.binds .any e = true → e.on < i)
    (hd : ∀ (i j : Nat) (oi oj : Oper) (d : Tmp), ops[i]? = some oi → ops[j]? = some oj → i ≠ j → oi.dst = some d → oj.dst ≠ some d)
    (hin : ∀ (i : Nat) (o : Oper) (d : Tmp), ops[i]? = some o → o.dst = some d → d < a0.tmps.size)
    (step : ∀ (i : Nat) (o : Oper), ops[i]? = some o → ∀ listed a w, RegL ops I Sp a0 listed a w → J listed a w → listed.getD i false = false → (∀ e ∈ o.after, Region.binds .any e = true → listed.getD e.on false = true) →
      wpOp P ops Q i (fun a' w' => ∃ v, a' = a.put o.dst v ∧ I (listed.setIfInBounds i true) w' ∧ (o.dst.isSome = true → Sp i v w') ∧ (∀ j u, listed.getD j false = true → Sp j u w → Sp j u w') ∧ J (listed.setIfInBounds i true) a' w') a w)
    (fin : ∀ listed a w, RegL ops I Sp a0 listed a w → J listed a w → (∀ i, i < ops.size → listed.getD i false = true) → Q .normal a w) :
    ∀ (fuel : Nat) (listed : Array Bool) (a : Act) (w : World), RegL ops I Sp a0 listed a w → J listed a w → listed.toList.count false = fuel → wpAny P .any ops Q fuel listed a w := by
  intro fuel
  induction fuel with
  | zero =>
    intro listed a w hI hJ hc
    have hno : ∀ i, i < ops.size → listed.getD i false = true := by
      intro i hi
      have hi2 : i < listed.size := by rw [hI.size]; exact hi
      have := List.count_eq_zero.1 hc
      rw [Array.getD, dif_pos hi2]
      have h2 : listed[i] ≠ false := fun hb => this (by rw [← hb]; exact Array.mem_toList_iff.2 (Array.getElem_mem hi2))
      exact (Bool.not_eq_false _).mp h2
    refine ⟨?_, fin listed a w hI hJ hno⟩
    apply List.eq_nil_iff_forall_not_mem.2
    intro i hi
    obtain ⟨h0, o, ho, -⟩ := mem_ready.1 hi
    have hi1 := (Array.getElem?_eq_some_iff.1 ho).1
    have hi2 : i < listed.size := by rw [hI.size]; exact hi1
    have h1 := hno i hi1
    rw [Array.getD, dif_pos hi2] at h0 h1
    rw [h0] at h1
    cases h1
  | succ fuel ih =>
    intro listed a w hI hJ hc
    refine ⟨fun h => fin listed a w hI hJ (readyL_nil_all hI.size hlex h), fun i hi => ?_⟩
    obtain ⟨h0, o, ho, hpre⟩ := mem_ready.1 hi
    have hi1 := (Array.getElem?_eq_some_iff.1 ho).1
    have hi2 : i < listed.size := by rw [hI.size]; exact hi1
    have h0' : listed.getD i false = false := by
      rw [Array.getD, dif_pos hi2] at h0 ⊢; exact h0
    refine wpOp_mono ?_ (step i o ho listed a w hI hJ h0' hpre)
    rintro a' w' ⟨v, rfl, hI', hS, hkeep, hJ'⟩
    have hset : ∀ k, k ≠ i → (listed.setIfInBounds i true).getD k false = listed.getD k false := fun k hk => by
      simp [Ne.symm hk]
    have hseti : (listed.setIfInBounds i true).getD i false = true := by simp [hi2]
    have hup : ∀ k, listed.getD k false = true → (listed.setIfInBounds i true).getD k false = true := fun k hk => by
      by_cases hki : k = i
      · rw [hki]; exact hseti
      · rw [hset k hki]; exact hk
    refine ih _ _ _ ?_ hJ' ?_
    · refine ⟨hI', by simpa using hI.size, ?_, ?_, ?_, ?_, ?_⟩
      · cases hdst : o.dst <;> simp [Act.put, hI.defers]
      · cases hdst : o.dst <;> simp [Act.put, hI.len]
      · intro t ht
        rw [← hI.old t ht]
        cases hdst : o.dst with
        | none => rfl
        | some d => exact getD_putL_other (fun e => ht i o ho (by rw [hdst, e]))
      · intro j oj d hj hlist hdj
        by_cases hji : j = i
        · subst hji
          obtain rfl : o = oj := Option.some.inj (ho.symm.trans hj)
          rw [hdj, getD_putL_same (by rw [hI.len]; exact hin j o d ho hdj)]
          exact hS (by rw [hdj]; rfl)
        · rw [hset j hji] at hlist
          have hold := hkeep j _ hlist (hI.said j oj d hj hlist hdj)
          cases hdst : o.dst with
          | none => exact hold
          | some d' =>
            have hne : d' ≠ d := fun e => hd i j o oj d' ho hj (Ne.symm hji) hdst (by rw [hdj, e])
            rw [getD_putL_other hne]
            exact hold
      · intro k ok hk hlk e he hb
        by_cases hki : k = i
        · subst hki
          obtain rfl : o = ok := Option.some.inj (ho.symm.trans hk)
          exact hup _ (hpre e he hb)
        · rw [hset k hki] at hlk
          exact hup _ (hI.closed k ok hk hlk e he hb)
    · rw [Array.toList_setIfInBounds, List.count_set (by simpa using hi2)]
      have hf : listed.toList[i]'(by simpa using hi2) = false := by
        rw [Array.getElem_toList]
        rw [Array.getD, dif_pos hi2] at h0; exact h0
      simp [hf, hc]

/-- A statement in a round whose order Go leaves open. -/
theorem region_round_j {l n id : Nat} (I : Array Bool → World → Prop) (Sp : Nat → Value → World → Prop) (J : Array Bool → Act → World → Prop) {a0 : Act} {w : World} (hm : P.follows .mixedOrders = true) (hL : ¬LetsOut Q) (hd : noDeferB ops = true)
    (hlex : lexB ops = true) (hdst : dstB ops = true) (hin : inB ops a0.tmps.size = true) (hI : I (Array.replicate ops.size false) w.drew) (hJ : J (Array.replicate ops.size false) a0 w.drew)
    (step : ∀ (i : Nat) (o : Oper), ops[i]? = some o → ∀ listed a w', RegL ops I Sp a0 listed a w' → J listed a w' → listed.getD i false = false → (∀ e ∈ o.after, Region.binds .any e = true → listed.getD e.on false = true) →
      wpOp P ops Q i (fun a' w'' => ∃ v, a' = a.put o.dst v ∧ I (listed.setIfInBounds i true) w'' ∧ (o.dst.isSome = true → Sp i v w'') ∧ (∀ j u, listed.getD j false = true → Sp j u w' → Sp j u w'') ∧ J (listed.setIfInBounds i true) a' w'') a w')
    (fin : ∀ listed a w', RegL ops I Sp a0 listed a w' → J listed a w' → (∀ i, i < ops.size → listed.getD i false = true) → Q .normal a w') :
    (Code.region id ops true).wpIn (rnd l) n P Q a0 w := by
  have hno : ∀ i, (Array.replicate ops.size false).getD i false = false := fun i => by
    simp only [Array.getD_eq_getD_getElem?, Array.getElem?_replicate]
    split <;> rfl
  refine wpIn_region_any hm (wpAny_round hL hd _ _ _ _ (wpAny_j I Sp J a0 (lex_of hlex) (fun i j oi oj d hi hj hne hd => dst_of hdst i j oi oj d hi hj hne hd) (fun i o d hi hd => in_of hin i o d hi hd) step fin _ _ _ _ ?_ hJ (by simp)))
  refine ⟨hI, by simp, rfl, rfl, fun _ _ => rfl, ?_, ?_⟩
  · intro i o d _ hl _
    rw [hno i] at hl; cases hl
  · intro i o _ hl
    rw [hno i] at hl; cases hl
theorem eval_put_ne {a : Act} {dst : Option Tmp} {v : Value} {t : Tmp} (h : dst ≠ some t) : (a.put dst v).eval (.tmp t) = a.eval (.tmp t) := by
  cases dst with
  | none => rfl
  | some d =>
    show (a.put (some d) v).tmps.getD t undef = a.tmps.getD t undef
    exact getD_putL_other (fun e => h (by rw [e]))
theorem eval_put_eq {a : Act} {v : Value} {t : Tmp} (h : t < a.tmps.size) : (a.put (some t) v).eval (.tmp t) = v := getD_putL_same h
end

section
variable {F : Fence} {n : Nat} {P : Program}
/-- What an iterator promises that hands over just N times; M k args W: what is told of the k-th call's arguments and of the world at that call. -/
def Hands (F : Fence) (n : Nat) (P : Program) (g : Nat) (lb : Array Value) (Kp : World → World → Prop) (M : Nat → Array Value → World → Prop) (N : Nat) (w : World) : Prop :=
  ∀ (l : Nat) (J Jx : Nat → World → Prop) (W : World), Below w.heap.size w W → AbidesFrom W.heap.size J → AbidesFrom W.heap.size Jx →
    (∀ k args W1, J k W1 → M k args W1 → k < N → YieldAt F (n - 1) P l args W1 fun e W' =>
      (e = .returned (.bool true) ∧ J (k + 1) W' ∧ Kp W1 W') ∨ (e = .returned (.bool false) ∧ Jx (k + 1) W')) →
    J 0 W → CallsIn F n P g (#[.func (.yield l) #[] #[]] ++ lb) W fun e W' => (∃ v, e = .returned v) ∧ (J N W' ∨ ∃ k, Jx k W')
/-- How a round may be left. -/
def leftBy (B : Nat) (Kp : World → World → Prop) (I : World → Prop) (Ix : Code → World → Prop) (W : World) : Exit → Act → World → Prop
  | .normal, _, W' => KeepsFrom B W W' ∧ Kp W W' ∧ I W'
  | .ret, _, W' => KeepsFrom B W W' ∧ Ix .ret W'
  | .exit id, _, W' => KeepsFrom B W W' ∧ Ix (.exit id) W'
  | .goto t, _, W' => KeepsFrom B W W' ∧ Ix (.goto t) W'
  | .panic _, _, _ => False
  | .outgrown, _, _ => False
theorem leftBy_in {B : Nat} {Kp : World → World → Prop} {I : World → Prop} {Ix : Code → World → Prop} {W : World} : ¬LetsOut (leftBy B Kp I Ix W) := fun ⟨_, _, h⟩ => h

/-- A round, its record ready ahead of it and behind it. -/
theorem round_yields {l B N : Nat} {rec : LoopState → Option Code → Loop} {fn : FuncId} {tmps : Array Value} {ps : Array Tmp} {assign body : Code} {d : Nat} {Kp : World → World → Prop} {M : Nat → Array Value → World → Prop}
    (hrec : rec = fun st pe => { state := st, pending := pe, fn := fn, tmps := tmps, params := ps, assign := assign, body := body, defers := d }) (hfn : F.fn fn) (hBl : B ≤ l)
    (hKt : ∀ {A B C : World}, Kp A B → Kp B C → Kp A C) (hKb : ∀ (W : World) (l : Nat) (o o' : Obj), B ≤ l → W.heap[l]? = some o → o.isCells = false → o.isWalk = false → Kp W (W.putObj l o'))
    (hps : ∀ k args W, M k args W → args.size = ps.size)
    (I : Nat → World → Prop) (Ix : Code → Nat → World → Prop) (hI : OwnFrom B I) (hIx : ∀ c, OwnFrom B (Ix c)) (Ax : Nat → Act → World → Prop) (hAx : ∀ k a', OwnFrom B (fun (_ : Unit) W => Ax k a' W))
    (hassign : ∀ (k : Nat) (args : Array Value) (W : World) (K : Act → World → Prop), I k W → M k args W → (∀ a' W', KeepsFrom B W W' → Kp W W' → I k W' → Ax k a' W' → K a' W') →
      assign.wpIn (F.inRound l) n P (Exit.then K (fun _ _ _ => False)) { tmps := (ps.zip args).foldl (fun t (p, v) => t.setIfInBounds p v) tmps, defers := [] } W)
    (hbody : ∀ (k : Nat) (a' : Act) (W : World), (∃ r, W.heap[l]? = some (.loop r)) → I k W → Ax k a' W → k < N → body.wpIn (F.inRound l) n P (leftBy B Kp (I (k + 1)) (fun c => Ix c (k + 1)) W) a' W)
    (k : Nat) (args : Array Value) (W : World) (hi : I k W) (hl : W.heap[l]? = some (.loop (rec .ready none))) (hM : M k args W) (hk : k < N) :
    YieldAt F n P l args W fun e W' =>
      (e = .returned (.bool true) ∧ (I (k + 1) W' ∧ W'.heap[l]? = some (.loop (rec .ready none)) ∧ ∀ (j : Nat) (o : Obj), B ≤ j → j ≠ l → W.heap[j]? = some o → o.isCells = false → W'.heap[j]? = some o) ∧ Kp W W') ∨
      (e = .returned (.bool false) ∧ ∃ c, Ix c (k + 1) W' ∧ W'.heap[l]? = some (.loop (rec .done (some c))) ∧ ∀ (j : Nat) (o : Obj), B ≤ j → j ≠ l → W.heap[j]? = some o → o.isCells = false → W'.heap[j]? = some o) := by
  have hy := run_yield (P := P) (args := args) hl (by rw [hrec]; exact hps _ _ _ hM)
  rw [hrec] at hy
  refine ⟨fn, _, assign, body, hy, roundIn_of_wpIn hfn (hassign k args W _ hi hM ?_)⟩
  intro a' Wa hkfa hkpa hia hax
  have hla := hkfa.same l _ hBl hl rfl
  refine ⟨_, run_beginRound hla (by rw [hrec]), ?_⟩
  have hl2 : (Wa.putObj l (.loop { rec .ready none with state := .busy })).heap[l]? = some (.loop { rec .ready none with state := .busy }) := World.putObj_heap_same (Array.getElem?_eq_some_iff.1 hla).1
  have hw2 : Kp W (Wa.putObj l (.loop { rec .ready none with state := .busy })) := hKt hkpa (hKb _ _ _ _ hBl hla rfl rfl)
  refine wpIn_mono (hbody k a' _ ⟨_, hl2⟩ (hI.putObj _ hia hBl hla rfl) ((hAx k a').putObj (s := ()) _ hax hBl hla rfl) hk) ?_
  have fin : ∀ (jump : Option Code) (W3 : World), KeepsFrom B (Wa.putObj l (.loop { rec .ready none with state := .busy })) W3 →
      (Instr.endRound l jump).run P W3 = .ok (.bool jump.isNone) (W3.putObj l (.loop (rec (if jump.isNone then .ready else .done) jump))) ∧ (∃ r, W3.heap[l]? = some (.loop r)) ∧
      (W3.putObj l (.loop (rec (if jump.isNone then .ready else .done) jump))).heap[l]? = some (.loop (rec (if jump.isNone then .ready else .done) jump)) ∧
      ∀ (j : Nat) (o : Obj), B ≤ j → j ≠ l → W.heap[j]? = some o → o.isCells = false → (W3.putObj l (.loop (rec (if jump.isNone then .ready else .done) jump))).heap[j]? = some o := fun jump W3 hk3 => by
    have hl3 := hk3.same l _ hBl hl2 rfl
    have hend := run_endRound (P := P) jump hl3
    rw [hrec] at hend hl3
    refine ⟨by rw [hrec]; exact hend, ⟨_, hl3⟩, World.putObj_heap_same (Array.getElem?_eq_some_iff.1 hl3).1, fun j o hj hjl ho hc => ?_⟩
    rw [World.putObj_heap_other hjl]
    exact hk3.same j o hj ((World.putObj_heap_other hjl).trans (hkfa.same j o hj ho hc)) hc
  have stop : ∀ (c : Code) (W3 : World), KeepsFrom B (Wa.putObj l (.loop { rec .ready none with state := .busy })) W3 → Ix c (k + 1) W3 →
      ∃ c', Ix c' (k + 1) (W3.putObj l (.loop (rec .done (some c)))) ∧ (W3.putObj l (.loop (rec .done (some c)))).heap[l]? = some (.loop (rec .done (some c'))) ∧ ∀ (j : Nat) (o : Obj), B ≤ j → j ≠ l → W.heap[j]? = some o → o.isCells = false → (W3.putObj l (.loop (rec .done (some c)))).heap[j]? = some o := fun c W3 hk3 hi3 => by
    obtain ⟨-, ⟨r, hl3⟩, hl4, hk4⟩ := fin (some c) W3 hk3
    exact ⟨c, (hIx c).putObj _ hi3 hBl hl3 rfl, hl4, hk4⟩
  rintro e a3 W3 hp
  cases e with
  | normal =>
    obtain ⟨hk3, hkp3, hi3⟩ := hp
    obtain ⟨hr, ⟨r, hl3⟩, hl4, hk4⟩ := fin none W3 hk3
    exact ⟨_, _, hr, .inl ⟨rfl, ⟨hI.putObj _ hi3 hBl hl3 rfl, hl4, hk4⟩, hKt (hKt hw2 hkp3) (hKb _ _ _ _ hBl hl3 rfl rfl)⟩⟩
  | ret => exact ⟨_, _, (fin (some .ret) W3 hp.1).1, .inr ⟨rfl, stop _ W3 hp.1 hp.2⟩⟩
  | exit id => exact ⟨_, _, (fin (some (.exit id)) W3 hp.1).1, .inr ⟨rfl, stop _ W3 hp.1 hp.2⟩⟩
  | goto t => exact ⟨_, _, (fin (some (.goto t)) W3 hp.1).1, .inr ⟨rfl, stop _ W3 hp.1 hp.2⟩⟩
  | panic ch => exact hp.elim
  | outgrown => exact hp.elim

variable {g : Operand} {ps : Array Tmp} {assign body : Code} {Q : Exit → Act → World → Prop} {a : Act} {w : World}
/-- A loop over such an iterator, in no round. -/
theorem wpIn_range_hands (hro : F.round = none) (h1 : F.depth.isSome = true → 1 ≤ n) {gf : Nat} {lb : Array Value} (hg : a.eval g = .func (.func gf) #[] lb) (hFg : F.fn gf) (eg : ∀ args w, (callFunc gf args).run P w = .ok (.enter gf args) w)
    {Kp : World → World → Prop} {M : Nat → Array Value → World → Prop} {N : Nat} (hseq : Hands F (n - 1) P gf lb Kp M N w)
    (hKt : ∀ {A B C : World}, Kp A B → Kp B C → Kp A C) (hKb : ∀ (W : World) (l : Nat) (o o' : Obj), w.heap.size ≤ l → W.heap[l]? = some o → o.isCells = false → o.isWalk = false → Kp W (W.putObj l o'))
    (hps : ∀ k args W, M k args W → args.size = ps.size)
    (I : Nat → World → Prop) (Ix : Code → Nat → World → Prop) (hI : OwnFrom w.heap.size I) (hIx : ∀ c, OwnFrom w.heap.size (Ix c)) (h0 : I 0 w) (Ax : Nat → Act → World → Prop) (hAx : ∀ k a', OwnFrom w.heap.size (fun (_ : Unit) W => Ax k a' W))
    (hassign : ∀ (l k : Nat) (args : Array Value) (W : World) (K : Act → World → Prop), I k W → M k args W → (∀ a' W', KeepsFrom w.heap.size W W' → Kp W W' → I k W' → Ax k a' W' → K a' W') →
      assign.wpIn (F.inRound l) (n - 1 - 1) P (Exit.then K (fun _ _ _ => False)) { tmps := (ps.zip args).foldl (fun t (p, v) => t.setIfInBounds p v) a.tmps, defers := [] } W)
    (hbody : ∀ (l k : Nat) (a' : Act) (W : World), w.heap.size ≤ l → (∃ r, W.heap[l]? = some (.loop r)) → I k W → Ax k a' W → k < N → body.wpIn (F.inRound l) (n - 1 - 1) P (leftBy w.heap.size Kp (I (k + 1)) (fun c => Ix c (k + 1)) W) a' W)
    (hdone : ∀ (D : Nat) (W : World), w.heap.size ≤ D → I N W → W.heap[D]? = some (.deferred (some [])) → Q .normal { a with defers := { target := .collected D, args := #[] } :: a.defers } W)
    (hstop : ∀ (D : Nat) (c : Code) (k : Nat) (W : World), w.heap.size ≤ D → Ix c k W → W.heap[D]? = some (.deferred (some [])) → c.wpIn F n P Q { a with defers := { target := .collected D, args := #[] } :: a.defers } W) :
    (Code.rangeFunc g ps assign body).wpIn F n P Q a w := by
  refine wpIn_rangeFunc ?_
  intro fn hfn
  rw [hro]
  obtain ⟨rec, hrec⟩ : ∃ rec : LoopState → Option Code → Loop, rec = fun st pe => { state := st, pending := pe, fn, tmps := a.tmps, params := ps, assign, body, defers := w.heap.size } := ⟨_, rfl⟩
  obtain ⟨W1, hW1⟩ : ∃ W1, (w.alloc (.deferred (some []))).alloc (.loop (rec .ready none)) = W1 := ⟨_, rfl⟩
  have hs1 : W1.heap.size = w.heap.size + 2 := by rw [← hW1]; simp
  have hL1 : W1.heap[w.heap.size + 1]? = some (.loop (rec .ready none)) := by
    rw [← hW1]; have := World.alloc_heap_new (w.alloc (.deferred (some []))) (.loop (rec .ready none)); rwa [World.size_alloc] at this
  have hK1 : W1.heap[w.heap.size]? = some (.deferred (some [])) := by
    rw [← hW1]; exact (Below.heap_alloc _ _ _ (by simp)).trans (World.alloc_heap_new w _)
  have hI1 : I 0 W1 := by rw [← hW1]; exact hI.alloc _ (hI.alloc _ h0)
  have hb1 : Below w.heap.size w W1 := by
    rw [← hW1]; exact ((Below.refl _ w).alloc (Nat.le_refl _) _).alloc (by simp) _
  refine ⟨w.heap.size + 1, [{ target := .collected w.heap.size, args := #[] }], W1, { target := .fn (.func gf) lb, args := #[.func (.yield (w.heap.size + 1)) #[] #[]] }, W1, gf,
    #[.func (.yield (w.heap.size + 1)) #[] #[]] ++ lb, W1, ?_, ?_, ?_, ?_, h1, ?_⟩
  · rw [← hW1, hrec]; exact run_enterLoop_outer _ _ _ _ _
  · simp only [resolve, hg]
    simp [go_sem]
  · intro f' hf'; simp [Target.leads] at hf'; subst hf'; exact hFg
  · simp [invoke, go_sem, eg]
  · have hnw : ∀ {A B : World} {row : Option Nat}, (∀ r, row = some r → W1.heap.size ≤ r ∧ ∃ o : Obj, A.heap[r]? = some o ∧ o.isWalk = true) → (∀ r, row = some r → w.heap.size ≤ r ∧ ∃ o : Obj, A.heap[r]? = some o ∧ o.isCells = false) :=
      fun hr r e => by obtain ⟨hB, o, ho, hw⟩ := hr r e; exact ⟨by omega, o, ho, Obj.not_cells_of_walk hw⟩
    refine (hseq (w.heap.size + 1)
      (fun k W => I k W ∧ W.heap[w.heap.size + 1]? = some (.loop (rec .ready none)) ∧ W.heap[w.heap.size]? = some (.deferred (some [])))
      (fun k W => ∃ c, Ix c k W ∧ W.heap[w.heap.size + 1]? = some (.loop (rec .done (some c))) ∧ W.heap[w.heap.size]? = some (.deferred (some [])))
      W1 hb1
      (fun s A B row hs hg' hr => ⟨hI s A B row hs.1 hg' (hnw (B := B) hr), (grownBy_keeps hg' (fun r e => (hr r e).2) hs.2.1 rfl).trans hs.2.1, (grownBy_keeps hg' (fun r e => (hr r e).2) hs.2.2 rfl).trans hs.2.2⟩)
      (fun s A B row hs hg' hr => by
        obtain ⟨c, hc, hl, hk⟩ := hs
        exact ⟨c, hIx c s A B row hc hg' (hnw (B := B) hr), (grownBy_keeps hg' (fun r e => (hr r e).2) hl rfl).trans hl, (grownBy_keeps hg' (fun r e => (hr r e).2) hk rfl).trans hk⟩)
      ?_ ⟨hI1, hL1, hK1⟩).mono ?_
    · rintro k args W ⟨hi, hl, hk⟩ hM hlt
      obtain ⟨fn', tmps', as', bd', hy, hR⟩ := round_yields (l := w.heap.size + 1) (N := N) (Kp := Kp) (n := n - 1 - 1) (P := P) hrec hfn (Nat.le_succ _) hKt hKb hps I Ix hI hIx Ax hAx (hassign (w.heap.size + 1)) (fun k a' W => hbody (w.heap.size + 1) k a' W (Nat.le_succ _)) k args W hi hl hM hlt
      refine ⟨fn', tmps', as', bd', hy, hR.mono ?_⟩
      rintro e W' (⟨rfl, ⟨h1, h2, h3⟩, h4⟩ | ⟨rfl, c, h1, h2, h3⟩)
      · exact .inl ⟨rfl, ⟨h1, h2, h3 _ _ (Nat.le_refl _) (by omega) hk rfl⟩, h4⟩
      · exact .inr ⟨rfl, c, h1, h2, h3 _ _ (Nat.le_refl _) (by omega) hk rfl⟩
    · rintro e W2 ⟨⟨v, rfl⟩, (⟨hi, hl, hk⟩ | ⟨k, c, hi, hl, hk⟩)⟩
      · exact ⟨none, _, by have := run_endLoop (P := P) hl (by rw [hrec]; simp); rw [hrec] at this; exact this, hdone _ _ (Nat.le_refl _) (hI.putObj _ hi (by omega) hl rfl) ((World.putObj_heap_other (by omega)).trans hk)⟩
      · exact ⟨some c, _, by have := run_endLoop (P := P) hl (by rw [hrec]; simp); rw [hrec] at this; exact this, hstop _ c k _ (Nat.le_refl _) ((hIx c).putObj _ hi (by omega) hl rfl) ((World.putObj_heap_other (by omega)).trans hk)⟩

/-- The same in a round of loop l₀. -/
theorem wpIn_range_hands_in {l₀ : Nat} {r₀ : Loop} (hro : F.round = some l₀) (hl₀ : w.heap[l₀]? = some (.loop r₀)) (h1 : F.depth.isSome = true → 1 ≤ n) {gf : Nat} {lb : Array Value} (hg : a.eval g = .func (.func gf) #[] lb) (hFg : F.fn gf) (eg : ∀ args w, (callFunc gf args).run P w = .ok (.enter gf args) w)
    {Kp : World → World → Prop} {M : Nat → Array Value → World → Prop} {N : Nat} (hseq : Hands F (n - 1) P gf lb Kp M N w)
    (hKt : ∀ {A B C : World}, Kp A B → Kp B C → Kp A C) (hKb : ∀ (W : World) (l : Nat) (o o' : Obj), w.heap.size ≤ l → W.heap[l]? = some o → o.isCells = false → o.isWalk = false → Kp W (W.putObj l o'))
    (hps : ∀ k args W, M k args W → args.size = ps.size)
    (I : Nat → World → Prop) (Ix : Code → Nat → World → Prop) (hI : OwnFrom w.heap.size I) (hIx : ∀ c, OwnFrom w.heap.size (Ix c)) (h0 : I 0 w) (Ax : Nat → Act → World → Prop) (hAx : ∀ k a', OwnFrom w.heap.size (fun (_ : Unit) W => Ax k a' W))
    (hassign : ∀ (l k : Nat) (args : Array Value) (W : World) (K : Act → World → Prop), I k W → M k args W → (∀ a' W', KeepsFrom w.heap.size W W' → Kp W W' → I k W' → Ax k a' W' → K a' W') →
      assign.wpIn (F.inRound l) (n - 1 - 1) P (Exit.then K (fun _ _ _ => False)) { tmps := (ps.zip args).foldl (fun t (p, v) => t.setIfInBounds p v) a.tmps, defers := [] } W)
    (hbody : ∀ (l k : Nat) (a' : Act) (W : World), w.heap.size ≤ l → (∃ r, W.heap[l]? = some (.loop r)) → I k W → Ax k a' W → k < N → body.wpIn (F.inRound l) (n - 1 - 1) P (leftBy w.heap.size Kp (I (k + 1)) (fun c => Ix c (k + 1)) W) a' W)
    (hdone : ∀ (W : World), I N W → Q .normal a W)
    (hstop : ∀ (c : Code) (k : Nat) (W : World), Ix c k W → c.wpIn F n P Q a W) :
    (Code.rangeFunc g ps assign body).wpIn F n P Q a w := by
  refine wpIn_rangeFunc ?_
  intro fn hfn
  rw [hro]
  obtain ⟨rec, hrec⟩ : ∃ rec : LoopState → Option Code → Loop, rec = fun st pe => { state := st, pending := pe, fn, tmps := a.tmps, params := ps, assign, body, defers := r₀.defers } := ⟨_, rfl⟩
  obtain ⟨W1, hW1⟩ : ∃ W1, w.alloc (.loop (rec .ready none)) = W1 := ⟨_, rfl⟩
  have hs1 : W1.heap.size = w.heap.size + 1 := by rw [← hW1]; simp
  have hL1 : W1.heap[w.heap.size]? = some (.loop (rec .ready none)) := by rw [← hW1]; exact World.alloc_heap_new w _
  have hI1 : I 0 W1 := by rw [← hW1]; exact hI.alloc _ h0
  have hb1 : Below w.heap.size w W1 := by rw [← hW1]; exact (Below.refl _ w).alloc (Nat.le_refl _) _
  refine ⟨w.heap.size, [], W1, { target := .fn (.func gf) lb, args := #[.func (.yield w.heap.size) #[] #[]] }, W1, gf,
    #[.func (.yield w.heap.size) #[] #[]] ++ lb, W1, ?_, ?_, ?_, ?_, h1, ?_⟩
  · rw [← hW1, hrec]; exact run_enterLoop_inner hl₀ _ _ _ _ _
  · simp only [resolve, hg]
    simp [go_sem]
  · intro f' hf'; simp [Target.leads] at hf'; subst hf'; exact hFg
  · simp [invoke, go_sem, eg]
  · have hnw : ∀ {A B : World} {row : Option Nat}, (∀ r, row = some r → W1.heap.size ≤ r ∧ ∃ o : Obj, A.heap[r]? = some o ∧ o.isWalk = true) → (∀ r, row = some r → w.heap.size ≤ r ∧ ∃ o : Obj, A.heap[r]? = some o ∧ o.isCells = false) :=
      fun hr r e => by obtain ⟨hB, o, ho, hw⟩ := hr r e; exact ⟨by omega, o, ho, Obj.not_cells_of_walk hw⟩
    refine (hseq w.heap.size
      (fun k W => I k W ∧ W.heap[w.heap.size]? = some (.loop (rec .ready none)))
      (fun k W => ∃ c, Ix c k W ∧ W.heap[w.heap.size]? = some (.loop (rec .done (some c))))
      W1 hb1
      (fun s A B row hs hg' hr => ⟨hI s A B row hs.1 hg' (hnw (B := B) hr), (grownBy_keeps hg' (fun r e => (hr r e).2) hs.2 rfl).trans hs.2⟩)
      (fun s A B row hs hg' hr => by
        obtain ⟨c, hc, hl⟩ := hs
        exact ⟨c, hIx c s A B row hc hg' (hnw (B := B) hr), (grownBy_keeps hg' (fun r e => (hr r e).2) hl rfl).trans hl⟩)
      ?_ ⟨hI1, hL1⟩).mono ?_
    · rintro k args W ⟨hi, hl⟩ hM hlt
      obtain ⟨fn', tmps', as', bd', hy, hR⟩ := round_yields (l := w.heap.size) (N := N) (Kp := Kp) (n := n - 1 - 1) (P := P) hrec hfn (Nat.le_refl _) hKt hKb hps I Ix hI hIx Ax hAx (hassign w.heap.size) (fun k a' W => hbody w.heap.size k a' W (Nat.le_refl _)) k args W hi hl hM hlt
      refine ⟨fn', tmps', as', bd', hy, hR.mono ?_⟩
      rintro e W' (⟨rfl, ⟨h1, h2, -⟩, h4⟩ | ⟨rfl, c, h1, h2, -⟩)
      · exact .inl ⟨rfl, ⟨h1, h2⟩, h4⟩
      · exact .inr ⟨rfl, c, h1, h2⟩
    · rintro e W2 ⟨⟨v, rfl⟩, (⟨hi, hl⟩ | ⟨k, c, hi, hl⟩)⟩
      · exact ⟨none, _, by have := run_endLoop (P := P) hl (by rw [hrec]; simp); rw [hrec] at this; exact this, hdone _ (hI.putObj _ hi (Nat.le_refl _) hl rfl)⟩
      · exact ⟨some c, _, by have := run_endLoop (P := P) hl (by rw [hrec]; simp); rw [hrec] at this; exact this, hstop c k _ ((hIx c).putObj _ hi (Nat.le_refl _) hl rfl)⟩
end
end Go.Proofs.YtaijjlaheoamaaaDoor
/- Layer 6: the greatest of those that stand. -/
namespace Go.Proofs.YtaijjlaheoamaaaDoor
open Go.RowKit Go.Shelf

attribute [local go_sem] Oper.semAt_some

section
variable {P : Program} {ops : Array Oper} {Q : Exit → Act → World → Prop}
theorem region_round_m {l n id : Nat} (I : Array Bool → World → Prop) (Sp : Nat → Value → World → Prop) {a0 : Act} {w : World} (hm : P.follows .mixedOrders = true) (hL : ¬LetsOut Q) (hd : noDeferB ops = true)
    (hlex : lexAnyB ops = true) (hdst : dstB ops = true) (hin : inB ops a0.tmps.size = true) (hI : I (Array.replicate ops.size false) w.drew)
    (step : ∀ (i : Nat) (o : Oper), ops[i]? = some o → ∀ listed a w', RegL ops I Sp a0 listed a w' → listed.getD i false = false → (∀ e ∈ o.after, Region.binds .any e = true → listed.getD e.on false = true) →
      wpOp P ops Q i (fun a' w'' => ∃ v, a' = a.put o.dst v ∧ I (listed.setIfInBounds i true) w'' ∧ (o.dst.isSome = true → Sp i v w'') ∧ ∀ j u, listed.getD j false = true → Sp j u w' → Sp j u w'') a w')
    (fin : ∀ listed a w', RegL ops I Sp a0 listed a w' → (∀ i, i < ops.size → listed.getD i false = true) → Q .normal a w') :
    (Code.region id ops true).wpIn (rnd l) n P Q a0 w := by
  have hno : ∀ i, (Array.replicate ops.size false).getD i false = false := fun i => by
    simp only [Array.getD_eq_getD_getElem?, Array.getElem?_replicate]
    split <;> rfl
  refine wpIn_region_any hm (wpAny_round hL hd _ _ _ _ (wpAny_l I Sp a0 (lexAny_of hlex) (fun i j oi oj d hi hj hne hd => dst_of hdst i j oi oj d hi hj hne hd) (fun i o d hi hd => in_of hin i o d hi hd) step fin _ _ _ _ ?_ (by simp)))
  refine ⟨hI, by simp, rfl, rfl, fun _ _ => rfl, ?_, ?_⟩
  · intro i o d _ hl _
    rw [hno i] at hl; cases hl
  · intro i o _ hl
    rw [hno i] at hl; cases hl
end
/-- The greatest so far. -/
def gstep (o : Option Mt) (x : Mt) : Option Mt := match o with | none => some x | some m => if m.t < x.t then some x else some m
def gst (l : List Mt) : Option Mt := l.foldl gstep none
theorem gst_snoc (l : List Mt) (x : Mt) : gst (l ++ [x]) = gstep (gst l) x := by simp [gst]
def optT : Option Mt → Int
  | some m => m.t
  | none => 0
def optRow : Option Mt → Array Value
  | some m => #[.int .i64 m.t, .int .i64 m.r, .int .i64 m.f, .int .i64 m.h]
  | none => #[.int .i64 0, .int .i64 0, .int .i64 0, .int .i64 0]
theorem optRow_val (o : Option Mt) : Value.agg (optRow o) = optM o := by cases o <;> rfl
/-- What the loop's three variables hold. -/
structure GrI (S : Nat) (w : World) (o : Option Mt) (W : World) : Prop where
  below : Below S w W
  thing : W.heap[S]? = some (.cells (optRow o) 25 (0, 0))
  is : W.heap[S + 1]? = some (.cells #[.bool o.isSome] 4 (0, 0))
  most : W.heap[S + 2]? = some (.cells #[.int .i64 (optT o)] 2 (0, 0))
theorem GrI.lt {S : Nat} {w : World} {o : Option Mt} {W : World} (h : GrI S w o W) : S + 3 ≤ W.heap.size := by
  have := (Array.getElem?_eq_some_iff.1 h.most).1; omega
theorem GrI.kept {S : Nat} {w : World} {o : Option Mt} {W W' : World} {row : Option Nat} (h : GrI S w o W) (hg : W.grownBy W' row) (hr : ∀ r, row = some r → S + 3 ≤ r) : GrI S w o W' := by
  have hl := h.lt
  have hne : ∀ k, k < S + 3 → some k ≠ row := fun k hk e => by have := hr k e.symm; omega
  exact ⟨h.below.grown hg (by omega) (fun q e => by have := hr q e; omega), (hg.block S (by omega) (hne _ (by omega))).trans h.thing, (hg.block _ (by omega) (hne _ (by omega))).trans h.is, (hg.block _ (by omega) (hne _ (by omega))).trans h.most⟩
def GrV (x : Mt) : Nat → Value → World → Prop
  | 0, v, _ => v = .int .i64 x.t
  | 1, v, _ => v = x.val
  | _, _, _ => True
theorem GrV.any {x : Mt} {w' w'' : World} : ∀ j v, GrV x j v w' → GrV x j v w'' := fun j _ k => match j, k with
  | 0, k => k
  | 1, k => k
  | _ + 2, _ => trivial
def GdV (o : Option Mt) : Nat → Value → World → Prop
  | 0, v, _ => v = .agg (optRow o)
  | 1, v, _ => v = .bool o.isSome
  | _, _, _ => True
theorem GdV.any {o : Option Mt} {w' w'' : World} : ∀ j v, GdV o j v w' → GdV o j v w'' := fun j _ k => match j, k with
  | 0, k => k
  | 1, k => k
  | _ + 2, _ => trivial
/-- The statement that takes the greater one. -/
structure GrT (S P : Nat) (w : World) (o : Option Mt) (x : Mt) (W0 : World) (listed : Array Bool) (W : World) : Prop where
  below : Below S w W
  old : Below S W0 W
  from_ : KeepsFrom (S + 3) W0 W
  size : S + 3 ≤ W.heap.size
  one : W.heap[P]? = some (.cells (optRow (some x)) 25 (0, 0))
  most : W.heap[S + 2]? = some (.cells #[.int .i64 (if listed.getD 2 false then x.t else optT o)] 2 (0, 0))
  thing : W.heap[S]? = some (.cells (if listed.getD 3 false then optRow (some x) else optRow o) 25 (0, 0))
  is : W.heap[S + 1]? = some (.cells #[.bool (if listed.getD 4 false then true else o.isSome)] 4 (0, 0))
theorem GrT.step {S P : Nat} {w : World} {o : Option Mt} {x : Mt} {W0 W W' : World} {listed : Array Bool} {k : Nat} (h : GrT S P w o x W0 listed W) (hP : S + 3 ≤ P) (hk : k < S + 3) (hS : S ≤ k) (hg : W.grownBy W' (some k)) {listed' : Array Bool}
    (h1 : W'.heap[S + 2]? = some (.cells #[.int .i64 (if listed'.getD 2 false then x.t else optT o)] 2 (0, 0)))
    (h2 : W'.heap[S]? = some (.cells (if listed'.getD 3 false then optRow (some x) else optRow o) 25 (0, 0)))
    (h3 : W'.heap[S + 1]? = some (.cells #[.bool (if listed'.getD 4 false then true else o.isSome)] 4 (0, 0))) : GrT S P w o x W0 listed' W' := by
  have hs := h.size
  have hPl := (Array.getElem?_eq_some_iff.1 h.one).1
  exact ⟨h.below.grown hg (by omega) (fun q e => by cases e; exact hS), h.old.grown hg (by omega) (fun q e => by cases e; exact hS), h.from_.trans (KeepsFrom.of_grownBy hg (fun j e => by cases e; exact hk)), Nat.le_trans hs hg.size,
    (hg.block P hPl (fun e => by cases e; omega)).trans h.one, h1, h2, h3⟩
theorem results_gr {fn : Func} {p q : Tmp} {ty t2 : TypeId} {fs : Array Field} (h : fn.results = #[.cell p ty, .cell q t2]) (tmps : Array Value) (w : World) (g E : Nat) (t : TypeId) (cs : Array Value) (fr : Nat × Nat) (v : Value)
    (hp : tmps.getD p undef = .pointer (some ⟨g, 0, none⟩)) (hg : w.heap[g]? = some (.cells cs t fr)) (hu : Tryd.prog.underlying ty = some (.struct fs)) (hi : (Tryd.prog.info? ty).map (·.size) = some cs.size)
    (he : tmps.getD q undef = .pointer (some ⟨E, 0, none⟩)) (ht2 : t2 = 4) (hv : w.cell? ⟨E, 0, none⟩ = some v) :
    (results fn tmps).run Tryd.prog w = .ok (.tuple #[.agg cs, v]) w := by
  have h1 : (results fn tmps).run Tryd.prog w = ((asAddr (tmps.getD p undef)).run Tryd.prog w).andThen fun a w => ((loadVar ty a).run Tryd.prog w).andThen fun u w => ((asAddr (tmps.getD q undef)).run Tryd.prog w).andThen fun a w => ((loadVar t2 a).run Tryd.prog w).andThen fun v w => .ok (.tuple #[u, v]) w := by
    simp [results, h]
  rw [h1, hp, he, ht2]
  have h2 : (loadVar 4 ⟨E, 0, none⟩).run Tryd.prog w = .ok v w := by
    simp [loadVar, Tryd.isAgg4 w, go_sem, Result.andThen, hv]
  simp [asAddr, run_loadVar_row w g t ty cs fr _ hg hu rfl hi, h2, Result.andThen]
theorem stand_stops (n : Nat) (hn : 1 ≤ n) (Bs n₀ : Nat) (a1 a2 : Option Addr) (la lb : List UInt8) (c1 c2 : Nat) (oa ob : Option Mt) (hoa : Opt 0 la oa) (hob : Opt 1 lb ob) (w : World) (hn0 : n₀ ≤ w.heap.size) (hBs : Bs < n₀)
    (hc0 : w.cell? ⟨Bs, 0, none⟩ = some (.slice a1 la.length c1)) (hc1 : w.cell? ⟨Bs, 1, none⟩ = some (.slice a2 lb.length c2))
    (hA : BsAt n₀ w a1 la c1) (hB : BsAt n₀ w a2 lb c2) (hT : Tab w) (hg : 0 + 1 ≤ n₀) :
    SeqStopsK Fence.wide n Tryd.prog 31 #[.pointer (some ⟨Bs, 0, none⟩)] (fun x : Mt => #[.int .i64 x.t, x.val]) (Below n₀) (fun ys => ys = oa.toList ++ ob.toList) (fun _ => True) (oa.toList ++ ob.toList).length w := fun l J Jx W hW hJ _ hY h0 =>
  have hW' := hW.mono hn0
  stand1_in n hn l Bs n₀ a1 a2 la lb c1 c2 oa ob hoa hob J Jx W hJ hY (Nat.le_trans hn0 hW.size) ((hW'.cell (p := ⟨Bs, 0, none⟩) hBs).trans hc0) ((hW'.cell (p := ⟨Bs, 1, none⟩) hBs).trans hc1) ⟨hA.1.below hW', hA.2⟩ ⟨hB.1.below hW', hB.2⟩ (hT.below hg hW') hg h0
theorem optRow_size (o : Option Mt) : (optRow o).size = 4 := by cases o <;> rfl
theorem optRow_one (o : Option Mt) : (optRow o).all (·.oneCell') = true := by cases o <;> simp [optRow, Value.oneCell']
theorem mt_store {w : World} {g : Nat} {old : Array Value} {t : TypeId} (o : Option Mt) (h : w.heap[g]? = some (.cells old t (0, 0))) (hs : old.size = 4) :
    (Instr.storeAt 25 (mpt g 0) (.agg (optRow o))).run Tryd.prog w = .ok () (w.setRow g (optRow o)) := by
  have := run_storeVar_row (P := Tryd.prog) w g t 25 old (optRow o) h (by rw [optRow_size]; kernel_rfl) (by rw [hs, optRow_size]) (optRow_one o)
  simp [Instr.storeAt, Instr.sureAddr, this]
theorem mt_load {w : World} {M : Nat} {o : Option Mt} (h : w.heap[M]? = some (.cells (optRow o) 25 (0, 0))) : (Instr.loadAt 25 (mpt M 0)).run Tryd.prog w = .ok (.agg (optRow o)) w := by
  simp [Instr.loadAt, Instr.sureAddr, run_loadVar_row w M _ 25 _ _ _ h Tryd.underlying25 rfl (by rw [optRow_size]; kernel_rfl)]
theorem int_store {w : World} {g : Nat} {u : Value} {t : TypeId} (n : Int) (h : w.heap[g]? = some (.cells #[u] t (0, 0))) : (Instr.storeAt 2 (mpt g 0) (.int .i64 n)).run Tryd.prog w = .ok () (w.setCell ⟨g, 0, none⟩ (.int .i64 n)) := by
  have c := cell_of_row w g 0 _ _ _ h
  have f := frozen_of_row w g 0 _ _ h
  simp only [List.getElem?_toArray, List.getElem?_cons_zero] at c
  simp [go_sem, Result.andThen, c, f]
theorem bool_store {w : World} {g : Nat} {u : Value} {t : TypeId} (b : Bool) (h : w.heap[g]? = some (.cells #[u] t (0, 0))) : (Instr.storeAt 4 (mpt g 0) (.bool b)).run Tryd.prog w = .ok () (w.setCell ⟨g, 0, none⟩ (.bool b)) := by
  have c := cell_of_row w g 0 _ _ _ h
  have f := frozen_of_row w g 0 _ _ h
  simp only [List.getElem?_toArray, List.getElem?_cons_zero] at c
  simp [go_sem, Result.andThen, c, f]
theorem set1_row {w : World} {g : Nat} {u : Value} {t : TypeId} (v : Value) (h : w.heap[g]? = some (.cells #[u] t (0, 0))) : (w.setCell ⟨g, 0, none⟩ v).heap[g]? = some (.cells #[v] t (0, 0)) := heap_setCell_same w g 0 _ _ v h
set_option maxRecDepth 100000 in
set_option maxHeartbeats 2000000 in
theorem greatest_wide (n : Nat) (hn : 4 ≤ n) (Bs : Nat) (a1 a2 : Option Addr) (la lb : List UInt8) (c1 c2 : Nat) (oa ob : Option Mt) (hoa : Opt 0 la oa) (hob : Opt 1 lb ob) (w : World) (hBs : Bs < w.heap.size)
    (hc0 : w.cell? ⟨Bs, 0, none⟩ = some (.slice a1 la.length c1)) (hc1 : w.cell? ⟨Bs, 1, none⟩ = some (.slice a2 lb.length c2))
    (hA : BsAt w.heap.size w a1 la c1) (hB : BsAt w.heap.size w a2 lb c2) (hT : Tab w) (hg : 0 + 1 ≤ w.heap.size) :
    CallsIn Fence.wide n Tryd.prog 19 #[.func (.func 31) #[] #[.pointer (some ⟨Bs, 0, none⟩)]] w fun e W' => e = .returned (.tuple #[optM (gst (oa.toList ++ ob.toList)), .bool (gst (oa.toList ++ ob.toList)).isSome]) ∧ Below w.heap.size w W' := by
  have h1 : 1 ≤ n := by omega
  have hal := alloc3 w (.cells #[.int .i64 0, .int .i64 0, .int .i64 0, .int .i64 0] 25) (.cells #[.bool false] 4) (.cells #[.int .i64 0] 2)
  refine callsIn_of_wp_marks Tryd.func19 rfl trivial ?_ rfl
  simp only [Tryd.ntmps19, List.size_toArray, List.length_cons, List.length_nil, Nat.reduceAdd, Nat.reduceSub, Array.replicate_succ, Array.replicate_zero, List.push_toArray, List.append_toArray, List.nil_append, List.cons_append]
  have HA := Lib.hid (And.intro hA (And.intro hB (And.intro hT (And.intro hg (And.intro hc0 (And.intro hc1 hBs))))))
  have HL := Lib.hid hal
  clear hA hB hT hg hc0 hc1 hBs hal
  gi_wp2
  obtain ⟨q0, q1, q2, q3, q4⟩ := HL.out
  obtain ⟨hA, hB, hT, hg, hc0, hc1, hBs⟩ := HA.out
  revert q0 q1 q2 q3 q4
  generalize ((w.alloc (.cells #[.int .i64 0, .int .i64 0, .int .i64 0, .int .i64 0] 25)).alloc (.cells #[.bool false] 4)).alloc (.cells #[.int .i64 0] 2) = W0
  intro q0 q1 q2 q3 q4
  obtain ⟨S, hS⟩ : ∃ S, w.heap.size = S := ⟨_, rfl⟩
  rw [hS] at hA hB hg hBs q0 q1 q2 q3 q4 ⊢
  refine wpIn_rangeFunc_ownH rfl h1 (gf := 31) (lb := #[.pointer (some ⟨Bs, 0, none⟩)]) rfl trivial (enters_of Tryd.func31 (by kernel_rfl) rfl)
    (stand_stops (n - 1) (by omega) Bs S a1 a2 la lb c1 c2 oa ob hoa hob W0 (by omega) hBs ((q0.cell (p := ⟨Bs, 0, none⟩) hBs).trans hc0) ((q0.cell (p := ⟨Bs, 1, none⟩) hBs).trans hc1) ⟨hA.1.below q0, hA.2⟩ ⟨hB.1.below q0, hB.2⟩ (hT.below hg q0) hg)
    belowK_t (belowK_b (by omega)) (Below.refl _ _) (fun _ => rfl)
    (fun pre W => GrI S w (gst pre) W)
    (fun _ _ _ => False)
    (fun s A B row hs hg' hr => hs.kept hg' (fun r e => by have := (hr r e).1; omega))
    (fun _ _ _ _ _ hs _ _ => hs)
    ⟨q0, q1, q2, q3⟩
    (fun x a' W => ∃ P, S + 3 ≤ P ∧ W.heap[P]? = some (.cells (optRow (some x)) 25 (0, 0)) ∧ a' = { tmps := #[.func (.func 31) #[] #[.pointer (some ⟨Bs, 0, none⟩)], undef, mpt S 0, mpt (S + 1) 0, mpt (S + 1 + 1) 0, .int .i64 x.t, mpt P 0, .func (.func 31) #[] #[.pointer (some ⟨Bs, 0, none⟩)], .int .i64 x.t, x.val, undef, undef, undef, undef, undef, undef, undef, undef, undef, undef, undef], defers := [] })
    (fun x a' _ A B row hs hg' hr => by
      obtain ⟨P, hP, hrow, e⟩ := hs
      exact ⟨P, hP, (hg'.block P (Array.getElem?_eq_some_iff.1 hrow).1 (fun e' => by obtain ⟨o, ho, hc⟩ := (hr P e'.symm).2; rw [hrow] at ho; cases ho; cases hc)).trans hrow, e⟩) ?assign ?body ?done ?stop
  case assign =>
    intro l pre x W K hI hK
    gi_wp2
    refine hK _ _ ((KeepsOthers.alloc _ _).from _) ((Below.refl _ _).alloc (by have := hI.lt; omega) _) (hI.kept (World.grownBy_alloc _ _ none) (fun r e => by cases e)) ⟨W.heap.size, hI.lt, heap_alloc_new _ _, rfl⟩
  case body =>
    rintro l pre x a' W hl - hI ⟨P, hP, hrow, rfl⟩ -
    have cis := cell_of_row W (S + 1) 0 _ _ _ hI.is
    have cmo := cell_of_row W (S + 2) 0 _ _ _ hI.most
    simp only [List.getElem?_toArray, List.getElem?_cons_zero] at cis cmo
    cases ho : gst pre with
    | none =>
      rw [ho] at cis cmo
      simp only [Option.isSome_none] at cis
      have HX := Lib.hid (And.intro hI hrow)
      clear hI hrow cmo
      gi_wp2
      obtain ⟨hI, hrow⟩ := HX.out
      refine region_round_m (l := l) (GrT S P w (gst pre) x W) (GrV x) (by kernel_rfl) (fun ⟨_, _, h⟩ => h) (by kernel_rfl) (by kernel_rfl) (by kernel_rfl) (by kernel_rfl) ⟨hI.below.drew, (Below.refl _ _).drew, (KeepsOthers.drew W).from _, hI.lt, hrow, hI.most, hI.thing, hI.is⟩ ?stepa ?fina
      case stepa =>
        intro q o ho listed a' w' hJ hn' hpre
        have hq : q < 5 := (Array.getElem?_eq_some_iff.1 ho).1
        have hT' := hJ.inv
        have hd3 : (S + 2 : Nat) ≠ S := by omega
        have hlen : listed.size = 5 := hJ.size
        have hsame : ∀ k, k < 2 → GrT S P w (gst pre) x W (listed.setIfInBounds k true) w' := fun k hk => ⟨hT'.below, hT'.old, hT'.from_, hT'.size, hT'.one, by rw [listed_other (by omega)]; exact hT'.most, by rw [listed_other (by omega)]; exact hT'.thing, by rw [listed_other (by omega)]; exact hT'.is⟩
        match q, hq with
        | 0, _ =>
          cases ho
          exact wpOp_move rfl rfl (.inl rfl) (hJ.kept (t := 5) (by kernel_rfl)) ⟨_, rfl, hsame _ (by decide), fun _ => rfl, fun _ _ _ h => h⟩
        | 1, _ =>
          cases ho
          exact wpOp_load rfl rfl rfl (hJ.kept (t := 6) (by kernel_rfl)) (mt_load hT'.one) ⟨_, rfl, hsame _ (by decide), fun _ => rfl, fun _ _ _ h => h⟩
        | 2, _ =>
          cases ho
          have e0 : a'.eval (.tmp 17) = .int .i64 x.t := hJ.slot 0 17 rfl (hpre ⟨0, .data⟩ (by simp) rfl) rfl
          have hg1 := set_grown w' ⟨S + 2, 0, none⟩ (.int .i64 x.t)
          refine wpOp_store rfl rfl rfl (hJ.kept (t := 4) (by kernel_rfl)) e0 (int_store (g := S + 2) x.t hT'.most) ⟨_, rfl, hT'.step (k := S + 2) hP (by omega) (by omega) hg1 ?_ ?_ ?_, (fun e => by cases e), fun j u _ h => GrV.any j u h⟩
          · rw [if_pos (listed_same (by omega))]; exact set1_row _ hT'.most
          · rw [listed_other (by decide)]; exact (hg1.block S (by have := hT'.size; omega) (by simp)).trans hT'.thing
          · rw [listed_other (by decide)]; exact (hg1.block (S + 1) (by have := hT'.size; omega) (by simp)).trans hT'.is
        | 3, _ =>
          cases ho
          have e1 : a'.eval (.tmp 18) = .agg (optRow (some x)) := hJ.slot 1 18 rfl (hpre ⟨1, .data⟩ (by simp) rfl) rfl
          have hg1 := row_grown w' S (optRow (some x))
          refine wpOp_store rfl rfl rfl (hJ.kept (t := 2) (by kernel_rfl)) e1 (mt_store (some x) hT'.thing (by split <;> exact optRow_size _)) ⟨_, rfl, hT'.step hP (by omega) (Nat.le_refl _) hg1 ?_ ?_ ?_, (fun e => by cases e), fun j u _ h => GrV.any j u h⟩
          · rw [listed_other (by decide)]; exact (hg1.block (S + 2) (by have := hT'.size; omega) (by simp)).trans hT'.most
          · rw [if_pos (listed_same (by omega))]; exact row_set _ hT'.thing
          · rw [listed_other (by decide)]; exact (hg1.block (S + 1) (by have := hT'.size; omega) (by simp)).trans hT'.is
        | 4, _ =>
          cases ho
          have hg1 := set_grown w' ⟨S + 1, 0, none⟩ (.bool true)
          refine wpOp_store rfl rfl rfl (hJ.kept (t := 3) (by kernel_rfl)) rfl (bool_store (g := S + 1) true hT'.is) ⟨_, rfl, hT'.step (k := S + 1) hP (by omega) (by omega) hg1 ?_ ?_ ?_, (fun e => by cases e), fun j u _ h => GrV.any j u h⟩
          · rw [listed_other (by decide)]; exact (hg1.block (S + 2) (by have := hT'.size; omega) (by simp)).trans hT'.most
          · rw [listed_other (by decide)]; exact (hg1.block S (by have := hT'.size; omega) (by simp)).trans hT'.thing
          · rw [if_pos (listed_same (by omega))]; exact set1_row _ hT'.is
      case fina =>
        intro listed a' w' hJ hall
        have hT' := hJ.inv
        have m2 := hT'.most
        have m3 := hT'.thing
        have m4 := hT'.is
        rw [if_pos (hall 2 (by decide))] at m2
        rw [if_pos (hall 3 (by decide))] at m3
        rw [if_pos (hall 4 (by decide))] at m4
        have hgs : gst (pre ++ [x]) = some x := by rw [gst_snoc, ho]; rfl
        refine ⟨by rw [q4]; exact hT'.from_, hT'.old, ?_⟩
        show GrI S w (gst (pre ++ [x])) w'
        rw [hgs]
        exact ⟨hT'.below, m3, m4, m2⟩
    | some m =>
      rw [ho] at cis cmo
      simp only [Option.isSome_some] at cis
      simp only [optT] at cmo
      have HX := Lib.hid (And.intro hI hrow)
      clear hI hrow
      by_cases hlt : (m.t : Int) < (x.t : Int)
      · gi_wp2
        obtain ⟨hI, hrow⟩ := HX.out
        refine region_round_m (l := l) (GrT S P w (gst pre) x W) (GrV x) (by kernel_rfl) (fun ⟨_, _, h⟩ => h) (by kernel_rfl) (by kernel_rfl) (by kernel_rfl) (by kernel_rfl) ⟨hI.below.drew, (Below.refl _ _).drew, (KeepsOthers.drew W).from _, hI.lt, hrow, hI.most, hI.thing, hI.is⟩ ?stepb ?finb
        case stepb =>
          intro q o ho listed a' w' hJ hn' hpre
          have hq : q < 5 := (Array.getElem?_eq_some_iff.1 ho).1
          have hT' := hJ.inv
          have hd3 : (S + 2 : Nat) ≠ S := by omega
          have hlen : listed.size = 5 := hJ.size
          have hsame : ∀ k, k < 2 → GrT S P w (gst pre) x W (listed.setIfInBounds k true) w' := fun k hk => ⟨hT'.below, hT'.old, hT'.from_, hT'.size, hT'.one, by rw [listed_other (by omega)]; exact hT'.most, by rw [listed_other (by omega)]; exact hT'.thing, by rw [listed_other (by omega)]; exact hT'.is⟩
          match q, hq with
          | 0, _ =>
            cases ho
            exact wpOp_move rfl rfl (.inl rfl) (hJ.kept (t := 5) (by kernel_rfl)) ⟨_, rfl, hsame _ (by decide), fun _ => rfl, fun _ _ _ h => h⟩
          | 1, _ =>
            cases ho
            exact wpOp_load rfl rfl rfl (hJ.kept (t := 6) (by kernel_rfl)) (mt_load hT'.one) ⟨_, rfl, hsame _ (by decide), fun _ => rfl, fun _ _ _ h => h⟩
          | 2, _ =>
            cases ho
            have e0 : a'.eval (.tmp 17) = .int .i64 x.t := hJ.slot 0 17 rfl (hpre ⟨0, .data⟩ (by simp) rfl) rfl
            have hg1 := set_grown w' ⟨S + 2, 0, none⟩ (.int .i64 x.t)
            refine wpOp_store rfl rfl rfl (hJ.kept (t := 4) (by kernel_rfl)) e0 (int_store (g := S + 2) x.t hT'.most) ⟨_, rfl, hT'.step (k := S + 2) hP (by omega) (by omega) hg1 ?_ ?_ ?_, (fun e => by cases e), fun j u _ h => GrV.any j u h⟩
            · rw [if_pos (listed_same (by omega))]; exact set1_row _ hT'.most
            · rw [listed_other (by decide)]; exact (hg1.block S (by have := hT'.size; omega) (by simp)).trans hT'.thing
            · rw [listed_other (by decide)]; exact (hg1.block (S + 1) (by have := hT'.size; omega) (by simp)).trans hT'.is
          | 3, _ =>
            cases ho
            have e1 : a'.eval (.tmp 18) = .agg (optRow (some x)) := hJ.slot 1 18 rfl (hpre ⟨1, .data⟩ (by simp) rfl) rfl
            have hg1 := row_grown w' S (optRow (some x))
            refine wpOp_store rfl rfl rfl (hJ.kept (t := 2) (by kernel_rfl)) e1 (mt_store (some x) hT'.thing (by split <;> exact optRow_size _)) ⟨_, rfl, hT'.step hP (by omega) (Nat.le_refl _) hg1 ?_ ?_ ?_, (fun e => by cases e), fun j u _ h => GrV.any j u h⟩
            · rw [listed_other (by decide)]; exact (hg1.block (S + 2) (by have := hT'.size; omega) (by simp)).trans hT'.most
            · rw [if_pos (listed_same (by omega))]; exact row_set _ hT'.thing
            · rw [listed_other (by decide)]; exact (hg1.block (S + 1) (by have := hT'.size; omega) (by simp)).trans hT'.is
          | 4, _ =>
            cases ho
            have hg1 := set_grown w' ⟨S + 1, 0, none⟩ (.bool true)
            refine wpOp_store rfl rfl rfl (hJ.kept (t := 3) (by kernel_rfl)) rfl (bool_store (g := S + 1) true hT'.is) ⟨_, rfl, hT'.step (k := S + 1) hP (by omega) (by omega) hg1 ?_ ?_ ?_, (fun e => by cases e), fun j u _ h => GrV.any j u h⟩
            · rw [listed_other (by decide)]; exact (hg1.block (S + 2) (by have := hT'.size; omega) (by simp)).trans hT'.most
            · rw [listed_other (by decide)]; exact (hg1.block S (by have := hT'.size; omega) (by simp)).trans hT'.thing
            · rw [if_pos (listed_same (by omega))]; exact set1_row _ hT'.is
        case finb =>
          intro listed a' w' hJ hall
          have hT' := hJ.inv
          have m2 := hT'.most
          have m3 := hT'.thing
          have m4 := hT'.is
          rw [if_pos (hall 2 (by decide))] at m2
          rw [if_pos (hall 3 (by decide))] at m3
          rw [if_pos (hall 4 (by decide))] at m4
          have hgs : gst (pre ++ [x]) = some x := by rw [gst_snoc, ho]; simp only [gstep]; rw [if_pos (by omega)]
          refine ⟨by rw [q4]; exact hT'.from_, hT'.old, ?_⟩
          show GrI S w (gst (pre ++ [x])) w'
          rw [hgs]
          exact ⟨hT'.below, m3, m4, m2⟩
      · gi_wp2
        obtain ⟨hI, hrow⟩ := HX.out
        refine ⟨KeepsFrom.refl _ _, Below.refl _ _, ?_⟩
        show GrI S w (gst (pre ++ [x])) W
        rw [gst_snoc, ho]
        simp only [gstep]
        rw [if_neg (by omega), ← ho]
        exact hI
  case done =>
    rintro D xs W hD rfl hI hK
    have hI : GrI S w (gst (oa.toList ++ ob.toList)) W := hI
    obtain ⟨o, hgo⟩ : ∃ o, gst (oa.toList ++ ob.toList) = o := ⟨_, rfl⟩
    rw [hgo] at hI
    have hDl := (Array.getElem?_eq_some_iff.1 hK).1
    rw [q4] at hD
    have HI := Lib.hid (And.intro hI hK)
    clear hI hK
    gi_wp2
    obtain ⟨hI, hK⟩ := HI.out
    refine wpIn_wide.2 (wp_region_m (fun _ W' => GrI S w o W' ∧ W'.heap[D]? = some (.deferred (some []))) (GdV o) (by kernel_rfl) (by kernel_rfl) (by kernel_rfl) (by kernel_rfl) ⟨⟨hI.below.drew, hI.thing, hI.is, hI.most⟩, hK⟩ ?stepd ?find)
    case stepd =>
      intro q p ho listed a' w' hJ hn' hpre
      have hq : q < 4 := (Array.getElem?_eq_some_iff.1 ho).1
      obtain ⟨hT', hK'⟩ := hJ.inv
      have hlt' := hT'.lt
      match q, hq with
      | 0, _ =>
        cases ho
        exact wpOp_load rfl rfl rfl (hJ.kept (t := 2) (by kernel_rfl)) (mt_load hT'.thing) ⟨_, rfl, ⟨hT', hK'⟩, fun _ => rfl, fun _ _ _ h => h⟩
      | 1, _ =>
        cases ho
        exact wpOp_load rfl rfl rfl (hJ.kept (t := 3) (by kernel_rfl)) (load_cellR (Tryd.isAgg4 w') (v := .bool o.isSome) (cell_of_row w' (S + 1) 0 _ _ _ hT'.is)) ⟨_, rfl, ⟨hT', hK'⟩, fun _ => rfl, fun _ _ _ h => h⟩
      | 2, _ =>
        cases ho
        have e0 : a'.eval (.tmp 19) = .agg (optRow o) := hJ.slot 0 19 rfl (hpre ⟨0, .data⟩ (by simp) rfl) rfl
        have hg1 := row_grown w' S (optRow o)
        exact wpOp_store rfl rfl rfl (hJ.kept (t := 2) (by kernel_rfl)) e0 (mt_store o hT'.thing (optRow_size _)) ⟨_, rfl, ⟨⟨hT'.below.grown hg1 (by omega) (fun q e => by cases e; exact Nat.le_refl _), row_set _ hT'.thing, (hg1.block (S + 1) (by omega) (by simp)).trans hT'.is, (hg1.block (S + 2) (by omega) (by simp)).trans hT'.most⟩, (hg1.block D (Array.getElem?_eq_some_iff.1 hK').1 (fun e => by cases e; omega)).trans hK'⟩, (fun e => by cases e), fun j u _ h => GdV.any j u h⟩
      | 3, _ =>
        cases ho
        have e1 : a'.eval (.tmp 20) = .bool o.isSome := hJ.slot 1 20 rfl (hpre ⟨1, .data⟩ (by simp) rfl) rfl
        have hg1 := set_grown w' ⟨S + 1, 0, none⟩ (.bool o.isSome)
        have hne : some D ≠ some (S + 1) := fun e => by
          have : D = S + 1 := Option.some.inj e
          omega
        exact wpOp_store rfl rfl rfl (hJ.kept (t := 3) (by kernel_rfl)) e1 (bool_store (g := S + 1) _ hT'.is) ⟨_, rfl, ⟨⟨hT'.below.grown hg1 (by omega) (fun q e => by cases e; show S ≤ S + 1; omega), (hg1.block S (by omega) (by simp)).trans hT'.thing, set1_row _ hT'.is, (hg1.block (S + 2) (by omega) (by simp)).trans hT'.most⟩, (hg1.block D (Array.getElem?_eq_some_iff.1 hK').1 hne).trans hK'⟩, (fun e => by cases e), fun j u _ h => GdV.any j u h⟩
    case find =>
      intro listed a' w' hJ hall
      obtain ⟨hT', hK'⟩ := hJ.inv
      obtain ⟨vs, hvl, hvs, e⟩ := hJ.frame 19 2 (Nat.le_of_ble_eq_true (by kernel_rfl)) (by kernel_rfl)
      clear hJ hall hvs
      match vs, hvl with
      | [t0, t1], _ =>
      simp only [List.take_succ_cons, List.take_zero, List.drop_succ_cons, List.drop_zero, List.cons_append, List.nil_append, Nat.reduceAdd] at e
      subst e
      gi_wp2
      refine ⟨by simp, .inl ⟨_, _, rfl, run_takeDeferred hK', ?_⟩⟩
      have hput := grownBy_putObj' w' D (.deferred none)
      have hT2 := hT'.kept hput (fun r e => by cases e; exact hD)
      exact ⟨_, results_gr rfl _ _ _ _ _ _ _ _ rfl hT2.thing Tryd.underlying25 (by rw [optRow_size]; kernel_rfl) rfl rfl (cell_of_row _ (S + 1) 0 _ _ _ hT2.is), by rw [optRow_val, hgo]; rfl, by rw [hS]; exact hT2.below⟩
  case stop =>
    rintro D c pre W _ _ h _
    exact h.elim
end Go.Proofs.YtaijjlaheoamaaaDoor
/- Layer 6: Counts. -/
namespace Go.Proofs.YtaijjlaheoamaaaDoor
open Go.RowKit

theorem standing_any (w : World) (a1 a2 : Option Addr) (n1 c1 n2 c2 : Nat) : Calls Tryd.prog 21 #[.agg #[.slice a1 n1 c1, .slice a2 n2 c2]] w fun e w' => e = .returned (.func (.func 31) #[] #[mpt w.heap.size 0]) ∧ w.alloc (.cells #[.slice a1 n1 c1, .slice a2 n2 c2] 50) = w' := by
  have hmf : ∀ (fn : Fn) (first cap : Array Value) (w : World), (Instr.makeFunc fn first cap).run Tryd.prog w = .ok (.func fn first cap) w := fun _ _ _ _ => rfl
  go_enter Tryd.func21, Tryd.ntmps21
  go_wp2
  go_ret
  exact ⟨rfl, rfl⟩
theorem greatest_any (Bs : Nat) (a1 a2 : Option Addr) (la lb : List UInt8) (c1 c2 : Nat) (oa ob : Option Mt) (hoa : Opt 0 la oa) (hob : Opt 1 lb ob) (w : World) (hBs : Bs < w.heap.size)
    (hc0 : w.cell? ⟨Bs, 0, none⟩ = some (.slice a1 la.length c1)) (hc1 : w.cell? ⟨Bs, 1, none⟩ = some (.slice a2 lb.length c2))
    (hA : BsAt w.heap.size w a1 la c1) (hB : BsAt w.heap.size w a2 lb c2) (hT : Tab w) (hg : 0 + 1 ≤ w.heap.size) :
    Calls Tryd.prog 19 #[.func (.func 31) #[] #[mpt Bs 0]] w fun e W' => e = .returned (.tuple #[optM (gst (oa.toList ++ ob.toList)), .bool (gst (oa.toList ++ ob.toList)).isSome]) ∧ Below w.heap.size w W' :=
  callsIn_wide.1 (greatest_wide 4 (by decide) Bs a1 a2 la lb c1 c2 oa ob hoa hob w hBs hc0 hc1 hA hB hT hg)
/-- Which of both counts. -/
def cnt (oa ob : Option Mt) : Option Mt := gst (oa.toList ++ ob.toList)
def cntE (o : Option Mt) : Int := match o with | some _ => 0 | none => 160
set_option maxRecDepth 100000 in
set_option maxHeartbeats 1000000 in
theorem counts_any (a1 a2 : Option Addr) (la lb : List UInt8) (c1 c2 : Nat) (oa ob : Option Mt) (hoa : Opt 0 la oa) (hob : Opt 1 lb ob) (w : World) (n₁ : Nat) (hn₁ : n₁ ≤ w.heap.size)
    (hA : BsAt n₁ w a1 la c1) (hB : BsAt n₁ w a2 lb c2) (hT : Tab w) (hg : 0 + 1 ≤ w.heap.size) :
    Calls Tryd.prog 9 #[.slice a1 la.length c1, .slice a2 lb.length c2] w fun e w' => e = .returned (.tuple #[optM (cnt oa ob), .int .i64 (cntE (cnt oa ob))]) ∧ Below w.heap.size w w' := by
  have hb0 : Below w.heap.size w ((w.alloc (.cells #[.int .i64 0, .int .i64 0, .int .i64 0, .int .i64 0] 25)).alloc (.cells #[.slice a1 la.length c1, .slice a2 lb.length c2] 22)) := ((Below.refl _ _).alloc (Nat.le_refl _) _).alloc (by simp) _
  have hr0 : ((w.alloc (.cells #[.int .i64 0, .int .i64 0, .int .i64 0, .int .i64 0] 25)).alloc (.cells #[.slice a1 la.length c1, .slice a2 lb.length c2] 22)).heap[w.heap.size]? = some (.cells #[.int .i64 0, .int .i64 0, .int .i64 0, .int .i64 0] 25 (0, 0)) := (Below.heap_alloc _ _ _ (by simp)).trans (heap_alloc_new w _)
  have hr1 := heap_alloc_two w (.cells #[.int .i64 0, .int .i64 0, .int .i64 0, .int .i64 0] 25) (.cells #[.slice a1 la.length c1, .slice a2 lb.length c2] 22)
  have HB := Lib.hid (And.intro hb0 hr0)
  have HPg := Lib.hid (pages_any _ _ a1 a2 la.length c1 lb.length c2 hr1)
  have HA := Lib.hid (And.intro hA (And.intro hB (And.intro hT (And.intro hg hn₁))))
  have HO := Lib.hid (And.intro hoa hob)
  clear hb0 hr0 hr1 hA hB hT hg hn₁ hoa hob
  obtain ⟨ka, hka⟩ : ∃ k, la.length = k := ⟨_, rfl⟩
  obtain ⟨kb, hkb⟩ : ∃ k, lb.length = k := ⟨_, rfl⟩
  rw [hka, hkb] at HB HPg ⊢
  have HKK := Lib.hid (And.intro hka hkb)
  clear hka hkb
  go_enter Tryd.func9, Tryd.ntmps9
  go_wp2_with (first
    | (go_at_call 20; refine HPg.out.mono ?_; rintro e w1 ⟨rfl, hb1⟩)
    | (go_at_call 21; refine (standing_any _ _ _ _ _ _ _).mono ?_; rintro e w2 ⟨rfl, rfl⟩))
  have hal : Below w1.heap.size w1 (w1.alloc (.cells #[.slice a1 ka c1, .slice a2 kb c2] 50)) := (Below.refl _ _).alloc (Nat.le_refl _) _
  have hrB := heap_alloc_new w1 (.cells #[.slice a1 ka c1, .slice a2 kb c2] 50)
  have hbw := go_on (go_on HB.out.1 hb1) hal
  have hR0 := go_row (go_row HB.out.2 hb1) hal
  have hsz : (w1.alloc (.cells #[.slice a1 ka c1, .slice a2 kb c2] 50)).heap.size = w1.heap.size + 1 := by simp
  revert hal hrB hbw hR0 hsz
  generalize w1.alloc (.cells #[.slice a1 ka c1, .slice a2 kb c2] 50) = W2
  intro hal hrB hbw hR0 hsz
  have d0 := cell_of_row W2 w1.heap.size 0 _ _ _ hrB
  have d1 := cell_of_row W2 w1.heap.size 1 _ _ _ hrB
  simp only [List.getElem?_toArray, List.getElem?_cons_zero, List.getElem?_cons_succ] at d0 d1
  obtain ⟨hA, hB, hT, hg, hn₁⟩ := HA.out
  rw [← HKK.out.1] at d0
  rw [← HKK.out.2] at d1
  have hge := greatest_any w1.heap.size a1 a2 la lb c1 c2 oa ob HO.out.1 HO.out.2 W2 (by omega) d0 d1 ⟨(hA.1.below (hbw.mono hn₁)).mono (Nat.le_trans hn₁ hbw.size), hA.2⟩ ⟨(hB.1.below (hbw.mono hn₁)).mono (Nat.le_trans hn₁ hbw.size), hB.2⟩ (hT.below hg hbw) (Nat.le_trans hg hbw.size)
  refine hge.mono ?_
  clear hge hA hB hT hg hn₁ d0 d1 HPg HA HO HKK hal hrB hb1 hsz
  rintro e w3 ⟨rfl, hb3⟩
  have hb := go_on hbw hb3
  have hR1 := go_row hR0 hb3
  clear hbw hb3 hR0 HB
  rw [show gst (oa.toList ++ ob.toList) = cnt oa ob from rfl]
  have hlt := (Array.getElem?_eq_some_iff.1 hR1).1
  have d0 := cell_of_row w3 w.heap.size 0 _ _ _ hR1; have f0 := frozen_of_row w3 w.heap.size 0 _ _ hR1
  have d1 := cell_of_row w3 w.heap.size 1 _ _ _ hR1; have f1 := frozen_of_row w3 w.heap.size 1 _ _ hR1
  have d2 := cell_of_row w3 w.heap.size 2 _ _ _ hR1; have f2 := frozen_of_row w3 w.heap.size 2 _ _ hR1
  have d3 := cell_of_row w3 w.heap.size 3 _ _ _ hR1; have f3 := frozen_of_row w3 w.heap.size 3 _ _ hR1
  simp only [List.getElem?_toArray, List.getElem?_cons_zero, List.getElem?_cons_succ] at d0 d1 d2 d3
  have HX := Lib.hid (And.intro hR1 hb)
  clear hR1 hb
  obtain ⟨o, ho⟩ : ∃ o, cnt oa ob = o := ⟨_, rfl⟩
  rw [ho]
  have HO2 := Lib.hid ho
  clear ho
  cases o with
  | none =>
    simp only [optM, Option.isSome_none]
    go_wp2
    obtain ⟨hR1, hb⟩ := HX.out
    have hg1 := set4_grown w3 w.heap.size (.int .i64 0) (.int .i64 0) (.int .i64 0) (.int .i64 0)
    have hR2 := set4_heap (.int .i64 0) (.int .i64 0) (.int .i64 0) (.int .i64 0) hR1
    have hb2 := hb.grown hg1 hb.size (fun q e => by cases e; exact Nat.le_refl _)
    refine bodyPost_ret (results_ct rfl _ _ _ _ _ _ rfl ((Below.heap_alloc _ _ _ (Array.getElem?_eq_some_iff.1 hR2).1).trans hR2) Tryd.underlying25 (by kernel_rfl)) rfl ?_
    exact ⟨by rw [HO2.out]; rfl, hb2.alloc hb2.size _⟩
  | some m =>
    simp only [optM, Option.isSome_some]
    go_wp2
    obtain ⟨hR1, hb⟩ := HX.out
    have hg1 := set4_grown w3 w.heap.size (.int .i64 m.t) (.int .i64 m.r) (.int .i64 m.f) (.int .i64 m.h)
    have hR2 := set4_heap (.int .i64 m.t) (.int .i64 m.r) (.int .i64 m.f) (.int .i64 m.h) hR1
    have hb2 := hb.grown hg1 hb.size (fun q e => by cases e; exact Nat.le_refl _)
    refine bodyPost_ret (results_ct rfl _ _ _ _ _ _ rfl ((Below.heap_alloc _ _ _ (Array.getElem?_eq_some_iff.1 hR2).1).trans hR2) Tryd.underlying25 (by kernel_rfl)) rfl ?_
    exact ⟨by rw [HO2.out]; rfl, hb2.alloc hb2.size _⟩
end Go.Proofs.YtaijjlaheoamaaaDoor
/- Layer 6: First; the law's known. -/
namespace Go.Proofs.YtaijjlaheoamaaaDoor
open Go.RowKit

def mt0 : Mt := ⟨0, 0, 0, 2⟩
def mt1 : Mt := ⟨1, 0, 0, 2⟩
theorem mt0_ok : mt0.ok := ⟨by decide, by decide, by decide, .inl rfl, .inl rfl⟩
theorem mt1_ok : mt1.ok := ⟨by decide, by decide, by decide, .inl rfl, .inl rfl⟩
theorem BytesAt.aside {n₁ V : Nat} {w w' : World} {a : Option Addr} {l : List UInt8} (h : BytesAt n₁ w a l) (hn : n₁ ≤ w.heap.size) (hg : w.grownBy w' (some V)) (hne : ∀ b off s, a = some ⟨b, off, s⟩ → V < b) : BytesAt n₁ w' a l := fun hl => by
  obtain ⟨b, off, e, hb, hc⟩ := h hl
  refine ⟨b, off, e, hb, fun j hj => ?_⟩
  have h1 := hne b off none e
  rw [World.cell?_of_block (a := ⟨b, off + j, none⟩) (hg.block b (by omega) (fun e => by cases e; omega))]
  exact hc j hj
def FirstPost (w : World) (e : Ending) (w' : World) : Prop := ∃ a0 c0 a1 c1 n₁, e = .returned (.agg #[.slice a0 256 c0, .slice a1 256 c1]) ∧ Below w.heap.size w w' ∧ n₁ ≤ w'.heap.size ∧ w.heap.size ≤ n₁ ∧
  OwnB w' w.heap.size (.slice a0 256 c0) mt0.raw ∧ BytesAt n₁ w' a0 mt0.raw ∧ OwnB w' n₁ (.slice a1 256 c1) mt1.raw
theorem own256 {w : World} {base : Nat} {v : Value} {m : Mt} (hm : m.ok) (h : OwnB w base v m.raw) : ∃ a c, v = .slice a 256 c ∧ BytesAt w.heap.size w a m.raw ∧ (a = none → c = 0) ∧ 256 ≤ c := by
  obtain ⟨a, c, e, h1, h2, -, h3, -⟩ := h.form
  rw [Mt.raw_len hm] at e h2
  exact ⟨a, c, e, h1, h3, h2⟩
set_option maxRecDepth 100000 in
set_option maxHeartbeats 1000000 in
theorem first_any (w : World) (hT : Tab w) (hg : 0 + 1 ≤ w.heap.size) : Calls Tryd.prog 18 #[] w fun e w' => FirstPost w e w' := by
  have hb0 : Below w.heap.size w (w.alloc (.cells #[.slice none 0 0, .slice none 0 0] 44)) := (Below.refl _ _).alloc (Nat.le_refl _) _
  have hr0 := heap_alloc_new w (.cells #[.slice none 0 0, .slice none 0 0] 44)
  have hraw := fun (m : Mt) (hm : m.ok) w' (h : Below w.heap.size w w') => mraw_yes m hm w' (hT.below hg h) (Nat.le_trans hg h.size)
  have HB := Lib.hid (And.intro hb0 hr0)
  have H0 := Lib.hid (hraw mt0 mt0_ok _ hb0)
  have HR := Lib.hid (fun w' h => hraw mt1 mt1_ok w' h)
  clear hb0 hr0 hraw hT hg
  go_enter Tryd.func18, Tryd.ntmps18
  go_wp2_with fail
  refine H0.out.mono ?_
  rintro e w1 ⟨v0, rfl, hO0, hb1⟩
  obtain ⟨a0, c0, rfl, hm0, hn0, hl0⟩ := own256 mt0_ok hO0
  have hbw1 := go_on HB.out.1 hb1
  have hR1 := go_row HB.out.2 hb1
  have HX := Lib.hid (And.intro hO0 (And.intro hm0 (And.intro hbw1 hR1)))
  have H1 := Lib.hid (HR.out _ hbw1)
  clear hO0 hm0 hb1 hbw1 hR1 H0 HR
  go_wp2_with fail
  refine H1.out.mono ?_
  rintro e w2 ⟨v1, rfl, hO1, hb2⟩
  obtain ⟨a1, c1, rfl, hm1, hn1, hl1⟩ := own256 mt1_ok hO1
  obtain ⟨hO0, hm0, hbw1, hR1⟩ := HX.out
  have hsz1 := hbw1.size
  have hbw2 := go_on hbw1 hb2
  have hR2 := go_row hR1 hb2
  have hrA := heap_alloc_new w2 (.cells #[.slice a0 256 c0, .slice a1 256 c1] 22)
  have hal : Below w2.heap.size w2 (w2.alloc (.cells #[.slice a0 256 c0, .slice a1 256 c1] 22)) := (Below.refl _ _).alloc (Nat.le_refl _) _
  have hpg := pages_any _ _ a0 a1 256 c0 256 c1 hrA
  have HX2 := Lib.hid (And.intro ((hO0.below hb2).below hal) (And.intro (hm0.below (hb2.trans (hal.mono hb2.size))) (And.intro (hO1.below hal) (And.intro (go_on hbw2 hal) (And.intro (go_row hR2 hal) (And.intro hb2.size hsz1))))))
  have HP := Lib.hid hpg
  clear hpg hrA hal hO0 hm0 hO1 hm1 hb2 hbw2 hR2 hbw1 hR1 HX H1 HB hsz1
  go_wp2_with fail
  refine HP.out.mono ?_
  rintro e w3 ⟨rfl, hb3⟩
  obtain ⟨hO0, hm0, hO1, hbw, hR, hs2, hs1⟩ := HX2.out
  have hs3 := hb3.size
  rw [World.size_alloc] at hs3
  have hR3 := go_row hR hb3
  have hbw3 := go_on hbw hb3
  have d0 := cell_of_row w3 w.heap.size 0 _ _ _ hR3; have f0 := frozen_of_row w3 w.heap.size 0 _ _ hR3
  have d1 := cell_of_row w3 w.heap.size 1 _ _ _ hR3; have f1 := frozen_of_row w3 w.heap.size 1 _ _ hR3
  simp only [List.getElem?_toArray, List.getElem?_cons_zero, List.getElem?_cons_succ] at d0 d1
  have HX3 := Lib.hid (And.intro (hO0.below hb3) (And.intro (hm0.below (hb3.mono (by rw [World.size_alloc]; omega))) (And.intro (hO1.below hb3) (And.intro hbw3 (And.intro hR3 (And.intro (show w1.heap.size ≤ w3.heap.size by omega) hs1))))))
  clear HX2 HP hO0 hm0 hO1 hbw hR hs2 hs3 hbw3 hR3 hb3 hs1
  go_wp2_with fail
  obtain ⟨hO0, hm0, hO1, hbw, hR, hs2, hs1⟩ := HX3.out
  have e1 := heap_setCell_same _ _ 1 _ _ (.slice a1 256 c1) (heap_setCell_same _ _ 0 _ _ (.slice a0 256 c0) hR)
  have hg1 : w3.grownBy ((w3.setCell ⟨w.heap.size, 0, none⟩ (.slice a0 256 c0)).setCell ⟨w.heap.size, 1, none⟩ (.slice a1 256 c1)) (some w.heap.size) := World.grownBy.trans (set_grown w3 ⟨w.heap.size, 0, none⟩ _) (set_grown _ ⟨w.heap.size, 1, none⟩ _)
  have hbw4 := hbw.grown hg1 hbw.size (fun q e => by cases e; exact Nat.le_refl _)
  refine bodyPost_ret (results_cell_row rfl _ _ _ _ _ _ _ rfl e1 Tryd.underlying44 rfl (by kernel_rfl)) rfl ?_
  have hfar : ∀ b off s, a0 = some ⟨b, off, s⟩ → w.heap.size < b := fun b off s e => by
    obtain ⟨a', c', ev, -, -, -, -, hlo⟩ := hO0.form
    cases ev
    have := hlo b off s e
    simp at this
    omega
  refine ⟨a0, c0, a1, c1, w1.heap.size, rfl, hbw4, Nat.le_trans hs2 hg1.size, hs1, (hO0.besides hR (by decide) hg1).mono (by simp), hm0.aside hs2 hg1 hfar, hO1.besides hR (by decide) hg1⟩
end Go.Proofs.YtaijjlaheoamaaaDoor
/- Layer 6: the law's known. -/
namespace Go.Proofs.YtaijjlaheoamaaaDoor
open Go.RowKit

def mt3 : Mt := ⟨3, 5, 0, 9⟩
theorem mt3_ok : mt3.ok := ⟨by decide, by decide, by decide, .inr ⟨by decide, by decide⟩, .inl rfl⟩
theorem isMt_self {m : Mt} (h : m.ok) : IsMt ((m.t % 2 : Nat) : Int) m.raw m := ⟨h, rfl, rfl⟩
theorem no_other {m : Mt} (h : m.ok) {n : Int} (hn : ((m.t % 2 : Nat) : Int) ≠ n) : Opt n m.raw none := fun m' hm => by
  have h1 := (isMt_self h).look.2.2.2.2
  have h2 := hm.look.2.2.2.2
  exact hn (h1.symm.trans h2)
theorem errM_raw {m : Mt} (h : m.ok) {n : Int} (hn : n = 0 ∨ n = 1) : errM n m.raw = 160 := by unfold errM; rw [if_pos ⟨hn, Mt.raw_len h⟩]
theorem BsAt.raw {n₁ : Nat} {w : World} {a : Option Addr} {c : Nat} {m : Mt} (h : m.ok) (h1 : BytesAt n₁ w a m.raw) (h2 : a = none → c = 0) (h3 : 256 ≤ c) : BsAt n₁ w a m.raw c := ⟨h1, h2, by rw [Mt.raw_len h]; exact h3, by rw [Mt.raw_len h]; decide⟩
set_option maxRecDepth 100000 in
set_option maxHeartbeats 1000000 in
theorem mknown_any (w : World) (hT : Tab w) (hg : 0 + 1 ≤ w.heap.size) : Calls Tryd.prog 8 #[] w fun e w' => e = .returned (.bool true) ∧ Below w.heap.size w w' := by
  have HF := Lib.hid (first_any w hT hg)
  have HT := Lib.hid (And.intro hT hg)
  clear hT hg
  go_enter Tryd.func8, Tryd.ntmps8
  go_wp2_with fail
  refine HF.out.mono ?_
  rintro e w1 ⟨a0, c0, a1, c1, n₁, rfl, hb1, hn1, -, hO0, -, hO1⟩
  obtain ⟨a0', c0', ev, hm0, hno0, hle0⟩ := own256 mt0_ok hO0
  cases ev
  obtain ⟨a1', c1', ev, hm1, hno1, hle1⟩ := own256 mt1_ok hO1
  cases ev
  have hal : Below w1.heap.size w1 (w1.alloc (.cells #[.slice a0 256 c0, .slice a1 256 c1] 44)) := (Below.refl _ _).alloc (Nat.le_refl _) _
  have hb2 := go_on hb1 hal
  have hcn := counts_any a0 a1 mt0.raw mt1.raw c0 c1 (some mt0) (some mt1) (isMt_self mt0_ok) (isMt_self mt1_ok) _ _ hal.size (BsAt.raw mt0_ok (hm0.below hal) hno0 hle0) (BsAt.raw mt1_ok (hm1.below hal) hno1 hle1) (HT.out.1.below HT.out.2 hb2) (Nat.le_trans HT.out.2 hb2.size)
  rw [Mt.raw_len mt0_ok, Mt.raw_len mt1_ok, show cnt (some mt0) (some mt1) = some mt1 from rfl] at hcn
  have HC := Lib.hid hcn
  have HX := Lib.hid hb2
  clear hcn hb2 hal hm0 hm1 hno0 hno1 hle0 hle1 hO0 hO1 hb1 hn1 HF
  go_wp2_with fail
  refine HC.out.mono ?_
  rintro e w2 ⟨rfl, hb2⟩
  have hb := go_on HX.out hb2
  have hra := mraw_yes mt3 mt3_ok (w2.alloc (.cells #[.int .i64 1, .int .i64 0, .int .i64 0, .int .i64 2] 25))
  have hal := hb.alloc hb.size (.cells #[.int .i64 1, .int .i64 0, .int .i64 0, .int .i64 2] 25)
  have HR := Lib.hid (hra (HT.out.1.below HT.out.2 hal) (Nat.le_trans HT.out.2 hal.size))
  have hr2 := heap_alloc_new w2 (.cells #[.int .i64 1, .int .i64 0, .int .i64 0, .int .i64 2] 25)
  have HX2 := Lib.hid (And.intro hal hr2)
  clear hb hb2 hra hal hr2 HX HC
  rw [show optM (some mt1) = mtv 1 0 0 2 from rfl, show cntE (some mt1) = 0 from rfl]
  go_wp2_with fail
  refine HR.out.mono ?_
  rintro e w3 ⟨v, rfl, hO, hb3⟩
  obtain ⟨a, c, rfl, hm, hno, hle⟩ := own256 mt3_ok hO
  obtain ⟨hal, hr2⟩ := HX2.out
  have hb := go_on hal hb3
  have hr3 := go_row hr2 hb3
  have hlen := Mt.raw_len mt3_ok
  have hp0 := mparse_opt 0 mt3.raw a c _ (by omega) (by omega) w3 hm (Nat.le_refl _) hno (HT.out.1.below HT.out.2 hb) (Nat.le_trans HT.out.2 hb.size) none (no_other mt3_ok (by decide))
  have hp1 := fun w' (h : Below w3.heap.size w3 w') => mparse_opt 1 mt3.raw a c _ (by omega) (by omega) w' (hm.below h) h.size hno (HT.out.1.below HT.out.2 (go_on hb h)) (Nat.le_trans HT.out.2 (go_on hb h).size) (some mt3) (isMt_self mt3_ok)
  rw [hlen, show optM none = mtv 0 0 0 0 from rfl, show optE 0 mt3.raw none = 160 from errM_raw mt3_ok (.inl rfl)] at hp0
  simp only [hlen, show optM (some mt3) = mtv 3 5 0 9 from rfl, show optE 1 mt3.raw (some mt3) = 0 from rfl] at hp1
  have H0 := Lib.hid hp0
  have H1 := Lib.hid hp1
  have HX3 := Lib.hid (And.intro hb hr3)
  clear hO hm hno hle hal hr2 hb hr3 hlen hp0 hp1 hb3 HX2 HR
  go_wp2_with fail
  refine H0.out.mono ?_
  rintro e w4 ⟨rfl, hb4⟩
  have hal := hb4.alloc hb4.size (.cells #[.int .i64 0, .int .i64 0, .int .i64 0, .int .i64 0] 25)
  obtain ⟨hb, hr3⟩ := HX3.out
  have HX4 := Lib.hid (And.intro (go_on hb hal) (go_row hr3 hal))
  have HP := Lib.hid (H1.out _ hal)
  clear hb hr3 hb4 hal HX3 H1 H0
  go_wp2_with fail
  refine HP.out.mono ?_
  rintro e w5 ⟨rfl, hb5⟩
  obtain ⟨hb, hr3⟩ := HX4.out
  have hb6 := go_on hb hb5
  have hr5 := go_row hr3 hb5
  have hlt := (Array.getElem?_eq_some_iff.1 hr5).1
  have d0 := cell_of_row w5 w2.heap.size 0 _ _ _ hr5
  have d1 := cell_of_row w5 w2.heap.size 1 _ _ _ hr5
  have d2 := cell_of_row w5 w2.heap.size 2 _ _ _ hr5
  have d3 := cell_of_row w5 w2.heap.size 3 _ _ _ hr5
  simp only [List.getElem?_toArray, List.getElem?_cons_zero, List.getElem?_cons_succ] at d0 d1 d2 d3
  have HX5 := Lib.hid (hb6.alloc hb6.size (.cells #[.int .i64 3, .int .i64 5, .int .i64 0, .int .i64 9] 25))
  have tokW : whereI 7 = 1 := by decide
  have tokX : whereI (-2) = 0 := by decide
  clear hb hr3 hb6 hr5 HX4 HP hb5
  go_wp2_with (go_at_call 16; refine (where_any _ _).mono ?_; rintro e w' ⟨rfl, rfl⟩)
  go_ret
  exact ⟨rfl, HX5.out⟩
end Go.Proofs.YtaijjlaheoamaaaDoor

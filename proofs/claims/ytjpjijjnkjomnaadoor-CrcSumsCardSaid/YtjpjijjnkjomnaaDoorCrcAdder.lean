/- The contracts of a sum under way: New, Write, Sum, Len, Copy. -/
import Derived.RangeFuncNested
import Derived.RangeFuncBound
import Derived.RangeFuncCalls
import Derived.RangeFuncLeaves
import Derived.Shelf.Abstract
import Derived.Shelf.RegionOpen
import Derived.WalkKit
import Derived.OwnWalkIn
import Derived.TacticsInMore
import Derived.LoopNIn
import Derived.LoopIn
import Derived.Outline
import Derived.LoopTactic
import Derived.Lib.Hide
import Derived.Deep.AppendLies
import Derived.Maps.Range
import Derived.Test.YtjpjijjnkjomnaaDoorCrcSum
namespace Go.Proofs.YtjpjijjnkjomnaaDoor
open Go.RowKit Go.Shelf

attribute [local go_sem] Oper.semAt_some

/-- Block B is a sum under way of n bytes; s is what it stands at, not turned. -/
structure IsAdder (w : World) (B n s : Nat) : Prop where
  lt : B < w.heap.size
  made : w.cell? ⟨B, 0, none⟩ = some (.bool true)
  count : w.cell? ⟨B, 1, none⟩ = some (.int .i64 n)
  sum : w.cell? ⟨B, 2, none⟩ = some (.int .u32 s)
  free1 : w.frozen? ⟨B, 1, none⟩ = false
  free2 : w.frozen? ⟨B, 2, none⟩ = false
theorem IsAdder.kept {w w' : World} {B n s : Nat} (h : IsAdder w B n s) {row : Option Nat} (hg : w.grownBy w' row) (hne : some B ≠ row) : IsAdder w' B n s := by
  have hb := hg.block B h.lt hne
  exact ⟨Nat.lt_of_lt_of_le h.lt hg.size, (World.cell?_of_block hb).trans h.made, (World.cell?_of_block hb).trans h.count, (World.cell?_of_block hb).trans h.sum, (World.frozen?_of_block hb).trans h.free1, (World.frozen?_of_block hb).trans h.free2⟩
theorem IsAdder.below {w w' : World} {B n s m : Nat} (h : IsAdder w B n s) (hg : Below m w w') (hm : B < m) : IsAdder w' B n s := by
  have hb := hg.block B hm
  exact ⟨Nat.lt_of_lt_of_le h.lt hg.size, (World.cell?_of_block hb).trans h.made, (World.cell?_of_block hb).trans h.count, (World.cell?_of_block hb).trans h.sum, (World.frozen?_of_block hb).trans h.free1, (World.frozen?_of_block hb).trans h.free2⟩

/-- A sum under way that the call has made. -/
def AdderPost (w : World) (n s : Nat) (e : Ending) (w' : World) : Prop := ∃ B, e = .returned (.pointer (some ⟨B, 0, none⟩)) ∧ w.heap.size ≤ B ∧ IsAdder w' B n s ∧ Below w.heap.size w w'

theorem isAdder_new (w : World) (t : TypeId) (n s : Nat) : IsAdder (w.alloc (.cells #[.bool true, .int .i64 n, .int .u32 s] t)) w.heap.size n s := by
  constructor <;> simp

theorem new_any (w : World) : Calls Tryd.prog 11 #[] w fun e w' => AdderPost w 0 4294967295 e w' := by
  have hn := isAdder_new w 46 0 4294967295
  go_enter Tryd.func11, Tryd.ntmps11
  go_wp2
  go_ret
  exact ⟨_, rfl, Nat.le_refl _, hn, (Below.refl _ _).alloc (Nat.le_refl _) _⟩

theorem there_adder (B n s : Nat) (w : World) (h : IsAdder w B n s) :
    Calls Tryd.prog 21 #[.pointer (some ⟨B, 0, none⟩)] w fun e w' => e = .returned (.bool true) ∧ w = w' := by
  have hc := h.made
  go_enter Tryd.func21, Tryd.ntmps21
  go_wp2
  go_ret
  exact ⟨rfl, rfl⟩
theorem sumOf_adder (B n s : Nat) (hs : s < 4294967296) (w : World) (h : IsAdder w B n s) :
    Calls Tryd.prog 16 #[.pointer (some ⟨B, 0, none⟩)] w fun e w' => e = .returned (.int .u32 (4294967295 - s : Nat)) ∧ w = w' := by
  have hc := h.sum
  have hx := not32 hs
  have hsg : IntKind.u32.signed = false := rfl
  go_enter Tryd.func16, Tryd.ntmps16
  go_wp2_with (go_at_call 21; refine (there_adder B n s _ h).mono ?_; rintro e w' ⟨rfl, rfl⟩)
  go_ret
  exact ⟨rfl, rfl⟩
theorem len_adder (B n s : Nat) (w : World) (h : IsAdder w B n s) :
    Calls Tryd.prog 17 #[.pointer (some ⟨B, 0, none⟩)] w fun e w' => e = .returned (.int .i64 n) ∧ w = w' := by
  have hc := h.count
  go_enter Tryd.func17, Tryd.ntmps17
  go_wp2_with (go_at_call 21; refine (there_adder B n s _ h).mono ?_; rintro e w' ⟨rfl, rfl⟩)
  go_ret
  exact ⟨rfl, rfl⟩
set_option maxHeartbeats 1000000 in
theorem copy_adder (B n s : Nat) (w : World) (h : IsAdder w B n s) :
    Calls Tryd.prog 12 #[.pointer (some ⟨B, 0, none⟩)] w fun e w' => AdderPost w n s e w' := by
  have hc0 := h.made
  have hc1 := h.count
  have hc2 := h.sum
  have hn := isAdder_new w 46 n s
  go_enter Tryd.func12, Tryd.ntmps12
  go_wp2_with (go_at_call 21; refine (there_adder B n s _ h).mono ?_; rintro e w' ⟨rfl, rfl⟩)
  go_ret
  exact ⟨_, rfl, Nat.le_refl _, hn, (Below.refl _ _).alloc (Nat.le_refl _) _⟩

theorem grownBy_below {a w w' : World} {B : Nat} (h : a.grownBy w (some B)) (hb : Below w.heap.size w w') : a.grownBy w' (some B) :=
  ⟨hb.os.trans h.os, hb.tape.trans h.tape, hb.output.trans h.output, Nat.le_trans h.size hb.size, fun i hi hn => (hb.block i (Nat.lt_of_lt_of_le hi h.size)).trans (h.block i hi hn)⟩

theorem grown_set (W : World) (p : Addr) (v : Value) : W.grownBy (W.setCell p v).drew (some p.block) :=
  ⟨rfl, rfl, rfl, by simp [World.setCell], fun i _ hne => Below.heap_setCell W p v i (fun e => hne (by rw [e]))⟩
theorem IsAdder.step {W : World} {B n s : Nat} (h : IsAdder W B n s) (v : Nat) : IsAdder (W.setCell ⟨B, 2, none⟩ (.int .u32 v)).drew B n v :=
  ⟨by simpa [World.setCell] using h.lt, (World.cell?_setCell_other _ _ _ _ (by simp)).trans h.made, (World.cell?_setCell_other _ _ _ _ (by simp)).trans h.count, World.cell?_setCell_same' _ _ _ (by rw [h.sum]; rfl),
    by show (W.setCell ⟨B, 2, none⟩ (.int .u32 v)).frozen? ⟨B, 1, none⟩ = false; rw [World.frozen?_setCell]; exact h.free1, by show (W.setCell ⟨B, 2, none⟩ (.int .u32 v)).frozen? ⟨B, 2, none⟩ = false; rw [World.frozen?_setCell]; exact h.free2⟩
theorem IsAdder.counted {W : World} {B n s : Nat} (h : IsAdder W B n s) (k : Nat) : IsAdder (W.setCell ⟨B, 1, none⟩ (.int .i64 k)) B k s :=
  ⟨by simpa [World.setCell] using h.lt, (World.cell?_setCell_other _ _ _ _ (by simp)).trans h.made, World.cell?_setCell_same' _ _ _ (by rw [h.count]; rfl), (World.cell?_setCell_other _ _ _ _ (by simp)).trans h.sum,
    by show (W.setCell ⟨B, 1, none⟩ (.int .i64 k)).frozen? ⟨B, 1, none⟩ = false; rw [World.frozen?_setCell]; exact h.free1, by show (W.setCell ⟨B, 1, none⟩ (.int .i64 k)).frozen? ⟨B, 2, none⟩ = false; rw [World.frozen?_setCell]; exact h.free2⟩

theorem Tab.grown {A C : World} {B : Nat} (k : Tab A) (h : A.grownBy C (some B)) (hB : 1 ≤ B) : Tab C := fun i hi => by
  have := k i hi
  exact (h.cell_far ⟨0, i, none⟩ (cell_lt this) (fun e => by have : 0 = B := Option.some.inj e; omega)).trans this

set_option maxRecDepth 100000 in
set_option maxHeartbeats 4000000 in
theorem write_wide (m : Nat) (hm : 4 ≤ m) (B n s : Nat) (hs : s < 4294967296) (a : Option Addr) (cap : Nat) (l : List UInt8) (hl : n + l.length ≤ 9223372036854775807) (w : World) (ht : Tab w) (hB1 : 1 ≤ B) (hA : IsAdder w B n s)
    (hc : BytesOn (fun k => k < w.heap.size ∧ k ≠ B) w a l) :
    CallsIn Fence.wide m Tryd.prog 13 #[.pointer (some ⟨B, 0, none⟩), .slice a l.length cap] w fun e w' => e = .returned (.int .i64 0) ∧ IsAdder w' B (n + l.length) (crcRun s l) ∧ w.grownBy w' (some B) := by
  have h1 : 1 ≤ m := by omega
  have hBlt := hA.lt
  obtain ⟨w1, hw1⟩ : ∃ w1, w.alloc (.cells #[.pointer (some ⟨B, 0, none⟩)] 27) = w1 := ⟨_, rfl⟩
  have hb1 : Below w.heap.size w w1 := hw1 ▸ (Below.refl _ w).alloc (Nat.le_refl _) _
  have hz1 : w1.heap.size = w.heap.size + 1 := by rw [← hw1]; simp
  have bx1 : Boxed w1 w.heap.size 27 (.pointer (some ⟨B, 0, none⟩)) := hw1 ▸ Boxed.new w _ _
  have hA1 := hA.below hb1 hBlt
  have hth := there_adder B n s w1 hA1
  have hcell1 := bx1.cell
  have HZ1 := Lib.hid hz1
  clear hz1
  refine callsIn_of_wp_marks Tryd.func13 rfl trivial ?_ rfl
  simp only [Tryd.ntmps13, List.size_toArray, List.length_cons, List.length_nil, Nat.reduceAdd, Nat.reduceSub, Array.replicate_succ, Array.replicate_zero, List.push_toArray, List.append_toArray, List.nil_append, List.cons_append]
  gi_wp2_with (first
    | (refine ⟨trivial, ?_⟩; gi_at_call 21; refine (callsIn_wide.2 hth).mono ?_; rintro e w' ⟨rfl, rfl⟩)
    | (refine ⟨trivial, ?_⟩; gi_at_call 22; refine (each_in Fence.wide _ trivial rfl _ _ _ _).mono ?_; rintro e w' ⟨rfl, rfl⟩))
  have bP := Boxed.new w1 23 (.slice a l.length cap)
  have bN := Boxed.new (w1.alloc (.cells #[.slice a l.length cap] 23)) 22 (.slice (some ⟨w1.heap.size, 0, none⟩) 1 1)
  have bP2 := bP.alloc (.cells #[.slice (some ⟨w1.heap.size, 0, none⟩) 1 1] 22)
  rw [World.size_alloc] at bN
  have hB3 : Below w1.heap.size w1 ((w1.alloc (.cells #[.slice a l.length cap] 23)).alloc (.cells #[.slice (some ⟨w1.heap.size, 0, none⟩) 1 1] 22)) := ((Below.refl _ w1).alloc (Nat.le_refl _) _).alloc (by simp) _
  have hz3 : ((w1.alloc (.cells #[.slice a l.length cap] 23)).alloc (.cells #[.slice (some ⟨w1.heap.size, 0, none⟩) 1 1] 22)).heap.size = w1.heap.size + 1 + 1 := by simp
  obtain ⟨w3, hw3⟩ : ∃ w3, (w1.alloc (.cells #[.slice a l.length cap] 23)).alloc (.cells #[.slice (some ⟨w1.heap.size, 0, none⟩) 1 1] 22) = w3 := ⟨_, rfl⟩
  rw [hw3] at bN bP2 hB3 hz3 ⊢
  clear hw3 bP
  have hz1 := HZ1.out
  have hB03 : Below w.heap.size w w3 := hb1.trans (hB3.mono (by omega))
  have hparts : PartsOn (fun k => k < w3.heap.size ∧ k ≠ B) w3 (some ⟨w1.heap.size, 0, none⟩) [l] := fun _ => ⟨_, 0, rfl, ⟨by omega, by omega⟩, fun j hj => by
    obtain rfl : j = 0 := by simpa using hj
    refine ⟨by show l.length ≤ _; omega, a, cap, bP2.cell, ?_⟩
    show BytesOn _ w3 a l
    exact (hc.keeps (.of_below hB03 (fun k hk => hk.1))).mono (fun b hb => ⟨by omega, hb.2⟩)⟩
  have hflat : [l].flatten = l := by simp
  have hA3 := hA.below hB03 hBlt
  have hbx3 : w3.cell? ⟨w.heap.size, 0, none⟩ = some (.pointer (some ⟨B, 0, none⟩)) := (hB3.cell (p := ⟨w.heap.size, 0, none⟩) (by simp; omega)).trans hcell1
  have hst := each_stops Fence.wide (m - 1) trivial rfl (by omega) (w1.heap.size + 1) (fun k => k < w3.heap.size ∧ k ≠ B) (some ⟨w1.heap.size, 0, none⟩) 1 [l] (by simp) w3 (by omega) (fun k hk => hk.1) bN.cell hparts
  rw [hflat] at hst
  refine wpIn_rangeFunc_ownF rfl h1 (gf := 28) (lb := #[.pointer (some ⟨w1.heap.size + 1, 0, none⟩)]) rfl trivial (enters_of Tryd.func28 (by kernel_rfl) rfl)
    hst KeepsOn.trans (keepsOn_b (fun k hk => hk.1)) (Below.refl _ _) (fun _ => rfl)
    (fun pre W => (IsAdder W B n (crcRun s pre) ∧ W.cell? ⟨w.heap.size, 0, none⟩ = some (.pointer (some ⟨B, 0, none⟩))) ∧ w.grownBy W (some B) ∧ w3.heap.size ≤ W.heap.size)
    (fun _ _ _ => False)
    (fun s' X Y row hs' hg hr => ⟨⟨hs'.1.1.kept hg (fun e => by have := (hr _ e.symm).1; omega), (hg.cell_far ⟨w.heap.size, 0, none⟩ (by have := hs'.2.2; simp; omega) (fun e => by have := (hr _ e.symm).1; simp at this; omega)).trans hs'.1.2⟩,
      hs'.2.1.andThen hg (fun j e => .inl (by have := (hr j e).1; omega)), Nat.le_trans hs'.2.2 hg.size⟩)
    (fun _ _ _ _ _ hs _ _ => hs)
    ⟨⟨hA3, hbx3⟩, grownBy_below (World.grownBy.refl w _) hB03, Nat.le_refl _⟩
    (fun x => { tmps := #[.pointer (some ⟨B, 0, none⟩), .slice a l.length cap, .pointer (some ⟨w.heap.size, 0, none⟩), undef, .int .i64 0, .int .u8 (x.toNat : Int), .pointer (some ⟨B, 0, none⟩), .bool true, .bool false, .slice a l.length cap, .slice (some ⟨w1.heap.size, 0, none⟩) 1 1, .func (.func 28) #[] #[.pointer (some ⟨w1.heap.size + 1, 0, none⟩)], .int .u8 (x.toNat : Int), undef, undef, undef, undef, undef, undef, undef, undef, undef, undef, undef, undef, undef, undef, undef, undef, undef, undef, undef, undef], defers := [] }) ?assign ?body ?done ?stop
  case assign =>
    intro l x W K hK
    clear hz1 hz3 hflat
    gi_wp2
    exact hK
  case body =>
    rintro l0 pre x W ⟨⟨hAW, hbW⟩, hG, hsz⟩ _
    have hT := ht.grown hG (by omega)
    have hR := crcRun_lt hs pre
    have hq2 := hAW.sum
    have hf2 := hAW.free2
    have hdp : Fence.wide.depth.isSome = true → 1 ≤ m - 1 - 1 := fun _ => by omega
    have hmx : Tryd.prog.follows .mixedOrders = true := by kernel_rfl
    have hwW : w.heap.size < W.heap.size := by omega
    clear hz1 hz3 hflat
    gi_wp2
    gi_region_with_o (refine ⟨trivial, hdp, ?_⟩; refine (CallsIn.inRound l0 (callsIn_wide.2 (step_any _ _ hR _ ?_))).mono ?_; exact hT; rintro e w' ⟨rfl, rfl⟩)
    all_goals gi_wp2
    all_goals (try go_bits)
    all_goals exact ⟨(KeepsOthers.setCell _ _ _).trans (KeepsOthers.drew _), KeepsOn.of_grown (grown_set W ⟨B, 2, none⟩ _) (fun k hk => ⟨by omega, fun e => hk.2 (Option.some.inj e)⟩), ⟨⟨by rw [crcRun_snoc]; exact hAW.step _, ((grown_set W ⟨B, 2, none⟩ _).cell_far ⟨w.heap.size, 0, none⟩ (by simp; omega) (fun e => by have := Option.some.inj e; simp at this; omega)).trans hbW⟩,
      hG.andThen (grown_set W ⟨B, 2, none⟩ _) (fun j e => .inr e), Nat.le_trans hsz (grown_set W ⟨B, 2, none⟩ _).size⟩⟩
  case done =>
    rintro D ys W hD rfl ⟨⟨hAW, hbW⟩, hG, hsz⟩ hK
    have hq1 := hAW.count
    have hf1 := hAW.free1
    have hBD : B < D := by omega
    have hwD : w.heap.size ≤ D := by omega
    clear hz1 hz3 hflat
    gi_wp2
    have hK' := (KeepsOthers.setCell W ⟨B, 1, none⟩ (.int .i64 (n + ys.length))).same D _ hK rfl
    refine ⟨by simp, .inl ⟨_, _, rfl, run_takeDeferred hK', ?_⟩⟩
    have hAd := (hAW.counted (n + ys.length)).kept (grownBy_putObj' _ D (.deferred none)) (fun e => by have := Option.some.inj e; omega)
    have hGd := (hG.andThen (grown_set W ⟨B, 1, none⟩ (.int .i64 (n + ys.length : Nat))) (fun j e => .inr e)).andThen (grownBy_putObj' (W.setCell ⟨B, 1, none⟩ (.int .i64 (n + ys.length : Nat))).drew D (.deferred none)) (fun j e => .inl (by cases e; exact hwD))
    exact ⟨_, results_tmp rfl _ _ _, rfl, hAd, ⟨hGd.os, hGd.tape, hGd.output, hGd.size, hGd.block⟩⟩
  case stop =>
    rintro D c pre W _ _ h _
    exact h.elim
end Go.Proofs.YtjpjijjnkjomnaaDoor

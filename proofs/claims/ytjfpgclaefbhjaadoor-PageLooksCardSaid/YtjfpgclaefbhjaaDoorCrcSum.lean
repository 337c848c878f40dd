/- The contract of layer 1's Sum: of any parts the sum of their bytes, one part behind the other; what lay in memory stays. -/
import Derived.RangeFuncNested
import Derived.RangeFuncBound
import Derived.RangeFuncCalls
import Derived.RangeFuncLeaves
import Derived.Shelf.Abstract
import Derived.Shelf.RegionOpen
import Derived.WalkKit
import Derived.OwnWalkIn
import Derived.TacticsInMore
import Derived.LoopNIn
import Derived.LoopIn
import Derived.Outline
import Derived.Test.YtjfpgclaefbhjaaDoorKit
import Derived.Test.YtjfpgclaefbhjaaDoorCrcFns
namespace Go.Proofs.YtjfpgclaefbhjaaDoor
open Go.RowKit Go.Shelf

attribute [local go_sem] Oper.semAt_some

theorem Tab.below {A B : World} {n₀ : Nat} (hn : 1 + 1 ≤ n₀) (h : Below n₀ A B) (k : Tab A) : Tab B := fun i hi => (h.cell (p := ⟨1, i, none⟩) hn).trans (k i hi)

theorem take_succ_get {l : List UInt8} {k : Nat} (h : k < l.length) : l.take (k + 1) = l.take k ++ [l[k]?.getD 0] := by
  rw [List.take_succ_eq_append_getElem h]; simp [h]
theorem flat_succ {ls : List (List UInt8)} {k : Nat} (h : k < ls.length) : (ls.take (k + 1)).flatten = (ls.take k).flatten ++ ls[k]?.getD [] := by
  rw [List.take_succ_eq_append_getElem h, List.flatten_append]; congr 1; simp [h]
theorem flat_lt {ls : List (List UInt8)} {k j : Nat} (h : k < ls.length) (hj : j < (ls[k]?.getD []).length) : (ls.take k).flatten.length + j < ls.flatten.length := by
  have e : ls.flatten = (ls.take (k + 1)).flatten ++ (ls.drop (k + 1)).flatten := by rw [← List.flatten_append, List.take_append_drop]
  rw [e, flat_succ h, List.length_append, List.length_append]; omega

set_option maxHeartbeats 1000000 in
/-- each: the parts are boxed; the function that comes back holds the box. -/
theorem each_in (F : Fence) (n : Nat) (hf : F.fn 33) (hro : F.round = none) (a : Option Addr) (len cap : Nat) (w : World) :
    CallsIn F n Tryd.prog 33 #[.slice a len cap] w fun e w' => e = .returned (.func (.func 48) #[] #[.pointer (some ⟨w.heap.size, 0, none⟩)]) ∧ w.alloc (.cells #[.slice a len cap] 70) = w' := by
  refine callsIn_of_wp Tryd.func33 rfl hf ?_ hro
  simp only [Tryd.ntmps33, List.size_toArray, List.length_cons, List.length_nil, Nat.reduceAdd, Nat.reduceSub, Array.replicate_succ, Array.replicate_zero, List.push_toArray, List.append_toArray, List.nil_append, List.cons_append]
  gi_wp2
  go_ret
  exact ⟨rfl, rfl⟩

set_option maxRecDepth 100000 in
set_option maxHeartbeats 2000000 in
/-- What each hands back goes over the bytes of the parts, one part behind the other. -/
theorem each1_in (F : Fence) (n : Nat) (hf : F.fn 48) (hro : F.round = none) (hn : 1 ≤ n) (l Bs : Nat) (K : Nat → Prop) (a : Option Addr) (cap : Nat) (ls : List (List UInt8)) (hls : ls.length ≤ 9223372036854775807) (J Jx : List UInt8 → World → Prop)
    (hY : ∀ pre x W, J pre W → pre.length < ls.flatten.length → YieldAt F (n - 1) Tryd.prog l #[.int .u8 ((x : UInt8).toNat : Int)] W fun e W' =>
      (e = .returned (.bool true) ∧ J (pre ++ [x]) W' ∧ KeepsOn K W W') ∨ (e = .returned (.bool false) ∧ Jx (pre ++ [x]) W'))
    (W : World) (hBs : W.cell? ⟨Bs, 0, none⟩ = some (.slice a ls.length cap)) (hc : PartsOn K W a ls) (h0 : J [] W) :
    CallsIn F n Tryd.prog 48 #[.func (.yield l) #[] #[], .pointer (some ⟨Bs, 0, none⟩)] W fun e W' => (∃ v, e = .returned v) ∧
      ((∃ ys, ys = ls.flatten ∧ J ys W') ∨ (∃ pre, True ∧ Jx pre W')) := by
  refine callsIn_of_wp Tryd.func48 rfl hf ?_ hro
  simp only [Tryd.ntmps48, List.size_toArray, List.length_cons, List.length_nil, Nat.reduceAdd, Nat.reduceSub, Array.replicate_succ, Array.replicate_zero, List.push_toArray, List.append_toArray, List.nil_append, List.cons_append]
  gi_wp2
  gi_loopw [9] (fun i wr => ∃ k : Nat, k ≤ ls.length ∧ i = .int .i64 k ∧ J (ls.take k).flatten wr ∧ KeepsOn K W wr)
    (fun i _ => ls.length - (intOf i).toNat)
  case atStart => exact ⟨0, Nat.zero_le _, rfl, h0, KeepsOn.refl _ _⟩
  case round =>
    obtain ⟨k, hk, rfl, hJs, hnx⟩ := hrel
    obtain ⟨wo, rfl⟩ : ∃ wo : World, wo = wr := ⟨_, rfl⟩
    by_cases hlt : k < ls.length
    · obtain ⟨b, off, rfl, hb, hcs⟩ := hc (by rintro rfl; simp at hlt)
      obtain ⟨hpl, ai, ci, hcx, hba⟩ := hcs k hlt
      have hcx' := (hnx.cell hb).trans hcx
      have HF := Lib.hid (flat_succ hlt)
      have HT := Lib.hid (fun j (hj : j < (ls[k]?.getD []).length) => flat_lt hlt hj)
      obtain ⟨pt, hpt⟩ : ∃ pt, ls[k]?.getD [] = pt := ⟨_, rfl⟩
      rw [hpt] at hcx' hba hpl HF HT
      clear hpt hcs hcx
      gi_wp2
      gi_loopw [15] (fun i wr => ∃ j : Nat, j ≤ pt.length ∧ i = .int .i64 j ∧ J ((ls.take k).flatten ++ pt.take j) wr ∧ KeepsOn K W wr)
        (fun i _ => pt.length - (intOf i).toNat)
      case atStart => exact ⟨0, Nat.zero_le _, rfl, by simpa using hJs, hnx⟩
      case round =>
        obtain ⟨j, hj, rfl, hJ2, hn2⟩ := hrel
        by_cases hlj : j < pt.length
        · obtain ⟨b2, off2, rfl, hb2, hc2⟩ := hba (by rintro rfl; simp at hlj)
          have hcy := (hn2.cell hb2).trans (hc2 j hlj)
          have hts := take_succ_get hlj
          obtain ⟨x, hx⟩ : ∃ x, pt[j]?.getD 0 = x := ⟨_, rfl⟩
          rw [hx] at hcy hts
          have HS := Lib.hid hts
          clear hx hts hc2
          obtain ⟨fn, tmps, assign, body, hy, hR⟩ := hY _ x wr hJ2 (by have := HT.out j hlj; rw [List.length_append, List.length_take]; omega)
          gi_wp2
          refine hR.mono ?_
          rintro e W3 (⟨rfl, hJ3, hk3⟩ | ⟨rfl, hJx3⟩)
          · gi_wp2
            go_roundw
            case rel => exact ⟨j + 1, by omega, by go_num, by rw [HS.out, ← List.append_assoc]; exact hJ3, hn2.trans hk3⟩
            case measure => simp [intOf]; omega
          · gi_wp2
            refine bodyPost_ret (results_none rfl _ _ _) rfl ?_
            exact ⟨⟨_, rfl⟩, .inr ⟨_, trivial, hJx3⟩⟩
        · obtain rfl : j = pt.length := by omega
          gi_wp2
          go_roundw
          case rel => exact ⟨k + 1, by omega, by go_num, by rw [HF.out]; simpa using hJ2, hn2⟩
          case measure => simp [intOf]; omega
    · obtain rfl : k = ls.length := by omega
      gi_wp2
      go_end0
      exact ⟨⟨_, rfl⟩, .inl ⟨_, rfl, by simpa using hJs⟩⟩

theorem each_stops (F : Fence) (n : Nat) (hf : F.fn 48) (hro : F.round = none) (hn : 1 ≤ n) (Bs : Nat) (K : Nat → Prop) (a : Option Addr) (cap : Nat) (ls : List (List UInt8)) (hls : ls.length ≤ 9223372036854775807) (w : World) (hBs : Bs < w.heap.size) (hK : ∀ k, K k → k < w.heap.size)
    (hb : w.cell? ⟨Bs, 0, none⟩ = some (.slice a ls.length cap)) (hc : PartsOn K w a ls) :
    SeqStopsK F n Tryd.prog 48 #[.pointer (some ⟨Bs, 0, none⟩)] (fun x : UInt8 => #[Value.int .u8 (x.toNat : Int)]) (KeepsOn K) (fun ys => ys = ls.flatten) (fun _ => True) ls.flatten.length w := fun l J Jx W hW _ _ hY h0 =>
  each1_in F n hf hro hn l Bs K a cap ls hls J Jx hY W ((hW.cell (p := ⟨Bs, 0, none⟩) hBs).trans hb) (hc.keeps (.of_below hW hK)) h0
theorem keepsOn_b {K : Nat → Prop} {w : World} (hK : ∀ k, K k → k < w.heap.size) (W : World) (l : Nat) (o o' : Obj) (hl : w.heap.size ≤ l) (h : W.heap[l]? = some o) (_ : o.isCells = false) (_ : o.isWalk = false) : KeepsOn K W (W.putObj l o') :=
  .of_grown (grownBy_putObj' W l o') (fun k hk => by have := hK k hk; have := (Array.getElem?_eq_some_iff.1 h).1; exact ⟨by omega, fun e => by cases e; omega⟩)

set_option maxRecDepth 100000 in
set_option maxHeartbeats 2000000 in
/-- Sum: of any parts the sum of their bytes; nothing that lay turns. -/
theorem sum_wide (n : Nat) (hn : 4 ≤ n) (a : Option Addr) (cap : Nat) (ls : List (List UInt8)) (hls : ls.length ≤ 9223372036854775807)
    (w : World) (ht : Tab w) (h1w : 1 + 1 ≤ w.heap.size) (hc : PartsAt w.heap.size w a ls) :
    CallsIn Fence.wide n Tryd.prog 21 #[.slice a ls.length cap] w fun e W' => e = .returned (.int .u32 (crcSum ls.flatten : Int)) ∧ Below w.heap.size w W' := by
  have h1 : 1 ≤ n := by omega
  refine callsIn_of_wp_marks Tryd.func21 rfl trivial ?_ rfl
  simp only [Tryd.ntmps21, List.size_toArray, List.length_cons, List.length_nil, Nat.reduceAdd, Nat.reduceSub, Array.replicate_succ, Array.replicate_zero, List.push_toArray, List.append_toArray, List.nil_append, List.cons_append]
  gi_wp2_with (refine ⟨trivial, ?_⟩; gi_at_call 33; refine (each_in Fence.wide (n - 1) trivial rfl _ _ _ _).mono ?_; rintro e w' ⟨rfl, rfl⟩)
  have bS := Boxed.new w 53 (.int .u32 4294967295)
  have bN := Boxed.new (w.alloc (.cells #[.int .u32 4294967295] 53)) 70 (.slice a ls.length cap)
  rw [World.size_alloc] at bN
  have hB0 : Below w.heap.size w ((w.alloc (.cells #[.int .u32 4294967295] 53)).alloc (.cells #[.slice a ls.length cap] 70)) := ((Below.refl _ w).alloc (Nat.le_refl _) _).alloc (by simp) _
  refine wpIn_rangeFunc_ownF rfl h1 (gf := 48) (lb := #[.pointer (some ⟨w.heap.size + 1, 0, none⟩)]) rfl trivial (enters_of Tryd.func48 (by kernel_rfl) rfl)
    (each_stops Fence.wide (n - 1) trivial rfl (by omega) (w.heap.size + 1) (fun k => k < w.heap.size) a cap ls hls _ (by simp) (fun k hk => by simp; omega) bN.cell (hc.below hB0).on) KeepsOn.trans (keepsOn_b (fun k hk => by simp; omega)) (Below.refl _ _) (fun _ => rfl)
    (fun pre W => (W.cell? ⟨w.heap.size, 0, none⟩ = some (.int .u32 (crcRun 4294967295 pre : Int)) ∧ W.frozen? ⟨w.heap.size, 0, none⟩ = false) ∧ Below w.heap.size w W)
    (fun _ _ _ => False)
    (OwnFrom.and (Own.from (fun s A B row hs hg hr => ⟨cell_kept hs.1 hg hr, (frozen_kept hs.1 hg hr).trans hs.2⟩) _) (ownFrom_below (Nat.le_refl _) (by simp; omega)))
    (fun _ _ _ _ _ hs _ _ => hs)
    ⟨⟨(bS.alloc _).cell, (bS.alloc _).frozen⟩, hB0⟩
    (fun x => { tmps := #[.slice a ls.length cap, undef, .int .u32 0, .pointer (some ⟨w.heap.size, 0, none⟩), .int .u8 (x.toNat : Int), .slice a ls.length cap, .func (.func 48) #[] #[.pointer (some ⟨w.heap.size + 1, 0, none⟩)], .int .u8 (x.toNat : Int), undef, undef, undef, undef, undef], defers := [] }) ?assign ?body ?done ?stop
  case assign =>
    intro l x W K hK
    gi_wp2
    exact hK
  case body =>
    rintro l pre x W ⟨⟨hc, hf⟩, hB⟩ _
    have hT := ht.below h1w hB
    have hR := crcRun_lt (s := 4294967295) (by decide) pre
    have hdp : Fence.wide.depth.isSome = true → 1 ≤ n - 1 - 1 := fun _ => by omega
    gi_wp2_with (refine ⟨trivial, hdp, ?_⟩; refine (CallsIn.inRound l (callsIn_wide.2 (step_any _ _ hR _ hT))).mono ?_; rintro e w' ⟨rfl, rfl⟩)
    exact ⟨KeepsOthers.setCell _ _ _, KeepsOn.of_below ((Below.refl w.heap.size W).setCell (p := ⟨w.heap.size, 0, none⟩) (Nat.le_refl _) _) (fun _ h => h), ⟨by rw [crcRun_snoc]; exact World.cell?_setCell_same' _ _ _ (by rw [hc]; rfl), by rw [World.frozen?_setCell]; exact hf⟩, hB.setCell (p := ⟨w.heap.size, 0, none⟩) (Nat.le_refl _) _⟩
  case done =>
    rintro D ys W hD rfl ⟨⟨hc, _⟩, hB⟩ hK
    have hx := not32 (crcRun_lt (s := 4294967295) (by decide) ls.flatten)
    have hs : IntKind.u32.signed = false := rfl
    gi_wp2
    refine ⟨by simp, .inl ⟨_, _, rfl, run_takeDeferred hK, ?_⟩⟩
    exact ⟨_, results_tmp rfl _ _ _, rfl, hB.trans (belowK_b (w := w) (Nat.le_refl _) W D _ _ (by simp at hD; omega) hK rfl rfl)⟩
  case stop =>
    rintro D c pre W _ _ h _
    exact h.elim

theorem sum_any (a : Option Addr) (cap : Nat) (ls : List (List UInt8)) (hls : ls.length ≤ 9223372036854775807) (w : World) (ht : Tab w) (h1w : 1 + 1 ≤ w.heap.size) (hc : PartsAt w.heap.size w a ls) :
    Calls Tryd.prog 21 #[.slice a ls.length cap] w fun e W' => e = .returned (.int .u32 (crcSum ls.flatten : Int)) ∧ Below w.heap.size w W' :=
  callsIn_wide.1 (sum_wide 4 (by decide) a cap ls hls w ht h1w hc)
end Go.Proofs.YtjfpgclaefbhjaaDoor

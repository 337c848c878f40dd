/- Layer 2: the sectors of a page, one by one; one of the pages that may be. -/
import Derived.Test.YtkophpipehdkmaaRound
import Derived.Test.YtkophpipehdkmaaDsk
namespace Go.Proofs.Ytkophpipehdkmaa
open Go.RowKit
attribute [local go_sem] Oper.semAt_some

set_option maxRecDepth 100000 in
set_option maxHeartbeats 1000000 in
/-- sectors(): four calls. -/
theorem sectors_hands (n : Nat) (Kp : World → World → Prop) (w : World) :
    Hands Fence.wide n Try.prog 48 #[] Kp (fun k args _ => args = #[.int .i64 (64 * (k : Int)), .int .i64 (64 * (k : Int) + 64)]) 4 w := fun l J Jx W _ _ _ hY h0 => by
  refine callsIn_of_wp Try.func48 rfl trivial ?_ rfl
  simp only [Try.ntmps48, List.size_toArray, List.length_cons, List.length_nil, Nat.reduceAdd, Nat.reduceSub, Array.replicate_succ, Array.replicate_zero, List.push_toArray, List.append_toArray, List.nil_append, List.cons_append]
  gi_wp2
  gi_loopw [2, 3, 4, 5, 6, 7, 8, 9, 10, 11, 12] (fun x _ _ _ _ _ _ _ _ _ _ wr => ∃ (y : Int) (k : Nat), x = .int .i64 y ∧ y = 64 * (k : Int) ∧ k ≤ 4 ∧ J k wr)
    (fun x _ _ _ _ _ _ _ _ _ _ _ => 256 - (intOf x).toNat)
  case atStart => exact ⟨0, 0, rfl, rfl, by omega, h0⟩
  case round =>
    obtain ⟨y, k, rfl, hy, hk, hJ⟩ := hrel
    by_cases h4 : k < 4
    · have hyk := hY k _ wr hJ rfl h4
      rw [← hy] at hyk
      obtain ⟨fn, tmps, assign, body, hyy, hR⟩ := hyk
      have h256 : y < 256 := by omega
      have e1 : wrap64 (y + 64) = y + 64 := by unfold wrap64; omega
      have HY := Lib.hid hy
      clear hy
      gi_wp2
      refine ⟨fun h => (by cases h), hR.mono ?_⟩
      rintro e W' (⟨rfl, hJ', -⟩ | ⟨rfl, hJx'⟩)
      · gi_wp2
        have hy := HY.out
        go_roundw
        case rel => exact ⟨_, k + 1, rfl, by rw [e1]; omega, by omega, hJ'⟩
        case measure => simp [intOf, e1]; omega
      · gi_wp2
        refine bodyPost_ret (results_none rfl _ _ _) rfl ?_
        exact ⟨⟨_, rfl⟩, .inr ⟨_, hJx'⟩⟩
    · obtain rfl : k = 4 := by omega
      have h256 : ¬ y < 256 := by omega
      gi_wp2
      go_end0
      exact ⟨⟨_, rfl⟩, .inl hJ⟩
end Go.Proofs.Ytkophpipehdkmaa

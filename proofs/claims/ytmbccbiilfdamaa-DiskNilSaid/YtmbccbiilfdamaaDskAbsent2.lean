/- Layer 2: a disk that is not there: Write, Crash, Same. -/
import Derived.Test.YtmbccbiilfdamaaDskAbsent
import Derived.Test.YtmbccbiilfdamaaDskCrash
namespace Go.Proofs.Ytmbccbiilfdamaa
open Go.RowKit

theorem write_absent {w : World} {v : Value} (h : Absent w v) (p : Int) (a : Option Addr) (n c : Nat) : Calls Try.prog 21 #[v, .int .i64 p, .slice a n c] w fun e w' => e = .returned (.int .i64 1) ∧ Below w.heap.size w w' := by
  have ht := fun w' hb => there_absent (h.below (w' := w') hb)
  have hb : Below w.heap.size w (((w.alloc (.cells #[v] 25)).alloc (.cells #[.int .i64 p] 3)).alloc (.cells #[.slice a n c] 40)) := (((Below.refl _ w).alloc (Nat.le_refl _) _).alloc (by simp) _).alloc (by simp; omega) _
  have HT := Lib.hid (ht _ hb)
  clear ht
  go_enter Try.func21, Try.ntmps21
  rcases h with rfl | ⟨b, rfl, hb', h3⟩
  · go_wp2_with (go_at_call 33; refine HT.out.mono ?_; rintro e w' ⟨rfl, rfl⟩)
    go_ret
    exact ⟨rfl, hb⟩
  · go_wp2_with (go_at_call 33; refine HT.out.mono ?_; rintro e w' ⟨rfl, rfl⟩)
    go_ret
    exact ⟨rfl, hb⟩
set_option maxRecDepth 100000 in
set_option maxHeartbeats 2000000 in
theorem same_absent {w : World} {v u : Value} (h : Absent w v) (k : Absent w u) : Calls Try.prog 19 #[v, u] w fun e w' => e = .returned (.bool true) ∧ w = w' := by
  have ht := there_absent h
  have hu := there_absent k
  go_enter Try.func19, Try.ntmps19
  have t1 : True := trivial
  have t2 : True := trivial
  have t3 : True := trivial
  go_wp2_with (first
    | (have _t := t1; go_at_call 33; refine ht.mono ?_; rintro e w' ⟨rfl, rfl⟩; clear t1)
    | (have _t := t2; go_at_call 33; refine ht.mono ?_; rintro e w' ⟨rfl, rfl⟩; clear t2)
    | (have _t := t3; go_at_call 33; refine hu.mono ?_; rintro e w' ⟨rfl, rfl⟩; clear t3))
  go_ret
  exact ⟨rfl, rfl⟩
theorem crash_absent {w : World} {v : Value} (h : Absent w v) (a : Option Addr) (n c : Nat) : Calls Try.prog 15 #[v, .slice a n c] w fun e w' => e = .returned (.tuple #[.pointer none, .int .i64 1]) ∧ Below w.heap.size w w' := by
  have hb : Below w.heap.size w (w.alloc (.cells #[.slice a n c] 23)) := (Below.refl _ w).alloc (Nat.le_refl _) _
  have ht := there_absent (h.below hb)
  refine (callsIn_wide (n := 9)).1 ?_
  refine callsIn_of_wp_marks Try.func15 rfl trivial ?_ rfl
  simp only [Try.ntmps15, List.size_toArray, List.length_cons, List.length_nil, Nat.reduceAdd, Nat.reduceSub, Array.replicate_succ, Array.replicate_zero, List.push_toArray, List.append_toArray, List.nil_append, List.cons_append]
  gi_wp2
  refine wpIn_scope ?_
  gi_wp2_with (refine ⟨trivial, ?_⟩; gi_at_call 33; refine (callsIn_wide.2 ht).mono ?_; rintro e w' ⟨rfl, rfl⟩)
  exact ⟨_, results_tmp2 rfl _ _ _, rfl, hb⟩
end Go.Proofs.Ytmbccbiilfdamaa

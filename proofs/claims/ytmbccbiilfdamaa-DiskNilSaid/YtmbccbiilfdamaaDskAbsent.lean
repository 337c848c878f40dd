/- Layer 2: a disk that is not there: nil, or one that no call made. -/
import Derived.Test.YtmbccbiilfdamaaDskWrite1
namespace Go.Proofs.Ytmbccbiilfdamaa
open Go.RowKit

/-- No disk: nil, or one of no pages. -/
def Absent (w : World) (v : Value) : Prop := v = .pointer none ∨ ∃ b, v = ptr b ∧ b < w.heap.size ∧ w.cell? ⟨b, 3, none⟩ = some (.int .i64 0)
theorem Absent.below {w w' : World} {v : Value} (h : Absent w v) (hb : Below w.heap.size w w') : Absent w' v := by
  rcases h with h | ⟨b, e, h1, h2⟩
  · exact .inl h
  · exact .inr ⟨b, e, Nat.lt_of_lt_of_le h1 hb.size, (hb.cell (p := ⟨b, 3, none⟩) h1).trans h2⟩
theorem there_absent {w : World} {v : Value} (h : Absent w v) : Calls Try.prog 33 #[v] w fun e w' => e = .returned (.bool false) ∧ w = w' := by
  rcases h with rfl | ⟨b, rfl, hb, h3⟩
  · go_enter Try.func33, Try.ntmps33
    go_wp2
    go_ret
    exact ⟨rfl, rfl⟩
  · go_enter Try.func33, Try.ntmps33
    go_wp2
    go_ret
    exact ⟨rfl, rfl⟩
theorem read_absent {w : World} {v : Value} (h : Absent w v) (p : Int) : Calls Try.prog 14 #[v, .int .i64 p] w fun e w' => e = .returned (.tuple #[.slice none 0 0, .int .i64 1]) ∧ w = w' := by
  have ht := there_absent h
  go_enter Try.func14, Try.ntmps14
  go_wp2_with (go_at_call 33; refine ht.mono ?_; rintro e w' ⟨rfl, rfl⟩)
  go_ret2
  exact ⟨rfl, rfl⟩
theorem flush_absent {w : World} {v : Value} (h : Absent w v) : Calls Try.prog 22 #[v] w fun e w' => e = .returned (.int .i64 1) ∧ Below w.heap.size w w' := by
  have ht := there_absent (h.below ((Below.refl _ w).alloc (Nat.le_refl _) (.cells #[v] 25)))
  have hc := heap_alloc_last w (.cells #[v] 25)
  go_enter Try.func22, Try.ntmps22
  rcases h with rfl | ⟨b, rfl, hb, h3⟩
  · go_wp2_with (go_at_call 33; refine ht.mono ?_; rintro e w' ⟨rfl, rfl⟩)
    go_ret
    exact ⟨rfl, (Below.refl _ w).alloc (Nat.le_refl _) _⟩
  · go_wp2_with (go_at_call 33; refine ht.mono ?_; rintro e w' ⟨rfl, rfl⟩)
    go_ret
    exact ⟨rfl, (Below.refl _ w).alloc (Nat.le_refl _) _⟩
theorem arm_absent {w : World} {v : Value} (h : Absent w v) (k n : Int) : Calls Try.prog 23 #[v, .int .i64 k, .int .i64 n] w fun e w' => e = .returned (.int .i64 1) ∧ w = w' := by
  have ht := there_absent h
  go_enter Try.func23, Try.ntmps23
  go_wp2_with (go_at_call 33; refine ht.mono ?_; rintro e w' ⟨rfl, rfl⟩)
  go_ret
  exact ⟨rfl, rfl⟩
theorem dead_absent {w : World} {v : Value} (h : Absent w v) : Calls Try.prog 18 #[v] w fun e w' => e = .returned (.bool false) ∧ w = w' := by
  have ht := there_absent h
  go_enter Try.func18, Try.ntmps18
  go_wp2_with (go_at_call 33; refine ht.mono ?_; rintro e w' ⟨rfl, rfl⟩)
  go_ret
  exact ⟨rfl, rfl⟩
theorem pages_absent {w : World} {v : Value} (h : Absent w v) : Calls Try.prog 24 #[v] w fun e w' => e = .returned (.int .i64 0) ∧ w = w' := by
  have ht := there_absent h
  go_enter Try.func24, Try.ntmps24
  go_wp2_with (go_at_call 33; refine ht.mono ?_; rintro e w' ⟨rfl, rfl⟩)
  go_ret
  exact ⟨rfl, rfl⟩
theorem waits_absent {w : World} {v : Value} (h : Absent w v) : Calls Try.prog 17 #[v] w fun e w' => e = .returned (.int .i64 0) ∧ w = w' := by
  have ht := there_absent h
  go_enter Try.func17, Try.ntmps17
  go_wp2_with (go_at_call 33; refine ht.mono ?_; rintro e w' ⟨rfl, rfl⟩)
  go_ret
  exact ⟨rfl, rfl⟩
theorem steps_absent {w : World} {v : Value} (h : Absent w v) : Calls Try.prog 25 #[v] w fun e w' => e = .returned (.int .i64 0) ∧ w = w' := by
  have ht := there_absent h
  go_enter Try.func25, Try.ntmps25
  go_wp2_with (go_at_call 33; refine ht.mono ?_; rintro e w' ⟨rfl, rfl⟩)
  go_ret
  exact ⟨rfl, rfl⟩
theorem copy_absent {w : World} {v : Value} (h : Absent w v) : Calls Try.prog 20 #[v] w fun e w' => e = .returned (.pointer none) ∧ w = w' := by
  have ht := there_absent h
  go_enter Try.func20, Try.ntmps20
  go_wp2_with (go_at_call 33; refine ht.mono ?_; rintro e w' ⟨rfl, rfl⟩)
  go_ret
  exact ⟨rfl, rfl⟩
end Go.Proofs.Ytmbccbiilfdamaa

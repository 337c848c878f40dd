/- Layer 14: apart. -/
import Derived.Test.YtjedffjfjgffeaaDoorMatD
import Derived.Test.YtjedffjfjgffeaaDoorUtfL
namespace Go.Proofs.YtjedffjfjgffeaaDoor
open Go.RowKit Go.MapKept Go.ChangeMaps Go.Maps

set_option maxRecDepth 100000 in
set_option maxHeartbeats 8000000 in
theorem apart_any (w : World) (f c : ByteArray) (hf : f.size ≤ 1000000) (hc : c.size ≤ 1000000) (q : Int) : Calls Tryd.prog 29 #[.agg #[.string f, .string c, .int .i64 q]] w fun e w' => e = .returned (.agg #[.string f, .string c, .int .i64 q]) ∧ Below w.heap.size w w' := by
  go_enter Tryd.func29, Tryd.ntmps29
  go_wp2_with fail
  generalize hwq : (w.alloc (.cells #[.string f, .string c, .int .i64 q] 30)).alloc (.cells #[.string ⟨#[]⟩, .string ⟨#[]⟩, .int .i64 0] 30) = wq
  have hbq : Below w.heap.size w wq := by rw [← hwq]; exact ((Below.refl _ w).alloc (Nat.le_refl _) _).alloc (by simp) _
  have rA : wq.drew.heap[w.heap.size]? = some (.cells #[.string f, .string c, .int .i64 q] 30 (0, 0)) := by
    show wq.heap[w.heap.size]? = _
    rw [← hwq, (World.grownBy_alloc _ _ none).block _ (by simp) (by simp)]; exact (MapKept.heap_alloc w _).1
  have rB : wq.drew.heap[w.heap.size + 1]? = some (.cells #[.string ⟨#[]⟩, .string ⟨#[]⟩, .int .i64 0] 30 (0, 0)) := by
    show wq.heap[w.heap.size + 1]? = _
    have := (MapKept.heap_alloc (w.alloc (.cells #[.string f, .string c, .int .i64 q] 30)) (.cells #[.string ⟨#[]⟩, .string ⟨#[]⟩, .int .i64 0] 30)).1
    rw [← hwq]
    rwa [show (w.alloc (.cells #[.string f, .string c, .int .i64 q] 30)).heap.size = w.heap.size + 1 by simp] at this
  have HB := Lib.hid (show Below w.heap.size w wq.drew from hbq.drew)
  obtain ⟨lA, a0, a1, a2, -, -, -⟩ := box3 rA
  obtain ⟨lB, b0, b1, b2, d0, d1, d2⟩ := box3 rB
  clear hwq hbq
  go_region_with (go_at_call 23; refine (clone_any _ _ (by omega)).mono ?_; rintro e wz ⟨rfl, hb⟩; replace rA := row_of rA hb lA; replace rB := row_of rB hb lB; replace HB := Lib.hid (HB.out.trans (hb.mono HB.out.size)); obtain ⟨lA, a0, a1, a2, -, -, -⟩ := box3 rA; obtain ⟨lB, b0, b1, b2, d0, d1, d2⟩ := box3 rB; clear hb)
  all_goals
    go_wp2
    refine bodyPost_ret (results_cell_row rfl _ _ _ _ _ _ _ rfl (set3_row rB (.string f) (.string c) (.int .i64 q)) Tryd.underlying30 rfl (by kernel_rfl)) rfl ?_
    exact ⟨rfl, ((HB.out.setCell (p := ⟨w.heap.size + 1, 0, none⟩) (Nat.le_add_right _ _) _).setCell (p := ⟨w.heap.size + 1, 1, none⟩) (Nat.le_add_right _ _) _).setCell (p := ⟨w.heap.size + 1, 2, none⟩) (Nat.le_add_right _ _) _⟩
end Go.Proofs.YtjedffjfjgffeaaDoor

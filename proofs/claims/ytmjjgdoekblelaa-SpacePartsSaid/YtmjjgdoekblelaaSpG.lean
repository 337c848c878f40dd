/- Layer 7: Free, New, Held, Will; Lasts. -/
import Derived.Maps.OwnSet
import Derived.Laws.OwnMore
import Derived.Test.YtmjjgdoekblelaaSpF
namespace Go.Proofs.Ytmjjgdoekblelaa
open Go.RowKit

theorem NumsPost.far {w w1 : World} {l : List Nat} {e : Ending} {w' : World} (h : NumsPost w1 l e w') (hb : Below w.heap.size w w1) : NumsPost w l e w' := by
  obtain ⟨v, rfl, h1, h2⟩ := h
  exact ⟨v, rfl, row_mono h1 hb.size, hb.trans (h2.mono hb.size)⟩
theorem pl1 (w : World) (a : Nat) : PlAt (w.alloc (.cells #[.int .i64 a] 32)) w.heap.size [a] := fun j hj => by
  have hj0 : j = 0 := by simp at hj; omega
  subst hj0
  exact (Boxed.new w _ _).cell
theorem pl2 (w : World) (a b : Nat) : PlAt (w.alloc (.cells #[.int .i64 a, .int .i64 b] 32)) w.heap.size [a, b] := fun j hj => by
  have hr : (w.alloc (.cells #[.int .i64 a, .int .i64 b] 32)).heap[w.heap.size]? = some (.cells #[.int .i64 a, .int .i64 b] 32 (0, 0)) := (MapKept.heap_alloc w _).1
  rw [cell_of_row _ _ j _ _ _ hr]
  have hj0 : j = 0 ∨ j = 1 := by simp at hj; omega
  rcases hj0 with rfl | rfl <;> rfl
theorem free_any {w : World} {B bl bp : Nat} {s : Spc} (hs : SpAt w B bl bp s) : Calls Try.prog 12 #[ptr B] w fun e w' => NumsPost w (s.of [4]) e w' := by
  have hb : Below w.heap.size w (w.alloc (.cells #[.int .i64 4] 32)) := (Below.refl _ w).alloc (Nat.le_refl _) _
  have HC := Lib.hid (of_any (hs.below hb) w.heap.size 1 [4] (by decide) (by simp) (pl1 w 4))
  have HB := Lib.hid hb
  clear hb hs
  go_enter Try.func12, Try.ntmps12
  go_wp2_with (go_at_call 30; refine HC.out.mono ?_; rintro e w2 ⟨v, rfl, hv, hb2⟩)
  go_ret
  exact NumsPost.far ⟨v, rfl, hv, hb2⟩ HB.out
theorem new_pages {w : World} {B bl bp : Nat} {s : Spc} (hs : SpAt w B bl bp s) : Calls Try.prog 13 #[ptr B] w fun e w' => NumsPost w (s.of [2]) e w' := by
  have hb : Below w.heap.size w (w.alloc (.cells #[.int .i64 2] 32)) := (Below.refl _ w).alloc (Nat.le_refl _) _
  have HC := Lib.hid (of_any (hs.below hb) w.heap.size 1 [2] (by decide) (by simp) (pl1 w 2))
  have HB := Lib.hid hb
  clear hb hs
  go_enter Try.func13, Try.ntmps13
  go_wp2_with (go_at_call 30; refine HC.out.mono ?_; rintro e w2 ⟨v, rfl, hv, hb2⟩)
  go_ret
  exact NumsPost.far ⟨v, rfl, hv, hb2⟩ HB.out
theorem held_any {w : World} {B bl bp : Nat} {s : Spc} (hs : SpAt w B bl bp s) : Calls Try.prog 14 #[ptr B] w fun e w' => NumsPost w (s.of [3]) e w' := by
  have hb : Below w.heap.size w (w.alloc (.cells #[.int .i64 3] 32)) := (Below.refl _ w).alloc (Nat.le_refl _) _
  have HC := Lib.hid (of_any (hs.below hb) w.heap.size 1 [3] (by decide) (by simp) (pl1 w 3))
  have HB := Lib.hid hb
  clear hb hs
  go_enter Try.func14, Try.ntmps14
  go_wp2_with (go_at_call 30; refine HC.out.mono ?_; rintro e w2 ⟨v, rfl, hv, hb2⟩)
  go_ret
  exact NumsPost.far ⟨v, rfl, hv, hb2⟩ HB.out
theorem will_any {w : World} {B bl bp : Nat} {s : Spc} (hs : SpAt w B bl bp s) : Calls Try.prog 15 #[ptr B] w fun e w' => NumsPost w (s.of [4, 3]) e w' := by
  have hb : Below w.heap.size w (w.alloc (.cells #[.int .i64 4, .int .i64 3] 32)) := (Below.refl _ w).alloc (Nat.le_refl _) _
  have HC := Lib.hid (of_any (hs.below hb) w.heap.size 2 [4, 3] (by decide) (by simp) (pl2 w 4 3))
  have HB := Lib.hid hb
  clear hb hs
  go_enter Try.func15, Try.ntmps15
  go_wp2_with (go_at_call 30; refine HC.out.mono ?_; rintro e w2 ⟨v, rfl, hv, hb2⟩)
  go_ret
  exact NumsPost.far ⟨v, rfl, hv, hb2⟩ HB.out
end Go.Proofs.Ytmjjgdoekblelaa

/- Layer 7: the law on a space that is not there. -/
import Derived.Test.YtmmbmmiedfdmeaaSpM
namespace Go.Proofs.Ytmmbmmiedfdmeaa
open Go.RowKit

theorem free_absent {w : World} {v : Value} (hs : Absent w v) : Calls Try.prog 17 #[v] w fun e w' => NumsPost w [] e w' := by
  have hb : Below w.heap.size w (w.alloc (.cells #[.int .i64 4] 42)) := (Below.refl _ w).alloc (Nat.le_refl _) _
  have HC := Lib.hid (of_absent (hs.below hb) w.heap.size 1 [4] (by decide) (by simp) (pl1 w 4))
  have HB := Lib.hid hb
  clear hb hs
  go_enter Try.func17, Try.ntmps17
  go_wp2_with (go_at_call 36; refine HC.out.mono ?_; rintro e w2 ⟨v, rfl, hv, hb2⟩)
  go_ret
  exact NumsPost.far ⟨v, rfl, hv, hb2⟩ HB.out
theorem newp_absent {w : World} {v : Value} (hs : Absent w v) : Calls Try.prog 18 #[v] w fun e w' => NumsPost w [] e w' := by
  have hb : Below w.heap.size w (w.alloc (.cells #[.int .i64 2] 42)) := (Below.refl _ w).alloc (Nat.le_refl _) _
  have HC := Lib.hid (of_absent (hs.below hb) w.heap.size 1 [2] (by decide) (by simp) (pl1 w 2))
  have HB := Lib.hid hb
  clear hb hs
  go_enter Try.func18, Try.ntmps18
  go_wp2_with (go_at_call 36; refine HC.out.mono ?_; rintro e w2 ⟨v, rfl, hv, hb2⟩)
  go_ret
  exact NumsPost.far ⟨v, rfl, hv, hb2⟩ HB.out
theorem held_absent {w : World} {v : Value} (hs : Absent w v) : Calls Try.prog 19 #[v] w fun e w' => NumsPost w [] e w' := by
  have hb : Below w.heap.size w (w.alloc (.cells #[.int .i64 3] 42)) := (Below.refl _ w).alloc (Nat.le_refl _) _
  have HC := Lib.hid (of_absent (hs.below hb) w.heap.size 1 [3] (by decide) (by simp) (pl1 w 3))
  have HB := Lib.hid hb
  clear hb hs
  go_enter Try.func19, Try.ntmps19
  go_wp2_with (go_at_call 36; refine HC.out.mono ?_; rintro e w2 ⟨v, rfl, hv, hb2⟩)
  go_ret
  exact NumsPost.far ⟨v, rfl, hv, hb2⟩ HB.out
theorem will_absent {w : World} {v : Value} (hs : Absent w v) : Calls Try.prog 20 #[v] w fun e w' => NumsPost w [] e w' := by
  have hb : Below w.heap.size w (w.alloc (.cells #[.int .i64 4, .int .i64 3] 42)) := (Below.refl _ w).alloc (Nat.le_refl _) _
  have HC := Lib.hid (of_absent (hs.below hb) w.heap.size 2 [4, 3] (by decide) (by simp) (pl2 w 4 3))
  have HB := Lib.hid hb
  clear hb hs
  go_enter Try.func20, Try.ntmps20
  go_wp2_with (go_at_call 36; refine HC.out.mono ?_; rintro e w2 ⟨v, rfl, hv, hb2⟩)
  go_ret
  exact NumsPost.far ⟨v, rfl, hv, hb2⟩ HB.out
theorem NumsPost.nil {w : World} {e : Ending} {w' : World} (h : NumsPost w [] e w') : ∃ a c, e = .returned (.slice a 0 c) ∧ Below w.heap.size w w' := by
  obtain ⟨v, rfl, hv, hb⟩ := h
  obtain ⟨a, c, rfl⟩ := row_slice hv
  exact ⟨a, c, rfl, hb⟩
set_option maxRecDepth 100000 in
set_option maxHeartbeats 4000000 in
theorem spaceNil_any (n : Int) (w : World) : Calls Try.prog 6 #[.int .i64 n] w fun e w' => e = .returned (.bool true) ∧ Below w.heap.size w w' := by
  have hz0 : Absent (w.alloc (.cells #[.int .i64 0, .map none, .int .i64 0, .int .i64 0, .map none] 57)) (ptr w.heap.size) :=
    .inr ⟨w.heap.size, rfl, by simp, by rw [cell_of_row _ _ 2 _ _ _ (MapKept.heap_alloc w _).1]; rfl⟩
  have hb0 : Below w.heap.size w (w.alloc (.cells #[.int .i64 0, .map none, .int .i64 0, .int .i64 0, .map none] 57)) := (Below.refl _ w).alloc (Nat.le_refl _) _
  have HZ := Lib.hid hz0
  have HB := Lib.hid hb0
  have HK := Lib.hid known_any
  have k1 : True := trivial
  clear hz0 hb0
  go_enter Try.func6, Try.ntmps6
  go_wp2_with (first
    | (go_at_call 16; refine (take_absent (v := .pointer none) (.inl rfl)).mono ?_; rintro e w' ⟨rfl, rfl⟩)
    | (go_at_call 25; refine (give_absent HZ.out n).mono ?_; rintro e w' ⟨rfl, rfl⟩)
    | (go_at_call 26; refine (lasts_absent (v := .pointer none) (.inl rfl)).mono ?_; rintro e w' ⟨rfl, rfl⟩)
    | (go_at_call 23; refine (undo_absent HZ.out).mono ?_; rintro e w' ⟨rfl, rfl⟩)
    | (have _t := k1; go_at_call 14; refine (high_absent (v := .pointer none) (.inl rfl)).mono ?_; rintro e w' ⟨rfl, rfl⟩; clear k1 _t; have k2 : True := trivial)
    | (have _t := k2; go_at_call 14; refine (high_absent HZ.out).mono ?_; rintro e w' ⟨rfl, rfl⟩; clear k2 _t)
    | (go_at_call 17; refine (free_absent (v := .pointer none) (.inl rfl)).mono ?_; rintro e w1 hp; obtain ⟨a1, c1, rfl, hb1⟩ := hp.nil; clear hp; have HB1 := Lib.hid (HB.out.trans (hb1.mono HB.out.size)); have HZ1 := Lib.hid (HZ.out.below hb1); clear hb1)
    | (go_at_call 18; refine (newp_absent HZ1.out).mono ?_; rintro e w2 hp; obtain ⟨a2, c2, rfl, hb2⟩ := hp.nil; clear hp; have HB2 := Lib.hid (HB1.out.trans (hb2.mono HB1.out.size)); have HZ2 := Lib.hid (HZ1.out.below hb2); clear hb2)
    | (go_at_call 19; refine (held_absent (v := .pointer none) (.inl rfl)).mono ?_; rintro e w3 hp; obtain ⟨a3, c3, rfl, hb3⟩ := hp.nil; clear hp; have HB3 := Lib.hid (HB2.out.trans (hb3.mono HB2.out.size)); have HZ3 := Lib.hid (HZ2.out.below hb3); clear hb3)
    | (go_at_call 20; refine (will_absent HZ3.out).mono ?_; rintro e w4 hp; obtain ⟨a4, c4, rfl, hb4⟩ := hp.nil; clear hp; have HB4 := Lib.hid (HB3.out.trans (hb4.mono HB3.out.size)); have HZ4 := Lib.hid (HZ3.out.below hb4); clear hb4)
    | (go_at_call 15; refine (is_absent (v := .pointer none) (.inl rfl) n).mono ?_; rintro e w' ⟨rfl, rfl⟩)
    | (go_at_call 21; refine (copy_absent HZ4.out).mono ?_; rintro e w' ⟨rfl, rfl⟩)
    | (go_at_call 22; refine (same_absent (u := .pointer none) (.inl rfl) HZ4.out).mono ?_; rintro e w' ⟨rfl, rfl⟩)
    | (go_at_call 9; refine (HK.out w4).mono ?_; rintro e w5 ⟨rfl, hb5⟩))
  go_ret
  exact ⟨rfl, HB4.out.trans (hb5.mono HB4.out.size)⟩
end Go.Proofs.Ytmmbmmiedfdmeaa

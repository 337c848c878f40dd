/- Layer 2: the law on disks that are not there. -/
import Derived.Test.YtmbccbiilfdamaaDskKnown
import Derived.Test.YtmbccbiilfdamaaDskAbsent2
namespace Go.Proofs.Ytmbccbiilfdamaa
open Go.RowKit

theorem still_below {f : FuncId} {args : Array Value} {w : World} {v : Value} (h : Calls Try.prog f args w fun e w' => e = .returned v ∧ w = w') : Calls Try.prog f args w fun e w' => e = .returned v ∧ Below w.heap.size w w' :=
  h.mono fun _ _ ⟨he, hw⟩ => ⟨he, by subst hw; exact Below.refl _ _⟩
set_option maxRecDepth 100000 in
set_option maxHeartbeats 4000000 in
theorem nil_any (page : Int) (ao : Option Addr) (n c : Nat) (w : World) : Calls Try.prog 6 #[.int .i64 page, .slice ao n c] w fun e w' => e = .returned (.bool true) ∧ Below w.heap.size w w' := by
  by_cases hn : (300 : Int) < n
  · have hk := Lib.hid known_any
    go_enter Try.func6, Try.ntmps6
    go_wp2_with (go_at_call 9; refine (hk.out w).mono ?_; rintro e w' ⟨rfl, hb⟩)
    go_ret
    exact ⟨rfl, hb⟩
  · go_enter Try.func6, Try.ntmps6
    have hz0 : Absent (w.alloc (.cells #[.int .i64 0, .int .i64 0, .bool false, .int .i64 0, .int .i64 0, .map none, .map none, .slice none 0 0] 58)) (ptr w.heap.size) :=
      .inr ⟨w.heap.size, rfl, by simp, by rw [cell_of_row _ _ 3 _ _ _ (heap_alloc_last w _)]; rfl⟩
    have hb0 : Below w.heap.size w (w.alloc (.cells #[.int .i64 0, .int .i64 0, .bool false, .int .i64 0, .int .i64 0, .map none, .map none, .slice none 0 0] 58)) := (Below.refl _ w).alloc (Nat.le_refl _) _
    have HZ := Lib.hid hz0
    have HB := Lib.hid hb0
    clear hz0 hb0
    have HK := Lib.hid known_any
    go_wp2_with (first
      | (go_at_call 14; refine (read_absent (v := .pointer none) (.inl rfl) page).mono ?_; rintro e w' ⟨rfl, rfl⟩)
      | (go_at_call 15; refine (crash_absent (HZ.out.below ((Below.refl _ _).alloc (Nat.le_refl _) _)) _ 1 1).mono ?_; rintro e X ⟨rfl, hb5⟩; have hzX : Absent X (ptr w.heap.size) := (HZ.out.below ((Below.refl _ _).alloc (Nat.le_refl _) _)).below hb5)
      | (go_at_call 21; refine (write_absent (v := .pointer none) (.inl rfl) page ao n c).mono ?_; rintro e X1 ⟨rfl, hb6⟩; have hz1 := hzX.below hb6)
      | (go_at_call 22; refine (flush_absent hz1).mono ?_; rintro e X2 ⟨rfl, hb7⟩; have hz2 := hz1.below hb7)
      | (go_at_call 23; refine (arm_absent (v := .pointer none) (.inl rfl) 1 page).mono ?_; rintro e w' ⟨rfl, rfl⟩)
      | (go_at_call 18; refine (dead_absent hz2).mono ?_; rintro e w' ⟨rfl, rfl⟩)
      | (go_at_call 24; refine (pages_absent (v := .pointer none) (.inl rfl)).mono ?_; rintro e w' ⟨rfl, rfl⟩)
      | (go_at_call 17; refine (waits_absent hz2).mono ?_; rintro e w' ⟨rfl, rfl⟩)
      | (go_at_call 25; refine (steps_absent (v := .pointer none) (.inl rfl)).mono ?_; rintro e w' ⟨rfl, rfl⟩)
      | (go_at_call 20; refine (copy_absent hz2).mono ?_; rintro e w' ⟨rfl, rfl⟩)
      | (go_at_call 19; refine (same_absent (v := .pointer none) (.inl rfl) hz2).mono ?_; rintro e w' ⟨rfl, rfl⟩)
      | (go_at_call 9; refine (HK.out X2).mono ?_; rintro e X3 ⟨rfl, hb8⟩))
    go_ret
    have b1 := HB.out.alloc (by simp) (.cells #[.int .i64 page] 3)
    have b2 := b1.trans (hb5.mono (by simp; omega))
    have b3 := b2.trans (hb6.mono b2.size)
    have b4 := b3.trans (hb7.mono b3.size)
    exact ⟨rfl, b4.trans (hb8.mono b4.size)⟩
end Go.Proofs.Ytmbccbiilfdamaa

/- The contracts of a sum under way that is not there: nil, or one that New did not make. -/
import Derived.WalkKit
import Derived.Outline
import Derived.LoopTactic
import Derived.Lib.Hide
import Derived.Test.YtjpjijjnkjomnaaDoorCrcKnown
namespace Go.Proofs.YtjpjijjnkjomnaaDoor
open Go.RowKit

/-- The receiver is nil, or its mark is not set. -/
def Absent (w : World) (p : Option Addr) : Prop := p = none ∨ ∃ B, p = some ⟨B, 0, none⟩ ∧ w.cell? ⟨B, 0, none⟩ = some (.bool false)
theorem Absent.below {A C : World} {n₀ : Nat} {p : Option Addr} (h : Absent A p) (hb : Below n₀ A C) (hn : ∀ B, p = some ⟨B, 0, none⟩ → B < n₀) : Absent C p := by
  rcases h with rfl | ⟨B, rfl, hc⟩
  · exact .inl rfl
  · exact .inr ⟨B, rfl, (hb.cell (p := ⟨B, 0, none⟩) (hn B rfl)).trans hc⟩

theorem there_absent (p : Option Addr) (w : World) (hp : Absent w p) :
    Calls Tryd.prog 21 #[.pointer p] w fun e w' => e = .returned (.bool false) ∧ w = w' := by
  rcases hp with rfl | ⟨B, rfl, hc⟩
  · go_enter Tryd.func21, Tryd.ntmps21
    go_wp2
    go_ret
    exact ⟨rfl, rfl⟩
  · go_enter Tryd.func21, Tryd.ntmps21
    go_wp2
    go_ret
    exact ⟨rfl, rfl⟩

theorem write_absent (p : Option Addr) (s : Value) (w : World) (hp : Absent w p) (hn : ∀ B, p = some ⟨B, 0, none⟩ → B < w.heap.size) :
    Calls Tryd.prog 13 #[.pointer p, s] w fun e w' => e = .returned (.int .i64 1) ∧ Below w.heap.size w w' := by
  have hB : Below w.heap.size w (w.alloc (.cells #[.pointer p] 27)) := (Below.refl _ _).alloc (Nat.le_refl _) _
  have hp2 := hp.below hB hn
  go_enter Tryd.func13, Tryd.ntmps13
  go_wp2_with (go_at_call 21; refine (there_absent _ _ hp2).mono ?_; rintro e w' ⟨rfl, rfl⟩)
  go_ret
  exact ⟨rfl, hB⟩

theorem sumOf_absent (p : Option Addr) (w : World) (hp : Absent w p) :
    Calls Tryd.prog 16 #[.pointer p] w fun e w' => e = .returned (.int .u32 0) ∧ w = w' := by
  go_enter Tryd.func16, Tryd.ntmps16
  go_wp2_with (go_at_call 21; refine (there_absent _ _ hp).mono ?_; rintro e w' ⟨rfl, rfl⟩)
  go_ret
  exact ⟨rfl, rfl⟩
theorem len_absent (p : Option Addr) (w : World) (hp : Absent w p) :
    Calls Tryd.prog 17 #[.pointer p] w fun e w' => e = .returned (.int .i64 0) ∧ w = w' := by
  go_enter Tryd.func17, Tryd.ntmps17
  go_wp2_with (go_at_call 21; refine (there_absent _ _ hp).mono ?_; rintro e w' ⟨rfl, rfl⟩)
  go_ret
  exact ⟨rfl, rfl⟩
theorem copy_absent (p : Option Addr) (w : World) (hp : Absent w p) :
    Calls Tryd.prog 12 #[.pointer p] w fun e w' => e = .returned (.pointer none) ∧ w = w' := by
  go_enter Tryd.func12, Tryd.ntmps12
  go_wp2_with (go_at_call 21; refine (there_absent _ _ hp).mono ?_; rintro e w' ⟨rfl, rfl⟩)
  go_ret
  exact ⟨rfl, rfl⟩

set_option maxHeartbeats 2000000 in
theorem crcNil_any (a : Option Addr) (len cap : Nat) (hl : len ≤ 9223372036854775807) (w : World) (ht : Tab w) (h1w : 1 ≤ w.heap.size) :
    Calls Tryd.prog 6 #[.slice a len cap] w fun e w' => e = .returned (.bool true) ∧ Below w.heap.size w w' := by
  by_cases h100 : 100 < len
  · go_enter Tryd.func6, Tryd.ntmps6
    go_wp2_with (go_at_call 10; refine (known_any _ ht h1w).mono ?_; rintro e w' ⟨rfl, hb⟩)
    go_ret
    exact ⟨rfl, hb⟩
  · go_enter Tryd.func6, Tryd.ntmps6
    go_wp2_with fail
    obtain ⟨W2, hW2⟩ : ∃ W2, w.alloc (.cells #[.bool false, .int .i64 0, .int .u32 0] 46) = W2 := ⟨_, rfl⟩
    have hz2 : W2.cell? ⟨w.heap.size, 0, none⟩ = some (.bool false) := by rw [← hW2]; simp
    have hs2 : w.heap.size < W2.heap.size := by rw [← hW2]; simp
    have hB2 : Below w.heap.size w W2 := hW2 ▸ (Below.refl _ w).alloc (Nat.le_refl _) _
    rw [hW2]
    clear hW2
    have hA2 : Absent W2 (some ⟨w.heap.size, 0, none⟩) := .inr ⟨_, rfl, hz2⟩
    have hlt : ∀ B, some (⟨w.heap.size, 0, none⟩ : Addr) = some ⟨B, 0, none⟩ → B < W2.heap.size := fun B e => by cases e; exact hs2
    refine (write_absent none _ W2 (.inl rfl) (fun B e => by cases e)).mono ?_
    rintro e W3 ⟨rfl, hb3⟩
    have hA3 := hA2.below hb3 hlt
    have H3 := Lib.hid hb3.size
    have hB3 := Lib.hid (hB2.trans (hb3.mono hB2.size))
    clear hb3
    go_wp2_with fail
    refine (write_absent _ _ W3 hA3 (fun B e => Nat.lt_of_lt_of_le (hlt B e) H3.out)).mono ?_
    rintro e W4 ⟨rfl, hb4⟩
    have hA4 := hA3.below hb4 (fun B e => Nat.lt_of_lt_of_le (hlt B e) H3.out)
    have hB4 := Lib.hid (hB3.out.trans (hb4.mono hB3.out.size))
    have ht4 := ht.below h1w hB4.out
    have h4w := Nat.le_trans h1w hB4.out.size
    have HA := Lib.hid hlt
    clear hb4 hlt hA2 hA3 hz2 hs2 hB2
    have q1 := sumOf_absent none W4 (.inl rfl)
    have q2 := sumOf_absent _ W4 hA4
    have q3 := len_absent none W4 (.inl rfl)
    have q4 := len_absent _ W4 hA4
    have q5 := copy_absent none W4 (.inl rfl)
    have q6 := known_any W4 ht4 h4w
    go_wp2_with fail
    refine q1.mono ?_; rintro e w' ⟨rfl, rfl⟩
    go_wp2_with fail
    refine q2.mono ?_; rintro e w' ⟨rfl, rfl⟩
    go_wp2_with fail
    refine q3.mono ?_; rintro e w' ⟨rfl, rfl⟩
    go_wp2_with fail
    refine q4.mono ?_; rintro e w' ⟨rfl, rfl⟩
    go_wp2_with fail
    refine q5.mono ?_; rintro e w' ⟨rfl, rfl⟩
    go_wp2_with fail
    refine q6.mono ?_; rintro e w' ⟨rfl, hb5⟩
    have hB5 := Lib.hid (hB4.out.trans (hb5.mono hB4.out.size))
    clear hb5
    go_wp2_with fail
    go_ret
    exact ⟨rfl, hB5.out⟩
end Go.Proofs.YtjpjijjnkjomnaaDoor

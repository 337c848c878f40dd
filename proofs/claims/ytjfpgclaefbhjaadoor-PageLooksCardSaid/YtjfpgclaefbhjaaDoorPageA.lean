/- Layer 4: whether a number, a kind, a page may be (the program's words and the document's). -/
import Derived.WalkMore
import Derived.Deep.QuietTactic
import Derived.BigQuiet
import Derived.Test.YtjfpgclaefbhjaaDoorOwnB
namespace Go.Proofs.YtjfpgclaefbhjaaDoor
open Go.RowKit

def numB (n : Int) : Bool := decide (0 ≤ n ∧ n ≤ 4095)
def kindB (k : Int) : Bool := decide (1 ≤ k ∧ k ≤ 5)
def rightB (k t x : Int) (n : Nat) : Bool := kindB k && decide (0 ≤ t) && decide (t ≤ 4611686018427387904) && numB x && decide (n ≤ 232)
abbrev pgv (k t x : Int) (a : Option Addr) (n c : Nat) : Value := .agg #[.int .i64 k, .int .i64 t, .int .i64 x, .slice a n c]

theorem isNumber_any (n : Int) (w : World) : Calls Tryd.prog 19 #[.int .i64 n] w fun e w' => e = .returned (.bool (numB n)) ∧ w = w' := by
  unfold numB
  by_cases h1 : 0 ≤ n
  · rw [show decide (0 ≤ n ∧ n ≤ 4095) = decide (n < 4096) from decide_eq_decide.2 (by omega)]
    go_enter Tryd.func19, Tryd.ntmps19
    go_wp2
    go_ret
    exact ⟨rfl, rfl⟩
  · rw [show decide (0 ≤ n ∧ n ≤ 4095) = false by simp [h1]]
    go_enter Tryd.func19, Tryd.ntmps19
    go_wp2
    go_ret
    exact ⟨rfl, rfl⟩
theorem isKind_any (n : Int) (w : World) : Calls Tryd.prog 23 #[.int .i64 n] w fun e w' => e = .returned (.bool (kindB n)) ∧ w = w' := by
  unfold kindB
  by_cases h1 : 0 < n
  · rw [show decide (1 ≤ n ∧ n ≤ 5) = decide (n < 6) from decide_eq_decide.2 (by omega)]
    go_enter Tryd.func23, Tryd.ntmps23
    go_wp2
    go_ret
    exact ⟨rfl, rfl⟩
  · rw [show decide (1 ≤ n ∧ n ≤ 5) = false by simp; omega]
    go_enter Tryd.func23, Tryd.ntmps23
    go_wp2
    go_ret
    exact ⟨rfl, rfl⟩
set_option maxHeartbeats 1000000 in
theorem check_any (k t x : Int) (a : Option Addr) (n c : Nat) (w : World) (hn : n ≤ 9223372036854775807) : Calls Tryd.prog 10 #[pgv k t x a n c] w fun e w' => e = .returned (.int .i64 (if rightB k t x n then 0 else 2)) ∧ Below w.heap.size w w' := by
  have hb : Below w.heap.size w (w.alloc (.cells #[.int .i64 k, .int .i64 t, .int .i64 x, .slice a n c] 25)) := (Below.refl _ _).alloc (Nat.le_refl _) _
  have HB := Lib.hid hb
  clear hb
  by_cases h1 : kindB k = true
  case neg =>
    have h1' : kindB k = false := by simpa using h1
    rw [show rightB k t x n = false by simp [rightB, h1']]
    go_enter Tryd.func10, Tryd.ntmps10
    go_wp2_with (first | (go_at_call 23; refine (isKind_any _ _).mono ?_; rintro e w' ⟨rfl, rfl⟩) | (go_at_call 19; refine (isNumber_any _ _).mono ?_; rintro e w' ⟨rfl, rfl⟩))
    go_ret
    exact ⟨rfl, HB.out⟩
  by_cases h2 : 0 ≤ t
  case neg =>
    rw [show rightB k t x n = false by simp [rightB, h2]]
    go_enter Tryd.func10, Tryd.ntmps10
    go_wp2_with (first | (go_at_call 23; refine (isKind_any _ _).mono ?_; rintro e w' ⟨rfl, rfl⟩) | (go_at_call 19; refine (isNumber_any _ _).mono ?_; rintro e w' ⟨rfl, rfl⟩))
    go_ret
    exact ⟨rfl, HB.out⟩
  by_cases h3 : t ≤ 4611686018427387904
  case neg =>
    rw [show rightB k t x n = false by simp [rightB, h3]]
    go_enter Tryd.func10, Tryd.ntmps10
    go_wp2_with (first | (go_at_call 23; refine (isKind_any _ _).mono ?_; rintro e w' ⟨rfl, rfl⟩) | (go_at_call 19; refine (isNumber_any _ _).mono ?_; rintro e w' ⟨rfl, rfl⟩))
    go_ret
    exact ⟨rfl, HB.out⟩
  by_cases h4 : numB x = true
  case neg =>
    have h4' : numB x = false := by simpa using h4
    rw [show rightB k t x n = false by simp [rightB, h4']]
    go_enter Tryd.func10, Tryd.ntmps10
    go_wp2_with (first | (go_at_call 23; refine (isKind_any _ _).mono ?_; rintro e w' ⟨rfl, rfl⟩) | (go_at_call 19; refine (isNumber_any _ _).mono ?_; rintro e w' ⟨rfl, rfl⟩))
    go_ret
    exact ⟨rfl, HB.out⟩
  by_cases h5 : n ≤ 232
  · rw [show rightB k t x n = true by simp [rightB, *]]
    have h5' : decide ((232 : Int) < (n : Int)) = false := by simp; omega
    go_enter Tryd.func10, Tryd.ntmps10
    go_wp2_with (first | (go_at_call 23; refine (isKind_any _ _).mono ?_; rintro e w' ⟨rfl, rfl⟩) | (go_at_call 19; refine (isNumber_any _ _).mono ?_; rintro e w' ⟨rfl, rfl⟩))
    go_ret
    exact ⟨rfl, HB.out⟩
  · rw [show rightB k t x n = false by simp [rightB, h5]]
    have h5' : decide ((232 : Int) < (n : Int)) = true := by simp; omega
    go_enter Tryd.func10, Tryd.ntmps10
    go_wp2_with (first | (go_at_call 23; refine (isKind_any _ _).mono ?_; rintro e w' ⟨rfl, rfl⟩) | (go_at_call 19; refine (isNumber_any _ _).mono ?_; rintro e w' ⟨rfl, rfl⟩))
    go_ret
    exact ⟨rfl, HB.out⟩
end Go.Proofs.YtjfpgclaefbhjaaDoor

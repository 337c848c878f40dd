/- Layer 12: is a number a rune; how many bytes stand behind its first one. -/
import Derived.WalkKit
import Derived.Outline
import Derived.LoopTactic
import Derived.LoopN
import Derived.Lib.Hide
import Derived.Deep.QuietTactic
import Derived.BigQuiet
import Derived.WalkLawsBesides
import Derived.ScopeJumps
import Derived.Test.YtgcfgheamaoceaaGreatDoorUtfA
import Derived.Test.YtgcfgheamaoceaaGreatDoorKit
import Derived.Test.YtgcfgheamaoceaaGreatDoorProg
namespace Go.Proofs.YtgcfgheamaoceaaGreatDoor
open Go.RowKit

/-- Both tables hold what the program's text lays. -/
structure Tabs (w : World) : Prop where
  b0 : w.cell? ⟨2, 0, none⟩ = some (.int .i32 128)
  b1 : w.cell? ⟨2, 1, none⟩ = some (.int .i32 2048)
  b2 : w.cell? ⟨2, 2, none⟩ = some (.int .i32 65536)
  l0 : w.cell? ⟨1, 0, none⟩ = some (.int .u8 0)
  l1 : w.cell? ⟨1, 1, none⟩ = some (.int .u8 192)
  l2 : w.cell? ⟨1, 2, none⟩ = some (.int .u8 224)
  l3 : w.cell? ⟨1, 3, none⟩ = some (.int .u8 240)
theorem Tabs.two {w : World} (h : Tabs w) : 3 ≤ w.heap.size := by have h0 := cell_lt h.b0; have h1 := cell_lt h.l0; simp only at h0 h1; omega
theorem Tabs.keep {w w' : World} (h : Tabs w) (hk : KeepsOn (fun k => k < 3) w w') : Tabs w' :=
  ⟨(hk.cell (by decide)).trans h.b0, (hk.cell (by decide)).trans h.b1, (hk.cell (by decide)).trans h.b2, (hk.cell (by decide)).trans h.l0, (hk.cell (by decide)).trans h.l1, (hk.cell (by decide)).trans h.l2, (hk.cell (by decide)).trans h.l3⟩
theorem Tabs.below {n : Nat} {w w' : World} (h : Tabs w) (hb : Below n w w') (hn : 3 ≤ n) : Tabs w' := h.keep (.of_below hb fun _ hk => Nat.lt_of_lt_of_le hk hn)

def mayZ (r : Int) : Bool := decide (0 ≤ r ∧ (r < 55296 ∨ 57343 < r ∧ r ≤ 1114111))
def lenZ (r : Int) : Int := if r < 128 then 0 else if r < 2048 then 1 else if r < 65536 then 2 else 3
theorem mayZ_nat (n : Nat) : mayZ n = mayN n := by
  unfold mayZ mayN
  rw [Bool.eq_iff_iff]; simp only [decide_eq_true_eq]; omega
theorem lenZ_nat (n : Nat) : lenZ n = (lenB n : Int) := by
  unfold lenZ lenB
  by_cases h1 : n < 128
  · rw [if_pos (by omega), if_pos h1]; rfl
  rw [if_neg (by omega), if_neg h1]
  by_cases h2 : n < 2048
  · rw [if_pos (by omega), if_pos h2]; rfl
  rw [if_neg (by omega), if_neg h2]
  by_cases h3 : n < 65536
  · rw [if_pos (by omega), if_pos h3]; rfl
  rw [if_neg (by omega), if_neg h3]; rfl
set_option maxRecDepth 100000 in
theorem isRune_any (r : Int) (w : World) : Calls Tryz.prog 158 #[.int .i32 r] w fun e w' => e = .returned (.bool (mayZ r)) ∧ w = w' := by
  rcases Int.lt_or_le r 0 with h0 | h0
  · rw [show mayZ r = false by simp [mayZ]; omega]
    go_enter Tryz.func158, Tryz.ntmps158
    go_wp2
    go_ret
    exact ⟨rfl, rfl⟩
  rcases Int.lt_or_le 1114111 r with h1 | h1
  · rw [show mayZ r = false by simp [mayZ]; omega]
    go_enter Tryz.func158, Tryz.ntmps158
    go_wp2
    go_ret
    exact ⟨rfl, rfl⟩
  rcases Int.lt_or_le r 55296 with h2 | h2
  · rw [show mayZ r = true by simp [mayZ]; omega]
    go_enter Tryz.func158, Tryz.ntmps158
    go_wp2
    go_ret
    exact ⟨rfl, rfl⟩
  rcases Int.lt_or_le 57343 r with h3 | h3
  · rw [show mayZ r = true by simp [mayZ]; omega]
    go_enter Tryz.func158, Tryz.ntmps158
    go_wp2
    go_ret
    exact ⟨rfl, rfl⟩
  · rw [show mayZ r = false by simp [mayZ]; omega]
    have h3' : decide (57343 < r) = false := by simp; omega
    have h2' : decide (r < 55296) = false := by simp; omega
    go_enter Tryz.func158, Tryz.ntmps158
    go_wp2
    go_ret
    exact ⟨rfl, rfl⟩
theorem index_g0 (v0 v1 v2 : Value) (w : World) : (Instr.index 191 (.agg #[v0, v1, v2]) (.int .i64 0)).run Tryz.prog w = .ok v0 w := by kernel_rfl
theorem index_g1 (v0 v1 v2 : Value) (w : World) : (Instr.index 191 (.agg #[v0, v1, v2]) (.int .i64 1)).run Tryz.prog w = .ok v1 w := by kernel_rfl
theorem index_g2 (v0 v1 v2 : Value) (w : World) : (Instr.index 191 (.agg #[v0, v1, v2]) (.int .i64 2)).run Tryz.prog w = .ok v2 w := by kernel_rfl
set_option maxRecDepth 100000 in
theorem behind_any (r : Int) (w : World) (ht : Tabs w) : Calls Tryz.prog 159 #[.int .i32 r] w fun e w' => e = .returned (.int .i64 (lenZ r)) ∧ w = w' := by
  have i0 := index_g0 (.int .i32 128) (.int .i32 2048) (.int .i32 65536)
  have i1 := index_g1 (.int .i32 128) (.int .i32 2048) (.int .i32 65536)
  have i2 := index_g2 (.int .i32 128) (.int .i32 2048) (.int .i32 65536)
  have c0 := ht.b0
  have c1 := ht.b1
  have c2 := ht.b2
  clear ht
  have key : r < 128 ∨ (128 ≤ r ∧ r < 2048) ∨ (2048 ≤ r ∧ r < 65536) ∨ 65536 ≤ r := by omega
  rcases key with h | ⟨h, h'⟩ | ⟨h, h'⟩ | h
  · rw [show lenZ r = 0 by unfold lenZ; rw [if_pos h]]
    go_enter Tryz.func159, Tryz.ntmps159
    go_wp2
    refine wp_loop_rounds 4 ?_; rw [rounds_succ]
    go_wp2
    rw [rounds_succ]
    go_wp2
    rw [rounds_succ]
    go_wp2
    rw [rounds_succ]
    go_wp2
    go_ret
    exact ⟨rfl, rfl⟩
  · rw [show lenZ r = 1 by unfold lenZ; rw [if_neg (by omega), if_pos h']]
    go_enter Tryz.func159, Tryz.ntmps159
    go_wp2
    refine wp_loop_rounds 4 ?_; rw [rounds_succ]
    go_wp2
    rw [rounds_succ]
    go_wp2
    rw [rounds_succ]
    go_wp2
    rw [rounds_succ]
    go_wp2
    go_ret
    exact ⟨rfl, rfl⟩
  · rw [show lenZ r = 2 by unfold lenZ; rw [if_neg (by omega), if_neg (by omega), if_pos h']]
    go_enter Tryz.func159, Tryz.ntmps159
    go_wp2
    refine wp_loop_rounds 4 ?_; rw [rounds_succ]
    go_wp2
    rw [rounds_succ]
    go_wp2
    rw [rounds_succ]
    go_wp2
    rw [rounds_succ]
    go_wp2
    go_ret
    exact ⟨rfl, rfl⟩
  · rw [show lenZ r = 3 by unfold lenZ; rw [if_neg (by omega), if_neg (by omega), if_neg (by omega)]]
    go_enter Tryz.func159, Tryz.ntmps159
    go_wp2
    refine wp_loop_rounds 4 ?_; rw [rounds_succ]
    go_wp2
    rw [rounds_succ]
    go_wp2
    rw [rounds_succ]
    go_wp2
    rw [rounds_succ]
    go_wp2
    go_ret
    exact ⟨rfl, rfl⟩
end Go.Proofs.YtgcfgheamaoceaaGreatDoor

/- Layer 15: how many bytes a length has; the closure that tells them; bits. -/
import Derived.WalkKit
import Derived.Outline
import Derived.LoopTactic
import Derived.LoopN
import Derived.Lib.Hide
import Derived.ScopeJumps
import Derived.RangeFuncBox
import Derived.Test.YtmbjdfmbbmeofaaDoorLgA
import Derived.Test.YtmbjdfmbbmeofaaDoorKit
import Derived.Test.YtmbjdfmbbmeofaaDoorProg
namespace Go.Proofs.YtmbjdfmbbmeofaaDoor
open Go.RowKit

/-- The table holds what the program's text lays. -/
structure LgTab (w : World) : Prop where
  b0 : w.cell? ⟨0, 0, none⟩ = some (.int .i64 127)
  b1 : w.cell? ⟨0, 1, none⟩ = some (.int .i64 16383)
  b2 : w.cell? ⟨0, 2, none⟩ = some (.int .i64 2097151)
  b3 : w.cell? ⟨0, 3, none⟩ = some (.int .i64 268435455)
theorem LgTab.lt {w : World} (h : LgTab w) : 0 + 1 ≤ w.heap.size := cell_lt h.b0
theorem LgTab.keep {w w' : World} (h : LgTab w) (hk : KeepsOn (fun k => k < 0 + 1) w w') : LgTab w' :=
  ⟨(hk.cell (by decide)).trans h.b0, (hk.cell (by decide)).trans h.b1, (hk.cell (by decide)).trans h.b2, (hk.cell (by decide)).trans h.b3⟩
theorem LgTab.below {n : Nat} {w w' : World} (h : LgTab w) (hb : Below n w w') (hn : 0 + 1 ≤ n) : LgTab w' := h.keep (.of_below hb fun _ hk => Nat.lt_of_lt_of_le hk hn)

theorem and127_64 {x : Nat} (h : x < 9223372036854775808) : bits .and .i64 (x : Int) 127 = ((x % 128 : Nat) : Int) := by
  show IntKind.i64.wrap ((BitVec.ofInt 64 (x : Int) &&& BitVec.ofInt 64 127).toNat : Int) = _
  rw [BitVec.toNat_and, BitVec.ofInt_natCast, BitVec.toNat_ofNat, Nat.mod_eq_of_lt (show x < 2 ^ 64 by omega), show (BitVec.ofInt 64 127).toNat = 2 ^ 7 - 1 by decide, Nat.and_two_pow_sub_one_eq_mod]
  rw [IntKind.wrap_i64]; omega
theorem and127_8 {x : Nat} (h : x < 256) : bits .and .u8 (x : Int) 127 = ((x % 128 : Nat) : Int) := by
  show IntKind.u8.wrap ((BitVec.ofInt 8 (x : Int) &&& BitVec.ofInt 8 127).toNat : Int) = _
  rw [BitVec.toNat_and, BitVec.ofInt_natCast, BitVec.toNat_ofNat, Nat.mod_eq_of_lt (show x < 2 ^ 8 by omega), show (BitVec.ofInt 8 127).toNat = 2 ^ 7 - 1 by decide, Nat.and_two_pow_sub_one_eq_mod]
  rw [wraps_u8 _ (by omega) (by omega)]
theorem or128_8 {x : Nat} (h : x < 128) : bits .or .u8 (x : Int) 128 = ((128 + x : Nat) : Int) := by
  show IntKind.u8.wrap ((BitVec.ofInt 8 (x : Int) ||| BitVec.ofInt 8 128).toNat : Int) = _
  rw [BitVec.toNat_or, BitVec.ofInt_natCast, BitVec.toNat_ofNat, Nat.mod_eq_of_lt (show x < 2 ^ 8 by omega), show (BitVec.ofInt 8 128).toNat = 2 ^ 7 * 1 by decide, Nat.or_comm, ← Nat.two_pow_add_eq_or_of_lt (by omega)]
  rw [wraps_u8 _ (by omega) (by omega)]
theorem or_64 {v c i : Nat} (hv : v < 2 ^ i) (hc : 2 ^ i * c + v < 9223372036854775808) : bits .or .i64 (v : Int) ((2 ^ i * c : Nat) : Int) = ((v + 2 ^ i * c : Nat) : Int) := by
  show IntKind.i64.wrap ((BitVec.ofInt 64 (v : Int) ||| BitVec.ofInt 64 ((2 ^ i * c : Nat) : Int)).toNat : Int) = _
  rw [BitVec.toNat_or, BitVec.ofInt_natCast, BitVec.ofInt_natCast, BitVec.toNat_ofNat, BitVec.toNat_ofNat, Nat.mod_eq_of_lt (show v < 2 ^ 64 by omega), Nat.mod_eq_of_lt (show 2 ^ i * c < 2 ^ 64 by omega), Nat.or_comm, ← Nat.two_pow_add_eq_or_of_lt hv]
  rw [IntKind.wrap_i64]; omega

set_option maxRecDepth 100000 in
theorem size_any (n : Int) (w : World) (ht : LgTab w) : Calls Tryd.prog 10 #[.int .i64 n] w fun e w' => e = .returned (.int .i64 (lgSz n)) ∧ w = w' := by
  have c0 := ht.b0
  have c1 := ht.b1
  have c2 := ht.b2
  have c3 := ht.b3
  clear ht
  have key : n < 0 ∨ (0 ≤ n ∧ n ≤ 127) ∨ (127 < n ∧ n ≤ 16383) ∨ (16383 < n ∧ n ≤ 2097151) ∨ (2097151 < n ∧ n ≤ 268435455) ∨ 268435455 < n := by omega
  rcases key with h | ⟨h, h'⟩ | ⟨h, h'⟩ | ⟨h, h'⟩ | ⟨h, h'⟩ | h
  · rw [lgSz_no (.inl h)]
    go_enter Tryd.func10, Tryd.ntmps10
    go_wp2
    refine wp_loop_rounds 5 ?_; rw [rounds_succ]
    go_wp2
    rw [rounds_succ]
    go_wp2
    rw [rounds_succ]
    go_wp2
    rw [rounds_succ]
    go_wp2
    rw [rounds_succ]
    go_wp2
    go_ret
    exact ⟨rfl, rfl⟩
  · rw [show lgSz n = 1 by unfold lgSz lgSize; rw [if_neg (by omega), if_pos (by omega)]; rfl]
    go_enter Tryd.func10, Tryd.ntmps10
    go_wp2
    refine wp_loop_rounds 5 ?_; rw [rounds_succ]
    go_wp2
    go_ret
    exact ⟨rfl, rfl⟩
  · rw [show lgSz n = 2 by unfold lgSz lgSize; rw [if_neg (by omega), if_neg (by omega), if_pos (by omega)]; rfl]
    have h0 : 0 ≤ n := by omega
    go_enter Tryd.func10, Tryd.ntmps10
    go_wp2
    refine wp_loop_rounds 5 ?_; rw [rounds_succ]
    go_wp2
    rw [rounds_succ]
    go_wp2
    go_ret
    exact ⟨rfl, rfl⟩
  · rw [show lgSz n = 3 by unfold lgSz lgSize; rw [if_neg (by omega), if_neg (by omega), if_neg (by omega), if_pos (by omega)]; rfl]
    have h0 : 0 ≤ n := by omega
    go_enter Tryd.func10, Tryd.ntmps10
    go_wp2
    refine wp_loop_rounds 5 ?_; rw [rounds_succ]
    go_wp2
    rw [rounds_succ]
    go_wp2
    rw [rounds_succ]
    go_wp2
    go_ret
    exact ⟨rfl, rfl⟩
  · rw [show lgSz n = 4 by unfold lgSz lgSize; rw [if_neg (by omega), if_neg (by omega), if_neg (by omega), if_neg (by omega)]; rfl]
    have h0 : 0 ≤ n := by omega
    go_enter Tryd.func10, Tryd.ntmps10
    go_wp2
    refine wp_loop_rounds 5 ?_; rw [rounds_succ]
    go_wp2
    rw [rounds_succ]
    go_wp2
    rw [rounds_succ]
    go_wp2
    rw [rounds_succ]
    go_wp2
    go_ret
    exact ⟨rfl, rfl⟩
  · rw [lgSz_no (.inr h)]
    have h0 : 0 ≤ n := by omega
    go_enter Tryd.func10, Tryd.ntmps10
    go_wp2
    refine wp_loop_rounds 5 ?_; rw [rounds_succ]
    go_wp2
    rw [rounds_succ]
    go_wp2
    rw [rounds_succ]
    go_wp2
    rw [rounds_succ]
    go_wp2
    rw [rounds_succ]
    go_wp2
    go_ret
    exact ⟨rfl, rfl⟩
/-- laid: the length is boxed. -/
theorem laid_lg (n : Int) (w : World) : Calls Tryd.prog 16 #[.int .i64 n] w fun e w' => e = .returned (.func (.func 19) #[] #[.pointer (some ⟨w.heap.size, 0, none⟩)]) ∧ w.alloc (.cells #[.int .i64 n] 2) = w' := by
  go_enter Tryd.func16, Tryd.ntmps16
  go_wp2
  go_ret
  exact ⟨by simp, rfl⟩
set_option maxRecDepth 100000 in
theorem next_any (m N : Nat) (hm : m ≤ 268435455) (w : World) (hB : Boxed w N 2 (.int .i64 m)) : Calls Tryd.prog 19 #[.pointer (some ⟨N, 0, none⟩)] w fun e w' => e = .returned (.int .u8 (lgNext m)) ∧ w.setCell ⟨N, 0, none⟩ (.int .i64 ((m / 128 : Nat) : Int)) = w' := by
  have hc := hB.cell
  have hf := hB.frozen
  have h1 := and127_64 (x := m) (by omega)
  have h2 := or128_8 (x := m % 128) (by omega)
  have h3 : IntKind.u8.wrap ((m % 128 : Nat) : Int) = ((m % 128 : Nat) : Int) := wraps_u8 _ (by omega) (by omega)
  have h4 : (m : Int) / 128 = ((m / 128 : Nat) : Int) := by omega
  by_cases h0 : 0 < m / 128
  · rw [show lgNext m = 128 + m % 128 by unfold lgNext; rw [if_pos h0]]
    have h5 : (0 : Int) < ((m / 128 : Nat) : Int) := by omega
    generalize m / 128 = q at *
    generalize m % 128 = r at *
    go_enter Tryd.func19, Tryd.ntmps19
    go_wp2
    go_ret
    exact ⟨rfl, rfl⟩
  · rw [show lgNext m = m % 128 by unfold lgNext; rw [if_neg h0]]
    have h5 : ¬ (0 : Int) < ((m / 128 : Nat) : Int) := by omega
    generalize m / 128 = q at *
    generalize m % 128 = r at *
    clear h2
    go_enter Tryd.func19, Tryd.ntmps19
    go_wp2
    go_ret
    exact ⟨rfl, rfl⟩
end Go.Proofs.YtmbjdfmbbmeofaaDoor

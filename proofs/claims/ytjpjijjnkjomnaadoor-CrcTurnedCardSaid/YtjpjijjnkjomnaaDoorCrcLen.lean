/- The contract of bits.Len64 at this translation, laid off the kit's shelf: it returns how many halvings a number bears till nothing is left. -/
import Derived.Shelf.Strconv.Itoa0
import Derived.Test.YtjpjijjnkjomnaaDoorProg
namespace Go.Proofs.YtjpjijjnkjomnaaDoor
open Go.Shelf
def lays129_ren : Go.Shelf.Ren := ⟨fun | 129 => 25 | n => n, fun | 53 => 57 | 3 => 3 | 4 => 4 | 46 => 48 | 5 => 5 | 9 => 9 | n => n, fun | n => n⟩
theorem lays129 : Go.Proofs.Lays.n129 Tryd.prog lays129_ren := {
  mixed := by kernel_rfl
  f129 := Tryd.func25.trans (congrArg some (by kernel_rfl))
  t3 := Tryd.underlying3
  a3 := Tryd.isAgg3
  z3 := Tryd.sizeOf3
  v3 := Tryd.zeroValue3
  t4 := Tryd.underlying4
  a4 := Tryd.isAgg4
  z4 := Tryd.sizeOf4
  v4 := Tryd.zeroValue4
  t5 := Tryd.underlying5
  a5 := Tryd.isAgg5
  z5 := Tryd.sizeOf5
  v5 := Tryd.zeroValue5
  t9 := Tryd.underlying9
  a9 := Tryd.isAgg9
  z9 := Tryd.sizeOf9
  v9 := Tryd.zeroValue9
  t46 := Tryd.underlying48
  a46 := Tryd.isAgg48
  z46 := Tryd.sizeOf48
  v46 := Tryd.zeroValue48
  t53 := Tryd.underlying57
  a53 := Tryd.isAgg57
  z53 := Tryd.sizeOf57
  v53 := Tryd.zeroValue57 }
theorem len64_any (n : Nat) (hn : n < 18446744073709551616) (w : World) :
    Calls Tryd.prog 25 #[.int .u64 n] w fun e w' => e = .returned (.int .i64 (Lib.bitLen n : Int)) ∧ w = w' :=
  (Go.Proofs.Any.bits_Len64 lays129 n w (by omega) (by omega)).mono fun _ _ ⟨he, hw⟩ => ⟨by simpa using he, hw.symm⟩
theorem bitLen_zero : Lib.bitLen 0 = 0 := by decide
theorem bitLen_pos {n : Nat} (h : n < 18446744073709551616) : n < 2 ^ Lib.bitLen n ∧ Lib.bitLen n ≤ 64 := by
  refine ⟨?_, Lib.bitLen_le n 64 (by omega) (by omega)⟩
  suffices ∀ k n, n < 2 ^ k → k ≤ 64 → n < 2 ^ Lib.bitLen n from this 64 n (by omega) (by omega)
  intro k
  induction k with
  | zero => intro n h _; obtain rfl : n = 0 := by simpa using h
            exact Nat.two_pow_pos _
  | succ k ih =>
    intro n h hk
    have h64 : n < 2 ^ 64 := Nat.lt_of_lt_of_le h (Nat.pow_le_pow_right (by decide) hk)
    by_cases h0 : n = 0
    · subst h0; exact Nat.two_pow_pos _
    · rw [Lib.bitLen_half n h0 h64, Nat.add_comm, Nat.pow_succ]
      have := ih (n / 2) (by rw [Nat.pow_succ] at h; omega) (by omega)
      omega
end Go.Proofs.YtjpjijjnkjomnaaDoor

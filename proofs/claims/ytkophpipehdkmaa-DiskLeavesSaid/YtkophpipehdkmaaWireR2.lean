/- Layer 3: Rest; the parts of reading: hold, cut, number. -/
import Derived.Test.YtkophpipehdkmaaWireR
namespace Go.Proofs.Ytkophpipehdkmaa
open Go.RowKit

section
variable {n₀ : Nat} {w : World} {B : Nat} {v : Value} {l : List UInt8} {i : Nat}
theorem grownBy_drew' {a w : World} {row : Option Nat} (h : a.grownBy w row) : a.grownBy w.drew row := ⟨h.os, h.tape, h.output, h.size, h.block⟩
/-- The number of some bytes, the higher ones first. -/
def numOf (l : List UInt8) : Nat := l.foldl (fun n b => n * 256 + b.toNat) 0
theorem numOf_snoc (l : List UInt8) (b : UInt8) : numOf (l ++ [b]) = numOf l * 256 + b.toNat := by simp [numOf]
theorem numOf_take {l : List UInt8} {j : Nat} (hj : j < l.length) : numOf (l.take (j + 1)) = numOf (l.take j) * 256 + (l[j]?.getD 0).toNat := by
  rw [List.take_succ_eq_append_getElem hj, numOf_snoc, List.getElem?_eq_getElem hj]
  rfl
theorem numOf_lt (l : List UInt8) : numOf l < 256 ^ l.length := by
  generalize hn : l.length = n
  induction n generalizing l with
  | zero => obtain rfl : l = [] := List.eq_nil_of_length_eq_zero hn; simp [numOf]
  | succ n ih =>
    have h1 : l = l.take n ++ [l[n]?.getD 0] := by
      rw [List.getElem?_eq_getElem (by omega)]
      simp only [Option.getD_some]
      rw [← List.take_succ_eq_append_getElem (by omega), List.take_of_length_le (by omega)]
    rw [h1, numOf_snoc]
    have h2 := ih (l.take n) (by simp; omega)
    have h3 : (l[n]?.getD 0).toNat < 256 := UInt8.toNat_lt _
    rw [Nat.pow_succ]
    omega
theorem wrapU64 (n : Int) : IntKind.u64.wrap n = n % 18446744073709551616 := by simp [IntKind.wrap, IntKind.bits, IntKind.signed]
theorem or_byte (x y : Nat) (hx : x < 72057594037927936) (hy : y < 256) : bits .or .u64 (IntKind.u64.wrap ((x : Int) * 256)) (IntKind.u64.wrap (y : Int)) = ((x * 256 + y : Nat) : Int) := by
  have e1 : IntKind.u64.wrap ((x : Int) * 256) = ((x * 256 : Nat) : Int) := by rw [wrapU64]; omega
  have e2 : IntKind.u64.wrap (y : Int) = (y : Int) := by rw [wrapU64]; omega
  rw [e1, e2, u64_or_nat _ _ (by omega) (by omega)]
  have := Nat.two_pow_add_eq_or_of_lt (i := 8) (b := y) (by omega) x
  rw [show x * 256 = 2 ^ 8 * x by omega, ← this]
end
end Go.Proofs.Ytkophpipehdkmaa

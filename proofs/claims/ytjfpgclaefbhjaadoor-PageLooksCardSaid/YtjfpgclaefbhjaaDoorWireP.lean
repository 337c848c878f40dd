/- Layer 3: what was written is what is read: numbers and texts, as plain functions. -/
import Derived.Test.YtjfpgclaefbhjaaDoorWireK
namespace Go.Proofs.YtjfpgclaefbhjaaDoor
open Go.RowKit

theorem numOf_laid (n k i : Nat) (hi : i ≤ k) : numOf (laidB n k i) = n / 2 ^ (8 * (k - i)) % 256 ^ i := by
  induction i with
  | zero => simp [laidB, numOf, Nat.mod_one]
  | succ i ih =>
    rw [laidB_succ, numOf_snoc, ih (by omega)]
    have h1 : n / 2 ^ (8 * (k - i)) = n / 2 ^ (8 * (k - 1 - i)) / 256 := by
      rw [Nat.div_div_eq_div_mul, show 8 * (k - i) = 8 * (k - 1 - i) + 8 by omega, Nat.pow_add]
    rw [h1, show k - (i + 1) = k - 1 - i by omega]
    generalize n / 2 ^ (8 * (k - 1 - i)) = m
    rw [Nat.pow_succ, Nat.mul_comm (256 ^ i) 256, Nat.mod_mul, UInt8.toNat_ofNat']
    omega
theorem numOf_whole {n k : Nat} (h : n < 256 ^ k) : numOf (laidB n k k) = n := by
  rw [numOf_laid n k k (Nat.le_refl _), Nat.sub_self, Nat.mul_zero, Nat.pow_zero, Nat.div_one, Nat.mod_eq_of_lt h]
theorem take_laid (n k : Nat) (t : List UInt8) : (laidB n k k ++ t).take k = laidB n k k := by
  have := List.take_left (l₁ := laidB n k k) (l₂ := t)
  rwa [laidB_len] at this
theorem drop_laid (n k : Nat) (t : List UInt8) : (laidB n k k ++ t).drop k = t := by
  have := List.drop_left (l₁ := laidB n k k) (l₂ := t)
  rwa [laidB_len] at this
/-- A text that was written is read; what stands behind it is left. -/
theorem rText_text (s : ByteArray) (hs : s.size ≤ 65535) (t : List UInt8) : rText (laidB s.size 2 2 ++ s.data.toList ++ t) = (s.data.toList, 0, t) := by
  have h1 : numOf ((laidB s.size 2 2 ++ (s.data.toList ++ t)).take 2) = s.size := by rw [take_laid, numOf_whole (by omega)]
  have hl : s.data.toList.length = s.size := data_len s
  unfold rText
  rw [List.append_assoc, h1, if_neg (by simp only [List.length_append, laidB_len]; omega)]
  have h2 := drop_laid s.size 2 (s.data.toList ++ t)
  rw [← List.drop_drop, h2, ← hl, List.take_left, List.drop_left]
theorem rText_short (r : List UInt8) (h : r.length < 2 ∨ r.length < 2 + numOf (r.take 2)) : rText r = ([], 130, r) := by
  unfold rText; rw [if_pos h]
theorem bytes_back (s : ByteArray) : (⟨s.data.toList.toArray⟩ : ByteArray) = s := by
  obtain ⟨⟨d⟩⟩ := s; rfl
end Go.Proofs.YtjfpgclaefbhjaaDoor

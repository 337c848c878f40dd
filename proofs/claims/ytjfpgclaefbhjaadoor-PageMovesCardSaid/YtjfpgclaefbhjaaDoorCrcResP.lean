/- Bytes with their own sum behind them have one sum, as plain functions. -/
import Derived.Test.YtjfpgclaefbhjaaDoorCrcLin
namespace Go.Proofs.YtjfpgclaefbhjaaDoor

theorem step_v (s v : Nat) : crcStep s (v % 256) = crcZ (s ^^^ v) ^^^ (v / 256) := by
  unfold crcZ crcStep
  rw [Nat.xor_zero, show (256 : Nat) = 2 ^ 8 from rfl, Nat.xor_mod_two_pow, Nat.xor_div_two_pow, Nat.xor_assoc, Nat.xor_assoc, Nat.xor_self, Nat.xor_zero]
/-- The four bytes of a number, the lowest first. -/
def le4 (v : Nat) : List UInt8 := [UInt8.ofNat v, UInt8.ofNat (v / 256), UInt8.ofNat (v / 65536), UInt8.ofNat (v / 16777216)]
theorem run_le4 (s v : Nat) (hv : v < 4294967296) : crcRun s (le4 v) = crcZs 4 (s ^^^ v) := by
  have e0 : (UInt8.ofNat v).toNat = v % 256 := UInt8.toNat_ofNat'
  have e1 : (UInt8.ofNat (v / 256)).toNat = v / 256 % 256 := UInt8.toNat_ofNat'
  have e2 : (UInt8.ofNat (v / 65536)).toNat = v / 256 / 256 % 256 := by rw [UInt8.toNat_ofNat', Nat.div_div_eq_div_mul]
  have e3 : (UInt8.ofNat (v / 16777216)).toNat = v / 256 / 256 / 256 % 256 := by rw [UInt8.toNat_ofNat', Nat.div_div_eq_div_mul, Nat.div_div_eq_div_mul]
  have e4 : v / 256 / 256 / 256 / 256 = 0 := by omega
  have hx : ∀ a b : Nat, (a ^^^ b) ^^^ b = a := fun a b => by rw [Nat.xor_assoc, Nat.xor_self, Nat.xor_zero]
  show crcStep (crcStep (crcStep (crcStep s _) _) _) _ = _
  rw [e0, e1, e2, e3, step_v s v, step_v _ (v / 256), hx, step_v _ (v / 256 / 256), hx, step_v _ (v / 256 / 256 / 256), hx, e4, Nat.xor_zero]
  rfl
theorem residue (l : List UInt8) : crcSum (l ++ le4 (crcSum l)) = 558161692 := by
  have hr := crcRun_lt (s := 4294967295) (by decide) l
  have hx : ∀ r : Nat, r ^^^ (4294967295 ^^^ r) = 4294967295 := fun r => by rw [Nat.xor_comm 4294967295, ← Nat.xor_assoc, Nat.xor_self, Nat.zero_xor]
  rw [crcSum_eq, crcRun_append, run_le4 _ _ (crcSum_lt l), crcSum_eq, hx]
  decide +kernel
end Go.Proofs.YtjfpgclaefbhjaaDoor

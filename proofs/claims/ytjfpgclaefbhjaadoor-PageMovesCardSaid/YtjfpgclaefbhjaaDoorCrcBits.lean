/- One to three turned bits, as plain functions: the sum is another one. -/
import Derived.Test.YtjfpgclaefbhjaaDoorCrcFlip
import Derived.Test.YtjfpgclaefbhjaaDoorCrcXor
namespace Go.Proofs.YtjfpgclaefbhjaaDoor

/-- The bytes with one bit turned, where there is such a bit. -/
def flipB (l : List UInt8) (z : Int) : List UInt8 := if 0 ≤ z ∧ z < 8 * (l.length : Int) then xor2 l (unit l.length z.toNat) else l
theorem flipB_length (l : List UInt8) (z : Int) : (flipB l z).length = l.length := by
  unfold flipB; split
  · simp [xor2, unit_length]
  · rfl
/-- What it does to the sum. -/
def flipS (n : Nat) (z : Int) : Nat := if 0 ≤ z ∧ z < 8 * (n : Int) then H (8 * n - z.toNat) else 0
theorem flipB_run (l : List UInt8) (z : Int) (s : Nat) : crcRun s (flipB l z) = crcRun s l ^^^ flipS l.length z := by
  unfold flipB flipS
  split
  · rename_i h
    have h1 := crcRun_xor l (unit l.length z.toNat) s 0 (by rw [unit_length])
    rw [Nat.xor_zero] at h1
    rw [h1, unit_run _ _ (by omega)]
  · rw [Nat.xor_zero]
theorem xor2_twice (l u : List UInt8) (h : l.length = u.length) : xor2 (xor2 l u) u = l := by
  apply List.ext_getElem
  · simp [xor2]; omega
  · intro i h1 h2
    simp [xor2, UInt8.xor_assoc]
theorem flips_zero (l : List UInt8) (z0 z1 z2 : Int) (hl : l.length ≤ 1000) (h : flipS l.length z0 ^^^ flipS l.length z1 ^^^ flipS l.length z2 = 0) : flipB (flipB (flipB l z0) z1) z2 = l := by
  have hv : ∀ z : Int, 0 ≤ z ∧ z < 8 * (l.length : Int) → 1 ≤ 8 * l.length - z.toNat ∧ 8 * l.length - z.toNat ≤ 8000 := fun z hz => by omega
  have hinj : ∀ y z : Int, 0 ≤ y ∧ y < 8 * (l.length : Int) → 0 ≤ z ∧ z < 8 * (l.length : Int) → 8 * l.length - y.toNat = 8 * l.length - z.toNat → y = z := fun y z hy hz e => by omega
  have hx : ∀ (m : List UInt8) (z : Int), flipB (flipB m z) z = m := fun m z => by
    unfold flipB
    by_cases hz : 0 ≤ z ∧ z < 8 * (m.length : Int)
    · rw [if_pos hz]
      have e : (xor2 m (unit m.length z.toNat)).length = m.length := by simp [xor2, unit_length]
      rw [e, if_pos hz]
      exact xor2_twice _ _ (by rw [unit_length])
    · rw [if_neg hz, if_neg hz]
  have hno : ∀ (m : List UInt8) (z : Int), m.length = l.length → ¬ (0 ≤ z ∧ z < 8 * (l.length : Int)) → flipB m z = m := fun m z hm hz => by
    unfold flipB; rw [hm, if_neg hz]
  have hl1 := flipB_length l z0
  have hl2 : (flipB (flipB l z0) z1).length = l.length := by rw [flipB_length, flipB_length]
  by_cases h0 : 0 ≤ z0 ∧ z0 < 8 * (l.length : Int)
  · rw [show flipS l.length z0 = H (8 * l.length - z0.toNat) from if_pos h0] at h
    by_cases h1 : 0 ≤ z1 ∧ z1 < 8 * (l.length : Int)
    · rw [show flipS l.length z1 = H (8 * l.length - z1.toNat) from if_pos h1] at h
      by_cases h2 : 0 ≤ z2 ∧ z2 < 8 * (l.length : Int)
      · rw [show flipS l.length z2 = H (8 * l.length - z2.toNat) from if_pos h2] at h
        exact absurd h (three_ne (hv _ h0).1 (hv _ h1).1 (hv _ h2).1 (hv _ h0).2 (hv _ h1).2 (hv _ h2).2)
      · rw [show flipS l.length z2 = 0 from if_neg h2, Nat.xor_zero] at h
        have e := hinj _ _ h0 h1 (two_ne (hv _ h0).1 (hv _ h1).1 (hv _ h0).2 (hv _ h1).2 h)
        subst e
        rw [hno _ _ hl2 h2, hx]
    · rw [show flipS l.length z1 = 0 from if_neg h1, Nat.xor_zero] at h
      rw [hno _ _ hl1 h1]
      by_cases h2 : 0 ≤ z2 ∧ z2 < 8 * (l.length : Int)
      · rw [show flipS l.length z2 = H (8 * l.length - z2.toNat) from if_pos h2] at h
        have e := hinj _ _ h0 h2 (two_ne (hv _ h0).1 (hv _ h2).1 (hv _ h0).2 (hv _ h2).2 h)
        subst e
        rw [hx]
      · rw [show flipS l.length z2 = 0 from if_neg h2, Nat.xor_zero] at h
        exact absurd h (H_ne _)
  · rw [show flipS l.length z0 = 0 from if_neg h0, Nat.zero_xor] at h
    rw [hno _ _ rfl h0]
    by_cases h1 : 0 ≤ z1 ∧ z1 < 8 * (l.length : Int)
    · rw [show flipS l.length z1 = H (8 * l.length - z1.toNat) from if_pos h1] at h
      by_cases h2 : 0 ≤ z2 ∧ z2 < 8 * (l.length : Int)
      · rw [show flipS l.length z2 = H (8 * l.length - z2.toNat) from if_pos h2] at h
        have e := hinj _ _ h1 h2 (two_ne (hv _ h1).1 (hv _ h2).1 (hv _ h1).2 (hv _ h2).2 h)
        subst e
        rw [hx]
      · rw [show flipS l.length z2 = 0 from if_neg h2, Nat.xor_zero] at h
        exact absurd h (H_ne _)
    · rw [show flipS l.length z1 = 0 from if_neg h1, Nat.zero_xor] at h
      rw [hno _ _ rfl h1]
      by_cases h2 : 0 ≤ z2 ∧ z2 < 8 * (l.length : Int)
      · rw [show flipS l.length z2 = H (8 * l.length - z2.toNat) from if_pos h2] at h
        exact absurd h (H_ne _)
      · exact hno _ _ rfl h2
theorem turned_iff (l : List UInt8) (z0 z1 z2 : Int) (hl : l.length ≤ 1000) (h : crcSum l = crcSum (flipB (flipB (flipB l z0) z1) z2)) : flipB (flipB (flipB l z0) z1) z2 = l := by
  refine flips_zero l z0 z1 z2 hl ?_
  rw [crcSum_eq, crcSum_eq, flipB_run, flipB_run, flipB_run, flipB_length, flipB_length, flipB_length] at h
  generalize crcRun 4294967295 l = r at h
  generalize flipS l.length z0 = a at h ⊢
  generalize flipS l.length z1 = b at h ⊢
  generalize flipS l.length z2 = c at h ⊢
  have h1 : r = r ^^^ a ^^^ b ^^^ c := by
    have := congrArg (4294967295 ^^^ ·) h
    simpa [← Nat.xor_assoc] using this
  have h2 : r ^^^ r = r ^^^ (r ^^^ a ^^^ b ^^^ c) := congrArg (r ^^^ ·) h1
  rw [Nat.xor_self, Nat.xor_assoc, Nat.xor_assoc, ← Nat.xor_assoc r r, Nat.xor_self, Nat.zero_xor, ← Nat.xor_assoc] at h2
  exact h2.symm

end Go.Proofs.YtjfpgclaefbhjaaDoor

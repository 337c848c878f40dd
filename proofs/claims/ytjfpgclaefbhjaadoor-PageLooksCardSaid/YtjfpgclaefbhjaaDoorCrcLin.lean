/- Plain numbers for layer 1: sums are linear; what bytes of 0 make of a sum; runs that are joined. Nothing of the program. -/
import Derived.Test.YtjfpgclaefbhjaaDoorCrcMath
namespace Go.Proofs.YtjfpgclaefbhjaaDoor

/-- A function on numbers of 32 bits that keeps xor. -/
structure Lin (f : Nat → Nat) : Prop where
  lt : ∀ a, a < 4294967296 → f a < 4294967296
  xor : ∀ a b, a < 4294967296 → b < 4294967296 → f (a ^^^ b) = f a ^^^ f b
theorem Lin.zero {f : Nat → Nat} (h : Lin f) : f 0 = 0 := by
  have := h.xor 0 0 (by decide) (by decide)
  simpa using this
theorem Lin.comp {f g : Nat → Nat} (hf : Lin f) (hg : Lin g) : Lin (fun s => f (g s)) :=
  ⟨fun a ha => hf.lt _ (hg.lt a ha), fun a b ha hb => by rw [hg.xor a b ha hb, hf.xor _ _ (hg.lt a ha) (hg.lt b hb)]⟩
theorem Lin.id : Lin (fun s => s) := ⟨fun _ h => h, fun _ _ _ _ => rfl⟩

theorem crcT_xor (a b : Nat) (ha : a < 16) (hb : b < 16) : crcT (a ^^^ b) = crcT a ^^^ crcT b := by
  have : ∀ x y : Fin 16, crcT (x.1 ^^^ y.1) = crcT x.1 ^^^ crcT y.1 := by decide +kernel
  exact this ⟨a, ha⟩ ⟨b, hb⟩
theorem xor_xchg (a b c d : Nat) : (a ^^^ b) ^^^ (c ^^^ d) = (a ^^^ c) ^^^ (b ^^^ d) := by
  rw [Nat.xor_assoc, Nat.xor_assoc, ← Nat.xor_assoc b c d, Nat.xor_comm b c, Nat.xor_assoc c b d]
theorem crcHalf_xor (a b : Nat) : crcHalf (a ^^^ b) = crcHalf a ^^^ crcHalf b := by
  unfold crcHalf
  rw [show (16 : Nat) = 2 ^ 4 from rfl, Nat.xor_mod_two_pow, Nat.xor_div_two_pow, crcT_xor _ _ (Nat.mod_lt _ (by decide)) (Nat.mod_lt _ (by decide)), xor_xchg]
theorem crcWord_xor (a b : Nat) : crcWord (a ^^^ b) = crcWord a ^^^ crcWord b := by
  unfold crcWord; rw [crcHalf_xor, crcHalf_xor]
/-- One step: linear in the sum and the byte together. -/
theorem crcStep_xor (s t a b : Nat) : crcStep (s ^^^ t) (a ^^^ b) = crcStep s a ^^^ crcStep t b := by
  unfold crcStep
  rw [show (256 : Nat) = 2 ^ 8 from rfl, Nat.xor_mod_two_pow, Nat.xor_div_two_pow, xor_xchg, crcWord_xor, xor_xchg]
theorem crcStep_zero (s b : Nat) : crcStep s b = crcStep s 0 ^^^ crcStep 0 b := by
  have := crcStep_xor s 0 0 b
  simpa using this

/-- What one byte of 0 makes of a sum. -/
def crcZ (s : Nat) : Nat := crcStep s 0
theorem crcZ_lin : Lin crcZ := ⟨fun _ h => crcStep_lt h (by decide), fun a b _ _ => by
  have := crcStep_xor a b 0 0
  simpa [crcZ] using this⟩
/-- What n bytes of 0 make of a sum. -/
def crcZs : Nat → Nat → Nat
  | 0, s => s
  | n + 1, s => crcZs n (crcZ s)
theorem crcZs_lin : ∀ n, Lin (crcZs n)
  | 0 => Lin.id
  | n + 1 => (crcZs_lin n).comp crcZ_lin
theorem crcZs_add : ∀ m n s, crcZs (m + n) s = crcZs n (crcZs m s)
  | 0, n, s => by simp [crcZs]
  | m + 1, n, s => by rw [show m + 1 + n = (m + n) + 1 by omega]; exact crcZs_add m n (crcZ s)

/-- A lead's numbers, put together by the bits of s. -/
def leadOf (f : Nat → Nat) (s : Nat) : Nat → Nat
  | 0 => 0
  | k + 1 => if s / 2 ^ k % 2 = 1 then leadOf f s k ^^^ f (2 ^ k) else leadOf f s k
theorem pow32 {k : Nat} (h : k < 32) : 2 ^ k < 4294967296 := Nat.pow_lt_pow_right (a := 2) (by decide) h
theorem split_bit {s k : Nat} (h : s / 2 ^ k % 2 = 1) : s % 2 ^ (k + 1) = s % 2 ^ k ^^^ 2 ^ k := by
  apply Nat.eq_of_testBit_eq
  intro i
  rw [Nat.testBit_xor, Nat.testBit_mod_two_pow, Nat.testBit_mod_two_pow, Nat.testBit_two_pow]
  have hk : s.testBit k = true := by rw [Nat.testBit_eq_decide_div_mod_eq]; simp [h]
  by_cases h1 : i < k
  · simp [h1, show i < k + 1 by omega, show ¬ k = i by omega]
  · by_cases h2 : i = k
    · subst h2; simp [hk]
    · simp [show ¬ i < k + 1 by omega, h1, show ¬ k = i by omega]
theorem split_nobit {s k : Nat} (h : ¬ s / 2 ^ k % 2 = 1) : s % 2 ^ (k + 1) = s % 2 ^ k := by
  apply Nat.eq_of_testBit_eq
  intro i
  rw [Nat.testBit_mod_two_pow, Nat.testBit_mod_two_pow]
  have hk : s.testBit k = false := by rw [Nat.testBit_eq_decide_div_mod_eq]; simp [h]
  by_cases h1 : i < k
  · simp [h1, show i < k + 1 by omega]
  · by_cases h2 : i = k
    · subst h2; simp [hk]
    · simp [show ¬ i < k + 1 by omega, h1]
theorem leadOf_eq {f : Nat → Nat} (hf : Lin f) (s : Nat) (hs : s < 4294967296) : ∀ k, k ≤ 32 → leadOf f s k = f (s % 2 ^ k)
  | 0, _ => by simp [leadOf, Nat.mod_one, hf.zero]
  | k + 1, hk => by
    have ih := leadOf_eq hf s hs k (by omega)
    unfold leadOf
    have hm : s % 2 ^ k < 4294967296 := Nat.lt_of_le_of_lt (Nat.mod_le _ _) hs
    split
    · rename_i h
      rw [split_bit h, hf.xor _ _ hm (pow32 (by omega)), ih]
    · rename_i h
      rw [split_nobit h, ih]
theorem leadOf_all {f : Nat → Nat} (hf : Lin f) {s : Nat} (hs : s < 4294967296) : leadOf f s 32 = f s := by
  rw [leadOf_eq hf s hs 32 (by omega), Nat.mod_eq_of_lt hs]
theorem leadOf_lt {f : Nat → Nat} (hf : Lin f) {s : Nat} (hs : s < 4294967296) {k : Nat} (hk : k ≤ 32) : leadOf f s k < 4294967296 := by
  rw [leadOf_eq hf s hs k hk]; exact hf.lt _ (Nat.lt_of_le_of_lt (Nat.mod_le _ _) hs)

/- RUNS THAT ARE JOINED. -/
theorem crcRun_split : ∀ (l : List UInt8) (s : Nat), s < 4294967296 → crcRun s l = crcZs l.length s ^^^ crcRun 0 l
  | [], s, _ => by simp [crcRun, crcZs]
  | b :: l, s, hs => by
    have hb := UInt8.toNat_lt b
    have e : crcRun s (b :: l) = crcRun (crcStep s b.toNat) l := rfl
    have e0 : crcRun 0 (b :: l) = crcRun (crcStep 0 b.toNat) l := rfl
    have h0 : crcStep 0 b.toNat < 4294967296 := crcStep_lt (by decide) hb
    rw [e, e0, crcRun_split l _ (crcStep_lt hs hb), crcRun_split l (crcStep 0 b.toNat) h0, crcStep_zero s, (crcZs_lin l.length).xor _ _ (crcStep_lt hs (by decide)) h0, Nat.xor_assoc]
    rfl
theorem crcSum_eq (l : List UInt8) : crcSum l = 4294967295 ^^^ crcRun 4294967295 l := (not_nat (crcRun_lt (by decide) l)).symm
theorem crcSum_lt (l : List UInt8) : crcSum l < 4294967296 := by unfold crcSum; omega
theorem crcSum_append (x y : List UInt8) : crcSum (x ++ y) = crcZs y.length (crcSum x) ^^^ crcSum y := by
  have hx := crcRun_lt (s := 4294967295) (by decide) x
  rw [crcSum_eq, crcSum_eq, crcSum_eq, crcRun_append, crcRun_split y _ hx, crcRun_split y 4294967295 (by decide), (crcZs_lin y.length).xor _ _ (by decide) hx]
  generalize crcZs y.length (crcRun 4294967295 x) = a
  generalize crcZs y.length 4294967295 = b
  generalize crcRun 0 y = c
  rw [← Nat.xor_assoc 4294967295 a c, ← Nat.xor_assoc 4294967295 b c, Nat.xor_comm 4294967295 a, Nat.xor_comm 4294967295 b, Nat.xor_comm b a, Nat.xor_assoc b 4294967295 c, Nat.xor_assoc a b, ← Nat.xor_assoc b b, Nat.xor_self, Nat.zero_xor, Nat.xor_assoc]
end Go.Proofs.YtjfpgclaefbhjaaDoor

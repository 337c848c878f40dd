/- Plain numbers for layer 1: bytes of which up to three bits are turned have another sum, if they are at most 1000 bytes and are not the same bytes again. -/
import Derived.Test.YtjfpgclaefbhjaaDoorCrcDist
namespace Go.Proofs.YtjfpgclaefbhjaaDoor

def H (m : Nat) : Nat := halves m 1
theorem H_lt (m : Nat) : H m < 4294967296 := (halves_lin m).lt 1 (by decide)
theorem H_ne (m : Nat) : H m ≠ 0 := fun h => by
  have := halves_zero m (by decide : 1 < 4294967296) h
  cases this
theorem H_add (m a : Nat) : H (m + a) = halves m (H a) := by rw [Nat.add_comm]; exact halves_add a m 1

theorem far {a : Nat} (h1 : 1 ≤ a) (h2 : a ≤ 7999) : 1 ^^^ H a ≠ 0 ∧ ∀ b, b < 8000 → 1 ^^^ H a ≠ H b := by
  have h := searched_true
  unfold searched at h
  rw [force_eq, force_eq, force_eq] at h
  obtain ⟨h3, h4⟩ := search_ok _ _ _ 7999 (halve 1) h (a - 1) (by omega)
  have e : halves (a - 1) (halve 1) = H a := by
    show halves (a - 1 + 1) 1 = _
    rw [show a - 1 + 1 = a by omega]; rfl
  rw [e] at h3 h4
  refine ⟨h3, fun b hb he => ?_⟩
  rw [he] at h4
  have t1 := (remTable_has 262139 8000 1 0).2 b hb
  have t2 := (remTable_has 262133 8000 1 0).2 b hb
  have t3 := (remTable_has 262127 8000 1 0).2 b hb
  unfold H at h4
  rcases h4 with h4 | h4 | h4
  · rw [h4] at t1; cases t1
  · rw [h4] at t2; cases t2
  · rw [h4] at t3; cases t3
theorem xor_zero_eq {a b : Nat} (h : a ^^^ b = 0) : a = b := by
  have := congrArg (· ^^^ b) h
  simpa [Nat.xor_assoc] using this
theorem two_lt {m n : Nat} (h1 : 1 ≤ m) (h2 : m < n) (h3 : n ≤ 8000) : H m ^^^ H n ≠ 0 := fun h => by
  have e : H m ^^^ H n = halves m (1 ^^^ H (n - m)) := by
    rw [(halves_lin m).xor _ _ (by decide) (H_lt _), ← H_add, show m + (n - m) = n by omega]; rfl
  rw [e] at h
  exact (far (a := n - m) (by omega) (by omega)).1 (halves_zero m (xor_lt32 (by decide) (H_lt _)) h)
theorem two_ne {m n : Nat} (h1 : 1 ≤ m) (h2 : 1 ≤ n) (h3 : m ≤ 8000) (h4 : n ≤ 8000) (h : H m ^^^ H n = 0) : m = n := by
  rcases Nat.lt_trichotomy m n with hl | he | hg
  · exact absurd h (two_lt h1 hl h4)
  · exact he
  · rw [Nat.xor_comm] at h; exact absurd h (two_lt h2 hg h3)
theorem three_lt {m n r : Nat} (h1 : 1 ≤ m) (h2 : m < n) (h3 : n < r) (h4 : r ≤ 8000) : H m ^^^ H n ^^^ H r ≠ 0 := fun h => by
  have e : H m ^^^ H n ^^^ H r = halves m (1 ^^^ H (n - m) ^^^ H (r - m)) := by
    rw [(halves_lin m).xor _ _ (xor_lt32 (by decide) (H_lt _)) (H_lt _), (halves_lin m).xor _ _ (by decide) (H_lt _), ← H_add, ← H_add, show m + (n - m) = n by omega, show m + (r - m) = r by omega]; rfl
  rw [e] at h
  have h5 := halves_zero m (xor_lt32 (xor_lt32 (by decide) (H_lt _)) (H_lt _)) h
  exact (far (a := n - m) (by omega) (by omega)).2 (r - m) (by omega) (xor_zero_eq h5)
theorem three_ne {m n r : Nat} (h1 : 1 ≤ m) (h2 : 1 ≤ n) (h3 : 1 ≤ r) (h4 : m ≤ 8000) (h5 : n ≤ 8000) (h6 : r ≤ 8000) : H m ^^^ H n ^^^ H r ≠ 0 := by
  have same : ∀ a b, H a ^^^ H a ^^^ H b ≠ 0 := fun a b h => H_ne b (by simpa using h)
  rcases Nat.lt_trichotomy m n with a | rfl | a
  · rcases Nat.lt_trichotomy n r with b | rfl | b
    · exact three_lt h1 a b h6
    · rw [Nat.xor_assoc, Nat.xor_comm]; exact same n m
    · rcases Nat.lt_trichotomy m r with c | rfl | c
      · rw [Nat.xor_assoc, Nat.xor_comm (H n), ← Nat.xor_assoc]; exact three_lt h1 c b h5
      · rw [Nat.xor_assoc, Nat.xor_comm (H n), ← Nat.xor_assoc]; exact same m n
      · rw [Nat.xor_comm, ← Nat.xor_assoc]; exact three_lt h3 c a h5
  · exact same m r
  · rcases Nat.lt_trichotomy m r with b | rfl | b
    · rw [Nat.xor_comm (H m)]; exact three_lt h2 a b h6
    · rw [Nat.xor_comm (H m), Nat.xor_assoc, Nat.xor_comm]; exact same m n
    · rcases Nat.lt_trichotomy n r with c | rfl | c
      · rw [Nat.xor_assoc, Nat.xor_comm]; exact three_lt h2 c b h4
      · rw [Nat.xor_assoc, Nat.xor_comm]; exact same n m
      · rw [Nat.xor_comm, Nat.xor_comm (H m), ← Nat.xor_assoc]; exact three_lt h3 c a h4

/- WHAT ONE TURNED BIT DOES. -/
theorem word_halves (x : Nat) (hx : x < 256) : halves 8 x = crcWord x := by
  have : ∀ y : Fin 256, halves 8 y.1 = crcWord y.1 := by decide +kernel
  exact this ⟨x, hx⟩
theorem halve_even (t : Nat) : halve (2 * t) = t := by
  unfold halve
  rw [show 2 * t % 2 = 0 by omega, show 2 * t / 2 = t by omega]; rfl
theorem halves_high (t : Nat) : halves 8 (256 * t) = t := by
  show halve (halve (halve (halve (halve (halve (halve (halve (256 * t)))))))) = t
  rw [show 256 * t = 2 * (2 * (2 * (2 * (2 * (2 * (2 * (2 * t))))))) by omega]
  simp only [halve_even]
theorem split256 (s : Nat) : s % 256 ^^^ 256 * (s / 256) = s := by
  apply Nat.eq_of_testBit_eq
  intro i
  rw [Nat.testBit_xor, show (256 : Nat) = 2 ^ 8 from rfl, Nat.testBit_mod_two_pow, Nat.testBit_two_pow_mul, Nat.testBit_div_two_pow]
  by_cases h : i < 8
  · simp [h, show ¬ 8 ≤ i by omega]
  · simp [h, show 8 ≤ i by omega, show i - 8 + 8 = i by omega]
theorem z_halves {s : Nat} (hs : s < 4294967296) : crcZ s = halves 8 s := by
  have h1 : s % 256 < 4294967296 := by omega
  have h2 : 256 * (s / 256) < 4294967296 := by omega
  have e : halves 8 s = halves 8 (s % 256) ^^^ halves 8 (256 * (s / 256)) := by
    rw [← (halves_lin 8).xor _ _ h1 h2, split256]
  rw [e, halves_high, word_halves _ (by omega)]
  unfold crcZ crcStep
  rw [Nat.xor_zero]
theorem zs_halves : ∀ (L : Nat) {s : Nat}, s < 4294967296 → crcZs L s = halves (8 * L) s
  | 0, _, _ => rfl
  | L + 1, s, hs => by
    show crcZs L (crcZ s) = _
    rw [zs_halves L (crcZ_lin.lt s hs), z_halves hs, show 8 * (L + 1) = 8 + 8 * L by omega, halves_add]
theorem run_zeros (L : Nat) (s : Nat) : crcRun s (List.replicate L 0) = crcZs L s := by
  induction L generalizing s with
  | zero => rfl
  | succ L ih => rw [List.replicate_succ]; exact ih (crcZ s)
/-- L bytes of which just bit i is set. -/
def unit : Nat → Nat → List UInt8
  | 0, _ => []
  | L + 1, i => if i < 8 then UInt8.ofNat (2 ^ i) :: List.replicate L 0 else 0 :: unit L (i - 8)
theorem unit_length : ∀ L i, (unit L i).length = L
  | 0, _ => rfl
  | L + 1, i => by
    unfold unit
    split
    · simp
    · simp [unit_length L]
theorem unit_run : ∀ L i, i < 8 * L → crcRun 0 (unit L i) = H (8 * L - i)
  | 0, i, h => by omega
  | L + 1, i, h => by
    unfold unit
    split
    · rename_i h8
      have e : crcRun 0 (UInt8.ofNat (2 ^ i) :: List.replicate L 0) = crcRun (crcStep 0 (UInt8.ofNat (2 ^ i)).toNat) (List.replicate L 0) := rfl
      have hb : crcStep 0 (UInt8.ofNat (2 ^ i)).toNat = H (8 - i) := by
        have : ∀ j : Fin 8, crcStep 0 (UInt8.ofNat (2 ^ j.1)).toNat = H (8 - j.1) := by decide +kernel
        exact this ⟨i, h8⟩
      rw [e, hb, run_zeros, zs_halves L (H_lt _), ← H_add, show 8 * L + (8 - i) = 8 * (L + 1) - i by omega]
    · rename_i h8
      have e : crcRun 0 (0 :: unit L (i - 8)) = crcRun (crcStep 0 0) (unit L (i - 8)) := rfl
      rw [e, show crcStep 0 0 = 0 by decide, unit_run L (i - 8) (by omega), show 8 * L - (i - 8) = 8 * (L + 1) - i by omega]
theorem unit_get : ∀ L i j, j < L → (unit L i)[j]?.getD 0 = if j = i / 8 then UInt8.ofNat (2 ^ (i % 8)) else 0
  | 0, _, _, h => by omega
  | L + 1, i, j, h => by
    unfold unit
    split
    · rename_i h8
      cases j with
      | zero => simp [show i / 8 = 0 by omega, show i % 8 = i by omega]
      | succ j => simp [show i / 8 = 0 by omega, show j < L by omega]
    · rename_i h8
      cases j with
      | zero => simp; omega
      | succ j =>
        simp only [List.getElem?_cons_succ]
        rw [unit_get L (i - 8) j (by omega), show (i - 8) % 8 = i % 8 by omega]
        by_cases e : j + 1 = i / 8
        · rw [if_pos (by omega), if_pos e]
        · rw [if_neg (by omega), if_neg e]
end Go.Proofs.YtjfpgclaefbhjaaDoor

/- Texts of the proof in one file, in build order: CrcFlip, CrcXor, CrcBits, CrcResP, CrcTo, PageTP, Open3, MetaTorn, MetaTornCard. -/
import Derived.Test.YtaijjlaheoamaaaDoorF1
import Derived.Test.YtaijjlaheoamaaaDoorG3
import Derived.WalkKit
import Derived.Test.YtaijjlaheoamaaaDoorG1
import Derived.Test.YtaijjlaheoamaaaDoorG5
import Derived.OpenShut
import Derived.ChangeArms
import Derived.WideShapes
import Derived.Test.YtaijjlaheoamaaaDoorR0
import Derived.Test.YtaijjlaheoamaaaDoorG6
/- Plain numbers for layer 1: bytes of which up to three bits are turned have another sum, if they are at most 1000 bytes and are not the same bytes again. -/
namespace Go.Proofs.YtaijjlaheoamaaaDoor

def H (m : Nat) : Nat := halves m 1
theorem H_lt (m : Nat) : H m < 4294967296 := (halves_lin m).lt 1 (by decide)
theorem H_ne (m : Nat) : H m ≠ 0 := fun h => by
  have := halves_zero m (by decide : 1 < 4294967296) h
  cases this
theorem H_add (m a : Nat) : H (m + a) = halves m (H a) := by rw [Nat.add_comm]; exact halves_add a m 1

theorem far {a : Nat} (h1 : 1 ≤ a) (h2 : a ≤ 7999) : 1 ^^^ H a ≠ 0 ∧ ∀ b, b < 8000 → 1 ^^^ H a ≠ H b := by
  have h := searched_true
  unfold searched at h
  rw [force_eq, force_eq, force_eq] at h
  obtain ⟨h3, h4⟩ := search_ok _ _ _ 7999 (halve 1) h (a - 1) (by omega)
  have e : halves (a - 1) (halve 1) = H a := by
    show halves (a - 1 + 1) 1 = _
    rw [show a - 1 + 1 = a by omega]; rfl
  rw [e] at h3 h4
  refine ⟨h3, fun b hb he => ?_⟩
  rw [he] at h4
  have t1 := (remTable_has 262139 8000 1 0).2 b hb
  have t2 := (remTable_has 262133 8000 1 0).2 b hb
  have t3 := (remTable_has 262127 8000 1 0).2 b hb
  unfold H at h4
  rcases h4 with h4 | h4 | h4
  · rw [h4] at t1; cases t1
  · rw [h4] at t2; cases t2
  · rw [h4] at t3; cases t3
theorem xor_zero_eq {a b : Nat} (h : a ^^^ b = 0) : a = b := by
  have := congrArg (· ^^^ b) h
  simpa [Nat.xor_assoc] using this
theorem two_lt {m n : Nat} (h1 : 1 ≤ m) (h2 : m < n) (h3 : n ≤ 8000) : H m ^^^ H n ≠ 0 := fun h => by
  have e : H m ^^^ H n = halves m (1 ^^^ H (n - m)) := by
    rw [(halves_lin m).xor _ _ (by decide) (H_lt _), ← H_add, show m + (n - m) = n by omega]; rfl
  rw [e] at h
  exact (far (a := n - m) (by omega) (by omega)).1 (halves_zero m (xor_lt32 (by decide) (H_lt _)) h)
theorem two_ne {m n : Nat} (h1 : 1 ≤ m) (h2 : 1 ≤ n) (h3 : m ≤ 8000) (h4 : n ≤ 8000) (h : H m ^^^ H n = 0) : m = n := by
  rcases Nat.lt_trichotomy m n with hl | he | hg
  · exact absurd h (two_lt h1 hl h4)
  · exact he
  · rw [Nat.xor_comm] at h; exact absurd h (two_lt h2 hg h3)
theorem three_lt {m n r : Nat} (h1 : 1 ≤ m) (h2 : m < n) (h3 : n < r) (h4 : r ≤ 8000) : H m ^^^ H n ^^^ H r ≠ 0 := fun h => by
  have e : H m ^^^ H n ^^^ H r = halves m (1 ^^^ H (n - m) ^^^ H (r - m)) := by
    rw [(halves_lin m).xor _ _ (xor_lt32 (by decide) (H_lt _)) (H_lt _), (halves_lin m).xor _ _ (by decide) (H_lt _), ← H_add, ← H_add, show m + (n - m) = n by omega, show m + (r - m) = r by omega]; rfl
  rw [e] at h
  have h5 := halves_zero m (xor_lt32 (xor_lt32 (by decide) (H_lt _)) (H_lt _)) h
  exact (far (a := n - m) (by omega) (by omega)).2 (r - m) (by omega) (xor_zero_eq h5)
theorem three_ne {m n r : Nat} (h1 : 1 ≤ m) (h2 : 1 ≤ n) (h3 : 1 ≤ r) (h4 : m ≤ 8000) (h5 : n ≤ 8000) (h6 : r ≤ 8000) : H m ^^^ H n ^^^ H r ≠ 0 := by
  have same : ∀ a b, H a ^^^ H a ^^^ H b ≠ 0 := fun a b h => H_ne b (by simpa using h)
  rcases Nat.lt_trichotomy m n with a | rfl | a
  · rcases Nat.lt_trichotomy n r with b | rfl | b
    · exact three_lt h1 a b h6
    · rw [Nat.xor_assoc, Nat.xor_comm]; exact same n m
    · rcases Nat.lt_trichotomy m r with c | rfl | c
      · rw [Nat.xor_assoc, Nat.xor_comm (H n), ← Nat.xor_assoc]; exact three_lt h1 c b h5
      · rw [Nat.xor_assoc, Nat.xor_comm (H n), ← Nat.xor_assoc]; exact same m n
      · rw [Nat.xor_comm, ← Nat.xor_assoc]; exact three_lt h3 c a h5
  · exact same m r
  · rcases Nat.lt_trichotomy m r with b | rfl | b
    · rw [Nat.xor_comm (H m)]; exact three_lt h2 a b h6
    · rw [Nat.xor_comm (H m), Nat.xor_assoc, Nat.xor_comm]; exact same m n
    · rcases Nat.lt_trichotomy n r with c | rfl | c
      · rw [Nat.xor_assoc, Nat.xor_comm]; exact three_lt h2 c b h4
      · rw [Nat.xor_assoc, Nat.xor_comm]; exact same n m
      · rw [Nat.xor_comm, Nat.xor_comm (H m), ← Nat.xor_assoc]; exact three_lt h3 c a h4

/- WHAT ONE TURNED BIT DOES. -/
theorem word_halves (x : Nat) (hx : x < 256) : halves 8 x = crcWord x := by
  have : ∀ y : Fin 256, halves 8 y.1 = crcWord y.1 := by decide +kernel
  exact this ⟨x, hx⟩
theorem halve_even (t : Nat) : halve (2 * t) = t := by
  unfold halve
  rw [show 2 * t % 2 = 0 by omega, show 2 * t / 2 = t by omega]; rfl
theorem halves_high (t : Nat) : halves 8 (256 * t) = t := by
  show halve (halve (halve (halve (halve (halve (halve (halve (256 * t)))))))) = t
  rw [show 256 * t = 2 * (2 * (2 * (2 * (2 * (2 * (2 * (2 * t))))))) by omega]
  simp only [halve_even]
theorem split256 (s : Nat) : s % 256 ^^^ 256 * (s / 256) = s := by
  apply Nat.eq_of_testBit_eq
  intro i
  rw [Nat.testBit_xor, show (256 : Nat) = 2 ^ 8 from rfl, Nat.testBit_mod_two_pow, Nat.testBit_two_pow_mul, Nat.testBit_div_two_pow]
  by_cases h : i < 8
  · simp [h, show ¬ 8 ≤ i by omega]
  · simp [h, show 8 ≤ i by omega, show i - 8 + 8 = i by omega]
theorem z_halves {s : Nat} (hs : s < 4294967296) : crcZ s = halves 8 s := by
  have h1 : s % 256 < 4294967296 := by omega
  have h2 : 256 * (s / 256) < 4294967296 := by omega
  have e : halves 8 s = halves 8 (s % 256) ^^^ halves 8 (256 * (s / 256)) := by
    rw [← (halves_lin 8).xor _ _ h1 h2, split256]
  rw [e, halves_high, word_halves _ (by omega)]
  unfold crcZ crcStep
  rw [Nat.xor_zero]
theorem zs_halves : ∀ (L : Nat) {s : Nat}, s < 4294967296 → crcZs L s = halves (8 * L) s
  | 0, _, _ => rfl
  | L + 1, s, hs => by
    show crcZs L (crcZ s) = _
    rw [zs_halves L (crcZ_lin.lt s hs), z_halves hs, show 8 * (L + 1) = 8 + 8 * L by omega, halves_add]
theorem run_zeros (L : Nat) (s : Nat) : crcRun s (List.replicate L 0) = crcZs L s := by
  induction L generalizing s with
  | zero => rfl
  | succ L ih => rw [List.replicate_succ]; exact ih (crcZ s)
/-- L bytes of which just bit i is set. -/
def unit : Nat → Nat → List UInt8
  | 0, _ => []
  | L + 1, i => if i < 8 then UInt8.ofNat (2 ^ i) :: List.replicate L 0 else 0 :: unit L (i - 8)
theorem unit_length : ∀ L i, (unit L i).length = L
  | 0, _ => rfl
  | L + 1, i => by
    unfold unit
    split
    · simp
    · simp [unit_length L]
theorem unit_run : ∀ L i, i < 8 * L → crcRun 0 (unit L i) = H (8 * L - i)
  | 0, i, h => by omega
  | L + 1, i, h => by
    unfold unit
    split
    · rename_i h8
      have e : crcRun 0 (UInt8.ofNat (2 ^ i) :: List.replicate L 0) = crcRun (crcStep 0 (UInt8.ofNat (2 ^ i)).toNat) (List.replicate L 0) := rfl
      have hb : crcStep 0 (UInt8.ofNat (2 ^ i)).toNat = H (8 - i) := by
        have : ∀ j : Fin 8, crcStep 0 (UInt8.ofNat (2 ^ j.1)).toNat = H (8 - j.1) := by decide +kernel
        exact this ⟨i, h8⟩
      rw [e, hb, run_zeros, zs_halves L (H_lt _), ← H_add, show 8 * L + (8 - i) = 8 * (L + 1) - i by omega]
    · rename_i h8
      have e : crcRun 0 (0 :: unit L (i - 8)) = crcRun (crcStep 0 0) (unit L (i - 8)) := rfl
      rw [e, show crcStep 0 0 = 0 by decide, unit_run L (i - 8) (by omega), show 8 * L - (i - 8) = 8 * (L + 1) - i by omega]
theorem unit_get : ∀ L i j, j < L → (unit L i)[j]?.getD 0 = if j = i / 8 then UInt8.ofNat (2 ^ (i % 8)) else 0
  | 0, _, _, h => by omega
  | L + 1, i, j, h => by
    unfold unit
    split
    · rename_i h8
      cases j with
      | zero => simp [show i / 8 = 0 by omega, show i % 8 = i by omega]
      | succ j => simp [show i / 8 = 0 by omega, show j < L by omega]
    · rename_i h8
      cases j with
      | zero => simp; omega
      | succ j =>
        simp only [List.getElem?_cons_succ]
        rw [unit_get L (i - 8) j (by omega), show (i - 8) % 8 = i % 8 by omega]
        by_cases e : j + 1 = i / 8
        · rw [if_pos (by omega), if_pos e]
        · rw [if_neg (by omega), if_neg e]
end Go.Proofs.YtaijjlaheoamaaaDoor
/- The sum of two runs, byte for byte put together by xor. -/
namespace Go.Proofs.YtaijjlaheoamaaaDoor

def xor2 (l m : List UInt8) : List UInt8 := List.zipWith (fun x y => x ^^^ y) l m
theorem crcRun_xor : ∀ (l m : List UInt8) (s t : Nat), l.length = m.length → crcRun (s ^^^ t) (xor2 l m) = crcRun s l ^^^ crcRun t m
  | [], [], s, t, _ => rfl
  | [], _ :: _, _, _, h => by simp at h
  | _ :: _, [], _, _, h => by simp at h
  | a :: l, b :: m, s, t, h => by
    have e : crcRun (s ^^^ t) (xor2 (a :: l) (b :: m)) = crcRun (crcStep (s ^^^ t) (a ^^^ b).toNat) (xor2 l m) := rfl
    rw [e, UInt8.toNat_xor, crcStep_xor, crcRun_xor l m _ _ (by simpa using h)]
    rfl
end Go.Proofs.YtaijjlaheoamaaaDoor
/- One to three turned bits, as plain functions: the sum is another one. -/
namespace Go.Proofs.YtaijjlaheoamaaaDoor

/-- The bytes with one bit turned, where there is such a bit. -/
def flipB (l : List UInt8) (z : Int) : List UInt8 := if 0 ≤ z ∧ z < 8 * (l.length : Int) then xor2 l (unit l.length z.toNat) else l
theorem flipB_length (l : List UInt8) (z : Int) : (flipB l z).length = l.length := by
  unfold flipB; split
  · simp [xor2, unit_length]
  · rfl
/-- What it does to the sum. -/
def flipS (n : Nat) (z : Int) : Nat := if 0 ≤ z ∧ z < 8 * (n : Int) then H (8 * n - z.toNat) else 0
theorem flipB_run (l : List UInt8) (z : Int) (s : Nat) : crcRun s (flipB l z) = crcRun s l ^^^ flipS l.length z := by
  unfold flipB flipS
  split
  · rename_i h
    have h1 := crcRun_xor l (unit l.length z.toNat) s 0 (by rw [unit_length])
    rw [Nat.xor_zero] at h1
    rw [h1, unit_run _ _ (by omega)]
  · rw [Nat.xor_zero]
theorem xor2_twice (l u : List UInt8) (h : l.length = u.length) : xor2 (xor2 l u) u = l := by
  apply List.ext_getElem
  · simp [xor2]; omega
  · intro i h1 h2
    simp [xor2, UInt8.xor_assoc]
theorem flips_zero (l : List UInt8) (z0 z1 z2 : Int) (hl : l.length ≤ 1000) (h : flipS l.length z0 ^^^ flipS l.length z1 ^^^ flipS l.length z2 = 0) : flipB (flipB (flipB l z0) z1) z2 = l := by
  have hv : ∀ z : Int, 0 ≤ z ∧ z < 8 * (l.length : Int) → 1 ≤ 8 * l.length - z.toNat ∧ 8 * l.length - z.toNat ≤ 8000 := fun z hz => by omega
  have hinj : ∀ y z : Int, 0 ≤ y ∧ y < 8 * (l.length : Int) → 0 ≤ z ∧ z < 8 * (l.length : Int) → 8 * l.length - y.toNat = 8 * l.length - z.toNat → y = z := fun y z hy hz e => by omega
  have hx : ∀ (m : List UInt8) (z : Int), flipB (flipB m z) z = m := fun m z => by
    unfold flipB
    by_cases hz : 0 ≤ z ∧ z < 8 * (m.length : Int)
    · rw [if_pos hz]
      have e : (xor2 m (unit m.length z.toNat)).length = m.length := by simp [xor2, unit_length]
      rw [e, if_pos hz]
      exact xor2_twice _ _ (by rw [unit_length])
    · rw [if_neg hz, if_neg hz]
  have hno : ∀ (m : List UInt8) (z : Int), m.length = l.length → ¬ (0 ≤ z ∧ z < 8 * (l.length : Int)) → flipB m z = m := fun m z hm hz => by
    unfold flipB; rw [hm, if_neg hz]
  have hl1 := flipB_length l z0
  have hl2 : (flipB (flipB l z0) z1).length = l.length := by rw [flipB_length, flipB_length]
  by_cases h0 : 0 ≤ z0 ∧ z0 < 8 * (l.length : Int)
  · rw [show flipS l.length z0 = H (8 * l.length - z0.toNat) from if_pos h0] at h
    by_cases h1 : 0 ≤ z1 ∧ z1 < 8 * (l.length : Int)
    · rw [show flipS l.length z1 = H (8 * l.length - z1.toNat) from if_pos h1] at h
      by_cases h2 : 0 ≤ z2 ∧ z2 < 8 * (l.length : Int)
      · rw [show flipS l.length z2 = H (8 * l.length - z2.toNat) from if_pos h2] at h
        exact absurd h (three_ne (hv _ h0).1 (hv _ h1).1 (hv _ h2).1 (hv _ h0).2 (hv _ h1).2 (hv _ h2).2)
      · rw [show flipS l.length z2 = 0 from if_neg h2, Nat.xor_zero] at h
        have e := hinj _ _ h0 h1 (two_ne (hv _ h0).1 (hv _ h1).1 (hv _ h0).2 (hv _ h1).2 h)
        subst e
        rw [hno _ _ hl2 h2, hx]
    · rw [show flipS l.length z1 = 0 from if_neg h1, Nat.xor_zero] at h
      rw [hno _ _ hl1 h1]
      by_cases h2 : 0 ≤ z2 ∧ z2 < 8 * (l.length : Int)
      · rw [show flipS l.length z2 = H (8 * l.length - z2.toNat) from if_pos h2] at h
        have e := hinj _ _ h0 h2 (two_ne (hv _ h0).1 (hv _ h2).1 (hv _ h0).2 (hv _ h2).2 h)
        subst e
        rw [hx]
      · rw [show flipS l.length z2 = 0 from if_neg h2, Nat.xor_zero] at h
        exact absurd h (H_ne _)
  · rw [show flipS l.length z0 = 0 from if_neg h0, Nat.zero_xor] at h
    rw [hno _ _ rfl h0]
    by_cases h1 : 0 ≤ z1 ∧ z1 < 8 * (l.length : Int)
    · rw [show flipS l.length z1 = H (8 * l.length - z1.toNat) from if_pos h1] at h
      by_cases h2 : 0 ≤ z2 ∧ z2 < 8 * (l.length : Int)
      · rw [show flipS l.length z2 = H (8 * l.length - z2.toNat) from if_pos h2] at h
        have e := hinj _ _ h1 h2 (two_ne (hv _ h1).1 (hv _ h2).1 (hv _ h1).2 (hv _ h2).2 h)
        subst e
        rw [hx]
      · rw [show flipS l.length z2 = 0 from if_neg h2, Nat.xor_zero] at h
        exact absurd h (H_ne _)
    · rw [show flipS l.length z1 = 0 from if_neg h1, Nat.zero_xor] at h
      rw [hno _ _ rfl h1]
      by_cases h2 : 0 ≤ z2 ∧ z2 < 8 * (l.length : Int)
      · rw [show flipS l.length z2 = H (8 * l.length - z2.toNat) from if_pos h2] at h
        exact absurd h (H_ne _)
      · exact hno _ _ rfl h2
theorem turned_iff (l : List UInt8) (z0 z1 z2 : Int) (hl : l.length ≤ 1000) (h : crcSum l = crcSum (flipB (flipB (flipB l z0) z1) z2)) : flipB (flipB (flipB l z0) z1) z2 = l := by
  refine flips_zero l z0 z1 z2 hl ?_
  rw [crcSum_eq, crcSum_eq, flipB_run, flipB_run, flipB_run, flipB_length, flipB_length, flipB_length] at h
  generalize crcRun 4294967295 l = r at h
  generalize flipS l.length z0 = a at h ⊢
  generalize flipS l.length z1 = b at h ⊢
  generalize flipS l.length z2 = c at h ⊢
  have h1 : r = r ^^^ a ^^^ b ^^^ c := by
    have := congrArg (4294967295 ^^^ ·) h
    simpa [← Nat.xor_assoc] using this
  have h2 : r ^^^ r = r ^^^ (r ^^^ a ^^^ b ^^^ c) := congrArg (r ^^^ ·) h1
  rw [Nat.xor_self, Nat.xor_assoc, Nat.xor_assoc, ← Nat.xor_assoc r r, Nat.xor_self, Nat.zero_xor, ← Nat.xor_assoc] at h2
  exact h2.symm

end Go.Proofs.YtaijjlaheoamaaaDoor
/- Bytes with their own sum behind them have one sum, as plain functions. -/
namespace Go.Proofs.YtaijjlaheoamaaaDoor

theorem step_v (s v : Nat) : crcStep s (v % 256) = crcZ (s ^^^ v) ^^^ (v / 256) := by
  unfold crcZ crcStep
  rw [Nat.xor_zero, show (256 : Nat) = 2 ^ 8 from rfl, Nat.xor_mod_two_pow, Nat.xor_div_two_pow, Nat.xor_assoc, Nat.xor_assoc, Nat.xor_self, Nat.xor_zero]
/-- The four bytes of a number, the lowest first. -/
def le4 (v : Nat) : List UInt8 := [UInt8.ofNat v, UInt8.ofNat (v / 256), UInt8.ofNat (v / 65536), UInt8.ofNat (v / 16777216)]
theorem run_le4 (s v : Nat) (hv : v < 4294967296) : crcRun s (le4 v) = crcZs 4 (s ^^^ v) := by
  have e0 : (UInt8.ofNat v).toNat = v % 256 := UInt8.toNat_ofNat'
  have e1 : (UInt8.ofNat (v / 256)).toNat = v / 256 % 256 := UInt8.toNat_ofNat'
  have e2 : (UInt8.ofNat (v / 65536)).toNat = v / 256 / 256 % 256 := by rw [UInt8.toNat_ofNat', Nat.div_div_eq_div_mul]
  have e3 : (UInt8.ofNat (v / 16777216)).toNat = v / 256 / 256 / 256 % 256 := by rw [UInt8.toNat_ofNat', Nat.div_div_eq_div_mul, Nat.div_div_eq_div_mul]
  have e4 : v / 256 / 256 / 256 / 256 = 0 := by omega
  have hx : ∀ a b : Nat, (a ^^^ b) ^^^ b = a := fun a b => by rw [Nat.xor_assoc, Nat.xor_self, Nat.xor_zero]
  show crcStep (crcStep (crcStep (crcStep s _) _) _) _ = _
  rw [e0, e1, e2, e3, step_v s v, step_v _ (v / 256), hx, step_v _ (v / 256 / 256), hx, step_v _ (v / 256 / 256 / 256), hx, e4, Nat.xor_zero]
  rfl
theorem residue (l : List UInt8) : crcSum (l ++ le4 (crcSum l)) = 558161692 := by
  have hr := crcRun_lt (s := 4294967295) (by decide) l
  have hx : ∀ r : Nat, r ^^^ (4294967295 ^^^ r) = 4294967295 := fun r => by rw [Nat.xor_comm 4294967295, ← Nat.xor_assoc, Nat.xor_self, Nat.zero_xor]
  rw [crcSum_eq, crcRun_append, run_le4 _ _ (crcSum_lt l), crcSum_eq, hx]
  decide +kernel
end Go.Proofs.YtaijjlaheoamaaaDoor
/- Bytes of the call's own, of which bits are turned one by one. -/
namespace Go.Proofs.YtaijjlaheoamaaaDoor
open Go.RowKit

/-- The slice at ac, of the call's own, holds cl. -/
def CTo (n₁ : Nat) (W : World) (ac : Option Addr) (cl : List UInt8) : Prop := cl ≠ [] → ∃ g, ac = some ⟨g, 0, none⟩ ∧ n₁ ≤ g ∧ g < W.heap.size ∧
  ∀ j, j < cl.length → W.cell? ⟨g, j, none⟩ = some (.int .u8 ((cl[j]?.getD 0).toNat : Int)) ∧ W.frozen? ⟨g, j, none⟩ = false
theorem CTo.of_own {n₁ : Nat} {W : World} {v : Value} {cl : List UInt8} (h : OwnB W n₁ v cl) : ∃ ac cc, v = .slice ac cl.length cc ∧ cl.length ≤ cc ∧ cc ≤ maxLen ∧ CTo n₁ W ac cl := by
  rcases h.bytes with ⟨rfl, rfl⟩ | ⟨g, cc, rfl, h1, h2, h3, h4, _, h5⟩
  · exact ⟨none, 0, rfl, Nat.le_refl _, Nat.zero_le _, fun hne => absurd rfl hne⟩
  · exact ⟨_, cc, rfl, h3, h4, fun _ => ⟨g, rfl, h1, h2, h5⟩⟩
theorem CTo.bytes {n₁ : Nat} {W : World} {ac : Option Addr} {cl : List UInt8} (h : CTo n₁ W ac cl) : BytesAt W.heap.size W ac cl := fun hne => by
  obtain ⟨g, rfl, _, h2, h3⟩ := h hne
  exact ⟨g, 0, rfl, h2, fun j hj => by rw [Nat.zero_add]; exact (h3 j hj).1⟩
theorem flip_get (cl : List UInt8) (m : Nat) (hm : m < 8 * cl.length) (j : Nat) (hj : j < cl.length) : (flipB cl (m : Int))[j]?.getD 0 = if j = m / 8 then (cl[j]?.getD 0) ^^^ UInt8.ofNat (2 ^ (m % 8)) else cl[j]?.getD 0 := by
  unfold flipB
  rw [if_pos (by omega), Int.toNat_natCast]
  have hu := unit_get cl.length m j hj
  have hlen : j < (unit cl.length m).length := by rw [unit_length]; exact hj
  have e : (xor2 cl (unit cl.length m))[j]?.getD 0 = (cl[j]?.getD 0) ^^^ ((unit cl.length m)[j]?.getD 0) := by
    have h2 : j < (xor2 cl (unit cl.length m)).length := by simp [xor2, unit_length]; omega
    rw [List.getElem?_eq_getElem h2, List.getElem?_eq_getElem hj, List.getElem?_eq_getElem hlen]
    simp [xor2]
  rw [e, hu]
  split
  · rfl
  · simp
theorem CTo.set {n₁ g : Nat} {W : World} {cl : List UInt8} {m v : Nat} (h : CTo n₁ W (some ⟨g, 0, none⟩) cl) (hm : m < 8 * cl.length) (hv : v = ((cl[m / 8]?.getD 0) ^^^ UInt8.ofNat (2 ^ (m % 8))).toNat) :
    CTo n₁ (W.setCell ⟨g, m / 8, none⟩ (.int .u8 (v : Int))) (some ⟨g, 0, none⟩) (flipB cl (m : Int)) := fun _ => by
  obtain ⟨g', e, h1, h2, h3⟩ := h (by rintro rfl; simp at hm)
  cases e
  refine ⟨g, rfl, h1, by simpa [World.setCell] using h2, fun j hj => ?_⟩
  rw [flipB_length] at hj
  refine ⟨?_, by rw [World.frozen?_setCell]; exact (h3 j hj).2⟩
  rw [flip_get cl m hm j hj]
  by_cases e : j = m / 8
  · subst e
    rw [if_pos rfl, ← hv]
    exact World.cell?_setCell_same' _ _ _ (by rw [(h3 _ hj).1]; rfl)
  · rw [if_neg e, World.cell?_setCell_other _ _ _ _ (fun h => e (by cases h; rfl))]
    exact (h3 j hj).1

/-- The three numbers; the bytes when k of them have been gone over. -/
def zz (z0 z1 z2 : Int) (k : Nat) : Int := if k = 0 then z0 else if k = 1 then z1 else z2
def flips (l : List UInt8) (z0 z1 z2 : Int) : Nat → List UInt8
  | 0 => l
  | k + 1 => flipB (flips l z0 z1 z2 k) (zz z0 z1 z2 k)
theorem flips_length (l : List UInt8) (z0 z1 z2 : Int) : ∀ k, (flips l z0 z1 z2 k).length = l.length
  | 0 => rfl
  | k + 1 => by rw [flips, flipB_length]; exact flips_length l z0 z1 z2 k

end Go.Proofs.YtaijjlaheoamaaaDoor
/- Layer 4: a page's bytes of which one to three bits are turned have another sum, also where bits of the sum itself are: the sum's four bytes, turned about behind all else, make one run of bytes whose sum is fixed. -/
namespace Go.Proofs.YtaijjlaheoamaaaDoor

/-- The bytes, the sum's four behind all else, the last one first. -/
def moved (b : List UInt8) : List UInt8 := b.drop 4 ++ (b.take 4).reverse
theorem moved_len {b : List UInt8} (h : b.length = 256) : (moved b).length = 256 := by
  unfold moved; rw [List.length_append, List.length_reverse, List.length_drop, List.length_take]; omega
theorem moved_inj {b c : List UInt8} (hb : b.length = 256) (hc : c.length = 256) (h : moved b = moved c) : b = c := by
  unfold moved at h
  have h2 := List.append_inj h (by rw [List.length_drop, List.length_drop, hb, hc])
  have h3 : b.take 4 = c.take 4 := by rw [← List.reverse_reverse (b.take 4), h2.2, List.reverse_reverse]
  rw [← List.take_append_drop 4 b, ← List.take_append_drop 4 c, h3, h2.1]
theorem moved_xor {b c : List UInt8} (hb : b.length = 256) (hc : c.length = 256) : moved (xor2 b c) = xor2 (moved b) (moved c) := by
  unfold moved xor2
  rw [List.drop_zipWith, List.take_zipWith, List.zipWith_append (by rw [List.length_drop, List.length_drop, hb, hc]), List.reverse_zipWith (by rw [List.length_take, List.length_take, hb, hc])]
/-- Where a bit comes to lie. -/
def sig (i : Nat) : Nat := if i < 32 then 8 * (255 - i / 8) + i % 8 else i - 32
theorem sig_lt {i : Nat} (h : i < 2048) : sig i < 2048 := by unfold sig; split <;> omega
theorem ext_getD {l m : List UInt8} (hl : l.length = m.length) (h : ∀ j, j < l.length → l[j]?.getD 0 = m[j]?.getD 0) : l = m :=
  List.ext_getElem hl fun j h1 h2 => by
    have := h j h1
    rwa [List.getElem?_eq_getElem h1, List.getElem?_eq_getElem h2, Option.getD_some, Option.getD_some] at this
theorem moved_get {l : List UInt8} (h : l.length = 256) (j : Nat) (hj : j < 256) : (moved l)[j]?.getD 0 = if j < 252 then l[j + 4]?.getD 0 else l[255 - j]?.getD 0 := by
  unfold moved
  by_cases h1 : j < 252
  · rw [if_pos h1, List.getElem?_append_left (by rw [List.length_drop]; omega), List.getElem?_drop, Nat.add_comm]
  · rw [if_neg h1, List.getElem?_append_right (by rw [List.length_drop]; omega), List.length_drop, h, List.getElem?_reverse (by rw [List.length_take]; omega), List.getElem?_take, if_pos (by rw [List.length_take]; omega), List.length_take]
    rw [show min 4 l.length - 1 - (j - (256 - 4)) = 255 - j by omega]
theorem moved_unit (i : Nat) (hi : i < 2048) : moved (unit 256 i) = unit 256 (sig i) := by
  have hl := unit_length 256 i
  refine ext_getD (by rw [moved_len hl, unit_length]) fun j hj => ?_
  rw [moved_len hl] at hj
  rw [moved_get hl j hj, unit_get 256 (sig i) j hj]
  have hs : (i < 32 ∧ sig i / 8 = 255 - i / 8 ∧ sig i % 8 = i % 8) ∨ (32 ≤ i ∧ sig i / 8 = i / 8 - 4 ∧ sig i % 8 = i % 8) := by
    unfold sig; split <;> omega
  rw [show sig i % 8 = i % 8 by omega]
  by_cases h1 : j < 252
  · rw [if_pos h1, unit_get 256 i (j + 4) (by omega)]
    by_cases h2 : j + 4 = i / 8
    · rw [if_pos h2, if_pos (by omega)]
    · rw [if_neg h2, if_neg (by omega)]
  · rw [if_neg h1, unit_get 256 i (255 - j) (by omega)]
    by_cases h2 : 255 - j = i / 8
    · rw [if_pos h2, if_pos (by omega)]
    · rw [if_neg h2, if_neg (by omega)]
def sigZ (z : Int) : Int := if 0 ≤ z ∧ z < 2048 then (sig z.toNat : Int) else -1
theorem moved_flip {b : List UInt8} (h : b.length = 256) (z : Int) : moved (flipB b z) = flipB (moved b) (sigZ z) := by
  unfold flipB sigZ
  rw [h, moved_len h]
  by_cases hz : 0 ≤ z ∧ z < 2048
  · have hs := sig_lt (i := z.toNat) (by omega)
    rw [if_pos (by omega), if_pos hz, if_pos (by omega), moved_xor h (by rw [unit_length]), moved_unit _ (by omega), Int.toNat_natCast]
  · rw [if_neg (by omega), if_neg hz, if_neg (by omega)]
theorem laid4_le (s : Nat) : (laidB s 4 4).reverse = le4 s := by
  simp [laidB, le4, List.range_succ]
theorem sum_fixed {b : List UInt8} (h : b.length = 256) (hs : sumOk b = true) : crcSum (moved b) = 558161692 := by
  have h1 : numOf (b.take 4) = crcSum (b.drop 4) := by simpa [sumOk] using hs
  have h2 := laid_numOf (l := b.take 4) (k := 4) (by rw [List.length_take]; omega)
  unfold moved
  rw [← h2, h1, laid4_le]
  exact residue _
theorem turned_sum {b : List UInt8} (h : b.length = 256) (hs : sumOk b = true) (z0 z1 z2 : Int) (ht : sumOk (flips b z0 z1 z2 3) = true) : flips b z0 z1 z2 3 = b := by
  have e : flips b z0 z1 z2 3 = flipB (flipB (flipB b z0) z1) z2 := rfl
  rw [e] at ht ⊢
  have l1 : (flipB b z0).length = 256 := by rw [flipB_length, h]
  have l2 : (flipB (flipB b z0) z1).length = 256 := by rw [flipB_length, l1]
  have l3 : (flipB (flipB (flipB b z0) z1) z2).length = 256 := by rw [flipB_length, l2]
  have m1 := sum_fixed h hs
  have m2 := sum_fixed l3 ht
  have e3 : moved (flipB (flipB (flipB b z0) z1) z2) = flipB (flipB (flipB (moved b) (sigZ z0)) (sigZ z1)) (sigZ z2) := by
    rw [moved_flip l2, moved_flip l1, moved_flip h]
  rw [e3] at m2
  have := turned_iff (moved b) (sigZ z0) (sigZ z1) (sigZ z2) (by rw [moved_len h]; decide) (m1.trans m2.symm)
  exact moved_inj l3 h (e3.trans this)
end Go.Proofs.YtaijjlaheoamaaaDoor
/- An argument of three ints, opened. -/
namespace Go.Proofs.YtaijjlaheoamaaaDoor
open Go.ChangeShapes Go.WideShapes Go.RowKit

section
variable {H : Type} {enc : TypeId × Value → H} {P : Program}
theorem open_three {t e : TypeId} {base : Nat} {W : World} {v : Value} {d : DataW H} {ps : List MemPlace} (ht : P.underlying t = some (.array 3 e)) (he : P.underlying e = some (.int .i64)) (ct : P.cellsOf t = 3) (ce : P.cellsOf e = 1)
    (hok : Value.okWide P W .any base t v) (h : DataW.Trod enc P W 0 (fun _ => true) true t v d ps) : ∃ z0 z1 z2, v = .agg #[.int .i64 z0, .int .i64 z1, .int .i64 z2] := by
  unfold Value.okWide at hok
  rw [ht] at hok
  obtain ⟨cs, rfl, hsz, -⟩ := hok
  rw [ct] at hsz
  obtain ⟨fuel, hf⟩ := h
  obtain ⟨xs, m, -, -, -, hlen, hel⟩ := DataW.trod_array ht hf
  obtain ⟨c0, c1, c2, rfl⟩ : ∃ c0 c1 c2, cs = #[c0, c1, c2] := by
    match cs, hsz with
    | ⟨[c0, c1, c2]⟩, _ => exact ⟨c0, c1, c2, rfl⟩
  have hget : ∀ i (hi : i < 3) (c : Value), (([c0, c1, c2].drop (i * P.cellsOf e)).take (P.cellsOf e)) = [c] → ∃ z, c = .int .i64 z := fun i hi c hc => by
    have h1 := hel i hi
    rw [show (Value.agg #[c0, c1, c2]).cells.toList = [c0, c1, c2] from rfl, hc, List.getElem?_eq_getElem (by omega)] at h1
    obtain ⟨z, hz, -, -⟩ := DataW.trod_int he h1
    exact ⟨z, by simpa using hz⟩
  obtain ⟨z0, rfl⟩ := hget 0 (by decide) c0 (by rw [ce]; rfl)
  obtain ⟨z1, rfl⟩ := hget 1 (by decide) c1 (by rw [ce]; rfl)
  obtain ⟨z2, rfl⟩ := hget 2 (by decide) c2 (by rw [ce]; rfl)
  exact ⟨z0, z1, z2, rfl⟩
end
end Go.Proofs.YtaijjlaheoamaaaDoor
/- Layer 6: the law on a torn meta's page. -/
namespace Go.Proofs.YtaijjlaheoamaaaDoor
open Go.RowKit

set_option maxRecDepth 100000 in
set_option maxHeartbeats 16000000 in
theorem metaTorn_any (ta ra fa ha tb rb fb hb z0 z1 z2 : Int) (w : World) (hT : Tab w) (hg : 0 + 1 ≤ w.heap.size) :
    Calls Tryd.prog 5 #[mtv ta ra fa ha, mtv tb rb fb hb, .agg #[.int .i64 z0, .int .i64 z1, .int .i64 z2]] w fun e w' => e = .returned (.bool true) ∧ Below w.heap.size w w' := by
  have HT := Lib.hid (And.intro hT hg)
  have HA := Lib.hid (fun (x y : Array Value) => alloc3 w (.cells x 25) (.cells y 25) (.cells #[.int .i64 z0, .int .i64 z1, .int .i64 z2] 41))
  clear hT hg
  have HK := Lib.hid (fun W (h : Below w.heap.size w W) => mknown_any W (HT.out.1.below HT.out.2 h) (Nat.le_trans HT.out.2 h.size))
  by_cases h1 : ta < 0
  · go_enter Tryd.func5, Tryd.ntmps5
    go_wp2_with fail
    refine (HK.out _ (HA.out _ _).1).mono ?_
    rintro e w' ⟨rfl, hb'⟩
    have HB := Lib.hid (go_on (HA.out _ _).1 hb')
    clear hb'
    go_wp2
    go_ret
    exact ⟨rfl, HB.out⟩
  by_cases h2 : 2305843009213693952 < ta
  · go_enter Tryd.func5, Tryd.ntmps5
    go_wp2_with fail
    refine (HK.out _ (HA.out _ _).1).mono ?_
    rintro e w' ⟨rfl, hb'⟩
    have HB := Lib.hid (go_on (HA.out _ _).1 hb')
    clear hb'
    go_wp2
    go_ret
    exact ⟨rfl, HB.out⟩
  have hw1 : wrap64 (ta + 1) = ta + 1 := by unfold wrap64; omega
  have hw2 : wrap64 (ta + 2) = ta + 2 := by unfold wrap64; omega
  have HTA := Lib.hid (And.intro h1 h2)
  go_enter Tryd.func5, Tryd.ntmps5
  go_wp2_with fail
  obtain ⟨q0, q1, q2, q3, q4⟩ := HA.out #[.int .i64 ta, .int .i64 ra, .int .i64 fa, .int .i64 ha] #[.int .i64 (ta + 1), .int .i64 rb, .int .i64 fb, .int .i64 hb]
  revert q0 q1 q2 q3 q4
  generalize ((w.alloc (.cells #[.int .i64 ta, .int .i64 ra, .int .i64 fa, .int .i64 ha] 25)).alloc (.cells #[.int .i64 (ta + 1), .int .i64 rb, .int .i64 fb, .int .i64 hb] 25)).alloc (.cells #[.int .i64 z0, .int .i64 z1, .int .i64 z2] 41) = W3
  intro q0 q1 q2 q3 q4
  have hal := (Below.refl W3.heap.size W3).alloc (Nat.le_refl _) (.cells #[.int .i64 (ta + 2), .int .i64 ra, .int .i64 fa, .int .i64 ha] 25)
  have q5 := heap_alloc_new W3 (.cells #[.int .i64 (ta + 2), .int .i64 ra, .int .i64 fa, .int .i64 ha] 25)
  have q6 : (W3.alloc (.cells #[.int .i64 (ta + 2), .int .i64 ra, .int .i64 fa, .int .i64 ha] 25)).heap.size = w.heap.size + 4 := by simp [q4]
  have hbw := go_on q0 hal
  have hrB := go_row q2 hal
  have hrZ := go_row q3 hal
  rw [q4] at q5
  revert hbw hrB hrZ q5 q6
  generalize W3.alloc (.cells #[.int .i64 (ta + 2), .int .i64 ra, .int .i64 fa, .int .i64 ha] 25) = W
  intro hrC hsz hbw hrB hrZ
  clear q0 q1 q2 q3 q4 hal HA
  refine (mraw_any (ta + 1) rb fb hb W (HT.out.1.below HT.out.2 hbw) (Nat.le_trans HT.out.2 hbw.size)).mono ?_
  rintro e w1 ⟨hb1, a1, n1, c1, e1, rfl, hc1⟩
  have hbw1 := go_on hbw hb1
  have hrC1 := go_row hrC hb1
  have lC1 := (Array.getElem?_eq_some_iff.1 hrC1).1
  have rc0 := cell_of_row w1 (w.heap.size + 3) 0 _ _ _ hrC1
  have rc1 := cell_of_row w1 (w.heap.size + 3) 1 _ _ _ hrC1
  have rc2 := cell_of_row w1 (w.heap.size + 3) 2 _ _ _ hrC1
  have rc3 := cell_of_row w1 (w.heap.size + 3) 3 _ _ _ hrC1
  simp only [List.getElem?_toArray, List.getElem?_cons_zero, List.getElem?_cons_succ] at rc0 rc1 rc2 rc3
  have HX := Lib.hid (And.intro hbw1 (And.intro (go_row hrB hb1) (And.intro (go_row hrZ hb1) (And.intro hrC1 (And.intro hb1.size hc1)))))
  clear hbw hrB hrZ hrC hb1 hbw1 hrC1 hc1
  go_wp2_with fail
  refine (mraw_any (ta + 2) ra fa ha w1 (HT.out.1.below HT.out.2 HX.out.1) (Nat.le_trans HT.out.2 HX.out.1.size)).mono ?_
  rintro e w2 ⟨hb2, a2, n2, c2, e2, rfl, hc2⟩
  obtain ⟨hbw1, hrB, hrZ, hrC, hs1, hc1⟩ := HX.out
  have HX2 := Lib.hid (And.intro (go_on hbw1 hb2) (And.intro hb2 hc2))
  clear hb2 hc2 rc0 rc1 rc2 rc3 lC1
  rcases hc1 with ⟨rfl, rfl, mB, okB, htB, rfl, rfl, rfl, hOx⟩ | ⟨rfl, rfl, rfl, rfl, -⟩
  case inr =>
    clear hbw1 hrB hrZ hrC hs1
    have HKN := Lib.hid (HK.out w2 HX2.out.1)
    go_wp2_with fail
    refine HKN.out.mono ?_
    rintro e w' ⟨rfl, hb'⟩
    have HB := Lib.hid (go_on HX2.out.1 hb')
    clear hb'
    go_wp2
    go_ret
    exact ⟨rfl, HB.out⟩
  obtain ⟨-, hb2, hc2⟩ := HX2.out
  rcases hc2 with ⟨rfl, rfl, mC, okC, htC, rfl, rfl, rfl, hOy⟩ | ⟨rfl, rfl, rfl, rfl, -⟩
  case inr =>
    clear hbw1 hrB hrZ hrC hs1 hb2 hOx htB
    have HKN := Lib.hid (HK.out w2 HX2.out.1)
    go_wp2_with fail
    refine HKN.out.mono ?_
    rintro e w' ⟨rfl, hb'⟩
    have HB := Lib.hid (go_on HX2.out.1 hb')
    clear hb'
    go_wp2
    go_ret
    exact ⟨rfl, HB.out⟩
  obtain ⟨ax, cx, ev, hmx, hnx, hlx⟩ := own256 okB hOx
  cases ev
  obtain ⟨ac, cc, ev, hcc1, hcc2, hC2⟩ := CTo.of_own hOy
  rw [Mt.raw_len okC] at ev hcc1
  cases ev
  rw [← htB] at hrB
  rw [← htC] at hrC
  have hcv := conv_at w2 a2 mC.raw c2 _ hC2.bytes
  have hlen := Mt.raw_len okC
  rw [hlen] at hcv
  have hz : ∀ i, i < 3 → w1.cell? ⟨w.heap.size + 2, i, none⟩ = some (.int .i64 (zz z0 z1 z2 i)) := fun i hi => by
    rw [cell_of_row w1 (w.heap.size + 2) i _ _ _ hrZ]
    match i, hi with
    | 0, _ => rfl
    | 1, _ => rfl
    | 2, _ => rfl
  have hs1' : w.heap.size + 2 < w1.heap.size := (Array.getElem?_eq_some_iff.1 hrZ).1
  have HZ := Lib.hid hz
  have HL := Lib.hid hlen
  have HX3 := Lib.hid (And.intro hC2 (And.intro hb2 (And.intro hbw1 (And.intro hrB (And.intro hrC (And.intro hmx (And.intro hnx hlx)))))))
  have HOK := Lib.hid (And.intro okB (And.intro okC (And.intro htB htC)))
  obtain ⟨r, hr⟩ : ∃ r, mC.raw = r := ⟨_, rfl⟩
  rw [hr] at HL HX3 hcv
  have HR := Lib.hid hr
  clear hz hlen hC2 hb2 hbw1 hrB hrC hmx hnx hlx okB okC htB htC hr hOx hOy hrZ hs1 HX HX2
  go_wp2_with fail
  go_loopw [13] (fun i wr => ∃ k : Nat, k ≤ 3 ∧ i = .int .i64 k ∧ CTo w1.heap.size wr a2 (flips r z0 z1 z2 k) ∧ Below w1.heap.size w1 wr) (fun i _ => 3 - (intOf i).toNat)
  case atStart => exact ⟨0, by omega, rfl, HX3.out.1, HX3.out.2.1⟩
  case round =>
    obtain ⟨k, hk, rfl, hC, hB⟩ := hrel
    by_cases hlt : k < 3
    · have hzc := (hB.cell (p := ⟨w.heap.size + 2, k, none⟩) hs1').trans (HZ.out k hlt)
      have hfl := flips_length r z0 z1 z2 k
      rw [HL.out] at hfl
      have HS := Lib.hid (show flips r z0 z1 z2 (k + 1) = flipB (flips r z0 z1 z2 k) (zz z0 z1 z2 k) from rfl)
      obtain ⟨cl, hcl⟩ : ∃ cl, flips r z0 z1 z2 k = cl := ⟨_, rfl⟩
      obtain ⟨z, hz⟩ : ∃ z, zz z0 z1 z2 k = z := ⟨_, rfl⟩
      rw [hcl, hz] at HS
      rw [hcl] at hC hfl
      rw [hz] at hzc
      have HFL := Lib.hid hfl
      clear hcl hz hfl hcv
      have i1 : (0 : Int) ≤ (k : Int) := Int.natCast_nonneg _
      have i2 : (k : Int) < 3 := by omega
      by_cases hz0 : z < 0
      · have hno : flipB cl z = cl := if_neg (by omega)
        have HNO := Lib.hid hno
        clear hno
        go_wp2_with fail
        go_roundw
        case rel => exact ⟨k + 1, by omega, by go_num, by rw [HS.out, HNO.out]; exact hC, hB⟩
        case measure => simp [intOf]; omega
      · by_cases hz1 : 2048 ≤ z
        · have hno : flipB cl z = cl := if_neg (by rw [HFL.out]; omega)
          have HNO := Lib.hid hno
          clear hno
          go_wp2_with fail
          go_roundw
          case rel => exact ⟨k + 1, by omega, by go_num, by rw [HS.out, HNO.out]; exact hC, hB⟩
          case measure => simp [intOf]; omega
        · obtain ⟨q, rfl⟩ := Int.eq_ofNat_of_zero_le (show 0 ≤ z by omega)
          obtain ⟨g, rfl, hg1, hg2, hg3⟩ := hC (by rintro rfl; have := HFL.out; simp at this)
          have hm : q < 8 * cl.length := by rw [HFL.out]; omega
          have hm8 : q / 8 < cl.length := by omega
          have hcell := (hg3 (q / 8) hm8).1
          have hfr := (hg3 (q / 8) hm8).2
          obtain ⟨X, hX⟩ : ∃ X, cl[q / 8]?.getD 0 = X := ⟨_, rfl⟩
          obtain ⟨y, hy⟩ : ∃ y, 2 ^ (q % 8) = y := ⟨_, rfl⟩
          have hy8 : y < 256 := by rw [← hy]; exact Nat.pow_lt_pow_right (a := 2) (m := q % 8) (n := 8) (by decide) (by omega)
          have hxy := xor8 (UInt8.toNat_lt X) hy8
          have hset := hC.set (v := X.toNat ^^^ y) hm (by rw [hX, hy, UInt8.toNat_xor, UInt8.toNat_ofNat_of_lt' (by have : UInt8.size = 256 := rfl; omega)])
          have hpy : (2 : Int) ^ (q % 8) % 256 = (y : Int) := by
            rw [show (2 : Int) ^ (q % 8) = ((2 ^ (q % 8) : Nat) : Int) by rw [Int.natCast_pow]; rfl, hy]; omega
          rw [hX] at hcell
          have i3 : (q : Int) / 8 < 256 := by omega
          have i4 : (0 : Int) ≤ (q : Int) / 8 := by omega
          clear hX hy hg3
          go_wp2_with fail
          go_region
          go_wp2_with fail
          go_roundw
          case rel => exact ⟨k + 1, by omega, by go_num, by rw [HS.out]; exact hset, (hB.setCell (p := ⟨g, q / 8, none⟩) hg1 _).drew⟩
          case measure => simp [intOf]; omega
    · obtain rfl : k = 3 := by omega
      have hfl := flips_length r z0 z1 z2 3
      rw [HL.out] at hfl
      obtain ⟨okB, okC, htB, htC⟩ := HOK.out
      have hsr : sumOk r = true := by
        rw [← HR.out]
        exact (look_raw (parseE_look (isMt_self okC).look.2.2.1)).2.2.2.2.1
      have hts := turned_sum HL.out hsr z0 z1 z2
      obtain ⟨c3, hc3⟩ : ∃ c3, flips r z0 z1 z2 3 = c3 := ⟨_, rfl⟩
      rw [hc3] at hC hfl hts
      have hno3 : a2 = none → c2 = 0 := fun e => by
        obtain ⟨g, e2, -⟩ := hC (by rintro rfl; simp at hfl)
        rw [e] at e2; cases e2
      obtain ⟨-, -, hbw1, hrB, hrC, hmx, hnx, hlx⟩ := HX3.out
      have hrB' := (hB.block _ (Array.getElem?_eq_some_iff.1 hrB).1).trans hrB
      have hrC' := (hB.block _ (Array.getElem?_eq_some_iff.1 hrC).1).trans hrC
      have lB := (Array.getElem?_eq_some_iff.1 hrB').1
      have lC := (Array.getElem?_eq_some_iff.1 hrC').1
      have kb0 := cell_of_row wr (w.heap.size + 1) 0 _ _ _ hrB'
      have kb1 := cell_of_row wr (w.heap.size + 1) 1 _ _ _ hrB'
      have kb2 := cell_of_row wr (w.heap.size + 1) 2 _ _ _ hrB'
      have kb3 := cell_of_row wr (w.heap.size + 1) 3 _ _ _ hrB'
      simp only [List.getElem?_toArray, List.getElem?_cons_zero, List.getElem?_cons_succ] at kb0 kb1 kb2 kb3
      have kc0 := cell_of_row wr (w.heap.size + 3) 0 _ _ _ hrC'
      have kc1 := cell_of_row wr (w.heap.size + 3) 1 _ _ _ hrC'
      have kc2 := cell_of_row wr (w.heap.size + 3) 2 _ _ _ hrC'
      have kc3 := cell_of_row wr (w.heap.size + 3) 3 _ _ _ hrC'
      simp only [List.getElem?_toArray, List.getElem?_cons_zero, List.getElem?_cons_succ] at kc0 kc1 kc2 kc3
      have hbwr := hbw1.trans (hB.mono hbw1.size)
      have hmx' := (hmx.below hB).mono hB.size
      have hcv4 := fun o => conv_at (wr.alloc o) a2 c3 c2 _ (hC.bytes.below ((Below.refl wr.heap.size wr).alloc (Nat.le_refl _) o))
      rw [hfl] at hcv4
      have hwm : ∀ k : Nat, whereI (k : Int) = ((k % 2 : Nat) : Int) := fun k => by unfold whereI; rw [if_neg (by omega)]; rfl
      have HX4 := Lib.hid (And.intro hbwr (And.intro hmx' (And.intro hC.bytes (And.intro hno3 (And.intro hfl (And.intro hts (And.intro hnx hlx)))))))
      clear hB hbw1 hrB hrC hmx hrB' hrC' hbwr hmx' hC hno3 hfl hts hnx hlx hc3 hcv hsr HX3 hs1'
      by_cases hcr : c3 = r
      · have hq : (c3 == r) = true := by simpa using hcr
        have hqn : (c3 != r) = false := by simpa using hcr
        by_cases hpar : mC.t % 2 = 1
        · skip
          subst hcr
          have hsy : Opt 1 c3 (some mC) := by
            have h := isMt_self HOK.out.2.1
            rw [HR.out, hpar] at h
            exact h
          have hsx : Opt 0 mB.raw (some mB) := by
            have h := isMt_self HOK.out.1
            rw [show mB.t % 2 = 0 by omega] at h
            exact h
          have hbx : BsAt wr.heap.size (wr.alloc (.cells #[.int .i64 mC.t, .int .i64 mC.r, .int .i64 mC.f, .int .i64 mC.h] 25)) a1 mB.raw c1 := BsAt.raw HOK.out.1 (HX4.out.2.1.below ((Below.refl wr.heap.size wr).alloc (Nat.le_refl _) _)) HX4.out.2.2.2.2.2.2.1 HX4.out.2.2.2.2.2.2.2
          have hby : BsAt wr.heap.size (wr.alloc (.cells #[.int .i64 mC.t, .int .i64 mC.r, .int .i64 mC.f, .int .i64 mC.h] 25)) a2 c3 c2 := ⟨HX4.out.2.2.1.below ((Below.refl wr.heap.size wr).alloc (Nat.le_refl _) _), HX4.out.2.2.2.1, by rw [HX4.out.2.2.2.2.1]; exact hcc1, by rw [HX4.out.2.2.2.2.1]; decide⟩
          have hal := (Below.refl wr.heap.size wr).alloc (Nat.le_refl _) (.cells #[.int .i64 mC.t, .int .i64 mC.r, .int .i64 mC.f, .int .i64 mC.h] 25)
          have hbW := go_on HX4.out.1 hal
          have hcn := counts_any a1 a2 mB.raw c3 c1 c2 (some mB) (some mC) hsx hsy _ _ hal.size hbx hby (HT.out.1.below HT.out.2 hbW) (Nat.le_trans HT.out.2 hbW.size)
          rw [Mt.raw_len HOK.out.1, HX4.out.2.2.2.2.1, show cnt (some mB) (some mC) = some mC from (by show gstep (some mB) mC = _; simp only [gstep]; rw [if_pos (by omega)]), show optM (some mC) = mC.val from rfl, show cntE (some mC) = 0 from rfl] at hcn
          have HCN := Lib.hid hcn
          have tokw : (whereI (mC.t : Int) == 1) = true := by rw [hwm, hpar]; rfl
          have HW5 := Lib.hid (And.intro hbW (heap_alloc_new wr (.cells #[.int .i64 mC.t, .int .i64 mC.r, .int .i64 mC.f, .int .i64 mC.h] 25)))
          clear hsy hsx hbx hby hal hbW hcn hwm okB okC htB htC hpar
          go_wp2_with (go_at_call 16; refine (where_any _ _).mono ?_; rintro e w' ⟨rfl, rfl⟩)
          refine HCN.out.mono ?_
          rintro e w4 ⟨rfl, hb4⟩
          have hrW := go_row HW5.out.2 hb4
          have lW := (Array.getElem?_eq_some_iff.1 hrW).1
          have y0 := cell_of_row w4 _ 0 _ _ _ hrW
          have y1 := cell_of_row w4 _ 1 _ _ _ hrW
          have y2 := cell_of_row w4 _ 2 _ _ _ hrW
          have y3 := cell_of_row w4 _ 3 _ _ _ hrW
          simp only [List.getElem?_toArray, List.getElem?_cons_zero, List.getElem?_cons_succ] at y0 y1 y2 y3
          have hbf := (go_on HW5.out.1 hb4).alloc (go_on HW5.out.1 hb4).size (.cells #[.int .i64 mC.t, .int .i64 mC.r, .int .i64 mC.f, .int .i64 mC.h] 25)
          have HKN := Lib.hid (And.intro hbf (HK.out _ hbf))
          clear hrW hb4 hbf HW5 HCN hcv4 lB lC kb0 kb1 kb2 kb3 kc0 kc1 kc2 kc3
          go_wp2_with (go_at_call 8; refine HKN.out.2.mono ?_; rintro e w8 ⟨rfl, hb8⟩; have HB8 := Lib.hid hb8; clear hb8)
          go_ret
          exact ⟨rfl, go_on HKN.out.1 HB8.out⟩
        · have hpar : mC.t % 2 = 0 := by omega
          subst hcr
          have hsy : Opt 0 c3 (some mC) := by
            have h := isMt_self HOK.out.2.1
            rw [HR.out, hpar] at h
            exact h
          have hsx : Opt 1 mB.raw (some mB) := by
            have h := isMt_self HOK.out.1
            rw [show mB.t % 2 = 1 by omega] at h
            exact h
          have hbx : BsAt wr.heap.size (wr.alloc (.cells #[.int .i64 mC.t, .int .i64 mC.r, .int .i64 mC.f, .int .i64 mC.h] 25)) a1 mB.raw c1 := BsAt.raw HOK.out.1 (HX4.out.2.1.below ((Below.refl wr.heap.size wr).alloc (Nat.le_refl _) _)) HX4.out.2.2.2.2.2.2.1 HX4.out.2.2.2.2.2.2.2
          have hby : BsAt wr.heap.size (wr.alloc (.cells #[.int .i64 mC.t, .int .i64 mC.r, .int .i64 mC.f, .int .i64 mC.h] 25)) a2 c3 c2 := ⟨HX4.out.2.2.1.below ((Below.refl wr.heap.size wr).alloc (Nat.le_refl _) _), HX4.out.2.2.2.1, by rw [HX4.out.2.2.2.2.1]; exact hcc1, by rw [HX4.out.2.2.2.2.1]; decide⟩
          have hal := (Below.refl wr.heap.size wr).alloc (Nat.le_refl _) (.cells #[.int .i64 mC.t, .int .i64 mC.r, .int .i64 mC.f, .int .i64 mC.h] 25)
          have hbW := go_on HX4.out.1 hal
          have hcn := counts_any a2 a1 c3 mB.raw c2 c1 (some mC) (some mB) hsy hsx _ _ hal.size hby hbx (HT.out.1.below HT.out.2 hbW) (Nat.le_trans HT.out.2 hbW.size)
          rw [Mt.raw_len HOK.out.1, HX4.out.2.2.2.2.1, show cnt (some mC) (some mB) = some mC from (by show gstep (some mC) mB = _; simp only [gstep]; rw [if_neg (by omega)]), show optM (some mC) = mC.val from rfl, show cntE (some mC) = 0 from rfl] at hcn
          have HCN := Lib.hid hcn
          have tokw : (whereI (mC.t : Int) == 1) = false := by rw [hwm, hpar]; rfl
          have HW5 := Lib.hid (And.intro hbW (heap_alloc_new wr (.cells #[.int .i64 mC.t, .int .i64 mC.r, .int .i64 mC.f, .int .i64 mC.h] 25)))
          clear hsy hsx hbx hby hal hbW hcn hwm okB okC htB htC hpar
          go_wp2_with (go_at_call 16; refine (where_any _ _).mono ?_; rintro e w' ⟨rfl, rfl⟩)
          refine HCN.out.mono ?_
          rintro e w4 ⟨rfl, hb4⟩
          have hrW := go_row HW5.out.2 hb4
          have lW := (Array.getElem?_eq_some_iff.1 hrW).1
          have y0 := cell_of_row w4 _ 0 _ _ _ hrW
          have y1 := cell_of_row w4 _ 1 _ _ _ hrW
          have y2 := cell_of_row w4 _ 2 _ _ _ hrW
          have y3 := cell_of_row w4 _ 3 _ _ _ hrW
          simp only [List.getElem?_toArray, List.getElem?_cons_zero, List.getElem?_cons_succ] at y0 y1 y2 y3
          have hbf := (go_on HW5.out.1 hb4).alloc (go_on HW5.out.1 hb4).size (.cells #[.int .i64 mC.t, .int .i64 mC.r, .int .i64 mC.f, .int .i64 mC.h] 25)
          have HKN := Lib.hid (And.intro hbf (HK.out _ hbf))
          clear hrW hb4 hbf HW5 HCN hcv4 lB lC kb0 kb1 kb2 kb3 kc0 kc1 kc2 kc3
          go_wp2_with (go_at_call 8; refine HKN.out.2.mono ?_; rintro e w8 ⟨rfl, hb8⟩; have HB8 := Lib.hid hb8; clear hb8)
          go_ret
          exact ⟨rfl, go_on HKN.out.1 HB8.out⟩
      · have hq : (c3 == r) = false := by simpa using hcr
        have hqn : (c3 != r) = true := by simpa using hcr
        by_cases hpar : mC.t % 2 = 1
        · skip
          have hsy : Opt 1 c3 none := by
            intro m' hm'
            exact hcr (HX4.out.2.2.2.2.2.1 (look_raw (parseE_look hm'.look.2.2.1)).2.2.2.2.1)
          have hsx : Opt 0 mB.raw (some mB) := by
            have h := isMt_self HOK.out.1
            rw [show mB.t % 2 = 0 by omega] at h
            exact h
          have hbx : BsAt wr.heap.size (wr.alloc (.cells #[.int .i64 mB.t, .int .i64 mB.r, .int .i64 mB.f, .int .i64 mB.h] 25)) a1 mB.raw c1 := BsAt.raw HOK.out.1 (HX4.out.2.1.below ((Below.refl wr.heap.size wr).alloc (Nat.le_refl _) _)) HX4.out.2.2.2.2.2.2.1 HX4.out.2.2.2.2.2.2.2
          have hby : BsAt wr.heap.size (wr.alloc (.cells #[.int .i64 mB.t, .int .i64 mB.r, .int .i64 mB.f, .int .i64 mB.h] 25)) a2 c3 c2 := ⟨HX4.out.2.2.1.below ((Below.refl wr.heap.size wr).alloc (Nat.le_refl _) _), HX4.out.2.2.2.1, by rw [HX4.out.2.2.2.2.1]; exact hcc1, by rw [HX4.out.2.2.2.2.1]; decide⟩
          have hal := (Below.refl wr.heap.size wr).alloc (Nat.le_refl _) (.cells #[.int .i64 mB.t, .int .i64 mB.r, .int .i64 mB.f, .int .i64 mB.h] 25)
          have hbW := go_on HX4.out.1 hal
          have hcn := counts_any a1 a2 mB.raw c3 c1 c2 (some mB) none hsx hsy _ _ hal.size hbx hby (HT.out.1.below HT.out.2 hbW) (Nat.le_trans HT.out.2 hbW.size)
          rw [Mt.raw_len HOK.out.1, HX4.out.2.2.2.2.1, show cnt (some mB) none = some mB from rfl, show optM (some mB) = mB.val from rfl, show cntE (some mB) = 0 from rfl] at hcn
          have HCN := Lib.hid hcn
          have tokw : (whereI (mC.t : Int) == 1) = true := by rw [hwm, hpar]; rfl
          have HW5 := Lib.hid (And.intro hbW (heap_alloc_new wr (.cells #[.int .i64 mB.t, .int .i64 mB.r, .int .i64 mB.f, .int .i64 mB.h] 25)))
          clear hsy hsx hbx hby hal hbW hcn hwm okB okC htB htC hpar
          go_wp2_with (go_at_call 16; refine (where_any _ _).mono ?_; rintro e w' ⟨rfl, rfl⟩)
          refine HCN.out.mono ?_
          rintro e w4 ⟨rfl, hb4⟩
          have hrW := go_row HW5.out.2 hb4
          have lW := (Array.getElem?_eq_some_iff.1 hrW).1
          have y0 := cell_of_row w4 _ 0 _ _ _ hrW
          have y1 := cell_of_row w4 _ 1 _ _ _ hrW
          have y2 := cell_of_row w4 _ 2 _ _ _ hrW
          have y3 := cell_of_row w4 _ 3 _ _ _ hrW
          simp only [List.getElem?_toArray, List.getElem?_cons_zero, List.getElem?_cons_succ] at y0 y1 y2 y3
          have hbf := (go_on HW5.out.1 hb4).alloc (go_on HW5.out.1 hb4).size (.cells #[.int .i64 mB.t, .int .i64 mB.r, .int .i64 mB.f, .int .i64 mB.h] 25)
          have HKN := Lib.hid (And.intro hbf (HK.out _ hbf))
          clear hrW hb4 hbf HW5 HCN hcv4 lB lC kb0 kb1 kb2 kb3 kc0 kc1 kc2 kc3
          go_wp2_with (go_at_call 8; refine HKN.out.2.mono ?_; rintro e w8 ⟨rfl, hb8⟩; have HB8 := Lib.hid hb8; clear hb8)
          go_ret
          exact ⟨rfl, go_on HKN.out.1 HB8.out⟩
        · have hpar : mC.t % 2 = 0 := by omega
          have hsy : Opt 0 c3 none := by
            intro m' hm'
            exact hcr (HX4.out.2.2.2.2.2.1 (look_raw (parseE_look hm'.look.2.2.1)).2.2.2.2.1)
          have hsx : Opt 1 mB.raw (some mB) := by
            have h := isMt_self HOK.out.1
            rw [show mB.t % 2 = 1 by omega] at h
            exact h
          have hbx : BsAt wr.heap.size (wr.alloc (.cells #[.int .i64 mB.t, .int .i64 mB.r, .int .i64 mB.f, .int .i64 mB.h] 25)) a1 mB.raw c1 := BsAt.raw HOK.out.1 (HX4.out.2.1.below ((Below.refl wr.heap.size wr).alloc (Nat.le_refl _) _)) HX4.out.2.2.2.2.2.2.1 HX4.out.2.2.2.2.2.2.2
          have hby : BsAt wr.heap.size (wr.alloc (.cells #[.int .i64 mB.t, .int .i64 mB.r, .int .i64 mB.f, .int .i64 mB.h] 25)) a2 c3 c2 := ⟨HX4.out.2.2.1.below ((Below.refl wr.heap.size wr).alloc (Nat.le_refl _) _), HX4.out.2.2.2.1, by rw [HX4.out.2.2.2.2.1]; exact hcc1, by rw [HX4.out.2.2.2.2.1]; decide⟩
          have hal := (Below.refl wr.heap.size wr).alloc (Nat.le_refl _) (.cells #[.int .i64 mB.t, .int .i64 mB.r, .int .i64 mB.f, .int .i64 mB.h] 25)
          have hbW := go_on HX4.out.1 hal
          have hcn := counts_any a2 a1 c3 mB.raw c2 c1 none (some mB) hsy hsx _ _ hal.size hby hbx (HT.out.1.below HT.out.2 hbW) (Nat.le_trans HT.out.2 hbW.size)
          rw [Mt.raw_len HOK.out.1, HX4.out.2.2.2.2.1, show cnt none (some mB) = some mB from rfl, show optM (some mB) = mB.val from rfl, show cntE (some mB) = 0 from rfl] at hcn
          have HCN := Lib.hid hcn
          have tokw : (whereI (mC.t : Int) == 1) = false := by rw [hwm, hpar]; rfl
          have HW5 := Lib.hid (And.intro hbW (heap_alloc_new wr (.cells #[.int .i64 mB.t, .int .i64 mB.r, .int .i64 mB.f, .int .i64 mB.h] 25)))
          clear hsy hsx hbx hby hal hbW hcn hwm okB okC htB htC hpar
          go_wp2_with (go_at_call 16; refine (where_any _ _).mono ?_; rintro e w' ⟨rfl, rfl⟩)
          refine HCN.out.mono ?_
          rintro e w4 ⟨rfl, hb4⟩
          have hrW := go_row HW5.out.2 hb4
          have lW := (Array.getElem?_eq_some_iff.1 hrW).1
          have y0 := cell_of_row w4 _ 0 _ _ _ hrW
          have y1 := cell_of_row w4 _ 1 _ _ _ hrW
          have y2 := cell_of_row w4 _ 2 _ _ _ hrW
          have y3 := cell_of_row w4 _ 3 _ _ _ hrW
          simp only [List.getElem?_toArray, List.getElem?_cons_zero, List.getElem?_cons_succ] at y0 y1 y2 y3
          have hbf := (go_on HW5.out.1 hb4).alloc (go_on HW5.out.1 hb4).size (.cells #[.int .i64 mB.t, .int .i64 mB.r, .int .i64 mB.f, .int .i64 mB.h] 25)
          have HKN := Lib.hid (And.intro hbf (HK.out _ hbf))
          clear hrW hb4 hbf HW5 HCN hcv4 lB lC kb0 kb1 kb2 kb3 kc0 kc1 kc2 kc3
          go_wp2_with (go_at_call 8; refine HKN.out.2.mono ?_; rintro e w8 ⟨rfl, hb8⟩; have HB8 := Lib.hid hb8; clear hb8)
          go_ret
          exact ⟨rfl, go_on HKN.out.1 HB8.out⟩
end Go.Proofs.YtaijjlaheoamaaaDoor
/- MetaTorn: for every two metas and every three numbers of bits: where a meta's page was written over with the next but one's, and one to three bits of that are turned, the one between counts; unturned that does; it answers true, and the arguments read as before. No condition but the table, which the card ties to the program's text. -/
namespace Go.Proofs.YtaijjlaheoamaaaDoor.metaTorn
open Go.ChangeShapes Go.WideShapes Go.ChangeAt Go.RowKit

theorem laid_met (os : Os) : laidMet Tryd.prog Rows.metaTornRow.laid ((laidWorld os).forCall (fun _ _ => 0) ⟨#[], #[.agg #[.int .i64 0, .int .i64 0, .int .i64 0, .int .i64 0], .agg #[.int .i64 0, .int .i64 0, .int .i64 0, .int .i64 0], .agg #[.int .i64 0, .int .i64 0, .int .i64 0]], []⟩).memory :=
  laidMet_of_run' 8 (by kernel_rfl) (by kernel_rfl)
theorem reads (os : Os) {H : Type} (enc : TypeId × Value → H) : ∃ places, DataW.whole enc Tryd.prog ((laidWorld os).forCall (fun _ _ => 0) ⟨#[], #[.agg #[.int .i64 0, .int .i64 0, .int .i64 0, .int .i64 0], .agg #[.int .i64 0, .int .i64 0, .int .i64 0, .int .i64 0], .agg #[.int .i64 0, .int .i64 0, .int .i64 0]], []⟩).memory Tryd.f5.params.toList Rows.metaTornSpec.vars false (#[.agg #[.int .i64 0, .int .i64 0, .int .i64 0, .int .i64 0], .agg #[.int .i64 0, .int .i64 0, .int .i64 0, .int .i64 0], .agg #[.int .i64 0, .int .i64 0, .int .i64 0]] : Array Value).toList 8 = some ([.agg [.lit (.int .i64 0), .lit (.int .i64 0), .lit (.int .i64 0), .lit (.int .i64 0)], .agg [.lit (.int .i64 0), .lit (.int .i64 0), .lit (.int .i64 0), .lit (.int .i64 0)], .agg [.lit (.int .i64 0), .lit (.int .i64 0), .lit (.int .i64 0)]], [], places) :=
  ⟨[], by kernel_rfl⟩

set_option maxRecDepth 100000 in
theorem contract (H : Type) (enc : TypeId × Value → H) (W : World) (base : Nat) (args : Array Value) (ds gs : List (DataW H)) (before : List MemPlace)
    (hval : ∀ (j : Nat) t v, Tryd.f5.params[j]? = some t → args[j]? = some v → Value.okWide Tryd.prog W .any base t v)
    (hW : DataW.Whole enc Tryd.prog Tryd.f5.params.toList Rows.metaTornSpec.vars false W args.toList ds gs before) (hL : laidMetH Tryd.prog Rows.metaTornRow.laid W) :
    Calls Tryd.prog 5 args W fun e W' => ∃ v, e = .returned v ∧ Rows.metaTornSpec.post enc Tryd.prog Tryd.f5 false true false false W args v W' := by
  have hW' := hW
  obtain ⟨p, q, hA0, hV, rfl, hfz, hnd⟩ := hW
  have hA : DataW.TrodAll enc Tryd.prog W 0 (fun _ => true) true Tryd.f5.params.toList args.toList ds p := hA0
  rw [Tryd.params5] at hA hval
  obtain ⟨rfl, rfl⟩ := trodVars_none hV
  obtain ⟨v0, vs0, d0, ds0, p0, q0, hargs, rfl, rfl, h0, r0⟩ := trodAll_cons hA
  obtain ⟨v1, vs1, d1, ds1, p1, q1, rfl, rfl, rfl, h1, r1⟩ := trodAll_cons r0
  obtain ⟨v2, vs2, d2, ds2, p2, q2, rfl, rfl, rfl, h2, r2⟩ := trodAll_cons r1
  obtain ⟨rfl, rfl, rfl⟩ := trodAll_nil r2
  obtain rfl : args = #[v0, v1, v2] := by cases args; simp_all
  obtain ⟨ta, ra, fa, ha, rfl⟩ := open_meta (hval 0 25 v0 rfl rfl) h0
  obtain ⟨tb, rb, fb, hb', rfl⟩ := open_meta (hval 1 25 v1 rfl rfl) h1
  obtain ⟨z0, z1, z2, rfl⟩ := open_three Tryd.underlying41 Tryd.underlying3 (by kernel_rfl) (by kernel_rfl) (hval 2 41 v2 rfl rfl) h2
  refine (metaTorn_any ta ra fa ha tb rb fb hb' z0 z1 z2 W (tab hL) (by simpa using tab_size (tab hL))).mono fun e W' ⟨he, hb⟩ => ?_
  subst he
  exact ⟨_, rfl, law_post laidOut (fun t ht => types_ok t (by rw [Tryd.params5] at ht; revert ht; decide +revert)) rfl hW' rfl rfl rfl Tryd.underlying4 (by kernel_rfl) hb⟩

set_option maxRecDepth 100000 in
theorem lifted (os : Os) (started : os.Started) (H : Type) (enc : TypeId × Value → H) (F : Stop.Interp) :
    ReturnsInHanded {} Tryd.checked os 5 .any ((OpenSpec.ofChange Rows.metaTornSpec).preRow enc Tryd.prog Tryd.f5 Rows.metaTornRow.domain false Rows.metaTornRow.laid) (((OpenSpec.ofChange Rows.metaTornSpec).at F).post enc Tryd.prog Tryd.f5 false true false false) := by
  obtain ⟨places, hx⟩ := reads os enc
  refine returnsInHanded_of_row (C := Tryd.checked) (s := OpenSpec.ofChange Rows.metaTornSpec) own started (by kernel_rfl) Tryd.func5
    (witness_row_at (enc := enc) (C := Tryd.checked) false (laidWorld os) #[.agg #[.int .i64 0, .int .i64 0, .int .i64 0, .int .i64 0], .agg #[.int .i64 0, .int .i64 0, .int .i64 0, .int .i64 0], .agg #[.int .i64 0, .int .i64 0, .int .i64 0]] rfl (by kernel_rfl) (by kernel_rfl) (by kernel_rfl)
      (OpenSpec.preRow_of_cond 8 hx (by kernel_rfl) (fun k hk => by cases hk) (by kernel_rfl) (laid_met os))) ?_
  intro W base args ds gs before hval hW _ _ _ hL _ _
  exact contract H enc W base args ds gs before hval hW hL

theorem said : Rows.MetaTornSaid :=
  OpenClaim.holds_of_cond 5 Tryd.f5 rfl rfl rfl rfl rfl rfl rfl ⟨rfl, rfl, rfl, rfl, rfl⟩ rfl rfl rfl rfl rfl (by kernel_rfl) Tryd.func5 (by kernel_rfl)
    (of_decide_eq_true (by kernel_rfl)) (by unfold Func.isWrapper; first | (rw [if_pos (by decide +kernel)]; kernel_rfl) | (rw [if_neg (by decide +kernel)]; exact ⟨rfl, rfl⟩))
    (fun os started H enc _ F => by rw [OpenClaim.pre_eq_preRow]; exact lifted os started H enc F)

theorem plain (f : FuncId) (fn : Func) (hf : Tryd.pinned.checked.prog.funcNamed "pigeonry/pigeonrylaw06.MetaTorn" = some f) (hfn : Tryd.pinned.checked.prog.funcs[f]? = some fn) :
    true = Tryd.pinned.checked.prog.looks [] ∧ ∀ (j : Nat) t, fn.params[j]? = some t → Tryd.pinned.checked.prog.wantsStandIn t = false := by
  obtain rfl : f = 5 := Option.some.inj ((show Tryd.prog.funcNamed "pigeonry/pigeonrylaw06.MetaTorn" = some 5 by kernel_rfl).symm.trans hf) |>.symm
  obtain rfl : fn = Tryd.f5 := (Option.some.inj (Tryd.func5.symm.trans hfn)).symm
  refine ⟨by kernel_rfl, fun j t ht => ?_⟩
  rw [Tryd.params5] at ht
  have h : ∀ t ∈ Tryd.f5.params.toList, Tryd.prog.wantsStandIn t = false := by
    have h : ((Tryd.f5.params.toList).all fun t => !Tryd.prog.wantsStandIn t) = true := by kernel_rfl
    intro t ht
    simpa using List.all_eq_true.1 h t ht
  exact h t (by rw [Tryd.params5]; exact Array.mem_toList_iff.2 (Array.mem_of_getElem? ht))

/-- THE CARD. -/
theorem card : Rows.MetaTornCardSaid :=
  Claim7.holds_tied_plain_at .later [] _ _ _ _ said (fun _ h => by cases h) (by kernel_rfl) (fun _ h => by cases h) metaTorn_row_tie rfl ⟨rfl, rfl⟩ (by kernel_rfl) rfl plain (by kernel_rfl)
end Go.Proofs.YtaijjlaheoamaaaDoor.metaTorn

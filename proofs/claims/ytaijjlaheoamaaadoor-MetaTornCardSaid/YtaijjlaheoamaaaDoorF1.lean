/- Texts of the proof in one file, in build order: CrcDist. -/
import Derived.Test.YtaijjlaheoamaaaDoorG3
/- Plain numbers for layer 1: what a turned bit does to a sum; of at most 8000 bits no one, two or three that are turned together leave the sum as it was. The search is a computation by the kernel: three tables of remainders hold what single bits do. -/
namespace Go.Proofs.YtaijjlaheoamaaaDoor

/-- One halving. -/
def halve (q : Nat) : Nat := bif Nat.beq (q % 2) 1 then (q / 2) ^^^ 3988292384 else q / 2
/-- m halvings. -/
def halves : Nat → Nat → Nat
  | 0, q => q
  | m + 1, q => halves m (halve q)
theorem halves_succ : ∀ m q, halves (m + 1) q = halve (halves m q)
  | 0, _ => rfl
  | m + 1, q => halves_succ m (halve q)
theorem halves_add : ∀ m n q, halves (m + n) q = halves n (halves m q)
  | 0, n, q => by rw [Nat.zero_add]; rfl
  | m + 1, n, q => by rw [show m + 1 + n = (m + n) + 1 by omega]; exact halves_add m n (halve q)
theorem halve_lin : Lin halve := by
  refine ⟨fun a ha => ?_, fun a b ha hb => ?_⟩
  · unfold halve
    cases Nat.beq (a % 2) 1
    · simp; omega
    · exact xor_lt32 (by omega) (by decide)
  · have hx : (a ^^^ b) % 2 = a % 2 ^^^ b % 2 := Nat.xor_mod_two_pow (n := 1)
    have hd : (a ^^^ b) / 2 = a / 2 ^^^ b / 2 := Nat.xor_div_two_pow (n := 1)
    unfold halve
    rw [hx, hd]
    rcases Nat.mod_two_eq_zero_or_one a with h1 | h1 <;> rcases Nat.mod_two_eq_zero_or_one b with h2 | h2 <;> rw [h1, h2]
    · rfl
    · show (a / 2 ^^^ b / 2) ^^^ 3988292384 = a / 2 ^^^ (b / 2 ^^^ 3988292384)
      rw [Nat.xor_assoc]
    · show (a / 2 ^^^ b / 2) ^^^ 3988292384 = (a / 2 ^^^ 3988292384) ^^^ b / 2
      rw [Nat.xor_assoc, Nat.xor_assoc, Nat.xor_comm (b / 2)]
    · show a / 2 ^^^ b / 2 = (a / 2 ^^^ 3988292384) ^^^ (b / 2 ^^^ 3988292384)
      rw [xor_xchg, Nat.xor_self, Nat.xor_zero]
theorem halves_lin : ∀ m, Lin (halves m)
  | 0 => Lin.id
  | m + 1 => (halves_lin m).comp halve_lin
/-- Halving loses nothing. -/
theorem halve_zero {a : Nat} (ha : a < 4294967296) (h : halve a = 0) : a = 0 := by
  unfold halve at h
  rcases Nat.mod_two_eq_zero_or_one a with h1 | h1 <;> rw [h1] at h
  · have : a / 2 = 0 := h
    omega
  · have h2 : (a / 2) ^^^ 3988292384 = 0 := h
    have : a / 2 = 3988292384 := by
      have := congrArg (· ^^^ 3988292384) h2
      simpa [Nat.xor_assoc] using this
    omega
theorem halves_zero : ∀ m {a : Nat}, a < 4294967296 → halves m a = 0 → a = 0
  | 0, _, _, h => h
  | m + 1, _, ha, h => halve_zero ha (halves_zero m (halve_lin.lt _ ha) h)

/- THE SEARCH. -/
/-- k at n, n reckoned first. -/
def force {α : Type} (n : Nat) (k : Nat → α) : α := @Nat.rec (fun _ => α) (k 0) (fun m _ => k (m + 1)) n
theorem force_eq {α : Type} (n : Nat) (k : Nat → α) : force n k = k n := by cases n <;> rfl
/-- The table of the remainders by p of q, of its halving, and so on: 'fuel' of them. -/
def remTable (p : Nat) (fuel : Nat) : Nat → Nat → Nat :=
  @Nat.rec (fun _ => Nat → Nat → Nat) (fun _ t => t) (fun _ ih q t => force (Nat.lor t (Nat.shiftLeft 1 (q % p))) fun t' => force (halve q) fun q' => ih q' t') fuel
theorem remTable_has (p : Nat) : ∀ fuel q t, (∀ i, t.testBit i = true → (remTable p fuel q t).testBit i = true) ∧ ∀ b, b < fuel → (remTable p fuel q t).testBit (halves b q % p) = true
  | 0, q, t => ⟨fun _ h => h, fun b hb => by omega⟩
  | fuel + 1, q, t => by
    have e : remTable p (fuel + 1) q t = remTable p fuel (halve q) (t ||| (1 <<< (q % p))) := by
      show force _ (fun t' => force (halve q) fun q' => remTable p fuel q' t') = _
      rw [force_eq, force_eq]; rfl
    obtain ⟨h1, h2⟩ := remTable_has p fuel (halve q) (t ||| (1 <<< (q % p)))
    rw [e]
    refine ⟨fun i hi => h1 i (by simp [Nat.testBit_or, hi]), fun b hb => ?_⟩
    cases b with
    | zero => exact h1 _ (by simp [halves, Nat.testBit_or, Nat.testBit_shiftLeft])
    | succ b => exact h2 b (by omega)
/-- Of q, of its halving, and so on, 'fuel' of them: is 1, put to it, none of the tables'? -/
def search (t1 t2 t3 : Nat) (fuel : Nat) : Nat → Bool :=
  @Nat.rec (fun _ => Nat → Bool) (fun _ => true) (fun _ ih q => force (Nat.xor 1 q) fun v =>
    (Nat.beq (Nat.land (Nat.shiftRight t1 (v % 262139)) 1) 0 || Nat.beq (Nat.land (Nat.shiftRight t2 (v % 262133)) 1) 0 || Nat.beq (Nat.land (Nat.shiftRight t3 (v % 262127)) 1) 0) && !(Nat.beq v 0) && force (halve q) fun q' => ih q') fuel
theorem testBit_false {t i : Nat} (h : Nat.beq (Nat.land (Nat.shiftRight t i) 1) 0 = true) : t.testBit i = false := by
  have h2 : (t >>> i) &&& 1 = 0 := Nat.eq_of_beq_eq_true h
  unfold Nat.testBit
  rw [Nat.and_comm, h2]; rfl
theorem search_ok (t1 t2 t3 : Nat) : ∀ fuel q, search t1 t2 t3 fuel q = true → ∀ a, a < fuel →
    (1 ^^^ halves a q ≠ 0) ∧ (t1.testBit ((1 ^^^ halves a q) % 262139) = false ∨ t2.testBit ((1 ^^^ halves a q) % 262133) = false ∨ t3.testBit ((1 ^^^ halves a q) % 262127) = false)
  | 0, _, _, a, ha => by omega
  | fuel + 1, q, h, a, ha => by
    have e : search t1 t2 t3 (fuel + 1) q = (((Nat.beq (Nat.land (Nat.shiftRight t1 ((1 ^^^ q) % 262139)) 1) 0 || Nat.beq (Nat.land (Nat.shiftRight t2 ((1 ^^^ q) % 262133)) 1) 0 || Nat.beq (Nat.land (Nat.shiftRight t3 ((1 ^^^ q) % 262127)) 1) 0) && !(Nat.beq (1 ^^^ q) 0)) && search t1 t2 t3 fuel (halve q)) := by
      show force (Nat.xor 1 q) (fun v => ((Nat.beq (Nat.land (Nat.shiftRight t1 (v % 262139)) 1) 0 || Nat.beq (Nat.land (Nat.shiftRight t2 (v % 262133)) 1) 0 || Nat.beq (Nat.land (Nat.shiftRight t3 (v % 262127)) 1) 0) && !(Nat.beq v 0)) && force (halve q) fun q' => search t1 t2 t3 fuel q') = _
      rw [force_eq, force_eq]; rfl
    rw [e, Bool.and_eq_true, Bool.and_eq_true] at h
    obtain ⟨⟨h1, h2⟩, h3⟩ := h
    cases a with
    | zero =>
      refine ⟨(fun h0 => by
        have h0' : 1 ^^^ q = 0 := h0
        rw [h0'] at h2; cases h2), ?_⟩
      rw [Bool.or_eq_true, Bool.or_eq_true] at h1
      rcases h1 with (h1 | h1) | h1
      · exact .inl (testBit_false h1)
      · exact .inr (.inl (testBit_false h1))
      · exact .inr (.inr (testBit_false h1))
    | succ a => exact search_ok t1 t2 t3 fuel (halve q) h3 a (by omega)

def searched : Bool := force (remTable 262139 8000 1 0) fun t1 => force (remTable 262133 8000 1 0) fun t2 => force (remTable 262127 8000 1 0) fun t3 => search t1 t2 t3 7999 (halve 1)
set_option maxRecDepth 1000000 in
theorem searched_true : searched = true := by kernel_rfl
end Go.Proofs.YtaijjlaheoamaaaDoor

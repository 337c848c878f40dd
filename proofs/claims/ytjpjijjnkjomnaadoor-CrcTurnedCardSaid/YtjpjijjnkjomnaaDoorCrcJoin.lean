/- The contracts of layer 1's leads and of Join: what many bytes of 0 make of a sum, by squaring; the sum of two runs, one behind the other. -/
import Derived.WalkKit
import Derived.Outline
import Derived.LoopTactic
import Derived.Lib.Hide
import Derived.Test.YtjpjijjnkjomnaaDoorCrcLen
import Derived.Test.YtjpjijjnkjomnaaDoorCrcLin
import Derived.Test.YtjpjijjnkjomnaaDoorCrcSum
namespace Go.Proofs.YtjpjijjnkjomnaaDoor
open Go.RowKit

theorem and1_32 {x : Nat} (h : x < 4294967296) : bits .and .u32 (x : Int) 1 = ((x % 2 : Nat) : Int) := by
  have := u32_and_nat x 1 h (by decide)
  rw [show ((1 : Nat) : Int) = 1 from rfl] at this
  rw [this, Nat.and_one_is_mod]

/-- Block B holds f of each of the 32 bits. -/
def IsLead (w : World) (B : Nat) (f : Nat → Nat) : Prop := ∀ i, i < 32 → w.cell? ⟨B, i, none⟩ = some (.int .u32 (f (2 ^ i) : Int))
theorem IsLead.below {A C : World} {B n₀ : Nat} {f : Nat → Nat} (h : IsLead A B f) (hb : Below n₀ A C) (hB : B < n₀) : IsLead C B f := fun i hi => (hb.cell (p := ⟨B, i, none⟩) hB).trans (h i hi)

set_option maxHeartbeats 1000000 in
theorem of_any (B : Nat) (f : Nat → Nat) (hf : Lin f) (s : Nat) (hs : s < 4294967296) (w : World) (hc : IsLead w B f) :
    Calls Tryd.prog 26 #[.pointer (some ⟨B, 0, none⟩), .int .u32 s] w fun e w' => e = .returned (.int .u32 (f s : Int)) ∧ w = w' := by
  have HE := Lib.hid (leadOf_all hf hs)
  go_enter Tryd.func26, Tryd.ntmps26
  go_wp2
  go_loop [5, 7] (fun t i => ∃ k : Nat, k ≤ 32 ∧ i = .int .i64 k ∧ t = .int .u32 (leadOf f s k : Int)) (fun _ i => 32 - (intOf i).toNat)
  case atStart => exact ⟨0, Nat.zero_le _, rfl, rfl⟩
  case round =>
    obtain ⟨k, hk, rfl, rfl⟩ := hrel
    by_cases hlt : k < 32
    · have hcell := hc k hlt
      have ha := and1_32 (x := s / 2 ^ k) (Nat.lt_of_le_of_lt (Nat.div_le_self _ _) hs)
      have hl := leadOf_lt hf hs hk
      have hx := xor32 hl (hf.lt _ (pow32 hlt))
      by_cases hb : s / 2 ^ k % 2 = 1
      · have hbit : (bits .and .u32 ((s : Int) / 2 ^ k) 1 == 1) = true := by
          rw [show ((s : Int) / 2 ^ k) = ((s / 2 ^ k : Nat) : Int) by simp, ha, hb]; rfl
        have HL : Hid (leadOf f s (k + 1) = leadOf f s k ^^^ f (2 ^ k)) := Lib.hid (by rw [leadOf, if_pos hb])
        clear ha hl hb
        go_wp2
        go_round
        case rel => exact ⟨k + 1, by omega, by go_num, by rw [HL.out]⟩
        case measure => simp [intOf]; omega
      · have hbit : (bits .and .u32 ((s : Int) / 2 ^ k) 1 == 1) = false := by
          rw [show ((s : Int) / 2 ^ k) = ((s / 2 ^ k : Nat) : Int) by simp, ha, show s / 2 ^ k % 2 = 0 by omega]; rfl
        have HL : Hid (leadOf f s (k + 1) = leadOf f s k) := Lib.hid (by rw [leadOf, if_neg hb])
        clear ha hl hb hx
        go_wp2
        go_round
        case rel => exact ⟨k + 1, by omega, by go_num, by rw [HL.out]⟩
        case measure => simp [intOf]; omega
    · obtain rfl : k = 32 := by omega
      go_wp2
      go_ret
      exact ⟨by rw [HE.out]; rfl, rfl⟩

/-- A block of 32 numbers under way: the first k are f of their bits. -/
def LeadTo (w : World) (B : Nat) (f : Nat → Nat) (k : Nat) : Prop := ∀ i, i < 32 → w.cell? ⟨B, i, none⟩ = some (.int .u32 ((if i < k then f (2 ^ i) else 0 : Nat) : Int)) ∧ w.frozen? ⟨B, i, none⟩ = false
theorem LeadTo.set {w : World} {B k : Nat} {f : Nat → Nat} (h : LeadTo w B f k) (hk : k < 32) : LeadTo (w.setCell ⟨B, k, none⟩ (.int .u32 (f (2 ^ k) : Int))) B f (k + 1) := fun i hi => by
  refine ⟨?_, by rw [World.frozen?_setCell]; exact (h i hi).2⟩
  by_cases e : i = k
  · subst e
    rw [if_pos (by omega)]
    exact World.cell?_setCell_same' _ _ _ (by rw [(h i hi).1]; rfl)
  · rw [World.cell?_setCell_other _ _ _ _ (fun h => e (by cases h; rfl)), (h i hi).1]
    by_cases e2 : i < k
    · rw [if_pos e2, if_pos (by omega)]
    · rw [if_neg e2, if_neg (by omega)]
theorem LeadTo.done {w : World} {B : Nat} {f : Nat → Nat} (h : LeadTo w B f 32) : IsLead w B f := fun i hi => by rw [(h i hi).1, if_pos hi]

/-- What a fresh lead is: a block of the call's own. -/
def LeadPost (w : World) (f : Nat → Nat) (e : Ending) (w' : World) : Prop := ∃ B, e = .returned (.pointer (some ⟨B, 0, none⟩)) ∧ w.heap.size ≤ B ∧ B < w'.heap.size ∧ IsLead w' B f ∧ Below w.heap.size w w'

theorem leadTo_new (w : World) (f : Nat → Nat) (t : TypeId) : LeadTo (w.alloc (.cells (Array.replicate 32 (.int .u32 0)) t)) w.heap.size f 0 := fun i hi => by
  have hh := World.alloc_heap_new w (.cells (Array.replicate 32 (.int .u32 0)) t)
  constructor
  · unfold World.cell?; simp only [hh]; simp [hi]
  · unfold World.frozen?; simp only [hh]; simp

theorem step_zero (s : Nat) (hs : s < 4294967296) (w : World) (ht : Tab w) :
    Calls Tryd.prog 23 #[.int .u32 s, .int .u8 0] w fun e w' => e = .returned (.int .u32 (crcZ s : Int)) ∧ w = w' := step_any s 0 hs w ht

set_option maxHeartbeats 1000000 in
theorem leadOne_any (w : World) (ht : Tab w) (h1w : 1 ≤ w.heap.size) :
    Calls Tryd.prog 24 #[] w fun e w' => LeadPost w crcZ e w' := by
  have hn := leadTo_new w crcZ 62
  simp only [Array.replicate_succ, Array.replicate_zero, List.push_toArray, List.nil_append, List.cons_append] at hn
  go_enter Tryd.func24, Tryd.ntmps24
  go_wp2
  go_loopw [3] (fun i wr => ∃ k : Nat, k ≤ 32 ∧ i = .int .i64 k ∧ Below w.heap.size w wr ∧ w.heap.size < wr.heap.size ∧ LeadTo wr w.heap.size crcZ k) (fun i _ => 32 - (intOf i).toNat)
  case atStart => exact ⟨0, Nat.zero_le _, rfl, (Below.refl _ _).alloc (Nat.le_refl _) _, by simp, hn⟩
  case round =>
    obtain ⟨k, hk, rfl, hB, hsz, hL⟩ := hrel
    by_cases hlt : k < 32
    · have hT := ht.below h1w hB
      have hcell := (hL k hlt).1
      rw [if_neg (Nat.lt_irrefl k)] at hcell
      have hfr := (hL k hlt).2
      have hs2 := hL.set hlt
      obtain ⟨q, hq⟩ : ∃ q, 2 ^ k = q := ⟨_, rfl⟩
      have hq32 : q < 4294967296 := hq ▸ pow32 hlt
      have hpq : (2 : Int) ^ k % 4294967296 = (q : Int) := by
        rw [show (2 : Int) ^ k = ((2 ^ k : Nat) : Int) by rw [Int.natCast_pow]; rfl, hq]; omega
      rw [hq] at hs2
      clear hq
      go_wp2_with (go_at_call 23; refine (step_zero _ hq32 _ hT).mono ?_; rintro e w' ⟨rfl, rfl⟩)
      go_roundw
      case rel => exact ⟨k + 1, by omega, by go_num, hB.setCell (p := ⟨w.heap.size, k, none⟩) (Nat.le_refl _) _, by simpa [World.setCell] using hsz, hs2⟩
      case measure => simp [intOf]; omega
    · obtain rfl : k = 32 := by omega
      go_wp2
      go_ret
      exact ⟨_, rfl, Nat.le_refl _, hsz, hL.done, hB⟩

set_option maxHeartbeats 1000000 in
/-- times: of two leads that of both. -/
theorem times_any (B : Nat) (f : Nat → Nat) (hf : Lin f) (w : World) (hl : IsLead w B f) (hBw : B < w.heap.size) :
    Calls Tryd.prog 27 #[.pointer (some ⟨B, 0, none⟩), .pointer (some ⟨B, 0, none⟩)] w fun e w' => LeadPost w (fun s => f (f s)) e w' := by
  have hn := leadTo_new w (fun s => f (f s)) 62
  simp only [Array.replicate_succ, Array.replicate_zero, List.push_toArray, List.nil_append, List.cons_append] at hn
  go_enter Tryd.func27, Tryd.ntmps27
  go_wp2
  go_loopw [7] (fun i wr => ∃ k : Nat, k ≤ 32 ∧ i = .int .i64 k ∧ Below w.heap.size w wr ∧ w.heap.size < wr.heap.size ∧ LeadTo wr w.heap.size (fun s => f (f s)) k) (fun i _ => 32 - (intOf i).toNat)
  case atStart => exact ⟨0, Nat.zero_le _, rfl, (Below.refl _ _).alloc (Nat.le_refl _) _, by simp, hn⟩
  case round =>
    obtain ⟨k, hk, rfl, hB, hsz, hL⟩ := hrel
    by_cases hlt : k < 32
    · have hl2 := hl.below hB hBw
      have hcell := (hL k hlt).1
      rw [if_neg (Nat.lt_irrefl k)] at hcell
      have hfr := (hL k hlt).2
      have hs2 := hL.set hlt
      have hc2 := hl2 k hlt
      have hq := hf.lt _ (pow32 hlt)
      obtain ⟨q, hqq⟩ : ∃ q, f (2 ^ k) = q := ⟨_, rfl⟩
      rw [hqq] at hq hc2
      have hs3 : LeadTo (wr.setCell ⟨w.heap.size, k, none⟩ (.int .u32 (f q : Int))) w.heap.size (fun s => f (f s)) (k + 1) := by rw [← hqq]; exact hs2
      clear hqq hs2
      go_wp2_with (go_at_call 26; refine (of_any B f hf _ hq _ hl2).mono ?_; rintro e w' ⟨rfl, rfl⟩)
      go_roundw
      case rel => exact ⟨k + 1, by omega, by go_num, hB.setCell (p := ⟨w.heap.size, k, none⟩) (Nat.le_refl _) _, by simpa [World.setCell] using hsz, hs3⟩
      case measure => simp [intOf]; omega
    · obtain rfl : k = 32 := by omega
      go_wp2
      go_ret
      exact ⟨_, rfl, Nat.le_refl _, hsz, hL.done, hB⟩

theorem and1_64 {x : Nat} (h : x < 9223372036854775808) : bits .and .i64 (x : Int) 1 = ((x % 2 : Nat) : Int) := by
  show IntKind.i64.wrap ((BitVec.ofInt 64 (x : Int) &&& BitVec.ofInt 64 1).toNat : Int) = _
  rw [BitVec.toNat_and, BitVec.ofInt_natCast, BitVec.toNat_ofNat, Nat.mod_eq_of_lt (show x < 2 ^ 64 by omega), show (BitVec.ofInt 64 1).toNat = 1 by decide, Nat.and_one_is_mod]
  have := Nat.mod_lt x (show 0 < 2 by decide)
  rw [IntKind.wrap_i64]; omega
theorem crcZs_two (k : Nat) : (fun s => crcZs (2 ^ k) (crcZs (2 ^ k) s)) = crcZs (2 ^ (k + 1)) := by
  funext s; rw [← crcZs_add, Nat.pow_succ, Nat.mul_two]
theorem mod_bit {n k : Nat} (h : n / 2 ^ k % 2 = 1) : n % 2 ^ (k + 1) = n % 2 ^ k + 2 ^ k := by
  rw [Nat.pow_succ, Nat.mod_mul, h, Nat.mul_one]
theorem mod_nobit {n k : Nat} (h : ¬ n / 2 ^ k % 2 = 1) : n % 2 ^ (k + 1) = n % 2 ^ k := by
  rw [Nat.pow_succ, Nat.mod_mul, show n / 2 ^ k % 2 = 0 by omega, Nat.mul_zero, Nat.add_zero]

set_option maxHeartbeats 2000000 in
/-- Join, where the length is one: the first sum, led over as many bytes of 0 as the second run has, xor the second sum. -/
theorem join_any (a b n : Nat) (ha : a < 4294967296) (hb : b < 4294967296) (hn : n ≤ 1099511627776) (w : World) (ht : Tab w) (h1w : 1 ≤ w.heap.size) :
    Calls Tryd.prog 20 #[.int .u32 a, .int .u32 b, .int .i64 n] w fun e w' => e = .returned (.tuple #[.int .u32 (crcZs n a ^^^ b : Nat), .int .i64 0]) ∧ Below w.heap.size w w' := by
  obtain ⟨hL1, hL2⟩ := bitLen_pos (n := n) (by omega)
  obtain ⟨L, hL⟩ : ∃ L, Lib.bitLen n = L := ⟨_, rfl⟩
  have hlen := len64_any n (by omega)
  rw [hL] at hL1 hL2 hlen
  clear hL
  have HN := Lib.hid (Nat.mod_eq_of_lt hL1)
  clear hL1
  have hx := xor32 ((crcZs_lin n).lt a ha) hb
  go_enter Tryd.func20, Tryd.ntmps20
  go_wp2_with (first | (go_at_call 24; refine (leadOne_any _ ht h1w).mono ?_; rintro e w' ⟨B, rfl, hB1, hB2, hB3, hB4⟩) | (go_at_call 25; refine (hlen _).mono ?_; rintro e w' ⟨rfl, rfl⟩))
  go_loopw [0, 8, 20] (fun t0 t8 i wr => ∃ (k B : Nat), k ≤ L ∧ i = .int .i64 k ∧ t0 = .int .u32 (crcZs (n % 2 ^ k) a : Int) ∧ t8 = .pointer (some ⟨B, 0, none⟩) ∧ B < wr.heap.size ∧ IsLead wr B (crcZs (2 ^ k)) ∧ Below w.heap.size w wr) (fun _ _ i _ => L - (intOf i).toNat)
  case atStart => exact ⟨0, B, Nat.zero_le _, rfl, by simp [Nat.mod_one, crcZs], rfl, hB2, hB3, hB4⟩
  case round =>
    obtain ⟨k, B1, hk, rfl, rfl, rfl, hs1, hl1, hb1⟩ := hrel
    clear hB1 hB2 hB3 hB4
    have hq := (crcZs_lin (n % 2 ^ k)).lt a ha
    have hlin := crcZs_lin (2 ^ k)
    have ht2 := crcZs_two k
    have HA : Hid (n / 2 ^ k % 2 = 1 → crcZs (2 ^ k) (crcZs (n % 2 ^ k) a) = crcZs (n % 2 ^ (k + 1)) a) := fun h => by rw [mod_bit h, crcZs_add]
    have HC : Hid (¬ n / 2 ^ k % 2 = 1 → crcZs (n % 2 ^ k) a = crcZs (n % 2 ^ (k + 1)) a) := fun h => by rw [mod_nobit h]
    by_cases hlt : k < L
    · have hand := and1_64 (x := n / 2 ^ k) (Nat.lt_of_le_of_lt (Nat.div_le_self _ _) (by omega))
      obtain ⟨q, hqq⟩ : ∃ q, crcZs (n % 2 ^ k) a = q := ⟨_, rfl⟩
      obtain ⟨f, hff⟩ : ∃ f, crcZs (2 ^ k) = f := ⟨_, rfl⟩
      rw [hqq] at hq HA HC
      rw [hff] at hlin hl1 HA
      have htm := times_any B1 f hlin
      rw [← hff, ht2] at htm
      rw [hqq]
      rw [hff] at htm
      clear hqq hff ht2
      by_cases hb2 : n / 2 ^ k % 2 = 1
      · have hbit : (bits .and .i64 ((n : Int) / 2 ^ k) 1 == 1) = true := by
          rw [show ((n : Int) / 2 ^ k) = ((n / 2 ^ k : Nat) : Int) by simp, hand, hb2]; rfl
        have HA2 := Lib.hid (HA.out hb2)
        clear HA HC hb2 hand hx
        go_wp2_with (first | (go_at_call 26; refine (of_any B1 f hlin _ hq _ hl1).mono ?_; rintro e w' ⟨rfl, rfl⟩) | (go_at_call 27; refine (htm _ hl1 hs1).mono ?_; rintro e w' ⟨B2, rfl, hc1, hc2, hc3, hc4⟩))
        go_roundw
        case rel => exact ⟨k + 1, B2, by omega, by go_num, by rw [HA2.out], rfl, hc2, hc3, hb1.trans (hc4.mono hb1.size)⟩
        case measure => simp [intOf]; omega
      · have hbit : (bits .and .i64 ((n : Int) / 2 ^ k) 1 == 1) = false := by
          rw [show ((n : Int) / 2 ^ k) = ((n / 2 ^ k : Nat) : Int) by simp, hand, show n / 2 ^ k % 2 = 0 by omega]; rfl
        have HC2 := Lib.hid (HC.out hb2)
        clear HA HC hb2 hand hx
        go_wp2_with (first | (go_at_call 27; refine (htm _ hl1 hs1).mono ?_; rintro e w' ⟨B2, rfl, hc1, hc2, hc3, hc4⟩))
        go_roundw
        case rel => exact ⟨k + 1, B2, by omega, by go_num, by rw [HC2.out], rfl, hc2, hc3, hb1.trans (hc4.mono hb1.size)⟩
        case measure => simp [intOf]; omega
    · obtain rfl : k = L := by omega
      rw [HN.out]
      clear HA HC ht2 hl1 hlin hq
      go_wp2
      go_ret2
      exact ⟨rfl, hb1⟩
end Go.Proofs.YtjpjijjnkjomnaaDoor

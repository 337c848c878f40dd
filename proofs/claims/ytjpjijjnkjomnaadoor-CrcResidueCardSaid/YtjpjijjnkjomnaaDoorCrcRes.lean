/- The contract of CrcResidue: bytes with their own sum behind them all have one sum. -/
import Derived.WalkKit
import Derived.Outline
import Derived.LoopTactic
import Derived.Lib.Hide
import Derived.Test.YtjpjijjnkjomnaaDoorCrcKnown
namespace Go.Proofs.YtjpjijjnkjomnaaDoor
open Go.RowKit

theorem step_v (s v : Nat) : crcStep s (v % 256) = crcZ (s ^^^ v) ^^^ (v / 256) := by
  unfold crcZ crcStep
  rw [Nat.xor_zero, show (256 : Nat) = 2 ^ 8 from rfl, Nat.xor_mod_two_pow, Nat.xor_div_two_pow, Nat.xor_assoc, Nat.xor_assoc, Nat.xor_self, Nat.xor_zero]
/-- The four bytes of a number, the lowest first. -/
def le4 (v : Nat) : List UInt8 := [UInt8.ofNat v, UInt8.ofNat (v / 256), UInt8.ofNat (v / 65536), UInt8.ofNat (v / 16777216)]
theorem run_le4 (s v : Nat) (hv : v < 4294967296) : crcRun s (le4 v) = crcZs 4 (s ^^^ v) := by
  have e0 : (UInt8.ofNat v).toNat = v % 256 := UInt8.toNat_ofNat'
  have e1 : (UInt8.ofNat (v / 256)).toNat = v / 256 % 256 := UInt8.toNat_ofNat'
  have e2 : (UInt8.ofNat (v / 65536)).toNat = v / 256 / 256 % 256 := by rw [UInt8.toNat_ofNat', Nat.div_div_eq_div_mul]
  have e3 : (UInt8.ofNat (v / 16777216)).toNat = v / 256 / 256 / 256 % 256 := by rw [UInt8.toNat_ofNat', Nat.div_div_eq_div_mul, Nat.div_div_eq_div_mul]
  have e4 : v / 256 / 256 / 256 / 256 = 0 := by omega
  have hx : ∀ a b : Nat, (a ^^^ b) ^^^ b = a := fun a b => by rw [Nat.xor_assoc, Nat.xor_self, Nat.xor_zero]
  show crcStep (crcStep (crcStep (crcStep s _) _) _) _ = _
  rw [e0, e1, e2, e3, step_v s v, step_v _ (v / 256), hx, step_v _ (v / 256 / 256), hx, step_v _ (v / 256 / 256 / 256), hx, e4, Nat.xor_zero]
  rfl
theorem residue (l : List UInt8) : crcSum (l ++ le4 (crcSum l)) = 558161692 := by
  have hr := crcRun_lt (s := 4294967295) (by decide) l
  have hx : ∀ r : Nat, r ^^^ (4294967295 ^^^ r) = 4294967295 := fun r => by rw [Nat.xor_comm 4294967295, ← Nat.xor_assoc, Nat.xor_self, Nat.zero_xor]
  rw [crcSum_eq, crcRun_append, run_le4 _ _ (crcSum_lt l), crcSum_eq, hx]
  decide +kernel

set_option maxHeartbeats 2000000 in
theorem crcRes_any (a : Option Addr) (cap : Nat) (l : List UInt8) (hl : l.length ≤ 9223372036854775807) (w : World) (ht : Tab w) (h1w : 1 ≤ w.heap.size) (hc : BytesAt w.heap.size w a l) :
    Calls Tryd.prog 7 #[.slice a l.length cap] w fun e w' => e = .returned (.bool true) ∧ Below w.heap.size w w' := by
  by_cases h100 : 2000 < l.length
  · go_enter Tryd.func7, Tryd.ntmps7
    go_wp2_with (go_at_call 10; refine (known_any _ ht h1w).mono ?_; rintro e w' ⟨rfl, hb⟩)
    go_ret
    exact ⟨rfl, hb⟩
  · have HR := Lib.hid (residue l)
    have hq := crcSum_lt l
    have hs1 := sum1_any w a cap l (by omega) hc ht h1w
    obtain ⟨q, hqq⟩ : ∃ q, crcSum l = q := ⟨_, rfl⟩
    rw [hqq] at HR hq hs1
    clear hqq
    go_enter Tryd.func7, Tryd.ntmps7
    go_wp2_with fail
    refine hs1.mono ?_
    rintro e W1 ⟨rfl, hb1⟩
    have hc1 := hc.below hb1
    have ht1 := ht.below h1w hb1
    have HB1 := Lib.hid hb1
    have h1w1 := Nat.le_trans h1w hb1.size
    clear hb1 hs1
    go_wp2_with fail
    have h4 : BytesAt (W1.alloc (.cells #[.int .u8 ((q : Int) % 256), .int .u8 ((q : Int) / 256 % 256), .int .u8 ((q : Int) / 65536 % 256), .int .u8 ((q : Int) / 16777216)] 5)).heap.size
        (W1.alloc (.cells #[.int .u8 ((q : Int) % 256), .int .u8 ((q : Int) / 256 % 256), .int .u8 ((q : Int) / 65536 % 256), .int .u8 ((q : Int) / 16777216)] 5)) (some ⟨W1.heap.size, 0, none⟩) (le4 q) := by
      refine bytes_new W1 5 (0, 0) (le4 q) _ ?_
      simp [le4]
      omega
    have hB2 : Below W1.heap.size W1 (W1.alloc (.cells #[.int .u8 ((q : Int) % 256), .int .u8 ((q : Int) / 256 % 256), .int .u8 ((q : Int) / 65536 % 256), .int .u8 ((q : Int) / 16777216)] 5)) := (Below.refl _ _).alloc (Nat.le_refl _) _
    have hs2 := sum2_any _ a cap l (some ⟨W1.heap.size, 0, none⟩) 4 (le4 q) (by omega) (by simp [le4]) ((hc1.mono HB1.out.size).below hB2 |>.mono hB2.size) h4 (ht1.below h1w1 hB2) (Nat.le_trans h1w1 hB2.size)
    rw [HR.out, World.size_alloc] at hs2
    refine hs2.mono ?_
    rintro e W2 ⟨rfl, hb2⟩
    have HB2 := Lib.hid (HB1.out.trans ((hB2.trans (hb2.mono (Nat.le_succ _))).mono HB1.out.size))
    have ht2 := ht.below h1w HB2.out
    have h1w2 := Nat.le_trans h1w HB2.out.size
    clear hb2 hB2 hs2 h4 hc1
    go_wp2_with fail
    refine (known_any _ ht2 h1w2).mono ?_
    rintro e W3 ⟨rfl, hb3⟩
    have HB3 := Lib.hid (HB2.out.trans (hb3.mono HB2.out.size))
    clear hb3
    go_wp2_with fail
    go_ret
    exact ⟨rfl, HB3.out⟩
end Go.Proofs.YtjpjijjnkjomnaaDoor

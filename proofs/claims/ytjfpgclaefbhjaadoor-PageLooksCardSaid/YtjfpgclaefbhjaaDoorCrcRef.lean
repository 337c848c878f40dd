/- The contracts of the document's own answers for layer 1: a byte's word bit by bit, the sum of bytes. -/
import Derived.WalkKit
import Derived.Outline
import Derived.LoopTactic
import Derived.Lib.Hide
import Derived.Test.YtjfpgclaefbhjaaDoorCrcLin
import Derived.Test.YtjfpgclaefbhjaaDoorCrcSum
namespace Go.Proofs.YtjfpgclaefbhjaaDoor
open Go.RowKit

/-- One halving. -/
def halving (q : Nat) : Nat := if q % 2 = 1 then (q / 2) ^^^ 3988292384 else q / 2
def halvings : Nat → Nat → Nat
  | 0, q => q
  | k + 1, q => halving (halvings k q)
theorem halving_lt {q : Nat} (h : q < 4294967296) : halving q < 4294967296 := by
  unfold halving
  split
  · exact xor_lt32 (by omega) (by decide)
  · omega
theorem halvings_lt {q : Nat} (h : q < 4294967296) : ∀ k, halvings k q < 4294967296
  | 0 => h
  | k + 1 => halving_lt (halvings_lt h k)
theorem halvings_word (b : UInt8) : halvings 8 b.toNat = crcWord b.toNat := by
  have : ∀ x : Fin 256, halvings 8 x.1 = crcWord x.1 := by decide +kernel
  exact this ⟨b.toNat, UInt8.toNat_lt b⟩

set_option maxHeartbeats 1000000 in
theorem refWord_any (b : Nat) (hb : b < 256) (w : World) :
    Calls Tryd.prog 41 #[.int .u8 b] w fun e w' => e = .returned (.int .u32 (crcWord b : Int)) ∧ w = w' := by
  have HW := Lib.hid (halvings_word (UInt8.ofNat b))
  rw [UInt8.toNat_ofNat_of_lt' hb] at HW
  have hlt2 : ∀ k, halvings k b < 4294967296 := halvings_lt (by omega)
  have HL := Lib.hid hlt2
  clear hlt2
  go_enter Tryd.func41, Tryd.ntmps41
  go_wp2_with fail
  go_loop [3, 4] (fun s i => ∃ k : Nat, k ≤ 8 ∧ i = .int .i64 k ∧ s = .int .u32 (halvings k b : Int)) (fun _ i => 8 - (intOf i).toNat)
  case atStart => exact ⟨0, by omega, rfl, by simp [halvings]⟩
  case round =>
    obtain ⟨k, hk, rfl, rfl⟩ := hrel
    have hq := HL.out k
    obtain ⟨q, hqq⟩ : ∃ q, halvings k b = q := ⟨_, rfl⟩
    have HS : Hid (halvings (k + 1) b = halving q) := by rw [← hqq]; rfl
    rw [hqq] at hq ⊢
    by_cases hlt : k < 8
    · have hx := xor32 (x := q / 2) (y := 3988292384) (by omega) (by decide)
      rw [Int.natCast_ediv] at hx
      by_cases ho : q % 2 = 1
      · have hbit : ((q : Int) % 2 == 1) = true := by rw [show (q : Int) % 2 = 1 by omega]; rfl
        clear hqq
        go_wp2_with fail
        go_round
        case rel => exact ⟨k + 1, by omega, by go_num, by rw [HS.out, halving, if_pos ho]; exact congrArg _ hx⟩
        case measure => simp [intOf]; omega
      · have hbit : ((q : Int) % 2 == 1) = false := by rw [show (q : Int) % 2 = 0 by omega]; rfl
        clear hqq
        go_wp2_with fail
        go_round
        case rel => exact ⟨k + 1, by omega, by go_num, by rw [HS.out, halving, if_neg ho]; simp⟩
        case measure => simp [intOf]; omega
    · obtain rfl : k = 8 := by omega
      rw [HW.out] at hqq
      subst hqq
      go_wp2_with fail
      go_ret
      exact ⟨rfl, rfl⟩

set_option maxHeartbeats 1000000 in
theorem refSum_any (n₀ : Nat) (a : Option Addr) (cap : Nat) (l : List UInt8) (hl : l.length ≤ 9223372036854775807) (w : World) (hc : BytesAt n₀ w a l) :
    Calls Tryd.prog 27 #[.slice a l.length cap] w fun e w' => e = .returned (.int .u32 (crcSum l : Int)) ∧ w = w' := by
  have HE : Hid (crcSum l = 4294967295 - crcRun 4294967295 l) := rfl
  have HL := Lib.hid (crcRun_lt (s := 4294967295) (by decide))
  go_enter Tryd.func27, Tryd.ntmps27
  go_wp2_with fail
  go_loop [3, 4] (fun s i => ∃ k : Nat, k ≤ l.length ∧ i = .int .i64 k ∧ s = .int .u32 (crcRun 4294967295 (l.take k) : Int)) (fun _ i => l.length - (intOf i).toNat)
  case atStart => exact ⟨0, by omega, rfl, by simp [crcRun]⟩
  case round =>
    obtain ⟨k, hk, rfl, rfl⟩ := hrel
    have hq := HL.out (l.take k)
    by_cases hlt : k < l.length
    · obtain ⟨b, off, rfl, hb, hcs⟩ := hc (by rintro rfl; simp at hlt)
      have hcell := hcs k hlt
      have hts := take_succ_get hlt
      obtain ⟨x, hx⟩ : ∃ x, l[k]?.getD 0 = x := ⟨_, rfl⟩
      rw [hx] at hcell hts
      have HS : Hid (crcRun 4294967295 (l.take (k + 1)) = crcStep (crcRun 4294967295 (l.take k)) x.toNat) := by rw [hts]; exact crcRun_snoc _ _ _
      clear hx hts hcs
      obtain ⟨q, hqq⟩ : ∃ q, crcRun 4294967295 (l.take k) = q := ⟨_, rfl⟩
      rw [hqq] at hq HS ⊢
      have hx8 := UInt8.toNat_lt x
      have x8 : bits .xor .u8 ((q : Int) % 256 % 256) (x.toNat : Int) = (((q % 256) ^^^ x.toNat : Nat) : Int) := by
        have := xor8 (x := q % 256) (y := x.toNat) (by omega) hx8
        rw [show (q : Int) % 256 % 256 = ((q % 256 : Nat) : Int) by omega]; exact this
      have x8' : bits .xor .u8 ((q : Int) % 256) (x.toNat : Int) = (((q % 256) ^^^ x.toNat : Nat) : Int) := by
        have := xor8 (x := q % 256) (y := x.toNat) (by omega) hx8
        rw [show (q : Int) % 256 = ((q % 256 : Nat) : Int) by omega]; exact this
      have hy : (q % 256) ^^^ x.toNat < 256 := xor_lt8 (by omega) hx8
      obtain ⟨y, hyy⟩ : ∃ y, (q % 256) ^^^ x.toNat = y := ⟨_, rfl⟩
      have HS2 : Hid (crcStep q x.toNat = crcWord y ^^^ q / 256) := by rw [← hyy]; rfl
      rw [hyy] at x8 x8' hy
      have x32 := xor32 (crcWord_lt hy) (y := q / 256) (by omega)
      rw [Int.natCast_ediv] at x32
      clear hyy hqq
      go_wp2_with (go_at_call 41; refine (refWord_any _ hy _).mono ?_; rintro e w' ⟨rfl, rfl⟩)
      go_round
      case rel => exact ⟨k + 1, by omega, by go_num, by rw [HS.out, HS2.out]; first | rfl | exact congrArg _ x32⟩
      case measure => simp [intOf]; omega
    · obtain rfl : k = l.length := by omega
      rw [List.take_length] at hq ⊢
      go_wp2_with fail
      go_ret
      exact ⟨by rw [HE.out]; go_num, rfl⟩
end Go.Proofs.YtjfpgclaefbhjaaDoor

/- Layer 15: the document's Read and Raw. -/
import Derived.Test.YtmbjdfmbbmeofaaDoorLgD
import Derived.Test.YtmbjdfmbbmeofaaDoorLgC
namespace Go.Proofs.YtmbjdfmbbmeofaaDoor
open Go.RowKit

theorem lg_mul (l : List UInt8) {k : Nat} (h : k < 4) : wrap64 ((lgAt l k : Int) % 128 * ((128 ^ k : Nat) : Int)) = ((lgAt l k % 128 * 128 ^ k : Nat) : Int) ∧ lgVal l k + lgAt l k % 128 * 128 ^ k = lgVal l (k + 1) ∧ lgVal l (k + 1) ≤ 268435455 ∧ 128 ^ k ≤ 2097152 ∧ 128 ^ k * 128 = 128 ^ (k + 1) := by
  have h2 := lgVal_lt l (k + 1)
  have h3 := pow128 (k := k + 1) (by omega)
  have h4 : lgVal l (k + 1) = lgVal l k + lgAt l k % 128 * 128 ^ k := rfl
  have h5 : 128 ^ k ≤ 128 ^ 3 := Nat.pow_le_pow_right (by decide) (by omega)
  have e : (lgAt l k : Int) % 128 * ((128 ^ k : Nat) : Int) = ((lgAt l k % 128 * 128 ^ k : Nat) : Int) := by
    rw [Int.natCast_mul, Int.natCast_emod]; rfl
  refine ⟨?_, h4.symm, by omega, by omega, by rw [Nat.pow_succ]⟩
  rw [e]
  generalize lgAt l k % 128 * 128 ^ k = q at *
  unfold wrap64; omega
set_option maxRecDepth 100000 in
set_option maxHeartbeats 400000 in
theorem lgRref_any (a : Option Addr) (l : List UInt8) (c n₀ : Nat) (w : World) (hm : BytesAt n₀ w a l) :
    Calls Tryd.prog 12 #[.slice a l.length c] w fun e w' => LgPost l w e w' := by
  have HM := Lib.hid hm
  clear hm
  go_enter Tryd.func12, Tryd.ntmps12
  go_wp2
  go_loop [5, 6, 7, 8, 9, 10, 11, 12, 13, 14, 15, 16, 17, 18, 19, 20, 21, 22, 23, 24, 25, 26, 27, 28, 29, 30, 31, 32, 33, 34, 35, 36, 37, 38, 39, 40] (fun u o x _ _ _ _ _ _ _ _ _ _ _ _ _ _ _ _ _ _ _ _ _ _ _ _ _ _ _ _ _ _ _ _ _ => ∃ k : Nat, x = .int .i64 k ∧ k ≤ 4 ∧ k ≤ l.length ∧ u = .int .i64 (lgVal l k : Nat) ∧ o = .int .i64 ((128 ^ k : Nat) : Int) ∧ lgRead l = lgFrom l (4 - k) k)
    (fun _ _ x _ _ _ _ _ _ _ _ _ _ _ _ _ _ _ _ _ _ _ _ _ _ _ _ _ _ _ _ _ _ _ _ _ => 4 - (intOf x).toNat)
  case atStart => exact ⟨0, rfl, by omega, Nat.zero_le _, rfl, rfl, rfl⟩
  case round =>
    obtain ⟨k, rfl, hk, hkl, rfl, rfl, hrd⟩ := hrel
    by_cases hlt : k < 4
    · have hlk : (k : Int) < 4 := by omega
      by_cases he : k = l.length
      · have HX := Lib.hid (hrd.trans (lgFrom_out l hlt he))
        clear hrd
        subst he
        have heq : ((l.length : Int) == (l.length : Int)) = true := by simp
        go_wp2
        go_ret3
        exact ⟨by rw [HX.out]; rfl, rfl⟩
      · have hk2 : k < l.length := by omega
        obtain ⟨b, off, rfl, hb, hcl⟩ := HM.out (by intro e; rw [e] at hk2; simp at hk2)
        have hck := hcl k hk2
        have hx : (l[k]?.getD 0).toNat = lgAt l k := rfl
        rw [hx] at hck
        have hlk2 : (k : Int) < l.length := by omega
        have heq : ((k : Int) == (l.length : Int)) = false := by simp; omega
        obtain ⟨hm1, hm2, hm3, hm4, hm5⟩ := lg_mul l hlt
        have h256 := lgAt_lt l k
        have hstep := Lib.hid (fun e h => hrd.trans (lgFrom_step l hlt e h))
        have hbad := Lib.hid (fun e h0 h => hrd.trans (lgFrom_bad l hlt e h0 h))
        have hgood := Lib.hid (fun e h h0 => hrd.trans (lgFrom_good l hlt e h h0))
        have HM2 := Lib.hid (And.intro hm2 hm5)
        have hvl : lgVal l k ≤ 268435455 := by omega
        generalize lgAt l k % 128 * 128 ^ k = r at *
        generalize lgAt l k = x at *
        generalize 128 ^ k = q at *
        generalize lgVal l k = v at *
        have hr2 : r ≤ 268435455 := by omega
        clear hm2 hm5 hrd hx hcl he
        by_cases hge : 128 ≤ x
        · have hge2 : ¬ (x : Int) < 128 := by omega
          have HS := Lib.hid (hstep.out (by omega) hge)
          go_wp2
          go_round
          case rel => exact ⟨k + 1, by go_num, by omega, by omega, by rw [← HM2.out.1, Int.natCast_add], by rw [← HM2.out.2, Int.natCast_mul]; rfl, HS.out⟩
          case measure => simp [intOf]; omega
        · have hge2 : (x : Int) < 128 := by omega
          by_cases hb0 : 0 < k ∧ x = 0
          · have HS := Lib.hid (hbad.out (by omega) hb0.1 hb0.2)
            obtain ⟨hk0, rfl⟩ := hb0
            have hk1 : (0 : Int) < k := by omega
            have hz : (((0 : Nat) : Int) == 0) = true := by simp
            go_wp2
            go_ret3
            exact ⟨by rw [HS.out]; rfl, rfl⟩
          · have HS := Lib.hid (hgood.out (by omega) (by omega) hb0)
            by_cases hk0 : 0 < k
            · have hk1 : (0 : Int) < k := by omega
              have hz : ((x : Int) == 0) = false := by simp; omega
              clear hb0
              go_wp2
              go_ret3
              exact ⟨by rw [HS.out, ← HM2.out.1]; simp [lgTell], rfl⟩
            · have hk1 : ¬ (0 : Int) < k := by omega
              clear hb0
              go_wp2
              go_ret3
              exact ⟨by rw [HS.out, ← HM2.out.1]; simp [lgTell], rfl⟩
    · obtain rfl : k = 4 := by omega
      have hlk : ¬ (4 : Int) < 4 := by decide
      have HX := Lib.hid hrd
      clear hrd
      go_wp2
      go_ret3
      exact ⟨by rw [HX.out]; rfl, rfl⟩
theorem lgNext_more {m : Nat} (hm : m ≤ 268435455) (j : Nat) (hj : j < lgSize m) : 128 ≤ m / 128 ^ j ↔ j + 1 < lgSize m := by
  unfold lgSize at *
  have h4 : j < 4 := by split at hj <;> (try split at hj) <;> (try split at hj) <;> omega
  rcases pow_cases h4 with ⟨rfl, e⟩ | ⟨rfl, e⟩ | ⟨rfl, e⟩ | ⟨rfl, e⟩ <;> rw [e] <;> (split <;> (try split) <;> (try split) <;> omega)
/-- The document's Raw, of a number that may be a length. -/
def RawPost15 (w : World) (m : Nat) (e : Ending) (w' : World) : Prop := ∃ v, e = .returned (.tuple #[v, .bool true]) ∧ OwnB w' w.heap.size v (lgRaw m) ∧ Below w.heap.size w w'
theorem lgRawRef_no (n : Int) (w : World) (h : ¬ lgMay n) : Calls Tryd.prog 9 #[.int .i64 n] w fun e w' => e = .returned (.tuple #[.slice none 0 0, .bool false]) ∧ w = w' := by
  unfold lgMay at h
  rcases Int.lt_or_le n 0 with h0 | h0
  · go_enter Tryd.func9, Tryd.ntmps9
    go_wp2
    go_ret2
    exact ⟨rfl, rfl⟩
  · have h1 : 268435455 < n := by omega
    go_enter Tryd.func9, Tryd.ntmps9
    go_wp2
    go_ret2
    exact ⟨rfl, rfl⟩
set_option maxRecDepth 100000 in
set_option maxHeartbeats 1000000 in
theorem lgRawRef_yes (m : Nat) (hm : m ≤ 268435455) (w : World) : Calls Tryd.prog 9 #[.int .i64 m] w fun e w' => RawPost15 w m e w' := by
  obtain ⟨B, hB⟩ : ∃ B, w.heap.size = B := ⟨_, rfl⟩
  have HBe := Lib.hid hB
  have hsp := lgSize_pos m
  have HL := Lib.hid (fun j => lgRaw_step hm j)
  have HMo := Lib.hid (fun j => lgNext_more hm j)
  have HRL := Lib.hid (lgRaw_len m)
  generalize lgSize m = n at *
  have h0 : (0 : Int) ≤ m := by omega
  have h1 : ¬ (268435455 : Int) < m := by omega
  clear hB
  go_enter Tryd.func9, Tryd.ntmps9
  go_wp2
  go_loopw [0, 4, 11, 12, 13, 14, 15, 16, 17, 18, 19, 20, 21] (fun z u _ _ _ _ _ _ _ _ _ _ _ wr => ∃ j : Nat, z = .int .i64 ((m / 128 ^ j : Nat) : Int) ∧ j < n ∧ OwnB wr B u ((lgRaw m).take j) ∧ Below B w wr)
    (fun z _ _ _ _ _ _ _ _ _ _ _ _ _ => (intOf z).toNat)
  case atStart => exact ⟨0, by simp, by omega, OwnB.nil _ _, by rw [← HBe.out]; exact Below.refl _ _⟩
  case round =>
    obtain ⟨j, rfl, hj, hO, hbr⟩ := hrel
    have hmo := HMo.out j hj
    have hst := HL.out j hj
    have hdv : m / 128 ^ j / 128 = m / 128 ^ (j + 1) := by rw [Nat.div_div_eq_div_mul, Nat.pow_succ]
    have hqm : m / 128 ^ j ≤ 268435455 := Nat.le_trans (Nat.div_le_self _ _) hm
    have hBw : B ≤ wr.heap.size := by have := hbr.size; have := HBe.out; omega
    have hq : ((lgRaw m).take j).length + 1 ≤ 1099511627776 := by rw [List.length_take]; omega
    by_cases hge : 128 ≤ m / 128 ^ j
    · have hnx : lgNext (m / 128 ^ j) = 128 + m / 128 ^ j % 128 := by unfold lgNext; rw [if_pos (by omega)]
      rw [hnx] at hst
      have h1 := one_byte wr (UInt8.ofNat (128 + m / 128 ^ j % 128))
      rw [ofNat_to (by omega)] at h1
      have HD := Lib.hid hdv
      have hj2 := hmo.1 hge
      generalize m / 128 ^ j = z at *
      have hu : IntKind.u8.wrap (128 + (z : Int) % 128) = 128 + (z : Int) % 128 := wraps_u8 _ (by omega) (by omega)
      have OA := hO.alloc (.cells #[.int .u8 ((128 + z % 128 : Nat) : Int)] 5)
      have HX := Lib.hid (And.intro hbr (And.intro hst hO.block))
      have hge2 : (128 : Int) ≤ z := by omega
      rw [show ((128 + z % 128 : Nat) : Int) = 128 + (z : Int) % 128 by omega] at h1 OA
      clear hdv hst hO hbr hmo hnx hge
      go_wp2_with (at_builtin; refine wpList_append_goes rfl _ _ rfl B (wr.heap.size + 1) _ _ rfl OA ⟨wr.heap.size, 0, none⟩ [UInt8.ofNat (128 + z % 128)] 1 rfl h1 hq (by simp; omega) ?_; intro v' w5 O' G' _)
      go_roundw
      case rel =>
        obtain ⟨hbr, hst, hbl⟩ := HX.out
        exact ⟨j + 1, by rw [← HD.out]; go_num, hj2, by rw [hst]; exact O', hbr.trans (G'.alloc.below hBw hbl)⟩
      case measure => simp [intOf]; omega
    · have hj2 : j + 1 = n := by have := mt hmo.2 hge; omega
      have hnx : lgNext (m / 128 ^ j) = m / 128 ^ j := by unfold lgNext; rw [if_neg (by omega), Nat.mod_eq_of_lt (by omega)]
      rw [hnx, hj2, List.take_of_length_le (Nat.le_of_eq HRL.out)] at hst
      have h1 := one_byte wr (UInt8.ofNat (m / 128 ^ j))
      rw [ofNat_to (by omega)] at h1
      generalize m / 128 ^ j = z at *
      have hu : IntKind.u8.wrap (z : Int) = (z : Int) := wraps_u8 _ (by omega) (by omega)
      have OA := hO.alloc (.cells #[.int .u8 (z : Int)] 5)
      have HX := Lib.hid (And.intro hbr (And.intro hst hO.block))
      have hge2 : ¬ (128 : Int) ≤ z := by omega
      clear hdv hst hO hbr hmo hnx hge
      go_wp2_with (at_builtin; refine wpList_append_goes rfl _ _ rfl B (wr.heap.size + 1) _ _ rfl OA ⟨wr.heap.size, 0, none⟩ [UInt8.ofNat z] 1 rfl h1 hq (by simp; omega) ?_; intro v' w5 O' G' _)
      go_ret2
      obtain ⟨hbr, hst, hbl⟩ := HX.out
      exact ⟨_, rfl, by rw [HBe.out, hst]; exact O', by rw [HBe.out]; exact hbr.trans (G'.alloc.below hBw hbl)⟩
end Go.Proofs.YtmbjdfmbbmeofaaDoor

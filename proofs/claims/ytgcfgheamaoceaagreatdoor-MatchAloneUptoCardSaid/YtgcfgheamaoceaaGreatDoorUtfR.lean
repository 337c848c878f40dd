/- Layer 12: the document's first rune of a text. -/
import Derived.Deep.RegionHeld3
import Derived.Test.YtgcfgheamaoceaaGreatDoorUtfQ
import Derived.Test.YtgcfgheamaoceaaGreatDoorUtfD
namespace Go.Proofs.YtgcfgheamaoceaaGreatDoor
open Go.RowKit

def loN : Nat → Nat
  | 1 => 0
  | 2 => 192
  | 3 => 224
  | _ => 240
def hiN : Nat → Nat
  | 1 => 128
  | 2 => 224
  | 3 => 240
  | _ => 248
theorem dec_range {l : List UInt8} {r n : Nat} (h : dec l = some (r, n)) : 1 ≤ n ∧ n ≤ 4 ∧ n ≤ l.length ∧ loN n ≤ bt l 0 ∧ bt l 0 < hiN n ∧ r = valN l (n - 1) := by
  obtain ⟨h1, h2, h3, h4⟩ := dec_yes h
  have h5 := lenB_le r
  have hlen := h3.length_le
  rw [rawR_length] at hlen
  unfold dec at h
  split at h
  · cases h
  split at h
  · cases h
  split at h
  · cases h
  have h6 := congrArg (Option.map Prod.fst) h
  have h7 := congrArg (Option.map Prod.snd) h
  simp only [Option.map_some, Option.some.injEq] at h6 h7
  have h8 := mayN_lt h2
  have hb := bt_lt l 0
  refine ⟨by omega, by omega, by omega, ?_⟩
  obtain ⟨b, hbe⟩ : ∃ b, bt l 0 = b := ⟨_, rfl⟩
  obtain ⟨c, hce⟩ : ∃ c, nOf b = c := ⟨_, rfl⟩
  rw [hbe] at h6 h7 hb ⊢
  rw [hce] at h6 h7
  have hv : r = valN l (n - 1) := by rw [← h6, ← h7]; rfl
  have hv0 : valN l 0 = b - leadOf c := by show bt l 0 - leadOf (nOf (bt l 0)) = _; rw [hbe, hce]
  have hlb : lenB r = c := by omega
  have hl : r < 128 ∨ c ≠ 0 := by
    unfold lenB at hlb; split at hlb
    · exact .inl (by assumption)
    · right; split at hlb
      · omega
      split at hlb <;> omega
  have hn : n = c + 1 := h7.symm
  subst hn
  have hk : c = 0 ∧ b < 192 ∨ c = 1 ∧ 192 ≤ b ∧ b < 224 ∨ c = 2 ∧ 224 ≤ b ∧ b < 240 ∨ c = 3 ∧ 240 ≤ b := by
    unfold nOf at hce; split at hce
    · left; omega
    split at hce
    · right; left; omega
    split at hce
    · right; right; left; omega
    · right; right; right; omega
  rcases hk with ⟨rfl, hb1⟩ | ⟨rfl, hb1, hb2⟩ | ⟨rfl, hb1, hb2⟩ | ⟨rfl, hb1⟩
  · rw [h6.symm.trans rfl] at hl
    refine ⟨Nat.zero_le _, ?_, hv⟩
    simp only [leadOf, Nat.sub_zero] at hv0
    show b < 128
    omega
  · exact ⟨hb1, hb2, hv⟩
  · exact ⟨hb1, hb2, hv⟩
  · refine ⟨hb1, ?_, hv⟩
    show b < 248
    have e1 : valN l 1 = valN l 0 * 64 + bt l 1 % 64 := rfl
    have e2 : valN l 2 = valN l 1 * 64 + bt l 2 % 64 := rfl
    have e3 : valN l 3 = valN l 2 * 64 + bt l 3 % 64 := rfl
    have hv3 : r = valN l 3 := hv
    simp only [leadOf] at hv0
    omega
theorem dec_hit {l : List UInt8} {r n : Nat} (h0 : 0 < r) (hm : mayN r = true) (h : rawR r = l.take n) (hn : n ≤ l.length) : dec l = some (r, n) := by
  have h1 := congrArg List.length h
  rw [rawR_length, List.length_take] at h1
  exact dec_iff.2 ⟨h0, hm, by rw [h]; exact List.take_prefix _ _, by omega⟩
theorem valN_step (l : List UInt8) (k : Nat) (h : 1 ≤ k) : valN l k = valN l (k - 1) * 64 + bt l k % 64 := by
  obtain ⟨j, rfl⟩ : ∃ j, k = j + 1 := ⟨k - 1, by omega⟩
  rfl
theorem below_drewN' {B : Nat} {a w : World} (h : Below B a w) (n : Nat) : Below B a (w.drewN n) := ⟨h.os, h.tape, h.output, h.size, h.block⟩
theorem quiet_of_left {P : Program} {f : FuncId} {args : Array Value} {w : World} {n : Nat} {v : Value} (h : Calls P f args (w.drewN n) fun e w' => e = .returned v ∧ w.drewN n = w') : Calls P f args (w.drewN n) fun e w'' => e = .returned v ∧ ∃ m, w'' = w.drewN m :=
  h.mono fun _ _ ⟨he, hm⟩ => ⟨he, n, hm.symm⟩
def refR (l : List UInt8) : Int := match dec l with
  | some (r, _) => r
  | none => 0
def refN (l : List UInt8) : Int := match dec l with
  | some (_, n) => n
  | none => 0
def RFirstPost (w : World) (l : List UInt8) (e : Ending) (w' : World) : Prop := e = .returned (.tuple #[.int .i32 (refR l), .int .i64 (refN l)]) ∧ Below w.heap.size w w'
theorem rfirst_none {w w' : World} {l : List UInt8} (h : dec l = none) (hb : Below w.heap.size w w') : RFirstPost w l (.returned (.tuple #[.int .i32 0, .int .i64 0])) w' := ⟨by simp [refR, refN, h], hb⟩
theorem rfirst_some {w w' : World} {l : List UInt8} {r n : Nat} (h : dec l = some (r, n)) (hb : Below w.heap.size w w') : RFirstPost w l (.returned (.tuple #[.int .i32 r, .int .i64 n])) w' := ⟨by simp [refR, refN, h], hb⟩
set_option maxRecDepth 100000 in
set_option maxHeartbeats 8000000 in
theorem refFirst_any (s : ByteArray) (w : World) (hs : s.size ≤ 281474976710656) : Calls Tryz.prog 100 #[.string s] w fun e w' => RFirstPost w s.data.toList e w' := by
  have hsm : s.size ≤ 9223372036854775807 := by omega
  obtain ⟨L, hL⟩ : ∃ L, s.data.toList = L := ⟨_, rfl⟩
  have hsl : s.size = L.length := by rw [Lib.size_eq, hL]
  have HSL := Lib.hid hsl
  have HL := Lib.hid hL
  rw [hL]
  clear hsl hL
  go_enter Tryz.func100, Tryz.ntmps100
  go_wp2
  go_loopw [4, 5, 6, 7, 8, 9, 10, 11, 12, 13, 14, 15, 16, 17, 18, 19, 20, 21, 22, 23, 24, 25, 26, 27, 28, 29, 30, 31, 32, 33, 34, 35, 36, 37, 38, 39, 40, 41, 42, 43, 44, 45, 46, 47, 48, 49, 50, 51, 52, 53, 54, 55, 56, 57, 58, 59, 60, 61, 62, 63, 64, 65, 66, 67, 68] (fun x _ _ _ _ _ _ _ _ _ _ _ _ _ _ _ _ _ _ _ _ _ _ _ _ _ _ _ _ _ _ _ _ _ _ _ _ _ _ _ _ _ _ _ _ _ _ _ _ _ _ _ _ _ _ _ _ _ _ _ _ _ _ _ _ wr => ∃ n : Nat, x = .int .i64 n ∧ 1 ≤ n ∧ n ≤ 5 ∧ (∀ r k, dec L = some (r, k) → n ≤ k) ∧ Below w.heap.size w wr)
    (fun x _ _ _ _ _ _ _ _ _ _ _ _ _ _ _ _ _ _ _ _ _ _ _ _ _ _ _ _ _ _ _ _ _ _ _ _ _ _ _ _ _ _ _ _ _ _ _ _ _ _ _ _ _ _ _ _ _ _ _ _ _ _ _ _ _ => 5 - (intOf x).toNat)
  case atStart => exact ⟨1, rfl, by omega, by omega, (fun r k h => (dec_range h).1), Below.refl _ _⟩
  case round =>
    obtain ⟨n, rfl, hn1, hn5, hno, hb⟩ := hrel
    have HNO := Lib.hid (And.intro hno hb)
    clear hno hb
    by_cases hlt : n ≤ 4 ∧ n ≤ s.size
    · obtain ⟨hn4, hns⟩ := hlt
      have j0 := index_str s 0 0 rfl (by omega)
      have hbt := bt_lt L 0
      rw [HL.out] at j0
      obtain ⟨b, hbe⟩ : ∃ b, bt L 0 = b := ⟨_, rfl⟩
      have HBE := Lib.hid hbe
      rw [hbe] at j0 hbt
      clear hbe
      have key : n = 1 ∨ n = 2 ∨ n = 3 ∨ n = 4 := by omega
      rcases key with hn | hn | hn | hn
      · have e2 : ((n : Int) == 2) = false := by rw [hn]; rfl
        have e3 : ((n : Int) == 3) = false := by rw [hn]; rfl
        have e4 : ((n : Int) == 4) = false := by rw [hn]; rfl
        by_cases hr : loN 1 ≤ b ∧ b < hiN 1
        · obtain ⟨hr1, hr2⟩ := hr
          simp only [loN, hiN] at hr1 hr2
          have hr1' : (0 : Int) ≤ b := by omega
          have hr2' : (b : Int) < 128 := by omega
          clear hn
          have hv0 : (b : Int) - 0 = (valN L 0 : Nat) := by
            have e1 : nOf b = 0 := by unfold nOf; rw [if_pos (by omega)]
            show _ = ((bt L 0 - leadOf (nOf (bt L 0)) : Nat) : Int)
            rw [HBE.out, e1]; simp only [leadOf]; omega
          have HV0 := Lib.hid hv0
          have HR := Lib.hid (And.intro hr1 hr2)
          clear hv0
          go_wp2
          clear e2 e3 e4 hr1 hr2 j0
          obtain ⟨w9, hw9⟩ : ∃ w9 : World, w9 = wr := ⟨_, rfl⟩
          go_loop [8, 9, 41, 42, 43, 44, 45, 46, 47, 48, 49, 50, 51, 52, 53, 54] (fun r i _ _ _ _ _ _ _ _ _ _ _ _ _ _ => ∃ k : Nat, i = .int .i64 k ∧ 1 ≤ k ∧ k ≤ n ∧ r = .int .i32 (valN L (k - 1) : Nat))
            (fun _ i _ _ _ _ _ _ _ _ _ _ _ _ _ _ => n - (intOf i).toNat)
          case atStart => exact ⟨1, rfl, by omega, hn1, by first | (rw [← HV0.out]; done) | (rw [← HV0.out]; go_num)⟩
          case round =>
            obtain ⟨k, rfl, hk1, hkn, rfl⟩ := hrel
            obtain ⟨hv1, hv2⟩ := valN_lt L (k - 1) (by omega)
            by_cases hlk : k < n
            · have hc := bt_lt L k
              have hix := index_str s k k rfl (by omega)
              rw [HL.out] at hix
              have HS := Lib.hid (valN_step L k hk1)
              have hv3 := hv2 (by omega)
              clear hv2
              generalize bt L k = c at *
              generalize valN L (k - 1) = v at *
              go_wp2
              go_round
              case rel => exact ⟨k + 1, by go_num, by omega, by omega, by rw [Nat.add_sub_cancel, HS.out]; go_num⟩
              case measure => simp [intOf]; omega
            · obtain rfl : k = n := by omega
              have hlk' : ¬ ((k : Int) < k) := by omega
              clear hv2
              obtain ⟨v, hv⟩ : ∃ v, valN L (k - 1) = v := ⟨_, rfl⟩
              have HV := Lib.hid hv
              rw [hv] at hv1 ⊢
              clear hv hlk
              have hxl := str_lo s k (by omega)
              have HC := Lib.hid (fun r' h => (dec_range (l := L) (r := r') (n := k) h).2.2.2.2.2)
              have HHIT := Lib.hid (fun h0 hm h => dec_hit (l := L) (r := v) (n := k) h0 hm h (by have := HSL.out; omega))
              have HND := Lib.hid (fun (hd : ¬ ∃ r', dec L = some (r', k)) => (show ∀ r q, dec L = some (r, q) → k + 1 ≤ q from fun r q h => by
                have := HNO.out.1 r q h
                by_cases e : q = k
                · subst e; exact absurd ⟨r, h⟩ hd
                · omega))
              have HMAY := Lib.hid (fun W => refMay_any (v : Int) W)
              by_cases hv0 : v = 0
              · have HD := Lib.hid (HND.out (fun ⟨r', h'⟩ => by
                  have h1 := (dec_yes h').1
                  have h2 := HC.out r' h'
                  rw [HV.out] at h2; omega))
                subst hv0
                go_wp2
                go_quiet (fail)
                go_wp2
                go_roundw
                case rel => exact ⟨k + 1, by go_num, by omega, by omega, HD.out, below_drewN' HNO.out.2 _⟩
                case measure => simp [intOf]; omega
              · cases hm : mayZ v with
                | false =>
                  have HD := Lib.hid (HND.out (fun ⟨r', h'⟩ => by
                    have h1 := (dec_yes h').2.1
                    have h2 := HC.out r' h'
                    rw [HV.out] at h2
                    rw [h2, ← mayZ_nat, hm] at h1; cases h1))
                  rw [hm] at HMAY
                  clear hm
                  go_wp2
                  have dN : decide (0 < v) = true := by simp; omega
                  have dI : decide ((0 : Int) < v) = true := by simp; omega
                  clear hv0
                  go_quiet ((go_at_call 127; exact quiet_of_left (HMAY.out _)))
                  go_wp2
                  go_roundw
                  case rel => exact ⟨k + 1, by go_num, by omega, by omega, HD.out, below_drewN' HNO.out.2 _⟩
                  case measure => simp [intOf]; omega
                | true =>
                  have hvl : v < 1114112 := mayN_lt (by rw [← mayZ_nat]; exact hm)
                  have HRAW := Lib.hid (fun W => refRaw_any v hvl W)
                  rw [hm] at HMAY
                  have hxe : (s.extract 0 k).data.toList = L.take k := by rw [Lib.extract_data, List.drop_zero, Nat.sub_zero, HL.out]
                  have hbe : (rawR v == (s.extract 0 k).toList) = decide (rawR v = L.take k) := by
                    rw [ByteArray.toList_eq, hxe, Bool.eq_iff_iff, beq_iff_eq, decide_eq_true_eq]
                  clear hxe
                  by_cases heq : rawR v = L.take k
                  · have HD := Lib.hid (HHIT.out (by omega) (by rw [← mayZ_nat]; exact hm) heq)
                    rw [decide_eq_true heq] at hbe
                    clear heq
                    clear hm
                    go_wp2
                    have dN : decide (0 < v) = true := by simp; omega
                    have dI : decide ((0 : Int) < v) = true := by simp; omega
                    clear hv0
                    go_region_held3 (fun _ => True) (trivial) (first
                      | (go_at_call 127; refine (HMAY.out _).mono ?_; rintro e w' ⟨rfl, rfl⟩)
                      | (go_at_call 128; refine (HRAW.out _).mono ?_; rintro e w4 ⟨rfl, hb4⟩))
                    have HB4 := Lib.hid (show Below w.heap.size w w4 from (HNO.out.2.drew).trans (hb4.mono HNO.out.2.size))
                    clear hb4
                    go_wp2
                    go_ret2
                    exact rfirst_some HD.out HB4.out
                  · have HD := Lib.hid (HND.out (fun ⟨r', h'⟩ => by
                      have h2 := HC.out r' h'
                      rw [HV.out] at h2
                      subst h2
                      obtain ⟨-, -, h3, h4⟩ := dec_yes h'
                      exact heq (by rw [List.prefix_iff_eq_take.1 h3, rawR_length, h4])))
                    rw [decide_eq_false heq] at hbe
                    clear heq
                    clear hm
                    go_wp2
                    have dN : decide (0 < v) = true := by simp; omega
                    have dI : decide ((0 : Int) < v) = true := by simp; omega
                    clear hv0
                    go_region_held3 (fun _ => True) (trivial) (first
                      | (go_at_call 127; refine (HMAY.out _).mono ?_; rintro e w' ⟨rfl, rfl⟩)
                      | (go_at_call 128; refine (HRAW.out _).mono ?_; rintro e w4 ⟨rfl, hb4⟩))
                    have HB4 := Lib.hid (show Below w.heap.size w w4 from (HNO.out.2.drew).trans (hb4.mono HNO.out.2.size))
                    clear hb4
                    go_wp2
                    go_roundw
                    case rel => exact ⟨k + 1, by go_num, by omega, by omega, HD.out, HB4.out⟩
                    case measure => simp [intOf]; omega
        · have HD := Lib.hid (show ∀ r q, dec L = some (r, q) → n + 1 ≤ q from fun r q h => by
            have h1 := HNO.out.1 r q h
            by_cases e : q = n
            · exfalso
              have h2 := dec_range h
              rw [e, HBE.out, hn] at h2
              exact hr ⟨h2.2.2.2.1, h2.2.2.2.2.1⟩
            · omega)
          simp only [loN, hiN] at hr
          have hr' : (b : Int) < 0 ∨ (128 : Int) ≤ b := by omega
          clear hr
          rcases hr' with hr' | hr'
          all_goals
            first
              | omega
              | (go_wp2
                 go_roundw
                 case rel => exact ⟨n + 1, by go_num, by omega, by omega, HD.out, HNO.out.2⟩
                 case measure => simp [intOf]; omega)
      · have e2 : ((n : Int) == 2) = true := by rw [hn]; rfl
        have e3 : ((n : Int) == 3) = false := by rw [hn]; rfl
        have e4 : ((n : Int) == 4) = false := by rw [hn]; rfl
        by_cases hr : loN 2 ≤ b ∧ b < hiN 2
        · obtain ⟨hr1, hr2⟩ := hr
          simp only [loN, hiN] at hr1 hr2
          have hr1' : (192 : Int) ≤ b := by omega
          have hr2' : (b : Int) < 224 := by omega
          clear hn
          have hv0 : (b : Int) - 192 = (valN L 0 : Nat) := by
            have e1 : nOf b = 1 := by unfold nOf; rw [if_neg (by omega), if_pos (by omega)]
            show _ = ((bt L 0 - leadOf (nOf (bt L 0)) : Nat) : Int)
            rw [HBE.out, e1]; simp only [leadOf]; omega
          have HV0 := Lib.hid hv0
          have HR := Lib.hid (And.intro hr1 hr2)
          clear hv0
          go_wp2
          clear e2 e3 e4 hr1 hr2 j0
          obtain ⟨w9, hw9⟩ : ∃ w9 : World, w9 = wr := ⟨_, rfl⟩
          go_loop [8, 9, 41, 42, 43, 44, 45, 46, 47, 48, 49, 50, 51, 52, 53, 54] (fun r i _ _ _ _ _ _ _ _ _ _ _ _ _ _ => ∃ k : Nat, i = .int .i64 k ∧ 1 ≤ k ∧ k ≤ n ∧ r = .int .i32 (valN L (k - 1) : Nat))
            (fun _ i _ _ _ _ _ _ _ _ _ _ _ _ _ _ => n - (intOf i).toNat)
          case atStart => exact ⟨1, rfl, by omega, hn1, by first | (rw [← HV0.out]; done) | (rw [← HV0.out]; go_num)⟩
          case round =>
            obtain ⟨k, rfl, hk1, hkn, rfl⟩ := hrel
            obtain ⟨hv1, hv2⟩ := valN_lt L (k - 1) (by omega)
            by_cases hlk : k < n
            · have hc := bt_lt L k
              have hix := index_str s k k rfl (by omega)
              rw [HL.out] at hix
              have HS := Lib.hid (valN_step L k hk1)
              have hv3 := hv2 (by omega)
              clear hv2
              generalize bt L k = c at *
              generalize valN L (k - 1) = v at *
              go_wp2
              go_round
              case rel => exact ⟨k + 1, by go_num, by omega, by omega, by rw [Nat.add_sub_cancel, HS.out]; go_num⟩
              case measure => simp [intOf]; omega
            · obtain rfl : k = n := by omega
              have hlk' : ¬ ((k : Int) < k) := by omega
              clear hv2
              obtain ⟨v, hv⟩ : ∃ v, valN L (k - 1) = v := ⟨_, rfl⟩
              have HV := Lib.hid hv
              rw [hv] at hv1 ⊢
              clear hv hlk
              have hxl := str_lo s k (by omega)
              have HC := Lib.hid (fun r' h => (dec_range (l := L) (r := r') (n := k) h).2.2.2.2.2)
              have HHIT := Lib.hid (fun h0 hm h => dec_hit (l := L) (r := v) (n := k) h0 hm h (by have := HSL.out; omega))
              have HND := Lib.hid (fun (hd : ¬ ∃ r', dec L = some (r', k)) => (show ∀ r q, dec L = some (r, q) → k + 1 ≤ q from fun r q h => by
                have := HNO.out.1 r q h
                by_cases e : q = k
                · subst e; exact absurd ⟨r, h⟩ hd
                · omega))
              have HMAY := Lib.hid (fun W => refMay_any (v : Int) W)
              by_cases hv0 : v = 0
              · have HD := Lib.hid (HND.out (fun ⟨r', h'⟩ => by
                  have h1 := (dec_yes h').1
                  have h2 := HC.out r' h'
                  rw [HV.out] at h2; omega))
                subst hv0
                go_wp2
                go_quiet (fail)
                go_wp2
                go_roundw
                case rel => exact ⟨k + 1, by go_num, by omega, by omega, HD.out, below_drewN' HNO.out.2 _⟩
                case measure => simp [intOf]; omega
              · cases hm : mayZ v with
                | false =>
                  have HD := Lib.hid (HND.out (fun ⟨r', h'⟩ => by
                    have h1 := (dec_yes h').2.1
                    have h2 := HC.out r' h'
                    rw [HV.out] at h2
                    rw [h2, ← mayZ_nat, hm] at h1; cases h1))
                  rw [hm] at HMAY
                  clear hm
                  go_wp2
                  have dN : decide (0 < v) = true := by simp; omega
                  have dI : decide ((0 : Int) < v) = true := by simp; omega
                  clear hv0
                  go_quiet ((go_at_call 127; exact quiet_of_left (HMAY.out _)))
                  go_wp2
                  go_roundw
                  case rel => exact ⟨k + 1, by go_num, by omega, by omega, HD.out, below_drewN' HNO.out.2 _⟩
                  case measure => simp [intOf]; omega
                | true =>
                  have hvl : v < 1114112 := mayN_lt (by rw [← mayZ_nat]; exact hm)
                  have HRAW := Lib.hid (fun W => refRaw_any v hvl W)
                  rw [hm] at HMAY
                  have hxe : (s.extract 0 k).data.toList = L.take k := by rw [Lib.extract_data, List.drop_zero, Nat.sub_zero, HL.out]
                  have hbe : (rawR v == (s.extract 0 k).toList) = decide (rawR v = L.take k) := by
                    rw [ByteArray.toList_eq, hxe, Bool.eq_iff_iff, beq_iff_eq, decide_eq_true_eq]
                  clear hxe
                  by_cases heq : rawR v = L.take k
                  · have HD := Lib.hid (HHIT.out (by omega) (by rw [← mayZ_nat]; exact hm) heq)
                    rw [decide_eq_true heq] at hbe
                    clear heq
                    clear hm
                    go_wp2
                    have dN : decide (0 < v) = true := by simp; omega
                    have dI : decide ((0 : Int) < v) = true := by simp; omega
                    clear hv0
                    go_region_held3 (fun _ => True) (trivial) (first
                      | (go_at_call 127; refine (HMAY.out _).mono ?_; rintro e w' ⟨rfl, rfl⟩)
                      | (go_at_call 128; refine (HRAW.out _).mono ?_; rintro e w4 ⟨rfl, hb4⟩))
                    have HB4 := Lib.hid (show Below w.heap.size w w4 from (HNO.out.2.drew).trans (hb4.mono HNO.out.2.size))
                    clear hb4
                    go_wp2
                    go_ret2
                    exact rfirst_some HD.out HB4.out
                  · have HD := Lib.hid (HND.out (fun ⟨r', h'⟩ => by
                      have h2 := HC.out r' h'
                      rw [HV.out] at h2
                      subst h2
                      obtain ⟨-, -, h3, h4⟩ := dec_yes h'
                      exact heq (by rw [List.prefix_iff_eq_take.1 h3, rawR_length, h4])))
                    rw [decide_eq_false heq] at hbe
                    clear heq
                    clear hm
                    go_wp2
                    have dN : decide (0 < v) = true := by simp; omega
                    have dI : decide ((0 : Int) < v) = true := by simp; omega
                    clear hv0
                    go_region_held3 (fun _ => True) (trivial) (first
                      | (go_at_call 127; refine (HMAY.out _).mono ?_; rintro e w' ⟨rfl, rfl⟩)
                      | (go_at_call 128; refine (HRAW.out _).mono ?_; rintro e w4 ⟨rfl, hb4⟩))
                    have HB4 := Lib.hid (show Below w.heap.size w w4 from (HNO.out.2.drew).trans (hb4.mono HNO.out.2.size))
                    clear hb4
                    go_wp2
                    go_roundw
                    case rel => exact ⟨k + 1, by go_num, by omega, by omega, HD.out, HB4.out⟩
                    case measure => simp [intOf]; omega
        · have HD := Lib.hid (show ∀ r q, dec L = some (r, q) → n + 1 ≤ q from fun r q h => by
            have h1 := HNO.out.1 r q h
            by_cases e : q = n
            · exfalso
              have h2 := dec_range h
              rw [e, HBE.out, hn] at h2
              exact hr ⟨h2.2.2.2.1, h2.2.2.2.2.1⟩
            · omega)
          simp only [loN, hiN] at hr
          have hr' : (b : Int) < 192 ∨ (224 : Int) ≤ b := by omega
          clear hr
          rcases hr' with hr' | hr'
          all_goals
            first
              | omega
              | (go_wp2
                 go_roundw
                 case rel => exact ⟨n + 1, by go_num, by omega, by omega, HD.out, HNO.out.2⟩
                 case measure => simp [intOf]; omega)
      · have e2 : ((n : Int) == 2) = false := by rw [hn]; rfl
        have e3 : ((n : Int) == 3) = true := by rw [hn]; rfl
        have e4 : ((n : Int) == 4) = false := by rw [hn]; rfl
        by_cases hr : loN 3 ≤ b ∧ b < hiN 3
        · obtain ⟨hr1, hr2⟩ := hr
          simp only [loN, hiN] at hr1 hr2
          have hr1' : (224 : Int) ≤ b := by omega
          have hr2' : (b : Int) < 240 := by omega
          clear hn
          have hv0 : (b : Int) - 224 = (valN L 0 : Nat) := by
            have e1 : nOf b = 2 := by unfold nOf; rw [if_neg (by omega), if_neg (by omega), if_pos (by omega)]
            show _ = ((bt L 0 - leadOf (nOf (bt L 0)) : Nat) : Int)
            rw [HBE.out, e1]; simp only [leadOf]; omega
          have HV0 := Lib.hid hv0
          have HR := Lib.hid (And.intro hr1 hr2)
          clear hv0
          go_wp2
          clear e2 e3 e4 hr1 hr2 j0
          obtain ⟨w9, hw9⟩ : ∃ w9 : World, w9 = wr := ⟨_, rfl⟩
          go_loop [8, 9, 41, 42, 43, 44, 45, 46, 47, 48, 49, 50, 51, 52, 53, 54] (fun r i _ _ _ _ _ _ _ _ _ _ _ _ _ _ => ∃ k : Nat, i = .int .i64 k ∧ 1 ≤ k ∧ k ≤ n ∧ r = .int .i32 (valN L (k - 1) : Nat))
            (fun _ i _ _ _ _ _ _ _ _ _ _ _ _ _ _ => n - (intOf i).toNat)
          case atStart => exact ⟨1, rfl, by omega, hn1, by first | (rw [← HV0.out]; done) | (rw [← HV0.out]; go_num)⟩
          case round =>
            obtain ⟨k, rfl, hk1, hkn, rfl⟩ := hrel
            obtain ⟨hv1, hv2⟩ := valN_lt L (k - 1) (by omega)
            by_cases hlk : k < n
            · have hc := bt_lt L k
              have hix := index_str s k k rfl (by omega)
              rw [HL.out] at hix
              have HS := Lib.hid (valN_step L k hk1)
              have hv3 := hv2 (by omega)
              clear hv2
              generalize bt L k = c at *
              generalize valN L (k - 1) = v at *
              go_wp2
              go_round
              case rel => exact ⟨k + 1, by go_num, by omega, by omega, by rw [Nat.add_sub_cancel, HS.out]; go_num⟩
              case measure => simp [intOf]; omega
            · obtain rfl : k = n := by omega
              have hlk' : ¬ ((k : Int) < k) := by omega
              clear hv2
              obtain ⟨v, hv⟩ : ∃ v, valN L (k - 1) = v := ⟨_, rfl⟩
              have HV := Lib.hid hv
              rw [hv] at hv1 ⊢
              clear hv hlk
              have hxl := str_lo s k (by omega)
              have HC := Lib.hid (fun r' h => (dec_range (l := L) (r := r') (n := k) h).2.2.2.2.2)
              have HHIT := Lib.hid (fun h0 hm h => dec_hit (l := L) (r := v) (n := k) h0 hm h (by have := HSL.out; omega))
              have HND := Lib.hid (fun (hd : ¬ ∃ r', dec L = some (r', k)) => (show ∀ r q, dec L = some (r, q) → k + 1 ≤ q from fun r q h => by
                have := HNO.out.1 r q h
                by_cases e : q = k
                · subst e; exact absurd ⟨r, h⟩ hd
                · omega))
              have HMAY := Lib.hid (fun W => refMay_any (v : Int) W)
              by_cases hv0 : v = 0
              · have HD := Lib.hid (HND.out (fun ⟨r', h'⟩ => by
                  have h1 := (dec_yes h').1
                  have h2 := HC.out r' h'
                  rw [HV.out] at h2; omega))
                subst hv0
                go_wp2
                go_quiet (fail)
                go_wp2
                go_roundw
                case rel => exact ⟨k + 1, by go_num, by omega, by omega, HD.out, below_drewN' HNO.out.2 _⟩
                case measure => simp [intOf]; omega
              · cases hm : mayZ v with
                | false =>
                  have HD := Lib.hid (HND.out (fun ⟨r', h'⟩ => by
                    have h1 := (dec_yes h').2.1
                    have h2 := HC.out r' h'
                    rw [HV.out] at h2
                    rw [h2, ← mayZ_nat, hm] at h1; cases h1))
                  rw [hm] at HMAY
                  clear hm
                  go_wp2
                  have dN : decide (0 < v) = true := by simp; omega
                  have dI : decide ((0 : Int) < v) = true := by simp; omega
                  clear hv0
                  go_quiet ((go_at_call 127; exact quiet_of_left (HMAY.out _)))
                  go_wp2
                  go_roundw
                  case rel => exact ⟨k + 1, by go_num, by omega, by omega, HD.out, below_drewN' HNO.out.2 _⟩
                  case measure => simp [intOf]; omega
                | true =>
                  have hvl : v < 1114112 := mayN_lt (by rw [← mayZ_nat]; exact hm)
                  have HRAW := Lib.hid (fun W => refRaw_any v hvl W)
                  rw [hm] at HMAY
                  have hxe : (s.extract 0 k).data.toList = L.take k := by rw [Lib.extract_data, List.drop_zero, Nat.sub_zero, HL.out]
                  have hbe : (rawR v == (s.extract 0 k).toList) = decide (rawR v = L.take k) := by
                    rw [ByteArray.toList_eq, hxe, Bool.eq_iff_iff, beq_iff_eq, decide_eq_true_eq]
                  clear hxe
                  by_cases heq : rawR v = L.take k
                  · have HD := Lib.hid (HHIT.out (by omega) (by rw [← mayZ_nat]; exact hm) heq)
                    rw [decide_eq_true heq] at hbe
                    clear heq
                    clear hm
                    go_wp2
                    have dN : decide (0 < v) = true := by simp; omega
                    have dI : decide ((0 : Int) < v) = true := by simp; omega
                    clear hv0
                    go_region_held3 (fun _ => True) (trivial) (first
                      | (go_at_call 127; refine (HMAY.out _).mono ?_; rintro e w' ⟨rfl, rfl⟩)
                      | (go_at_call 128; refine (HRAW.out _).mono ?_; rintro e w4 ⟨rfl, hb4⟩))
                    have HB4 := Lib.hid (show Below w.heap.size w w4 from (HNO.out.2.drew).trans (hb4.mono HNO.out.2.size))
                    clear hb4
                    go_wp2
                    go_ret2
                    exact rfirst_some HD.out HB4.out
                  · have HD := Lib.hid (HND.out (fun ⟨r', h'⟩ => by
                      have h2 := HC.out r' h'
                      rw [HV.out] at h2
                      subst h2
                      obtain ⟨-, -, h3, h4⟩ := dec_yes h'
                      exact heq (by rw [List.prefix_iff_eq_take.1 h3, rawR_length, h4])))
                    rw [decide_eq_false heq] at hbe
                    clear heq
                    clear hm
                    go_wp2
                    have dN : decide (0 < v) = true := by simp; omega
                    have dI : decide ((0 : Int) < v) = true := by simp; omega
                    clear hv0
                    go_region_held3 (fun _ => True) (trivial) (first
                      | (go_at_call 127; refine (HMAY.out _).mono ?_; rintro e w' ⟨rfl, rfl⟩)
                      | (go_at_call 128; refine (HRAW.out _).mono ?_; rintro e w4 ⟨rfl, hb4⟩))
                    have HB4 := Lib.hid (show Below w.heap.size w w4 from (HNO.out.2.drew).trans (hb4.mono HNO.out.2.size))
                    clear hb4
                    go_wp2
                    go_roundw
                    case rel => exact ⟨k + 1, by go_num, by omega, by omega, HD.out, HB4.out⟩
                    case measure => simp [intOf]; omega
        · have HD := Lib.hid (show ∀ r q, dec L = some (r, q) → n + 1 ≤ q from fun r q h => by
            have h1 := HNO.out.1 r q h
            by_cases e : q = n
            · exfalso
              have h2 := dec_range h
              rw [e, HBE.out, hn] at h2
              exact hr ⟨h2.2.2.2.1, h2.2.2.2.2.1⟩
            · omega)
          simp only [loN, hiN] at hr
          have hr' : (b : Int) < 224 ∨ (240 : Int) ≤ b := by omega
          clear hr
          rcases hr' with hr' | hr'
          all_goals
            first
              | omega
              | (go_wp2
                 go_roundw
                 case rel => exact ⟨n + 1, by go_num, by omega, by omega, HD.out, HNO.out.2⟩
                 case measure => simp [intOf]; omega)
      · have e2 : ((n : Int) == 2) = false := by rw [hn]; rfl
        have e3 : ((n : Int) == 3) = false := by rw [hn]; rfl
        have e4 : ((n : Int) == 4) = true := by rw [hn]; rfl
        by_cases hr : loN 4 ≤ b ∧ b < hiN 4
        · obtain ⟨hr1, hr2⟩ := hr
          simp only [loN, hiN] at hr1 hr2
          have hr1' : (240 : Int) ≤ b := by omega
          have hr2' : (b : Int) < 248 := by omega
          clear hn
          have hv0 : (b : Int) - 240 = (valN L 0 : Nat) := by
            have e1 : nOf b = 3 := by unfold nOf; rw [if_neg (by omega), if_neg (by omega), if_neg (by omega)]
            show _ = ((bt L 0 - leadOf (nOf (bt L 0)) : Nat) : Int)
            rw [HBE.out, e1]; simp only [leadOf]; omega
          have HV0 := Lib.hid hv0
          have HR := Lib.hid (And.intro hr1 hr2)
          clear hv0
          go_wp2
          clear e2 e3 e4 hr1 hr2 j0
          obtain ⟨w9, hw9⟩ : ∃ w9 : World, w9 = wr := ⟨_, rfl⟩
          go_loop [8, 9, 41, 42, 43, 44, 45, 46, 47, 48, 49, 50, 51, 52, 53, 54] (fun r i _ _ _ _ _ _ _ _ _ _ _ _ _ _ => ∃ k : Nat, i = .int .i64 k ∧ 1 ≤ k ∧ k ≤ n ∧ r = .int .i32 (valN L (k - 1) : Nat))
            (fun _ i _ _ _ _ _ _ _ _ _ _ _ _ _ _ => n - (intOf i).toNat)
          case atStart => exact ⟨1, rfl, by omega, hn1, by first | (rw [← HV0.out]; done) | (rw [← HV0.out]; go_num)⟩
          case round =>
            obtain ⟨k, rfl, hk1, hkn, rfl⟩ := hrel
            obtain ⟨hv1, hv2⟩ := valN_lt L (k - 1) (by omega)
            by_cases hlk : k < n
            · have hc := bt_lt L k
              have hix := index_str s k k rfl (by omega)
              rw [HL.out] at hix
              have HS := Lib.hid (valN_step L k hk1)
              have hv3 := hv2 (by omega)
              clear hv2
              generalize bt L k = c at *
              generalize valN L (k - 1) = v at *
              go_wp2
              go_round
              case rel => exact ⟨k + 1, by go_num, by omega, by omega, by rw [Nat.add_sub_cancel, HS.out]; go_num⟩
              case measure => simp [intOf]; omega
            · obtain rfl : k = n := by omega
              have hlk' : ¬ ((k : Int) < k) := by omega
              clear hv2
              obtain ⟨v, hv⟩ : ∃ v, valN L (k - 1) = v := ⟨_, rfl⟩
              have HV := Lib.hid hv
              rw [hv] at hv1 ⊢
              clear hv hlk
              have hxl := str_lo s k (by omega)
              have HC := Lib.hid (fun r' h => (dec_range (l := L) (r := r') (n := k) h).2.2.2.2.2)
              have HHIT := Lib.hid (fun h0 hm h => dec_hit (l := L) (r := v) (n := k) h0 hm h (by have := HSL.out; omega))
              have HND := Lib.hid (fun (hd : ¬ ∃ r', dec L = some (r', k)) => (show ∀ r q, dec L = some (r, q) → k + 1 ≤ q from fun r q h => by
                have := HNO.out.1 r q h
                by_cases e : q = k
                · subst e; exact absurd ⟨r, h⟩ hd
                · omega))
              have HMAY := Lib.hid (fun W => refMay_any (v : Int) W)
              by_cases hv0 : v = 0
              · have HD := Lib.hid (HND.out (fun ⟨r', h'⟩ => by
                  have h1 := (dec_yes h').1
                  have h2 := HC.out r' h'
                  rw [HV.out] at h2; omega))
                subst hv0
                go_wp2
                go_quiet (fail)
                go_wp2
                go_roundw
                case rel => exact ⟨k + 1, by go_num, by omega, by omega, HD.out, below_drewN' HNO.out.2 _⟩
                case measure => simp [intOf]; omega
              · cases hm : mayZ v with
                | false =>
                  have HD := Lib.hid (HND.out (fun ⟨r', h'⟩ => by
                    have h1 := (dec_yes h').2.1
                    have h2 := HC.out r' h'
                    rw [HV.out] at h2
                    rw [h2, ← mayZ_nat, hm] at h1; cases h1))
                  rw [hm] at HMAY
                  clear hm
                  go_wp2
                  have dN : decide (0 < v) = true := by simp; omega
                  have dI : decide ((0 : Int) < v) = true := by simp; omega
                  clear hv0
                  go_quiet ((go_at_call 127; exact quiet_of_left (HMAY.out _)))
                  go_wp2
                  go_roundw
                  case rel => exact ⟨k + 1, by go_num, by omega, by omega, HD.out, below_drewN' HNO.out.2 _⟩
                  case measure => simp [intOf]; omega
                | true =>
                  have hvl : v < 1114112 := mayN_lt (by rw [← mayZ_nat]; exact hm)
                  have HRAW := Lib.hid (fun W => refRaw_any v hvl W)
                  rw [hm] at HMAY
                  have hxe : (s.extract 0 k).data.toList = L.take k := by rw [Lib.extract_data, List.drop_zero, Nat.sub_zero, HL.out]
                  have hbe : (rawR v == (s.extract 0 k).toList) = decide (rawR v = L.take k) := by
                    rw [ByteArray.toList_eq, hxe, Bool.eq_iff_iff, beq_iff_eq, decide_eq_true_eq]
                  clear hxe
                  by_cases heq : rawR v = L.take k
                  · have HD := Lib.hid (HHIT.out (by omega) (by rw [← mayZ_nat]; exact hm) heq)
                    rw [decide_eq_true heq] at hbe
                    clear heq
                    clear hm
                    go_wp2
                    have dN : decide (0 < v) = true := by simp; omega
                    have dI : decide ((0 : Int) < v) = true := by simp; omega
                    clear hv0
                    go_region_held3 (fun _ => True) (trivial) (first
                      | (go_at_call 127; refine (HMAY.out _).mono ?_; rintro e w' ⟨rfl, rfl⟩)
                      | (go_at_call 128; refine (HRAW.out _).mono ?_; rintro e w4 ⟨rfl, hb4⟩))
                    have HB4 := Lib.hid (show Below w.heap.size w w4 from (HNO.out.2.drew).trans (hb4.mono HNO.out.2.size))
                    clear hb4
                    go_wp2
                    go_ret2
                    exact rfirst_some HD.out HB4.out
                  · have HD := Lib.hid (HND.out (fun ⟨r', h'⟩ => by
                      have h2 := HC.out r' h'
                      rw [HV.out] at h2
                      subst h2
                      obtain ⟨-, -, h3, h4⟩ := dec_yes h'
                      exact heq (by rw [List.prefix_iff_eq_take.1 h3, rawR_length, h4])))
                    rw [decide_eq_false heq] at hbe
                    clear heq
                    clear hm
                    go_wp2
                    have dN : decide (0 < v) = true := by simp; omega
                    have dI : decide ((0 : Int) < v) = true := by simp; omega
                    clear hv0
                    go_region_held3 (fun _ => True) (trivial) (first
                      | (go_at_call 127; refine (HMAY.out _).mono ?_; rintro e w' ⟨rfl, rfl⟩)
                      | (go_at_call 128; refine (HRAW.out _).mono ?_; rintro e w4 ⟨rfl, hb4⟩))
                    have HB4 := Lib.hid (show Below w.heap.size w w4 from (HNO.out.2.drew).trans (hb4.mono HNO.out.2.size))
                    clear hb4
                    go_wp2
                    go_roundw
                    case rel => exact ⟨k + 1, by go_num, by omega, by omega, HD.out, HB4.out⟩
                    case measure => simp [intOf]; omega
        · have HD := Lib.hid (show ∀ r q, dec L = some (r, q) → n + 1 ≤ q from fun r q h => by
            have h1 := HNO.out.1 r q h
            by_cases e : q = n
            · exfalso
              have h2 := dec_range h
              rw [e, HBE.out, hn] at h2
              exact hr ⟨h2.2.2.2.1, h2.2.2.2.2.1⟩
            · omega)
          simp only [loN, hiN] at hr
          have hr' : (b : Int) < 240 ∨ (248 : Int) ≤ b := by omega
          clear hr
          rcases hr' with hr' | hr'
          all_goals
            first
              | omega
              | (go_wp2
                 go_roundw
                 case rel => exact ⟨n + 1, by go_num, by omega, by omega, HD.out, HNO.out.2⟩
                 case measure => simp [intOf]; omega)
    · have HD := Lib.hid (show dec L = none by
        cases hd : dec L with
        | none => rfl
        | some p =>
          obtain ⟨r, q⟩ := p
          have h1 := dec_range hd
          have h2 := HNO.out.1 r q hd
          have h3 := HSL.out
          omega)
      by_cases hn4 : n ≤ 4
      · have hns : s.size < n := by omega
        clear hlt
        go_wp2
        go_ret2
        exact rfirst_none HD.out HNO.out.2
      · obtain rfl : n = 5 := by omega
        clear hlt hn4 hn1 hn5
        go_wp2
        go_ret2
        exact rfirst_none HD.out HNO.out.2
end Go.Proofs.YtgcfgheamaoceaaGreatDoor

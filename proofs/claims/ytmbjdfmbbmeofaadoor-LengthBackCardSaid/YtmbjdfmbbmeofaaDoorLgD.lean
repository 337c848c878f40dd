/- Layer 15: what bytes tell. -/
import Derived.Test.YtmbjdfmbbmeofaaDoorLgB
import Derived.Test.YtmbjdfmbbmeofaaDoorBytes
namespace Go.Proofs.YtmbjdfmbbmeofaaDoor
open Go.RowKit

def lgTell (x : Nat × Nat × Nat) : Value := .tuple #[.int .i64 x.1, .int .i64 x.2.1, .int .i64 x.2.2]
theorem pow_seven (k : Nat) : 2 ^ (7 * k) = 128 ^ k := by rw [Nat.pow_mul]
/-- What is behind one byte more. -/
theorem lg_or (l : List UInt8) {k : Nat} (h : k < 4) : bits .or .i64 (lgVal l k : Int) ((2 ^ (7 * k) * (lgAt l k % 128) : Nat) : Int) = ((lgVal l (k + 1) : Nat) : Int) := by
  have h1 := lgVal_lt l k
  have h2 := lgVal_lt l (k + 1)
  have h3 := pow128 (k := k + 1) (by omega)
  rw [or_64 (by rw [pow_seven]; exact h1) ?_]
  · simp only [lgVal, pow_seven]; rw [Nat.mul_comm (128 ^ k)]
  · simp only [lgVal] at h2
    rw [pow_seven, Nat.mul_comm (128 ^ k), Nat.add_comm]; omega
theorem lg_shl (x k : Nat) (h : k < 4) : wrap64 ((x : Int) % 128 * 2 ^ (k * 7)) = ((2 ^ (7 * k) * (x % 128) : Nat) : Int) := by
  have e : (x : Int) % 128 * 2 ^ (k * 7) = ((2 ^ (7 * k) * (x % 128) : Nat) : Int) := by
    rw [Int.natCast_mul, Int.natCast_pow, Int.mul_comm, Nat.mul_comm k 7, Int.natCast_emod]; rfl
  have h2 : 2 ^ (7 * k) ≤ 2097152 := by
    have h4 : 7 * k ≤ 21 := by omega
    exact Nat.pow_le_pow_right (by decide) h4
  have h3 : 2 ^ (7 * k) * (x % 128) ≤ 2097152 * 128 := Nat.mul_le_mul h2 (by omega)
  rw [e]
  generalize 2 ^ (7 * k) * (x % 128) = q at *
  unfold wrap64; omega
theorem lg_or2 (l : List UInt8) {k : Nat} (h : k < 4) : bits .or .i64 (lgVal l k : Int) (wrap64 ((lgAt l k : Int) % 128 * 2 ^ (k * 7))) = ((lgVal l (k + 1) : Nat) : Int) := by
  rw [lg_shl _ _ h, lg_or l h]
def ReadJ (l : List UInt8) (w : World) (a' : Act) (w' : World) : Prop := lgRead l = (0, 0, 250) ∧ a'.defers = [] ∧ a'.tmps.size = 37 ∧ w = w'
def LgPost (l : List UInt8) (w : World) (e : Ending) (w' : World) : Prop := e = .returned (lgTell (lgRead l)) ∧ w = w'
theorem read_jump {l : List UInt8} {w : World} {T : Array Value} (hT : T.size = 37) (h : lgRead l = (0, 0, 250)) :
    LgPost l w (.returned (.tuple #[(((T.setIfInBounds 2 (Value.int IntKind.i64 0)).setIfInBounds 3 (Value.int IntKind.i64 0)).setIfInBounds 4 (Value.int IntKind.i64 250)).getD 2 undef, (((T.setIfInBounds 2 (Value.int IntKind.i64 0)).setIfInBounds 3 (Value.int IntKind.i64 0)).setIfInBounds 4 (Value.int IntKind.i64 250)).getD 3 undef, (((T.setIfInBounds 2 (Value.int IntKind.i64 0)).setIfInBounds 3 (Value.int IntKind.i64 0)).setIfInBounds 4 (Value.int IntKind.i64 250)).getD 4 undef])) w := by
  refine ⟨?_, rfl⟩
  rw [h]
  simp [Array.getD_eq_getD_getElem?, hT, lgTell]
set_option maxRecDepth 100000 in
set_option maxHeartbeats 400000 in
theorem read64_any (a : Option Addr) (l : List UInt8) (c n₀ : Nat) (w : World) (hm : BytesAt n₀ w a l) (ht : LgTab w) :
    Calls Tryd.prog 15 #[.slice a l.length c] w fun e w' => LgPost l w e w' := by
  have HM := Lib.hid hm
  have HT := Lib.hid ht
  clear hm ht
  go_enter Tryd.func15, Tryd.ntmps15
  go_wp2
  refine wp_scope_jumps 0 (ReadJ l w) (fun _ _ => 0) rfl ?first ?pass
  case first =>
    go_wp2
    go_loop [2, 5, 6, 7, 8, 9, 10, 11, 12, 13, 14, 15, 16, 17, 18, 19, 20, 21, 22, 23, 24, 25, 26, 27, 28, 29, 30, 31, 32, 33, 34, 35, 36] (fun u _ x _ _ _ _ _ _ _ _ _ _ _ _ _ _ _ _ _ _ _ _ _ _ _ _ _ _ _ _ _ _ => ∃ k : Nat, x = .int .i64 k ∧ k ≤ 4 ∧ k ≤ l.length ∧ u = .int .i64 (lgVal l k : Nat) ∧ lgRead l = lgFrom l (4 - k) k)
      (fun _ _ x _ _ _ _ _ _ _ _ _ _ _ _ _ _ _ _ _ _ _ _ _ _ _ _ _ _ _ _ _ _ => 4 - (intOf x).toNat)
    case atStart => exact ⟨0, rfl, by omega, Nat.zero_le _, rfl, rfl⟩
    case round =>
      obtain ⟨k, rfl, hk, hkl, rfl, hrd⟩ := hrel
      by_cases hlt : k < 4
      · have hlk : (k : Int) < 4 := by omega
        by_cases he : k = l.length
        · have HX := Lib.hid (hrd.trans (lgFrom_out l hlt he))
          clear hrd
          subst he
          have heq : ((l.length : Int) == (l.length : Int)) = true := by simp
          go_wp2
          simp only [Exit.jump]
          go_ret3
          exact ⟨by rw [HX.out]; rfl, rfl⟩
        · have hk2 : k < l.length := by omega
          obtain ⟨b, off, rfl, hb, hcl⟩ := HM.out (by intro e; rw [e] at hk2; simp at hk2)
          have hck := hcl k hk2
          have hx : (l[k]?.getD 0).toNat = lgAt l k := rfl
          rw [hx] at hck
          have hlk2 : (k : Int) < l.length := by omega
          have heq : ((k : Int) == (l.length : Int)) = false := by simp; omega
          have hand := and127_8 (lgAt_lt l k)
          have hor := lg_or2 l hlt
          have HX := Lib.hid (And.intro hrd (And.intro hkl hk))
          clear hrd hx hcl he hkl hk
          by_cases hge : 128 ≤ lgAt l k
          · have hge2 : (128 : Int) ≤ (lgAt l k : Int) := by omega
            have HG := Lib.hid (fun e => lgFrom_step l hlt e hge)
            generalize lgAt l k = x at *
            go_wp2
            go_round
            case rel => exact ⟨k + 1, by go_num, by omega, by omega, rfl, by rw [HX.out.1]; exact HG.out (by omega)⟩
            case measure => simp [intOf]; omega
          · have hge2 : ¬ (128 : Int) ≤ (lgAt l k : Int) := by omega
            have hsm := lg_small l hlt (by omega)
            have hvl := lgVal_lt l (k + 1)
            have hp := pow128 (k := k + 1) (by omega)
            have HSZ := Lib.hid (size_any (lgVal l (k + 1) : Nat) w HT.out)
            rw [lgSz_nat (by omega)] at HSZ
            by_cases hb0 : 0 < k ∧ lgAt l k = 0
            · have hbad := Lib.hid (HX.out.1.trans (lgFrom_bad l hlt (by omega) hb0.1 hb0.2))
              have hle : (lgSize (lgVal l (k + 1)) : Int) ≤ (k : Int) := by have := hsm.2 hb0; omega
              generalize lgSize (lgVal l (k + 1)) = z at *
              generalize lgVal l (k + 1) = v at *
              generalize lgAt l k = x at *
              clear hsm hvl hp hb0 hge
              go_wp2_with (go_at_call 10; refine HSZ.out.mono ?_; rintro e w' ⟨rfl, rfl⟩)
              go_step3
              exact ⟨rfl, hbad.out, rfl, rfl, rfl⟩
            · have hgood := Lib.hid (HX.out.1.trans (lgFrom_good l hlt (by omega) (by omega) hb0))
              have hle : ¬ (lgSize (lgVal l (k + 1)) : Int) ≤ (k : Int) := by intro h; exact hb0 (hsm.1 (by omega))
              generalize lgSize (lgVal l (k + 1)) = z at *
              generalize lgVal l (k + 1) = v at *
              generalize lgAt l k = x at *
              clear hsm hvl hp hb0 hge
              go_wp2_with (go_at_call 10; refine HSZ.out.mono ?_; rintro e w' ⟨rfl, rfl⟩)
              simp only [Exit.jump]
              go_ret3
              exact ⟨by rw [hgood.out]; simp [lgTell], rfl⟩
      · obtain rfl : k = 4 := by omega
        have hlk : ¬ (4 : Int) < 4 := by decide
        have HX := Lib.hid hrd
        clear hrd
        go_wp2
        refine wp_label ?_
        go_wp2
        simp only [Exit.jump]
        go_ret3
        exact ⟨by rw [HX.out]; rfl, rfl⟩
  case pass =>
    rintro ⟨T, D⟩ w' ⟨hno, hD, hT, rfl⟩
    simp only at hD hT
    subst hD
    have HX := Lib.hid (And.intro hno hT)
    clear hno hT
    go_wp2
    simp only [Exit.jump]
    go_ret3
    exact read_jump HX.out.2 HX.out.1
set_option maxRecDepth 100000 in
set_option maxHeartbeats 400000 in
theorem readInt_any (a : Option Addr) (l : List UInt8) (c n₀ : Nat) (w : World) (hm : BytesAt n₀ w a l) (ht : LgTab w) :
    Calls Tryd.prog 21 #[.slice a l.length c] w fun e w' => LgPost l w e w' := by
  have HM := Lib.hid hm
  have HT := Lib.hid ht
  clear hm ht
  go_enter Tryd.func21, Tryd.ntmps21
  go_wp2
  refine wp_scope_jumps 0 (ReadJ l w) (fun _ _ => 0) rfl ?first ?pass
  case first =>
    go_wp2
    go_loop [2, 5, 6, 7, 8, 9, 10, 11, 12, 13, 14, 15, 16, 17, 18, 19, 20, 21, 22, 23, 24, 25, 26, 27, 28, 29, 30, 31, 32, 33, 34, 35, 36] (fun u _ x _ _ _ _ _ _ _ _ _ _ _ _ _ _ _ _ _ _ _ _ _ _ _ _ _ _ _ _ _ _ => ∃ k : Nat, x = .int .i64 k ∧ k ≤ 4 ∧ k ≤ l.length ∧ u = .int .i64 (lgVal l k : Nat) ∧ lgRead l = lgFrom l (4 - k) k)
      (fun _ _ x _ _ _ _ _ _ _ _ _ _ _ _ _ _ _ _ _ _ _ _ _ _ _ _ _ _ _ _ _ _ => 4 - (intOf x).toNat)
    case atStart => exact ⟨0, rfl, by omega, Nat.zero_le _, rfl, rfl⟩
    case round =>
      obtain ⟨k, rfl, hk, hkl, rfl, hrd⟩ := hrel
      by_cases hlt : k < 4
      · have hlk : (k : Int) < 4 := by omega
        by_cases he : k = l.length
        · have HX := Lib.hid (hrd.trans (lgFrom_out l hlt he))
          clear hrd
          subst he
          have heq : ((l.length : Int) == (l.length : Int)) = true := by simp
          go_wp2
          simp only [Exit.jump]
          go_ret3
          exact ⟨by rw [HX.out]; rfl, rfl⟩
        · have hk2 : k < l.length := by omega
          obtain ⟨b, off, rfl, hb, hcl⟩ := HM.out (by intro e; rw [e] at hk2; simp at hk2)
          have hck := hcl k hk2
          have hx : (l[k]?.getD 0).toNat = lgAt l k := rfl
          rw [hx] at hck
          have hlk2 : (k : Int) < l.length := by omega
          have heq : ((k : Int) == (l.length : Int)) = false := by simp; omega
          have hand := and127_8 (lgAt_lt l k)
          have hor := lg_or2 l hlt
          have HX := Lib.hid (And.intro hrd (And.intro hkl hk))
          clear hrd hx hcl he hkl hk
          by_cases hge : 128 ≤ lgAt l k
          · have hge2 : (128 : Int) ≤ (lgAt l k : Int) := by omega
            have HG := Lib.hid (fun e => lgFrom_step l hlt e hge)
            generalize lgAt l k = x at *
            go_wp2
            go_round
            case rel => exact ⟨k + 1, by go_num, by omega, by omega, rfl, by rw [HX.out.1]; exact HG.out (by omega)⟩
            case measure => simp [intOf]; omega
          · have hge2 : ¬ (128 : Int) ≤ (lgAt l k : Int) := by omega
            have hsm := lg_small l hlt (by omega)
            have hvl := lgVal_lt l (k + 1)
            have hp := pow128 (k := k + 1) (by omega)
            have HSZ := Lib.hid (size_any (lgVal l (k + 1) : Nat) w HT.out)
            rw [lgSz_nat (by omega)] at HSZ
            by_cases hb0 : 0 < k ∧ lgAt l k = 0
            · have hbad := Lib.hid (HX.out.1.trans (lgFrom_bad l hlt (by omega) hb0.1 hb0.2))
              have hle : (lgSize (lgVal l (k + 1)) : Int) ≤ (k : Int) := by have := hsm.2 hb0; omega
              generalize lgSize (lgVal l (k + 1)) = z at *
              generalize lgVal l (k + 1) = v at *
              generalize lgAt l k = x at *
              clear hsm hvl hp hb0 hge
              go_wp2_with (go_at_call 10; refine HSZ.out.mono ?_; rintro e w' ⟨rfl, rfl⟩)
              go_step3
              exact ⟨rfl, hbad.out, rfl, rfl, rfl⟩
            · have hgood := Lib.hid (HX.out.1.trans (lgFrom_good l hlt (by omega) (by omega) hb0))
              have hle : ¬ (lgSize (lgVal l (k + 1)) : Int) ≤ (k : Int) := by intro h; exact hb0 (hsm.1 (by omega))
              generalize lgSize (lgVal l (k + 1)) = z at *
              generalize lgVal l (k + 1) = v at *
              generalize lgAt l k = x at *
              clear hsm hvl hp hb0 hge
              go_wp2_with (go_at_call 10; refine HSZ.out.mono ?_; rintro e w' ⟨rfl, rfl⟩)
              simp only [Exit.jump]
              go_ret3
              exact ⟨by rw [hgood.out]; simp [lgTell], rfl⟩
      · obtain rfl : k = 4 := by omega
        have hlk : ¬ (4 : Int) < 4 := by decide
        have HX := Lib.hid hrd
        clear hrd
        go_wp2
        refine wp_label ?_
        go_wp2
        simp only [Exit.jump]
        go_ret3
        exact ⟨by rw [HX.out]; rfl, rfl⟩
  case pass =>
    rintro ⟨T, D⟩ w' ⟨hno, hD, hT, rfl⟩
    simp only at hD hT
    subst hD
    have HX := Lib.hid (And.intro hno hT)
    clear hno hT
    go_wp2
    simp only [Exit.jump]
    go_ret3
    exact read_jump HX.out.2 HX.out.1
theorem lgRead_any (a : Option Addr) (l : List UInt8) (c n₀ : Nat) (w : World) (hm : BytesAt n₀ w a l) (ht : LgTab w) :
    Calls Tryd.prog 11 #[.slice a l.length c] w fun e w' => LgPost l w e w' := by
  have hR := read64_any a l c n₀ w hm ht
  unfold LgPost lgTell at hR ⊢
  generalize lgRead l = r at hR ⊢
  obtain ⟨r1, r2, r3⟩ := r
  dsimp only at hR ⊢
  have HR := Lib.hid hR
  clear hm ht hR
  go_enter Tryd.func11, Tryd.ntmps11
  go_wp2_with (go_at_call 15; refine HR.out.mono ?_; rintro e w' ⟨rfl, rfl⟩)
  go_ret3
  exact ⟨rfl, rfl⟩
end Go.Proofs.YtmbjdfmbbmeofaaDoor

/- Layer 12: the rune with which a text begins. -/
import Derived.Laws.BitsAllLaws
import Derived.Laws.BitsLemmas
import Derived.Lib.Strings
import Derived.Test.YtgcfgheamaoceaaGreatDoorUtfB
namespace Go.Proofs.YtgcfgheamaoceaaGreatDoor
open Go.RowKit

theorem index_str (s : ByteArray) (k : Nat) (z : Int) (hz : z = k) (hk : k < s.size) (w : World) : (Instr.index 9 (.string s) (.int .i64 z)).run Tryz.prog w = .ok (.int .u8 (bt s.data.toList k : Nat)) w := by
  subst hz
  have h1 : s.data.toList[k]? = some s[k] := by rw [List.getElem?_eq_getElem (by simpa using hk)]; rfl
  have h2 : bt s.data.toList k = s[k].toNat := by unfold bt; rw [h1]; rfl
  rw [h2]
  have hlt : (k : Int) < (s.size : Int) := by omega
  simp [go_sem, Tryz.underlying9, hk]
theorem drewN_more (w : World) (a b : Nat) : (w.drewN a).drewN b = w.drewN (a + b) := World.drewN_drewN _ _ _
theorem Tabs.drewN {w : World} (h : Tabs w) (n : Nat) : Tabs (w.drewN n) := h.keep fun _ _ => rfl
theorem index_l0 (v0 v1 v2 v3 : Value) (w : World) : (Instr.index 189 (.agg #[v0, v1, v2, v3]) (.int .i64 0)).run Tryz.prog w = .ok v0 w := by kernel_rfl
theorem index_l1 (v0 v1 v2 v3 : Value) (w : World) : (Instr.index 189 (.agg #[v0, v1, v2, v3]) (.int .i64 1)).run Tryz.prog w = .ok v1 w := by kernel_rfl
theorem index_l2 (v0 v1 v2 v3 : Value) (w : World) : (Instr.index 189 (.agg #[v0, v1, v2, v3]) (.int .i64 2)).run Tryz.prog w = .ok v2 w := by kernel_rfl
theorem index_l3 (v0 v1 v2 v3 : Value) (w : World) : (Instr.index 189 (.agg #[v0, v1, v2, v3]) (.int .i64 3)).run Tryz.prog w = .ok v3 w := by kernel_rfl
def firR (l : List UInt8) : Int := match dec l with
  | some (r, _) => r
  | none => -1
def firN (l : List UInt8) : Int := match dec l with
  | some (_, n) => n
  | none => 0
def FirstPost (w : World) (l : List UInt8) (e : Ending) (w' : World) : Prop := e = .returned (.tuple #[.int .i32 (firR l), .int .i64 (firN l)]) ∧ ∃ m, w.drewN m = w'
def FirJump (w : World) (l : List UInt8) (a' : Act) (w' : World) : Prop := dec l = none ∧ a'.defers = [] ∧ a'.tmps.size = 67 ∧ ∃ m, w.drewN m = w'
theorem fir_jump {w : World} {l : List UInt8} {T : Array Value} {m : Nat} (hd : dec l = none) (hT : T.size = 67) : FirstPost w l (.returned (.tuple #[((T.setIfInBounds 2 (Value.int IntKind.i32 (-1))).setIfInBounds 3 (Value.int IntKind.i64 0)).getD 2 undef, ((T.setIfInBounds 2 (Value.int IntKind.i32 (-1))).setIfInBounds 3 (Value.int IntKind.i64 0)).getD 3 undef])) (w.drewN m) := by
  refine ⟨?_, m, rfl⟩
  simp [Array.getD_eq_getD_getElem?, hT, firR, firN, hd]
theorem fir_yes {w : World} {l : List UInt8} {r n : Nat} {m : Nat} (hd : dec l = some (r, n + 1)) : FirstPost w l (.returned (.tuple #[.int .i32 r, .int .i64 ((n : Int) + 1)])) (w.drewN m) := by
  refine ⟨?_, m, rfl⟩
  simp [firR, firN, hd]
/-- What both variables hold when k leads have been looked at. -/
def mN (b : Nat) : Nat → Nat
  | 0 => 0
  | k + 1 => min (nOf b) k
def mR (b : Nat) : Nat → Nat
  | 0 => 0
  | k + 1 => b - leadOf (min (nOf b) k)
theorem mN_last (b : Nat) : mN b 4 = nOf b := by show min (nOf b) 3 = nOf b; have := nOf_le b; omega
theorem mR_last (b : Nat) : mR b 4 = b - leadOf (nOf b) := by show b - leadOf (min (nOf b) 3) = _; rw [show min (nOf b) 3 = nOf b by have := nOf_le b; omega]
theorem lead_yes {b k : Nat} (hk : k < 4) (h : leadOf k ≤ b) : mN b (k + 1) = k ∧ mR b (k + 1) = b - leadOf k := by
  have : k ≤ nOf b := by
    unfold nOf
    have hk' : k = 0 ∨ k = 1 ∨ k = 2 ∨ k = 3 := by omega
    rcases hk' with rfl | rfl | rfl | rfl <;> simp only [leadOf] at h <;> split <;> (try split) <;> (try split) <;> omega
  show min (nOf b) k = k ∧ b - leadOf (min (nOf b) k) = b - leadOf k
  rw [show min (nOf b) k = k by omega]; exact ⟨rfl, rfl⟩
theorem lead_no {b k : Nat} (hk : k < 4) (h : b < leadOf k) : mN b (k + 1) = mN b k ∧ mR b (k + 1) = mR b k := by
  have hk' : k = 0 ∨ k = 1 ∨ k = 2 ∨ k = 3 := by omega
  have h1 : 1 ≤ k ∧ nOf b < k := by
    unfold nOf
    rcases hk' with rfl | rfl | rfl | rfl <;> simp only [leadOf] at h <;> (refine ⟨by omega, ?_⟩) <;> split <;> (try split) <;> (try split) <;> omega
  obtain ⟨j, rfl⟩ : ∃ j, k = j + 1 := ⟨k - 1, by omega⟩
  show min (nOf b) (j + 1) = min (nOf b) j ∧ b - leadOf (min (nOf b) (j + 1)) = b - leadOf (min (nOf b) j)
  rw [show min (nOf b) (j + 1) = min (nOf b) j by omega]; exact ⟨rfl, rfl⟩
theorem valN_lt (l : List UInt8) (k : Nat) (hk : k ≤ 3) : valN l k < 134217728 ∧ (k ≤ 2 → valN l k < 2097152) := by
  have h0 : valN l 0 < 256 := by have := bt_lt l 0; unfold valN; omega
  have s : ∀ j, valN l (j + 1) < valN l j * 64 + 64 := fun j => by show valN l j * 64 + bt l (j + 1) % 64 < _; omega
  have h1 : valN l 1 < valN l 0 * 64 + 64 := s 0
  have h2 : valN l 2 < valN l 1 * 64 + 64 := s 1
  have h3 : valN l 3 < valN l 2 * 64 + 64 := s 2
  have hk' : k = 0 ∨ k = 1 ∨ k = 2 ∨ k = 3 := by omega
  rcases hk' with rfl | rfl | rfl | rfl <;> omega
theorem andNot63 {c : Nat} (h : c < 256) : bits .andNot .u8 (c : Int) 63 = ((c / 64 * 64 : Nat) : Int) := by
  have := u8_andNot_nat c 63 h (by decide)
  rw [show ((63 : Nat) : Int) = 63 from rfl] at this
  rw [this]
  have hh : ∀ c : Fin 256, c.1 &&& (255 - 63) = c.1 / 64 * 64 := by decide +kernel
  rw [hh ⟨c, h⟩]
theorem and63 {c : Nat} (h : c < 256) : bits .and .u8 (c : Int) 63 = ((c % 64 : Nat) : Int) := by
  rw [u8_and63 _ (by omega) (by omega)]; omega
theorem or64 {x c : Nat} (hx : x < 2097152) (hc : c < 64) : bits .or .i32 ((x : Int) * 64) (c : Int) = ((x * 64 + c : Nat) : Int) := by
  rw [i32_or6 _ _ (by omega) (by omega) (by omega) (by omega) (by omega)]; omega
theorem dec_short {l : List UInt8} (h : l.length ≤ nOf (bt l 0)) : dec l = none := by unfold dec; rw [if_pos h]
theorem dec_stops {l : List UInt8} {k : Nat} (hk : k + 1 ≤ nOf (bt l 0)) (h : bt l (k + 1) / 64 ≠ 2) : dec l = none := by
  unfold dec
  split
  · rfl
  rw [if_pos]
  cases hg : goOn l (nOf (bt l 0)) with
  | false => rfl
  | true => exact absurd (goOn_one hg (by omega) hk) h
theorem dec_wrong {l : List UInt8} (h : valN l (nOf (bt l 0)) = 0 ∨ mayZ (valN l (nOf (bt l 0))) = false ∨ lenZ (valN l (nOf (bt l 0))) ≠ nOf (bt l 0)) : dec l = none := by
  unfold dec
  split
  · rfl
  split
  · rfl
  rw [if_pos]
  rw [mayZ_nat, lenZ_nat] at h
  rcases h with h | h | h
  · exact .inl h
  · exact .inr (.inl h)
  · exact .inr (.inr (by omega))
theorem dec_right {l : List UInt8} (h : nOf (bt l 0) < l.length) (hg : goOn l (nOf (bt l 0)) = true) (h0 : valN l (nOf (bt l 0)) ≠ 0) (hm : mayZ (valN l (nOf (bt l 0))) = true) (hl : lenZ (valN l (nOf (bt l 0))) = nOf (bt l 0)) : dec l = some (valN l (nOf (bt l 0)), nOf (bt l 0) + 1) := by
  rw [mayZ_nat] at hm
  rw [lenZ_nat] at hl
  unfold dec
  rw [if_neg (by omega), if_neg (by rw [hg]; decide), if_neg (by rw [hm]; simp; omega)]
set_option maxRecDepth 100000 in
set_option maxHeartbeats 4000000 in
theorem first_none (w : World) : Calls Tryz.prog 157 #[.string ⟨#[]⟩] w fun e w' => FirstPost w [] e w' := by
  go_enter Tryz.func157, Tryz.ntmps157
  go_wp2
  refine wp_scope_jumps 0 (FirJump w []) (fun _ _ => 0) rfl ?first ?pass
  case first =>
    go_wp2
    go_step3
    exact ⟨rfl, dec_nil, rfl, rfl, 0, rfl⟩
  case pass =>
    rintro ⟨T, D⟩ w' ⟨hd, hD, hT, m, rfl⟩
    simp only at hD hT
    subst hD
    have HD := Lib.hid hd
    have HT := Lib.hid hT
    clear hd hT
    go_wp2
    simp only [Exit.jump]
    go_ret2
    exact fir_jump HD.out HT.out
set_option maxRecDepth 100000 in
set_option maxHeartbeats 8000000 in
theorem first_some (s : ByteArray) (w : World) (ht : Tabs w) (hsm : s.size ≤ maxLen) (h0 : 0 < s.size) : Calls Tryz.prog 157 #[.string s] w fun e w' => FirstPost w s.data.toList e w' := by
  have l0 := ht.l0
  have l1 := ht.l1
  have l2 := ht.l2
  have l3 := ht.l3
  have i0 := index_l0 (.int .u8 0) (.int .u8 192) (.int .u8 224) (.int .u8 240)
  have i1 := index_l1 (.int .u8 0) (.int .u8 192) (.int .u8 224) (.int .u8 240)
  have i2 := index_l2 (.int .u8 0) (.int .u8 192) (.int .u8 224) (.int .u8 240)
  have i3 := index_l3 (.int .u8 0) (.int .u8 192) (.int .u8 224) (.int .u8 240)
  have j0 := index_str s 0 0 rfl h0
  have hb := bt_lt s.data.toList 0
  have he : s.toList.isEmpty = false := by
    rw [ByteArray.toList_eq]
    cases hl : s.data.toList with
    | nil =>
      have h1 := Lib.size_eq s
      rw [hl, List.length_nil] at h1
      omega
    | cons => rfl
  obtain ⟨b, hbe⟩ : ∃ b, bt s.data.toList 0 = b := ⟨_, rfl⟩
  have HBE := Lib.hid hbe
  rw [hbe] at j0 hb
  have HT := Lib.hid ht
  have hs : s.size ≤ 9223372036854775807 := hsm
  clear ht hbe
  go_enter Tryz.func157, Tryz.ntmps157
  go_wp2
  refine wp_scope_jumps 0 (FirJump w s.data.toList) (fun _ _ => 0) rfl ?first ?pass
  case first =>
    go_wp2
    clear l0 l1 l2 l3
    go_loopw [4, 5, 6, 7, 12, 13, 14, 15, 16, 17, 18, 19, 20, 21, 22, 23, 24, 25, 26] (fun r n _ _ i _ _ _ _ _ _ _ _ _ _ _ _ _ _ wr => ∃ k m : Nat, k ≤ 4 ∧ i = .int .i64 k ∧ n = .int .i64 (mN b k : Nat) ∧ r = .int .i32 (mR b k : Nat) ∧ w.drewN m = wr)
      (fun _ _ _ _ i _ _ _ _ _ _ _ _ _ _ _ _ _ _ _ => 4 - (intOf i).toNat)
    case atStart => exact ⟨0, 0, by omega, rfl, rfl, rfl, rfl⟩
    case round =>
      obtain ⟨k, m, hk, rfl, rfl, rfl, rfl⟩ := hrel
      by_cases hlt : k < 4
      · by_cases hy : leadOf k ≤ b
        · obtain ⟨e1, e2⟩ := lead_yes hlt hy
          have E := Lib.hid (And.intro e1 e2)
          clear e1 e2
          have hk' : k = 0 ∨ k = 1 ∨ k = 2 ∨ k = 3 := by omega
          generalize mN b k = mn at *
          generalize mR b k = mr at *
          rcases hk' with rfl | rfl | rfl | rfl <;> simp only [leadOf] at hy
          all_goals
            go_wp2
            go_quiet (fail)
            go_wp2
            go_roundw
            case rel => first
              | exact ⟨0 + 1, m + nq, by omega, by go_num, by rw [E.out.1], by rw [E.out.2]; simp only [leadOf]; go_num, rfl⟩
              | exact ⟨1 + 1, m + nq, by omega, by go_num, by rw [E.out.1], by rw [E.out.2]; simp only [leadOf]; go_num, rfl⟩
              | exact ⟨2 + 1, m + nq, by omega, by go_num, by rw [E.out.1], by rw [E.out.2]; simp only [leadOf]; go_num, rfl⟩
              | exact ⟨3 + 1, m + nq, by omega, by go_num, by rw [E.out.1], by rw [E.out.2]; simp only [leadOf]; go_num, rfl⟩
            case measure => simp [intOf]
        · obtain ⟨e1, e2⟩ := lead_no (b := b) hlt (by omega)
          have E := Lib.hid (And.intro e1 e2)
          clear e1 e2
          have hk' : k = 0 ∨ k = 1 ∨ k = 2 ∨ k = 3 := by omega
          generalize mN b k = mn at *
          generalize mR b k = mr at *
          rcases hk' with rfl | rfl | rfl | rfl <;> simp only [leadOf] at hy
          · omega
          all_goals
            go_wp2
            go_roundw
            case rel => first
              | exact ⟨1 + 1, m, by omega, by go_num, by rw [E.out.1], by rw [E.out.2], rfl⟩
              | exact ⟨2 + 1, m, by omega, by go_num, by rw [E.out.1], by rw [E.out.2], rfl⟩
              | exact ⟨3 + 1, m, by omega, by go_num, by rw [E.out.1], by rw [E.out.2], rfl⟩
            case measure => simp [intOf]
      · obtain rfl : k = 4 := by omega
        have hn3 := nOf_le b
        have HR := Lib.hid (mR_last b)
        have hmn := mN_last b
        generalize mN b 4 = mn at hmn ⊢
        generalize mR b 4 = mr at HR ⊢
        obtain ⟨n, hn⟩ : ∃ n, nOf b = n := ⟨_, rfl⟩
        have HN := Lib.hid hn
        rw [hn] at hmn hn3
        subst hmn
        clear hn
        by_cases hsh : s.size ≤ mn
        · go_wp2
          go_step3
          exact ⟨rfl, dec_short (by rw [HBE.out, HN.out]; simpa using hsh), rfl, rfl, m, rfl⟩
        · have HV : Hid (mr = valN s.data.toList 0) := Lib.hid (by rw [HR.out, valN, HBE.out, HN.out])
          clear HR
          go_wp2
          obtain ⟨m0, hm0⟩ : ∃ m0 : Nat, m0 = m := ⟨_, rfl⟩
          go_loopw [4, 8, 32, 33, 34, 35, 36, 37, 38, 39, 40, 41, 42, 43, 44, 45, 46, 47, 48, 49, 50] (fun r _ i _ _ _ _ _ _ _ _ _ _ _ _ _ _ _ _ _ _ wr => ∃ k : Nat, k ≤ mn ∧ i = .int .i64 k ∧ r = .int .i32 (valN s.data.toList k : Nat) ∧ goOn s.data.toList k = true ∧ w.drewN m = wr)
            (fun _ _ i _ _ _ _ _ _ _ _ _ _ _ _ _ _ _ _ _ _ _ => mn - (intOf i).toNat)
          case atStart => exact ⟨0, by omega, rfl, by rw [HV.out], rfl, rfl⟩
          case round =>
            obtain ⟨k, hk, rfl, rfl, hgo, rfl⟩ := hrel
            obtain ⟨hv1, hv2⟩ := valN_lt s.data.toList k (by omega)
            by_cases hlt : k < mn
            · have hc := bt_lt s.data.toList (k + 1)
              have hix := index_str s (k + 1) ((k : Int) + 1) (by omega) (by omega)
              have hvs : valN s.data.toList (k + 1) = valN s.data.toList k * 64 + bt s.data.toList (k + 1) % 64 := rfl
              have hgs : goOn s.data.toList (k + 1) = (goOn s.data.toList k && decide (bt s.data.toList (k + 1) / 64 = 2)) := rfl
              have HK := Lib.hid (fun h => dec_stops (l := s.data.toList) (k := k) (by rw [HBE.out, HN.out]; omega) h)
              have HS := Lib.hid (And.intro hvs (And.intro hgs hgo))
              clear hvs hgs hgo
              have hv3 := hv2 (by omega)
              clear hv2
              generalize bt s.data.toList (k + 1) = c at *
              generalize valN s.data.toList k = v at *
              have ha := andNot63 hc
              have ho := and63 hc
              have hor := or64 (x := v) (c := c % 64) hv3 (by omega)
              by_cases h2 : c / 64 = 2
              · have h2' : ((c / 64 * 64 : Nat) : Int) = 128 := by omega
                rw [h2'] at ha
                have H2 := Lib.hid h2
                clear h2 h2'
                go_wp2
                exact ⟨⟨k + 1, by omega, by go_num, by rw [HS.out.1]; go_num, by rw [HS.out.2.1, HS.out.2.2]; simpa using H2.out, trivial⟩, by simp only [intOf]; omega⟩
              · have hd := HK.out h2
                have h2' : ((c / 64 * 64 : Nat) : Int) ≠ 128 := by omega
                have h3 : (((c / 64 * 64 : Nat) : Int) == 128) = false := by simpa using h2'
                have h4 : (((c / 64 * 64 : Nat) : Int) != 128) = true := by simpa using h2'
                generalize ((c / 64 * 64 : Nat) : Int) = q at *
                have HD := Lib.hid hd
                clear hd h2 h2' ho hor
                go_wp2
                go_step3
                exact ⟨rfl, HD.out, rfl, rfl, m, rfl⟩
            · obtain rfl : k = mn := by omega
              have hlk : ¬ ((k : Int) < (k : Int)) := by omega
              have HG := Lib.hid hgo
              have HE := Lib.hid (And.intro HBE.out HN.out)
              clear hgo HV
              obtain ⟨v, hv⟩ : ∃ v, valN s.data.toList k = v := ⟨_, rfl⟩
              have HVV := Lib.hid hv
              rw [hv] at hv1 ⊢
              clear hv
              have hR := isRune_any (v : Int) (w.drewN m)
              have hB := behind_any (v : Int) (w.drewN m) (HT.out.drewN m)
              have HW := Lib.hid (fun h : v = 0 ∨ mayZ v = false ∨ lenZ v ≠ k => dec_wrong (l := s.data.toList) (by rw [HE.out.1, HE.out.2, HVV.out]; exact h))
              have HY := Lib.hid (fun (h0 : v ≠ 0) (hm : mayZ v = true) (hl : lenZ v = k) => dec_right (l := s.data.toList) (by rw [HE.out.1, HE.out.2]; simpa using hsh) (by rw [HE.out.1, HE.out.2]; exact HG.out) (by rw [HE.out.1, HE.out.2, HVV.out]; exact h0) (by rw [HE.out.1, HE.out.2, HVV.out]; exact hm) (by rw [HE.out.1, HE.out.2, HVV.out]; exact hl))
              rw [HE.out.1, HE.out.2, HVV.out] at HY
              generalize mayZ (v : Int) = mb at *
              generalize lenZ (v : Int) = lb at *
              have HR := Lib.hid hR
              have HB := Lib.hid hB
              clear hR hB i0 i1 i2 i3 j0
              by_cases hv0 : v = 0
              · have hd := Lib.hid (HW.out (.inl hv0))
                subst hv0
                go_wp2
                go_step3
                exact ⟨rfl, hd.out, rfl, rfl, m, rfl⟩
              · have hz : ((v : Int) == 0) = false := by simpa using hv0
                cases mb with
                | false =>
                  have hd := Lib.hid (HW.out (.inr (.inl rfl)))
                  clear HW HY
                  go_wp2_with (go_at_call 158; refine HR.out.mono ?_; rintro e w' ⟨rfl, rfl⟩)
                  go_step3
                  exact ⟨rfl, hd.out, rfl, rfl, m, rfl⟩
                | true =>
                  by_cases hl : lb = k
                  · have hd := Lib.hid (HY.out hv0 rfl hl)
                    clear HW HY
                    subst hl
                    go_wp2_with (first
                      | (go_at_call 158; refine HR.out.mono ?_; rintro e w' ⟨rfl, rfl⟩)
                      | (go_at_call 159; refine HB.out.mono ?_; rintro e w' ⟨rfl, rfl⟩))
                    simp only [Exit.jump]
                    go_ret2
                    exact fir_yes hd.out
                  · have hd := Lib.hid (HW.out (.inr (.inr hl)))
                    have hl1 : (lb == (k : Int)) = false := by simpa using hl
                    have hl2 : (lb != (k : Int)) = true := by simpa using hl
                    clear HW HY hl
                    go_wp2_with (first
                      | (go_at_call 158; refine HR.out.mono ?_; rintro e w' ⟨rfl, rfl⟩)
                      | (go_at_call 159; refine HB.out.mono ?_; rintro e w' ⟨rfl, rfl⟩))
                    go_step3
                    exact ⟨rfl, hd.out, rfl, rfl, m, rfl⟩
  case pass =>
    rintro ⟨T, D⟩ w' ⟨hd, hD, hT, m, rfl⟩
    simp only at hD hT
    subst hD
    have HD := Lib.hid hd
    have HT := Lib.hid hT
    clear hd hT
    go_wp2
    simp only [Exit.jump]
    go_ret2
    exact fir_jump HD.out HT.out
theorem first_any (s : ByteArray) (w : World) (ht : Tabs w) (hs : s.size ≤ maxLen) : Calls Tryz.prog 157 #[.string s] w fun e w' => FirstPost w s.data.toList e w' := by
  by_cases h0 : s.size = 0
  · obtain rfl : s = ⟨#[]⟩ := ByteArray.ext (Array.eq_empty_of_size_eq_zero h0)
    exact first_none w
  · exact first_some s w ht hs (by omega)
end Go.Proofs.YtgcfgheamaoceaaGreatDoor

/- Layer 7: the law on what lasts. -/
import Derived.Test.YtmmbmmiedfdmeaaSpQ
namespace Go.Proofs.Ytmmbmmiedfdmeaa
open Go.RowKit

set_option maxRecDepth 100000 in
set_option maxHeartbeats 8000000 in
theorem spaceTwice_any (h : Int) (fa : Option Addr) (fl : List Int) (fc : Nat) (aa : Option Addr) (L : List (Int × Int)) (ac : Nat) (hf : fl.length ≤ 9223372036854775807) (hL : L.length ≤ 9223372036854775807) (w : World) (hI : IntsAt w.heap.size w fa fl) (hA : ActsAt w.heap.size w aa L) :
    Calls Try.prog 8 #[.int .i64 h, .slice fa fl.length fc, .slice aa L.length ac] w fun e w' => KnPost w e w' := by
  have HK := Lib.hid known_any
  by_cases h1 : (60 : Int) < L.length
  · go_enter Try.func8, Try.ntmps8
    go_wp2_with (go_at_call 9; refine (HK.out _).mono ?_; rintro e w' ⟨rfl, hb⟩)
    go_ret
    exact ⟨rfl, hb⟩
  by_cases h2 : (60 : Int) < fl.length
  · go_enter Try.func8, Try.ntmps8
    go_wp2_with (go_at_call 9; refine (HK.out _).mono ?_; rintro e w' ⟨rfl, hb⟩)
    go_ret
    exact ⟨rfl, hb⟩
  by_cases h3 : (50 : Int) < h
  · go_enter Try.func8, Try.ntmps8
    go_wp2_with (go_at_call 9; refine (HK.out _).mono ?_; rintro e w' ⟨rfl, hb⟩)
    go_ret
    exact ⟨rfl, hb⟩
  by_cases hok : ¬ NewOk 60 h fl
  · have HN := Lib.hid (new_any 60 h fa fl fc hf w hI)
    have HO := Lib.hid hok
    clear hok
    go_enter Try.func8, Try.ntmps8
    go_wp2_with (first
      | (go_at_call 10; refine HN.out.mono ?_; rintro e w1 ⟨hb1, hp⟩; replace hp := hp.resolve_left (fun q => HO.out q.1); obtain ⟨-, rfl⟩ := hp)
      | (go_at_call 9; refine (HK.out w1).mono ?_; rintro e w2 ⟨rfl, hb2⟩))
    go_ret
    exact ⟨rfl, hb1.trans (hb2.mono hb1.size)⟩
  replace hok := Classical.not_not.1 hok
  have HN := Lib.hid (new_own 60 h fa fl fc hf w hI hok)
  have HA := Lib.hid hA
  obtain ⟨N0, hN0⟩ : ∃ N0, w.heap.size = N0 := ⟨_, rfl⟩
  have HN0 := Lib.hid hN0
  clear hok hA hI hN0
  go_enter Try.func8, Try.ntmps8
  go_wp2_with (go_at_call 10; refine HN.out.mono ?_; rintro e w1 ⟨B, rfl, hS1, hb1⟩; rw [HN0.out] at hS1 hb1)
  go_loopw [9, 36, 37, 38, 39, 40, 41, 42, 43, 44, 45, 46, 47, 48, 49, 50, 51, 52, 53, 54, 55, 56, 57, 58, 59] (fun x _ _ _ _ _ _ _ _ _ _ _ _ _ _ _ _ _ _ _ _ _ _ _ _ wr => ∃ k : Nat, x = .int .i64 k ∧ k ≤ L.length ∧ (∃ s, IsSp N0 wr B s) ∧ Below N0 w wr)
    (fun x _ _ _ _ _ _ _ _ _ _ _ _ _ _ _ _ _ _ _ _ _ _ _ _ _ => L.length - (intOf x).toNat)
  case atStart => exact ⟨0, rfl, Nat.zero_le _, ⟨_, hS1⟩, hb1⟩
  case round =>
    obtain ⟨k, rfl, hk, ⟨s, hS⟩, hbr⟩ := hrel
    have HS := Lib.hid hS
    clear hS hS1
    by_cases hlt : k < L.length
    · obtain ⟨b, off, rfl, hb, hc⟩ := HA.out (by rintro rfl; simp at hlt)
      rw [HN0.out] at hb
      obtain ⟨hc1, hc2⟩ := hc k hlt
      replace hc1 := (hbr.cell (p := ⟨b, off + k * 2, none⟩) hb).trans hc1
      replace hc2 := (hbr.cell (p := ⟨b, off + k * 2 + 1, none⟩) hb).trans hc2
      generalize (L[k]?.getD (0, 0)).1 = kd at hc1
      generalize (L[k]?.getD (0, 0)).2 = pg at hc2
      clear hc
      by_cases e1 : kd = 1
      · subst e1
        go_wp2_with (go_at_call 16; refine (take_k HS.out).mono ?_; rintro e w2 ⟨rfl, hS2, hk2⟩)
        refine ⟨⟨k + 1, by go_num, by omega, ⟨_, hS2⟩, hbr.trans hk2.below⟩, by simp [intOf]; omega⟩
      · have q1 : (kd == 1) = false := by simp [e1]
        by_cases e2 : kd = 2
        · subst e2
          clear e1 q1
          go_wp2_with (go_at_call 25; refine (give_k HS.out pg).mono ?_; rintro e w2 ⟨rfl, hS2, hk2⟩)
          refine ⟨⟨k + 1, by go_num, by omega, ⟨_, hS2⟩, hbr.trans hk2.below⟩, by simp [intOf]; omega⟩
        · have q2 : (kd == 2) = false := by simp [e2]
          clear e1 e2
          go_wp2
          go_roundw
          case rel => exact ⟨k + 1, by go_num, by omega, ⟨_, HS.out⟩, hbr⟩
          case measure => simp [intOf]; omega
    · obtain rfl : k = L.length := by omega
      have hok := HS.out.ok
      have e0 := HN0.out
      obtain ⟨Wl, hW⟩ : ∃ Wl, s.of [4, 3] = Wl := ⟨_, rfl⟩
      have hWl : Wl.length ≤ 4096 := by rw [← hW]; exact of_len hok _
      have HW := Lib.hid hW
      have HOK := Lib.hid hok
      have HU : Hid (Below N0 w wr) := Lib.hid hbr
      have k1 : True := trivial
      clear hW hok e0 hbr
      go_wp2_with (first
        | (go_at_call 20; refine (nums_k (l := Wl) HS.out (fun _ _ h => by rw [← HW.out]; exact will_any h)).mono ?_; rintro e w1 ⟨a1, c1, rfl, hr, hs, hb⟩; have HR1 := Lib.hid hr; have HS1 := Lib.hid hs; have HB1 := Lib.hid (HU.out.trans (hb.mono HS.out.n_le)); clear hr hs hb)
        | (have _t := k1; go_at_call 14; refine (high_own HS1.out s.high rfl).mono ?_; rintro e w' ⟨rfl, rfl⟩; clear k1 _t; have k2 : True := trivial)
        | (have _t := k2; go_at_call 26; refine (lasts_k HS1.out).mono ?_; rintro e w2 ⟨rfl, hs, hk⟩; have HS2 := Lib.hid hs; have HB2 := Lib.hid (HB1.out.trans hk.below); have HR2 := Lib.hid (hk.row HR1.out (by decide)); clear hs hk k2 _t; have k3 : True := trivial)
        | (go_at_call 21; refine (copy_two HS2.out).mono ?_; rintro e w3 ⟨rfl, ht, hb⟩; have HT3 := Lib.hid ht; have HB3 := Lib.hid (HB2.out.trans (hb.mono HS2.out.n_le)); have HR3 := Lib.hid ((SpKeeps.of_below (n₀ := 0) hb (by omega)).row HR2.out (by decide)); clear ht hb)
        | (go_at_call 17; refine (nums_k (l := Wl) HT3.out.one (fun _ _ h => by rw [← HW.out, ← lasted_of HOK.out]; exact free_any h)).mono ?_; rintro e w4 ⟨a4, c4, rfl, hr, hs, hb⟩; have HR4 := Lib.hid hr; have HQ4 := Lib.hid ((SpKeeps.of_below (n₀ := 0) hb (by omega)).row HR3.out (by decide)); have HT4 := Lib.hid (HT3.out.below hb); have HB4 := Lib.hid (HB3.out.trans (hb.mono HT3.out.one.n_le)); clear hr hs hb)
        | (go_at_call 23; refine (step_two HT4.out (fun _ _ h => undo_step h)).mono ?_; rintro e w5 ⟨rfl, ht, hk⟩; have HT5 := Lib.hid ht; have HR5 := Lib.hid (hk.row HR4.out (by decide)); have HQ5 := Lib.hid (hk.row HQ4.out (by decide)); have HB5 := Lib.hid (HB4.out.trans hk.below); clear ht hk)
        | (have _t := k3; go_at_call 22; refine (same_yes HT5.out (Spc.like.refl _)).mono ?_; rintro e w6 ⟨rfl, ht, hb⟩; have HT6 := Lib.hid ht; have HR6 := Lib.hid ((SpKeeps.of_below (n₀ := 0) hb (by omega)).row HR5.out (by decide)); have HQ6 := Lib.hid ((SpKeeps.of_below (n₀ := 0) hb (by omega)).row HQ5.out (by decide)); have HB6 := Lib.hid (HB5.out.trans (hb.mono HT5.out.one.n_le)); clear ht hb k3 _t; have k4 : True := trivial)
        | (have _t := k4; go_at_call 26; refine (step_two HT6.out (fun _ _ h => lasts_step h)).mono ?_; rintro e w7 ⟨rfl, ht, hk⟩; have HT7 := Lib.hid ht; have HR7 := Lib.hid (hk.row HR6.out (by decide)); have HQ7 := Lib.hid (hk.row HQ6.out (by decide)); have HB7 := Lib.hid (HB6.out.trans hk.below); clear ht hk k4 _t; have k5 : True := trivial)
        | (have _t := k5; go_at_call 22; refine (same_yes HT7.out (by rw [lasts_undo, lasts_lasts s HOK.out]; exact Spc.like.refl _)).mono ?_; rintro e w8 ⟨rfl, ht, hb⟩; have HT8 := Lib.hid ht; have HR8 := Lib.hid ((SpKeeps.of_below (n₀ := 0) hb (by omega)).row HR7.out (by decide)); have HQ8 := Lib.hid ((SpKeeps.of_below (n₀ := 0) hb (by omega)).row HQ7.out (by decide)); have HB8 := Lib.hid (HB7.out.trans (hb.mono HT7.out.one.n_le)); clear ht hb k5 _t; have k6 : True := trivial)
        | (have _t := k6; go_at_call 14; refine (high_own HT8.out.one s.high rfl).mono ?_; rintro e w' ⟨rfl, rfl⟩; clear k6 _t)
        | (go_at_call 18; refine (nums_k (l := []) HT8.out.one (fun _ _ h => by rw [← lasts_none HOK.out (p := 2) (.inl rfl), ← lasts_lasts s HOK.out]; exact new_pages h)).mono ?_; rintro e w9 ⟨a9, c9, rfl, -, hs, hb⟩; have HS9 := Lib.hid hs; have HR9 := Lib.hid ((SpKeeps.of_below (n₀ := 0) hb (by omega)).row HR8.out (by decide)); have HQ9 := Lib.hid ((SpKeeps.of_below (n₀ := 0) hb (by omega)).row HQ8.out (by decide)); have HB9 := Lib.hid (HB8.out.trans (hb.mono HT8.out.one.n_le)); clear hs hb)
        | (go_at_call 19; refine (nums_k (l := []) HS9.out (fun _ _ h => by rw [← lasts_none HOK.out (p := 3) (.inr rfl), ← lasts_lasts s HOK.out]; exact held_any h)).mono ?_; rintro e w10 ⟨a10, c10, rfl, -, hs, hb⟩; have HR10 := Lib.hid ((SpKeeps.of_below (n₀ := 0) hb (by omega)).row HR9.out (by decide)); have HQ10 := Lib.hid ((SpKeeps.of_below (n₀ := 0) hb (by omega)).row HQ9.out (by decide)); have HB10 := Lib.hid (HB9.out.trans (hb.mono HS9.out.n_le)); clear hs hb))
      have HS9n : N0 ≤ w10.heap.size := by have := HB10.out.size; have := HN0.out; omega
      go_loopw [13, 114, 115, 116, 117, 118, 119, 120, 121, 122, 123, 124, 125, 126, 127, 128] (fun x _ _ _ _ _ _ _ _ _ _ _ _ _ _ _ wq => ∃ k : Nat, x = .int .i64 k ∧ k ≤ Wl.length ∧ Below w10.heap.size w10 wq)
        (fun x _ _ _ _ _ _ _ _ _ _ _ _ _ _ _ _ => Wl.length - (intOf x).toNat)
      case atStart => exact ⟨0, rfl, Nat.zero_le _, Below.refl _ _⟩
      case round =>
        obtain ⟨k, rfl, hk, hbq⟩ := hrel
        by_cases hlt : k < Wl.length
        · obtain ⟨g1, cp1, ev1, -, hg1⟩ := row_some HQ10.out (by omega)
          obtain ⟨g2, cp2, ev2, -, hg2⟩ := row_some HR10.out (by omega)
          cases ev1
          cases ev2
          have hc1 := (hbq.cell (p := ⟨g1, k, none⟩) hg1).trans (row_nat HQ10.out hlt)
          have hc2 := (hbq.cell (p := ⟨g2, k, none⟩) hg2).trans (row_nat HR10.out hlt)
          generalize Wl[k]?.getD 0 = q at hc1 hc2
          go_wp2
          go_quiet (fail)
          go_wp2
          go_roundw
          case rel => exact ⟨k + 1, by go_num, by omega, hbq.trans ⟨rfl, rfl, rfl, Nat.le_refl _, fun _ _ => rfl⟩⟩
          case measure => simp [intOf]; omega
        · obtain rfl : k = Wl.length := by omega
          go_wp2_with (go_at_call 9; refine (HK.out _).mono ?_; rintro e w11 ⟨rfl, hb11⟩)
          go_ret
          have hx := (HB10.out.trans (hbq.mono HS9n)).trans (hb11.mono (Nat.le_trans HS9n hbq.size))
          exact ⟨rfl, by rw [HN0.out]; exact hx⟩
end Go.Proofs.Ytmmbmmiedfdmeaa

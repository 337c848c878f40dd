/- Layer 7: the law: each page below High is just one of kept, new, held, free. -/
import Derived.Deep.DeepCutAuto
import Derived.Test.YtmjjgdoekblelaaSpPa
import Derived.Test.YtmjjgdoekblelaaSpPy
import Derived.Test.YtmjjgdoekblelaaSpM
namespace Go.Proofs.Ytmjjgdoekblelaa
open Go.RowKit Go.Maps

structure PtAt (N K : Nat) (w0 wr : World) (B : Nat) (s : Spc) (kf : Nat → Option Bool) : Prop where
  sp : IsSpX N K wr B s
  map : IntMap Try.prog 2 wr K (kV kf)
  below : Below N w0 wr
  n_le : N ≤ K
theorem PtAt.keeps {N K : Nat} {w0 wr w2 : World} {B : Nat} {s s' : Spc} {kf : Nat → Option Bool} (h : PtAt N K w0 wr B s kf) (hs : IsSpX N K w2 B s') (hk : SpKeepsX N K wr w2) : PtAt N K w0 w2 B s' kf :=
  ⟨hs, h.map.at_block (hk.at_ h.sp.lt), h.below.trans hk.below, h.n_le⟩
theorem PtAt.quiet {N K : Nat} {w0 wr w2 : World} {B : Nat} {s : Spc} {kf : Nat → Option Bool} (h : PtAt N K w0 wr B s kf) (hb : Below wr.heap.size wr w2) : PtAt N K w0 w2 B s kf :=
  ⟨h.sp.below hb, h.map.at_block (hb.block K h.sp.lt), h.below.trans (hb.mono h.sp.n_le), h.n_le⟩
theorem PtAt.put {N K : Nat} {w0 wr w2 : World} {B : Nat} {s : Spc} {kf : Nat → Option Bool} (h : PtAt N K w0 wr B s kf) {n : Nat} {b : Bool} (hm : IntMap Try.prog 2 w2 K (putAt (kV kf) n (.bool b))) (hg : wr.grownBy w2 (some K)) : PtAt N K w0 w2 B s (kPut kf n b) := by
  obtain ⟨bl, bp, hs, h1, hx, x1, x2, x3⟩ := h.sp
  have hb : ∀ j, j < wr.heap.size → j ≠ K → w2.heap[j]? = wr.heap[j]? := fun j hj hn => hg.block j hj (fun e => hn (Option.some.inj e))
  exact ⟨⟨bl, bp, ⟨hs.ok, (hb B hs.row.lt x1.symm).trans hs.row, hs.last.at_block (hb bl hs.last.lt x2.symm), hs.now.at_block (hb bp hs.now.lt x3.symm), hs.ne⟩, h1, Nat.lt_of_lt_of_le hx hg.size, x1, x2, x3⟩, by rw [← kV_put]; exact hm, h.below.grown hg h.sp.n_le (fun k e => by cases e; exact h.n_le), h.n_le⟩
set_option maxRecDepth 100000 in
set_option maxHeartbeats 16000000 in
theorem spaceParts_any (m h : Int) (fa : Option Addr) (fl : List Int) (fc : Nat) (aa : Option Addr) (L : List (Int × Int)) (ac : Nat) (hf : fl.length ≤ 9223372036854775807) (hL : L.length ≤ 9223372036854775807) (w : World) (hI : IntsAt w.heap.size w fa fl) (hA : ActsAt w.heap.size w aa L) :
    Calls Try.prog 3 #[.agg #[.int .i64 m, .int .i64 h], .slice fa fl.length fc, .slice aa L.length ac] w fun e w' => KnPost w e w' := by
  have HK := Lib.hid known_any
  have hb0 : Below w.heap.size w (w.alloc (.cells #[.int .i64 m, .int .i64 h] 22)) := (Below.refl _ w).alloc (Nat.le_refl _) _
  have HB0 := Lib.hid hb0
  by_cases h1 : (60 : Int) < L.length
  · clear hb0
    go_enter Try.func3, Try.ntmps3
    go_wp2_with (go_at_call 6; refine (HK.out _).mono ?_; rintro e w' ⟨rfl, hb⟩)
    go_ret
    exact ⟨rfl, HB0.out.trans (hb.mono HB0.out.size)⟩
  by_cases h2 : (60 : Int) < fl.length
  · clear hb0
    go_enter Try.func3, Try.ntmps3
    go_wp2_with (go_at_call 6; refine (HK.out _).mono ?_; rintro e w' ⟨rfl, hb⟩)
    go_ret
    exact ⟨rfl, HB0.out.trans (hb.mono HB0.out.size)⟩
  by_cases h3 : 60 < m
  · clear hb0
    go_enter Try.func3, Try.ntmps3
    go_wp2_with (go_at_call 6; refine (HK.out _).mono ?_; rintro e w' ⟨rfl, hb⟩)
    go_ret
    exact ⟨rfl, HB0.out.trans (hb.mono HB0.out.size)⟩
  obtain ⟨w0, hw0⟩ : ∃ w0, w.alloc (.cells #[.int .i64 m, .int .i64 h] 22) = w0 := ⟨_, rfl⟩
  have HW0 := Lib.hid hw0
  rw [hw0] at hb0 HB0
  have hI0 : IntsAt w0.heap.size w0 fa fl := fun hl => by
    obtain ⟨b, off, e, hlt, hc⟩ := IntsAt.below hb0 hI hl
    exact ⟨b, off, e, Nat.lt_of_lt_of_le hlt hb0.size, hc⟩
  have hA0 : ActsAt w0.heap.size w0 aa L := fun hl => by
    obtain ⟨b, off, e, hlt, hc⟩ := ActsAt.below hb0 hA hl
    exact ⟨b, off, e, Nat.lt_of_lt_of_le hlt hb0.size, hc⟩
  have hrow0 : w0.heap[w.heap.size]? = some (.cells #[.int .i64 m, .int .i64 h] 22 (0, 0)) := by rw [← hw0]; exact (MapKept.heap_alloc w _).1
  have HX := Lib.hid hrow0
  have HI0 := Lib.hid hI0
  have HA0 := Lib.hid hA0
  by_cases hok : ¬ NewOk m h fl
  · have HO := Lib.hid hok
    have HNew := Lib.hid (new_any m h fa fl fc hf w0 hI0)
    clear hok hA hA0 hI hI0 hb0 hw0 hrow0
    go_enter Try.func3, Try.ntmps3
    go_wp2_with (first
      | (go_at_call 7; rw [HW0.out]; refine HNew.out.mono ?_; rintro e w1 ⟨hb1, hp⟩; replace hp := hp.resolve_left (fun q => HO.out q.1); obtain ⟨-, rfl⟩ := hp; have HB1 := Lib.hid hb1; clear hb1)
      | (go_at_call 6; refine (HK.out _).mono ?_; rintro e w3 ⟨rfl, hb3⟩))
    go_ret
    have s1 := HB0.out.size
    have s2 := HB1.out.size
    exact ⟨rfl, (HB0.out.trans (HB1.out.mono s1)).trans (hb3.mono (by omega))⟩
  replace hok := Classical.not_not.1 hok
  have HNew := Lib.hid (new_own m h fa fl fc hf w0 hI0 hok)
  have HO := Lib.hid hok
  have hm60 : (Spc.new m.toNat h.toNat fl).most ≤ 60 := by show m.toNat ≤ 60; omega
  obtain ⟨N, hN⟩ : ∃ N, w0.heap.size = N := ⟨_, rfl⟩
  have HN := Lib.hid hN
  have HNw : Hid (w.heap.size < N) := Lib.hid (by rw [← hN, ← hw0]; simp)
  have hmm := @run_makeMap Try.prog
  have HLast : Hid ((Spc.new m.toNat h.toNat fl).last = (Spc.new m.toNat h.toNat fl).now ∧ (Spc.new m.toNat h.toNat fl).lhigh = (Spc.new m.toNat h.toNat fl).high) := Lib.hid ⟨rfl, rfl⟩
  clear hok hA hA0 hI hI0 hb0 hw0 hrow0 hN
  go_enter Try.func3, Try.ntmps3
  go_wp2_with (first
    | (go_at_call 7; rw [HW0.out]; refine HNew.out.mono ?_; rintro e w1 ⟨B, rfl, hS1, hb1⟩; have HS1 : Hid (IsSp N w1 B (Spc.new m.toNat h.toNat fl)) := Lib.hid (by rw [← HN.out]; exact hS1); have HB1 : Hid (Below N w0 w1) := Lib.hid (by rw [← HN.out]; exact hb1); clear hb1 hS1; generalize Spc.new m.toNat h.toNat fl = s0 at HS1 hm60 HLast)
    | (go_at_call 8; refine (high_own (HS1.out.below ((Below.refl _ w1).alloc (Nat.le_refl _) _)) _ rfl).mono ?_; rintro e w' ⟨rfl, rfl⟩))
  obtain ⟨w2, hw2⟩ : ∃ w2, w1.alloc (.map #[] 0) = w2 := ⟨_, rfl⟩
  obtain ⟨K, hK⟩ : ∃ K, w1.heap.size = K := ⟨_, rfl⟩
  rw [hw2, hK]
  have HP0 : Hid (PtAt N K w0 w2 B s0 (fun _ => none)) := Lib.hid (by
    have hb : Below w1.heap.size w1 w2 := by rw [← hw2]; exact (Below.refl _ w1).alloc (Nat.le_refl _) _
    have hsz : w2.heap.size = K + 1 := by rw [← hw2, ← hK]; simp
    obtain ⟨bl, bp, hs, h1⟩ := HS1.out
    have q1 := hs.row.lt
    have q2 := hs.last.lt
    have q3 := hs.now.lt
    refine ⟨⟨bl, bp, hs.below hb, h1, by omega, by omega, by omega, by omega⟩, ?_, HB1.out.trans (hb.mono HS1.out.n_le), by rw [← hK]; exact HS1.out.n_le⟩
    rw [← hw2, ← hK]; exact IntMap.made w1)
  clear hw2 hK HS1 HB1 HNew HI0 HW0 hmm
  have HW0 : Hid (Wat s0 (fun _ => none) 2 false) := Lib.hid (Wat.none _ _ _)
  have HOk : Hid s0.Ok := Lib.hid HP0.out.sp.ok
  have h2 : 2 ≤ s0.high := by have := HOk.out.lo; have := HOk.out.lh; omega
  have hh60 : s0.high ≤ 60 := by have := HOk.out.hi; omega
  go_loopw [11, 47, 48, 49, 50, 51, 52, 53, 54, 55, 56, 57] (fun x _ _ _ _ _ _ _ _ _ _ _ wr => ∃ (n : Nat) (kf : Nat → Option Bool), x = .int .i64 n ∧ 2 ≤ n ∧ n ≤ s0.high ∧ Hid (PtAt N K w0 wr B s0 kf) ∧ Hid (Wat s0 kf n false))
    (fun x _ _ _ _ _ _ _ _ _ _ _ _ => s0.high - (intOf x).toNat)
  case atStart => exact ⟨2, _, rfl, Nat.le_refl _, h2, HP0, HW0⟩
  case round =>
    obtain ⟨n, kf, rfl, hn2, hn, HP, HW⟩ := hrel
    by_cases hlt : n < s0.high
    · obtain ⟨q, hq⟩ : ∃ q, isP s0.high s0.now (n : Int) = q := ⟨_, rfl⟩
      obtain ⟨b, hb⟩ : ∃ b : Bool, ((q : Int) == 1) = b := ⟨_, rfl⟩
      have hqb : (q == 1) = b := by rw [← hb]; exact eq_one q
      have HN1 : Hid (Wat s0 (kPut kf n b) (n + 1) false) := Lib.hid (by
        have := HW.out.put HOk.out HLast.out.1 HLast.out.2 hn2 hlt
        rwa [hq, hqb] at this)
      have HIs := Lib.hid (is_own HP.out.sp.one (n : Int) (q : Int) (by show ((isP s0.high s0.now (n : Int) : Nat) : Int) = q; rw [hq]))
      clear hq hqb HP0 HW0
      go_wp2_with (first
        | (go_at_call 9; refine HIs.out.mono ?_; rintro e w' ⟨rfl, rfl⟩)
        | (refine wpList_update rfl _ _ _ rfl Try.underlying2 Try.underlying30 HP.out.map rfl n (by omega) rfl ?_; intro w3 hM3 hG3))
      have HPn := Lib.hid (HP.out.put (b := b) hM3 hG3)
      clear hM3 hG3
      exact ⟨⟨n + 1, _, by go_num, by omega, by omega, HPn, HN1⟩, by simp [intOf]; omega⟩
    · obtain rfl : n = s0.high := by omega
      obtain ⟨w3, rfl⟩ : ∃ w3, w3 = wr := ⟨_, rfl⟩
      have HW1 : Hid (Wat s0 kf 0 true) := Lib.hid (HW.out.all 0)
      clear HP0 HW0 HW
      go_wp2
      go_loopw [10, 12, 13, 14, 15, 16, 17, 58, 59, 60, 61, 62, 63, 64, 65, 66, 67, 68, 69, 70, 71, 72, 73, 74, 75, 76, 77, 78, 79, 80, 81, 82, 83, 84, 85, 86, 87, 88, 89, 90, 91, 92, 93, 94, 95, 96, 97, 98, 99, 100, 101, 102, 103, 104, 105, 106, 107, 108, 109, 110, 111, 112, 113, 114, 115, 116, 117, 118, 119, 120, 121, 122, 123, 124, 125, 126, 127, 128, 129, 130, 131, 132, 133, 134, 135, 136, 137, 138, 139, 140, 141, 142, 143, 144, 145, 146, 147, 148, 149, 150, 151, 152, 153, 154, 155, 156, 157, 158, 159, 160, 161, 162, 163, 164, 165, 166] (fun y x _ _ _ _ _ _ _ _ _ _ _ _ _ _ _ _ _ _ _ _ _ _ _ _ _ _ _ _ _ _ _ _ _ _ _ _ _ _ _ _ _ _ _ _ _ _ _ _ _ _ _ _ _ _ _ _ _ _ _ _ _ _ _ _ _ _ _ _ _ _ _ _ _ _ _ _ _ _ _ _ _ _ _ _ _ _ _ _ _ _ _ _ _ _ _ _ _ _ _ _ _ _ _ _ _ _ _ _ _ _ _ _ _ _ wr => ∃ (k : Nat) (s : Spc) (kf : Nat → Option Bool), x = .int .i64 k ∧ y = .int .i64 s.high ∧ k ≤ L.length ∧ Hid (s.most ≤ 60) ∧ Hid (PtAt N K w0 wr B s kf) ∧ Hid (Wat s kf 0 true))
        (fun _ x _ _ _ _ _ _ _ _ _ _ _ _ _ _ _ _ _ _ _ _ _ _ _ _ _ _ _ _ _ _ _ _ _ _ _ _ _ _ _ _ _ _ _ _ _ _ _ _ _ _ _ _ _ _ _ _ _ _ _ _ _ _ _ _ _ _ _ _ _ _ _ _ _ _ _ _ _ _ _ _ _ _ _ _ _ _ _ _ _ _ _ _ _ _ _ _ _ _ _ _ _ _ _ _ _ _ _ _ _ _ _ _ _ _ _ => L.length - (intOf x).toNat)
      case atStart => exact ⟨0, s0, kf, rfl, rfl, Nat.zero_le _, Lib.hid hm60, HP, HW1⟩
      case round =>
        obtain ⟨k, s, kf, rfl, rfl, hk, HM, HP, HW⟩ := hrel
        clear HW1 hm60 hh60 HOk h2 hlt hn hn2
        by_cases hlt : k < L.length
        · obtain ⟨b, off, rfl, hb, hc⟩ := HA0.out (by rintro rfl; simp at hlt)
          rw [HN.out] at hb
          obtain ⟨hc1, hc2⟩ := hc k hlt
          have HC := Lib.hid (And.intro hc1 hc2)
          replace hc1 := (HP.out.below.cell (p := ⟨b, off + k * 2, none⟩) hb).trans hc1
          replace hc2 := (HP.out.below.cell (p := ⟨b, off + k * 2 + 1, none⟩) hb).trans hc2
          generalize (L[k]?.getD (0, 0)).1 = kd at hc1 HC
          generalize (L[k]?.getD (0, 0)).2 = pg at hc2 HC
          clear hc
          go_upto_if 69 with (fail)
          go_cut [14] (fun x wx => Hid (PtAt N K w0 wx B (stepS s kd pg) kf))
          case first =>
            by_cases e1 : kd = 1
            · subst e1
              have HE : Hid (stepS s 1 pg = s.take.1) := Lib.hid (if_pos rfl)
              have HT := Lib.hid (take_kX HP.out.sp)
              cases ht : s.taken with
              | none =>
                have et : s.take = (s, 0, 170) := by unfold Spc.take; rw [ht]
                have e2 : s.take.2.1 = 0 := by rw [et]
                have e3 : s.take.2.2 = 170 := by rw [et]
                rw [e2, e3] at HT
                clear e2 e3 et ht
                go_wp2_with (go_at_call 10; refine HT.out.mono ?_; rintro e w4 ⟨rfl, hs4, hk4⟩; rw [← HE.out] at hs4; have HP4 := Lib.hid (HP.out.keeps hs4 hk4); clear hs4 hk4)
                go_meet
                exact HP4
              | some q =>
                have et : s.take = ({ s with high := max s.high (q + 1), now := plPut s.now q 2 }, q, 0) := by unfold Spc.take; rw [ht]
                have e2 : s.take.2.1 = q := by rw [et]
                have e3 : s.take.2.2 = 0 := by rw [et]
                rw [e2, e3] at HT
                have hq4 : q ≤ 4096 := by have := (taken_mem ht).2.1; have := HP.out.sp.ok.most_hi; omega
                have hzq : ((kV kf q).getD (.bool false)) = .bool false := by
                  have hnt := HW.out.not_taken ht
                  unfold kV
                  cases hk : kf q with
                  | none => rfl
                  | some b =>
                    cases b with
                    | false => rfl
                    | true => exact absurd hk hnt
                clear e2 e3 et ht
                have HZ := Lib.hid hzq
                clear hzq
                go_wp2_with (go_at_call 10; refine HT.out.mono ?_; rintro e w4 ⟨rfl, hs4, hk4⟩; rw [← HE.out] at hs4; have HP4 := Lib.hid (HP.out.keeps hs4 hk4); have hlk := HP4.out.map.look Try.underlying2 Try.underlying30 (z := .bool false) (fun _ => rfl) q (by omega) false; rw [if_neg (by decide), HZ.out] at hlk; clear hs4 hk4)
                go_meet
                exact HP4
            · have q1 : (kd == 1) = false := by simp [e1]
              have HD := Lib.hid (does_kX HP.out.sp ⟨0, [], []⟩ none none 0 0 ⟨fun h => absurd rfl h, fun h => absurd rfl h, fun _ => rfl, fun _ => rfl, by simp, by simp, by simp, by simp⟩ (by simp) kd pg e1)
              unfold gval at HD
              clear e1
              go_wp2_with (go_at_call 11; refine HD.out.mono ?_; rintro e w4 ⟨⟨v, ok, rfl⟩, hs4, hk4⟩; have HP4 := Lib.hid (HP.out.keeps hs4 hk4); clear hs4 hk4)
              go_meet
              exact HP4
          case rest =>
            have HPs := hcut
            clear hc1 hc2
            have hsm : kd ≠ 4 → s.high ≤ (stepS s kd pg).high := fun e => stepS_high e
            have HM' : Hid ((stepS s kd pg).most ≤ 60) := Lib.hid (by rw [stepS_most']; exact HM.out)
            have HWa : Hid (kd ≠ 3 → Wat (stepS s kd pg) kf 0 true) := Lib.hid (fun e => HW.out.step e)
            have HWb : Hid (kd = 3 → Wat (stepS s kd pg) kf 2 false) := Lib.hid (fun e => by rw [e]; exact HW.out.lasts)
            have HWc : Hid (kd = 3 → (stepS s kd pg).last = (stepS s kd pg).now ∧ (stepS s kd pg).lhigh = (stepS s kd pg).high) := Lib.hid (fun e => by rw [e]; exact ⟨rfl, rfl⟩)
            clear hcut HW HP HM
            generalize stepS s kd pg = s' at HPs hsm HM' HWa HWb HWc
            have HOs : Hid s'.Ok := Lib.hid HPs.out.sp.ok
            have hh2 : 2 ≤ s'.high := by have := HOs.out.lo; have := HOs.out.lh; omega
            have hh60 : s'.high ≤ 60 := by have := HOs.out.hi; have := HM'.out; omega
            obtain ⟨hc1, hc2⟩ : wc.cell? ⟨b, off + k * 2, none⟩ = some (.int .i64 kd) ∧ wc.cell? ⟨b, off + k * 2 + 1, none⟩ = some (.int .i64 pg) := ⟨(HPs.out.below.cell (p := ⟨b, off + k * 2, none⟩) hb).trans HC.out.1, (HPs.out.below.cell (p := ⟨b, off + k * 2 + 1, none⟩) hb).trans HC.out.2⟩
            go_upto_region 20 with (fail)
            go_cut [100] (fun x wx => x = .bool false ∧ wx = wc)
            case first =>
              by_cases hq : s'.high < s.high
              · obtain rfl : kd = 4 := Classical.byContradiction fun e => by have := hsm e; omega
                clear hsm
                go_wp2_with (go_at_call 8; refine (high_own HPs.out.sp.one _ rfl).mono ?_; rintro e w' ⟨rfl, rfl⟩)
                go_meet
                exact ⟨rfl, rfl⟩
              · clear hsm
                go_wp2_with (go_at_call 8; refine (high_own HPs.out.sp.one _ rfl).mono ?_; rintro e w' ⟨rfl, rfl⟩)
                go_meet
                exact ⟨rfl, rfl⟩
            case rest =>
            obtain ⟨rfl, rfl⟩ := hcut
            clear hsm hc1 hc2
            obtain ⟨F, LF⟩ : ∃ F, Hid ((s'.of [4]).length = F) := ⟨_, Lib.hid rfl⟩
            obtain ⟨Nw, LN⟩ : ∃ F, Hid ((s'.of [2]).length = F) := ⟨_, Lib.hid rfl⟩
            obtain ⟨H, LH⟩ : ∃ F, Hid ((s'.of [3]).length = F) := ⟨_, Lib.hid rfl⟩
            have LW : Hid ((s'.of [4, 3]).length = F + H) := Lib.hid (by rw [will_len, LF.out, LH.out])
            have LS : Hid (F + Nw + H = notKept s' s'.high) := Lib.hid (by rw [← LF.out, ← LN.out, ← LH.out]; exact parts_len s' HOs.out)
            have hle : F + Nw + H ≤ s'.high - 2 := by rw [LS.out]; exact notKept_le _ _
            have hF : F ≤ 60 := by omega
            have hN : Nw ≤ 60 := by omega
            have hH : H ≤ 60 := by omega
            go_wp2_with (first
              | (go_at_call 12; refine (nums_kX (l := s'.of [4]) HPs.out.sp (fun _ _ h => free_any h)).mono ?_; rw [LF.out]; rintro e w6 ⟨a6, c6, rfl, hb6⟩; replace HPs := Lib.hid (HPs.out.quiet hb6); clear hb6)
              | (go_at_call 13; refine (nums_kX (l := s'.of [2]) HPs.out.sp (fun _ _ h => new_pages h)).mono ?_; rw [LN.out]; rintro e w6 ⟨a6, c6, rfl, hb6⟩; replace HPs := Lib.hid (HPs.out.quiet hb6); clear hb6)
              | (go_at_call 14; refine (nums_kX (l := s'.of [3]) HPs.out.sp (fun _ _ h => held_any h)).mono ?_; rw [LH.out]; rintro e w6 ⟨a6, c6, rfl, hb6⟩; replace HPs := Lib.hid (HPs.out.quiet hb6); clear hb6)
              | (go_at_call 15; refine (nums_kX (l := s'.of [4, 3]) HPs.out.sp (fun _ _ h => will_any h)).mono ?_; rw [LW.out]; rintro e w6 ⟨a6, c6, rfl, hb6⟩; replace HPs := Lib.hid (HPs.out.quiet hb6); clear hb6)
              | (go_at_call 8; refine (high_own HPs.out.sp.one _ rfl).mono ?_; rintro e w' ⟨rfl, rfl⟩))
            go_loopw [15, 16, 17, 130, 131, 132, 133, 134, 135, 136, 137, 138, 139, 140, 141, 142, 143, 144, 145, 146, 147, 148, 149, 150, 151, 152, 153] (fun y x _ _ _ _ _ _ _ _ _ _ _ _ _ _ _ _ _ _ _ _ _ _ _ _ _ wr => ∃ (n : Nat) (kf : Nat → Option Bool), x = .int .i64 n ∧ y = .int .i64 (notKept s' n : Nat) ∧ 2 ≤ n ∧ n ≤ s'.high ∧ Hid (PtAt N K w0 wr B s' kf) ∧ Hid (kd ≠ 3 → Wat s' kf 0 true) ∧ Hid (kd = 3 → Wat s' kf n false))
              (fun _ x _ _ _ _ _ _ _ _ _ _ _ _ _ _ _ _ _ _ _ _ _ _ _ _ _ _ => s'.high - (intOf x).toNat)
            case atStart => exact ⟨2, kf, rfl, by rw [notKept_two s' (Nat.le_refl _)]; rfl, Nat.le_refl _, hh2, HPs, HWa, HWb⟩
            case round =>
              clear HWa HWb HPs
              obtain ⟨n, kf, rfl, rfl, hn2, hn, HPr, HWa, HWb⟩ := hrel
              have hnk : notKept s' n ≤ 60 := by have := notKept_le s' n; omega
              by_cases hlt2 : n < s'.high
              · obtain ⟨hc1, hc2⟩ : wr.cell? ⟨b, off + k * 2, none⟩ = some (.int .i64 kd) ∧ wr.cell? ⟨b, off + k * 2 + 1, none⟩ = some (.int .i64 pg) := ⟨(HPr.out.below.cell (p := ⟨b, off + k * 2, none⟩) hb).trans HC.out.1, (HPr.out.below.cell (p := ⟨b, off + k * 2 + 1, none⟩) hb).trans HC.out.2⟩
                have HS := Lib.hid (notKept_succ s' hn2)
                have HQ := Lib.hid (is_some s' HOs.out hn2 hlt2)
                have HPut : Hid (kd = 3 → Wat s' (kPut kf n (isP s'.high s'.now (n : Int) == 1)) (n + 1) false) := Lib.hid (fun e => (HWb.out e).put HOs.out (HWc.out e).1 (HWc.out e).2 hn2 hlt2)
                have HIs := Lib.hid (is_own HPr.out.sp.one (n : Int) _ rfl)
                unfold Spc.is at HIs
                generalize isP s'.high s'.now (n : Int) = q at HS HQ HPut HIs
                generalize notKept s' n = z at HS hnk
                have hq0 : ((q : Int) == 0) = false := by have := HQ.out; simp; omega
                by_cases hq1 : q = 1
                · subst hq1
                  have HZ : Hid (notKept s' (n + 1) = z) := Lib.hid (by rw [HS.out]; rfl)
                  clear HS HQ
                  by_cases h3 : kd = 3
                  · subst h3
                    have HPt := Lib.hid (HPut.out rfl)
                    clear HPut HWa HWb
                    go_wp2_with (first
                      | (go_at_call 9; refine HIs.out.mono ?_; rintro e w' ⟨rfl, rfl⟩)
                      | (refine wpList_update rfl _ _ _ rfl Try.underlying2 Try.underlying30 HPr.out.map rfl n (by omega) rfl ?_; intro w8 hM8 hG8))
                    have HPn := Lib.hid (HPr.out.put (b := true) hM8 hG8)
                    clear hM8 hG8
                    exact ⟨⟨n + 1, _, by go_num, by rw [HZ.out], by omega, by omega, HPn, Lib.hid (fun e => absurd rfl e), Lib.hid (fun _ => HPt.out)⟩, by simp [intOf]; omega⟩
                  · have k3 : (kd == 3) = false := by simp [h3]
                    have HWn := Lib.hid (HWa.out h3)
                    have HK3 := Lib.hid h3
                    clear h3 HPut HWa HWb
                    go_wp2_with (go_at_call 9; refine HIs.out.mono ?_; rintro e w' ⟨rfl, rfl⟩)
                    go_roundw
                    case rel => exact ⟨n + 1, kf, by go_num, by rw [HZ.out], by omega, by omega, HPr, Lib.hid (fun _ => HWn.out), Lib.hid (fun e => absurd e HK3.out)⟩
                    case measure => simp [intOf]; omega
                · have HZ : Hid (notKept s' (n + 1) = z + 1) := Lib.hid (by rw [HS.out, if_neg hq1])
                  have hqb : (q == 1) = false := by simp [hq1]
                  have hqi : ((q : Int) == 1) = false := by simp; omega
                  have hqn : ((q : Int) != 1) = true := by simp; omega
                  rw [hqb] at HPut
                  clear HS HQ hq1 hqb
                  by_cases h3 : kd = 3
                  · subst h3
                    have HPt := Lib.hid (HPut.out rfl)
                    clear HPut HWa HWb
                    go_wp2_with (first
                      | (go_at_call 9; refine HIs.out.mono ?_; rintro e w' ⟨rfl, rfl⟩)
                      | (refine wpList_update rfl _ _ _ rfl Try.underlying2 Try.underlying30 HPr.out.map rfl n (by omega) rfl ?_; intro w8 hM8 hG8))
                    have HPn := Lib.hid (HPr.out.put (b := false) hM8 hG8)
                    clear hM8 hG8
                    exact ⟨⟨n + 1, _, by go_num, by rw [HZ.out]; go_num, by omega, by omega, HPn, Lib.hid (fun e => absurd rfl e), Lib.hid (fun _ => HPt.out)⟩, by simp [intOf]; omega⟩
                  · have k3 : (kd == 3) = false := by simp [h3]
                    have HWn := Lib.hid (HWa.out h3)
                    have HK3 := Lib.hid h3
                    clear h3 HPut HWa HWb
                    go_wp2_with (go_at_call 9; refine HIs.out.mono ?_; rintro e w' ⟨rfl, rfl⟩)
                    go_roundw
                    case rel => exact ⟨n + 1, kf, by go_num, by rw [HZ.out]; go_num, by omega, by omega, HPr, Lib.hid (fun _ => HWn.out), Lib.hid (fun e => absurd e HK3.out)⟩
                    case measure => simp [intOf]; omega
              · obtain rfl : n = s'.high := by omega
                have HWn : Hid (Wat s' kf 0 true) := Lib.hid (by
                  by_cases h3 : kd = 3
                  · exact (HWb.out h3).all 0
                  · exact HWa.out h3)
                rw [← LS.out]
                clear HWa HWb hnk
                go_wp2_with (first
                  | (go_at_call 12; refine (nums_kX (l := s'.of [4]) HPr.out.sp (fun _ _ h => free_any h)).mono ?_; rw [LF.out]; rintro e w7 ⟨a7, c7, rfl, hb7⟩; replace HPr := Lib.hid (HPr.out.quiet hb7); clear hb7)
                  | (go_at_call 13; refine (nums_kX (l := s'.of [2]) HPr.out.sp (fun _ _ h => new_pages h)).mono ?_; rw [LN.out]; rintro e w7 ⟨a7, c7, rfl, hb7⟩; replace HPr := Lib.hid (HPr.out.quiet hb7); clear hb7)
                  | (go_at_call 14; refine (nums_kX (l := s'.of [3]) HPr.out.sp (fun _ _ h => held_any h)).mono ?_; rw [LH.out]; rintro e w7 ⟨a7, c7, rfl, hb7⟩; replace HPr := Lib.hid (HPr.out.quiet hb7); clear hb7))
                exact ⟨⟨k + 1, s', kf, by go_num, rfl, by omega, HM', HPr, HWn⟩, by simp [intOf]; omega⟩
        · obtain rfl : k = L.length := by omega
          go_wp2_with (go_at_call 6; refine (HK.out _).mono ?_; rintro e w' ⟨rfl, hb⟩)
          go_ret
          have y1 := HNw.out
          have y2 := HP.out.sp.n_le
          exact ⟨rfl, (HB0.out.trans (HP.out.below.mono (by omega))).trans (hb.mono (by omega))⟩
end Go.Proofs.Ytmjjgdoekblelaa

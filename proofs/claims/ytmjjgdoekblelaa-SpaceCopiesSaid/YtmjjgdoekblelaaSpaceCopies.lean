/- Layer 7: the law: copies go on apart. -/
import Derived.Test.YtmjjgdoekblelaaSpCo
import Derived.Test.YtmjjgdoekblelaaSpacePlay
namespace Go.Proofs.Ytmjjgdoekblelaa
open Go.RowKit

theorem rows_below {w w' : World} {D D2 : Nat} {x y : Obj} (hb : Below w.heap.size w w') (h : w.heap[D]? = some x ∧ w.heap[D2]? = some y) : w'.heap[D]? = some x ∧ w'.heap[D2]? = some y :=
  ⟨(hb.block D (Array.getElem?_eq_some_iff.1 h.1).1).trans h.1, (hb.block D2 (Array.getElem?_eq_some_iff.1 h.2).1).trans h.2⟩
theorem stepS_most (s : Spc) (k p : Int) : (stepS s k p).most = s.most := by
  unfold stepS
  split
  · unfold Spc.take
    cases s.taken <;> rfl
  split
  · unfold Spc.give
    split
    · rfl
    split <;> rfl
  split
  · rfl
  split <;> rfl
set_option maxRecDepth 100000 in
set_option maxHeartbeats 16000000 in
theorem spaceCopies_any (h : Int) (fa : Option Addr) (fl : List Int) (fc : Nat) (a0 : Option Addr) (L0 : List (Int × Int)) (c0 : Nat) (a1 : Option Addr) (L1 : List (Int × Int)) (c1 : Nat) (hf : fl.length ≤ 9223372036854775807) (hL0 : L0.length ≤ 9223372036854775807) (hL1 : L1.length ≤ 9223372036854775807) (w : World) (hI : IntsAt w.heap.size w fa fl) (hA0 : ActsAt w.heap.size w a0 L0) (hA1 : ActsAt w.heap.size w a1 L1) :
    Calls Try.prog 4 #[.int .i64 h, .slice fa fl.length fc, .agg #[.slice a0 L0.length c0, .slice a1 L1.length c1]] w fun e w' => KnPost w e w' := by
  have HK := Lib.hid known_any
  have hb0 : Below w.heap.size w (w.alloc (.cells #[.slice a0 L0.length c0, .slice a1 L1.length c1] 45)) := (Below.refl _ w).alloc (Nat.le_refl _) _
  have HB0 := Lib.hid hb0
  by_cases h1 : (60 : Int) < wrap64 ((L0.length : Int) + L1.length)
  · clear hb0
    go_enter Try.func4, Try.ntmps4
    go_wp2_with (go_at_call 6; refine (HK.out _).mono ?_; rintro e w' ⟨rfl, hb⟩)
    go_ret
    exact ⟨rfl, HB0.out.trans (hb.mono HB0.out.size)⟩
  by_cases h2 : (60 : Int) < fl.length
  · clear hb0
    go_enter Try.func4, Try.ntmps4
    go_wp2_with (go_at_call 6; refine (HK.out _).mono ?_; rintro e w' ⟨rfl, hb⟩)
    go_ret
    exact ⟨rfl, HB0.out.trans (hb.mono HB0.out.size)⟩
  by_cases h3 : 50 < h
  · clear hb0
    go_enter Try.func4, Try.ntmps4
    go_wp2_with (go_at_call 6; refine (HK.out _).mono ?_; rintro e w' ⟨rfl, hb⟩)
    go_ret
    exact ⟨rfl, HB0.out.trans (hb.mono HB0.out.size)⟩
  obtain ⟨w0, hw0⟩ : ∃ w0, w.alloc (.cells #[.slice a0 L0.length c0, .slice a1 L1.length c1] 45) = w0 := ⟨_, rfl⟩
  have HW0 := Lib.hid hw0
  rw [hw0] at hb0 HB0
  have hI0 : IntsAt w0.heap.size w0 fa fl := fun hl => by
    obtain ⟨b, off, e, hlt, hc⟩ := IntsAt.below hb0 hI hl
    exact ⟨b, off, e, Nat.lt_of_lt_of_le hlt hb0.size, hc⟩
  have hrow0 : w0.heap[w.heap.size]? = some (.cells #[.slice a0 L0.length c0, .slice a1 L1.length c1] 45 (0, 0)) := by rw [← hw0]; exact (MapKept.heap_alloc w _).1
  have HX := Lib.hid hrow0
  have HI0 := Lib.hid hI0
  have HA0 : Hid (ActsAt w0.heap.size w0 a0 L0) := Lib.hid (fun hl => by obtain ⟨b, off, e, hlt, hc⟩ := ActsAt.below hb0 hA0 hl; exact ⟨b, off, e, Nat.lt_of_lt_of_le hlt hb0.size, hc⟩)
  have HA1 : Hid (ActsAt w0.heap.size w0 a1 L1) := Lib.hid (fun hl => by obtain ⟨b, off, e, hlt, hc⟩ := ActsAt.below hb0 hA1 hl; exact ⟨b, off, e, Nat.lt_of_lt_of_le hlt hb0.size, hc⟩)
  have x0 := cell_of_row w0 w.heap.size 0 _ _ _ hrow0
  have x1 := cell_of_row w0 w.heap.size 1 _ _ _ hrow0
  simp only [List.getElem?_toArray, List.getElem?_cons_zero, List.getElem?_cons_succ] at x0 x1
  by_cases hok : ¬ NewOk 60 h fl
  · have HO := Lib.hid hok
    have HNew := Lib.hid (new_any 60 h fa fl fc hf w0 hI0)
    clear hok hA0 hA1 hI hI0 hb0 hw0 hrow0 x0 x1
    go_enter Try.func4, Try.ntmps4
    go_wp2_with (first
      | (go_at_call 7; rw [HW0.out]; refine HNew.out.mono ?_; rintro e w1 ⟨hb1, hp⟩; replace hp := hp.resolve_left (fun q => HO.out q.1); obtain ⟨-, rfl⟩ := hp; have HB1 := Lib.hid hb1; clear hb1)
      | (go_at_call 16; refine (gnew_any 60 h fa fl fc hf w1 (fun hl => by obtain ⟨b, off, e, hlt, hc⟩ := IntsAt.below HB1.out HI0.out hl; exact ⟨b, off, e, Nat.lt_of_lt_of_le hlt HB1.out.size, hc⟩)).mono ?_; rintro e w2 hp; replace hp := hp.resolve_left (fun q => HO.out q.1); obtain ⟨-, b1, y1, d1, b2, y2, d2, rfl, hb2⟩ := hp; have HB2 := Lib.hid hb2; clear hb2; unfold gval)
      | (go_at_call 6; refine (HK.out _).mono ?_; rintro e w3 ⟨rfl, hb3⟩))
    go_ret
    have s1 := HB0.out.size
    have s2 := HB1.out.size
    have s3 := HB2.out.size
    exact ⟨rfl, (((HB0.out.trans (HB1.out.mono s1)).trans (HB2.out.mono (by omega))).alloc (by omega) _).trans (hb3.mono (by simp; omega))⟩
  replace hok := Classical.not_not.1 hok
  have HNew := Lib.hid (new_own 60 h fa fl fc hf w0 hI0 hok)
  have HO := Lib.hid hok
  have hAgr : Agr (Spc.new 60 h.toNat fl) (GSp.new 60 h fl) := by
    have := @agr_new 60 h.toNat fl
    rwa [Int.toNat_of_nonneg (by have := hok.2.2.1; omega)] at this
  have HAg := Lib.hid hAgr
  obtain ⟨N, hN⟩ : ∃ N, w0.heap.size = N := ⟨_, rfl⟩
  have HN := Lib.hid hN
  have HNw : Hid (w.heap.size < N) := Lib.hid (by rw [← hN, ← hw0]; simp)
  obtain ⟨M, hM⟩ : ∃ M, w.heap.size = M := ⟨_, rfl⟩
  have HM := Lib.hid hM
  clear hAgr hok hA0 hA1 hI hI0 hb0 hw0 hrow0 hN hM x0 x1
  go_enter Try.func4, Try.ntmps4
  go_wp2_with (first
    | (go_at_call 7; rw [HW0.out]; refine HNew.out.mono ?_; rintro e w1 ⟨B, rfl, hS1, hb1⟩; have HB1 := Lib.hid hb1; have HS1 := Lib.hid hS1; clear hb1 hS1)
    | (go_at_call 16; refine (gnew_any 60 h fa fl fc hf w1 (fun hl => by obtain ⟨b, off, e, hlt, hc⟩ := IntsAt.below HB1.out HI0.out hl; exact ⟨b, off, e, Nat.lt_of_lt_of_le hlt HB1.out.size, hc⟩)).mono ?_; rintro e w2 hp; replace hp := hp.resolve_right (fun q => q.1 HO.out); obtain ⟨-, v, rfl, b1, d1, b2, d2, rfl, hG2, hb2⟩ := hp; have HB2 := Lib.hid hb2; have HG2 := Lib.hid hG2; clear hb2 hG2; obtain ⟨w3, hw3⟩ : ∃ w3, w2 = w3 := ⟨_, rfl⟩; have hr2 := ((HB1.out.trans (HB2.out.mono HB1.out.size)).block _ (Array.getElem?_eq_some_iff.1 HX.out).1).trans HX.out; have hz2 : Below w2.heap.size w2 (w2.alloc (.cells #[.int .i64 (GSp.new 60 h fl).most, .slice b1 (GSp.new 60 h fl).now.length d1, .slice b2 (GSp.new 60 h fl).last.length d2] 40)) := (Below.refl _ _).alloc (Nat.le_refl _) _; have hr3 := (hz2.block _ (Array.getElem?_eq_some_iff.1 hr2).1).trans hr2; have x0 := cell_of_row _ w.heap.size 0 _ _ _ hr3; have x1 := cell_of_row _ w.heap.size 1 _ _ _ hr3; simp only [List.getElem?_toArray, List.getElem?_cons_zero, List.getElem?_cons_succ] at x0 x1; clear hw3 hr2 hz2 hr3; unfold gval))
  rw [HM.out]
  obtain ⟨W4, hW4⟩ : ∃ W4, w2.alloc (.cells #[.int .i64 (GSp.new 60 h fl).most, .slice b1 (GSp.new 60 h fl).now.length d1, .slice b2 (GSp.new 60 h fl).last.length d2] 40) = W4 := ⟨_, rfl⟩
  obtain ⟨D, hD⟩ : ∃ D, w2.heap.size = D := ⟨_, rfl⟩
  rw [hW4, hD]
  have hb4 : Below w2.heap.size w2 W4 := by rw [← hW4]; exact (Below.refl _ w2).alloc (Nat.le_refl _) _
  have hr4 : W4.heap[D]? = some (.cells #[.int .i64 (GSp.new 60 h fl).most, .slice b1 (GSp.new 60 h fl).now.length d1, .slice b2 (GSp.new 60 h fl).last.length d2] 40 (0, 0)) := by rw [← hW4, ← hD]; exact (MapKept.heap_alloc w2 _).1
  have z2 := HB1.out.size
  have z3 := HB2.out.size
  have HP4 : Hid (PlayAt N w0 W4 B D (Spc.new 60 h.toNat fl) (GSp.new 60 h fl) b1 d1 b2 d2) := Lib.hid ⟨(((HS1.out.mono (by rw [HN.out]; exact Nat.le_refl _)).below HB2.out).below hb4), HAg.out, HG2.out.below hb4, hr4, by rw [← HN.out]; exact (HB1.out.trans (HB2.out.mono z2)).trans (hb4.mono (by omega))⟩
  have HND : Hid (N ≤ D) := Lib.hid (by rw [← hD]; have := HN.out; omega)
  have HM0 : Hid ((Spc.new 60 h.toNat fl).most = 60) := Lib.hid rfl
  generalize GSp.new 60 h fl = g0 at HP4 ⊢
  generalize Spc.new 60 h.toNat fl = s0 at HP4 HM0
  clear hW4 hD hb4 hr4 z2 z3 HS1 HG2 HAg x0 x1 HB1 HB2 HW0 HI0 HNew
  go_loopw [11, 61, 62, 63, 64, 65, 66, 67, 68, 69, 70, 71, 72, 73, 74, 75, 76, 77, 78] (fun x _ _ _ _ _ _ _ _ _ _ _ _ _ _ _ _ _ _ wr => ∃ (k : Nat) (s : Spc) (g : GSp) (a1 : Option Addr) (c1 : Nat) (a2 : Option Addr) (c2 : Nat), x = .int .i64 k ∧ k ≤ L0.length ∧ Hid (PlayAt N w0 wr B D s g a1 c1 a2 c2) ∧ Hid (s.most = 60))
    (fun x _ _ _ _ _ _ _ _ _ _ _ _ _ _ _ _ _ _ _ => L0.length - (intOf x).toNat)
  case atStart => exact ⟨0, s0, g0, b1, d1, b2, d2, rfl, Nat.zero_le _, HP4, HM0⟩
  case round =>
    obtain ⟨k, s, g, p1, q1, p2, q2, rfl, hk, HP, HMs⟩ := hrel
    obtain ⟨k0, k1, k2⟩ := set3_row HP.out.row
    have hX := HX.out
    rw [HM.out] at hX
    have hrx := (HP.out.below.block M (by have := HNw.out; rw [HM.out] at this; exact this)).trans hX
    clear hX
    have x0 := cell_of_row wr M 0 _ _ _ hrx
    have x1 := cell_of_row wr M 1 _ _ _ hrx
    simp only [List.getElem?_toArray, List.getElem?_cons_zero, List.getElem?_cons_succ] at x0 x1
    clear hrx
    by_cases hlt : k < L0.length
    · obtain ⟨b, off, rfl, hb, hc⟩ := HA0.out (by rintro rfl; simp at hlt)
      rw [HN.out] at hb
      obtain ⟨hc1, hc2⟩ := hc k hlt
      replace hc1 := (HP.out.below.cell (p := ⟨b, off + k * 2, none⟩) hb).trans hc1
      replace hc2 := (HP.out.below.cell (p := ⟨b, off + k * 2 + 1, none⟩) hb).trans hc2
      generalize (L0[k]?.getD (0, 0)).1 = kd at hc1
      generalize (L0[k]?.getD (0, 0)).2 = pg at hc2
      clear hc
      have hstep := HP.out.agr.step HP.out.sp.ok kd pg
      have HPd : IsSp N wr.drew B s := by obtain ⟨x, y, hx, hy⟩ := HP.out.sp; exact ⟨x, y, hx.drew, hy⟩
      have HGd : IsG wr.drew p1 q1 p2 q2 g := ⟨HP.out.isg.now_, HP.out.isg.last_, HP.out.isg.no1, HP.out.isg.no2, HP.out.isg.le1, HP.out.isg.le2, HP.out.isg.few1, HP.out.isg.few2⟩
      have HC1 := Lib.hid (does_any HPd g p1 p2 q1 q2 HGd (HP.out.agr.small HP.out.sp.ok) kd pg)
      have HT := Lib.hid hstep.1
      have HMn : Hid ((stepS s kd pg).most = 60) := Lib.hid ((stepS_most s kd pg).trans HMs.out)
      clear hstep HPd HGd
      generalize stepS s kd pg = s' at HC1 HT HMn
      generalize stepG g kd pg = g' at HC1 HT
      generalize okD s g kd pg = ok at HC1
      unfold gval at HC1
      go_wp2
      go_region_with (go_at_call 11; refine HC1.out.mono ?_; rintro e w5 ⟨e1, y1, e2, y2, rfl, hG5, hS5, hk5⟩; have hD5 := hk5.cells D _ _ _ HP.out.row (by decide); obtain ⟨f0, f1, f2⟩ := set3_open hD5; obtain ⟨t0, t1, t2⟩ := set3_row hD5; have HE := Lib.hid (And.intro hG5 (And.intro hS5 (And.intro hk5 hD5))); clear hG5 hS5 hk5 hD5; unfold gval)
      all_goals go_wp2
      all_goals
        have HE1 := HE.out.1
        have HE2 := HE.out.2.1
        have HE3 := HE.out.2.2.1
        have HE4 := HE.out.2.2.2
        have v1 := HE2.set3 HE4 (by decide) (.int .i64 g'.most) (.slice e1 g'.now.length y1) (.slice e2 g'.last.length y2)
        have v2 := HE1.set3 HE4 (by decide) (.int .i64 g'.most) (.slice e1 g'.now.length y1) (.slice e2 g'.last.length y2)
        have v3 := set3_heap (.int .i64 g'.most) (.slice e1 g'.now.length y1) (.slice e2 g'.last.length y2) HE4
        have v5 : Below N wr w5 := ⟨HE3.below.os, HE3.below.tape, HE3.below.output, HE3.below.size, HE3.below.block⟩
        have v4 := set3_below (HP.out.below.trans v5) HND.out (.int .i64 g'.most) (.slice e1 g'.now.length y1) (.slice e2 g'.last.length y2)
        refine ⟨⟨k + 1, s', g', e1, y1, e2, y2, by go_num, by omega, Lib.hid ⟨v1, HT.out, v2, v3, v4⟩, HMn⟩, by simp [intOf]; omega⟩
    · obtain ⟨wa, rfl⟩ : ∃ wa, wa = wr := ⟨_, rfl⟩
      have hk' : k = L0.length := by omega
      subst hk'
      have HXa : Hid (wa.heap[M]? = some (.cells #[.slice a0 L0.length c0, .slice a1 L1.length c1] 45 (0, 0))) := Lib.hid (by
        have hX := HX.out
        rw [HM.out] at hX
        exact (HP.out.below.block M (by have := HNw.out; rw [HM.out] at this; exact this)).trans hX)
      have HNa := Lib.hid HP.out.sp.n_le
      go_wp2_with (go_at_call 17; refine (copy_new HP.out.sp).mono ?_; rintro e w5 ⟨A, rfl, hA5, hb5⟩; have hD5 := (hb5.block D (Array.getElem?_eq_some_iff.1 HP.out.row).1).trans HP.out.row; clear k0 k1 k2 x0 x1; obtain ⟨k0, k1, k2⟩ := set3_row hD5; have HB5 := Lib.hid hb5; have HS5 := Lib.hid hA5; clear hb5 hA5 hD5)
      obtain ⟨W6, hW6⟩ : ∃ W6, w5.alloc (.cells #[.int .i64 g.most, .slice p1 g.now.length q1, .slice p2 g.last.length q2] 40) = W6 := ⟨_, rfl⟩
      obtain ⟨D2, hD2⟩ : ∃ D2, w5.heap.size = D2 := ⟨_, rfl⟩
      rw [hW6, hD2]
      have hb6 : Below w5.heap.size w5 W6 := by rw [← hW6]; exact (Below.refl _ w5).alloc (Nat.le_refl _) _
      have hr6 : W6.heap[D2]? = some (.cells #[.int .i64 g.most, .slice p1 g.now.length q1, .slice p2 g.last.length q2] 40 (0, 0)) := by rw [← hW6, ← hD2]; exact (MapKept.heap_alloc w5 _).1
      have HP6 : Hid (PlayAt wa.heap.size wa W6 A D2 s g p1 q1 p2 q2) := Lib.hid ⟨HS5.out.below hb6, HP.out.agr, (HP.out.isg.below HB5.out).below hb6, hr6, HB5.out.trans (hb6.mono HB5.out.size)⟩
      have HND2 : Hid (wa.heap.size ≤ D2) := Lib.hid (by rw [← hD2]; exact HB5.out.size)
      clear hW6 hD2 hb6 hr6 k0 k1 k2 HB5 HS5
      obtain ⟨C, hC⟩ : ∃ C, wa.heap.size = C := ⟨_, rfl⟩
      have HC := Lib.hid hC
      rw [hC] at HP6 HND2 HNa
      clear hC
      go_loopw [14, 82, 83, 84, 85, 86, 87, 88, 89, 90, 91, 92, 93, 94, 95, 96, 97, 98, 99] (fun x _ _ _ _ _ _ _ _ _ _ _ _ _ _ _ _ _ _ wr => ∃ (k : Nat) (t : Spc) (o : GSp) (a1 : Option Addr) (c1 : Nat) (a2 : Option Addr) (c2 : Nat), x = .int .i64 k ∧ k ≤ L1.length ∧ Hid (PlayAt C wa wr A D2 t o a1 c1 a2 c2) ∧ Hid (t.most = 60))
        (fun x _ _ _ _ _ _ _ _ _ _ _ _ _ _ _ _ _ _ _ => L1.length - (intOf x).toNat)
      case atStart => exact ⟨0, s, g, p1, q1, p2, q2, rfl, Nat.zero_le _, HP6, HMs⟩
      case round =>
        obtain ⟨k, t, o, r1, u1, r2, u2, rfl, hk, HP2, HMt⟩ := hrel
        obtain ⟨k0, k1, k2⟩ := set3_row HP2.out.row
        have hrx := (HP2.out.below.block M (by have := HNw.out; rw [HM.out] at this; have := HNa.out; omega)).trans HXa.out
        have x0 := cell_of_row wr M 0 _ _ _ hrx
        have x1 := cell_of_row wr M 1 _ _ _ hrx
        simp only [List.getElem?_toArray, List.getElem?_cons_zero, List.getElem?_cons_succ] at x0 x1
        clear hrx
        by_cases hlt : k < L1.length
        · obtain ⟨b, off, rfl, hb, hc⟩ := HA1.out (by rintro rfl; simp at hlt)
          rw [HN.out] at hb
          obtain ⟨hc1, hc2⟩ := hc k hlt
          have hbC : b < C := Nat.lt_of_lt_of_le hb HNa.out
          replace hc1 := (HP2.out.below.cell (p := ⟨b, off + k * 2, none⟩) hbC).trans ((HP.out.below.cell (p := ⟨b, off + k * 2, none⟩) hb).trans hc1)
          replace hc2 := (HP2.out.below.cell (p := ⟨b, off + k * 2 + 1, none⟩) hbC).trans ((HP.out.below.cell (p := ⟨b, off + k * 2 + 1, none⟩) hb).trans hc2)
          generalize (L1[k]?.getD (0, 0)).1 = kd at hc1
          generalize (L1[k]?.getD (0, 0)).2 = pg at hc2
          clear hc
          have hstep := HP2.out.agr.step HP2.out.sp.ok kd pg
          have HPd : IsSp C wr.drew A t := by obtain ⟨x, y, hx, hy⟩ := HP2.out.sp; exact ⟨x, y, hx.drew, hy⟩
          have HGd : IsG wr.drew r1 u1 r2 u2 o := ⟨HP2.out.isg.now_, HP2.out.isg.last_, HP2.out.isg.no1, HP2.out.isg.no2, HP2.out.isg.le1, HP2.out.isg.le2, HP2.out.isg.few1, HP2.out.isg.few2⟩
          have HC1 := Lib.hid (does_any HPd o r1 r2 u1 u2 HGd (HP2.out.agr.small HP2.out.sp.ok) kd pg)
          have HT := Lib.hid hstep.1
          have HMn : Hid ((stepS t kd pg).most = 60) := Lib.hid ((stepS_most t kd pg).trans HMt.out)
          clear hstep HPd HGd
          generalize stepS t kd pg = s' at HC1 HT HMn
          generalize stepG o kd pg = g' at HC1 HT
          generalize okD t o kd pg = ok at HC1
          unfold gval at HC1
          go_wp2
          go_region_with (go_at_call 11; refine HC1.out.mono ?_; rintro e w5 ⟨e1, y1, e2, y2, rfl, hG5, hS5, hk5⟩; have hD5 := hk5.cells D2 _ _ _ HP2.out.row (by decide); obtain ⟨f0, f1, f2⟩ := set3_open hD5; obtain ⟨t0, t1, t2⟩ := set3_row hD5; have HE := Lib.hid (And.intro hG5 (And.intro hS5 (And.intro hk5 hD5))); clear hG5 hS5 hk5 hD5; unfold gval)
          all_goals go_wp2
          all_goals
            have HE1 := HE.out.1
            have HE2 := HE.out.2.1
            have HE3 := HE.out.2.2.1
            have HE4 := HE.out.2.2.2
            have v1 := HE2.set3 HE4 (by decide) (.int .i64 g'.most) (.slice e1 g'.now.length y1) (.slice e2 g'.last.length y2)
            have v2 := HE1.set3 HE4 (by decide) (.int .i64 g'.most) (.slice e1 g'.now.length y1) (.slice e2 g'.last.length y2)
            have v3 := set3_heap (.int .i64 g'.most) (.slice e1 g'.now.length y1) (.slice e2 g'.last.length y2) HE4
            have v5 : Below C wr w5 := ⟨HE3.below.os, HE3.below.tape, HE3.below.output, HE3.below.size, HE3.below.block⟩
            have v4 := set3_below (HP2.out.below.trans v5) HND2.out (.int .i64 g'.most) (.slice e1 g'.now.length y1) (.slice e2 g'.last.length y2)
            refine ⟨⟨k + 1, s', g', e1, y1, e2, y2, by go_num, by omega, Lib.hid ⟨v1, HT.out, v2, v3, v4⟩, HMn⟩, by simp [intOf]; omega⟩
        · obtain ⟨wb, rfl⟩ : ∃ wb, wb = wr := ⟨_, rfl⟩
          have hk' : k = L1.length := by omega
          subst hk'
          have hbw : Below wa.heap.size wa wb := by rw [HC.out]; exact HP2.out.below
          have hDb := (hbw.block D (Array.getElem?_eq_some_iff.1 HP.out.row).1).trans HP.out.row
          have HRb := Lib.hid (And.intro hDb HP2.out.row)
          have HSb := Lib.hid (HP.out.sp.below hbw)
          have HGb := Lib.hid (HP.out.isg.below hbw)
          have HWb := Lib.hid hbw
          clear k0 k1 k2
          obtain ⟨k0, k1, k2⟩ := set3_row hDb
          obtain ⟨l0, l1, l2⟩ := set3_row HP2.out.row
          clear hDb hbw
          have tk1 : True := trivial
          obtain ⟨bl, hbl⟩ : ∃ b : Bool, ((g.now.length : Int) == o.now.length) = b := ⟨_, rfl⟩
          obtain ⟨bm, hbm⟩ : ∃ b : Bool, ((g.last.length : Int) == o.last.length) = b := ⟨_, rfl⟩
          have HBL := Lib.hid hbl
          have HBM := Lib.hid hbm
          cases bl
          all_goals
            go_wp2_with (first
              | (have _t := tk1; go_at_call 18; refine (lawsame_any HSb.out g p1 p2 q1 q2 HGb.out HP.out.agr).mono ?_; rintro e w7 ⟨rfl, hb7⟩; have hR7 := rows_below hb7 HRb.out; clear k0 k1 k2 l0 l1 l2 x0 x1; obtain ⟨l0, l1, l2⟩ := set3_row hR7.2; have HB7 := Lib.hid hb7; clear hb7 hR7 tk1 _t; have tk2 : True := trivial)
              | (have _t := tk2; go_at_call 18; refine (lawsame_any (HP2.out.sp.below HB7.out) o r1 r2 u1 u2 (HP2.out.isg.below HB7.out) HP2.out.agr).mono ?_; rintro e w8 ⟨rfl, hb8⟩; clear l0 l1 l2; have HB8 := Lib.hid (HB7.out.trans (hb8.mono HB7.out.size)); clear hb8 tk2 _t; have tk3 : True := trivial)
              | (have _t := tk3; go_at_call 17; refine (copy_new (HSb.out.below HB8.out)).mono ?_; rintro e w9 ⟨A9, rfl, hA9, hb9⟩; have HB9 := Lib.hid (HB8.out.trans (hb9.mono HB8.out.size)); have HT9 := Lib.hid (two_of (HSb.out.below HB8.out) hb9 hA9); clear hb9 hA9 tk3 _t; have tk4 : True := trivial)
              | (have _t := tk4; go_at_call 19; refine (same_yes HT9.out (Spc.like.refl _)).mono ?_; rintro e w10 ⟨rfl, -, hb10⟩; have HB10 := Lib.hid (HB9.out.trans (hb10.mono HB9.out.size)); clear hb10 tk4 _t; have tk5 : True := trivial)
              | (have _t := tk5; go_at_call 19; refine (same_nil (HSb.out.below HB10.out)).mono ?_; rintro e w11 ⟨rfl, hb11⟩; have HB11 := Lib.hid (HB10.out.trans (hb11.mono HB10.out.size)); have hR11 := rows_below HB11.out HRb.out; obtain ⟨k0, k1, k2⟩ := set3_row hR11.1; obtain ⟨l0, l1, l2⟩ := set3_row hR11.2; have HR11 := Lib.hid hR11; clear hb11 hR11 tk5 _t))
          all_goals
            clear k0 k1 k2 l0 l1 l2 hbl hbm
            go_loopw [15, 16, 137, 138, 139, 140, 141, 142, 143, 144, 145, 146, 147, 148, 149, 150, 151, 152, 153, 154, 155, 156, 157] (fun z x _ _ _ _ _ _ _ _ _ _ _ _ _ _ _ _ _ _ _ _ _ wr => ∃ (k : Nat) (al : Bool), x = .int .i64 k ∧ z = .bool al ∧ k ≤ g.now.length ∧ Hid (Alike3 g o k al) ∧ Hid (Below w11.heap.size w11 wr))
              (fun _ x _ _ _ _ _ _ _ _ _ _ _ _ _ _ _ _ _ _ _ _ _ _ => g.now.length - (intOf x).toNat)
            case atStart => exact ⟨0, _, rfl, rfl, Nat.zero_le _, Lib.hid (alike_start HBL.out HBM.out), Lib.hid (Below.refl _ _)⟩
            case round =>
              obtain ⟨k, al, rfl, rfl, hk, HAL, HB⟩ := hrel
              have hRr := rows_below HB.out HR11.out
              obtain ⟨k0, k1, k2⟩ := set3_row hRr.1
              obtain ⟨l0, l1, l2⟩ := set3_row hRr.2
              have HRr := Lib.hid hRr
              clear hRr
              have fin : True := trivial
              by_cases hgo : al = true ∧ k < g.now.length
              · obtain ⟨rfl, hlt⟩ := hgo
                have HGr := Lib.hid ((HGb.out.below HB11.out).below HB.out)
                have HOr := Lib.hid ((HP2.out.isg.below HB11.out).below HB.out)
                obtain ⟨e1, -, -⟩ := HAL.out.1 rfl
                have hk5 : g.now.length ≤ 5000 := HGb.out.few1
                obtain ⟨ga, fa1, ea, -, -, hca⟩ := HGr.out.now_ (by intro e; rw [e] at hlt; simp at hlt)
                obtain ⟨gb, fb1, eb, -, -, hcb⟩ := HOr.out.now_ (by intro e; have q := e1; rw [e] at q; simp only [List.length_nil] at q; omega)
                have hca' := hca k hlt
                have hcb' := hcb k (by omega)
                rw [ea] at k1
                rw [eb] at l1
                have hlo : k < o.now.length := by omega
                have HST := Lib.hid (fun b hb => alike_step3 (b := b) HAL.out hb)
                clear hca hcb ea eb e1
                generalize g.now[k]?.getD 0 = u at hca' HST
                generalize o.now[k]?.getD 0 = v at hcb' HST
                by_cases huv : u = v
                · have hx : (((u : Nat) : Int) == v) = true := by simp [huv]
                  have HS' := Lib.hid (HST.out true (by simp [huv]))
                  clear huv
                  go_wp2
                  go_quiet (fail)
                  go_wp2
                  go_roundw
                  case rel => exact ⟨k + 1, true, by go_num, rfl, by omega, HS', Lib.hid (HB.out.trans ⟨rfl, rfl, rfl, Nat.le_refl _, fun _ _ => rfl⟩)⟩
                  case measure => simp [intOf]; omega
                · have hx : (((u : Nat) : Int) == v) = false := by simp; omega
                  have HS' := Lib.hid (HST.out false (by simp [huv]))
                  clear huv
                  go_wp2
                  go_quiet (fail)
                  go_wp2
                  go_roundw
                  case rel => exact ⟨k + 1, false, by go_num, rfl, by omega, HS', Lib.hid (HB.out.trans ⟨rfl, rfl, rfl, Nat.le_refl _, fun _ _ => rfl⟩)⟩
                  case measure => simp [intOf]; omega
              · have H4 := Lib.hid (alike_mid HAL.out (fun e => Nat.le_of_not_lt fun q => hgo ⟨e, q⟩))
                obtain ⟨wc, rfl⟩ : ∃ wc, wc = wr := ⟨_, rfl⟩
                by_cases hlt : k < g.now.length
                · obtain rfl : al = false := by
                    cases al with
                    | false => rfl
                    | true => exact absurd ⟨rfl, hlt⟩ hgo
                  clear hgo
                  go_wp2
                  go_loopw [15, 17, 158, 159, 160, 161, 162, 163, 164, 165, 166, 167, 168, 169, 170, 171, 172, 173, 174, 175, 176, 177, 178] (fun z x _ _ _ _ _ _ _ _ _ _ _ _ _ _ _ _ _ _ _ _ _ wr => ∃ (k : Nat) (al : Bool), x = .int .i64 k ∧ z = .bool al ∧ k ≤ g.last.length ∧ Hid (Alike4 g o k al) ∧ Hid (Below w11.heap.size w11 wr))
                    (fun _ x _ _ _ _ _ _ _ _ _ _ _ _ _ _ _ _ _ _ _ _ _ _ => g.last.length - (intOf x).toNat)
                  case atStart => exact ⟨0, _, rfl, rfl, Nat.zero_le _, H4, HB⟩
                  case round =>
                    clear k0 k1 k2 l0 l1 l2 HRr HAL HB H4 hk hlt
                    obtain ⟨k, al, rfl, rfl, hk, HAL, HB⟩ := hrel
                    have hRr := rows_below HB.out HR11.out
                    obtain ⟨k0, k1, k2⟩ := set3_row hRr.1
                    obtain ⟨l0, l1, l2⟩ := set3_row hRr.2
                    have HRr := Lib.hid hRr
                    clear hRr
                    by_cases hgo : al = true ∧ k < g.last.length
                    · obtain ⟨rfl, hlt⟩ := hgo
                      have HGr := Lib.hid ((HGb.out.below HB11.out).below HB.out)
                      have HOr := Lib.hid ((HP2.out.isg.below HB11.out).below HB.out)
                      obtain ⟨-, e1, -⟩ := HAL.out.1 rfl
                      have hk5 : g.last.length ≤ 5000 := HGb.out.few2
                      obtain ⟨ga, fa1, ea, -, -, hca⟩ := HGr.out.last_ (by intro e; rw [e] at hlt; simp at hlt)
                      obtain ⟨gb, fb1, eb, -, -, hcb⟩ := HOr.out.last_ (by intro e; have q := e1; rw [e] at q; simp only [List.length_nil] at q; omega)
                      have hca' := hca k hlt
                      have hcb' := hcb k (by omega)
                      rw [ea] at k2
                      rw [eb] at l2
                      have hlo : k < o.last.length := by omega
                      have HST := Lib.hid (fun b hb => alike_step4 (b := b) HAL.out hb)
                      clear hca hcb ea eb e1
                      generalize g.last[k]?.getD 0 = u at hca' HST
                      generalize o.last[k]?.getD 0 = v at hcb' HST
                      by_cases huv : u = v
                      · have hx : (((u : Nat) : Int) == v) = true := by simp [huv]
                        have HS' := Lib.hid (HST.out true (by simp [huv]))
                        clear huv
                        go_wp2
                        go_quiet (fail)
                        go_wp2
                        go_roundw
                        case rel => exact ⟨k + 1, true, by go_num, rfl, by omega, HS', Lib.hid (HB.out.trans ⟨rfl, rfl, rfl, Nat.le_refl _, fun _ _ => rfl⟩)⟩
                        case measure => simp [intOf]; omega
                      · have hx : (((u : Nat) : Int) == v) = false := by simp; omega
                        have HS' := Lib.hid (HST.out false (by simp [huv]))
                        clear huv
                        go_wp2
                        go_quiet (fail)
                        go_wp2
                        go_roundw
                        case rel => exact ⟨k + 1, false, by go_num, rfl, by omega, HS', Lib.hid (HB.out.trans ⟨rfl, rfl, rfl, Nat.le_refl _, fun _ _ => rfl⟩)⟩
                        case measure => simp [intOf]; omega
                    · obtain ⟨wd, rfl⟩ : ∃ wd, wd = wr := ⟨_, rfl⟩
                      have hEnd := alike_end HAL.out (fun e => Nat.le_of_not_lt fun q => hgo ⟨e, q⟩)
                      have HQ : Hid (s.like t ↔ al = true) := Lib.hid ((HP.out.agr.like HP2.out.agr HP.out.sp.ok HP2.out.sp.ok (HMs.out.trans HMt.out.symm)).trans hEnd.symm)
                      have hwd : Below wa.heap.size wa wd := (HWb.out.trans (HB11.out.mono HWb.out.size)).trans (HB.out.mono (Nat.le_trans HWb.out.size HB11.out.size))
                      have HT := Lib.hid (two_of HP.out.sp hwd (by rw [HC.out]; exact (HP2.out.sp.below HB11.out).below HB.out))
                      have HA12 : Hid (Below N w0 wd) := Lib.hid (HP.out.below.trans (hwd.mono HP.out.sp.n_le))
                      have HGd := Lib.hid ((HGb.out.below HB11.out).below HB.out)
                      have hne : (al != al) = false := by cases al <;> rfl
                      clear hEnd hwd
                      have fin2 : True := trivial
                      by_cases hlt : k < g.last.length
                      · obtain rfl : al = false := by
                          cases al with
                          | false => rfl
                          | true => exact absurd ⟨rfl, hlt⟩ hgo
                        clear hgo
                        go_wp2_with (first
                          | (go_at_call 19; refine (same_two HT.out).mono ?_; rintro e w13 ⟨r, rfl, hr, hb13⟩; have hra := (Bool.eq_iff_iff).2 (hr.trans HQ.out); subst hra; have HS13 := Lib.hid (HT.out.one.below hb13); have HA13 := Lib.hid (HA12.out.trans (hb13.mono HT.out.one.n_le)); have HG13 := Lib.hid (HGd.out.below hb13); have HR13 := Lib.hid (rows_below hb13 HRr.out); clear hb13 hr)
                          | (go_at_call 20; refine (undo_k HS13.out).mono ?_; rintro e w14 ⟨rfl, hs14, hk14⟩; have hD14 := hk14.cells D _ _ _ HR13.out.1 (by decide); clear k0 k1 k2 l0 l1 l2; obtain ⟨k0, k1, k2⟩ := set3_row hD14; have HS14 := Lib.hid hs14; have HA14 := Lib.hid (HA13.out.trans hk14.below); have HG14 := Lib.hid (HG13.out.keeps hk14); clear hs14 hk14 hD14)
                          | (go_at_call 21; refine (gundo_any g p1 p2 q1 q2 _ HG14.out).mono ?_; rintro e w15 ⟨v, rfl, b1, d1, b2, d2, rfl, hG15, hb15⟩; have HG15 := Lib.hid hG15; have HS15 := Lib.hid (HS14.out.below hb15); have HA15 := Lib.hid (HA14.out.trans (hb15.mono HS14.out.n_le)); clear hG15 hb15; unfold gval)
                          | (go_at_call 18; refine (lawsame_any HS15.out g.undo b1 b2 d1 d2 HG15.out HP.out.agr.undo).mono ?_; rintro e w16 ⟨rfl, hb16⟩; have HA16 := Lib.hid (HA15.out.trans (hb16.mono HS15.out.n_le)); have HS16 := Lib.hid (HS15.out.below hb16); clear hb16)
                          | (go_at_call 6; refine (HK.out _).mono ?_; rintro e w17 ⟨rfl, hb17⟩))
                        go_ret
                        exact ⟨rfl, (HB0.out.trans (HA16.out.mono (Nat.le_of_lt (by have := HNw.out; rw [HM.out]; rw [HM.out] at this; exact this)))).trans (hb17.mono (Nat.le_trans (Nat.le_of_lt (by have := HNw.out; rw [HM.out]; rw [HM.out] at this; exact this)) HS16.out.n_le))⟩
                      · clear hgo
                        go_wp2_with (first
                          | (go_at_call 19; refine (same_two HT.out).mono ?_; rintro e w13 ⟨r, rfl, hr, hb13⟩; have hra := (Bool.eq_iff_iff).2 (hr.trans HQ.out); subst hra; have HS13 := Lib.hid (HT.out.one.below hb13); have HA13 := Lib.hid (HA12.out.trans (hb13.mono HT.out.one.n_le)); have HG13 := Lib.hid (HGd.out.below hb13); have HR13 := Lib.hid (rows_below hb13 HRr.out); clear hb13 hr)
                          | (go_at_call 20; refine (undo_k HS13.out).mono ?_; rintro e w14 ⟨rfl, hs14, hk14⟩; have hD14 := hk14.cells D _ _ _ HR13.out.1 (by decide); clear k0 k1 k2 l0 l1 l2; obtain ⟨k0, k1, k2⟩ := set3_row hD14; have HS14 := Lib.hid hs14; have HA14 := Lib.hid (HA13.out.trans hk14.below); have HG14 := Lib.hid (HG13.out.keeps hk14); clear hs14 hk14 hD14)
                          | (go_at_call 21; refine (gundo_any g p1 p2 q1 q2 _ HG14.out).mono ?_; rintro e w15 ⟨v, rfl, b1, d1, b2, d2, rfl, hG15, hb15⟩; have HG15 := Lib.hid hG15; have HS15 := Lib.hid (HS14.out.below hb15); have HA15 := Lib.hid (HA14.out.trans (hb15.mono HS14.out.n_le)); clear hG15 hb15; unfold gval)
                          | (go_at_call 18; refine (lawsame_any HS15.out g.undo b1 b2 d1 d2 HG15.out HP.out.agr.undo).mono ?_; rintro e w16 ⟨rfl, hb16⟩; have HA16 := Lib.hid (HA15.out.trans (hb16.mono HS15.out.n_le)); have HS16 := Lib.hid (HS15.out.below hb16); clear hb16)
                          | (go_at_call 6; refine (HK.out _).mono ?_; rintro e w17 ⟨rfl, hb17⟩))
                        go_ret
                        exact ⟨rfl, (HB0.out.trans (HA16.out.mono (Nat.le_of_lt (by have := HNw.out; rw [HM.out]; rw [HM.out] at this; exact this)))).trans (hb17.mono (Nat.le_trans (Nat.le_of_lt (by have := HNw.out; rw [HM.out]; rw [HM.out] at this; exact this)) HS16.out.n_le))⟩
                · clear hgo
                  go_wp2
                  go_loopw [15, 17, 158, 159, 160, 161, 162, 163, 164, 165, 166, 167, 168, 169, 170, 171, 172, 173, 174, 175, 176, 177, 178] (fun z x _ _ _ _ _ _ _ _ _ _ _ _ _ _ _ _ _ _ _ _ _ wr => ∃ (k : Nat) (al : Bool), x = .int .i64 k ∧ z = .bool al ∧ k ≤ g.last.length ∧ Hid (Alike4 g o k al) ∧ Hid (Below w11.heap.size w11 wr))
                    (fun _ x _ _ _ _ _ _ _ _ _ _ _ _ _ _ _ _ _ _ _ _ _ _ => g.last.length - (intOf x).toNat)
                  case atStart => exact ⟨0, _, rfl, rfl, Nat.zero_le _, H4, HB⟩
                  case round =>
                    clear k0 k1 k2 l0 l1 l2 HRr HAL HB H4 hk hlt
                    obtain ⟨k, al, rfl, rfl, hk, HAL, HB⟩ := hrel
                    have hRr := rows_below HB.out HR11.out
                    obtain ⟨k0, k1, k2⟩ := set3_row hRr.1
                    obtain ⟨l0, l1, l2⟩ := set3_row hRr.2
                    have HRr := Lib.hid hRr
                    clear hRr
                    by_cases hgo : al = true ∧ k < g.last.length
                    · obtain ⟨rfl, hlt⟩ := hgo
                      have HGr := Lib.hid ((HGb.out.below HB11.out).below HB.out)
                      have HOr := Lib.hid ((HP2.out.isg.below HB11.out).below HB.out)
                      obtain ⟨-, e1, -⟩ := HAL.out.1 rfl
                      have hk5 : g.last.length ≤ 5000 := HGb.out.few2
                      obtain ⟨ga, fa1, ea, -, -, hca⟩ := HGr.out.last_ (by intro e; rw [e] at hlt; simp at hlt)
                      obtain ⟨gb, fb1, eb, -, -, hcb⟩ := HOr.out.last_ (by intro e; have q := e1; rw [e] at q; simp only [List.length_nil] at q; omega)
                      have hca' := hca k hlt
                      have hcb' := hcb k (by omega)
                      rw [ea] at k2
                      rw [eb] at l2
                      have hlo : k < o.last.length := by omega
                      have HST := Lib.hid (fun b hb => alike_step4 (b := b) HAL.out hb)
                      clear hca hcb ea eb e1
                      generalize g.last[k]?.getD 0 = u at hca' HST
                      generalize o.last[k]?.getD 0 = v at hcb' HST
                      by_cases huv : u = v
                      · have hx : (((u : Nat) : Int) == v) = true := by simp [huv]
                        have HS' := Lib.hid (HST.out true (by simp [huv]))
                        clear huv
                        go_wp2
                        go_quiet (fail)
                        go_wp2
                        go_roundw
                        case rel => exact ⟨k + 1, true, by go_num, rfl, by omega, HS', Lib.hid (HB.out.trans ⟨rfl, rfl, rfl, Nat.le_refl _, fun _ _ => rfl⟩)⟩
                        case measure => simp [intOf]; omega
                      · have hx : (((u : Nat) : Int) == v) = false := by simp; omega
                        have HS' := Lib.hid (HST.out false (by simp [huv]))
                        clear huv
                        go_wp2
                        go_quiet (fail)
                        go_wp2
                        go_roundw
                        case rel => exact ⟨k + 1, false, by go_num, rfl, by omega, HS', Lib.hid (HB.out.trans ⟨rfl, rfl, rfl, Nat.le_refl _, fun _ _ => rfl⟩)⟩
                        case measure => simp [intOf]; omega
                    · obtain ⟨wd, rfl⟩ : ∃ wd, wd = wr := ⟨_, rfl⟩
                      have hEnd := alike_end HAL.out (fun e => Nat.le_of_not_lt fun q => hgo ⟨e, q⟩)
                      have HQ : Hid (s.like t ↔ al = true) := Lib.hid ((HP.out.agr.like HP2.out.agr HP.out.sp.ok HP2.out.sp.ok (HMs.out.trans HMt.out.symm)).trans hEnd.symm)
                      have hwd : Below wa.heap.size wa wd := (HWb.out.trans (HB11.out.mono HWb.out.size)).trans (HB.out.mono (Nat.le_trans HWb.out.size HB11.out.size))
                      have HT := Lib.hid (two_of HP.out.sp hwd (by rw [HC.out]; exact (HP2.out.sp.below HB11.out).below HB.out))
                      have HA12 : Hid (Below N w0 wd) := Lib.hid (HP.out.below.trans (hwd.mono HP.out.sp.n_le))
                      have HGd := Lib.hid ((HGb.out.below HB11.out).below HB.out)
                      have hne : (al != al) = false := by cases al <;> rfl
                      clear hEnd hwd
                      have fin2 : True := trivial
                      by_cases hlt : k < g.last.length
                      · obtain rfl : al = false := by
                          cases al with
                          | false => rfl
                          | true => exact absurd ⟨rfl, hlt⟩ hgo
                        clear hgo
                        go_wp2_with (first
                          | (go_at_call 19; refine (same_two HT.out).mono ?_; rintro e w13 ⟨r, rfl, hr, hb13⟩; have hra := (Bool.eq_iff_iff).2 (hr.trans HQ.out); subst hra; have HS13 := Lib.hid (HT.out.one.below hb13); have HA13 := Lib.hid (HA12.out.trans (hb13.mono HT.out.one.n_le)); have HG13 := Lib.hid (HGd.out.below hb13); have HR13 := Lib.hid (rows_below hb13 HRr.out); clear hb13 hr)
                          | (go_at_call 20; refine (undo_k HS13.out).mono ?_; rintro e w14 ⟨rfl, hs14, hk14⟩; have hD14 := hk14.cells D _ _ _ HR13.out.1 (by decide); clear k0 k1 k2 l0 l1 l2; obtain ⟨k0, k1, k2⟩ := set3_row hD14; have HS14 := Lib.hid hs14; have HA14 := Lib.hid (HA13.out.trans hk14.below); have HG14 := Lib.hid (HG13.out.keeps hk14); clear hs14 hk14 hD14)
                          | (go_at_call 21; refine (gundo_any g p1 p2 q1 q2 _ HG14.out).mono ?_; rintro e w15 ⟨v, rfl, b1, d1, b2, d2, rfl, hG15, hb15⟩; have HG15 := Lib.hid hG15; have HS15 := Lib.hid (HS14.out.below hb15); have HA15 := Lib.hid (HA14.out.trans (hb15.mono HS14.out.n_le)); clear hG15 hb15; unfold gval)
                          | (go_at_call 18; refine (lawsame_any HS15.out g.undo b1 b2 d1 d2 HG15.out HP.out.agr.undo).mono ?_; rintro e w16 ⟨rfl, hb16⟩; have HA16 := Lib.hid (HA15.out.trans (hb16.mono HS15.out.n_le)); have HS16 := Lib.hid (HS15.out.below hb16); clear hb16)
                          | (go_at_call 6; refine (HK.out _).mono ?_; rintro e w17 ⟨rfl, hb17⟩))
                        go_ret
                        exact ⟨rfl, (HB0.out.trans (HA16.out.mono (Nat.le_of_lt (by have := HNw.out; rw [HM.out]; rw [HM.out] at this; exact this)))).trans (hb17.mono (Nat.le_trans (Nat.le_of_lt (by have := HNw.out; rw [HM.out]; rw [HM.out] at this; exact this)) HS16.out.n_le))⟩
                      · clear hgo
                        go_wp2_with (first
                          | (go_at_call 19; refine (same_two HT.out).mono ?_; rintro e w13 ⟨r, rfl, hr, hb13⟩; have hra := (Bool.eq_iff_iff).2 (hr.trans HQ.out); subst hra; have HS13 := Lib.hid (HT.out.one.below hb13); have HA13 := Lib.hid (HA12.out.trans (hb13.mono HT.out.one.n_le)); have HG13 := Lib.hid (HGd.out.below hb13); have HR13 := Lib.hid (rows_below hb13 HRr.out); clear hb13 hr)
                          | (go_at_call 20; refine (undo_k HS13.out).mono ?_; rintro e w14 ⟨rfl, hs14, hk14⟩; have hD14 := hk14.cells D _ _ _ HR13.out.1 (by decide); clear k0 k1 k2 l0 l1 l2; obtain ⟨k0, k1, k2⟩ := set3_row hD14; have HS14 := Lib.hid hs14; have HA14 := Lib.hid (HA13.out.trans hk14.below); have HG14 := Lib.hid (HG13.out.keeps hk14); clear hs14 hk14 hD14)
                          | (go_at_call 21; refine (gundo_any g p1 p2 q1 q2 _ HG14.out).mono ?_; rintro e w15 ⟨v, rfl, b1, d1, b2, d2, rfl, hG15, hb15⟩; have HG15 := Lib.hid hG15; have HS15 := Lib.hid (HS14.out.below hb15); have HA15 := Lib.hid (HA14.out.trans (hb15.mono HS14.out.n_le)); clear hG15 hb15; unfold gval)
                          | (go_at_call 18; refine (lawsame_any HS15.out g.undo b1 b2 d1 d2 HG15.out HP.out.agr.undo).mono ?_; rintro e w16 ⟨rfl, hb16⟩; have HA16 := Lib.hid (HA15.out.trans (hb16.mono HS15.out.n_le)); have HS16 := Lib.hid (HS15.out.below hb16); clear hb16)
                          | (go_at_call 6; refine (HK.out _).mono ?_; rintro e w17 ⟨rfl, hb17⟩))
                        go_ret
                        exact ⟨rfl, (HB0.out.trans (HA16.out.mono (Nat.le_of_lt (by have := HNw.out; rw [HM.out]; rw [HM.out] at this; exact this)))).trans (hb17.mono (Nat.le_trans (Nat.le_of_lt (by have := HNw.out; rw [HM.out]; rw [HM.out] at this; exact this)) HS16.out.n_le))⟩
end Go.Proofs.Ytmjjgdoekblelaa

/- Layer 7: the law: what each page is behind any calls. -/
import Derived.Test.YtmmbmmiedfdmeaaSpZd
namespace Go.Proofs.Ytmmbmmiedfdmeaa
open Go.RowKit

/-- The two spaces tell the same; the document's lies in the law's own variable. -/
structure PlayAt (N : Nat) (w wr : World) (B D : Nat) (s : Spc) (g : GSp) (a1 : Option Addr) (c1 : Nat) (a2 : Option Addr) (c2 : Nat) : Prop where
  sp : IsSp N wr B s
  agr : Agr s g
  isg : IsG wr a1 c1 a2 c2 g
  row : wr.heap[D]? = some (.cells #[.int .i64 g.most, .slice a1 g.now.length c1, .slice a2 g.last.length c2] 32 (0, 0))
  below : Below N w wr
theorem set3_row {w : World} {D : Nat} {x0 x1 x2 : Value} {t : TypeId} {fr : Nat × Nat} (h : w.heap[D]? = some (.cells #[x0, x1, x2] t fr)) : w.cell? ⟨D, 0, none⟩ = some x0 ∧ w.cell? ⟨D, 1, none⟩ = some x1 ∧ w.cell? ⟨D, 2, none⟩ = some x2 :=
  ⟨cell_of_row w D 0 _ _ _ h, cell_of_row w D 1 _ _ _ h, cell_of_row w D 2 _ _ _ h⟩
theorem set3_open {w : World} {D : Nat} {x0 x1 x2 : Value} {t : TypeId} (h : w.heap[D]? = some (.cells #[x0, x1, x2] t (0, 0))) : w.frozen? ⟨D, 0, none⟩ = false ∧ w.frozen? ⟨D, 1, none⟩ = false ∧ w.frozen? ⟨D, 2, none⟩ = false :=
  ⟨frozen_of_row w D 0 _ _ h, frozen_of_row w D 1 _ _ h, frozen_of_row w D 2 _ _ h⟩
/-- Behind a call, ahead of the question whether they tell the same. -/
structure Next (N : Nat) (w W : World) (B D R : Nat) (s' : Spc) (x0 x1 x2 : Value) (g' : GSp) (e1 : Option Addr) (y1 : Nat) (e2 : Option Addr) (y2 : Nat) : Prop where
  sp : IsSp N W B s'
  isg : IsG W e1 y1 e2 y2 g'
  rowR : W.heap[R]? = some (.cells #[.int .i64 g'.most, .slice e1 g'.now.length y1, .slice e2 g'.last.length y2] 32 (0, 0))
  rowD : W.heap[D]? = some (.cells #[x0, x1, x2] 32 (0, 0))
  below : Below N w W
theorem nextA {N : Nat} {w wr w5 : World} {B D : Nat} {s s' : Spc} {g g' : GSp} {a1 a2 e1 e2 : Option Addr} {c1 c2 y1 y2 : Nat} (HP : PlayAt N w wr B D s g a1 c1 a2 c2) (hG : IsG w5 e1 y1 e2 y2 g') (hS : IsSp N w5 B s') (hk : SpKeeps N wr.drew w5) :
    Next N w (w5.alloc (.cells #[.int .i64 g'.most, .slice e1 g'.now.length y1, .slice e2 g'.last.length y2] 32)) B D w5.heap.size s' (.int .i64 g.most) (.slice a1 g.now.length c1) (.slice a2 g.last.length c2) g' e1 y1 e2 y2 := by
  have hb : Below w5.heap.size w5 (w5.alloc (.cells #[.int .i64 g'.most, .slice e1 g'.now.length y1, .slice e2 g'.last.length y2] 32)) := (Below.refl _ _).alloc (Nat.le_refl _) _
  have hk' : SpKeeps N wr w5 := ⟨⟨hk.below.os, hk.below.tape, hk.below.output, hk.below.size, hk.below.block⟩, hk.cells⟩
  have hD := hk'.cells D _ _ _ HP.row (by decide)
  exact ⟨hS.below hb, hG.below hb, (MapKept.heap_alloc w5 _).1, (hb.block D (Array.getElem?_eq_some_iff.1 hD).1).trans hD, (HP.below.trans hk'.below).trans (hb.mono hS.n_le)⟩
theorem nextB {N : Nat} {w wr w5 : World} {B D : Nat} {s s' : Spc} {g g' : GSp} {a1 a2 e1 e2 : Option Addr} {c1 c2 y1 y2 : Nat} {u0 u1 u2 : Value} {Z : Obj} (HP : PlayAt N w wr B D s g a1 c1 a2 c2) (hG : IsG w5 e1 y1 e2 y2 g') (hS : IsSp N w5 B s') (hk : SpKeeps N (wr.alloc Z).drew w5)
    (hR : w5.heap[wr.heap.size]? = some (.cells #[u0, u1, u2] 32 (0, 0))) :
    Next N w (((w5.setCell ⟨wr.heap.size, 0, none⟩ (.int .i64 g'.most)).setCell ⟨wr.heap.size, 1, none⟩ (.slice e1 g'.now.length y1)).setCell ⟨wr.heap.size, 2, none⟩ (.slice e2 g'.last.length y2)) B D wr.heap.size s' (.int .i64 g.most) (.slice a1 g.now.length c1) (.slice a2 g.last.length c2) g' e1 y1 e2 y2 := by
  have hk1 : SpKeeps N (wr.alloc Z) w5 := ⟨⟨hk.below.os, hk.below.tape, hk.below.output, hk.below.size, hk.below.block⟩, hk.cells⟩
  have hk' : SpKeeps N wr w5 := (SpKeeps.of_below ((Below.refl _ _).alloc (Nat.le_refl _) Z) HP.sp.n_le).trans hk1
  have hD := hk'.cells D _ _ _ HP.row (by decide)
  have hlt := (Array.getElem?_eq_some_iff.1 HP.row).1
  exact ⟨hS.set3 hR (by decide) _ _ _, hG.set3 hR (by decide) _ _ _, set3_heap _ _ _ hR, (set3_far _ _ _ _ _ D (by omega)).trans hD, set3_below (HP.below.trans hk'.below) HP.sp.n_le _ _ _⟩
set_option maxRecDepth 100000 in
set_option maxHeartbeats 8000000 in
theorem spacePlay_any (m h : Int) (fa : Option Addr) (fl : List Int) (fc : Nat) (aa : Option Addr) (L : List (Int × Int)) (ac : Nat) (hf : fl.length ≤ 9223372036854775807) (hL : L.length ≤ 9223372036854775807) (w : World) (hI : IntsAt w.heap.size w fa fl) (hA : ActsAt w.heap.size w aa L) :
    Calls Try.prog 3 #[.agg #[.int .i64 m, .int .i64 h], .slice fa fl.length fc, .slice aa L.length ac] w fun e w' => KnPost w e w' := by
  have HK := Lib.hid known_any
  have hb0 : Below w.heap.size w (w.alloc (.cells #[.int .i64 m, .int .i64 h] 22)) := (Below.refl _ w).alloc (Nat.le_refl _) _
  have HB0 := Lib.hid hb0
  by_cases h1 : (60 : Int) < L.length
  · clear hb0
    go_enter Try.func3, Try.ntmps3
    go_wp2_with (go_at_call 9; refine (HK.out _).mono ?_; rintro e w' ⟨rfl, hb⟩)
    go_ret
    exact ⟨rfl, HB0.out.trans (hb.mono HB0.out.size)⟩
  by_cases h2 : (60 : Int) < fl.length
  · clear hb0
    go_enter Try.func3, Try.ntmps3
    go_wp2_with (go_at_call 9; refine (HK.out _).mono ?_; rintro e w' ⟨rfl, hb⟩)
    go_ret
    exact ⟨rfl, HB0.out.trans (hb.mono HB0.out.size)⟩
  by_cases h3 : 60 < m ∧ m ≤ 4096
  · obtain ⟨h3, h4⟩ := h3
    clear hb0
    go_enter Try.func3, Try.ntmps3
    go_wp2_with (go_at_call 9; refine (HK.out _).mono ?_; rintro e w' ⟨rfl, hb⟩)
    go_ret
    exact ⟨rfl, HB0.out.trans (hb.mono HB0.out.size)⟩
  obtain ⟨w0, hw0⟩ : ∃ w0, w.alloc (.cells #[.int .i64 m, .int .i64 h] 22) = w0 := ⟨_, rfl⟩
  have HW0 := Lib.hid hw0
  rw [hw0] at hb0 HB0
  have hI0 : IntsAt w0.heap.size w0 fa fl := fun hl => by
    obtain ⟨b, off, e, hlt, hc⟩ := IntsAt.below hb0 hI hl
    exact ⟨b, off, e, Nat.lt_of_lt_of_le hlt hb0.size, hc⟩
  have hrow0 : w0.heap[w.heap.size]? = some (.cells #[.int .i64 m, .int .i64 h] 22 (0, 0)) := by rw [← hw0]; exact (MapKept.heap_alloc w _).1
  have HX := Lib.hid hrow0
  have HI0 := Lib.hid hI0
  obtain ⟨N, hN⟩ : ∃ N, w.heap.size = N := ⟨_, rfl⟩
  have HN := Lib.hid hN
  have HA := Lib.hid hA
  by_cases hok : ¬ NewOk m h fl
  · have HO := Lib.hid hok
    have HNew := Lib.hid (new_any m h fa fl fc hf w0 hI0)
    clear hok hA hI hI0 hb0 hw0 hN hrow0
    by_cases h5 : m ≤ 60
    · go_enter Try.func3, Try.ntmps3
      go_wp2_with (first
        | (go_at_call 10; rw [HW0.out]; refine HNew.out.mono ?_; rintro e w1 ⟨hb1, hp⟩; replace hp := hp.resolve_left (fun q => HO.out q.1); obtain ⟨-, rfl⟩ := hp; have hr1 := (hb1.block _ (Array.getElem?_eq_some_iff.1 HX.out).1).trans HX.out; have x0 := cell_of_row w1 w.heap.size 0 _ _ _ hr1; have x1 := cell_of_row w1 w.heap.size 1 _ _ _ hr1; simp only [List.getElem?_toArray, List.getElem?_cons_zero, List.getElem?_cons_succ] at x0 x1; have HB1 := Lib.hid hb1; clear hb1 hr1)
        | (go_at_call 11; refine (gnew_any m h fa fl fc hf w1 (fun hl => by obtain ⟨b, off, e, hlt, hc⟩ := IntsAt.below HB1.out HI0.out hl; exact ⟨b, off, e, Nat.lt_of_lt_of_le hlt HB1.out.size, hc⟩)).mono ?_; rintro e w2 hp; replace hp := hp.resolve_left (fun q => HO.out q.1); obtain ⟨-, b1, y1, d1, b2, y2, d2, rfl, hb2⟩ := hp; have HB2 := Lib.hid hb2; clear hb2; unfold gval)
        | (go_at_call 9; refine (HK.out _).mono ?_; rintro e w3 ⟨rfl, hb3⟩))
      go_ret
      have s1 := HB0.out.size
      have s2 := HB1.out.size
      have s3 := HB2.out.size
      exact ⟨rfl, (((HB0.out.trans (HB1.out.mono s1)).trans (HB2.out.mono (by omega))).alloc (by omega) _).trans (hb3.mono (by simp; omega))⟩
    · have h6 : ¬ m ≤ 4096 := fun q => h3 ⟨by omega, q⟩
      clear h3
      go_enter Try.func3, Try.ntmps3
      go_wp2_with (first
        | (go_at_call 10; rw [HW0.out]; refine HNew.out.mono ?_; rintro e w1 ⟨hb1, hp⟩; replace hp := hp.resolve_left (fun q => HO.out q.1); obtain ⟨-, rfl⟩ := hp; have hr1 := (hb1.block _ (Array.getElem?_eq_some_iff.1 HX.out).1).trans HX.out; have x0 := cell_of_row w1 w.heap.size 0 _ _ _ hr1; have x1 := cell_of_row w1 w.heap.size 1 _ _ _ hr1; simp only [List.getElem?_toArray, List.getElem?_cons_zero, List.getElem?_cons_succ] at x0 x1; have HB1 := Lib.hid hb1; clear hb1 hr1)
        | (go_at_call 11; refine (gnew_any m h fa fl fc hf w1 (fun hl => by obtain ⟨b, off, e, hlt, hc⟩ := IntsAt.below HB1.out HI0.out hl; exact ⟨b, off, e, Nat.lt_of_lt_of_le hlt HB1.out.size, hc⟩)).mono ?_; rintro e w2 hp; replace hp := hp.resolve_left (fun q => HO.out q.1); obtain ⟨-, b1, y1, d1, b2, y2, d2, rfl, hb2⟩ := hp; have HB2 := Lib.hid hb2; clear hb2; unfold gval)
        | (go_at_call 9; refine (HK.out _).mono ?_; rintro e w3 ⟨rfl, hb3⟩))
      go_ret
      have s1 := HB0.out.size
      have s2 := HB1.out.size
      have s3 := HB2.out.size
      exact ⟨rfl, (((HB0.out.trans (HB1.out.mono s1)).trans (HB2.out.mono (by omega))).alloc (by omega) _).trans (hb3.mono (by simp; omega))⟩
  replace hok := Classical.not_not.1 hok
  have hm60 : m ≤ 60 := by
    have := hok.2.1
    by_cases q : m ≤ 60
    · exact q
    · exact absurd ⟨by omega, this⟩ h3
  have HNew := Lib.hid (new_own m h fa fl fc hf w0 hI0 hok)
  have HO := Lib.hid hok
  have hAgr : Agr (Spc.new m.toNat h.toNat fl) (GSp.new m h fl) := by
    have := @agr_new m.toNat h.toNat fl
    rwa [Int.toNat_of_nonneg (by have := hok.1; omega), Int.toNat_of_nonneg (by have := hok.2.2.1; omega)] at this
  have HAg := Lib.hid hAgr
  clear hAgr
  clear hok hA hI hI0 hb0 hw0 hN hrow0 h3
  go_enter Try.func3, Try.ntmps3
  go_wp2_with (first
    | (go_at_call 10; rw [HW0.out]; refine HNew.out.mono ?_; rintro e w1 ⟨B, rfl, hS1, hb1⟩; have hr1 := (hb1.block _ (Array.getElem?_eq_some_iff.1 HX.out).1).trans HX.out; have x0 := cell_of_row w1 w.heap.size 0 _ _ _ hr1; have x1 := cell_of_row w1 w.heap.size 1 _ _ _ hr1; simp only [List.getElem?_toArray, List.getElem?_cons_zero, List.getElem?_cons_succ] at x0 x1; have HB1 := Lib.hid hb1; have HS1 := Lib.hid hS1; clear hb1 hr1 hS1)
    | (go_at_call 11; refine (gnew_any m h fa fl fc hf w1 (fun hl => by obtain ⟨b, off, e, hlt, hc⟩ := IntsAt.below HB1.out HI0.out hl; exact ⟨b, off, e, Nat.lt_of_lt_of_le hlt HB1.out.size, hc⟩)).mono ?_; rintro e w2 hp; replace hp := hp.resolve_right (fun q => q.1 HO.out); obtain ⟨-, v, rfl, b1, d1, b2, d2, rfl, hG2, hb2⟩ := hp; have HB2 := Lib.hid hb2; have HG2 := Lib.hid hG2; clear hb2 hG2; unfold gval))
  rw [HN.out]
  obtain ⟨W4, hW4⟩ : ∃ W4, w2.alloc (.cells #[.int .i64 (GSp.new m h fl).most, .slice b1 (GSp.new m h fl).now.length d1, .slice b2 (GSp.new m h fl).last.length d2] 32) = W4 := ⟨_, rfl⟩
  obtain ⟨D, hD⟩ : ∃ D, w2.heap.size = D := ⟨_, rfl⟩
  rw [hW4, hD]
  have hb4 : Below w2.heap.size w2 W4 := by rw [← hW4]; exact (Below.refl _ w2).alloc (Nat.le_refl _) _
  have hr4 : W4.heap[D]? = some (.cells #[.int .i64 (GSp.new m h fl).most, .slice b1 (GSp.new m h fl).now.length d1, .slice b2 (GSp.new m h fl).last.length d2] 32 (0, 0)) := by rw [← hW4, ← hD]; exact (MapKept.heap_alloc w2 _).1
  have z1 := HB0.out.size
  have z2 := HB1.out.size
  have z3 := HB2.out.size
  have HP4 : Hid (PlayAt N w W4 B D (Spc.new m.toNat h.toNat fl) (GSp.new m h fl) b1 d1 b2 d2) := Lib.hid ⟨(((HS1.out.mono (by rw [HN.out] at z1; exact z1)).below HB2.out).below hb4), HAg.out, HG2.out.below hb4, hr4, by rw [← HN.out]; exact ((HB0.out.trans (HB1.out.mono z1)).trans (HB2.out.mono (by omega))).trans (hb4.mono (by omega))⟩
  have HND : Hid (N ≤ D) := Lib.hid (by rw [← hD]; have := HN.out; omega)
  generalize GSp.new m h fl = g0 at HP4 ⊢
  generalize Spc.new m.toNat h.toNat fl = s0 at HP4
  clear hW4 hD hb4 hr4 z1 z2 z3 HS1 HG2 HAg x0 x1 HB1 HB2 HX HW0 HI0 HNew
  go_loopw [11, 12, 13, 62, 63, 64, 65, 66, 67, 68, 69, 70, 71, 72, 73, 74, 75, 76, 77, 78, 79, 80, 81, 82, 83, 84, 85, 86] (fun x _ _ _ _ _ _ _ _ _ _ _ _ _ _ _ _ _ _ _ _ _ _ _ _ _ _ _ wr => ∃ (k : Nat) (s : Spc) (g : GSp) (a1 : Option Addr) (c1 : Nat) (a2 : Option Addr) (c2 : Nat), x = .int .i64 k ∧ k ≤ L.length ∧ Hid (PlayAt N w wr B D s g a1 c1 a2 c2))
    (fun x _ _ _ _ _ _ _ _ _ _ _ _ _ _ _ _ _ _ _ _ _ _ _ _ _ _ _ _ => L.length - (intOf x).toNat)
  case atStart => exact ⟨0, s0, g0, b1, d1, b2, d2, rfl, Nat.zero_le _, HP4⟩
  case round =>
    obtain ⟨k, s, g, a1, c1, a2, c2, rfl, hk, HP⟩ := hrel
    obtain ⟨k0, k1, k2⟩ := set3_row HP.out.row
    by_cases hlt : k < L.length
    · obtain ⟨b, off, rfl, hb, hc⟩ := HA.out (by rintro rfl; simp at hlt)
      rw [HN.out] at hb
      obtain ⟨hc1, hc2⟩ := hc k hlt
      replace hc1 := (HP.out.below.cell (p := ⟨b, off + k * 2, none⟩) hb).trans hc1
      replace hc2 := (HP.out.below.cell (p := ⟨b, off + k * 2 + 1, none⟩) hb).trans hc2
      generalize (L[k]?.getD (0, 0)).1 = kd at hc1
      generalize (L[k]?.getD (0, 0)).2 = pg at hc2
      clear hc
      have hstep := HP.out.agr.step HP.out.sp.ok kd pg
      have HPd : IsSp N wr.drew B s := by obtain ⟨x, y, hx, hy⟩ := HP.out.sp; exact ⟨x, y, hx.drew, hy⟩
      have HGd : IsG wr.drew a1 c1 a2 c2 g := ⟨HP.out.isg.now_, HP.out.isg.last_, HP.out.isg.no1, HP.out.isg.no2, HP.out.isg.le1, HP.out.isg.le2, HP.out.isg.few1, HP.out.isg.few2⟩
      have hz : Below wr.heap.size wr (wr.alloc (.cells #[.int .i64 0, .slice none 0 0, .slice none 0 0] 32)) := (Below.refl _ _).alloc (Nat.le_refl _) _
      have hdz := (Below.block hz D (Array.getElem?_eq_some_iff.1 HP.out.row).1).trans HP.out.row
      obtain ⟨kz0, kz1, kz2⟩ := set3_row hdz
      have hNw : N ≤ wr.heap.size := HP.out.sp.n_le
      have hcz1 := (hz.cell (p := ⟨b, off + k * 2, none⟩) (by show b < wr.heap.size; omega)).trans hc1
      have hcz2 := (hz.cell (p := ⟨b, off + k * 2 + 1, none⟩) (by show b < wr.heap.size; omega)).trans hc2
      have HPz : IsSp N (wr.alloc (.cells #[.int .i64 0, .slice none 0 0, .slice none 0 0] 32)).drew B s := by obtain ⟨x, y, hx, hy⟩ := HP.out.sp.below hz; exact ⟨x, y, hx.drew, hy⟩
      have HGy := HP.out.isg.below hz
      have HGz : IsG (wr.alloc (.cells #[.int .i64 0, .slice none 0 0, .slice none 0 0] 32)).drew a1 c1 a2 c2 g := ⟨HGy.now_, HGy.last_, HGy.no1, HGy.no2, HGy.le1, HGy.le2, HGy.few1, HGy.few2⟩
      have HC1 := does_any HPd g a1 a2 c1 c2 HGd (HP.out.agr.small HP.out.sp.ok) kd pg
      have HC2 := does_any HPz g a1 a2 c1 c2 HGz (HP.out.agr.small HP.out.sp.ok) kd pg
      rw [hstep.2] at HC1 HC2
      have HC1 := Lib.hid HC1
      have HC2 := Lib.hid HC2
      have HT := Lib.hid hstep.1
      clear hstep HPd HGd hz HPz HGy HGz hdz hNw
      generalize stepS s kd pg = s' at HC1 HC2 HT
      generalize stepG g kd pg = g' at HC1 HC2 HT
      unfold gval at HC1 HC2
      go_wp2
      go_region_with (go_at_call 12; first | (refine HC1.out.mono ?_; rintro e w5 ⟨e1, y1, e2, y2, rfl, hG5, hS5, hk5⟩; have HE := Lib.hid (And.intro hG5 (And.intro hS5 hk5)); clear hG5 hS5 hk5; unfold gval) | (refine HC2.out.mono ?_; rintro e w5 ⟨e1, y1, e2, y2, rfl, hG5, hS5, hk5⟩; have hrR := hk5.cells wr.heap.size _ _ _ ((MapKept.heap_alloc wr (.cells #[.int .i64 0, .slice none 0 0, .slice none 0 0] 32)).1) (by decide); obtain ⟨t0, t1, t2⟩ := set3_row hrR; obtain ⟨v0, v1, v2⟩ := set3_open hrR; have HR := Lib.hid hrR; have HE := Lib.hid (And.intro hG5 (And.intro hS5 hk5)); clear hG5 hS5 hk5 hrR; unfold gval))
      all_goals first
        | (have HX := Lib.hid (nextB HP.out HE.out.1 HE.out.2.1 HE.out.2.2 HR.out); clear t0 t1 t2 v0 v1 v2 HR HE; generalize (((w5.setCell ⟨wr.heap.size, 0, none⟩ (.int .i64 g'.most)).setCell ⟨wr.heap.size, 1, none⟩ (.slice e1 g'.now.length y1)).setCell ⟨wr.heap.size, 2, none⟩ (.slice e2 g'.last.length y2)) = W6 at HX ⊢; generalize wr.heap.size = R at HX ⊢)
        | (have HX := Lib.hid (nextA HP.out HE.out.1 HE.out.2.1 HE.out.2.2); clear HE; generalize (w5.alloc (.cells #[.int .i64 g'.most, .slice e1 g'.now.length y1, .slice e2 g'.last.length y2] 32)) = W6 at HX ⊢; generalize w5.heap.size = R at HX ⊢)
      all_goals
        clear HC1 HC2 kz0 kz1 kz2 hcz1 hcz2 hc1 hc2 k0 k1 k2
        obtain ⟨p0, p1, p2⟩ := set3_row HX.out.rowR
        go_wp2_with (go_at_call 13; refine (lawsame_any HX.out.sp g' e1 e2 y1 y2 HX.out.isg HT.out).mono ?_; rintro e w7 ⟨rfl, hb7⟩; have hR7 := (hb7.block R (Array.getElem?_eq_some_iff.1 HX.out.rowR).1).trans HX.out.rowR; have hD7 := (hb7.block D (Array.getElem?_eq_some_iff.1 HX.out.rowD).1).trans HX.out.rowD; clear p0 p1 p2; obtain ⟨p0, p1, p2⟩ := set3_row hR7; obtain ⟨d0, d1, d2⟩ := set3_row hD7; obtain ⟨f0, f1, f2⟩ := set3_open hD7; have H7 := Lib.hid (And.intro hb7 hD7); clear hb7 hR7 hD7)
        have q1 := (HX.out.sp.below H7.out.1).set3 H7.out.2 (by decide) (.int .i64 g'.most) (.slice e1 g'.now.length y1) (.slice e2 g'.last.length y2)
        have q2 := (HX.out.isg.below H7.out.1).set3 H7.out.2 (by decide) (.int .i64 g'.most) (.slice e1 g'.now.length y1) (.slice e2 g'.last.length y2)
        have q3 := set3_heap (.int .i64 g'.most) (.slice e1 g'.now.length y1) (.slice e2 g'.last.length y2) H7.out.2
        have q4 := set3_below (HX.out.below.trans (H7.out.1.mono HX.out.sp.n_le)) HND.out (.int .i64 g'.most) (.slice e1 g'.now.length y1) (.slice e2 g'.last.length y2)
        refine ⟨⟨k + 1, s', g', e1, y1, e2, y2, by go_num, by omega, Lib.hid ⟨q1, HT.out, q2, q3, q4⟩⟩, by simp [intOf]; omega⟩
    · obtain rfl : k = L.length := by omega
      go_wp2_with (first
        | (go_at_call 13; refine (lawsame_any HP.out.sp g a1 a2 c1 c2 HP.out.isg HP.out.agr).mono ?_; rintro e w6 ⟨rfl, hb6⟩; have HB6 := Lib.hid hb6; clear hb6)
        | (go_at_call 9; refine (HK.out _).mono ?_; rintro e w8 ⟨rfl, hb8⟩))
      go_ret
      have y1 := HP.out.sp.n_le
      have y2 := HB6.out.size
      exact ⟨rfl, by rw [HN.out]; exact (HP.out.below.trans (HB6.out.mono y1)).trans (hb8.mono (by omega))⟩
end Go.Proofs.Ytmmbmmiedfdmeaa

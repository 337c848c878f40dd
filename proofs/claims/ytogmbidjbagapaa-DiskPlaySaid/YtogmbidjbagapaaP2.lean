/- Texts of the proof in one file, in build order: DiskPlay, DiskPlaySaid. -/
import Derived.Test.YtogmbidjbagapaaP1
import Derived.Test.YtogmbidjbagapaaDskKnown
import Derived.Test.YtogmbidjbagapaaDskRead
import Derived.Test.YtogmbidjbagapaaDskCrash
import Derived.Test.YtogmbidjbagapaaRows
import Derived.ProofKit
import Derived.OpenShut
import Derived.ChangeMaps5
import Derived.Deep.DeepHandedRow
import Derived.Test.YtogmbidjbagapaaKit
import Derived.Deep.Slices
import Derived.ChangeSame
import Derived.ChangeArms
import Derived.WideShapes
/- Layer 2: the law: what stands, what waits, what is refused, behind any calls; what a crash leaves. -/
namespace Go.Proofs.Ytogmbidjbagapaa
open Go.RowKit

def gCells (la : Option Addr) (lc : Nat) (wa : Option Addr) (wc : Nat) (g : GD) : Array Value := #[.slice la g.lasts.length lc, .slice wa g.waits.length wc, .int .i64 g.k, .int .i64 g.l, .bool g.b, .int .i64 g.s]
/-- The two disks tell the same; the document's lies in the law's own variable. -/
structure PlayD (N : Nat) (w wr : World) (B D m n : Nat) (d : Dsk) (g : GD) (la : Option Addr) (lc : Nat) (wa : Option Addr) (wc : Nat) : Prop where
  disk : IsDisk N wr B d
  isg : IsG wr.heap.size wr la lc wa wc g
  agr : Agree d g
  few : d.Few m
  room : d.room = n
  row : wr.heap[D]? = some (.cells (gCells la lc wa wc g) 32 (0, 0))
  below : Below N w wr
/-- Behind a call, ahead of the question whether they tell the same. -/
structure NextD (N : Nat) (w W : World) (B D R : Nat) (d' : Dsk) (x : Array Value) (g' : GD) (la : Option Addr) (lc : Nat) (wa : Option Addr) (wc : Nat) : Prop where
  disk : IsDisk N W B d'
  isg : IsG W.heap.size W la lc wa wc g'
  rowR : W.heap[R]? = some (.cells (gCells la lc wa wc g') 32 (0, 0))
  rowD : W.heap[D]? = some (.cells x 32 (0, 0))
  below : Below N w W
theorem nextA {N : Nat} {w wr w5 : World} {B D m n : Nat} {d d' : Dsk} {g g' : GD} {la wa e1 e2 : Option Addr} {lc wc y1 y2 : Nat} (HP : PlayD N w wr B D m n d g la lc wa wc) (hG : IsG w5.heap.size w5 e1 y1 e2 y2 g') (hS : IsDisk N w5 B d') (hk : Keeps N wr.drew w5) :
    NextD N w (w5.alloc (.cells (gCells e1 y1 e2 y2 g') 32)) B D w5.heap.size d' (gCells la lc wa wc g) g' e1 y1 e2 y2 := by
  have hb : Below w5.heap.size w5 (w5.alloc (.cells (gCells e1 y1 e2 y2 g') 32)) := (Below.refl _ _).alloc (Nat.le_refl _) _
  have hk' : Keeps N wr w5 := (Keeps.of_below ((Below.refl _ wr).drew) HP.disk.n_le).trans hk
  have hD := hk'.cells D _ _ _ HP.row (by decide) (by decide)
  exact ⟨hS.below hb, (hG.below hb).mono hb.size, heap_alloc_new w5 _, (hb.block D (Array.getElem?_eq_some_iff.1 hD).1).trans hD, (HP.below.trans hk'.below).trans (hb.mono hS.n_le)⟩
theorem nextB {N : Nat} {w wr w5 : World} {B D m n : Nat} {d d' : Dsk} {g g' : GD} {la wa e1 e2 : Option Addr} {lc wc y1 y2 : Nat} {u0 u1 u2 u3 u4 u5 : Value} {Z : Obj} (HP : PlayD N w wr B D m n d g la lc wa wc) (hG : IsG w5.heap.size w5 e1 y1 e2 y2 g') (hS : IsDisk N w5 B d') (hk : Keeps N (wr.alloc Z).drew w5)
    (hR : w5.heap[wr.heap.size]? = some (.cells #[u0, u1, u2, u3, u4, u5] 32 (0, 0))) :
    NextD N w ((((((w5.setCell ⟨wr.heap.size, 0, none⟩ (.slice e1 g'.lasts.length y1)).setCell ⟨wr.heap.size, 1, none⟩ (.slice e2 g'.waits.length y2)).setCell ⟨wr.heap.size, 2, none⟩ (.int .i64 g'.k)).setCell ⟨wr.heap.size, 3, none⟩ (.int .i64 g'.l)).setCell ⟨wr.heap.size, 4, none⟩ (.bool g'.b)).setCell ⟨wr.heap.size, 5, none⟩ (.int .i64 g'.s)) B D wr.heap.size d' (gCells la lc wa wc g) g' e1 y1 e2 y2 := by
  have hn := HP.disk.n_le
  have hk1 : Keeps N (wr.alloc Z) w5 := (Keeps.of_below ((Below.refl _ (wr.alloc Z)).drew) (by simp; omega)).trans hk
  have hk' : Keeps N wr w5 := (Keeps.of_below ((Below.refl _ _).alloc (Nat.le_refl _) Z) hn).trans hk1
  have hD := hk'.cells D _ _ _ HP.row (by decide) (by decide)
  have hlt := (Array.getElem?_eq_some_iff.1 HP.row).1
  have hg := set6_grown w5 wr.heap.size (.slice e1 g'.lasts.length y1) (.slice e2 g'.waits.length y2) (.int .i64 g'.k) (.int .i64 g'.l) (.bool g'.b) (.int .i64 g'.s)
  have hb5 := HP.below.trans hk'.below
  exact ⟨hS.besides hg hR (by decide) (by decide), (hG.besides hg hR).mono hg.size, set6_heap _ _ _ _ _ _ hR, (hg.block D (Array.getElem?_eq_some_iff.1 hD).1 (by simp; omega)).trans hD, hb5.grown hg hS.n_le (fun q e => by cases e; exact hn)⟩
theorem row6 {w : World} {D : Nat} {x0 x1 x2 x3 x4 x5 : Value} {t : TypeId} {fr : Nat × Nat} (h : w.heap[D]? = some (.cells #[x0, x1, x2, x3, x4, x5] t fr)) : w.cell? ⟨D, 0, none⟩ = some x0 ∧ w.cell? ⟨D, 1, none⟩ = some x1 ∧ w.cell? ⟨D, 2, none⟩ = some x2 ∧ w.cell? ⟨D, 3, none⟩ = some x3 ∧ w.cell? ⟨D, 4, none⟩ = some x4 ∧ w.cell? ⟨D, 5, none⟩ = some x5 :=
  ⟨cell_of_row w D 0 _ _ _ h, cell_of_row w D 1 _ _ _ h, cell_of_row w D 2 _ _ _ h, cell_of_row w D 3 _ _ _ h, cell_of_row w D 4 _ _ _ h, cell_of_row w D 5 _ _ _ h⟩
theorem open6 {w : World} {D : Nat} {x0 x1 x2 x3 x4 x5 : Value} {t : TypeId} (h : w.heap[D]? = some (.cells #[x0, x1, x2, x3, x4, x5] t (0, 0))) : w.frozen? ⟨D, 0, none⟩ = false ∧ w.frozen? ⟨D, 1, none⟩ = false ∧ w.frozen? ⟨D, 2, none⟩ = false ∧ w.frozen? ⟨D, 3, none⟩ = false ∧ w.frozen? ⟨D, 4, none⟩ = false ∧ w.frozen? ⟨D, 5, none⟩ = false :=
  ⟨frozen_of_row w D 0 _ _ h, frozen_of_row w D 1 _ _ h, frozen_of_row w D 2 _ _ h, frozen_of_row w D 3 _ _ h, frozen_of_row w D 4 _ _ h, frozen_of_row w D 5 _ _ h⟩
theorem row6g {w : World} {D : Nat} {la wa : Option Addr} {lc wc : Nat} {g : GD} {t : TypeId} {fr : Nat × Nat} (h : w.heap[D]? = some (.cells (gCells la lc wa wc g) t fr)) : w.cell? ⟨D, 0, none⟩ = some (.slice la g.lasts.length lc) ∧ w.cell? ⟨D, 1, none⟩ = some (.slice wa g.waits.length wc) ∧ w.cell? ⟨D, 2, none⟩ = some (.int .i64 g.k) ∧ w.cell? ⟨D, 3, none⟩ = some (.int .i64 g.l) ∧ w.cell? ⟨D, 4, none⟩ = some (.bool g.b) ∧ w.cell? ⟨D, 5, none⟩ = some (.int .i64 g.s) := row6 h
theorem stepD_room {d : Dsk} (ok : d.Ok) (a : ActD) : (stepD d a).1.room = d.room := by
  have hs : d.step.1.lasts.length = d.lasts.length := by rw [ok.step.2.1]
  unfold stepD
  split
  · show ((d.write a.p (actL a.p a.x)).1).lasts.length = d.lasts.length
    unfold Dsk.write
    split
    · rfl
    · split
      · rfl
      · split <;> exact hs
  · split
    · show (d.flush.1).lasts.length = d.lasts.length
      unfold Dsk.flush
      split
      · simp [applied]
      · exact hs
    · split
      · show ((d.arm a.r a.p).1).lasts.length = d.lasts.length
        unfold Dsk.arm
        split
        · rfl
        · split
          · rfl
          · split <;> rfl
      · rfl
theorem PickV.mono {w : World} {n₁ n₂ : Nat} {sv : Value} {l : List Int} (h : PickV w n₁ sv l) (hn : n₁ ≤ n₂) : PickV w n₂ sv l := by
  obtain ⟨a, cap, h1, h2, h3⟩ := h
  refine ⟨a, cap, h1, h2, fun hl => ?_⟩
  obtain ⟨b, o, e, hlt, hc⟩ := h3 hl
  exact ⟨b, o, e, Nat.lt_of_lt_of_le hlt hn, hc⟩
theorem gcrash_lett {w : World} {la wa : Option Addr} {lc wcp : Nat} {g : GD} {d : Dsk} (hG : IsG w.heap.size w la lc wa wcp g) (hA : Agree d g) (ok : d.Ok) (hwn : d.waits.length ≤ 1000) (sv : Value) (picks : List Int) (hp : PickV w w.heap.size sv picks) (hpl : picks.length ≤ 1000000) (gc : GD) (hgc : GD.crash d picks = gc) :
    Calls Try.prog 14 #[gv la lc wa wcp g, sv] w fun e w' => ∃ la' lc', e = .returned (gv la' lc' none 0 gc) ∧ IsG w'.heap.size w' la' lc' none 0 gc ∧ Below w.heap.size w w' := by
  subst hgc
  exact gcrash_any hG hA ok hwn sv picks hp hpl
theorem agree_new (n : Nat) : Agree (Dsk.new n) ⟨List.replicate n nought, [], 0, 0, false, 0⟩ := ⟨by simp [Dsk.new, nought, pgStr], rfl, rfl, fun h => absurd rfl h, rfl, rfl⟩
set_option maxRecDepth 100000 in
set_option maxHeartbeats 8000000 in
theorem diskPlay_any (n : Int) (aa : Option Addr) (L : List ActD) (ac : Nat) (sv : Value) (picks : List Int) (w : World) (hL : L.length ≤ 9223372036854775807) (hp : PickV w w.heap.size sv picks) (hA : ActsAt w.heap.size w aa L) (hpl : picks.length ≤ 9223372036854775807) :
    Calls Try.prog 3 #[.int .i64 n, .slice aa L.length ac, sv] w fun e w' => e = .returned (.bool true) ∧ Below w.heap.size w w' := by
  have HK := Lib.hid known_any
  have HPV := Lib.hid hp
  have HA := Lib.hid hA
  obtain ⟨pa, pc, rfl, hpc, hpcs⟩ := hp
  clear hpc hpcs hA
  by_cases h1 : (40 : Int) < L.length
  · go_enter Try.func3, Try.ntmps3
    go_wp2_with (go_at_call 7; refine (HK.out _).mono ?_; rintro e w' ⟨rfl, hb⟩)
    go_ret
    exact ⟨rfl, hb⟩
  by_cases h2 : (60 : Int) < picks.length
  · go_enter Try.func3, Try.ntmps3
    go_wp2_with (go_at_call 7; refine (HK.out _).mono ?_; rintro e w' ⟨rfl, hb⟩)
    go_ret
    exact ⟨rfl, hb⟩
  by_cases h3 : 20 < n ∧ n ≤ 4096
  · obtain ⟨h3, h4⟩ := h3
    go_enter Try.func3, Try.ntmps3
    go_wp2_with (go_at_call 7; refine (HK.out _).mono ?_; rintro e w' ⟨rfl, hb⟩)
    go_ret
    exact ⟨rfl, hb⟩
  by_cases hok : n < 2 ∨ 4096 < n
  · have HNo := Lib.hid hok
    clear hok
    by_cases h5 : n ≤ 20
    · go_enter Try.func3, Try.ntmps3
      go_wp2_with (first
        | (go_at_call 8; refine (new_no n HNo.out w).mono ?_; rintro e w1 ⟨rfl, rfl⟩)
        | (go_at_call 9; refine (gnew_no n HNo.out w).mono ?_; rintro e w2 ⟨rfl, hb2⟩; unfold rv)
        | (go_at_call 7; refine (HK.out _).mono ?_; rintro e w3 ⟨rfl, hb3⟩))
      go_ret
      exact ⟨rfl, (hb2.alloc hb2.size _).trans (hb3.mono (by have := hb2.size; simp; omega))⟩
    · have h6 : ¬ n ≤ 4096 := fun q => h3 ⟨by omega, q⟩
      clear h3
      go_enter Try.func3, Try.ntmps3
      go_wp2_with (first
        | (go_at_call 8; refine (new_no n HNo.out w).mono ?_; rintro e w1 ⟨rfl, rfl⟩)
        | (go_at_call 9; refine (gnew_no n HNo.out w).mono ?_; rintro e w2 ⟨rfl, hb2⟩; unfold rv)
        | (go_at_call 7; refine (HK.out _).mono ?_; rintro e w3 ⟨rfl, hb3⟩))
      go_ret
      exact ⟨rfl, (hb2.alloc hb2.size _).trans (hb3.mono (by have := hb2.size; simp; omega))⟩
  have hn2 : 2 ≤ n ∧ n ≤ 20 := by omega
  obtain ⟨m, rfl⟩ : ∃ m : Nat, n = m := ⟨n.toNat, by omega⟩
  have hm2 : 2 ≤ m := by omega
  have hm20 : m ≤ 20 := by omega
  have HM := Lib.hid (And.intro hm2 hm20)
  clear hok hn2
  go_enter Try.func3, Try.ntmps3
  go_wp2_with (first
    | (go_at_call 8; refine (new_yes m HM.out.1 (by have := HM.out.2; omega) w).mono ?_; rintro e w1 ⟨B, rfl, hD1, hb1⟩; have HD1 := Lib.hid (And.intro hD1 hb1); clear hD1 hb1)
    | (go_at_call 9; refine (gnew_yes m HM.out.1 (by have := HM.out.2; omega) w1).mono ?_; rintro e w2 ⟨la, lc, rfl, hG2, hb2⟩; have HG2 := Lib.hid (And.intro hG2 hb2); clear hG2 hb2; unfold gv rv))
  obtain ⟨W4, hW4⟩ : ∃ W4, w2.alloc (.cells #[.slice la m lc, .slice none 0 0, .int .i64 0, .int .i64 0, .bool false, .int .i64 0] 32) = W4 := ⟨_, rfl⟩
  obtain ⟨D, hD⟩ : ∃ D, w2.heap.size = D := ⟨_, rfl⟩
  rw [hW4, hD]
  have hb4 : Below w2.heap.size w2 W4 := by rw [← hW4]; exact (Below.refl _ w2).alloc (Nat.le_refl _) _
  have hr4 : W4.heap[D]? = some (.cells #[.slice la m lc, .slice none 0 0, .int .i64 0, .int .i64 0, .bool false, .int .i64 0] 32 (0, 0)) := by rw [← hW4, ← hD]; exact heap_alloc_new w2 _
  have z2 := HD1.out.2.size
  have z3 := HG2.out.2.size
  have HP4 : Hid (PlayD w.heap.size w W4 B D 0 m (Dsk.new m) ⟨List.replicate m nought, [], 0, 0, false, 0⟩ la lc none 0) := Lib.hid ⟨(HD1.out.1.below HG2.out.2).below hb4, (HG2.out.1.below hb4).mono hb4.size, agree_new m, Dsk.Few.new m, by show (List.replicate m noughts).length = m; simp, by rw [hr4]; unfold gCells; simp, (HD1.out.2.trans (HG2.out.2.mono z2)).trans (hb4.mono (by omega))⟩
  have HND : Hid (w.heap.size ≤ D) := Lib.hid (by omega)
  generalize (⟨List.replicate m nought, [], 0, 0, false, 0⟩ : GD) = g0 at HP4
  generalize Dsk.new m = d0 at HP4
  clear hW4 hD hb4 hr4 z2 z3 HG2 HD1 hm2 hm20 h3
  go_loopw [11, 12, 13, 56, 57, 58, 59, 60, 61, 62, 63, 64, 65, 66, 67, 68, 69, 70, 71, 72, 73, 74, 75, 76, 77, 78, 79, 80] (fun x _ _ _ _ _ _ _ _ _ _ _ _ _ _ _ _ _ _ _ _ _ _ _ _ _ _ _ wr => ∃ (k : Nat) (d : Dsk) (g : GD) (a1 : Option Addr) (c1 : Nat) (a2 : Option Addr) (c2 : Nat), x = .int .i64 k ∧ k ≤ L.length ∧ Hid (PlayD w.heap.size w wr B D k m d g a1 c1 a2 c2))
    (fun x _ _ _ _ _ _ _ _ _ _ _ _ _ _ _ _ _ _ _ _ _ _ _ _ _ _ _ _ => L.length - (intOf x).toNat)
  case atStart => exact ⟨0, d0, g0, la, lc, none, 0, rfl, Nat.zero_le _, HP4⟩
  case round =>
    clear HP4
    obtain ⟨k, d, g, a1, c1, a2, c2, rfl, hk, HP⟩ := hrel
    by_cases hlt : k < L.length
    · obtain ⟨k0, k1, k2, k3, k4, k5⟩ := row6g HP.out.row
      obtain ⟨b, off, rfl, hb, hc⟩ := HA.out (by rintro rfl; simp at hlt)
      obtain ⟨hca, hao⟩ := hc k hlt
      clear hc
      obtain ⟨a, ha⟩ : ∃ a, L.getD k default = a := ⟨_, rfl⟩
      rw [ha] at hca hao
      clear ha
      have hca := hca.below HP.out.below hb
      have hn := HP.out.disk.n_le
      have hz : Below wr.heap.size wr (wr.alloc (.cells #[.slice none 0 0, .slice none 0 0, .int .i64 0, .int .i64 0, .bool false, .int .i64 0] 32)) := (Below.refl _ _).alloc (Nat.le_refl _) _
      have hdz := (Below.block hz D (Array.getElem?_eq_some_iff.1 HP.out.row).1).trans HP.out.row
      obtain ⟨kz0, kz1, kz2, kz3, kz4, kz5⟩ := row6g hdz
      have hcz := hca.below hz (by omega)
      obtain ⟨hx0, hx1, hx2, hx3⟩ := hca
      obtain ⟨hy0, hy1, hy2, hy3⟩ := hcz
      have hfw : d.Few 1000000 := HP.out.few.mono (by omega)
      have hbd : Below wr.heap.size wr wr.drew := (Below.refl _ wr).drew
      have hbz : Below wr.heap.size wr (wr.alloc (.cells #[.slice none 0 0, .slice none 0 0, .int .i64 0, .int .i64 0, .bool false, .int .i64 0] 32)).drew := hz.drew
      have HC1 := does_act (HP.out.disk.below hbd) ((HP.out.isg.below hbd).mono hbd.size) HP.out.agr hfw a hao
      have HC2 := does_act (HP.out.disk.below hbz) ((HP.out.isg.below hbz).mono hbz.size) HP.out.agr hfw a hao
      have HC1 := Lib.hid HC1
      have HC2 := Lib.hid HC2
      have HT := Lib.hid (And.intro (HP.out.agr.act HP.out.disk.ok (by have := hfw.2; omega) a).1 (And.intro (HP.out.few.act HP.out.disk.ok a) ((stepD_room HP.out.disk.ok a).trans HP.out.room)))
      clear hz hdz hfw hbd hbz hn hao
      generalize (stepD d a).1 = d' at HC1 HC2 HT
      generalize (stepG g a).1 = g' at HC1 HC2 HT
      unfold gv rv ActD.v actV at HC1 HC2
      go_wp2
      go_region_with (go_at_call 10; first | (refine HC1.out.mono ?_; rintro e w5 ⟨e1, y1, e2, y2, rfl, hG5, hS5, hk5⟩; have HE := Lib.hid (And.intro hG5 (And.intro hS5 hk5)); clear hG5 hS5 hk5; unfold gv rv) | (refine HC2.out.mono ?_; rintro e w5 ⟨e1, y1, e2, y2, rfl, hG5, hS5, hk5⟩; have hrR := hk5.cells wr.heap.size _ _ _ (heap_alloc_new wr (.cells #[.slice none 0 0, .slice none 0 0, .int .i64 0, .int .i64 0, .bool false, .int .i64 0] 32)) (by decide) (by decide); obtain ⟨t0, t1, t2, t3, t4, t5⟩ := row6 hrR; obtain ⟨v0, v1, v2, v3, v4, v5⟩ := open6 hrR; have HR := Lib.hid hrR; have HE := Lib.hid (And.intro hG5 (And.intro hS5 hk5)); clear hG5 hS5 hk5 hrR; unfold gv rv))
      all_goals first
        | (have HX := Lib.hid (nextB HP.out HE.out.1 HE.out.2.1 HE.out.2.2 HR.out); clear t0 t1 t2 t3 t4 t5 v0 v1 v2 v3 v4 v5 HR HE; generalize ((((((w5.setCell ⟨wr.heap.size, 0, none⟩ (.slice e1 g'.lasts.length y1)).setCell ⟨wr.heap.size, 1, none⟩ (.slice e2 g'.waits.length y2)).setCell ⟨wr.heap.size, 2, none⟩ (.int .i64 g'.k)).setCell ⟨wr.heap.size, 3, none⟩ (.int .i64 g'.l)).setCell ⟨wr.heap.size, 4, none⟩ (.bool g'.b)).setCell ⟨wr.heap.size, 5, none⟩ (.int .i64 g'.s)) = W6 at HX ⊢; generalize wr.heap.size = R at HX ⊢)
        | (have HX := Lib.hid (nextA HP.out HE.out.1 HE.out.2.1 HE.out.2.2); clear HE; unfold gCells at HX; generalize (w5.alloc (.cells #[.slice e1 g'.lasts.length y1, .slice e2 g'.waits.length y2, .int .i64 g'.k, .int .i64 g'.l, .bool g'.b, .int .i64 g'.s] 32)) = W6 at HX ⊢; generalize w5.heap.size = R at HX ⊢)
      all_goals
        clear HC1 HC2 kz0 kz1 kz2 kz3 kz4 kz5 k0 k1 k2 k3 k4 k5 hx0 hx1 hx2 hx3 hy0 hy1 hy2 hy3
        have hwl : g'.waits.length ≤ 1000000 := by rw [HT.out.1.waits, List.length_map]; have := HT.out.2.1.1; omega
        have HS := Lib.hid (same_any HX.out.disk HX.out.isg HT.out.1 hwl)
        clear hwl
        unfold gv rv at HS
        have hr6 := HX.out.rowR
        obtain ⟨p0, p1, p2, p3, p4, p5⟩ := row6g hr6
        clear hr6
        go_wp2_with (go_at_call 11; refine HS.out.mono ?_; rintro e w7 ⟨rfl, hb7⟩; have hR7 := (hb7.block R (Array.getElem?_eq_some_iff.1 HX.out.rowR).1).trans HX.out.rowR; have hD7 := (hb7.block D (Array.getElem?_eq_some_iff.1 HX.out.rowD).1).trans HX.out.rowD; clear p0 p1 p2 p3 p4 p5; obtain ⟨p0, p1, p2, p3, p4, p5⟩ := row6g hR7; obtain ⟨q0, q1, q2, q3, q4, q5⟩ := row6g hD7; obtain ⟨f0, f1, f2, f3, f4, f5⟩ := open6 hD7; have H7 := Lib.hid (And.intro hb7 hD7); clear hb7 hR7 hD7)
        have hg := set6_grown w7 D (.slice e1 g'.lasts.length y1) (.slice e2 g'.waits.length y2) (.int .i64 g'.k) (.int .i64 g'.l) (.bool g'.b) (.int .i64 g'.s)
        have r1 := (HX.out.disk.below H7.out.1).besides hg H7.out.2 (by decide) (by decide)
        have r2 := (((HX.out.isg.below H7.out.1).mono H7.out.1.size).besides hg H7.out.2).mono hg.size
        have r3 := set6_heap (.slice e1 g'.lasts.length y1) (.slice e2 g'.waits.length y2) (.int .i64 g'.k) (.int .i64 g'.l) (.bool g'.b) (.int .i64 g'.s) H7.out.2
        have hn6 := HX.out.disk.n_le
        have r4 := (HX.out.below.trans (H7.out.1.mono hn6)).grown hg (Nat.le_trans hn6 H7.out.1.size) (fun q e => by cases e; exact HND.out)
        refine ⟨⟨k + 1, d', g', e1, y1, e2, y2, by go_num, by omega, Lib.hid ⟨r1, r2, HT.out.1, HT.out.2.1, HT.out.2.2, r3, r4⟩⟩, by simp [intOf]; omega⟩
    · obtain rfl : k = L.length := by omega
      obtain ⟨k0, k1, k2, k3, k4, k5⟩ := row6g HP.out.row
      have t1 : True := trivial
      have t2 : True := trivial
      have t3 : True := trivial
      have t4 : True := trivial
      have t5 : True := trivial
      have hf1 : d.waits.length ≤ 1000 := by have := HP.out.few.1; omega
      have hPV : PickV wr wr.heap.size (.slice pa picks.length pc) picks := (HPV.out.below HP.out.below (Nat.le_refl _)).mono HP.out.below.size
      have hwl : g.waits.length ≤ 1000000 := by rw [HP.out.agr.waits, List.length_map]; omega
      have HF := Lib.hid (And.intro hf1 (And.intro hPV hwl))
      have hrm : ¬ (0 ≤ (m : Int) ∧ (m : Int) < d.room) := by rw [HP.out.room]; omega
      have HR := Lib.hid (read_no HP.out.disk m hrm)
      clear hf1 hPV hwl hrm
      have hcr := crash_disk HP.out.disk picks HF.out.2.1 (by have := HF.out.1; omega)
      obtain ⟨gc, hgc⟩ : ∃ gc, GD.crash d picks = gc := ⟨_, rfl⟩
      have hag : Agree (d.crash picks) gc := by rw [← hgc]; exact Agree.crash d picks
      have hgw : gc.waits.length ≤ 1000000 := by rw [← hgc]; exact Nat.zero_le _
      obtain ⟨dC, hdC⟩ : ∃ dC, d.crash picks = dC := ⟨_, rfl⟩
      rw [hdC] at hcr hag
      have HCr := Lib.hid hcr
      have HGC := Lib.hid (And.intro hag (And.intro hgw hgc))
      clear hcr hgc hag hgw hdC
      go_wp2_with (first
        | (have _t := t1; go_at_call 12; refine HR.out.mono ?_; rintro e wx ⟨rfl, rfl⟩; clear t1 _t)
        | (have _t := t2; go_at_call 13; refine HCr.out.mono ?_; rintro e w5 ⟨C, rfl, hC5, hb5⟩; have hD5 := (hb5.block D (Array.getElem?_eq_some_iff.1 HP.out.row).1).trans HP.out.row; clear k0 k1 k2 k3 k4 k5; obtain ⟨k0, k1, k2, k3, k4, k5⟩ := row6g hD5; have H5 := Lib.hid (And.intro hC5 (And.intro hb5 hD5)); clear hC5 hb5 hD5; have HS1 := Lib.hid (same_any (HP.out.disk.below H5.out.2.1) ((HP.out.isg.below H5.out.2.1).mono H5.out.2.1.size) HP.out.agr HF.out.2.2); unfold gv rv at HS1; clear t2 _t)
        | (have _t := t3; go_at_call 11; refine HS1.out.mono ?_; rintro e w6 ⟨rfl, hb6⟩; have hD6 := (hb6.block D (Array.getElem?_eq_some_iff.1 H5.out.2.2).1).trans H5.out.2.2; clear k0 k1 k2 k3 k4 k5; obtain ⟨k0, k1, k2, k3, k4, k5⟩ := row6g hD6; have H6 := Lib.hid hb6; clear hb6 hD6; have HG6 := Lib.hid (gcrash_lett ((((HP.out.isg.below H5.out.2.1).mono H5.out.2.1.size).below H6.out).mono H6.out.size) HP.out.agr HP.out.disk.ok HF.out.1 (.slice pa picks.length pc) picks (((HF.out.2.1.below H5.out.2.1 (Nat.le_refl _)).mono H5.out.2.1.size).below H6.out (Nat.le_refl _) |>.mono H6.out.size) (by omega) gc HGC.out.2.2); unfold gv rv at HG6; clear t3 _t)
        | (have _t := t4; go_at_call 14; refine HG6.out.mono ?_; rintro e w7 ⟨l7, c7, rfl, hG7, hb7⟩; have H7 := Lib.hid (And.intro hG7 hb7); clear hG7 hb7; have HS2 := Lib.hid (same_any ((H5.out.1.below H6.out).below H7.out.2) H7.out.1 HGC.out.1 HGC.out.2.1); unfold gv rv at HS2; clear t4 _t)
        | (have _t := t5; go_at_call 11; refine HS2.out.mono ?_; rintro e w8 ⟨rfl, hb8⟩; have H8 := Lib.hid hb8; clear hb8; clear t5 _t)
        | (go_at_call 7; refine (HK.out _).mono ?_; rintro e w9 ⟨rfl, hb9⟩))
      go_ret
      have z5 := H5.out.2.1.size
      have z6 := H6.out.size
      have z7 := H7.out.2.size
      have z8 := H8.out.size
      have z0 := HP.out.below.size
      exact ⟨rfl, ((((HP.out.below.trans (H5.out.2.1.mono z0)).trans (H6.out.mono (by omega))).trans (H7.out.2.mono (by omega))).trans (H8.out.mono (by omega))).trans (hb9.mono (by omega))⟩
end Go.Proofs.Ytogmbidjbagapaa
/- DiskPlay: for every room, every run of calls and every run of picks the statement that the disk is what the document says, and a crash leaves what it says, answers true, and its arguments read afterwards as they did. No condition. -/
namespace Go.Proofs.Ytogmbidjbagapaa.diskPlay
open Go.ChangeShapes Go.WideShapes Go.ChangeAt Go.RowKit

section
variable {H : Type} {enc : TypeId × Value → H} {P : Program}
open Go.Deep in
theorem open_introw {t e : TypeId} {base : Nat} {W : World} {v : Value} {d : DataW H} {ps : List MemPlace} (ht : P.underlying t = some (.slice e)) (he : P.underlying e = some (.int .i64)) (hc : P.cellsOf e = 1)
    (hok : Value.okWide P W .any base t v) (h : DataW.Trod enc P W 0 (fun _ => true) true t v d ps) :
    ∃ a l cap, v = .slice a (l : List Int).length cap ∧ l.length ≤ cap ∧ cap ≤ maxLen ∧ (l ≠ [] → ∃ b off, a = some ⟨b, off, none⟩ ∧ b < W.heap.size ∧ ∀ j, j < l.length → W.cell? ⟨b, off + j, none⟩ = some (.int .i64 (l[j]?.getD 0))) := by
  obtain ⟨a0, len, cap, rfl⟩ := okWide_slice ht hok
  obtain ⟨fuel, hf⟩ := h
  rcases open_ints ht he hc hf with ⟨hcs, hx⟩ | ⟨a, len', cap', zs, hcs, _, hl, hm, hz, hx, hcell, hwz⟩
  · simp [Value.cells] at hcs
    obtain ⟨rfl, rfl, rfl⟩ := hcs
    exact ⟨none, [], 0, rfl, Nat.le_refl _, Nat.zero_le _, fun h => absurd rfl h⟩
  · simp [Value.cells] at hcs
    obtain ⟨rfl, rfl, rfl⟩ := hcs
    simp only [if_true] at hz
    refine ⟨some a, zs.take len, cap, ?_, ?_, hm, ?_⟩
    · simp; omega
    · simp; omega
    · intro hne
      have hlen : 0 < len := by
        rcases Nat.eq_zero_or_pos len with h0 | h0
        · subst h0; simp at hne
        · exact h0
      obtain ⟨b, off, spot⟩ := a
      have hspot : spot = none := by simpa [Addr.add] using World.cell?_spot (hcell 0 (by omega))
      subst hspot
      refine ⟨b, off, rfl, ?_, fun j hj => ?_⟩
      · have := cell_lt (hcell 0 (by omega)); simpa [Addr.add] using this
      · have hj1 : j < len ∧ j < zs.length := by simp at hj; omega
        have h1 := hcell j (by omega)
        have e3 : (⟨b, off, none⟩ : Addr).add j = ⟨b, off + j, none⟩ := addr_add b off j
        rw [List.getElem?_take, if_pos hj1.1, ← e3, h1]
        simp [List.getD]
end
theorem own : ownKnob Try.prog.godebug = none := by kernel_rfl
theorem laidOut : laidOutB Try.prog = true := by kernel_rfl
theorem cellsU8 : Try.prog.cellsOf 5 = 1 := by kernel_rfl
theorem types_ok : ∀ t ∈ [3, 22, 23], Try.prog.readableRec t = true ∧ t < Try.prog.types.size := by
  intro t ht
  have h : ([3, 22, 23].all fun t => Try.prog.readableRec t && decide (t < Try.prog.types.size)) = true := by kernel_rfl
  have := List.all_eq_true.1 h t ht
  simpa using this
noncomputable def laidWorld (os : Os) : World := World.holding Try.prog os ⟨#[], #[], []⟩
theorem laid_met (os : Os) : laidMet Try.prog Rows.diskPlayRow.laid ((laidWorld os).forCall (fun _ _ => 0) ⟨#[], #[.int .i64 0, .slice none 0 0, .slice none 0 0], []⟩).memory :=
  ⟨[], by first | exact .nil | trivial | rfl, List.nodup_nil, fun _ _ h => by cases h⟩
theorem reads (os : Os) {H : Type} (enc : TypeId × Value → H) : ∃ places, DataW.whole enc Try.prog ((laidWorld os).forCall (fun _ _ => 0) ⟨#[], #[.int .i64 0, .slice none 0 0, .slice none 0 0], []⟩).memory Try.f3.params.toList Rows.diskPlaySpec.vars false #[.int .i64 0, .slice none 0 0, .slice none 0 0].toList 8 = some ([.lit (.int .i64 0), .nil, .nil], [], places) :=
  ⟨[], by kernel_rfl⟩

set_option maxRecDepth 100000 in
theorem contract (H : Type) (enc : TypeId × Value → H) (W : World) (base : Nat) (args : Array Value) (ds gs : List (DataW H)) (before : List MemPlace)
    (hval : ∀ (j : Nat) t v, Try.f3.params[j]? = some t → args[j]? = some v → Value.okWide Try.prog W .any base t v)
    (hW : DataW.Whole enc Try.prog Try.f3.params.toList Rows.diskPlaySpec.vars false W args.toList ds gs before) :
    Calls Try.prog 3 args W fun e W' => ∃ v, e = .returned v ∧ Rows.diskPlaySpec.post enc Try.prog Try.f3 false true false false W args v W' := by
  have hW' := hW
  obtain ⟨p, q, hA0, hV, rfl, hfz, hnd⟩ := hW
  have hA : DataW.TrodAll enc Try.prog W 0 (fun _ => true) true Try.f3.params.toList args.toList ds p := hA0
  rw [Try.params3] at hA hval
  obtain ⟨v0, vs0, d0, ds0, p0, q0, hargs, rfl, rfl, h0, r0⟩ := trodAll_cons hA
  obtain ⟨v1, vs1, d1, ds1, p1, q1, rfl, rfl, rfl, h1, r1⟩ := trodAll_cons r0
  obtain ⟨v2, vs2, d2, ds2, p2, q2, rfl, rfl, rfl, h2, r2⟩ := trodAll_cons r1
  obtain ⟨rfl, rfl, rfl⟩ := trodAll_nil r2
  obtain rfl : args = #[v0, v1, v2] := by cases args; simp_all
  obtain ⟨rfl, rfl⟩ := trodVars_none hV
  obtain ⟨n, rfl, -, -, -⟩ := open_int Try.underlying3 (hval 0 3 v0 rfl rfl) h0
  obtain ⟨aa, L, ac, rfl, hL, hLm, hAc⟩ := open_acts (hval 1 22 v1 rfl rfl) h1
  obtain ⟨fa, fl, fc, rfl, hfl, hfm, hI⟩ := open_introw Try.underlying23 Try.underlying3 (by kernel_rfl) (hval 2 23 v2 rfl rfl) h2
  unfold maxLen at hfm hLm
  have hP : PickV W W.heap.size (.slice fa fl.length fc) fl := ⟨fa, fc, rfl, hfl, fun hne => by
    obtain ⟨b, off, e, hlt, hc⟩ := hI hne
    refine ⟨b, off, e, hlt, fun i x hx => ?_⟩
    rw [hc i (List.getElem?_eq_some_iff.1 hx).1, hx]; rfl⟩
  refine (diskPlay_any n aa L ac (.slice fa fl.length fc) fl W (by omega) hP hAc (by omega)).mono fun e W' ⟨he, hb⟩ => ?_
  subst he
  exact ⟨_, rfl, law_post laidOut (fun t ht => types_ok t (by rw [Try.params3] at ht; revert ht; decide +revert)) rfl hW' rfl rfl rfl Try.underlying4 (by kernel_rfl) hb⟩

set_option maxRecDepth 100000 in
theorem lifted (os : Os) (started : os.Started) (H : Type) (enc : TypeId × Value → H) (F : Stop.Interp) :
    ReturnsInHanded {} Try.checked os 3 .any ((OpenSpec.ofChange Rows.diskPlaySpec).preRow enc Try.prog Try.f3 Rows.diskPlayRow.domain false Rows.diskPlayRow.laid) (((OpenSpec.ofChange Rows.diskPlaySpec).at F).post enc Try.prog Try.f3 false true false false) := by
  obtain ⟨places, hx⟩ := reads os enc
  refine returnsInHanded_of_row (C := Try.checked) (s := OpenSpec.ofChange Rows.diskPlaySpec) own started (by kernel_rfl) Try.func3
    (witness_row_at (enc := enc) (C := Try.checked) false (laidWorld os) #[.int .i64 0, .slice none 0 0, .slice none 0 0] rfl (by kernel_rfl) (by kernel_rfl) (by kernel_rfl)
      (OpenSpec.preRow_of_cond 8 hx (by kernel_rfl) (fun k hk => by cases hk) (by kernel_rfl) (laid_met os))) ?_
  intro W base args ds gs before hval hW _ _ _ _ _ _
  exact contract H enc W base args ds gs before hval hW

theorem said : Rows.DiskPlaySaid :=
  OpenClaim.holds_of_cond 3 Try.f3 rfl rfl rfl rfl rfl rfl rfl ⟨rfl, rfl, rfl, rfl, rfl⟩ rfl rfl rfl rfl rfl (by kernel_rfl) Try.func3 (by kernel_rfl)
    (of_decide_eq_true (by kernel_rfl)) (by unfold Func.isWrapper; first | (rw [if_pos (by decide +kernel)]; kernel_rfl) | (rw [if_neg (by decide +kernel)]; exact ⟨rfl, rfl⟩))
    (fun os started H enc _ F => by rw [OpenClaim.pre_eq_preRow]; exact lifted os started H enc F)

end Go.Proofs.Ytogmbidjbagapaa.diskPlay

/- Texts of the proof in one file, in build order: DiskCopies, DiskCopiesSaid. -/
import Derived.Test.YtkophpipehdkmaaP1
import Derived.Deep.Cut
import Derived.Deep.DeepCutAuto
import Derived.Test.YtkophpipehdkmaaDskKnown
import Derived.Test.YtkophpipehdkmaaRows
import Derived.ProofKit
import Derived.SizedLaws
import Derived.OpenShut
import Derived.ChangeMaps5
import Derived.Deep.DeepHandedRow
import Derived.Test.YtkophpipehdkmaaKit
import Derived.Deep.Slices
import Derived.ChangeSame
import Derived.ChangeArms
import Derived.WideShapes
/- Layer 2: the law: copies go on apart; Same tells what is the same. -/
namespace Go.Proofs.Ytkophpipehdkmaa
open Go.RowKit

/-- Both disks, and both of the document's. -/
structure BothE (N C : Nat) (W : World) (B D E : Nat) (d : Dsk) (g : GD) (b1 : Option Addr) (d1 : Nat) (b2 : Option Addr) (d2 : Nat) (dc : Dsk) (o : GD) (f1 : Option Addr) (z1 : Nat) (f2 : Option Addr) (z2 : Nat) : Prop where
  disk : IsDisk N W B d
  isg : IsG W.heap.size W b1 d1 b2 d2 g
  row : W.heap[D]? = some (.cells (gCells b1 d1 b2 d2 g) 34 (0, 0))
  disk2 : IsDisk C W C dc
  isg2 : IsG W.heap.size W f1 z1 f2 z2 o
  row2 : W.heap[E]? = some (.cells (gCells f1 z1 f2 z2 o) 34 (0, 0))
def DcL (b : Bool) (D E p1 o1 c1 p2 o2 c2 n k : Nat) (s t : ByteArray) : Nat → Value → World → Prop
  | 0, v, _ => v = .bool b
  | 1, v, _ => v = .bool b
  | 2, v, _ => (b) = true → v = .pointer (some ⟨D, 0, none⟩)
  | 3, v, _ => (b) = true → v = .slice (some ⟨p1, o1, none⟩) n c1
  | 4, v, _ => (b) = true → v = .int .i64 k
  | 5, v, _ => (b) = true → v = .pointer (some ⟨p1, o1 + k * 1, none⟩)
  | 6, v, _ => (b) = true → v = .string s
  | 7, v, _ => (b) = true → v = .pointer (some ⟨E, 0, none⟩)
  | 8, v, _ => (b) = true → v = .slice (some ⟨p2, o2, none⟩) n c2
  | 9, v, _ => (b) = true → v = .int .i64 k
  | 10, v, _ => (b) = true → v = .pointer (some ⟨p2, o2 + k * 1, none⟩)
  | 11, v, _ => (b) = true → v = .string t
  | 12, v, _ => (b) = true → v = .bool (s.toList == t.toList)
  | 13, v, _ => v = .bool (b && (s.toList == t.toList))
  | 14, v, _ => v = .bool (b && (s.toList == t.toList))
  | _, _, _ => True
theorem DcL.below {b : Bool} {D E p1 o1 c1 p2 o2 c2 n k : Nat} {s t : ByteArray} {w w' : World} (_hb : Below w.heap.size w w') : ∀ j u, DcL b D E p1 o1 c1 p2 o2 c2 n k s t j u w → DcL b D E p1 o1 c1 p2 o2 c2 n k s t j u w' := by
  intro j u h
  unfold DcL at h ⊢
  split at h
  · exact h
  · exact h
  · exact h
  · exact h
  · exact h
  · exact h
  · exact h
  · exact h
  · exact h
  · exact h
  · exact h
  · exact h
  · exact h
  · exact h
  · exact h
  · exact trivial
def DcW (D E p1 o1 c1 p2 o2 c2 n k : Nat) (x y : Int × ByteArray) : Nat → Value → World → Prop
  | 0, v, _ => v = .pointer (some ⟨D, 1, none⟩)
  | 1, v, _ => v = .slice (some ⟨p1, o1, none⟩) n c1
  | 2, v, _ => v = .int .i64 k
  | 3, v, _ => v = .pointer (some ⟨p1, o1 + k * 2, none⟩)
  | 4, v, _ => v = .agg #[.int .i64 x.1, .string x.2]
  | 5, v, _ => v = .pointer (some ⟨E, 1, none⟩)
  | 6, v, _ => v = .slice (some ⟨p2, o2, none⟩) n c2
  | 7, v, _ => v = .int .i64 k
  | 8, v, _ => v = .pointer (some ⟨p2, o2 + k * 2, none⟩)
  | 9, v, _ => v = .agg #[.int .i64 y.1, .string y.2]
  | 10, v, _ => v = .bool ((x.1 == y.1) && (x.2.toList == y.2.toList))
  | 11, v, _ => v = .bool ((x.1 == y.1) && (x.2.toList == y.2.toList))
  | _, _, _ => True
theorem DcW.below {D E p1 o1 c1 p2 o2 c2 n k : Nat} {x y : Int × ByteArray} {w w' : World} (_hb : Below w.heap.size w w') : ∀ j u, DcW D E p1 o1 c1 p2 o2 c2 n k x y j u w → DcW D E p1 o1 c1 p2 o2 c2 n k x y j u w' := by
  intro j u h
  unfold DcW at h ⊢
  split at h
  · exact h
  · exact h
  · exact h
  · exact h
  · exact h
  · exact h
  · exact h
  · exact h
  · exact h
  · exact h
  · exact h
  · exact h
  · exact trivial
set_option maxRecDepth 100000 in
set_option maxHeartbeats 8000000 in
theorem diskCopies_any (n : Int) (a1 : Option Addr) (L1 : List ActD) (c1 : Nat) (a2 : Option Addr) (L2 : List ActD) (c2 : Nat) (w : World) (hL1 : L1.length ≤ 70368744177664) (hL2 : L2.length ≤ 70368744177664) (hA1 : ActsAt w.heap.size w a1 L1) (hA2 : ActsAt w.heap.size w a2 L2) :
    Calls Try.prog 4 #[.int .i64 n, .slice a1 L1.length c1, .slice a2 L2.length c2] w fun e w' => e = .returned (.bool true) ∧ Below w.heap.size w w' := by
  have HK := Lib.hid known_any
  have HA1 := Lib.hid hA1
  have HA2 := Lib.hid hA2
  clear hA1 hA2
  have hsum : wrap64 ((L1.length : Int) + (L2.length : Int)) = (L1.length : Int) + (L2.length : Int) := by unfold wrap64; omega
  by_cases h1 : (40 : Int) < (L1.length : Int) + (L2.length : Int)
  · go_enter Try.func4, Try.ntmps4
    go_wp2_with (go_at_call 6; refine (HK.out _).mono ?_; rintro e w' ⟨rfl, hb⟩)
    go_ret
    exact ⟨rfl, hb⟩
  by_cases h3 : 20 < n
  · go_enter Try.func4, Try.ntmps4
    go_wp2_with (go_at_call 6; refine (HK.out _).mono ?_; rintro e w' ⟨rfl, hb⟩)
    go_ret
    exact ⟨rfl, hb⟩
  by_cases hok : n < 2
  · have HNo := Lib.hid (show n < 2 ∨ 4096 < n from Or.inl hok)
    clear hok
    go_enter Try.func4, Try.ntmps4
    go_wp2_with fail
    refine (new_no n HNo.out w).mono ?_
    rintro e w1 ⟨rfl, rfl⟩
    go_wp2_with fail
    refine (gnew_no n HNo.out w).mono ?_
    rintro e w2 ⟨rfl, hb2⟩
    unfold rv
    go_wp2_with fail
    refine (HK.out _).mono ?_
    rintro e w3 ⟨rfl, hb3⟩
    go_wp2_with fail
    go_ret
    exact ⟨rfl, (hb2.alloc hb2.size _).trans (hb3.mono (by have := hb2.size; simp; omega))⟩
  obtain ⟨m, rfl⟩ : ∃ m : Nat, n = m := ⟨n.toNat, by omega⟩
  have hm2 : 2 ≤ m := by omega
  have hm20 : m ≤ 20 := by omega
  have HM := Lib.hid (And.intro hm2 hm20)
  have HL := Lib.hid (show L1.length + L2.length ≤ 40 by omega)
  clear hok
  go_enter Try.func4, Try.ntmps4
  go_wp2_with fail
  refine (new_yes m HM.out.1 (by have := HM.out.2; omega) w).mono ?_
  rintro e w1 ⟨B, rfl, hD1, hb1⟩
  have HD1 := Lib.hid (And.intro hD1 hb1)
  clear hD1 hb1
  go_wp2_with fail
  refine (gnew_yes m HM.out.1 (by have := HM.out.2; omega) w1).mono ?_
  rintro e w2 ⟨la, lc, rfl, hG2, hb2⟩
  have HG2 := Lib.hid (And.intro hG2 hb2)
  clear hG2 hb2
  unfold gv rv
  go_wp2_with fail
  obtain ⟨W4, hW4⟩ : ∃ W4, w2.alloc (.cells #[.slice la m lc, .slice none 0 0, .int .i64 0, .int .i64 0, .bool false, .int .i64 0] 34) = W4 := ⟨_, rfl⟩
  obtain ⟨D, hD⟩ : ∃ D, w2.heap.size = D := ⟨_, rfl⟩
  rw [hW4, hD]
  have hb4 : Below w2.heap.size w2 W4 := by rw [← hW4]; exact (Below.refl _ w2).alloc (Nat.le_refl _) _
  have hr4 : W4.heap[D]? = some (.cells #[.slice la m lc, .slice none 0 0, .int .i64 0, .int .i64 0, .bool false, .int .i64 0] 34 (0, 0)) := by rw [← hW4, ← hD]; exact heap_alloc_new w2 _
  have z2 := HD1.out.2.size
  have z3 := HG2.out.2.size
  have HP4 : Hid (PlayE w.heap.size w W4 B D 0 m (Dsk.new m) ⟨List.replicate m nought, [], 0, 0, false, 0⟩ la lc none 0) := Lib.hid ⟨(HD1.out.1.below HG2.out.2).below hb4, (HG2.out.1.below hb4).mono hb4.size, agree_new m, Dsk.Few.new m, by show (List.replicate m noughts).length = m; simp, by rw [hr4]; unfold gCells; simp, (HD1.out.2.trans (HG2.out.2.mono z2)).trans (hb4.mono (by omega))⟩
  have HND : Hid (w.heap.size ≤ D) := Lib.hid (by omega)
  generalize (⟨List.replicate m nought, [], 0, 0, false, 0⟩ : GD) = g0 at HP4
  generalize Dsk.new m = d0 at HP4
  clear hW4 hD hb4 hr4 z2 z3 HG2 HD1 hm2 hm20 h3 h1 hsum
  go_loopw [11, 52, 53, 54, 55, 56, 57, 58, 59, 60, 61, 62, 63, 64, 65, 66, 67] (fun x _ _ _ _ _ _ _ _ _ _ _ _ _ _ _ _ wr => ∃ (k : Nat) (d : Dsk) (g : GD) (e1 : Option Addr) (y1 : Nat) (e2 : Option Addr) (y2 : Nat), x = .int .i64 k ∧ k ≤ L1.length ∧ Hid (PlayE w.heap.size w wr B D k m d g e1 y1 e2 y2))
    (fun x _ _ _ _ _ _ _ _ _ _ _ _ _ _ _ _ _ => L1.length - (intOf x).toNat)
  case atStart => exact ⟨0, d0, g0, la, lc, none, 0, rfl, Nat.zero_le _, HP4⟩
  case round =>
    clear HP4
    obtain ⟨k, d, g, b1, d1, b2, d2, rfl, hk, HP⟩ := hrel
    by_cases hlt : k < L1.length
    · as_aux_lemma =>
      obtain ⟨k0, k1, k2, k3, k4, k5⟩ := row6g HP.out.row
      obtain ⟨b, off, rfl, hb, hc⟩ := HA1.out (by rintro rfl; simp at hlt)
      obtain ⟨hca, hao⟩ := hc k hlt
      clear hc
      obtain ⟨a, ha⟩ : ∃ a, L1.getD k default = a := ⟨_, rfl⟩
      rw [ha] at hca hao
      clear ha
      obtain ⟨hx0, hx1, hx2, hx3⟩ := hca.below HP.out.below hb
      clear hca
      have hfw : d.Few 1000000 := HP.out.few.mono (by have := HL.out; omega)
      have hbd : Below wr.heap.size wr wr.drew := (Below.refl _ wr).drew
      have HC1 := Lib.hid (does_act (HP.out.disk.below hbd) ((HP.out.isg.below hbd).mono hbd.size) HP.out.agr hfw a hao)
      have HT := Lib.hid (And.intro (HP.out.agr.act HP.out.disk.ok (by have := hfw.2; omega) a).1 (And.intro (HP.out.few.act HP.out.disk.ok a) ((stepD_room HP.out.disk.ok a).trans HP.out.room)))
      clear hfw hbd hao
      generalize (stepD d a).1 = d' at HC1 HT
      generalize (stepG g a).1 = g' at HC1 HT
      unfold gv rv ActD.v actV at HC1
      go_wp2
      go_region_with (go_at_call 8; refine HC1.out.mono ?_; rintro e w5 ⟨e1, y1, e2, y2, rfl, hG5, hS5, hk5⟩; have hr5 := hk5.cells D _ _ _ HP.out.row (by decide) (by decide); obtain ⟨t0, t1, t2, t3, t4, t5⟩ := row6g hr5; obtain ⟨v0, v1, v2, v3, v4, v5⟩ := open6g hr5; have HE := Lib.hid (nextE HP.out HND.out hG5 hS5 hk5 HT.out.1 HT.out.2.1 HT.out.2.2); clear hG5 hS5 hk5 hr5; unfold gv rv)
      go_wp2
      all_goals exact ⟨⟨k + 1, d', g', e1, y1, e2, y2, by go_num, by omega, HE⟩, by simp [intOf]; omega⟩
    · obtain ⟨wo, hwo⟩ : ∃ x, x = wr := ⟨wr, rfl⟩
      subst hwo
      obtain rfl : k = L1.length := by omega
      obtain ⟨k0, k1, k2, k3, k4, k5⟩ := row6g HP.out.row
      have HC := Lib.hid (copy_disk HP.out.disk (HP.out.few.mono (by have := HL.out; omega)))
      go_wp2_with fail
      refine HC.out.mono ?_
      rintro e w3 ⟨rfl, hC3, hb3⟩
      have hr3 := (hb3.block D (Array.getElem?_eq_some_iff.1 HP.out.row).1).trans HP.out.row
      obtain ⟨C, hC⟩ : ∃ C, wo.heap.size = C := ⟨_, rfl⟩
      have hnC : w.heap.size ≤ C := by rw [← hC]; exact HP.out.disk.n_le
      have H3 := Lib.hid (And.intro hC3 (And.intro hb3 (And.intro hC hnC)))
      rw [hC]
      clear k0 k1 k2 k3 k4 k5 hC3 hb3 hC hnC HC
      obtain ⟨k0, k1, k2, k3, k4, k5⟩ := row6g hr3
      clear hr3
      go_wp2_with fail
      obtain ⟨hC3, hb3, hC, hnC⟩ := H3.out
      obtain ⟨W5, hW5⟩ : ∃ W, w3.alloc (.cells #[.slice b1 g.lasts.length d1, .slice b2 g.waits.length d2, .int .i64 g.k, .int .i64 g.l, .bool g.b, .int .i64 g.s] 34) = W := ⟨_, rfl⟩
      obtain ⟨E, hE⟩ : ∃ E, w3.heap.size = E := ⟨_, rfl⟩
      rw [hW5, hE]
      have hb5 : Below w3.heap.size w3 W5 := by rw [← hW5]; exact (Below.refl _ w3).alloc (Nat.le_refl _) _
      have hr5 : W5.heap[E]? = some (.cells (gCells b1 d1 b2 d2 g) 34 (0, 0)) := by rw [← hW5, ← hE]; exact heap_alloc_new w3 _
      have hz3 := hb3.size
      rw [hC] at hC3 hb3 hz3
      have HQ5 : Hid (PlayE C wo W5 C E L1.length m d g b1 d1 b2 d2) := Lib.hid ⟨hC3.below hb5, (((HP.out.isg.below (by rw [hC]; exact hb3)).mono (by rw [hC]; exact hz3)).below hb5).mono hb5.size, HP.out.agr, HP.out.few, HP.out.room, hr5, hb3.trans (hb5.mono hz3)⟩
      have HCE : Hid (C ≤ E) := Lib.hid (by omega)
      have HCw := Lib.hid (And.intro hC hnC)
      clear k0 k1 k2 k3 k4 k5 hC3 hb3 hC hnC hW5 hE hb5 hr5 hz3 H3
      go_loopw [14, 71, 72, 73, 74, 75, 76, 77, 78, 79, 80, 81, 82, 83, 84, 85, 86] (fun x _ _ _ _ _ _ _ _ _ _ _ _ _ _ _ _ wx => ∃ (j : Nat) (dc : Dsk) (o : GD) (e1 : Option Addr) (y1 : Nat) (e2 : Option Addr) (y2 : Nat), x = .int .i64 j ∧ j ≤ L2.length ∧ Hid (PlayE C wo wx C E (L1.length + j) m dc o e1 y1 e2 y2))
        (fun x _ _ _ _ _ _ _ _ _ _ _ _ _ _ _ _ _ => L2.length - (intOf x).toNat)
      case atStart => exact ⟨0, d, g, b1, d1, b2, d2, rfl, Nat.zero_le _, HQ5⟩
      case round =>
        clear HQ5 hk
        obtain ⟨j, dc, o, f1, z1, f2, z2, rfl, hj, HQ⟩ := hrel
        by_cases hlt2 : j < L2.length
        · as_aux_lemma =>
          obtain ⟨k0, k1, k2, k3, k4, k5⟩ := row6g HQ.out.row
          obtain ⟨b, off, rfl, hb, hc⟩ := HA2.out (by rintro rfl; simp at hlt2)
          obtain ⟨hca, hao⟩ := hc j hlt2
          clear hc
          obtain ⟨a, ha⟩ : ∃ a, L2.getD j default = a := ⟨_, rfl⟩
          rw [ha] at hca hao
          clear ha
          obtain ⟨hx0, hx1, hx2, hx3⟩ := hca.below (HP.out.below.trans (HQ.out.below.mono HCw.out.2)) hb
          clear hca
          have hfw : dc.Few 1000000 := HQ.out.few.mono (by have := HL.out; omega)
          have hbd : Below wr.heap.size wr wr.drew := (Below.refl _ wr).drew
          have HC1 := Lib.hid (does_act (HQ.out.disk.below hbd) ((HQ.out.isg.below hbd).mono hbd.size) HQ.out.agr hfw a hao)
          have HT := Lib.hid (And.intro (HQ.out.agr.act HQ.out.disk.ok (by have := hfw.2; omega) a).1 (And.intro (HQ.out.few.act HQ.out.disk.ok a) ((stepD_room HQ.out.disk.ok a).trans HQ.out.room)))
          clear hfw hbd hao
          generalize (stepD dc a).1 = d' at HC1 HT
          generalize (stepG o a).1 = g' at HC1 HT
          unfold gv rv ActD.v actV at HC1
          go_wp2
          go_region_with (go_at_call 8; refine HC1.out.mono ?_; rintro e w5 ⟨e1, y1, e2, y2, rfl, hG5, hS5, hk5⟩; have hr5 := hk5.cells E _ _ _ HQ.out.row (by decide) (by decide); obtain ⟨t0, t1, t2, t3, t4, t5⟩ := row6g hr5; obtain ⟨v0, v1, v2, v3, v4, v5⟩ := open6g hr5; have HE := Lib.hid (nextE HQ.out HCE.out hG5 hS5 hk5 HT.out.1 HT.out.2.1 HT.out.2.2); clear hG5 hS5 hk5 hr5; unfold gv rv)
          go_wp2
          all_goals exact ⟨⟨j + 1, d', g', e1, y1, e2, y2, by go_num, by omega, HE⟩, by simp [intOf]; omega⟩
        · obtain ⟨wp, hwp⟩ : ∃ x, x = wr := ⟨wr, rfl⟩
          subst hwp
          obtain rfl : j = L2.length := by omega
          have hbW : Below wo.heap.size wo wp := by rw [HCw.out.1]; exact HQ.out.below
          have HW := Lib.hid (fun W (hb : Below wp.heap.size wp W) => (⟨(HP.out.disk.below hbW).below hb, (((HP.out.isg.below hbW).mono hbW.size).below hb).mono hb.size, (hb.block D (Nat.lt_of_lt_of_le (Array.getElem?_eq_some_iff.1 HP.out.row).1 hbW.size)).trans ((hbW.block D (Array.getElem?_eq_some_iff.1 HP.out.row).1).trans HP.out.row), HQ.out.disk.below hb, (HQ.out.isg.below hb).mono hb.size, (hb.block E (Array.getElem?_eq_some_iff.1 HQ.out.row).1).trans HQ.out.row⟩ : BothE w.heap.size C W B D E d g b1 d1 b2 d2 dc o f1 z1 f2 z2))
          have HG := Lib.hid (And.intro HP.out.agr (And.intro HQ.out.agr (And.intro HP.out.disk.ok (And.intro HQ.out.disk.ok (And.intro (show d.Few 1000000 from HP.out.few.mono (by have := HL.out; omega)) (show dc.Few 1000000 from HQ.out.few.mono (by have := HL.out; omega)))))))
          have hgl : g.waits.length ≤ 1000000 := by rw [HP.out.agr.waits, List.length_map]; exact HG.out.2.2.2.2.1.1
          have hol : o.waits.length ≤ 1000000 := by rw [HQ.out.agr.waits, List.length_map]; exact HG.out.2.2.2.2.2.1
          have HF := Lib.hid (And.intro hgl hol)
          have HLn := Lib.hid (show g.lasts.length = m ∧ o.lasts.length = m by rw [HP.out.agr.lasts, HQ.out.agr.lasts, List.length_map, List.length_map]; exact ⟨HP.out.room, HQ.out.room⟩)
          have HBN := Lib.hid (show Below w.heap.size w wp ∧ w.heap.size ≤ wp.heap.size from ⟨HP.out.below.trans (HQ.out.below.mono HCw.out.2), Nat.le_trans HP.out.disk.n_le hbW.size⟩)
          clear hbW hgl hol hlt hlt2 hj
          have HB0 := Lib.hid (HW.out wp (Below.refl _ wp))
          have HS1 := Lib.hid (same_any HB0.out.disk HB0.out.isg HG.out.1 HF.out.1)
          unfold gv rv at HS1
          obtain ⟨k0, k1, k2, k3, k4, k5⟩ := row6g HB0.out.row
          go_wp2_with fail
          refine HS1.out.mono ?_
          rintro e w6 ⟨rfl, hb6⟩
          have HB6 := Lib.hid (And.intro hb6 (HW.out w6 hb6))
          have HS2 := Lib.hid (same_any HB6.out.2.disk2 HB6.out.2.isg2 HG.out.2.1 HF.out.2)
          unfold gv rv at HS2
          clear k0 k1 k2 k3 k4 k5 hb6
          obtain ⟨k0, k1, k2, k3, k4, k5⟩ := row6g HB6.out.2.row2
          go_wp2_with fail
          refine HS2.out.mono ?_
          rintro e w7 ⟨rfl, hb7⟩
          have HB7 := Lib.hid (show Below wp.heap.size wp w7 ∧ _ from ⟨HB6.out.1.trans (hb7.mono HB6.out.1.size), HW.out w7 (HB6.out.1.trans (hb7.mono HB6.out.1.size))⟩)
          have HC7 := Lib.hid (copy_disk HB7.out.2.disk (HG.out.2.2.2.2.1.mono (by decide)))
          clear k0 k1 k2 k3 k4 k5 hb7
          go_wp2_with fail
          refine HC7.out.mono ?_
          rintro e w8 ⟨rfl, hC8, hb8⟩
          have HB8 := Lib.hid (show Below wp.heap.size wp w8 ∧ _ from ⟨HB7.out.1.trans (hb8.mono HB7.out.1.size), HW.out w8 (HB7.out.1.trans (hb8.mono HB7.out.1.size))⟩)
          have HS8 := Lib.hid (same_disks HB8.out.2.disk hC8 (by have := HG.out.2.2.2.2.1.1; omega))
          clear hb8 hC8
          go_wp2_with fail
          refine HS8.out.mono ?_
          rintro e w9 ⟨r9, rfl, hr9, hb9⟩
          obtain rfl : r9 = true := hr9.2 ⟨rfl, rfl, rfl, rfl, rfl⟩
          have HB9 := Lib.hid (show Below wp.heap.size wp w9 ∧ _ from ⟨HB8.out.1.trans (hb9.mono HB8.out.1.size), HW.out w9 (HB8.out.1.trans (hb9.mono HB8.out.1.size))⟩)
          have HA9 := Lib.hid (same_absent HB9.out.2.disk)
          clear hb9 hr9
          go_wp2_with fail
          refine HA9.out.mono ?_
          rintro e w10 ⟨rfl, rfl⟩
          obtain ⟨k0, k1, k2, k3, k4, k5⟩ := row6g HB9.out.2.row
          obtain ⟨l0, l1, l2, l3, l4, l5⟩ := row6g HB9.out.2.row2
          go_upto_region 19 with (fail)
          obtain ⟨r1, hr1⟩ : ∃ r, ((g.waits.length : Int) == (o.waits.length : Int)) = r := ⟨_, rfl⟩
          obtain ⟨r2, hr2⟩ : ∃ r, (g.k == o.k) = r := ⟨_, rfl⟩
          obtain ⟨r3, hr3⟩ : ∃ r, (g.b == o.b) = r := ⟨_, rfl⟩
          obtain ⟨r4, hr4⟩ : ∃ r, (g.k == 0) = r := ⟨_, rfl⟩
          obtain ⟨r5, hr5⟩ : ∃ r, (g.l == o.l) = r := ⟨_, rfl⟩
          obtain ⟨b0, hb0⟩ : ∃ b, (r1 && (r2 && (r3 && (r4 || r5)))) = b := ⟨_, rfl⟩
          have HR := Lib.hid (show b0 = true ↔ (g.waits.length = o.waits.length ∧ g.k = o.k ∧ g.b = o.b ∧ (g.k = 0 ∨ g.l = o.l)) by
            rw [← hb0, ← hr1, ← hr2, ← hr3, ← hr4, ← hr5]
            simp only [Bool.and_eq_true, Bool.or_eq_true, beq_iff_eq]
            exact ⟨fun ⟨q1, q2⟩ => ⟨by omega, q2⟩, fun ⟨q1, q2⟩ => ⟨by omega, q2⟩⟩)
          have HBw := Lib.hid (show Below wp.heap.size wp w9 from HB9.out.1)
          go_cut [15] (fun x wx => x = .bool b0 ∧ wx = w9)
          case first =>
            cases r1
            · subst hb0; go_wp2_with fail; go_meet; exact ⟨rfl, rfl⟩
            cases r2
            · subst hb0; go_wp2_with fail; go_meet; exact ⟨rfl, rfl⟩
            cases r3
            · subst hb0; go_wp2_with fail; go_meet; exact ⟨rfl, rfl⟩
            cases r4
            · cases r5
              · subst hb0; go_wp2_with fail; go_meet; exact ⟨rfl, rfl⟩
              · subst hb0; go_wp2_with fail; go_meet; exact ⟨rfl, rfl⟩
            · subst hb0; go_wp2_with fail; go_meet; exact ⟨rfl, rfl⟩
          case rest =>
          obtain ⟨rfl, rfl⟩ := hcut
          clear hr1 hr2 hr3 hr4 hr5 hb0 HB0 HS1 HB6 HS2 HB7 HC7 HB8 HS8 HB9 HA9 k0 k1 k2 k3 k4 k5 l0 l1 l2 l3 l4 l5
          go_wp2_with fail
          go_loopw [15, 16, 141, 142, 143, 144, 145, 146, 147, 148, 149, 150, 151, 152, 153, 154, 155, 156, 157, 158, 159, 160, 161] (fun x y _ _ _ _ _ _ _ _ _ _ _ _ _ _ _ _ _ _ _ _ _ wx => ∃ (k : Nat) (b : Bool), x = .bool b ∧ y = .int .i64 k ∧ k ≤ m ∧ Below wp.heap.size wp wx ∧ Hid (b = true ↔ (b0 = true ∧ ∀ i, i < k → g.lasts[i]? = o.lasts[i]?)))
            (fun _ y _ _ _ _ _ _ _ _ _ _ _ _ _ _ _ _ _ _ _ _ _ _ => m - (intOf y).toNat)
          case atStart => exact ⟨0, b0, rfl, rfl, Nat.zero_le _, HBw.out, Lib.hid ⟨fun h => ⟨h, fun i hi => absurd hi (by omega)⟩, fun h => h.1⟩⟩
          case round =>
            clear HBw
            obtain ⟨k, b, rfl, rfl, hk, hbr, G⟩ := hrel
            have HBr := Lib.hid (HW.out wr hbr)
            obtain ⟨k0, -, -, -, -, -⟩ := row6g HBr.out.row
            rw [HLn.out.1] at k0
            by_cases hlt3 : k < m
            · as_aux_lemma =>
              obtain ⟨l0, -, -, -, -, -⟩ := row6g HBr.out.row2
              rw [HLn.out.2] at l0
              obtain ⟨s, hsk⟩ : ∃ s, g.lasts[k]? = some s := ⟨g.lasts[k]'(by rw [HLn.out.1]; exact hlt3), List.getElem?_eq_getElem _⟩
              obtain ⟨t, htk⟩ : ∃ s, o.lasts[k]? = some s := ⟨o.lasts[k]'(by rw [HLn.out.2]; exact hlt3), List.getElem?_eq_getElem _⟩
              obtain ⟨p1, o1, e1, -, hs⟩ := HBr.out.isg.str hsk
              obtain ⟨p2, o2, e2, -, ht⟩ := HBr.out.isg2.str htk
              rw [e1] at k0
              rw [e2] at l0
              have HX := Lib.hid (And.intro hbr (And.intro hsk (And.intro htk G.out)))
              clear hsk htk e1 e2 hbr G
              go_wp2_with fail
              refine wp_region_n (fun _ W => W = wr.drew) (DcL b D E p1 o1 d1 p2 o2 z1 m k s t) (by kernel_rfl) (by kernel_rfl) (by kernel_rfl) (by kernel_rfl) rfl ?step ?fin
              case step =>
                intro i o ho listed a w' hIn hn' hpre
                have hI := hIn.toL
                have hJ := hI.inv
                have hi : i < 15 := (Array.getElem?_eq_some_iff.1 ho).1
                match i, hi with
                | 0, _ =>
                  cases ho
                  exact wpOp_move rfl rfl (.inl rfl) (hIn.later 14 (t := 15) (by kernel_rfl) (hI.notyet hn' 14 (by kernel_rfl))) ⟨_, rfl, hJ, fun _ => rfl, fun _ _ _ h => h⟩
                | 1, _ =>
                  cases ho
                  exact wpOp_move rfl rfl (.inl rfl) (hI.slot 0 148 rfl (hpre ⟨0, .data⟩ (by simp) rfl) rfl) ⟨_, rfl, hJ, fun _ => rfl, fun _ _ _ h => h⟩
                | 2, _ =>
                  cases ho
                  have eg := (hI.slot 1 149 rfl (hpre ⟨1, .guard⟩ (by simp) rfl) rfl)
                  by_cases hg : (b) = true
                  case neg =>
                    exact wpOp_off rfl (wantedOff (j := 1) (b := true) (b' := b) rfl rfl rfl (by rw [hI.len]; show _ < 191; decide) eg hg) ⟨_, rfl, hJ, fun _ h => absurd h hg, fun _ _ _ h => h⟩
                  exact wpOp_field rfl (wantedOf (j := 1) (b := true) rfl rfl rfl (by rw [hI.len]; show _ < 191; decide) (eg.trans (congrArg Value.bool hg))) rfl (hI.kept (t := 9) (by kernel_rfl)) (by simp [go_sem]) ⟨_, rfl, hJ, fun _ _ => rfl, fun _ _ _ h => h⟩
                | 3, _ =>
                  cases ho
                  have eg := (hI.slot 1 149 rfl (hpre ⟨1, .guard⟩ (by simp) rfl) rfl)
                  by_cases hg : (b) = true
                  case neg =>
                    exact wpOp_off rfl (wantedOff (j := 1) (b := true) (b' := b) rfl rfl rfl (by rw [hI.len]; show _ < 191; decide) eg hg) ⟨_, rfl, hJ, fun _ h => absurd h hg, fun _ _ _ h => h⟩
                  exact wpOp_load rfl (wantedOf (j := 1) (b := true) rfl rfl rfl (by rw [hI.len]; show _ < 191; decide) (eg.trans (congrArg Value.bool hg))) rfl ((hI.slot 2 150 rfl (hpre ⟨2, .data⟩ (by simp) rfl) rfl) hg) (load_cell (Try.isAgg29 w') (show w'.cell? _ = _ from by rw [hJ]; exact k0)) ⟨_, rfl, hJ, fun _ _ => rfl, fun _ _ _ h => h⟩
                | 4, _ =>
                  cases ho
                  have eg := (hI.slot 1 149 rfl (hpre ⟨1, .guard⟩ (by simp) rfl) rfl)
                  by_cases hg : (b) = true
                  case neg =>
                    exact wpOp_off rfl (wantedOff (j := 1) (b := true) (b' := b) rfl rfl rfl (by rw [hI.len]; show _ < 191; decide) eg hg) ⟨_, rfl, hJ, fun _ h => absurd h hg, fun _ _ _ h => h⟩
                  exact wpOp_move rfl (wantedOf (j := 1) (b := true) rfl rfl rfl (by rw [hI.len]; show _ < 191; decide) (eg.trans (congrArg Value.bool hg))) (.inl rfl) (hI.kept (t := 16) (by kernel_rfl)) ⟨_, rfl, hJ, fun _ _ => rfl, fun _ _ _ h => h⟩
                | 5, _ =>
                  cases ho
                  have eg := (hI.slot 1 149 rfl (hpre ⟨1, .guard⟩ (by simp) rfl) rfl)
                  by_cases hg : (b) = true
                  case neg =>
                    exact wpOp_off rfl (wantedOff (j := 1) (b := true) (b' := b) rfl rfl rfl (by rw [hI.len]; show _ < 191; decide) eg hg) ⟨_, rfl, hJ, fun _ h => absurd h hg, fun _ _ _ h => h⟩
                  exact wpOp_index rfl (wantedOf (j := 1) (b := true) rfl rfl rfl (by rw [hI.len]; show _ < 191; decide) (eg.trans (congrArg Value.bool hg))) rfl ((hI.slot 3 151 rfl (hpre ⟨3, .data⟩ (by simp) rfl) rfl) hg) ((hI.slot 4 152 rfl (hpre ⟨4, .data⟩ (by simp) rfl) rfl) hg) (index_str w' p1 o1 m d1 k hlt3) ⟨_, rfl, hJ, fun _ _ => rfl, fun _ _ _ h => h⟩
                | 6, _ =>
                  cases ho
                  have eg := (hI.slot 1 149 rfl (hpre ⟨1, .guard⟩ (by simp) rfl) rfl)
                  by_cases hg : (b) = true
                  case neg =>
                    exact wpOp_off rfl (wantedOff (j := 1) (b := true) (b' := b) rfl rfl rfl (by rw [hI.len]; show _ < 191; decide) eg hg) ⟨_, rfl, hJ, fun _ h => absurd h hg, fun _ _ _ h => h⟩
                  exact wpOp_load rfl (wantedOf (j := 1) (b := true) rfl rfl rfl (by rw [hI.len]; show _ < 191; decide) (eg.trans (congrArg Value.bool hg))) rfl ((hI.slot 5 153 rfl (hpre ⟨5, .data⟩ (by simp) rfl) rfl) hg) (load_cell (Try.isAgg9 w') (show w'.cell? _ = _ from by rw [hJ]; exact hs)) ⟨_, rfl, hJ, fun _ _ => rfl, fun _ _ _ h => h⟩
                | 7, _ =>
                  cases ho
                  have eg := (hI.slot 1 149 rfl (hpre ⟨1, .guard⟩ (by simp) rfl) rfl)
                  by_cases hg : (b) = true
                  case neg =>
                    exact wpOp_off rfl (wantedOff (j := 1) (b := true) (b' := b) rfl rfl rfl (by rw [hI.len]; show _ < 191; decide) eg hg) ⟨_, rfl, hJ, fun _ h => absurd h hg, fun _ _ _ h => h⟩
                  exact wpOp_field rfl (wantedOf (j := 1) (b := true) rfl rfl rfl (by rw [hI.len]; show _ < 191; decide) (eg.trans (congrArg Value.bool hg))) rfl (hI.kept (t := 13) (by kernel_rfl)) (by simp [go_sem]) ⟨_, rfl, hJ, fun _ _ => rfl, fun _ _ _ h => h⟩
                | 8, _ =>
                  cases ho
                  have eg := (hI.slot 1 149 rfl (hpre ⟨1, .guard⟩ (by simp) rfl) rfl)
                  by_cases hg : (b) = true
                  case neg =>
                    exact wpOp_off rfl (wantedOff (j := 1) (b := true) (b' := b) rfl rfl rfl (by rw [hI.len]; show _ < 191; decide) eg hg) ⟨_, rfl, hJ, fun _ h => absurd h hg, fun _ _ _ h => h⟩
                  exact wpOp_load rfl (wantedOf (j := 1) (b := true) rfl rfl rfl (by rw [hI.len]; show _ < 191; decide) (eg.trans (congrArg Value.bool hg))) rfl ((hI.slot 7 155 rfl (hpre ⟨7, .data⟩ (by simp) rfl) rfl) hg) (load_cell (Try.isAgg29 w') (show w'.cell? _ = _ from by rw [hJ]; exact l0)) ⟨_, rfl, hJ, fun _ _ => rfl, fun _ _ _ h => h⟩
                | 9, _ =>
                  cases ho
                  have eg := (hI.slot 1 149 rfl (hpre ⟨1, .guard⟩ (by simp) rfl) rfl)
                  by_cases hg : (b) = true
                  case neg =>
                    exact wpOp_off rfl (wantedOff (j := 1) (b := true) (b' := b) rfl rfl rfl (by rw [hI.len]; show _ < 191; decide) eg hg) ⟨_, rfl, hJ, fun _ h => absurd h hg, fun _ _ _ h => h⟩
                  exact wpOp_move rfl (wantedOf (j := 1) (b := true) rfl rfl rfl (by rw [hI.len]; show _ < 191; decide) (eg.trans (congrArg Value.bool hg))) (.inl rfl) (hI.kept (t := 16) (by kernel_rfl)) ⟨_, rfl, hJ, fun _ _ => rfl, fun _ _ _ h => h⟩
                | 10, _ =>
                  cases ho
                  have eg := (hI.slot 1 149 rfl (hpre ⟨1, .guard⟩ (by simp) rfl) rfl)
                  by_cases hg : (b) = true
                  case neg =>
                    exact wpOp_off rfl (wantedOff (j := 1) (b := true) (b' := b) rfl rfl rfl (by rw [hI.len]; show _ < 191; decide) eg hg) ⟨_, rfl, hJ, fun _ h => absurd h hg, fun _ _ _ h => h⟩
                  exact wpOp_index rfl (wantedOf (j := 1) (b := true) rfl rfl rfl (by rw [hI.len]; show _ < 191; decide) (eg.trans (congrArg Value.bool hg))) rfl ((hI.slot 8 156 rfl (hpre ⟨8, .data⟩ (by simp) rfl) rfl) hg) ((hI.slot 9 157 rfl (hpre ⟨9, .data⟩ (by simp) rfl) rfl) hg) (index_str w' p2 o2 m z1 k hlt3) ⟨_, rfl, hJ, fun _ _ => rfl, fun _ _ _ h => h⟩
                | 11, _ =>
                  cases ho
                  have eg := (hI.slot 1 149 rfl (hpre ⟨1, .guard⟩ (by simp) rfl) rfl)
                  by_cases hg : (b) = true
                  case neg =>
                    exact wpOp_off rfl (wantedOff (j := 1) (b := true) (b' := b) rfl rfl rfl (by rw [hI.len]; show _ < 191; decide) eg hg) ⟨_, rfl, hJ, fun _ h => absurd h hg, fun _ _ _ h => h⟩
                  exact wpOp_load rfl (wantedOf (j := 1) (b := true) rfl rfl rfl (by rw [hI.len]; show _ < 191; decide) (eg.trans (congrArg Value.bool hg))) rfl ((hI.slot 10 158 rfl (hpre ⟨10, .data⟩ (by simp) rfl) rfl) hg) (load_cell (Try.isAgg9 w') (show w'.cell? _ = _ from by rw [hJ]; exact ht)) ⟨_, rfl, hJ, fun _ _ => rfl, fun _ _ _ h => h⟩
                | 12, _ =>
                  cases ho
                  have eg := (hI.slot 1 149 rfl (hpre ⟨1, .guard⟩ (by simp) rfl) rfl)
                  by_cases hg : (b) = true
                  case neg =>
                    exact wpOp_off rfl (wantedOff (j := 1) (b := true) (b' := b) rfl rfl rfl (by rw [hI.len]; show _ < 191; decide) eg hg) ⟨_, rfl, hJ, fun _ h => absurd h hg, fun _ _ _ h => h⟩
                  exact wpOp_bin rfl (wantedOf (j := 1) (b := true) rfl rfl rfl (by rw [hI.len]; show _ < 191; decide) (eg.trans (congrArg Value.bool hg))) rfl ((hI.slot 6 154 rfl (hpre ⟨6, .data⟩ (by simp) rfl) rfl) hg) ((hI.slot 11 159 rfl (hpre ⟨11, .data⟩ (by simp) rfl) rfl) hg) (by simp [go_sem]) (by simp [go_sem]) ⟨_, rfl, hJ, fun _ _ => rfl, fun _ _ _ h => h⟩
                | 13, _ =>
                  cases ho
                  exact wpOp_pick3 (v := .bool ((s.toList == t.toList))) (u := .bool false) rfl rfl rfl (hI.slot 1 149 rfl (hpre ⟨1, .data⟩ (by simp) rfl) rfl) (fun h => ((hI.slot 12 160 rfl (hpre ⟨12, .data⟩ (by simp) rfl) rfl) h)) (fun h => rfl) ⟨_, rfl, hJ, fun _ => pick_and (b) ((s.toList == t.toList)), fun _ _ _ h => h⟩
                | 14, _ =>
                  cases ho
                  exact wpOp_move rfl rfl (.inr rfl) (hI.slot 13 161 rfl (hpre ⟨13, .data⟩ (by simp) rfl) rfl) ⟨_, rfl, hJ, fun _ => rfl, fun _ _ _ h => h⟩
              case fin =>
                intro listed a w' hIn hall
                have hI := hIn.toL
                clear hIn
                have hJ := hI.inv
                have eS15 : a.tmps.getD 15 undef = .bool (b && (s.toList == t.toList)) := hI.slot 14 15 rfl (hall 14 (by decide)) rfl
                obtain ⟨vs, us, hvl, hul, hvs, hus, e⟩ := hI.frame2 15 1 148 14 (by decide) (Nat.le_of_ble_eq_true (by kernel_rfl)) (by kernel_rfl)
                have vS15 := hvs 0 (by decide)
                clear hI hall hvs hus
                match vs, us, hvl, hul with
                | [x0], [y0, y1, y2, y3, y4, y5, y6, y7, y8, y9, y10, y11, y12, y13], _, _ =>
                simp only [List.getElem?_cons_zero, Option.some.injEq] at vS15
                rw [show 15 + 0 = 15 from rfl, eS15] at vS15
                subst vS15
                simp only [List.take_succ_cons, List.take_zero, List.drop_succ_cons, List.drop_zero, List.cons_append, List.nil_append, Nat.reduceAdd, Nat.reduceSub] at e
                subst e
                clear eS15
                subst hJ
                clear k0 l0 hs ht
                go_wp2
                have hms : m - (k + 1) < m - k := by omega
                have hwr : wrap64 ((k : Int) + 1) = ((k + 1 : Nat) : Int) := by have := HM.out.2; unfold wrap64; omega
                rw [hwr]
                clear hwr
                refine ⟨⟨k + 1, b && (s.toList == t.toList), rfl, rfl, hlt3, HX.out.1.drew, Lib.hid ?_⟩, hms⟩
                rw [Bool.and_eq_true, str_eq, HX.out.2.2.2]
                constructor
                · rintro ⟨⟨q1, q2⟩, q3⟩
                  refine ⟨q1, fun i hi => ?_⟩
                  by_cases hik : i = k
                  · rw [hik, HX.out.2.1, HX.out.2.2.1, q3]
                  · exact q2 i (by omega)
                · rintro ⟨q1, q2⟩
                  refine ⟨⟨q1, fun i hi => q2 i (by omega)⟩, ?_⟩
                  have := q2 k (by omega)
                  rw [HX.out.2.1, HX.out.2.2.1] at this
                  exact Option.some.inj this
            · obtain rfl : k = m := by omega
              have hkk : ¬ (k : Int) < (k : Int) := by omega
              obtain ⟨gw, hgw⟩ : ∃ n, g.waits.length = n := ⟨_, rfl⟩
              have HY := Lib.hid (And.intro hbr (And.intro G.out hgw))
              obtain ⟨wq, hwq⟩ : ∃ x, x = wr := ⟨wr, rfl⟩
              subst hwq
              clear hbr G hgw HBr
              go_wp2_with fail
              clear k0 hkk hk hlt3
              go_loopw [15, 17, 162, 163, 164, 165, 166, 167, 168, 169, 170, 171, 172, 173, 174, 175, 176, 177, 178, 179, 180, 181, 182] (fun x y _ _ _ _ _ _ _ _ _ _ _ _ _ _ _ _ _ _ _ _ _ wx => ∃ (j : Nat) (c : Bool), x = .bool c ∧ y = .int .i64 j ∧ j ≤ gw ∧ Below wp.heap.size wp wx ∧ Hid (c = true ↔ (b = true ∧ ∀ i, i < j → g.waits[i]? = o.waits[i]?)))
                (fun _ y _ _ _ _ _ _ _ _ _ _ _ _ _ _ _ _ _ _ _ _ _ _ => gw - (intOf y).toNat)
              case atStart => exact ⟨0, b, rfl, rfl, Nat.zero_le _, HY.out.1, Lib.hid ⟨fun h => ⟨h, fun i hi => absurd hi (by omega)⟩, fun h => h.1⟩⟩
              case round =>
                obtain ⟨j, c, rfl, rfl, hj, hbr, G⟩ := hrel
                have HBr := Lib.hid (HW.out wr hbr)
                obtain ⟨-, k1, -, -, -, -⟩ := row6g HBr.out.row
                rw [HY.out.2.2] at k1
                have HEnd := Lib.hid (fun he : j = gw ∨ c = false => (show c = true ↔ d.like dc by
                  rw [← HG.out.1.like HG.out.2.1 HG.out.2.2.1 HG.out.2.2.2.1]
                  constructor
                  · intro hc
                    obtain ⟨q1, q2⟩ := G.out.1 hc
                    obtain ⟨q3, q4⟩ := HY.out.2.1.1 q1
                    obtain ⟨q5, q6, q7, q8⟩ := HR.out.1 q3
                    have hjw : j = gw := he.resolve_right (by rw [hc]; decide)
                    refine ⟨q5, q6, q7, q8, List.ext_getElem? fun i => ?_, List.ext_getElem? fun i => ?_⟩
                    · by_cases hi : i < k
                      · exact q4 i hi
                      · rw [List.getElem?_eq_none (by rw [HLn.out.1]; omega), List.getElem?_eq_none (by rw [HLn.out.2]; omega)]
                    · by_cases hi : i < j
                      · exact q2 i hi
                      · rw [List.getElem?_eq_none (by rw [HY.out.2.2]; omega), List.getElem?_eq_none (by rw [← q5, HY.out.2.2]; omega)]
                  · rintro ⟨q5, q6, q7, q8, q9, q10⟩
                    exact G.out.2 ⟨HY.out.2.1.2 ⟨HR.out.2 ⟨q5, q6, q7, q8⟩, fun i _ => by rw [q9]⟩, fun i _ => by rw [q10]⟩))
                by_cases hlt3 : j < gw
                · cases c with
                  | true =>
                   as_aux_lemma =>
                    obtain ⟨-, l1, -, -, -, -⟩ := row6g HBr.out.row2
                    have hlen : o.waits.length = gw := by rw [← HY.out.2.2]; exact (HR.out.1 (HY.out.2.1.1 (G.out.1 rfl).1).1).1.symm
                    rw [hlen] at l1
                    obtain ⟨x, hxk⟩ : ∃ x, g.waits[j]? = some x := ⟨g.waits[j]'(by rw [HY.out.2.2]; exact hlt3), List.getElem?_eq_getElem _⟩
                    obtain ⟨y, hyk⟩ : ∃ x, o.waits[j]? = some x := ⟨o.waits[j]'(by rw [hlen]; exact hlt3), List.getElem?_eq_getElem _⟩
                    obtain ⟨p1, o1, e1, -, hs0, hs1⟩ := HBr.out.isg.wt hxk
                    obtain ⟨p2, o2, e2, -, ht0, ht1⟩ := HBr.out.isg2.wt hyk
                    rw [e1] at k1
                    rw [e2] at l1
                    have HX := Lib.hid (And.intro hbr (And.intro hxk (And.intro hyk G.out)))
                    have hgw6 := HF.out.1
                    rw [HY.out.2.2] at hgw6
                    clear hxk hyk e1 e2 hbr G hlen HEnd
                    go_wp2_with fail
                    refine wp_region_m (fun _ W => W = wr.drew) (DcW D E p1 o1 d2 p2 o2 z2 gw j x y) (by kernel_rfl) (by kernel_rfl) (by kernel_rfl) (by kernel_rfl) rfl ?step ?fin
                    case step =>
                      intro i o ho listed a w' hI hn' hpre
                      have hJ := hI.inv
                      have hi : i < 12 := (Array.getElem?_eq_some_iff.1 ho).1
                      match i, hi with
                      | 0, _ =>
                        cases ho
                        exact wpOp_field rfl rfl rfl (hI.kept (t := 9) (by kernel_rfl)) (by simp [go_sem]) ⟨_, rfl, hJ, fun _ => rfl, fun _ _ _ h => h⟩
                      | 1, _ =>
                        cases ho
                        exact wpOp_load rfl rfl rfl (hI.slot 0 172 rfl (hpre ⟨0, .data⟩ (by simp) rfl) rfl) (load_cell (Try.isAgg32 w') (show w'.cell? _ = _ from by rw [hJ]; exact k1)) ⟨_, rfl, hJ, fun _ => rfl, fun _ _ _ h => h⟩
                      | 2, _ =>
                        cases ho
                        exact wpOp_move rfl rfl (.inl rfl) (hI.kept (t := 17) (by kernel_rfl)) ⟨_, rfl, hJ, fun _ => rfl, fun _ _ _ h => h⟩
                      | 3, _ =>
                        cases ho
                        exact wpOp_index rfl rfl rfl (hI.slot 1 173 rfl (hpre ⟨1, .data⟩ (by simp) rfl) rfl) (hI.slot 2 174 rfl (hpre ⟨2, .data⟩ (by simp) rfl) rfl) (index_wt w' p1 o1 gw d2 j hlt3) ⟨_, rfl, hJ, fun _ => rfl, fun _ _ _ h => h⟩
                      | 4, _ =>
                        cases ho
                        exact wpOp_load rfl rfl rfl (hI.slot 3 175 rfl (hpre ⟨3, .data⟩ (by simp) rfl) rfl) (load_wt (show w'.cell? _ = _ from by rw [hJ]; exact hs0) (show w'.cell? _ = _ from by rw [hJ]; exact hs1)) ⟨_, rfl, hJ, fun _ => rfl, fun _ _ _ h => h⟩
                      | 5, _ =>
                        cases ho
                        exact wpOp_field rfl rfl rfl (hI.kept (t := 13) (by kernel_rfl)) (by simp [go_sem]) ⟨_, rfl, hJ, fun _ => rfl, fun _ _ _ h => h⟩
                      | 6, _ =>
                        cases ho
                        exact wpOp_load rfl rfl rfl (hI.slot 5 177 rfl (hpre ⟨5, .data⟩ (by simp) rfl) rfl) (load_cell (Try.isAgg32 w') (show w'.cell? _ = _ from by rw [hJ]; exact l1)) ⟨_, rfl, hJ, fun _ => rfl, fun _ _ _ h => h⟩
                      | 7, _ =>
                        cases ho
                        exact wpOp_move rfl rfl (.inl rfl) (hI.kept (t := 17) (by kernel_rfl)) ⟨_, rfl, hJ, fun _ => rfl, fun _ _ _ h => h⟩
                      | 8, _ =>
                        cases ho
                        exact wpOp_index rfl rfl rfl (hI.slot 6 178 rfl (hpre ⟨6, .data⟩ (by simp) rfl) rfl) (hI.slot 7 179 rfl (hpre ⟨7, .data⟩ (by simp) rfl) rfl) (index_wt w' p2 o2 gw z2 j hlt3) ⟨_, rfl, hJ, fun _ => rfl, fun _ _ _ h => h⟩
                      | 9, _ =>
                        cases ho
                        exact wpOp_load rfl rfl rfl (hI.slot 8 180 rfl (hpre ⟨8, .data⟩ (by simp) rfl) rfl) (load_wt (show w'.cell? _ = _ from by rw [hJ]; exact ht0) (show w'.cell? _ = _ from by rw [hJ]; exact ht1)) ⟨_, rfl, hJ, fun _ => rfl, fun _ _ _ h => h⟩
                      | 10, _ =>
                        cases ho
                        exact wpOp_bin rfl rfl rfl (hI.slot 4 176 rfl (hpre ⟨4, .data⟩ (by simp) rfl) rfl) (hI.slot 9 181 rfl (hpre ⟨9, .data⟩ (by simp) rfl) rfl) (guard_wt _ _ _ _ _ _ _) (eql_wt _ _ _ _ _) ⟨_, rfl, hJ, fun _ => rfl, fun _ _ _ h => h⟩
                      | 11, _ =>
                        cases ho
                        exact wpOp_move rfl rfl (.inr rfl) (hI.slot 10 182 rfl (hpre ⟨10, .data⟩ (by simp) rfl) rfl) ⟨_, rfl, hJ, fun _ => rfl, fun _ _ _ h => h⟩
                    case fin =>
                      intro listed a w' hI hall
                      have hJ := hI.inv
                      have eS15 : a.tmps.getD 15 undef = .bool ((x.1 == y.1) && (x.2.toList == y.2.toList)) := hI.slot 11 15 rfl (hall 11 (by decide)) rfl
                      obtain ⟨vs, us, hvl, hul, hvs, hus, e⟩ := hI.frame2 15 1 172 11 (by decide) (Nat.le_of_ble_eq_true (by kernel_rfl)) (by kernel_rfl)
                      have vS15 := hvs 0 (by decide)
                      clear hI hall hvs hus
                      match vs, us, hvl, hul with
                      | [x0], [y0, y1, y2, y3, y4, y5, y6, y7, y8, y9, y10], _, _ =>
                      simp only [List.getElem?_cons_zero, Option.some.injEq] at vS15
                      rw [show 15 + 0 = 15 from rfl, eS15] at vS15
                      subst vS15
                      simp only [List.take_succ_cons, List.take_zero, List.drop_succ_cons, List.drop_zero, List.cons_append, List.nil_append, Nat.reduceAdd, Nat.reduceSub] at e
                      subst e
                      clear eS15
                      subst hJ
                      clear k1 l1 hs0 hs1 ht0 ht1
                      go_wp2
                      have hms : gw - (j + 1) < gw - j := by omega
                      refine ⟨⟨j + 1, (x.1 == y.1) && (x.2.toList == y.2.toList), rfl, rfl, hlt3, HX.out.1.drew, Lib.hid ?_⟩, hms⟩
                      obtain ⟨q1, q2⟩ := HX.out.2.2.2.1 (by first | trivial | rfl)
                      rw [Bool.and_eq_true, str_eq, beq_iff_eq]
                      constructor
                      · rintro ⟨q3, q4⟩
                        refine ⟨q1, fun i hi => ?_⟩
                        by_cases hik : i = j
                        · rw [hik, HX.out.2.1, HX.out.2.2.1, Prod.ext q3 q4]
                        · exact q2 i (by omega)
                      · rintro ⟨-, q3⟩
                        have := q3 j (by omega)
                        rw [HX.out.2.1, HX.out.2.2.1] at this
                        have := Option.some.inj this
                        exact ⟨congrArg Prod.fst this, congrArg Prod.snd this⟩
                  | false =>
                   as_aux_lemma =>
                    have HS := Lib.hid (same_disks HBr.out.disk HBr.out.disk2 (by have := HG.out.2.2.2.2.1.1; omega))
                    have HE2 := Lib.hid (HEnd.out (Or.inr rfl))
                    go_wp2_with fail
                    refine HS.out.mono ?_
                    rintro e wa ⟨r, rfl, hr, hba⟩
                    obtain rfl : r = false := Bool.eq_iff_iff.2 (hr.trans HE2.out.symm)
                    clear hr
                    go_wp2_with fail
                    refine (HK.out _).mono ?_
                    rintro e wb ⟨rfl, hbb⟩
                    go_wp2_with fail
                    go_ret
                    have s1 := hbr.size
                    have s2 := hba.size
                    exact ⟨rfl, HBN.out.1.trans (((hbr.trans (hba.mono s1)).trans (hbb.mono (by omega))).mono HBN.out.2)⟩
                · obtain rfl : j = gw := by omega
                  have hkk : ¬ (j : Int) < (j : Int) := by omega
                  cases c with
                  | true =>
                   as_aux_lemma =>
                    have HS := Lib.hid (same_disks HBr.out.disk HBr.out.disk2 (by have := HG.out.2.2.2.2.1.1; omega))
                    have HE2 := Lib.hid (HEnd.out (Or.inl rfl))
                    go_wp2_with fail
                    refine HS.out.mono ?_
                    rintro e wa ⟨r, rfl, hr, hba⟩
                    obtain rfl : r = true := Bool.eq_iff_iff.2 (hr.trans (by simpa using HE2.out.symm))
                    clear hr
                    go_wp2_with fail
                    refine (HK.out _).mono ?_
                    rintro e wb ⟨rfl, hbb⟩
                    go_wp2_with fail
                    go_ret
                    have s1 := hbr.size
                    have s2 := hba.size
                    exact ⟨rfl, HBN.out.1.trans (((hbr.trans (hba.mono s1)).trans (hbb.mono (by omega))).mono HBN.out.2)⟩
                  | false =>
                   as_aux_lemma =>
                    have HS := Lib.hid (same_disks HBr.out.disk HBr.out.disk2 (by have := HG.out.2.2.2.2.1.1; omega))
                    have HE2 := Lib.hid (HEnd.out (Or.inl rfl))
                    go_wp2_with fail
                    refine HS.out.mono ?_
                    rintro e wa ⟨r, rfl, hr, hba⟩
                    obtain rfl : r = false := Bool.eq_iff_iff.2 (hr.trans HE2.out.symm)
                    clear hr
                    go_wp2_with fail
                    refine (HK.out _).mono ?_
                    rintro e wb ⟨rfl, hbb⟩
                    go_wp2_with fail
                    go_ret
                    have s1 := hbr.size
                    have s2 := hba.size
                    exact ⟨rfl, HBN.out.1.trans (((hbr.trans (hba.mono s1)).trans (hbb.mono (by omega))).mono HBN.out.2)⟩
end Go.Proofs.Ytkophpipehdkmaa
/- DiskCopies: for every room and every two runs of calls the statement that a copy goes on apart, and that Same tells what is the same, answers true, and its arguments read afterwards as they did. No condition (the form's own bound on what one slice takes of memory keeps the sum of both lengths a number). -/
namespace Go.Proofs.Ytkophpipehdkmaa.diskCopies
open Go.ChangeShapes Go.WideShapes Go.ChangeAt Go.RowKit

section
variable {H : Type} {enc : TypeId × Value → H}
open Go.Deep in
/-- So many calls as a run of them can be: what one slice takes of memory is bounded by the form itself. -/
theorem few_acts {ts : List TypeId} {ds : List (DataW H)} {j : Nat} {d : DataW H} {ps : List MemPlace} {W : World} {a : Option Addr} {n c : Nat} (hsz : (DataW.weightsEach Try.prog ts ds).all (· ≤ reachBytes) = true) (ht : ts[j]? = some 22) (hd : ds[j]? = some d)
    (h : DataW.Trod enc Try.prog W 0 (fun _ => true) true 22 (.slice a n c) d ps) : n ≤ 70368744177664 := by
  obtain ⟨fuel, hf⟩ := h
  rcases open_slice Try.underlying22 hf with ⟨hcs, hx⟩ | ⟨a', len, cap, m, k, D, Pl, hcs, -, hl, -, hm, hx, -⟩
  · simp [Value.cells] at hcs
    obtain ⟨rfl, rfl, rfl⟩ := hcs
    omega
  · simp [Value.cells] at hcs
    obtain ⟨rfl, rfl, rfl⟩ := hcs
    have e := congrArg Prod.fst hx
    have h1 := sized_slice hsz ht (hd.trans (congrArg some e)) Try.underlying22
    have h2 : Try.prog.bytesOf 39 = 32 := by kernel_rfl
    rw [h2] at h1
    simp only [List.length_map, List.length_range, reachBytes] at h1
    omega
end
theorem own : ownKnob Try.prog.godebug = none := by kernel_rfl
theorem laidOut : laidOutB Try.prog = true := by kernel_rfl
theorem cellsU8 : Try.prog.cellsOf 5 = 1 := by kernel_rfl
theorem types_ok : ∀ t ∈ [3, 22], Try.prog.readableRec t = true ∧ t < Try.prog.types.size := by
  intro t ht
  have h : ([3, 22].all fun t => Try.prog.readableRec t && decide (t < Try.prog.types.size)) = true := by kernel_rfl
  have := List.all_eq_true.1 h t ht
  simpa using this
noncomputable def laidWorld (os : Os) : World := World.holding Try.prog os ⟨#[], #[], []⟩
theorem laid_met (os : Os) : laidMet Try.prog Rows.diskCopiesRow.laid ((laidWorld os).forCall (fun _ _ => 0) ⟨#[], #[.int .i64 0, .slice none 0 0, .slice none 0 0], []⟩).memory :=
  ⟨[], by first | exact .nil | trivial | rfl, List.nodup_nil, fun _ _ h => by cases h⟩
theorem reads (os : Os) {H : Type} (enc : TypeId × Value → H) : ∃ places, DataW.whole enc Try.prog ((laidWorld os).forCall (fun _ _ => 0) ⟨#[], #[.int .i64 0, .slice none 0 0, .slice none 0 0], []⟩).memory Try.f4.params.toList Rows.diskCopiesSpec.vars false #[.int .i64 0, .slice none 0 0, .slice none 0 0].toList 8 = some ([.lit (.int .i64 0), .nil, .nil], [], places) :=
  ⟨[], by kernel_rfl⟩

set_option maxRecDepth 100000 in
theorem contract (H : Type) (enc : TypeId × Value → H) (W : World) (base : Nat) (args : Array Value) (ds gs : List (DataW H)) (before : List MemPlace)
    (hval : ∀ (j : Nat) t v, Try.f4.params[j]? = some t → args[j]? = some v → Value.okWide Try.prog W .any base t v)
    (hW : DataW.Whole enc Try.prog Try.f4.params.toList Rows.diskCopiesSpec.vars false W args.toList ds gs before)
    (hsz : (DataW.weightsEach Try.prog (Try.f4.params.toList ++ (OpenSpec.ofChange Rows.diskCopiesSpec).bare.plain.varTypes Try.prog) (ds ++ gs)).all (· ≤ reachBytes) = true) :
    Calls Try.prog 4 args W fun e W' => ∃ v, e = .returned v ∧ Rows.diskCopiesSpec.post enc Try.prog Try.f4 false true false false W args v W' := by
  have hW' := hW
  obtain ⟨p, q, hA0, hV, rfl, hfz, hnd⟩ := hW
  have hA : DataW.TrodAll enc Try.prog W 0 (fun _ => true) true Try.f4.params.toList args.toList ds p := hA0
  rw [Try.params4] at hA hval hsz
  obtain ⟨v0, vs0, d0, ds0, p0, q0, hargs, rfl, rfl, h0, r0⟩ := trodAll_cons hA
  obtain ⟨v1, vs1, d1, ds1, p1, q1, rfl, rfl, rfl, h1, r1⟩ := trodAll_cons r0
  obtain ⟨v2, vs2, d2, ds2, p2, q2, rfl, rfl, rfl, h2, r2⟩ := trodAll_cons r1
  obtain ⟨rfl, rfl, rfl⟩ := trodAll_nil r2
  obtain rfl : args = #[v0, v1, v2] := by cases args; simp_all
  obtain ⟨rfl, rfl⟩ := trodVars_none hV
  obtain ⟨n, rfl, -, -, -⟩ := open_int Try.underlying3 (hval 0 3 v0 rfl rfl) h0
  obtain ⟨a1, L1, c1, rfl, -, -, hA1⟩ := open_acts (hval 1 22 v1 rfl rfl) h1
  obtain ⟨a2, L2, c2, rfl, -, -, hA2⟩ := open_acts (hval 2 22 v2 rfl rfl) h2
  have f1 := few_acts hsz (j := 1) rfl rfl h1
  have f2 := few_acts hsz (j := 2) rfl rfl h2
  refine (diskCopies_any n a1 L1 c1 a2 L2 c2 W f1 f2 hA1 hA2).mono fun e W' ⟨he, hb⟩ => ?_
  subst he
  exact ⟨_, rfl, law_post laidOut (fun t ht => types_ok t (by rw [Try.params4] at ht; revert ht; decide +revert)) rfl hW' rfl rfl rfl Try.underlying4 (by kernel_rfl) hb⟩

set_option maxRecDepth 100000 in
theorem lifted (os : Os) (started : os.Started) (H : Type) (enc : TypeId × Value → H) (F : Stop.Interp) :
    ReturnsInHanded {} Try.checked os 4 .any ((OpenSpec.ofChange Rows.diskCopiesSpec).preRow enc Try.prog Try.f4 Rows.diskCopiesRow.domain false Rows.diskCopiesRow.laid) (((OpenSpec.ofChange Rows.diskCopiesSpec).at F).post enc Try.prog Try.f4 false true false false) := by
  obtain ⟨places, hx⟩ := reads os enc
  refine returnsInHanded_of_row (C := Try.checked) (s := OpenSpec.ofChange Rows.diskCopiesSpec) own started (by kernel_rfl) Try.func4
    (witness_row_at (enc := enc) (C := Try.checked) false (laidWorld os) #[.int .i64 0, .slice none 0 0, .slice none 0 0] rfl (by kernel_rfl) (by kernel_rfl) (by kernel_rfl)
      (OpenSpec.preRow_of_cond 8 hx (by kernel_rfl) (fun k hk => by cases hk) (by kernel_rfl) (laid_met os))) ?_
  intro W base args ds gs before hval hW _ _ hsz _ _ _
  exact contract H enc W base args ds gs before hval hW hsz

theorem said : Rows.DiskCopiesSaid :=
  OpenClaim.holds_of_cond 4 Try.f4 rfl rfl rfl rfl rfl rfl rfl ⟨rfl, rfl, rfl, rfl, rfl⟩ rfl rfl rfl rfl rfl (by kernel_rfl) Try.func4 (by kernel_rfl)
    (of_decide_eq_true (by kernel_rfl)) (by unfold Func.isWrapper; first | (rw [if_pos (by decide +kernel)]; kernel_rfl) | (rw [if_neg (by decide +kernel)]; exact ⟨rfl, rfl⟩))
    (fun os started H enc _ F => by rw [OpenClaim.pre_eq_preRow]; exact lifted os started H enc F)

end Go.Proofs.Ytkophpipehdkmaa.diskCopies

/- Texts of the proof in one file, in build order: DiskFlushes, DiskFlushesSaid. -/
import Derived.Test.YtkophpipehdkmaaQ1
import Derived.Test.YtkophpipehdkmaaDskCrash
import Derived.Deep.Cut
import Derived.Deep.DeepCutAuto
import Derived.Deep.CutBlock
import Derived.Test.YtkophpipehdkmaaRows
import Derived.ProofKit
import Derived.OpenShut
import Derived.ChangeMaps5
import Derived.Deep.DeepHandedRow
import Derived.Test.YtkophpipehdkmaaKit
import Derived.Deep.Slices
import Derived.ChangeSame
import Derived.ChangeArms
import Derived.WideShapes
/- Layer 2: the law: behind a flush a crash leaves all as it is; ahead of one the picks that name the last writes do. -/
namespace Go.Proofs.Ytkophpipehdkmaa
open Go.RowKit

/-- Behind so many calls. -/
structure FlA (N : Nat) (w wr : World) (B k m : Nat) (L : List ActD) (d : Dsk) : Prop where
  disk : IsDisk N wr B d
  below : Below N w wr
  few : d.Few k
  calm : Calm d
  room : d.room = m
  waits : d.waits = waitsOf m (L.take k)
theorem FlA.step {N : Nat} {w wr w5 : World} {B k m : Nat} {L : List ActD} {d : Dsk} (h : FlA N w wr B k m L d) (hm : m ≤ 20) (hk : k < L.length) (h3 : (L.getD k default).k ≠ 3) (hS : IsDisk N w5 B (stepD d (L.getD k default)).1) (hK : Keeps N wr w5) : FlA N w w5 B (k + 1) m L (stepD d (L.getD k default)).1 := by
  have hc := calm_act h.calm h3 (by rw [h.room]; exact hm)
  refine ⟨hS, h.below.trans hK.below, h.few.act h.disk.ok _, hc.1, (stepD_room h.disk.ok _).trans h.room, ?_⟩
  rw [hc.2, h.room, h.waits, List.take_add_one, List.getD_eq_getElem?_getD, List.getElem?_eq_getElem hk]
  exact (waitsOf_snoc m _ _).symm
theorem FlA.skip {N : Nat} {w wr : World} {B k m : Nat} {L : List ActD} {d : Dsk} (h : FlA N w wr B k m L d) (hk : k < L.length) (h3 : (L.getD k default).k = 3) : FlA N w wr B (k + 1) m L d := by
  refine ⟨h.disk, h.below, h.few.mono (Nat.le_succ _), h.calm, h.room, ?_⟩
  rw [List.getD_eq_getElem?_getD, List.getElem?_eq_getElem hk] at h3
  rw [h.waits, List.take_add_one, List.getElem?_eq_getElem hk]
  show _ = waitsOf m (_ ++ [_])
  rw [waitsOf_snoc]
  exact (calm_skip h3).symm
/-- Of the calls from number j on: how often each page is written. -/
structure BackI (m M : Nat) (wo wr : World) (L : List ActD) (j : Nat) (f : Nat → Option Value) : Prop where
  map : IntMap Try.prog 3 wr M f
  is : ∀ p, (f p).getD (.int .i64 0) = .int .i64 (cnt m (L.drop j) p)
  no : ∀ a ∈ L.drop j, a.k ≠ 2
  below : Below wo.heap.size wo wr
/-- The picks so far, as the law keeps them, beside its map. -/
structure AllI (M S : Nat) (wo wr : World) (f : Nat → Option Value) (v : Value) (l : List Int) : Prop where
  own : OwnI wr S v l
  map : IntMap Try.prog 3 wr M f
  below : Below wo.heap.size wo wr
  size : S ≤ wr.heap.size
theorem zeroIntw (w : World) : (zeroValue 3).run Try.prog w = .ok (.int .i64 0) w := (zero_of_info (show (Try.prog.info? 3).map (fun i => (i.zero, i.size)) = some (some (.int .i64 0), 1) by kernel_rfl)).1 w
/-- How often each page is written of what waits. -/
structure BackE (M : Nat) (wo wr : World) (ws : List (Nat × Page)) (f : Nat → Option Value) : Prop where
  map : IntMap Try.prog 3 wr M f
  is : ∀ p, (f p).getD (.int .i64 0) = .int .i64 ((wrote ws p).length : Nat)
  below : Below wo.heap.size wo wr
theorem drop_one {L : List ActD} {q : Nat} (h : q < L.length) : L.drop q = L.getD q default :: L.drop (q + 1) := by
  rw [List.drop_eq_getElem_cons h, List.getD_eq_getElem?_getD, List.getElem?_eq_getElem h]; rfl
theorem BackI.skip {m M : Nat} {wo wr w' : World} {L : List ActD} {q : Nat} {f : Nat → Option Value} (h : BackI m M wo wr L (q + 1) f) (hq : q < L.length) (h2 : (L.getD q default).k ≠ 2) (hf : ¬ Fits m (L.getD q default)) (hb : Below wr.heap.size wr w') : BackI m M wo w' L q f := by
  refine ⟨h.map.below hb h.map.lt, fun p => ?_, fun a ha => ?_, h.below.trans (hb.mono h.below.size)⟩
  · rw [drop_one hq, cnt_cons, if_neg (fun x => hf x.1)]; exact h.is p
  · rw [drop_one hq] at ha
    rcases List.mem_cons.1 ha with rfl | ha
    · exact h2
    · exact h.no a ha
theorem BackI.put {m M p : Nat} {wo wr w' : World} {L : List ActD} {q : Nat} {f : Nat → Option Value} (h : BackI m M wo wr L (q + 1) f) (hq : q < L.length) (h2 : (L.getD q default).k ≠ 2) (hf : Fits m (L.getD q default)) (hp : (L.getD q default).p = (p : Int)) (hm : IntMap Try.prog 3 w' M (putAt f p (.int .i64 ((cnt m (L.drop (q + 1)) p : Nat) + 1)))) (hb : Below wo.heap.size wo w') :
    BackI m M wo w' L q (putAt f p (.int .i64 ((cnt m (L.drop (q + 1)) p : Nat) + 1))) := by
  refine ⟨hm, fun r => ?_, fun a ha => ?_, hb⟩
  · rw [drop_one hq, cnt_cons]
    unfold putAt
    by_cases hr : r = p
    · subst hr
      rw [if_pos rfl, if_pos ⟨hf, by rw [hp]; rfl⟩]; rfl
    · rw [if_neg hr, if_neg (fun x => hr (by have := x.2; rw [hp] at this; exact this.symm))]; exact h.is r
  · rw [drop_one hq] at ha
    rcases List.mem_cons.1 ha with rfl | ha
    · exact h2
    · exact h.no a ha
set_option maxRecDepth 100000 in
set_option maxHeartbeats 8000000 in
theorem diskFlushes_any (n : Int) (aa : Option Addr) (L : List ActD) (ac : Nat) (sv : Value) (picks : List Int) (w : World) (hL : L.length ≤ 9223372036854775807) (hp : PickV w w.heap.size sv picks) (hA : ActsAt w.heap.size w aa L) (hpl : picks.length ≤ 9223372036854775807) :
    Calls Try.prog 5 #[.int .i64 n, .slice aa L.length ac, sv] w fun e w' => e = .returned (.bool true) ∧ Below w.heap.size w w' := by
  have HK := Lib.hid known_any
  have HPV := Lib.hid hp
  have HA := Lib.hid hA
  obtain ⟨pa, pc, rfl, hpc, hpcs⟩ := hp
  clear hpc hpcs hA
  by_cases h1 : (40 : Int) < L.length
  · go_enter Try.func5, Try.ntmps5
    go_wp2_with (go_at_call 6; refine (HK.out _).mono ?_; rintro e w' ⟨rfl, hb⟩)
    go_ret
    exact ⟨rfl, hb⟩
  by_cases h2 : (60 : Int) < picks.length
  · go_enter Try.func5, Try.ntmps5
    go_wp2_with (go_at_call 6; refine (HK.out _).mono ?_; rintro e w' ⟨rfl, hb⟩)
    go_ret
    exact ⟨rfl, hb⟩
  by_cases h3 : 20 < n
  · go_enter Try.func5, Try.ntmps5
    go_wp2_with (go_at_call 6; refine (HK.out _).mono ?_; rintro e w' ⟨rfl, hb⟩)
    go_ret
    exact ⟨rfl, hb⟩
  by_cases hok : n < 2
  · have HNo := Lib.hid (show n < 2 ∨ 4096 < n from Or.inl hok)
    clear hok
    go_enter Try.func5, Try.ntmps5
    go_wp2_with fail
    refine (new_no n HNo.out w).mono ?_
    rintro e w1 ⟨rfl, rfl⟩
    go_wp2_with fail
    refine (HK.out _).mono ?_
    rintro e w3 ⟨rfl, hb3⟩
    go_wp2_with fail
    go_ret
    exact ⟨rfl, hb3⟩
  obtain ⟨m, rfl⟩ : ∃ m : Nat, n = m := ⟨n.toNat, by omega⟩
  have hm2 : 2 ≤ m := by omega
  have hm20 : m ≤ 20 := by omega
  have HM := Lib.hid (And.intro hm2 hm20)
  have HL := Lib.hid (show L.length ≤ 40 ∧ picks.length ≤ 60 by omega)
  clear hok
  go_enter Try.func5, Try.ntmps5
  go_wp2_with fail
  refine (new_yes m HM.out.1 (by have := HM.out.2; omega) w).mono ?_
  rintro e w1 ⟨B, rfl, hD1, hb1⟩
  have HP1 : Hid (FlA w.heap.size w w1 B 0 m L (Dsk.new m)) := Lib.hid ⟨hD1, hb1, Dsk.Few.new m, ⟨rfl, rfl⟩, by show (List.replicate m noughts).length = m; simp, rfl⟩
  generalize Dsk.new m = d0 at HP1
  clear hD1 hb1
  go_wp2_with fail
  clear hm2 hm20 h1 h2 h3
  go_loopw [9, 48, 49, 50, 51, 52, 53, 54, 55, 56, 57, 58, 59, 60, 61, 62, 63, 64, 65, 66, 67, 68] (fun x _ _ _ _ _ _ _ _ _ _ _ _ _ _ _ _ _ _ _ _ _ wr => ∃ (k : Nat) (d : Dsk), x = .int .i64 k ∧ k ≤ L.length ∧ Hid (FlA w.heap.size w wr B k m L d))
    (fun x _ _ _ _ _ _ _ _ _ _ _ _ _ _ _ _ _ _ _ _ _ _ => L.length - (intOf x).toNat)
  case atStart => exact ⟨0, d0, rfl, Nat.zero_le _, HP1⟩
  case round =>
    clear HP1
    obtain ⟨k, d, rfl, hk, HP⟩ := hrel
    by_cases hlt : k < L.length
    · as_aux_lemma =>
      obtain ⟨b, off, rfl, hb, hc⟩ := HA.out (by rintro rfl; simp at hlt)
      obtain ⟨hca, hao⟩ := hc k hlt
      clear hc
      obtain ⟨a, ha⟩ : ∃ a, L.getD k default = a := ⟨_, rfl⟩
      rw [ha] at hca hao
      have hca := hca.below HP.out.below hb
      by_cases h3 : a.k = 3
      · obtain ⟨hx0, -, -, -⟩ := hca
        rw [h3] at hx0
        have HE := Lib.hid (HP.out.skip hlt (by rw [ha]; exact h3))
        clear ha hao h3
        go_wp2
        exact ⟨⟨k + 1, d, by go_num, by omega, HE⟩, by simp [intOf]; omega⟩
      · have hn := HP.out.disk.n_le
        have hz : Below wr.heap.size wr (wr.alloc (strsRow m)) := (Below.refl _ _).alloc (Nat.le_refl _) _
        have hcz := hca.below hz (by omega)
        obtain ⟨hx0, hx1, hx2, hx3⟩ := hca
        obtain ⟨hy0, hy1, hy2, hy3⟩ := hcz
        have hne : (a.k != 3) = true := by simpa using h3
        have hfw : d.Few 1000000 := HP.out.few.mono (by have := HL.out; omega)
        have hbz : Below wr.heap.size wr (wr.alloc (strsRow m)).drew := (hz.drew)
        have hrz : (wr.alloc (strsRow m)).drew.heap[wr.heap.size]? = some (strsRow m) := heap_alloc_new wr _
        have hms := make_strs m (by have := HM.out.2; omega)
        have hbd := fun w a => build_gd w a m m
        have HC := Lib.hid (does_loose (HP.out.disk.below hbz) (isG_none hrz (by have := HM.out.2; omega)) rfl hfw a hao)
        have HT := Lib.hid (fun w5 (hS : IsDisk w.heap.size w5 B (stepD d a).1) (hK : Keeps w.heap.size (wr.alloc (strsRow m)).drew w5) => HP.out.step HM.out.2 hlt (by rw [ha]; exact h3) (by rw [ha]; exact hS) ((Keeps.of_below hbz hn).trans hK))
        rw [ha] at HT
        rw [gnone_v] at HC
        unfold ActD.v actV at HC
        clear ha hao h3 hfw hbz hrz hz hn
        generalize (stepD d a).1 = d' at HC HT
        go_wp2
        go_region_with (go_at_call 8; refine HC.out.mono ?_; rintro e w5 ⟨x5, y5, rfl, hS5, hK5⟩; have HE := Lib.hid (HT.out w5 hS5 hK5); clear hS5 hK5)
        go_wp2
        all_goals exact ⟨⟨k + 1, d', by go_num, by omega, HE⟩, by simp [intOf]; omega⟩
    · obtain ⟨wo, hwo⟩ : ∃ x, x = wr := ⟨wr, rfl⟩
      subst hwo
      obtain rfl : k = L.length := by omega
      have hmm := @run_makeMap Try.prog
      have hL40 : L.length ≤ 40 := HL.out.1
      go_upto_block 2 with (fail)
      clear hmm
      obtain ⟨W0, hW0⟩ : ∃ W, wo.alloc (.map #[] 0) = W := ⟨_, rfl⟩
      obtain ⟨M, hM⟩ : ∃ M, wo.heap.size = M := ⟨_, rfl⟩
      rw [hW0, hM]
      have HB0 : Hid (BackI m M wo W0 L L.length (fun _ => none)) := Lib.hid ⟨by rw [← hW0, ← hM]; exact IntMap.made wo, fun p => by rw [List.drop_length]; rfl, (fun a ha => by rw [List.drop_length] at ha; cases ha), by rw [← hW0]; exact (Below.refl _ wo).alloc (Nat.le_refl _) _⟩
      have HMw := Lib.hid hM
      clear hW0 hM hlt hk
      go_cut [11] (fun _ wx => ∃ f, Hid (BackE M wo wx d.waits f))
      case first =>
        as_aux_lemma =>
        go_wp2_with fail
        go_loopw [11, 73, 74, 75, 76, 77, 78, 79, 80, 81, 82, 83, 84, 85, 86, 87, 88, 89, 90, 91, 92, 93, 94, 95, 96, 97, 98, 99, 100, 101, 102, 103, 104, 105, 106, 107, 108, 109, 110, 111, 112, 113, 114, 115, 116, 117, 118, 119, 120, 121, 122, 123, 124] (fun x _ _ _ _ _ _ _ _ _ _ _ _ _ _ _ _ _ _ _ _ _ _ _ _ _ _ _ _ _ _ _ _ _ _ _ _ _ _ _ _ _ _ _ _ _ _ _ _ _ _ _ _ wr => ∃ (j : Nat) (f : Nat → Option Value), x = .int .i64 ((j : Int) - 1) ∧ j ≤ L.length ∧ Hid (BackI m M wo wr L j f))
          (fun x _ _ _ _ _ _ _ _ _ _ _ _ _ _ _ _ _ _ _ _ _ _ _ _ _ _ _ _ _ _ _ _ _ _ _ _ _ _ _ _ _ _ _ _ _ _ _ _ _ _ _ _ _ => (intOf x + 1).toNat)
        case atStart => exact ⟨L.length, _, by first | rfl | go_num, Nat.le_refl _, HB0⟩
        case round =>
          clear HB0
          obtain ⟨j, f, rfl, hj, HB⟩ := hrel
          rcases Nat.eq_zero_or_pos j with rfl | hjp
          · have HE : Hid (BackE M wo wr d.waits f) := Lib.hid ⟨HB.out.map, fun p => by rw [HP.out.waits, List.take_length, wrote_cnt (Nat.zero_le _) HB.out.no (Or.inl rfl)]; exact HB.out.is p, HB.out.below⟩
            go_wp2_with fail
            go_meet
            exact ⟨f, HE⟩
          · obtain ⟨q, rfl⟩ : ∃ q, j = q + 1 := ⟨j - 1, by omega⟩
            have eq1 : (((q + 1 : Nat) : Int) - 1) = (q : Int) := by omega
            rw [eq1]
            clear eq1 hjp
            have hq : q < L.length := by omega
            obtain ⟨b, off, rfl, hb, hc⟩ := HA.out (by rintro rfl; simp at hq)
            obtain ⟨hca, hao⟩ := hc q hq
            clear hc
            obtain ⟨a, ha⟩ : ∃ a, L.getD q default = a := ⟨_, rfl⟩
            rw [ha] at hca hao
            have hca := hca.below (HP.out.below.trans (HB.out.below.mono HP.out.disk.n_le)) hb
            obtain ⟨hx0, hx1, hx2, hx3⟩ := hca
            have hw1 : wrap64 ((q : Int) - 1) = (q : Int) - 1 := by unfold wrap64; omega
            by_cases hk2 : a.k = 2
            · have hga : L[q]? = some a := by rw [← ha, List.getD_eq_getElem?_getD, List.getElem?_eq_getElem hq]; rfl
              have HE : Hid (BackE M wo wr d.waits f) := Lib.hid ⟨HB.out.map, fun p => by rw [HP.out.waits, List.take_length, wrote_cnt (by omega : q + 1 ≤ L.length) HB.out.no (Or.inr ⟨a, hga, hk2, by omega⟩)]; exact HB.out.is p, HB.out.below⟩
              rw [hk2] at hx0
              clear ha hao hga hk2
              go_wp2_with fail
              go_meet
              exact ⟨f, HE⟩
            have hn2 : (a.k != 2) = true := by simpa using hk2
            have HSk := Lib.hid (fun (hf : ¬ Fits m a) w' (hb : Below wr.heap.size wr w') => HB.out.skip hq (by rw [ha]; exact hk2) (by rw [ha]; exact hf) hb)
            by_cases hk1 : a.k = 1
            case neg =>
              have hn1 : (a.k == 1) = false := by simpa using hk1
              have HE := Lib.hid (HSk.out (fun x => hk1 x.1) wr (Below.refl _ _))
              clear ha hao hk2 hk1
              go_wp2_with fail
              exact ⟨⟨q, f, by first | rfl | go_num, by omega, HE⟩, by first | (simp [intOf]; done) | (simp [intOf]; omega)⟩
            rw [hk1] at hx0 hn2
            by_cases hp0 : 0 ≤ a.p
            case neg =>
              have HE := Lib.hid (HSk.out (fun x => hp0 x.2.1) wr (Below.refl _ _))
              have hd0 : decide (0 ≤ a.p) = false := decide_eq_false hp0
              clear ha hao hk2 hk1
              go_wp2_with fail
              exact ⟨⟨q, f, by first | rfl | go_num, by omega, HE⟩, by first | (simp [intOf]; done) | (simp [intOf]; omega)⟩
            obtain ⟨p, hp⟩ : ∃ p : Nat, a.p = p := ⟨a.p.toNat, by omega⟩
            rw [hp] at hx1
            clear hp0
            by_cases hpm : p < m
            case neg =>
              have HE := Lib.hid (HSk.out (fun x => hpm (by have := x.2.2.1; omega)) wr (Below.refl _ _))
              have hd0 : ¬ (p : Int) < (m : Int) := by omega
              have hd1 : decide ((p : Int) < (m : Int)) = false := decide_eq_false hd0
              clear ha hao hk2 hk1
              go_wp2_with fail
              exact ⟨⟨q, f, by first | rfl | go_num, by omega, HE⟩, by first | (simp [intOf]; done) | (simp [intOf]; omega)⟩
            have hpm' : (p : Int) < (m : Int) := by omega
            have HBy := Lib.hid (actBytes_any a.k a.p a.x a.r wr)
            unfold actV at HBy
            rw [hk1, hp] at HBy
            by_cases hx : a.x.toNat = 255
            · have hl256 : ((((actL (p : Int) a.x).length : Nat) : Int) == 256) = false := by
                have := actL_short (p := (p : Int)) hx (by have := HM.out.2; omega)
                simpa using (by omega : ¬ (((actL (p : Int) a.x).length : Nat) : Int) = 256)
              have HE := Lib.hid (HSk.out (fun x => x.2.2.2 hx))
              clear ha hao hk2 hk1 hx
              go_wp2_with fail
              refine HBy.out.mono ?_
              rintro e w6 ⟨g6, rfl, -, -, hb6⟩
              have HE6 := Lib.hid (HE.out w6 hb6)
              clear hb6
              go_wp2_with fail
              exact ⟨⟨q, f, by first | rfl | go_num, by omega, HE6⟩, by first | (simp [intOf]; done) | (simp [intOf]; omega)⟩
            · have hl256 : (actL (p : Int) a.x).length = 256 := actL_len hx
              have HFit := Lib.hid (show Fits m a from ⟨hk1, by omega, by omega, hx⟩)
              unfold ActPost at HBy
              rw [hl256] at HBy
              clear hl256
              have HBm := Lib.hid (And.intro HB.out.map (And.intro HB.out.below (HB.out.is p)))
              have hcl := cnt_le m (L.drop (q + 1)) p
              rw [List.length_drop] at hcl
              have HPut := Lib.hid (fun w7 hM7 hb7 => HB.out.put (w' := w7) (p := p) hq (by rw [ha]; exact hk2) (by rw [ha]; exact HFit.out) (by rw [ha]; exact hp) hM7 hb7)
              obtain ⟨c, hc⟩ : ∃ c, cnt m (L.drop (q + 1)) p = c := ⟨_, rfl⟩
              rw [hc] at HPut HBm hcl
              have hw2 : wrap64 ((c : Int) + 1) = (c : Int) + 1 := by unfold wrap64; omega
              have HN := Lib.hid HP.out.disk.n_le
              clear ha hao hk2 hk1 hc hx
              go_wp2_with fail
              refine HBy.out.mono ?_
              rintro e w6 ⟨g6, rfl, -, -, hb6⟩
              have hM6 := HBm.out.1.below hb6 HBm.out.1.lt
              have hx1 := (hb6.cell (p := ⟨b, off + q * 4 + 1, none⟩) (Nat.lt_of_lt_of_le hb (Nat.le_trans HN.out HBm.out.2.1.size))).trans hx1
              have hp20 : p < 4096 := by have := HM.out.2; omega
              have hlk := hM6.look Try.underlying3 Try.underlying52 zeroIntw p (by omega) false
              simp only [Bool.false_eq_true, if_false, HBm.out.2.2] at hlk
              have hb6' := HBm.out.2.1.trans (hb6.mono HBm.out.2.1.size)
              have H6 := Lib.hid hb6'
              clear hb6 hb6' hx0 hx2 hx3
              go_wp2_with (refine wpList_update rfl _ _ _ rfl Try.underlying3 Try.underlying52 hM6 rfl p hp20 rfl ?_; intro w7 hM7 hG7)
              have hM7 : IntMap Try.prog 3 w7 M (putAt f p (.int .i64 ((c : Int) + 1))) := by
                refine cast (congrArg (fun v => IntMap Try.prog 3 w7 M (putAt f p v)) ?_) hM7
                first | rfl | (show Value.int .i64 (wrap64 ((c : Int) + 1)) = _; rw [hw2]) | (show Value.int .i64 (IntKind.i64.wrap ((c : Int) + 1)) = _; rw [IntKind.wrap_i64]; exact congrArg _ hw2)
              have HE := Lib.hid (HPut.out w7 hM7 (H6.out.grown hG7 H6.out.size (fun k e => by cases e; rw [HMw.out]; exact Nat.le_refl _)))
              exact ⟨⟨q, _, by first | rfl | go_num, by omega, HE⟩, by first | (simp [intOf]; done) | (simp [intOf]; omega)⟩
      case rest =>
      obtain ⟨f, HBE⟩ := hcut
      clear HB0
      obtain ⟨wb, hwb⟩ : ∃ x, x = wc := ⟨wc, rfl⟩
      subst hwb
      obtain ⟨mf, hmf⟩ : ∃ mf : Nat → Nat, ∀ p, mf p = (wrote d.waits p).length := ⟨_, fun _ => rfl⟩
      have HF := Lib.hid (show (∀ p, (f p).getD (.int .i64 0) = .int .i64 (mf p : Nat)) ∧ (∀ p, mf p ≤ 40) from ⟨fun p => by rw [hmf]; exact HBE.out.is p, fun p => by
        rw [hmf]
        exact Nat.le_trans (by unfold wrote; rw [List.length_map]; exact List.length_filter_le _ _) (Nat.le_trans HP.out.few.1 HL.out.1)⟩)
      have HMf := Lib.hid hmf
      clear hmf
      obtain ⟨S, hS⟩ : ∃ S, wb.heap.size = S := ⟨_, rfl⟩
      have HS := Lib.hid (And.intro hS (show M < S by rw [← hS]; exact HBE.out.map.lt))
      have HA0 : Hid (AllI M S wo wb f (.slice none 0 0) (allOf mf 0)) := Lib.hid ⟨OwnI.nil _ _, HBE.out.map, HBE.out.below, by rw [← hS]; exact Nat.le_refl _⟩
      clear hS
      go_wp2_with fail
      go_loopw [12, 13, 14, 125, 126, 127, 128, 129, 130, 131, 132, 133, 134, 135, 136, 137, 138, 139, 140, 141, 142, 143, 144, 145] (fun v x _ _ _ _ _ _ _ _ _ _ _ _ _ _ _ _ _ _ _ _ _ _ wr => ∃ q : Nat, x = .int .i64 q ∧ q ≤ m ∧ Hid (AllI M S wo wr f v (allOf mf q)))
        (fun _ x _ _ _ _ _ _ _ _ _ _ _ _ _ _ _ _ _ _ _ _ _ _ _ => m - (intOf x).toNat)
      case atStart => exact ⟨0, rfl, Nat.zero_le _, HA0⟩
      case round =>
        clear HA0
        obtain ⟨v, hv⟩ : ∃ v, v = u12 := ⟨_, rfl⟩
        subst hv
        obtain ⟨wi, hwi⟩ : ∃ x, x = wr := ⟨_, rfl⟩
        subst hwi
        obtain ⟨q, rfl, hq, HAl⟩ := hrel
        by_cases hqm : q < m
        · as_aux_lemma =>
          have hqm' : (q : Int) < (m : Int) := by omega
          have hms : m - (q + 1) < m - q := by omega
          have hw1 : wrap64 ((q : Int) + 1) = ((q + 1 : Nat) : Int) := by have := HM.out.2; unfold wrap64; omega
          obtain ⟨c, hc⟩ : ∃ c, mf q = c := ⟨_, rfl⟩
          have hc40 : c ≤ 40 := by rw [← hc]; exact HF.out.2 q
          have HC := Lib.hid hc
          have hcz := HF.out.1 q
          rw [hc] at hcz
          have HCz := Lib.hid hcz
          have HD0 : Hid (AllI M S wo wi f v (allOf mf q ++ List.replicate 0 (c : Int))) := by simpa using HAl
          have hal := allOf_le mf q
          have HAL := Lib.hid hal
          clear hc hcz hal
          go_wp2_with fail
          go_loopw [12, 14, 130, 131, 132, 133, 134, 135, 136, 137, 138, 139, 140, 141, 142, 143, 144, 145] (fun v x _ _ _ _ _ _ _ _ _ _ _ _ _ _ _ _ wr => ∃ t : Nat, x = .int .i64 t ∧ t ≤ 4 ∧ (c = 0 → t = 0) ∧ Hid (AllI M S wo wr f v (allOf mf q ++ List.replicate t (c : Int))))
            (fun _ x _ _ _ _ _ _ _ _ _ _ _ _ _ _ _ _ _ => 4 - (intOf x).toNat)
          case atStart => exact ⟨0, rfl, Nat.zero_le _, fun _ => rfl, HD0⟩
          case round =>
            clear HD0
            obtain ⟨t, rfl, ht4, ht0, HAt⟩ := hrel
            have hlk := (HAt.out.map).look Try.underlying3 Try.underlying52 zeroIntw q (by have := HM.out.2; omega) false
            simp only [Bool.false_eq_true, if_false, HCz.out] at hlk
            by_cases hgo : t < 4 ∧ 0 < c
            · obtain ⟨ht, hc0⟩ := hgo
              have ht' : (t : Int) < 4 := by omega
              have hc0' : (0 : Int) < (c : Int) := by omega
              have hw2 : wrap64 ((t : Int) + 1) = ((t + 1 : Nat) : Int) := by unfold wrap64; omega
              have hq20 := HM.out.2
              obtain ⟨W1, hW1⟩ : ∃ W, wr.alloc (.cells #[.int .i64 (c : Int)] 3) = W := ⟨_, rfl⟩
              have hb1 : Below wr.heap.size wr W1 := by rw [← hW1]; exact (Below.refl _ wr).alloc (Nat.le_refl _) _
              have hx1 : W1.cell? ⟨wr.heap.size, 0, none⟩ = some (.int .i64 (c : Int)) := by
                have : W1.heap[wr.heap.size]? = some (.cells #[.int .i64 (c : Int)] 3 (0, 0)) := by rw [← hW1]; exact heap_alloc_new wr _
                exact cell_of_row W1 _ 0 _ _ _ this
              obtain ⟨v', w', hr, hO2, hG2⟩ := app_int W1 23 S (Nat.le_trans HAt.out.size hb1.size) u12 _ (HAt.out.own.below hb1) wr.heap.size c hx1 (by have := HAL.out; simp only [List.length_append, List.length_replicate]; omega)
              have HE : Hid (AllI M S wo w' f v' (allOf mf q ++ List.replicate (t + 1) (c : Int))) := Lib.hid ⟨by rw [List.append_assoc, ← List.replicate_succ'] at hO2; exact hO2,
                (HAt.out.map.below hb1 HAt.out.map.lt).kept hG2 (fun e => by have := (HAt.out.own.own e.symm).1; have := HS.out.2; omega),
                (HAt.out.below.trans (hb1.mono HAt.out.below.size)).grown hG2 (Nat.le_trans HAt.out.below.size hb1.size) (fun k e => by have := (HAt.out.own.own e).1; have := HS.out.2; have := HMw.out; omega), Nat.le_trans HAt.out.size (Nat.le_trans hb1.size hG2.size)⟩
              clear hb1 hx1 hO2 hG2
              subst hW1
              go_wp2_with (at_builtin; refine wpList_append_val rfl rfl rfl rfl hr ?_)
              exact ⟨⟨t + 1, by first | rfl | go_num, by omega, fun e => by omega, HE⟩, by first | (simp [intOf]; done) | (simp [intOf]; omega)⟩
            · have HE : Hid (AllI M S wo wr f u12 (allOf mf (q + 1))) := Lib.hid (by
                have h1 := HAt.out
                rw [allOf_succ, HC.out]
                by_cases hc0 : 0 < c
                · obtain rfl : t = 4 := by omega
                  rw [if_pos hc0]; exact h1
                · obtain rfl : t = 0 := ht0 (by omega)
                  rw [if_neg hc0]; exact h1)
              by_cases ht : t < 4
              · have hn : ¬ (0 : Int) < (c : Int) := by omega
                have hd : decide ((0 : Int) < (c : Int)) = false := decide_eq_false hn
                have ht' : (t : Int) < 4 := by omega
                clear hgo
                go_wp2_with fail
                rw [hw1]
                exact ⟨⟨q + 1, rfl, hqm, HE⟩, hms⟩
              · obtain rfl : t = 4 := by omega
                clear hgo
                go_wp2_with fail
                rw [hw1]
                exact ⟨⟨q + 1, rfl, hqm, HE⟩, hms⟩
        · have e : q = m := by omega
          subst e
          have hkk : ¬ (q : Int) < (q : Int) := by omega
          have hfd : d.Few 1000000 := HP.out.few.mono (by have := HL.out.1; omega)
          have hcrp := crash_flushed HP.out.calm picks (p := 0) (by rw [HP.out.room]; have := HM.out.1; omega)
          have hz : d.flush.2 = 0 := hcrp.2
          have hpg : ∀ p, p < q → (d.crash (allOf mf q)).page p = d.page p ∧ ((d.flush.1).crash picks).page p = d.page p := fun p hp => by
            have h1 := crash_all HP.out.disk.ok HMf.out (p := p) (by rw [HP.out.room]; exact hp)
            rw [HP.out.room] at h1
            exact ⟨h1, (crash_flushed HP.out.calm picks (by rw [HP.out.room]; exact hp)).1⟩
          have hrm : (d.crash (allOf mf q)).room = q ∧ ((d.flush.1).crash picks).room = q := by
            have hs := calm_step HP.out.calm
            have he : d.flush.1.room = d.room := by
              unfold Dsk.flush; rw [hs, if_pos rfl]; simp [Dsk.room, applied]
            have h2 : ∀ (e : Dsk) pk, (e.crash pk).room = e.room := fun e pk => by simp [Dsk.crash, Dsk.room]
            rw [h2, h2, he, HP.out.room]; exact ⟨rfl, rfl⟩
          have hff := hfd.mono (show 1000000 ≤ 2147483648 by decide)
          have hfl : d.flush.1.Few 2000000 := (hfd.flush HP.out.disk.ok).mono (by decide)
          have hDi := HP.out.disk.below HAl.out.below
          have HCr := Lib.hid (crash_disk hDi (allOf mf q) HAl.out.own.picks (by have := hfd.1; omega))
          generalize d.crash (allOf mf q) = dC at hpg hrm HCr
          have HG := Lib.hid (And.intro hpg (And.intro hrm (And.intro hff (And.intro hfl (And.intro hDi (And.intro HAl.out.below HP.out.disk.n_le))))))
          have HZ := Lib.hid hz
          clear hpg hrm hff hfl hDi hcrp hfd hq hqm hz
          go_wp2_with fail
          refine HCr.out.mono ?_
          rintro e w6 ⟨C, rfl, hC6, hb6⟩
          have hD6 := HG.out.2.2.2.2.1.below hb6
          have HCp := Lib.hid (copy_disk hD6 HG.out.2.2.1)
          have H6 := Lib.hid (And.intro hC6 (And.intro hD6 hb6))
          clear hC6 hD6 hb6
          go_wp2_with fail
          refine HCp.out.mono ?_
          rintro e w7 ⟨rfl, hO7, hb7⟩
          obtain ⟨S6, hS6⟩ : ∃ s, w6.heap.size = s := ⟨_, rfl⟩
          rw [hS6] at hO7 ⊢
          have hfls := flush_disk hO7 HG.out.2.2.1
          rw [HZ.out] at hfls
          have HFl := Lib.hid hfls
          have H7 := Lib.hid (And.intro hS6 hb7)
          clear hO7 hfls hS6 hb7
          go_wp2_with fail
          refine HFl.out.mono ?_
          rintro e w8 ⟨rfl, hO8, hK8⟩
          have hz6 := H7.out.2.size
          rw [H7.out.1] at hz6
          have hb8 : Below S6 w6 w8 := by have := H7.out.2; rw [H7.out.1] at this; exact this.trans hK8.below
          have hN6 : w.heap.size ≤ w6.heap.size := Nat.le_trans HG.out.2.2.2.2.2.2 (Nat.le_trans HG.out.2.2.2.2.2.1.size H6.out.2.2.size)
          have hb06 : Below w.heap.size w w6 := (HP.out.below.trans (HG.out.2.2.2.2.2.1.mono HG.out.2.2.2.2.2.2)).trans (H6.out.2.2.mono (Nat.le_trans HG.out.2.2.2.2.2.2 HG.out.2.2.2.2.2.1.size))
          have hb08 : Below w.heap.size w w8 := hb06.trans (hb8.mono (by rw [← H7.out.1]; exact hN6))
          have HX := Lib.hid (crash_disk hO8 picks ((HPV.out.below hb08 (Nat.le_refl _)).mono hb08.size) (by have := HG.out.2.2.2.1.1; omega))
          have H8 := Lib.hid (And.intro hb8 (And.intro hb08 hb06))
          clear hb8 hb08 hb06 hN6 hz6 hO8 hK8
          generalize (d.flush.1).crash picks = dX at HG HX
          go_wp2_with fail
          refine HX.out.mono ?_
          rintro e w9 ⟨X, rfl, hX9, hb9⟩
          have hs68 : S6 ≤ w8.heap.size := by have := H8.out.1.size; have := H7.out.1; omega
          have hb69 : Below w6.heap.size w6 w9 := by rw [H7.out.1]; exact H8.out.1.trans (hb9.mono hs68)
          have HW := Lib.hid (fun W (hb : Below w9.heap.size w9 W) => (show IsDisk w.heap.size W B d ∧ IsDisk _ W C dC ∧ IsDisk _ W X dX from ⟨(H6.out.2.1.below hb69).below hb, (H6.out.1.below hb69).below hb, hX9.below hb⟩))
          have HB9 := Lib.hid (show Below w.heap.size w w9 ∧ w.heap.size ≤ w9.heap.size from ⟨H8.out.2.1.trans (hb9.mono H8.out.2.1.size), Nat.le_trans H8.out.2.1.size hb9.size⟩)
          clear hX9 hb9 hs68 hb69
          go_wp2_with fail
          go_loopw [20, 21, 22, 23, 24, 25, 26, 167, 168, 169, 170, 171, 172, 173, 174, 175, 176, 177, 178, 179, 180, 181, 182, 183, 184, 185, 186, 187, 188, 189, 190, 191, 192, 193, 194, 195, 196, 197, 198, 199, 200, 201, 202, 203, 204, 205, 206, 207, 208, 209] (fun x _ _ _ _ _ _ _ _ _ _ _ _ _ _ _ _ _ _ _ _ _ _ _ _ _ _ _ _ _ _ _ _ _ _ _ _ _ _ _ _ _ _ _ _ _ _ _ _ _ wr => ∃ k : Nat, x = .int .i64 k ∧ k ≤ q ∧ Hid (Below w9.heap.size w9 wr))
            (fun x _ _ _ _ _ _ _ _ _ _ _ _ _ _ _ _ _ _ _ _ _ _ _ _ _ _ _ _ _ _ _ _ _ _ _ _ _ _ _ _ _ _ _ _ _ _ _ _ _ _ => q - (intOf x).toNat)
          case atStart => exact ⟨0, rfl, Nat.zero_le _, Lib.hid (Below.refl _ _)⟩
          case round =>
            obtain ⟨k, rfl, hk, HBr⟩ := hrel
            by_cases hlt3 : k < q
            · as_aux_lemma =>
              have hlt' : (k : Int) < (q : Int) := by omega
              have hms : q - (k + 1) < q - k := by omega
              have hw1 : wrap64 ((k : Int) + 1) = ((k + 1 : Nat) : Int) := by have := HM.out.2; unfold wrap64; omega
              obtain ⟨l, hl⟩ : ∃ l, d.page k = l := ⟨_, rfl⟩
              have hll : l.length = 256 := by rw [← hl]; exact page_len256 HP.out.disk.ok k (by rw [HP.out.room]; exact hlt3)
              have hpC := (HG.out.1 k hlt3).1
              have hpX := (HG.out.1 k hlt3).2
              rw [hl] at hpC hpX
              have HR1 := Lib.hid (fun W (hb : Below w9.heap.size w9 W) => read_yes (HW.out W hb).1 k (by rw [HP.out.room]; exact hlt3))
              have HR2 := Lib.hid (fun W (hb : Below w9.heap.size w9 W) => read_yes (HW.out W hb).2.1 k (by rw [HG.out.2.1.1]; exact hlt3))
              have HR3 := Lib.hid (fun W (hb : Below w9.heap.size w9 W) => read_yes (HW.out W hb).2.2 k (by rw [HG.out.2.1.2]; exact hlt3))
              rw [hl] at HR1
              rw [hpC] at HR2
              rw [hpX] at HR3
              have HLL := Lib.hid hll
              clear hl hll hpC hpX
              go_wp2_with fail
              refine (HR1.out wr HBr.out).mono ?_
              rintro e wa ⟨g1, rfl, hP1, -, hba⟩
              have HBa := Lib.hid (And.intro (HBr.out.trans (hba.mono HBr.out.size)) hP1)
              clear hba hP1
              go_wp2_with fail
              refine (HR2.out wa HBa.out.1).mono ?_
              rintro e wb ⟨g2, rfl, hP2, -, hbb⟩
              have HBb := Lib.hid (And.intro (HBa.out.1.trans (hbb.mono HBa.out.1.size)) (And.intro (HBa.out.2.below hbb HBa.out.2.lt) hP2))
              clear hbb hP2
              go_wp2_with fail
              refine (HR3.out wb HBb.out.1).mono ?_
              rintro e wd ⟨g3, rfl, hP3, -, hbd⟩
              have v1 := conv_page (HBb.out.2.1.below hbd HBb.out.2.1.lt) HLL.out
              have v2 := conv_page (HBb.out.2.2.below hbd HBb.out.2.2.lt) HLL.out
              have v3 := conv_page hP3 HLL.out
              have HBd := Lib.hid (HBb.out.1.trans (hbd.mono HBb.out.1.size))
              obtain ⟨s, hs⟩ : ∃ s, bs l = s := ⟨_, rfl⟩
              rw [hs] at v1 v2 v3
              clear hs hbd hP3
              go_wp2_with fail
              rw [hw1]
              exact ⟨⟨k + 1, rfl, hlt3, HBd⟩, hms⟩
            · as_aux_lemma =>
              obtain rfl : k = q := by omega
              go_wp2_with fail
              refine (HK.out _).mono ?_
              rintro e wz ⟨rfl, hbz⟩
              go_wp2_with fail
              go_ret
              exact ⟨rfl, HB9.out.1.trans ((HBr.out.trans (hbz.mono HBr.out.size)).mono HB9.out.2)⟩
end Go.Proofs.Ytkophpipehdkmaa
/- DiskFlushes: for every room, every run of calls and every run of picks the statement that a crash behind a flush leaves all as it is, and that the picks which name the last writes do so ahead of one, answers true, and its arguments read afterwards as they did. No condition. -/
namespace Go.Proofs.Ytkophpipehdkmaa.diskFlushes
open Go.ChangeShapes Go.WideShapes Go.ChangeAt Go.RowKit

section
variable {H : Type} {enc : TypeId × Value → H} {P : Program}
open Go.Deep in
theorem open_introw {t e : TypeId} {base : Nat} {W : World} {v : Value} {d : DataW H} {ps : List MemPlace} (ht : P.underlying t = some (.slice e)) (he : P.underlying e = some (.int .i64)) (hc : P.cellsOf e = 1)
    (hok : Value.okWide P W .any base t v) (h : DataW.Trod enc P W 0 (fun _ => true) true t v d ps) :
    ∃ a l cap, v = .slice a (l : List Int).length cap ∧ l.length ≤ cap ∧ cap ≤ maxLen ∧ (l ≠ [] → ∃ b off, a = some ⟨b, off, none⟩ ∧ b < W.heap.size ∧ ∀ j, j < l.length → W.cell? ⟨b, off + j, none⟩ = some (.int .i64 (l[j]?.getD 0))) := by
  obtain ⟨a0, len, cap, rfl⟩ := okWide_slice ht hok
  obtain ⟨fuel, hf⟩ := h
  rcases open_ints ht he hc hf with ⟨hcs, hx⟩ | ⟨a, len', cap', zs, hcs, _, hl, hm, hz, hx, hcell, hwz⟩
  · simp [Value.cells] at hcs
    obtain ⟨rfl, rfl, rfl⟩ := hcs
    exact ⟨none, [], 0, rfl, Nat.le_refl _, Nat.zero_le _, fun h => absurd rfl h⟩
  · simp [Value.cells] at hcs
    obtain ⟨rfl, rfl, rfl⟩ := hcs
    simp only [if_true] at hz
    refine ⟨some a, zs.take len, cap, ?_, ?_, hm, ?_⟩
    · simp; omega
    · simp; omega
    · intro hne
      have hlen : 0 < len := by
        rcases Nat.eq_zero_or_pos len with h0 | h0
        · subst h0; simp at hne
        · exact h0
      obtain ⟨b, off, spot⟩ := a
      have hspot : spot = none := by simpa [Addr.add] using World.cell?_spot (hcell 0 (by omega))
      subst hspot
      refine ⟨b, off, rfl, ?_, fun j hj => ?_⟩
      · have := cell_lt (hcell 0 (by omega)); simpa [Addr.add] using this
      · have hj1 : j < len ∧ j < zs.length := by simp at hj; omega
        have h1 := hcell j (by omega)
        have e3 : (⟨b, off, none⟩ : Addr).add j = ⟨b, off + j, none⟩ := addr_add b off j
        rw [List.getElem?_take, if_pos hj1.1, ← e3, h1]
        simp [List.getD]
end
theorem own : ownKnob Try.prog.godebug = none := by kernel_rfl
theorem laidOut : laidOutB Try.prog = true := by kernel_rfl
theorem cellsU8 : Try.prog.cellsOf 5 = 1 := by kernel_rfl
theorem types_ok : ∀ t ∈ [3, 22, 23], Try.prog.readableRec t = true ∧ t < Try.prog.types.size := by
  intro t ht
  have h : ([3, 22, 23].all fun t => Try.prog.readableRec t && decide (t < Try.prog.types.size)) = true := by kernel_rfl
  have := List.all_eq_true.1 h t ht
  simpa using this
noncomputable def laidWorld (os : Os) : World := World.holding Try.prog os ⟨#[], #[], []⟩
theorem laid_met (os : Os) : laidMet Try.prog Rows.diskFlushesRow.laid ((laidWorld os).forCall (fun _ _ => 0) ⟨#[], #[.int .i64 0, .slice none 0 0, .slice none 0 0], []⟩).memory :=
  ⟨[], by first | exact .nil | trivial | rfl, List.nodup_nil, fun _ _ h => by cases h⟩
theorem reads (os : Os) {H : Type} (enc : TypeId × Value → H) : ∃ places, DataW.whole enc Try.prog ((laidWorld os).forCall (fun _ _ => 0) ⟨#[], #[.int .i64 0, .slice none 0 0, .slice none 0 0], []⟩).memory Try.f5.params.toList Rows.diskFlushesSpec.vars false #[.int .i64 0, .slice none 0 0, .slice none 0 0].toList 8 = some ([.lit (.int .i64 0), .nil, .nil], [], places) :=
  ⟨[], by kernel_rfl⟩

set_option maxRecDepth 100000 in
theorem contract (H : Type) (enc : TypeId × Value → H) (W : World) (base : Nat) (args : Array Value) (ds gs : List (DataW H)) (before : List MemPlace)
    (hval : ∀ (j : Nat) t v, Try.f5.params[j]? = some t → args[j]? = some v → Value.okWide Try.prog W .any base t v)
    (hW : DataW.Whole enc Try.prog Try.f5.params.toList Rows.diskFlushesSpec.vars false W args.toList ds gs before) :
    Calls Try.prog 5 args W fun e W' => ∃ v, e = .returned v ∧ Rows.diskFlushesSpec.post enc Try.prog Try.f5 false true false false W args v W' := by
  have hW' := hW
  obtain ⟨p, q, hA0, hV, rfl, hfz, hnd⟩ := hW
  have hA : DataW.TrodAll enc Try.prog W 0 (fun _ => true) true Try.f5.params.toList args.toList ds p := hA0
  rw [Try.params5] at hA hval
  obtain ⟨v0, vs0, d0, ds0, p0, q0, hargs, rfl, rfl, h0, r0⟩ := trodAll_cons hA
  obtain ⟨v1, vs1, d1, ds1, p1, q1, rfl, rfl, rfl, h1, r1⟩ := trodAll_cons r0
  obtain ⟨v2, vs2, d2, ds2, p2, q2, rfl, rfl, rfl, h2, r2⟩ := trodAll_cons r1
  obtain ⟨rfl, rfl, rfl⟩ := trodAll_nil r2
  obtain rfl : args = #[v0, v1, v2] := by cases args; simp_all
  obtain ⟨rfl, rfl⟩ := trodVars_none hV
  obtain ⟨n, rfl, -, -, -⟩ := open_int Try.underlying3 (hval 0 3 v0 rfl rfl) h0
  obtain ⟨aa, L, ac, rfl, hL, hLm, hAc⟩ := open_acts (hval 1 22 v1 rfl rfl) h1
  obtain ⟨fa, fl, fc, rfl, hfl, hfm, hI⟩ := open_introw Try.underlying23 Try.underlying3 (by kernel_rfl) (hval 2 23 v2 rfl rfl) h2
  unfold maxLen at hfm hLm
  have hP : PickV W W.heap.size (.slice fa fl.length fc) fl := ⟨fa, fc, rfl, hfl, fun hne => by
    obtain ⟨b, off, e, hlt, hc⟩ := hI hne
    refine ⟨b, off, e, hlt, fun i x hx => ?_⟩
    rw [hc i (List.getElem?_eq_some_iff.1 hx).1, hx]; rfl⟩
  refine (diskFlushes_any n aa L ac (.slice fa fl.length fc) fl W (by omega) hP hAc (by omega)).mono fun e W' ⟨he, hb⟩ => ?_
  subst he
  exact ⟨_, rfl, law_post laidOut (fun t ht => types_ok t (by rw [Try.params5] at ht; revert ht; decide +revert)) rfl hW' rfl rfl rfl Try.underlying4 (by kernel_rfl) hb⟩

set_option maxRecDepth 100000 in
theorem lifted (os : Os) (started : os.Started) (H : Type) (enc : TypeId × Value → H) (F : Stop.Interp) :
    ReturnsInHanded {} Try.checked os 5 .any ((OpenSpec.ofChange Rows.diskFlushesSpec).preRow enc Try.prog Try.f5 Rows.diskFlushesRow.domain false Rows.diskFlushesRow.laid) (((OpenSpec.ofChange Rows.diskFlushesSpec).at F).post enc Try.prog Try.f5 false true false false) := by
  obtain ⟨places, hx⟩ := reads os enc
  refine returnsInHanded_of_row (C := Try.checked) (s := OpenSpec.ofChange Rows.diskFlushesSpec) own started (by kernel_rfl) Try.func5
    (witness_row_at (enc := enc) (C := Try.checked) false (laidWorld os) #[.int .i64 0, .slice none 0 0, .slice none 0 0] rfl (by kernel_rfl) (by kernel_rfl) (by kernel_rfl)
      (OpenSpec.preRow_of_cond 8 hx (by kernel_rfl) (fun k hk => by cases hk) (by kernel_rfl) (laid_met os))) ?_
  intro W base args ds gs before hval hW _ _ _ _ _ _
  exact contract H enc W base args ds gs before hval hW

theorem said : Rows.DiskFlushesSaid :=
  OpenClaim.holds_of_cond 5 Try.f5 rfl rfl rfl rfl rfl rfl rfl ⟨rfl, rfl, rfl, rfl, rfl⟩ rfl rfl rfl rfl rfl (by kernel_rfl) Try.func5 (by kernel_rfl)
    (of_decide_eq_true (by kernel_rfl)) (by unfold Func.isWrapper; first | (rw [if_pos (by decide +kernel)]; kernel_rfl) | (rw [if_neg (by decide +kernel)]; exact ⟨rfl, rfl⟩))
    (fun os started H enc _ F => by rw [OpenClaim.pre_eq_preRow]; exact lifted os started H enc F)

end Go.Proofs.Ytkophpipehdkmaa.diskFlushes

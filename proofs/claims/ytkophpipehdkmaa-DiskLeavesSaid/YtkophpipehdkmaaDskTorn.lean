/- Layer 2: what a crash may tear, page by page. -/
import Derived.Test.YtkophpipehdkmaaDskTornA
namespace Go.Proofs.Ytkophpipehdkmaa
open Go.RowKit
attribute [local go_sem] Oper.semAt_some

set_option maxRecDepth 100000 in
set_option maxHeartbeats 4000000 in
theorem torn1_hands {n₁ Pd B : Nat} {w : World} {d : Dsk} (h : IsDisk n₁ w B d) (hd : w.heap[Pd]? = some (box 25 (ptr B))) (hm : d.waits.length + 1 ≤ 2147483648) (n : Nat) :
    Hands Fence.wide n Try.prog 45 #[ptr Pd] (Kept w.heap.size) (TornM w.heap.size d) (tornPages d.waits d.room).length w := fun L J Jx W hW hJ hJx hY h0 => by
  have hmm := @run_makeMap Try.prog
  obtain ⟨bl, bn, v, fl, hD⟩ := h.below hW
  replace hd := of_below hd hW
  have hBlt := hD.lt
  have hPlt := lt_of_heap hd
  have cB : W.cell? ⟨B, 7, none⟩ = some v := hD.cell 7
  have cP : W.cell? ⟨Pd, 0, none⟩ = some (ptr B) := box_cell hd
  have hrow := hD.row
  have hlen : ∀ x ∈ d.waits, x.2.length = 256 := fun x hx => (hD.ok.wait x hx).2
  have hroom : ∀ x ∈ d.waits, x.1 < d.room := fun x hx => (hD.ok.wait x hx).1
  have hr4 := hD.ok.hi
  obtain ⟨va, vcap, rfl⟩ : ∃ a cap, v = .slice a d.waits.length cap := by
    rcases hrow.2 with ⟨rfl, e⟩ | ⟨g, cap, cur, rfl, _⟩
    · exact ⟨none, 0, by rw [e]⟩
    · exact ⟨_, _, rfl⟩
  refine callsIn_of_wp Try.func45 rfl trivial ?_ rfl
  simp only [Try.ntmps45, List.size_toArray, List.length_cons, List.length_nil, Nat.reduceAdd, Nat.reduceSub, Array.replicate_succ, Array.replicate_zero, List.push_toArray, List.append_toArray, List.nil_append, List.cons_append]
  have HR := Lib.hid hrow
  have HL := Lib.hid hlen
  have HO := Lib.hid hroom
  have HM := Lib.hid hm
  clear hrow hlen hroom hm
  gi_wp2
  gi_loopw [5, 14, 15, 16, 17, 18, 19, 20, 21, 22, 23, 24, 25, 26, 27, 28, 29, 30, 31, 32, 33, 34, 35, 36, 37, 38, 39, 40, 41, 42, 43, 44, 45, 46, 47, 48, 49, 50, 51] (fun _ x _ _ _ _ _ _ _ _ _ _ _ _ _ _ _ _ _ _ _ _ _ _ _ _ _ _ _ _ _ _ _ _ _ _ _ _ _ wr => ∃ k : Nat, x = .int .i64 k ∧ k ≤ d.waits.length ∧ (∃ f, MayRows W.heap.size wr W.heap.size f (mayOf d.lasts (d.waits.take k))) ∧ Below W.heap.size W wr)
    (fun _ x _ _ _ _ _ _ _ _ _ _ _ _ _ _ _ _ _ _ _ _ _ _ _ _ _ _ _ _ _ _ _ _ _ _ _ _ _ _ => d.waits.length - (intOf x).toNat)
  case atStart =>
    exact ⟨0, rfl, Nat.zero_le _, ⟨_, MayRows.made W⟩, (Below.refl _ W).alloc (Nat.le_refl _) _⟩
  case round =>
    obtain ⟨k, rfl, hk, ⟨f, hM⟩, hBr⟩ := hrel
    by_cases hkl : k < d.waits.length
    · obtain ⟨⟨p, l⟩, hx⟩ : ∃ x, d.waits[k]? = some x := ⟨_, List.getElem?_eq_getElem hkl⟩
      have hmem := List.mem_of_getElem? hx
      obtain ⟨gb, cap, ev, hrg, hgb1, hgb2⟩ := wait_at HR.out HL.out hx
      obtain ⟨rfl, rfl⟩ : va = some ⟨gb, 0, none⟩ ∧ vcap = cap := by cases ev; exact ⟨rfl, rfl⟩
      have hll : l.length = 256 := HL.out _ hmem
      have hp : p < 4096 := by have := HO.out _ hmem; simp only at this; omega
      have hl0 : (d.lasts.getD p noughts).length = 256 := hD.ok.len p (HO.out _ hmem)
      have hrgr : wr.rangeAt gb (k * 257) (writeCells p l) := fun j u hu => (hBr.cell (p := ⟨gb, k * 257 + j, none⟩) hgb2).trans (hrg j u hu)
      have htake : d.waits.take (k + 1) = d.waits.take k ++ [(p, l)] := by rw [List.take_add_one, hx]; rfl
      have hkz : (k : Int) < d.waits.length := by omega
      have e1 : wrap64 ((k : Int) + 1) = ((k + 1 : Nat) : Int) := by have := HM.out; unfold wrap64; omega
      have hfew0 := @mayOf_len d.lasts (d.waits.take k) p
      have hfew := Lib.hid (Nat.le_trans (Nat.le_trans hfew0 (Nat.succ_le_succ (List.length_take_le' k d.waits))) HM.out)
      clear hfew0
      have hW1 : Below W.heap.size W (wr.alloc (.cells (writeArr p l) 84)) := hBr.trans ((Below.refl _ wr).alloc hBr.size _)
      have hM1 : MayRows W.heap.size (wr.alloc (.cells (writeArr p l) 84)) W.heap.size f (mayOf d.lasts (d.waits.take k)) := hM.kept (fun j _ hj => Below.heap_alloc wr _ j hj)
      have hg5 : (wr.alloc (.cells (writeArr p l) 84)).heap[wr.heap.size]? = some (.cells (writeArr p l) 84 (0, 0)) := heap_alloc_last wr _
      have hz := writeArr_zero p l
      have e2 : (pagesV fl p).getD (pageV noughts) = pageV (d.lasts.getD p noughts) := by
        rw [← hD.fl_lo p (HO.out _ hmem)]; unfold pagesV; cases fl p <;> rfl
      have hblbm : bl ≠ W.heap.size := fun e => by have := hD.last.lt; omega
      obtain ⟨W1, hWe⟩ : ∃ W1, wr.alloc (.cells (writeArr p l) 84) = W1 := ⟨_, rfl⟩
      obtain ⟨g5, hge⟩ : ∃ g5, wr.heap.size = g5 := ⟨_, rfl⟩
      obtain ⟨bm, hbe⟩ : ∃ bm, W.heap.size = bm := ⟨_, rfl⟩
      rw [hWe, hge] at hg5
      rw [hWe] at hW1 hM1
      have hD1 := hD.below hW1
      have hd1 : W1.heap[Pd]? = some (box 25 (ptr B)) := (hW1.block Pd hPlt).trans hd
      have hn0 := hW1.size
      have hrw := hM1.row p
      by_cases ht : isTorn (d.waits.take k) p = true
      · -- the page has a row
        have hgne : mayOf d.lasts (d.waits.take k) p ≠ [] := by unfold mayOf; rw [if_pos ht]; simp
        have hgl : ¬ (((mayOf d.lasts (d.waits.take k) p).length : Int) = 0) := by
          have := List.length_pos_iff.2 hgne; omega
        have hG := mayOf_torn (ls := d.lasts) (l := l) ht
        obtain ⟨gl, hgg⟩ : ∃ m, (mayOf d.lasts (d.waits.take k) p).length = m := ⟨_, rfl⟩
        obtain ⟨vp, hvp, hvr⟩ := hM1.some_ p hgne
        obtain ⟨gv, cv, rfl, -, -⟩ := World.ownsRow.form hvr (List.length_pos_iff.2 hgne)
        rw [hgg] at hvp hgl
        have HG := Lib.hid hG
        have HT := Lib.hid htake
        have HV := Lib.hid hvp
        have HGG := Lib.hid hgg
        have HW := Lib.hid hWe
        have HGE := Lib.hid hge
        have HMN := Lib.hid hn0
        obtain ⟨g, hgd⟩ : ∃ g, mayOf d.lasts (d.waits.take k) = g := ⟨_, rfl⟩
        rw [hgd] at hM1 HG HGG hfew hrw
        have HGD := Lib.hid hgd
        clear hG htake hvp hgg hWe hge hn0 hgd hvr hgne ht hD hbe
        have tokI : True := trivial
        have tokL : True := trivial
        have tokA : True := trivial
        have tokS : True := trivial
        have tokK : True := trivial
        have hF : Fence.wide = Fence.wide ∨ ∃ l, Fence.wide = rnd l := .inl rfl
        gi_wp2_with (first
          | (have _t := tokI; refine wpListIn_one hF rfl rfl (wpList_index rfl rfl rfl rfl (index56 _ gb _ vcap k hkl) ⟨rfl, ?_⟩); clear tokI)
          | (have _t := tokL; refine wpListIn_one hF rfl rfl (wpList_load_mid rfl _ _ rfl gb (k * 257) rfl (writeCells p l) _ hrgr Try.underlying84 rfl (by rw [size90, writeCells_len, hll]) ⟨rfl, ?_⟩); clear tokL)
          | (have _t := tokA; refine wpListIn_one hF rfl rfl (wpList_alloc90 rfl rfl ⟨rfl, ?_⟩); clear tokA)
          | (have _t := tokS; refine wpListIn_one hF rfl rfl (wpList_store90 rfl _ _ rfl 0 p noughts l noughts_len hll rfl rfl ⟨rfl, ?_⟩); clear tokS)
          | (have _t := tokK; refine wpListIn_one hF rfl rfl (wpList_look rfl _ _ false rfl Try.underlying3 Try.underlying96 (z := zero83) Try.zeroValue77 (hM.map.kept (World.grownBy_alloc wr _ none) (by simp)) rfl p (by omega) rfl ⟨rfl, ?_⟩); rw [HV.out]; simp only [Option.getD_some, Bool.false_eq_true, if_false]; clear tokK))
        rw [HW.out, HGE.out]
        have hn0 := HMN.out
        clear hM HMN
        have hM := hM1
        replace hfew := hfew.out
        have hrow := hM.row p
        have hbmv := map_ne_row hrow hM.map
        refine wpIn_wide.2 (wp_region_l (MayI 9 10 11 W.heap.size W1 W.heap.size ((f p).getD zero83) (g p).length (rowOf (g p)) l f p) (T6Sp (fun u w => Lies W.heap.size W1 ((f p).getD zero83) (g p).length (rowOf (g p)) l u w) W.heap.size g5 p l ((f p).getD zero83) W1.heap.size) (by kernel_rfl) (by kernel_rfl) (by kernel_rfl) (by kernel_rfl) (MayI.start (fun i => by simp only [Array.getD_eq_getD_getElem?, Array.getElem?_replicate]; split <;> rfl)) ?step6 ?fin6)
        case step6 =>
          intro i o ho listed a w' hI hn hpre
          have hi : i < 12 := (Array.getElem?_eq_some_iff.1 ho).1
          match i, hi with
            | 0, _ =>
              cases ho
              exact wpOp_move rfl rfl (.inl rfl) (hI.kept (t := 3) (by kernel_rfl)) ⟨_, rfl, hI.inv.still (by omega), fun _ => rfl, fun _ _ _ h => h⟩
            | 1, _ =>
              cases ho
              exact wpOp_field rfl rfl rfl (hI.kept (t := 5) (by kernel_rfl)) (field90_0 _ w') ⟨_, rfl, hI.inv.still (by omega), fun _ => rfl, fun _ _ _ h => h⟩
            | 2, _ =>
              cases ho
              exact wpOp_load rfl rfl rfl (hI.slot 1 41 rfl (hpre ⟨1, .data⟩ (by simp) rfl) rfl) (load_cell (Try.isAgg3 _) (by rw [cell_of_row w' g5 0 _ _ _ (hI.inv.cells hrow hM.map hg5 (by decide))]; exact writeArr_zero p l)) ⟨_, rfl, hI.inv.still (by omega), fun _ => rfl, fun _ _ _ h => h⟩
            | 3, _ =>
              cases ho
              exact wpOp_move rfl rfl (.inl rfl) (hI.kept (t := 3) (by kernel_rfl)) ⟨_, rfl, hI.inv.still (by omega), fun _ => rfl, fun _ _ _ h => h⟩
            | 4, _ =>
              cases ho
              exact wpOp_field rfl rfl rfl (hI.kept (t := 5) (by kernel_rfl)) (field90_0 _ w') ⟨_, rfl, hI.inv.still (by omega), fun _ => rfl, fun _ _ _ h => h⟩
            | 5, _ =>
              cases ho
              exact wpOp_load rfl rfl rfl (hI.slot 4 44 rfl (hpre ⟨4, .data⟩ (by simp) rfl) rfl) (load_cell (Try.isAgg3 _) (by rw [cell_of_row w' g5 0 _ _ _ (hI.inv.cells hrow hM.map hg5 (by decide))]; exact writeArr_zero p l)) ⟨_, rfl, hI.inv.still (by omega), fun _ => rfl, fun _ _ _ h => h⟩
            | 6, _ =>
              cases ho
              have h10 := hI.notyet hn 10 (by kernel_rfl)
              have h11 := hI.notyet h10 11 (by kernel_rfl)
              have hmw : IntMap Try.prog 3 w' W.heap.size f := hM.map.at_block (hI.inv.mapped h11 hM.map.lt hbmv)
              exact wpOp_look rfl rfl rfl (hI.slot 3 43 rfl (hpre ⟨3, .data⟩ (by simp) rfl) rfl) (hI.slot 5 45 rfl (hpre ⟨5, .data⟩ (by simp) rfl) rfl) (hmw.look Try.underlying3 Try.underlying96 (z := zero83) Try.zeroValue77 p (by omega) false) ⟨_, rfl, hI.inv.still (by omega), fun _ => rfl, fun _ _ _ h => h⟩
            | 7, _ =>
              cases ho
              exact wpOp_field rfl rfl rfl (hI.kept (t := 5) (by kernel_rfl)) (field90_1 _ w') ⟨_, rfl, hI.inv.still (by omega), fun _ => rfl, fun _ _ _ h => h⟩
            | 8, _ =>
              cases ho
              have hr8 : w'.rangeAt g5 1 (byteVals l) := fun j u hu => by
                rw [cell_of_row w' g5 (1 + j) _ _ _ (hI.inv.cells hrow hM.map hg5 (by decide))]
                show (writeCells p l).toArray[1 + j]? = _
                rw [List.getElem?_toArray, writeCells, Nat.add_comm, List.getElem?_cons_succ]; exact hu
              exact wpOp_load rfl rfl rfl (hI.slot 7 47 rfl (hpre ⟨7, .data⟩ (by simp) rfl) rfl) (run_load77 _ _ _ l hll hr8) ⟨_, rfl, hI.inv.still (by omega), fun _ => rfl, fun _ _ _ h => h⟩
            | 9, _ =>
              cases ho
              have hA := hI.notyet hn 10 (by kernel_rfl)
              have hU := hI.notyet hA 11 (by kernel_rfl)
              have es : a.eval (.tmp 48) = pageV l := hI.slot 8 48 rfl (hpre ⟨8, .data⟩ (by simp) rfl) rfl
              obtain ⟨w2, hrun, hI2⟩ := hI.inv.build hn hA hU (by omega) (by rw [hI.size]; decide) hll
              exact wpOp_buildSlice rfl rfl rfl (vs := #[(0, pageV l)]) (by rw [Array.map_singleton]; show #[(0, a.eval (.tmp 48))] = _; rw [es]) hrun ⟨_, rfl, hI2, fun _ => rfl, fun j u hj hu => T6Sp.any (by rintro rfl; rw [hA] at hj; cases hj) hu⟩
            | 10, _ =>
              cases ho
              have hU := hI.notyet hn 11 (by kernel_rfl)
              obtain ⟨u, w2, hrun, hu, hI2⟩ := hI.inv.app (hpre ⟨9, .data⟩ (by simp) rfl) hn hU (by omega) (by rw [hI.size]; decide) hll hrow hfew hn0 _
              exact wpOp_append rfl rfl rfl (hI.slot 6 46 rfl (hpre ⟨6, .data⟩ (by simp) rfl) rfl) (hI.slot 9 49 rfl (hpre ⟨9, .data⟩ (by simp) rfl) rfl) hrun ⟨_, rfl, hI2, fun _ => hu, fun j u hj hu => T6Sp.any (by rintro rfl; rw [hn] at hj; cases hj) hu⟩
            | 11, _ =>
              cases ho
              have hA := hpre ⟨10, .data⟩ (by simp) rfl
              have hu : Lies W.heap.size W1 ((f p).getD zero83) (g p).length (rowOf (g p)) l (a.eval (.tmp 50)) w' := hI.slot 10 50 rfl hA rfl
              obtain ⟨w2, hrun, hI2, -⟩ := hI.inv.upd hA hn (by rw [hI.size]; decide) hM.map hbmv hp hu
              have hmw : IntMap Try.prog 3 w' W.heap.size f := hM.map.at_block (hI.inv.mapped hn hM.map.lt hbmv)
              have hg2 : w'.grownBy w2 (some W.heap.size) := by
                obtain ⟨w3, hrun3, -, h3⟩ := hmw.put Try.underlying3 Try.underlying96 p hp (a.eval (.tmp 50))
                rw [hrun] at hrun3; cases hrun3; exact h3
              refine wpOp_update rfl rfl rfl (hI.slot 0 40 rfl (hpre ⟨0, .data⟩ (by simp) rfl) rfl) (hI.slot 2 42 rfl (hpre ⟨2, .data⟩ (by simp) rfl) rfl) rfl hrun ⟨_, rfl, hI2, (fun e => by cases e), ?_⟩
              intro j u' hj hu'
              by_cases hj' : j = 10
              · subst hj'
                exact Lies.kept (bm := W.heap.size) hu' hg2 (map_at hmw)
              · exact T6Sp.any hj' hu'
        case fin6 =>
          intro listed a w6 hI hall
          obtain ⟨F, ea⟩ := hI.framed [40, 41, 42, 43, 44, 45, 46, 47, 48, 49, 50] (by kernel_rfl)
          have hdone := hI.inv.done (hall 11 (by decide)) hM hn0
          clear hI hall
          simp only [List.foldl_cons, List.foldl_nil, List.setIfInBounds_toArray, List.set_cons_succ, List.set_cons_zero] at ea
          subst ea
          generalize F 40 = y40
          generalize F 41 = y41
          generalize F 42 = y42
          generalize F 43 = y43
          generalize F 44 = y44
          generalize F 45 = y45
          generalize F 46 = y46
          generalize F 47 = y47
          generalize F 48 = y48
          generalize F 49 = y49
          generalize F 50 = y50
          clear F
          obtain ⟨⟨f6, hM6⟩, hB6, -⟩ := hdone
          gi_wp2
          generalize wrap64 ((k : Int) + 1) = q at e1 ⊢
          subst e1
          go_roundw
          case rel => exact ⟨k + 1, rfl, hkl, ⟨f6, by rw [HT.out, HG.out]; exact hM6⟩, hW1.trans hB6⟩
          case measure =>
            have hkk : d.waits.length - (k + 1) < d.waits.length - k := Nat.sub_lt_sub_left hkl (Nat.lt_succ_self k)
            exact hkk
      · -- the page's first write
        have ht' : isTorn (d.waits.take k) p = false := by simpa using ht
        have hgne : mayOf d.lasts (d.waits.take k) p = [] := by unfold mayOf; rw [ht']; simp
        have hG := mayOf_new (ls := d.lasts) (l := l) ht'
        have hvp := hM1.none_ p hgne
        have HT := Lib.hid htake
        have HV := Lib.hid hvp
        have HW := Lib.hid hWe
        have HGE := Lib.hid hge
        have HMN := Lib.hid hn0
        obtain ⟨g, hgd⟩ : ∃ g, mayOf d.lasts (d.waits.take k) = g := ⟨_, rfl⟩
        rw [hgd] at hM1 hG hfew hrw hgne
        obtain ⟨l0, hl0e⟩ : ∃ l0, d.lasts.getD p noughts = l0 := ⟨_, rfl⟩
        rw [hl0e] at hl0 hG e2
        obtain ⟨g6, hg6⟩ : ∃ g6, pushAt g p l0 = g6 := ⟨_, rfl⟩
        rw [hg6] at hG
        have hfew6 : (g6 p).length ≤ 2147483648 := by
          rw [← hg6]; unfold pushAt; rw [if_pos rfl, hgne]; simp
        have HG := Lib.hid hG
        have HG6 := Lib.hid hg6
        have HF6 := Lib.hid hfew6
        have HGN := Lib.hid hgne
        have HGD := Lib.hid hgd
        have HL0 := Lib.hid hl0e
        clear hG htake hvp hWe hge hn0 hgd hgne ht ht' hbe hg6 hl0e hfew6
        have HDD := Lib.hid hD
        clear hD
        have tokI : True := trivial
        have tokL : True := trivial
        have tokA : True := trivial
        have tokS : True := trivial
        have tokK : True := trivial
        have hF : Fence.wide = Fence.wide ∨ ∃ l, Fence.wide = rnd l := .inl rfl
        gi_wp2_with (first
          | (have _t := tokI; refine wpListIn_one hF rfl rfl (wpList_index rfl rfl rfl rfl (index56 _ gb _ vcap k hkl) ⟨rfl, ?_⟩); clear tokI)
          | (have _t := tokL; refine wpListIn_one hF rfl rfl (wpList_load_mid rfl _ _ rfl gb (k * 257) rfl (writeCells p l) _ hrgr Try.underlying84 rfl (by rw [size90, writeCells_len, hll]) ⟨rfl, ?_⟩); clear tokL)
          | (have _t := tokA; refine wpListIn_one hF rfl rfl (wpList_alloc90 rfl rfl ⟨rfl, ?_⟩); clear tokA)
          | (have _t := tokS; refine wpListIn_one hF rfl rfl (wpList_store90 rfl _ _ rfl 0 p noughts l noughts_len hll rfl rfl ⟨rfl, ?_⟩); clear tokS)
          | (have _t := tokK; refine wpListIn_one hF rfl rfl (wpList_look rfl _ _ false rfl Try.underlying3 Try.underlying96 (z := .slice none 0 0) Try.zeroValue77 (hM.map.kept (World.grownBy_alloc wr _ none) (by simp)) rfl p (by omega) rfl ⟨rfl, ?_⟩); rw [HV.out]; simp only [Option.getD_none, Bool.false_eq_true, if_false]; clear tokK))
        rw [HW.out, HGE.out]
        have hn0 := HMN.out
        clear hM HMN
        have hM := hM1
        replace hfew := hfew.out
        have hrow := hM.row p
        have hbmv := map_ne_row hrow hM.map
        refine wpIn_wide.2 (wp_region_l (MayI 14 15 16 W.heap.size W1 W.heap.size ((f p).getD zero83) (g p).length (rowOf (g p)) l0 f p) (T5Sp (fun u w => Lies W.heap.size W1 ((f p).getD zero83) (g p).length (rowOf (g p)) l0 u w) B bl W.heap.size g5 p l0 ((f p).getD zero83) W1.heap.size) (by kernel_rfl) (by kernel_rfl) (by kernel_rfl) (by kernel_rfl) (MayI.start (fun i => by simp only [Array.getD_eq_getD_getElem?, Array.getElem?_replicate]; split <;> rfl)) ?step5 ?fin5)
        case step5 =>
          intro i o ho listed a w' hI hn hpre
          have hi : i < 17 := (Array.getElem?_eq_some_iff.1 ho).1
          match i, hi with
            | 0, _ =>
              cases ho
              exact wpOp_move rfl rfl (.inl rfl) (hI.kept (t := 3) (by kernel_rfl)) ⟨_, rfl, hI.inv.still (by omega), fun _ => rfl, fun _ _ _ h => h⟩
            | 1, _ =>
              cases ho
              exact wpOp_field rfl rfl rfl (hI.kept (t := 5) (by kernel_rfl)) (field90_0 _ w') ⟨_, rfl, hI.inv.still (by omega), fun _ => rfl, fun _ _ _ h => h⟩
            | 2, _ =>
              cases ho
              exact wpOp_load rfl rfl rfl (hI.slot 1 25 rfl (hpre ⟨1, .data⟩ (by simp) rfl) rfl) (load_cell (Try.isAgg3 _) (by rw [cell_of_row w' g5 0 _ _ _ (hI.inv.cells hrow hM.map hg5 (by decide))]; exact writeArr_zero p l)) ⟨_, rfl, hI.inv.still (by omega), fun _ => rfl, fun _ _ _ h => h⟩
            | 3, _ =>
              cases ho
              exact wpOp_move rfl rfl (.inl rfl) (hI.kept (t := 3) (by kernel_rfl)) ⟨_, rfl, hI.inv.still (by omega), fun _ => rfl, fun _ _ _ h => h⟩
            | 4, _ =>
              cases ho
              exact wpOp_field rfl rfl rfl (hI.kept (t := 5) (by kernel_rfl)) (field90_0 _ w') ⟨_, rfl, hI.inv.still (by omega), fun _ => rfl, fun _ _ _ h => h⟩
            | 5, _ =>
              cases ho
              exact wpOp_load rfl rfl rfl (hI.slot 4 28 rfl (hpre ⟨4, .data⟩ (by simp) rfl) rfl) (load_cell (Try.isAgg3 _) (by rw [cell_of_row w' g5 0 _ _ _ (hI.inv.cells hrow hM.map hg5 (by decide))]; exact writeArr_zero p l)) ⟨_, rfl, hI.inv.still (by omega), fun _ => rfl, fun _ _ _ h => h⟩
            | 6, _ =>
              cases ho
              have h15 := hI.notyet hn 15 (by kernel_rfl)
              have h16 := hI.notyet h15 16 (by kernel_rfl)
              have hmw : IntMap Try.prog 3 w' W.heap.size f := hM.map.at_block (hI.inv.mapped h16 hM.map.lt hbmv)
              exact wpOp_look rfl rfl rfl (hI.slot 3 27 rfl (hpre ⟨3, .data⟩ (by simp) rfl) rfl) (hI.slot 5 29 rfl (hpre ⟨5, .data⟩ (by simp) rfl) rfl) (hmw.look Try.underlying3 Try.underlying96 (z := zero83) Try.zeroValue77 p (by omega) false) ⟨_, rfl, hI.inv.still (by omega), fun _ => rfl, fun _ _ _ h => h⟩
            | 7, _ =>
              cases ho
              exact wpOp_load rfl rfl rfl (hI.kept (t := 1) (by kernel_rfl)) (load_cell (Try.isAgg25 _) (box_cell (hI.inv.cells hrow hM.map hd1 (by decide)))) ⟨_, rfl, hI.inv.still (by omega), fun _ => rfl, fun _ _ _ h => h⟩
            | 8, _ =>
              cases ho
              exact wpOp_nilCheck rfl rfl rfl (hI.slot 7 31 rfl (hpre ⟨7, .data⟩ (by simp) rfl) rfl) ⟨_, rfl, hI.inv.still (by omega), fun _ => rfl, fun _ _ _ h => h⟩
            | 9, _ =>
              cases ho
              exact wpOp_field rfl rfl rfl (hI.slot 8 32 rfl (hpre ⟨8, .data⟩ (by simp) rfl) rfl) (field58_3 B w') ⟨_, rfl, hI.inv.still (by omega), fun _ => rfl, fun _ _ _ h => h⟩
            | 10, _ =>
              cases ho
              exact wpOp_load rfl rfl rfl (hI.slot 9 33 rfl (hpre ⟨9, .data⟩ (by simp) rfl) rfl) (load_cell (Try.isAgg59 _) (by rw [cell_of_row w' B 5 _ _ _ (hI.inv.cells hrow hM.map hD1.cells (by decide))]; rfl)) ⟨_, rfl, hI.inv.still (by omega), fun _ => rfl, fun _ _ _ h => h⟩
            | 11, _ =>
              cases ho
              exact wpOp_field rfl rfl rfl (hI.kept (t := 5) (by kernel_rfl)) (field90_0 _ w') ⟨_, rfl, hI.inv.still (by omega), fun _ => rfl, fun _ _ _ h => h⟩
            | 12, _ =>
              cases ho
              exact wpOp_load rfl rfl rfl (hI.slot 11 35 rfl (hpre ⟨11, .data⟩ (by simp) rfl) rfl) (load_cell (Try.isAgg3 _) (by rw [cell_of_row w' g5 0 _ _ _ (hI.inv.cells hrow hM.map hg5 (by decide))]; exact writeArr_zero p l)) ⟨_, rfl, hI.inv.still (by omega), fun _ => rfl, fun _ _ _ h => h⟩
            | 13, _ =>
              cases ho
              exact wpOp_look rfl rfl rfl (hI.slot 10 34 rfl (hpre ⟨10, .data⟩ (by simp) rfl) rfl) (hI.slot 12 36 rfl (hpre ⟨12, .data⟩ (by simp) rfl) rfl) ((hI.inv.maps hrow hD1.last hblbm).look Try.underlying3 Try.underlying59 zero77w p (by omega) false) ⟨_, rfl, hI.inv.still (by omega), fun _ => e2, fun _ _ _ h => h⟩
            | 14, _ =>
              cases ho
              have hA := hI.notyet hn 15 (by kernel_rfl)
              have hU := hI.notyet hA 16 (by kernel_rfl)
              have es : a.eval (.tmp 37) = pageV l0 := hI.slot 13 37 rfl (hpre ⟨13, .data⟩ (by simp) rfl) rfl
              obtain ⟨w2, hrun, hI2⟩ := hI.inv.build hn hA hU (by omega) (by rw [hI.size]; decide) hl0
              exact wpOp_buildSlice rfl rfl rfl (vs := #[(0, pageV l0)]) (by rw [Array.map_singleton]; show #[(0, a.eval (.tmp 37))] = _; rw [es]) hrun ⟨_, rfl, hI2, fun _ => rfl, fun j u hj hu => T5Sp.any (by rintro rfl; rw [hA] at hj; cases hj) hu⟩
            | 15, _ =>
              cases ho
              have hU := hI.notyet hn 16 (by kernel_rfl)
              obtain ⟨u, w2, hrun, hu, hI2⟩ := hI.inv.app (hpre ⟨14, .data⟩ (by simp) rfl) hn hU (by omega) (by rw [hI.size]; decide) hl0 hrow hfew hn0 _
              exact wpOp_append rfl rfl rfl (hI.slot 6 30 rfl (hpre ⟨6, .data⟩ (by simp) rfl) rfl) (hI.slot 14 38 rfl (hpre ⟨14, .data⟩ (by simp) rfl) rfl) hrun ⟨_, rfl, hI2, fun _ => hu, fun j u hj hu => T5Sp.any (by rintro rfl; rw [hn] at hj; cases hj) hu⟩
            | 16, _ =>
              cases ho
              have hA := hpre ⟨15, .data⟩ (by simp) rfl
              have hu : Lies W.heap.size W1 ((f p).getD zero83) (g p).length (rowOf (g p)) l0 (a.eval (.tmp 39)) w' := hI.slot 15 39 rfl hA rfl
              obtain ⟨w2, hrun, hI2, -⟩ := hI.inv.upd hA hn (by rw [hI.size]; decide) hM.map hbmv hp hu
              have hmw : IntMap Try.prog 3 w' W.heap.size f := hM.map.at_block (hI.inv.mapped hn hM.map.lt hbmv)
              have hg2 : w'.grownBy w2 (some W.heap.size) := by
                obtain ⟨w3, hrun3, -, h3⟩ := hmw.put Try.underlying3 Try.underlying96 p hp (a.eval (.tmp 39))
                rw [hrun] at hrun3; cases hrun3; exact h3
              refine wpOp_update rfl rfl rfl (hI.slot 0 24 rfl (hpre ⟨0, .data⟩ (by simp) rfl) rfl) (hI.slot 2 26 rfl (hpre ⟨2, .data⟩ (by simp) rfl) rfl) rfl hrun ⟨_, rfl, hI2, (fun e => by cases e), ?_⟩
              intro j u' hj hu'
              by_cases hj' : j = 15
              · subst hj'
                exact Lies.kept (bm := W.heap.size) hu' hg2 (map_at hmw)
              · exact T5Sp.any hj' hu'
        case fin5 =>
          intro listed a w5 hI hall
          obtain ⟨F, ea⟩ := hI.framed [24, 25, 26, 27, 28, 29, 30, 31, 32, 33, 34, 35, 36, 37, 38, 39] (by kernel_rfl)
          have hdone := hI.inv.done (hall 16 (by decide)) hM hn0
          clear hI hall
          simp only [List.foldl_cons, List.foldl_nil, List.setIfInBounds_toArray, List.set_cons_succ, List.set_cons_zero] at ea
          subst ea
          generalize F 24 = y24
          generalize F 25 = y25
          generalize F 26 = y26
          generalize F 27 = y27
          generalize F 28 = y28
          generalize F 29 = y29
          generalize F 30 = y30
          generalize F 31 = y31
          generalize F 32 = y32
          generalize F 33 = y33
          generalize F 34 = y34
          generalize F 35 = y35
          generalize F 36 = y36
          generalize F 37 = y37
          generalize F 38 = y38
          generalize F 39 = y39
          clear F
          obtain ⟨⟨f5, hM5⟩, hB5, hC5⟩ := hdone
          gi_wp2
          rw [HG6.out] at hM5
          have hg5' := hC5 _ _ _ _ hg5 (by decide)
          have hW5 := hW1.trans hB5
          have hn5 := Nat.le_trans hn0 hB5.size
          clear hM hM1 hrow hbmv hg5 hfew hn0 hW1 hrw
          have hM := hM5
          have hg5 := hg5'
          have hn0 := hn5
          have hW1 := hW5
          have hfew := HF6.out
          have hrow := hM.row p
          have hbmv := map_ne_row hrow hM.map
          refine wpIn_wide.2 (wp_region_l (MayI 9 10 11 W.heap.size w5 W.heap.size ((f5 p).getD zero83) (g6 p).length (rowOf (g6 p)) l f5 p) (T6Sp (fun u w => Lies W.heap.size w5 ((f5 p).getD zero83) (g6 p).length (rowOf (g6 p)) l u w) W.heap.size g5 p l ((f5 p).getD zero83) w5.heap.size) (by kernel_rfl) (by kernel_rfl) (by kernel_rfl) (by kernel_rfl) (MayI.start (fun i => by simp only [Array.getD_eq_getD_getElem?, Array.getElem?_replicate]; split <;> rfl)) ?step6 ?fin6)
          case step6 =>
            intro i o ho listed a w' hI hn hpre
            have hi : i < 12 := (Array.getElem?_eq_some_iff.1 ho).1
            match i, hi with
              | 0, _ =>
                cases ho
                exact wpOp_move rfl rfl (.inl rfl) (hI.kept (t := 3) (by kernel_rfl)) ⟨_, rfl, hI.inv.still (by omega), fun _ => rfl, fun _ _ _ h => h⟩
              | 1, _ =>
                cases ho
                exact wpOp_field rfl rfl rfl (hI.kept (t := 5) (by kernel_rfl)) (field90_0 _ w') ⟨_, rfl, hI.inv.still (by omega), fun _ => rfl, fun _ _ _ h => h⟩
              | 2, _ =>
                cases ho
                exact wpOp_load rfl rfl rfl (hI.slot 1 41 rfl (hpre ⟨1, .data⟩ (by simp) rfl) rfl) (load_cell (Try.isAgg3 _) (by rw [cell_of_row w' g5 0 _ _ _ (hI.inv.cells hrow hM.map hg5 (by decide))]; exact writeArr_zero p l)) ⟨_, rfl, hI.inv.still (by omega), fun _ => rfl, fun _ _ _ h => h⟩
              | 3, _ =>
                cases ho
                exact wpOp_move rfl rfl (.inl rfl) (hI.kept (t := 3) (by kernel_rfl)) ⟨_, rfl, hI.inv.still (by omega), fun _ => rfl, fun _ _ _ h => h⟩
              | 4, _ =>
                cases ho
                exact wpOp_field rfl rfl rfl (hI.kept (t := 5) (by kernel_rfl)) (field90_0 _ w') ⟨_, rfl, hI.inv.still (by omega), fun _ => rfl, fun _ _ _ h => h⟩
              | 5, _ =>
                cases ho
                exact wpOp_load rfl rfl rfl (hI.slot 4 44 rfl (hpre ⟨4, .data⟩ (by simp) rfl) rfl) (load_cell (Try.isAgg3 _) (by rw [cell_of_row w' g5 0 _ _ _ (hI.inv.cells hrow hM.map hg5 (by decide))]; exact writeArr_zero p l)) ⟨_, rfl, hI.inv.still (by omega), fun _ => rfl, fun _ _ _ h => h⟩
              | 6, _ =>
                cases ho
                have h10 := hI.notyet hn 10 (by kernel_rfl)
                have h11 := hI.notyet h10 11 (by kernel_rfl)
                have hmw : IntMap Try.prog 3 w' W.heap.size f5 := hM.map.at_block (hI.inv.mapped h11 hM.map.lt hbmv)
                exact wpOp_look rfl rfl rfl (hI.slot 3 43 rfl (hpre ⟨3, .data⟩ (by simp) rfl) rfl) (hI.slot 5 45 rfl (hpre ⟨5, .data⟩ (by simp) rfl) rfl) (hmw.look Try.underlying3 Try.underlying96 (z := zero83) Try.zeroValue77 p (by omega) false) ⟨_, rfl, hI.inv.still (by omega), fun _ => rfl, fun _ _ _ h => h⟩
              | 7, _ =>
                cases ho
                exact wpOp_field rfl rfl rfl (hI.kept (t := 5) (by kernel_rfl)) (field90_1 _ w') ⟨_, rfl, hI.inv.still (by omega), fun _ => rfl, fun _ _ _ h => h⟩
              | 8, _ =>
                cases ho
                have hr8 : w'.rangeAt g5 1 (byteVals l) := fun j u hu => by
                  rw [cell_of_row w' g5 (1 + j) _ _ _ (hI.inv.cells hrow hM.map hg5 (by decide))]
                  show (writeCells p l).toArray[1 + j]? = _
                  rw [List.getElem?_toArray, writeCells, Nat.add_comm, List.getElem?_cons_succ]; exact hu
                exact wpOp_load rfl rfl rfl (hI.slot 7 47 rfl (hpre ⟨7, .data⟩ (by simp) rfl) rfl) (run_load77 _ _ _ l hll hr8) ⟨_, rfl, hI.inv.still (by omega), fun _ => rfl, fun _ _ _ h => h⟩
              | 9, _ =>
                cases ho
                have hA := hI.notyet hn 10 (by kernel_rfl)
                have hU := hI.notyet hA 11 (by kernel_rfl)
                have es : a.eval (.tmp 48) = pageV l := hI.slot 8 48 rfl (hpre ⟨8, .data⟩ (by simp) rfl) rfl
                obtain ⟨w2, hrun, hI2⟩ := hI.inv.build hn hA hU (by omega) (by rw [hI.size]; decide) hll
                exact wpOp_buildSlice rfl rfl rfl (vs := #[(0, pageV l)]) (by rw [Array.map_singleton]; show #[(0, a.eval (.tmp 48))] = _; rw [es]) hrun ⟨_, rfl, hI2, fun _ => rfl, fun j u hj hu => T6Sp.any (by rintro rfl; rw [hA] at hj; cases hj) hu⟩
              | 10, _ =>
                cases ho
                have hU := hI.notyet hn 11 (by kernel_rfl)
                obtain ⟨u, w2, hrun, hu, hI2⟩ := hI.inv.app (hpre ⟨9, .data⟩ (by simp) rfl) hn hU (by omega) (by rw [hI.size]; decide) hll hrow hfew hn0 _
                exact wpOp_append rfl rfl rfl (hI.slot 6 46 rfl (hpre ⟨6, .data⟩ (by simp) rfl) rfl) (hI.slot 9 49 rfl (hpre ⟨9, .data⟩ (by simp) rfl) rfl) hrun ⟨_, rfl, hI2, fun _ => hu, fun j u hj hu => T6Sp.any (by rintro rfl; rw [hn] at hj; cases hj) hu⟩
              | 11, _ =>
                cases ho
                have hA := hpre ⟨10, .data⟩ (by simp) rfl
                have hu : Lies W.heap.size w5 ((f5 p).getD zero83) (g6 p).length (rowOf (g6 p)) l (a.eval (.tmp 50)) w' := hI.slot 10 50 rfl hA rfl
                obtain ⟨w2, hrun, hI2, -⟩ := hI.inv.upd hA hn (by rw [hI.size]; decide) hM.map hbmv hp hu
                have hmw : IntMap Try.prog 3 w' W.heap.size f5 := hM.map.at_block (hI.inv.mapped hn hM.map.lt hbmv)
                have hg2 : w'.grownBy w2 (some W.heap.size) := by
                  obtain ⟨w3, hrun3, -, h3⟩ := hmw.put Try.underlying3 Try.underlying96 p hp (a.eval (.tmp 50))
                  rw [hrun] at hrun3; cases hrun3; exact h3
                refine wpOp_update rfl rfl rfl (hI.slot 0 40 rfl (hpre ⟨0, .data⟩ (by simp) rfl) rfl) (hI.slot 2 42 rfl (hpre ⟨2, .data⟩ (by simp) rfl) rfl) rfl hrun ⟨_, rfl, hI2, (fun e => by cases e), ?_⟩
                intro j u' hj hu'
                by_cases hj' : j = 10
                · subst hj'
                  exact Lies.kept (bm := W.heap.size) hu' hg2 (map_at hmw)
                · exact T6Sp.any hj' hu'
          case fin6 =>
            intro listed a w6 hI hall
            obtain ⟨F, ea⟩ := hI.framed [40, 41, 42, 43, 44, 45, 46, 47, 48, 49, 50] (by kernel_rfl)
            have hdone := hI.inv.done (hall 11 (by decide)) hM hn0
            clear hI hall
            simp only [List.foldl_cons, List.foldl_nil, List.setIfInBounds_toArray, List.set_cons_succ, List.set_cons_zero] at ea
            subst ea
            generalize F 40 = y40
            generalize F 41 = y41
            generalize F 42 = y42
            generalize F 43 = y43
            generalize F 44 = y44
            generalize F 45 = y45
            generalize F 46 = y46
            generalize F 47 = y47
            generalize F 48 = y48
            generalize F 49 = y49
            generalize F 50 = y50
            clear F
            obtain ⟨⟨f6, hM6⟩, hB6, -⟩ := hdone
            gi_wp2
            generalize wrap64 ((k : Int) + 1) = q at e1 ⊢
            subst e1
            go_roundw
            case rel => exact ⟨k + 1, rfl, hkl, ⟨f6, by rw [HT.out, HG.out]; exact hM6⟩, hW1.trans hB6⟩
            case measure =>
              have hkk : d.waits.length - (k + 1) < d.waits.length - k := Nat.sub_lt_sub_left hkl (Nat.lt_succ_self k)
              exact hkk
    · obtain rfl : k = d.waits.length := by omega
      have hkz : ¬ ((d.waits.length : Int) < d.waits.length) := by omega
      rw [List.take_length] at hM
      have hf : ∀ p, (f p).isSome = isTorn d.waits p := fun p => by
        by_cases ht : isTorn d.waits p = true
        · obtain ⟨v, hv, -⟩ := hM.some_ p (by unfold mayOf; rw [if_pos ht]; simp)
          rw [hv, ht]; rfl
        · have ht' : isTorn d.waits p = false := by simpa using ht
          rw [hM.none_ p (by unfold mayOf; rw [ht']; simp), ht']; rfl
      obtain ⟨D, hown, hreads⟩ := hM.map
      have hsz := hreads.size Try.underlying3 hown
      have hkey := fun ss => keys_torn (room := d.room) (ss := ss) hown hreads hf HO.out
      have HK := Lib.hid hkey
      have HB := Lib.hid hBr
      have HS := Lib.hid hsz
      clear hkey hf hBr hsz hmm
      gi_wp2_with (first
        | (refine ⟨trivial, fun hx => (by cases hx), ?_⟩; gi_at_call 47; refine (callsIn_wide.2 (keys_any _ _)).mono ?_; rintro e w' ⟨rfl, rfl⟩)
        | (refine ⟨trivial, fun hx => (by cases hx), ?_⟩; gi_at_call 46; refine (callsIn_wide.2 (sorted_any W.heap.size 4096 wr.heap.size D heldR _ (by simp) (by simp) (hown.kept (World.grownBy_alloc wr _ none) (by simp)) (by unfold maxLen; have := HS.out; omega) (by have := HS.out; omega))).mono ?_; rintro e w2 ⟨v2, ss, rfl, hperm, hrow2, hnil2, hb2⟩; obtain ⟨hk1, hk2⟩ := HK.out ss hperm; rw [hk1, hk2] at hrow2; clear hnil2 hperm; obtain ⟨a2, c2, rfl⟩ := slice_form hrow2))
      have hBr := HB.out
      have hW2 : Below W.heap.size W w2 := (hBr.trans ((Below.refl _ wr).alloc hBr.size _)).trans (hb2.mono (by have := hBr.size; simp; omega))
      have hM2 : MayRows W.heap.size w2 W.heap.size f (mayOf d.lasts d.waits) := hM.kept (fun j _ hj => (hb2.block j (by simp; omega)).trans (Below.heap_alloc wr _ j hj))
      have hrow3 := row_mono hrow2 (show W.heap.size ≤ _ by have := hBr.size; simp; omega)
      have hJ2 := hJ 0 W w2 none h0 (of_below_grown hW2) (fun r e => by cases e)
      have hWw := hW.size
      have htl : (tornPages d.waits d.room).length ≤ 4096 := by
        unfold tornPages; refine Nat.le_trans (List.length_filter_le _ _) ?_; rw [List.length_range]; exact hr4
      clear hrow2 hb2 hBr HB hM hown hreads HS HK HM hd cB cP hD h hkz
      gi_loopw [7, 56, 57, 58, 59, 60, 61, 62, 63, 64, 65, 66, 67] (fun _ x _ _ _ _ _ _ _ _ _ _ _ wr => ∃ k : Nat, x = .int .i64 k ∧ k ≤ (tornPages d.waits d.room).length ∧ J k wr ∧ MayRows W.heap.size wr W.heap.size f (mayOf d.lasts d.waits) ∧ wr.ownsRow W.heap.size 3 1 (.slice a2 (tornPages d.waits d.room).length c2) (tornPages d.waits d.room).length (((tornPages d.waits d.room).map (fun p : Nat => (p : Int))).map Go.encZ))
        (fun _ x _ _ _ _ _ _ _ _ _ _ _ _ => (tornPages d.waits d.room).length - (intOf x).toNat)
      case atStart => exact ⟨0, rfl, Nat.zero_le _, hJ2, hM2, hrow3⟩
      case round =>
        obtain ⟨k, rfl, hk, hJk, hMk, hrk⟩ := hrel
        by_cases hkN : k < (tornPages d.waits d.room).length
        · obtain ⟨p, hp2⟩ : ∃ p, (tornPages d.waits d.room)[k]? = some p := ⟨_, List.getElem?_eq_getElem hkN⟩
          have hpt := tornPages_mem.1 (List.mem_of_getElem? hp2)
          have hgne : mayOf d.lasts d.waits p ≠ [] := by unfold mayOf; rw [if_pos hpt.2]; simp
          obtain ⟨vp, hvp, hvr⟩ := hMk.some_ p hgne
          obtain ⟨gv, cv, rfl, hgv, -⟩ := World.ownsRow.form hvr (List.length_pos_iff.2 hgne)
          obtain ⟨gs, cs, ev, -, -⟩ := World.ownsRow.form hrk (by omega)
          obtain ⟨rfl, rfl⟩ : a2 = some ⟨gs, 0, none⟩ ∧ c2 = cs := by cases ev; exact ⟨rfl, rfl⟩
          have hc := World.ownsRow.cells hrk rfl k (.int .i64 p) (by simp [hp2])
          rw [addr_add, Nat.zero_add] at hc
          obtain ⟨fn, tmps, assign, body, hyy, hR⟩ := hY k _ wr hJk ⟨p, gv, cv, hp2, rfl, Nat.le_trans hWw hgv, row_mono hvr hWw⟩ hkN
          have hkz : (k : Int) < (tornPages d.waits d.room).length := by omega
          have e1 : wrap64 ((k : Int) + 1) = ((k + 1 : Nat) : Int) := by unfold wrap64; omega
          have HV := Lib.hid hvp
          have hp4 : p ≤ 9223372036854775807 := by omega
          have tokK : True := trivial
          have hF : Fence.wide = Fence.wide ∨ ∃ l, Fence.wide = rnd l := .inl rfl
          clear hvp hp2 hpt hgne
          gi_wp2_with (first
            | (have _t := tokK; refine wpListIn_one hF rfl rfl (wpList_look rfl _ _ false rfl Try.underlying3 Try.underlying96 (z := zero83) Try.zeroValue77 hMk.map rfl p hp4 rfl ⟨rfl, ?_⟩); rw [HV.out]; simp only [Option.getD_some, Bool.false_eq_true, if_false]; clear tokK))
          refine ⟨fun hx => (by cases hx), hR.mono ?_⟩
          rintro e W' (⟨rfl, hJ', hkp⟩ | ⟨rfl, hJx'⟩)
          · gi_wp2
            generalize wrap64 ((k : Int) + 1) = q at e1 ⊢
            subst e1
            go_roundw
            case rel => exact ⟨k + 1, rfl, hkN, hJ', hMk.on hkp hWw, row_on hrk hkp hWw⟩
            case measure => exact Nat.sub_lt_sub_left hkN (Nat.lt_succ_self k)
          · gi_wp2
            refine bodyPost_ret (results_none rfl _ _ _) rfl ?_
            exact ⟨⟨_, rfl⟩, .inr ⟨_, hJx'⟩⟩
        · obtain rfl : k = (tornPages d.waits d.room).length := by omega
          have hkz : ¬ (((tornPages d.waits d.room).length : Int) < (tornPages d.waits d.room).length) := by omega
          gi_wp2
          go_end0
          exact ⟨⟨_, rfl⟩, .inl hJk⟩
end Go.Proofs.Ytkophpipehdkmaa

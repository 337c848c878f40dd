/- Layer 2: Flush. -/
import Derived.Test.YtkophpipehdkmaaDskCopyMap
namespace Go.Proofs.Ytkophpipehdkmaa
open Go.RowKit Go.Maps

theorem pages_pages {f : Nat → Option Page} (h : ∀ p l, f p = some l → l.length = 256) : ∀ k v, pagesV f k = some v → ∃ l : Page, l.length = 256 ∧ v = pageV l := fun k v hv => by
  unfold pagesV at hv
  cases hf : f k with
  | none => rw [hf] at hv; cases hv
  | some l => rw [hf] at hv; cases hv; exact ⟨l, h k l hf, rfl⟩
theorem wpList_clear {P : Program} {kT T E : TypeId} {w : World} {ops : Array Oper} {rest : List Oper} {o : Oper} {a : Act} {Q : Exit → Act → World → Prop} {b : Nat} {f : Nat → Option Value} (hg : o.guard = none) (m : Operand) (hop : o.op = .call { callee := .builtin .clear, args := #[m], argTypes := #[T] })
    (hT : P.underlying T = some (.map kT E)) (h : IntMap P kT w b f) (hm : a.eval m = .map (some b))
    (hK : ∀ w', IntMap P kT w' b (fun _ => none) → w.grownBy w' (some b) → wpList P ops Q rest (a.put o.dst (.tuple #[])) w') : wpList P ops Q (o :: rest) a w := by
  refine wpList_plain hg fun K hK' => ?_
  obtain ⟨w', hrun, r1, r2⟩ := h.clear hT o.type
  unfold Oper.wp
  simp [execOp, hop, resolve, invoke, Go.builtin, hm, hrun, Result.andThen]
  exact hK' _ _ (hK w' r1 r2)
def F1Sp (B bl bn : Nat) : Nat → Value → Prop
  | 2, v => v = .pointer (some ⟨B, 5, none⟩)
  | 3, v => v = .map (some bl)
  | 6, v => v = .pointer (some ⟨B, 6, none⟩)
  | 7, v => v = .map (some bn)
  | 8, v => v = .tuple #[]
  | _, v => v = ptr B
def F1I (w : World) (bl : Nat) (f : Nat → Option Value) (listed : Array Bool) (w' : World) : Prop :=
  if listed.getD 8 false = true then IntMap Try.prog 3 w' bl f ∧ w.grownBy w' (some bl) else w' = w.drew
theorem F1I.still {w w' : World} {bl : Nat} {f : Nat → Option Value} {listed : Array Bool} (h : F1I w bl f listed w') {i : Nat} (hi : i ≠ 8) : F1I w bl f (listed.setIfInBounds i true) w' := by
  unfold F1I at h ⊢
  rw [listed_other (Ne.symm hi)]
  exact h
theorem F1I.before {w w' : World} {bl : Nat} {f : Nat → Option Value} {listed : Array Bool} (h : F1I w bl f listed w') (h8 : listed.getD 8 false = false) : w' = w.drew := by
  unfold F1I at h
  rwa [if_neg (by rw [h8]; simp)] at h

set_option maxRecDepth 100000 in
set_option maxHeartbeats 4000000 in
theorem flush1_any {n₀ : Nat} {w : World} {B Pd : Nat} {d : Dsk} (h : IsDisk n₀ w B d) (hd : w.heap[Pd]? = some (box 25 (ptr B))) :
    Calls Try.prog 39 #[ptr Pd] w fun e w' => e = .returned (.tuple #[]) ∧ IsDisk n₀ w' B { d with lasts := applied d.lasts d.waits, waits := [] } ∧ Keeps n₀ w w' := by
  obtain ⟨bl, bn, v, fl, h⟩ := h
  have hn0 := h.n_le
  have hpp := pages_pages (f := newest d.waits) (fun p l hp => newest_len (fun x hx => (h.ok.wait x hx).2) hp)
  go_enter Try.func39, Try.ntmps39
  go_wp2_with fail
  refine wp_region_l (F1I w bl (orF (pagesV (newest d.waits)) (pagesV fl))) (fun i u _ => F1Sp B bl bn i u) (by kernel_rfl) (by kernel_rfl) (by kernel_rfl) (by kernel_rfl) (by unfold F1I; simp) ?step ?fin
  case step =>
    intro i o ho listed a w' hI hn hpre
    have hi : i < 9 := (Array.getElem?_eq_some_iff.1 ho).1
    match i, hi with
    | 0, _ =>
      have e := hI.inv.before (hI.notyet (hI.notyet (hI.notyet (hI.notyet hn 1 (by kernel_rfl)) 2 (by kernel_rfl)) 3 (by kernel_rfl)) 8 (by kernel_rfl))
      subst e
      cases ho
      exact wpOp_load rfl rfl rfl (hI.kept (t := 0) (by kernel_rfl)) (load_cell (Try.isAgg25 _) (box_cell (w := w.drew) hd)) ⟨_, rfl, hI.inv.still (by omega), fun _ => rfl, fun _ _ _ h => h⟩
    | 1, _ =>
      cases ho
      exact wpOp_nilCheck rfl rfl rfl (hI.slot 0 1 rfl (hpre ⟨0, .data⟩ (by simp) rfl) rfl) ⟨_, rfl, hI.inv.still (by omega), fun _ => rfl, fun _ _ _ h => h⟩
    | 2, _ =>
      cases ho
      exact wpOp_field rfl rfl rfl (hI.slot 1 2 rfl (hpre ⟨1, .data⟩ (by simp) rfl) rfl) (field58_3 B w') ⟨_, rfl, hI.inv.still (by omega), fun _ => rfl, fun _ _ _ h => h⟩
    | 3, _ =>
      have e := hI.inv.before (hI.notyet hn 8 (by kernel_rfl))
      subst e
      cases ho
      exact wpOp_load rfl rfl rfl (hI.slot 2 3 rfl (hpre ⟨2, .data⟩ (by simp) rfl) rfl) (load_cell (Try.isAgg59 _) (h.drew.cell 5)) ⟨_, rfl, hI.inv.still (by omega), fun _ => rfl, fun _ _ _ h => h⟩
    | 4, _ =>
      have e := hI.inv.before (hI.notyet (hI.notyet (hI.notyet (hI.notyet hn 5 (by kernel_rfl)) 6 (by kernel_rfl)) 7 (by kernel_rfl)) 8 (by kernel_rfl))
      subst e
      cases ho
      exact wpOp_load rfl rfl rfl (hI.kept (t := 0) (by kernel_rfl)) (load_cell (Try.isAgg25 _) (box_cell (w := w.drew) hd)) ⟨_, rfl, hI.inv.still (by omega), fun _ => rfl, fun _ _ _ h => h⟩
    | 5, _ =>
      cases ho
      exact wpOp_nilCheck rfl rfl rfl (hI.slot 4 5 rfl (hpre ⟨4, .data⟩ (by simp) rfl) rfl) ⟨_, rfl, hI.inv.still (by omega), fun _ => rfl, fun _ _ _ h => h⟩
    | 6, _ =>
      cases ho
      exact wpOp_field rfl rfl rfl (hI.slot 5 6 rfl (hpre ⟨5, .data⟩ (by simp) rfl) rfl) (field58_4 B w') ⟨_, rfl, hI.inv.still (by omega), fun _ => rfl, fun _ _ _ h => h⟩
    | 7, _ =>
      have e := hI.inv.before (hI.notyet hn 8 (by kernel_rfl))
      subst e
      cases ho
      exact wpOp_load rfl rfl rfl (hI.slot 6 7 rfl (hpre ⟨6, .data⟩ (by simp) rfl) rfl) (load_cell (Try.isAgg59 _) (h.drew.cell 6)) ⟨_, rfl, hI.inv.still (by omega), fun _ => rfl, fun _ _ _ h => h⟩
    | 8, _ =>
      have e := hI.inv.before hn
      subst e
      cases ho
      have e4 : a.eval (.tmp 4) = .map (some bl) := hI.slot 3 4 rfl (hpre ⟨3, .data⟩ (by simp) rfl) rfl
      have e8 : a.eval (.tmp 8) = .map (some bn) := hI.slot 7 8 rfl (hpre ⟨7, .data⟩ (by simp) rfl) rfl
      refine wpOp_callFn rfl rfl rfl (vs := #[.map (some bl), .map (some bn)]) (by simp only [List.map_toArray, List.map_cons, List.map_nil, e4, e8]) (fun _ _ => by kernel_rfl) ((copy_any h.last.drew h.news.drew h.ne hpp).mono ?_)
      rintro e w'' ⟨rfl, hm, hg⟩
      refine ⟨_, rfl, _, rfl, ?_, fun _ => rfl, fun _ _ _ h => h⟩
      unfold F1I
      rw [listed_same (by rw [hI.size]; decide), if_pos rfl]
      exact ⟨hm, hg.os, hg.tape, hg.output, hg.size, hg.block⟩
  case fin =>
    intro listed a w' hI hall
    have hinv := hI.inv
    unfold F1I at hinv
    rw [if_pos (hall 8 (by decide))] at hinv
    obtain ⟨hM, hG⟩ := hinv
    have e0 : a.eval (.tmp 0) = ptr Pd := hI.kept (t := 0) (by kernel_rfl)
    rcases a with ⟨T, D⟩
    obtain rfl : D = [] := hI.defers
    have hln := hI.len
    clear hI hall
    obtain ⟨t0, t1, t2, t3, t4, t5, t6, t7, t8, t9, t10, t11, t12, t13, t14, t15, t16, rfl⟩ := frame17 hln
    obtain rfl : t0 = ptr Pd := e0
    clear hln
    have hBl : B ≠ bl := h.ne_l
    have hvn := h.ne_v
    have hbl_map : ∀ cs t fr, w.heap[bl]? ≠ some (Obj.cells cs t fr) := fun cs t fr hk => by
      obtain ⟨_, ⟨es, clock, hb2, _⟩, _⟩ := h.last
      rw [hk] at hb2; cases hb2
    have hbn_map : ∀ cs t fr, w.heap[bn]? ≠ some (Obj.cells cs t fr) := fun cs t fr hk => by
      obtain ⟨_, ⟨es, clock, hb2, _⟩, _⟩ := h.news
      rw [hk] at hb2; cases hb2
    have hc1 : w'.heap[B]? = some (.cells (dskCells d bl bn v) 72 (0, 0)) := (hG.block B h.lt (fun e => hBl (Option.some.inj e))).trans h.cells
    have hd1 : w'.heap[Pd]? = some (box 25 (ptr B)) := (hG.block Pd (lt_of_heap hd) (fun e => hbl_map _ _ _ (by rw [← Option.some.inj e]; exact hd))).trans hd
    have hN1 : IntMap Try.prog 3 w' bn (pagesV (newest d.waits)) := h.news.kept hG (fun e => h.ne (Option.some.inj e).symm)
    have hK1 : Keeps n₀ w w' := Keeps.of_grown hG h.lo.2.1 hn0 (fun cs t fr hk => absurd hk (hbl_map cs t fr))
    have c6 : w'.cell? ⟨B, 6, none⟩ = some (.map (some bn)) := cell_of_row w' B 6 _ _ _ hc1
    have cP := box_cell hd1
    have HV := Lib.hid hvn
    have HBL := Lib.hid hbl_map
    have HBN := Lib.hid hbn_map
    have tokC : True := trivial
    clear hvn hbl_map hbn_map hpp
    go_wp2_with (have _t := tokC; refine wpList_clear rfl _ rfl Try.underlying59 hN1 rfl ?_; intro w2 hM2 hG2; clear tokC; have hc2 : w2.heap[B]? = some (.cells (dskCells d bl bn v) 72 (0, 0)) := (hG2.block B (lt_of_heap hc1) (fun e => h.ne_n (Option.some.inj e))).trans hc1; have hd2 : w2.heap[Pd]? = some (box 25 (ptr B)) := (hG2.block Pd (lt_of_heap hd1) (fun e => HBN.out _ _ _ (by rw [← Option.some.inj e]; exact hd))).trans hd1; have c7 : w2.cell? ⟨B, 7, none⟩ = some v := cell_of_row w2 B 7 _ _ _ hc2; have f7 := frozen_of_row w2 B 7 _ _ hc2; have cP2 := box_cell hd2)
    go_end0
    have hsg := grownBy_cell w2 ⟨B, 7, none⟩ (.slice none 0 0)
    have hK2 : Keeps n₀ w' w2 := Keeps.of_grown hG2 h.lo.2.2 (Nat.le_trans hn0 hG.size) (fun cs t fr hk => by
      obtain ⟨_, ⟨es, clock, hb2, _⟩, _⟩ := hN1
      rw [hk] at hb2; cases hb2)
    have hK3 : Keeps n₀ w2 (w2.setCell ⟨B, 7, none⟩ (.slice none 0 0)) := Keeps.of_grown hsg h.lo.1 (Nat.le_trans (Nat.le_trans hn0 hG.size) hG2.size) (fun cs t fr hk => by rw [hc2] at hk; cases hk; exact .inl rfl)
    refine ⟨rfl, ⟨bl, bn, .slice none 0 0, fun p => (newest d.waits p).orElse fun _ => fl p, ?_⟩, (hK1.trans hK2).trans hK3⟩
    have hroom : ({ d with lasts := applied d.lasts d.waits, waits := [] } : Dsk).room = d.room := applied_len _ _
    have hL3 : IntMap Try.prog 3 (w2.setCell ⟨B, 7, none⟩ (.slice none 0 0)) bl (pagesV fun p => (newest d.waits p).orElse fun _ => fl p) := by
      have e : pagesV (fun p => (newest d.waits p).orElse fun _ => fl p) = orF (pagesV (newest d.waits)) (pagesV fl) := by
        funext p
        unfold pagesV orF
        simp only
        cases newest d.waits p <;> rfl
      rw [e]
      exact (hM.kept hG2 (fun e => h.ne (Option.some.inj e))).kept hsg (fun e => hBl (Option.some.inj e).symm)
    refine ⟨⟨by rw [hroom]; exact h.ok.lo, by rw [hroom]; exact h.ok.hi, ?_, (by intro x hx; cases hx), h.ok.kind, h.ok.none_, h.ok.dead_, h.ok.left_⟩, ?_, hL3, ?_, World.ownsRow_nil _ _ _ _, h.lo, h.ne, ?_, ?_⟩
    · intro p hp
      rw [hroom] at hp
      show ((applied d.lasts d.waits).getD p noughts).length = 256
      rw [applied_get _ _ hp]
      cases hn : newest d.waits p with
      | none => exact h.ok.len p hp
      | some l => exact newest_len (fun x hx => (h.ok.wait x hx).2) hn
    · rw [heap_setCell_same w2 B 7 _ _ _ hc2]
      have e : (applied d.lasts d.waits).length = d.lasts.length := applied_len _ _
      simp [dskCells, Dsk.room, e]
    · exact hM2.kept hsg (fun e => h.ne_n (Option.some.inj e).symm)
    · intro p hp
      rw [hroom] at hp
      show _ = (applied d.lasts d.waits).getD p noughts
      rw [applied_get _ _ hp]
      cases hn : newest d.waits p with
      | none => exact h.fl_lo p hp
      | some l => rfl
    · intro p hp
      rw [hroom] at hp
      cases hn : newest d.waits p with
      | none => exact h.fl_hi p hp
      | some l =>
        obtain ⟨x, hx, e⟩ := newest_isSome.1 (by rw [hn]; rfl : (newest d.waits p).isSome = true)
        have := (h.ok.wait x hx).1
        omega

set_option maxRecDepth 100000 in
set_option maxHeartbeats 1000000 in
/-- Flush. -/
theorem flush_disk {n₀ : Nat} {w : World} {B : Nat} {d : Dsk} (h : IsDisk n₀ w B d) (hf : d.Few 2147483648) :
    Calls Try.prog 18 #[ptr B] w fun e w' => e = .returned (.int .i64 d.flush.2) ∧ IsDisk n₀ w' B d.flush.1 ∧ Keeps n₀ w w' := by
  obtain ⟨w1, hw1⟩ : ∃ w1, w.alloc (.cells #[ptr B] 25) = w1 := ⟨_, rfl⟩
  have hb : Below w.heap.size w w1 := by subst hw1; exact (Below.refl _ w).alloc (Nat.le_refl _) _
  have h1 := h.below hb
  have ht := there_disk h1
  have hd : w1.heap[w.heap.size]? = some (box 25 (ptr B)) := by subst hw1; exact heap_alloc_last w _
  have hs := step_flush h1 #[ptr w.heap.size] { d with left := d.left - (if d.kind = 0 then 0 else 1), lasts := applied d.lasts d.waits, waits := [] } hf.2 rfl
    (fun w2 hK hD => flush1_any hD (hK.cells _ _ _ _ hd (by decide) (by decide)))
  have hst : d.step.2 = 0 → d.step.1 = { d with left := d.left - (if d.kind = 0 then 0 else 1), steps := d.steps + 1 } := by
    intro h0
    unfold Dsk.step at h0 ⊢
    split at h0
    · cases h0
    · rename_i hd0
      rw [if_neg hd0]
      split at h0
      · split at h0 <;> cases h0
      · rename_i hk0
        rw [if_neg hk0]
  have e1 : (if d.step.2 = 0 then { ({ d with left := d.left - (if d.kind = 0 then 0 else 1), lasts := applied d.lasts d.waits, waits := [] } : Dsk) with steps := d.steps + 1 } else d.step.1) = d.flush.1 := by
    unfold Dsk.flush
    by_cases h0 : d.step.2 = 0
    · rw [if_pos h0, if_pos h0, hst h0]
    · rw [if_neg h0, if_neg h0]
  have e2 : d.step.2 = d.flush.2 := by
    unfold Dsk.flush
    by_cases h0 : d.step.2 = 0
    · rw [if_pos h0, h0]
    · rw [if_neg h0]
  rw [e1, e2] at hs
  generalize d.flush = r at hs ⊢
  clear e1 e2 hst
  rw [← hw1] at ht hb hs
  have HS := Lib.hid hs
  have HF := Lib.hid h.n_le
  clear hw1 hs hd h1 hf
  go_enter Try.func18, Try.ntmps18
  go_wp2_with (first
    | (go_at_call 26; refine ht.mono ?_; rintro e w' ⟨rfl, rfl⟩)
    | (go_at_call 38; refine HS.out.mono ?_; rintro e w' ⟨rfl, hD, hK⟩))
  go_ret
  exact ⟨rfl, hD, (Keeps.of_below hb HF.out).trans hK⟩
end Go.Proofs.Ytkophpipehdkmaa

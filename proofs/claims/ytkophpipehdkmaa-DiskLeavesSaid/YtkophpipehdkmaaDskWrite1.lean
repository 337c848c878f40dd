/- Layer 2: what Write does in its step. -/
import Derived.Deep.AppendLies
import Derived.Test.YtkophpipehdkmaaDskStep
namespace Go.Proofs.Ytkophpipehdkmaa
open Go.RowKit

abbrev box (T : TypeId) (v : Value) : Obj := .cells #[v] T (0, 0)
theorem box_cell {w : World} {b : Nat} {T : TypeId} {v : Value} (h : w.heap[b]? = some (box T v)) : w.cell? ⟨b, 0, none⟩ = some v := by
  rw [cell_of_row w b 0 _ _ _ h]; rfl
theorem lt_of_heap {w : World} {b : Nat} {o : Obj} (h : w.heap[b]? = some o) : b < w.heap.size := (Array.getElem?_eq_some_iff.1 h).1
theorem of_below {w w' : World} {b : Nat} {o : Obj} (h : w.heap[b]? = some o) (hb : Below w.heap.size w w') : w'.heap[b]? = some o := (hb.block b (lt_of_heap h)).trans h

/-- The bytes that a write is handed: 256 of them, from an address on. -/
structure Bytes256 (w : World) (b off : Nat) (l : Page) : Prop where
  len : l.length = 256
  at_ : w.rangeAt b off (byteVals l)
  blk : ∃ cs t fr, w.heap[b]? = some (Obj.cells cs t fr) ∧ t ≠ 72 ∧ t ≠ 84
theorem Bytes256.below {w w' : World} {b off : Nat} {l : Page} (h : Bytes256 w b off l) (hb : Below w.heap.size w w') : Bytes256 w' b off l := by
  refine ⟨h.len, fun j v hv => ?_, ?_⟩
  · have hc := h.at_ j v hv
    exact (hb.cell (p := ⟨b, off + j, none⟩) (cell_lt hc)).trans hc
  · obtain ⟨cs, t, fr, hk, h1, h2⟩ := h.blk
    exact ⟨cs, t, fr, of_below hk hb, h1, h2⟩
theorem Bytes256.keeps {n₀ : Nat} {w w' : World} {b off : Nat} {l : Page} (h : Bytes256 w b off l) (hb : Keeps n₀ w w') : Bytes256 w' b off l := by
  obtain ⟨cs, t, fr, hk, h1, h2⟩ := h.blk
  exact ⟨h.len, fun j v hv => (hb.cell hk h1 h2).trans (h.at_ j v hv), cs, t, fr, hb.cells _ _ _ _ hk h1 h2, h1, h2⟩

def W1Sp (g : Nat) (p : Nat) (l : Page) (b off cap : Nat) : Nat → Value → Prop
  | 0, v => v = .int .i64 p
  | 1, v => v = .slice (some ⟨b, off, none⟩) 256 cap
  | 2, v => v = .pointer (some ⟨b, off, none⟩)
  | 3, v => v = pageV l
  | 4, v => v = writeV p l
  | _, v => v = ptr g
def W2Sp (B bn g p : Nat) (l : Page) : Nat → Value → Prop
  | 0, v => v = ptr B
  | 1, v => v = ptr B
  | 2, v => v = .pointer (some ⟨B, 6, none⟩)
  | 3, v => v = .map (some bn)
  | 4, v => v = .int .i64 p
  | 5, v => v = .pointer (some ⟨g, 1, none⟩)
  | _, v => v = pageV l
def W2I (W : World) (bn : Nat) (f : Nat → Option Value) (listed : Array Bool) (w : World) : Prop :=
  if listed.getD 7 false = true then IntMap Try.prog 3 w bn f ∧ W.grownBy w (some bn) else w = W.drew
def W3Sp (n₀ B : Nat) (v : Value) (n : Nat) (xs : List Value) (p : Nat) (l : Page) (g : Nat) : Nat → Value → World → Prop
  | 3, u, _ => u = .pointer (some ⟨B, 7, none⟩)
  | 4, u, _ => u = v
  | 5, u, _ => u = writeV p l
  | 6, u, _ => u = .slice (some ⟨g, 0, none⟩) 1 1
  | 7, u, w => w.ownsRow n₀ 84 257 u (n + 1) (xs ++ writeCells p l)
  | 9, u, _ => u = .pointer (some ⟨B, 7, none⟩)
  | _, u, _ => u = ptr B
theorem W3Sp.any {n₀ B : Nat} {v : Value} {n : Nat} {xs : List Value} {p : Nat} {l : Page} {g : Nat} {w w' : World} : ∀ {j : Nat} {u : Value}, j ≠ 7 → W3Sp n₀ B v n xs p l g j u w → W3Sp n₀ B v n xs p l g j u w'
  | 0, _, _, h => h
  | 1, _, _, h => h
  | 2, _, _, h => h
  | 3, _, _, h => h
  | 4, _, _, h => h
  | 5, _, _, h => h
  | 6, _, _, h => h
  | 7, _, h, _ => absurd rfl h
  | 8, _, _, h => h
  | 9, _, _, h => h
  | _ + 10, _, _, h => h
def W3I (n₀ : Nat) (W : World) (B : Nat) (v : Value) (n : Nat) (xs : List Value) (p : Nat) (l : Page) (listed : Array Bool) (w : World) : Prop :=
  Keeps n₀ W w ∧ (listed.getD 10 false = false → w.heap[B]? = W.heap[B]?) ∧
  (if listed.getD 10 false = true then ∃ u X, X.ownsRow n₀ 84 257 u (n + 1) (xs ++ writeCells p l) ∧ (W.drew.alloc (.cells (writeCells p l).toArray 84)).grownBy X v.ownBlock ∧ w = X.setCell ⟨B, 7, none⟩ u
   else if listed.getD 7 false = true then (W.drew.alloc (.cells (writeCells p l).toArray 84)).grownBy w v.ownBlock
   else if listed.getD 6 false = true then w = W.drew.alloc (.cells (writeCells p l).toArray 84) else w = W.drew)
theorem W3I.still {n₀ : Nat} {W w : World} {B : Nat} {v : Value} {n : Nat} {xs : List Value} {p : Nat} {l : Page} {listed : Array Bool} (h : W3I n₀ W B v n xs p l listed w) {i : Nat} (hi : i ≠ 6 ∧ i ≠ 7 ∧ i ≠ 10) : W3I n₀ W B v n xs p l (listed.setIfInBounds i true) w := by
  unfold W3I at h ⊢
  rw [listed_other (Ne.symm hi.1), listed_other (Ne.symm hi.2.1), listed_other (Ne.symm hi.2.2)]
  exact h
theorem W2I.still {W w : World} {bn : Nat} {f : Nat → Option Value} {listed : Array Bool} (h : W2I W bn f listed w) {i : Nat} (hi : i ≠ 7) : W2I W bn f (listed.setIfInBounds i true) w := by
  unfold W2I at h ⊢
  rw [listed_other (Ne.symm hi)]
  exact h
def W1I (w : World) (p : Nat) (l : Page) (listed : Array Bool) (w' : World) : Prop :=
  if listed.getD 6 false = true then w' = w.drew.alloc (.cells (writeCells p l).toArray 84)
  else if listed.getD 5 false = true then w' = w.drew.alloc (.cells (writeV 0 noughts).cells 84) else w' = w.drew
theorem W1I.below {w w' : World} {p : Nat} {l : Page} {listed : Array Bool} (h : W1I w p l listed w') : Below w.heap.size w w' := by
  unfold W1I at h
  split at h
  · subst h; exact ((Below.refl _ w).drew).alloc (Nat.le_refl _) _
  · split at h
    · subst h; exact ((Below.refl _ w).drew).alloc (Nat.le_refl _) _
    · subst h; exact (Below.refl _ w).drew
/-- An operation that turns nothing. -/
theorem W1I.still {w w' : World} {p : Nat} {l : Page} {listed : Array Bool} (h : W1I w p l listed w') {i : Nat} (hi : i ≠ 6 ∧ i ≠ 5) : W1I w p l (listed.setIfInBounds i true) w' := by
  unfold W1I at h ⊢
  rw [listed_other (Ne.symm hi.1), listed_other (Ne.symm hi.2)]
  exact h

theorem field90_1 (g : Nat) (w : World) : (Instr.fieldAt 84 (ptr g) 1).run Try.prog w = .ok (.pointer (some ⟨g, 1, none⟩)) w := by simp [go_sem]
theorem array77 (a : Option Addr) (cap : Nat) (w : World) : (Instr.arrayAt 66 (.slice a 256 cap)).run Try.prog w = .ok (.pointer a) w := by simp [Instr.arrayAt, go_sem, Result.andThen]
theorem alloc90 (w : World) : (Instr.alloc 84 true (.tuple #[])).run Try.prog w = .ok (ptr w.heap.size) (w.alloc (.cells (writeV 0 noughts).cells 84)) :=
  run_alloc_z w 84 (writeV 0 noughts) (fun w => (zero_of_info zero90).1 w)
theorem store90 (w : World) (p : Nat) (l : Page) (hl : l.length = 256) : (Instr.storeAt 84 (ptr w.heap.size) (writeV p l)).run Try.prog (w.alloc (.cells (writeV 0 noughts).cells 84)) = .ok () (w.alloc (.cells (writeCells p l).toArray 84)) :=
  run_storeAt_new w 84 _ _ (by rw [size90, List.size_toArray, writeCells_len, hl]) (by rw [writeV_cells, List.size_toArray, List.size_toArray, writeCells_len, writeCells_len, hl, noughts_len]) (all_oneCell_toArray (writeCells_one p l))
theorem build_slice90 (w : World) (p : Nat) (l : Page) (hl : l.length = 256) : (Instr.buildSlice 70 1 #[(0, writeV p l)]).run Try.prog w = .ok (.slice (some ⟨w.heap.size, 0, none⟩) 1 1) (w.alloc (.cells (writeCells p l).toArray 84)) := by
  obtain ⟨i, hi, hz, hs, -⟩ := info_parts info90
  have hf := Great.fill_whole (s := 257) (by omega) [writeV p l] ((Array.range (1 * 257)).map ((writeV 0 noughts).cells[· % (writeV 0 noughts).cells.size]!)) (by simp [writeV_cells, writeCells_len, hl]) (by simp)
  exact run_buildSlice w 70 84 1 _ _ i _ Try.underlying70 hi hz (by rw [hs]; omega) (by rw [hs]; omega) (by rw [hs]; simpa [writeV_cells] using hf)

set_option maxRecDepth 100000 in
set_option maxHeartbeats 4000000 in
theorem write1_any {n₀ : Nat} {w : World} {B Pg Pb Pd : Nat} {d : Dsk} {p : Nat} {l : Page} {b off cap : Nat} (h : IsDisk n₀ w B d) (hp : p < d.room) (hm : d.waits.length ≤ 2147483648)
    (hg : w.heap[Pg]? = some (box 3 (.int .i64 p))) (hb : w.heap[Pb]? = some (box 31 (.slice (some ⟨b, off, none⟩) 256 cap))) (hd : w.heap[Pd]? = some (box 25 (ptr B))) (hl : Bytes256 w b off l) :
    Calls Try.prog 41 #[ptr Pg, ptr Pb, ptr Pd] w fun e w' => e = .returned (.tuple #[]) ∧ IsDisk n₀ w' B { d with waits := d.waits ++ [(p, l)] } ∧ Keeps n₀ w w' := by
  obtain ⟨bl, bn, v, fl, h⟩ := h
  have hn0 := h.n_le
  go_enter Try.func41, Try.ntmps41
  go_wp2_with fail
  refine wp_region_l (W1I w p l) (fun i u _ => W1Sp w.heap.size p l b off cap i u) (by kernel_rfl) (by kernel_rfl) (by kernel_rfl) (by kernel_rfl) (by unfold W1I; simp) ?step ?fin
  case step =>
    intro i o ho listed a w' hI hn hpre
    have hi : i < 7 := (Array.getElem?_eq_some_iff.1 ho).1
    have hB := hI.inv.below
    match i, hi with
    | 0, _ =>
      cases ho
      exact wpOp_load rfl rfl rfl (hI.kept (t := 0) (by kernel_rfl)) (load_cell (Try.isAgg3 w') (box_cell (of_below hg hB))) ⟨_, rfl, hI.inv.still (by omega), fun _ => rfl, fun _ _ _ h => h⟩
    | 1, _ =>
      cases ho
      exact wpOp_load rfl rfl rfl (hI.kept (t := 1) (by kernel_rfl)) (load_cell (Try.isAgg31 w') (box_cell (of_below hb hB))) ⟨_, rfl, hI.inv.still (by omega), fun _ => rfl, fun _ _ _ h => h⟩
    | 2, _ =>
      cases ho
      exact wpOp_toArray rfl rfl rfl (hI.slot 1 5 rfl (hpre ⟨1, .data⟩ (by simp) rfl) rfl) (array77 _ _ w') ⟨_, rfl, hI.inv.still (by omega), fun _ => rfl, fun _ _ _ h => h⟩
    | 3, _ =>
      cases ho
      exact wpOp_load rfl rfl rfl (hI.slot 2 6 rfl (hpre ⟨2, .data⟩ (by simp) rfl) rfl) (run_load77 w' b off l hl.len (hl.below hB).at_) ⟨_, rfl, hI.inv.still (by omega), fun _ => rfl, fun _ _ _ h => h⟩
    | 4, _ =>
      cases ho
      have e4 : a.eval (.tmp 4) = .int .i64 p := hI.slot 0 4 rfl (hpre ⟨0, .data⟩ (by simp) rfl) rfl
      have e7 : a.eval (.tmp 7) = pageV l := hI.slot 3 7 rfl (hpre ⟨3, .data⟩ (by simp) rfl) rfl
      exact wpOp_build rfl rfl rfl (vs := #[(0, .int .i64 p), (1, pageV l)]) (by simp only [List.map_toArray, List.map_cons, List.map_nil, e4, e7]) (run_build90 w' p l hl.len) ⟨_, rfl, hI.inv.still (by omega), fun _ => rfl, fun _ _ _ h => h⟩
    | 5, _ =>
      cases ho
      have h6 := hI.notyet hn 6 (by kernel_rfl)
      have hinv := hI.inv
      unfold W1I at hinv
      rw [if_neg (by rw [h6]; simp), if_neg (by rw [hn]; simp)] at hinv
      subst hinv
      refine wpOp_alloc rfl rfl rfl (alloc90 w.drew) ⟨_, rfl, ?_, fun _ => rfl, fun _ _ _ h => h⟩
      unfold W1I
      rw [listed_other (by omega), listed_same (by rw [hI.size]; decide), if_neg (by rw [h6]; simp), if_pos rfl]
    | 6, _ =>
      cases ho
      have h5 := hpre ⟨5, .data⟩ (by simp) rfl
      have hinv := hI.inv
      unfold W1I at hinv
      rw [if_neg (by rw [hn]; simp), if_pos h5] at hinv
      subst hinv
      refine wpOp_store rfl rfl rfl (hI.slot 5 3 rfl h5 rfl) (hI.slot 4 8 rfl (hpre ⟨4, .data⟩ (by simp) rfl) rfl) (store90 w.drew p l hl.len) ⟨_, rfl, ?_, (fun e => by cases e), fun _ _ _ h => h⟩
      unfold W1I
      rw [listed_same (by rw [hI.size]; decide), if_pos rfl]
  case fin =>
    intro listed a w' hI hall
    have e3 : a.eval (.tmp 3) = ptr w.heap.size := hI.slot 5 3 rfl (hall 5 (by decide)) rfl
    have e0 : a.eval (.tmp 0) = ptr Pg := hI.kept (t := 0) (by kernel_rfl)
    have e2 : a.eval (.tmp 2) = ptr Pd := hI.kept (t := 2) (by kernel_rfl)
    have hinv := hI.inv
    unfold W1I at hinv
    rw [if_pos (hall 6 (by decide))] at hinv
    rcases a with ⟨T, D⟩
    obtain rfl : D = [] := hI.defers
    obtain ⟨t0, t1, t2, t3, t4, t5, t6, t7, t8, t9, t10, t11, t12, t13, t14, t15, t16, t17, t18, t19, t20, t21, t22, t23, t24, t25, rfl⟩ := frame26 hI.len
    obtain rfl : t3 = ptr w.heap.size := e3
    obtain rfl : t0 = ptr Pg := e0
    obtain rfl : t2 = ptr Pd := e2
    clear hI hall
    have hB : Below w.heap.size w w' := by subst hinv; exact ((Below.refl _ w).drew).alloc (Nat.le_refl _) _
    have hW : w'.heap[w.heap.size]? = some (.cells (writeCells p l).toArray 84 (0, 0)) := by subst hinv; exact heap_alloc_last w.drew _
    have hg' := of_below hg hB
    have hd' := of_below hd hB
    have hD := h.below hB
    clear hinv
    have hrow := hD.row
    have hsz : w.heap.size < w'.heap.size := lt_of_heap hW
    obtain ⟨W1, rfl⟩ : ∃ W1, W1 = w' := ⟨_, rfl⟩
    go_wp2_with fail
    refine wp_region_l (W2I W1 bn (putAt (pagesV (newest d.waits)) p (pageV l))) (fun i u _ => W2Sp B bn w.heap.size p l i u) (by kernel_rfl) (by kernel_rfl) (by kernel_rfl) (by kernel_rfl) (by unfold W2I; simp) ?step2 ?fin2
    case step2 =>
      intro i o ho listed a w' hI hn hpre
      have hi : i < 8 := (Array.getElem?_eq_some_iff.1 ho).1
      match i, hi with
      | 7, _ =>
        cases ho
        have hinv := hI.inv
        unfold W2I at hinv
        rw [if_neg (by rw [hn]; simp)] at hinv
        subst hinv
        obtain ⟨w2, hrun, hm2, hg2⟩ := (hD.news.drew).put Try.underlying3 Try.underlying59 p (by have := h.ok.hi; omega) (pageV l)
        refine wpOp_update rfl rfl rfl (hI.slot 3 12 rfl (hpre ⟨3, .data⟩ (by simp) rfl) rfl) (hI.slot 4 13 rfl (hpre ⟨4, .data⟩ (by simp) rfl) rfl) (hI.slot 6 15 rfl (hpre ⟨6, .data⟩ (by simp) rfl) rfl) hrun ⟨_, rfl, ?_, (fun e => by cases e), fun _ _ _ h => h⟩
        unfold W2I
        rw [listed_same (by rw [hI.size]; decide), if_pos rfl]
        exact ⟨hm2, hg2.os, hg2.tape, hg2.output, hg2.size, hg2.block⟩
      | 0, _ =>
        have h7 := hI.notyet hn 7 (by kernel_rfl)
        have hinv := hI.inv
        unfold W2I at hinv
        rw [if_neg (by rw [h7]; simp)] at hinv
        subst hinv
        cases ho
        exact wpOp_load rfl rfl rfl (hI.kept (t := 2) (by kernel_rfl)) (load_cell (Try.isAgg25 _) (box_cell (w := W1.drew) hd')) ⟨_, rfl, hI.inv.still (by omega), fun _ => rfl, fun _ _ _ h => h⟩
      | 1, _ =>
        cases ho
        exact wpOp_nilCheck rfl rfl rfl (hI.slot 0 9 rfl (hpre ⟨0, .data⟩ (by simp) rfl) rfl) ⟨_, rfl, hI.inv.still (by omega), fun _ => rfl, fun _ _ _ h => h⟩
      | 2, _ =>
        cases ho
        exact wpOp_field rfl rfl rfl (hI.slot 1 10 rfl (hpre ⟨1, .data⟩ (by simp) rfl) rfl) (field58_4 B w') ⟨_, rfl, hI.inv.still (by omega), fun _ => rfl, fun _ _ _ h => h⟩
      | 3, _ =>
        have h7 := hI.notyet hn 7 (by kernel_rfl)
        have hinv := hI.inv
        unfold W2I at hinv
        rw [if_neg (by rw [h7]; simp)] at hinv
        subst hinv
        cases ho
        exact wpOp_load rfl rfl rfl (hI.slot 2 11 rfl (hpre ⟨2, .data⟩ (by simp) rfl) rfl) (load_cell (Try.isAgg59 _) (hD.drew.cell 6)) ⟨_, rfl, hI.inv.still (by omega), fun _ => rfl, fun _ _ _ h => h⟩
      | 4, _ =>
        have h7 := hI.notyet hn 7 (by kernel_rfl)
        have hinv := hI.inv
        unfold W2I at hinv
        rw [if_neg (by rw [h7]; simp)] at hinv
        subst hinv
        cases ho
        exact wpOp_load rfl rfl rfl (hI.kept (t := 0) (by kernel_rfl)) (load_cell (Try.isAgg3 _) (box_cell (w := W1.drew) hg')) ⟨_, rfl, hI.inv.still (by omega), fun _ => rfl, fun _ _ _ h => h⟩
      | 5, _ =>
        cases ho
        exact wpOp_field rfl rfl rfl (hI.kept (t := 3) (by kernel_rfl)) (field90_1 _ w') ⟨_, rfl, hI.inv.still (by omega), fun _ => rfl, fun _ _ _ h => h⟩
      | 6, _ =>
        have h7 := hI.notyet hn 7 (by kernel_rfl)
        have hinv := hI.inv
        unfold W2I at hinv
        rw [if_neg (by rw [h7]; simp)] at hinv
        subst hinv
        cases ho
        have hr : (W1.drew).rangeAt w.heap.size 1 (byteVals l) := fun j u hu => by
          rw [cell_of_row (W1.drew) w.heap.size (1 + j) _ _ _ hW, List.getElem?_toArray, writeCells, Nat.add_comm, List.getElem?_cons_succ]; exact hu
        exact wpOp_load rfl rfl rfl (hI.slot 5 14 rfl (hpre ⟨5, .data⟩ (by simp) rfl) rfl) (run_load77 _ _ _ l hl.len hr) ⟨_, rfl, hI.inv.still (by omega), fun _ => rfl, fun _ _ _ h => h⟩
    case fin2 =>
      intro listed a w' hI hall
      have hinv := hI.inv
      unfold W2I at hinv
      rw [if_pos (hall 7 (by decide))] at hinv
      obtain ⟨hM, hG⟩ := hinv
      have e2 : a.eval (.tmp 2) = ptr Pd := hI.kept (t := 2) (by kernel_rfl)
      have e3 : a.eval (.tmp 3) = ptr w.heap.size := hI.kept (t := 3) (by kernel_rfl)
      rcases a with ⟨T, D⟩
      obtain rfl : D = [] := hI.defers
      have hln := hI.len
      clear hI hall
      obtain ⟨t0, t1, t2, t3, t4, t5, t6, t7, t8, t9, t10, t11, t12, t13, t14, t15, t16, t17, t18, t19, t20, t21, t22, t23, t24, t25, rfl⟩ := frame26 hln
      obtain rfl : t3 = ptr w.heap.size := e3
      obtain rfl : t2 = ptr Pd := e2
      clear hln
      obtain ⟨W2, rfl⟩ : ∃ W2, W2 = w' := ⟨_, rfl⟩
      have hnb : B ≠ bn := h.ne_n
      have hvn := hD.ne_v
      have hc2 : W2.heap[B]? = some (.cells (dskCells d bl bn v) 72 (0, 0)) := (hG.block B hD.lt (fun e => hnb (Option.some.inj e))).trans hD.cells
      have hd2 : W2.heap[Pd]? = some (box 25 (ptr B)) := by
        refine (hG.block Pd (lt_of_heap hd') (fun e => ?_)).trans hd'
        obtain ⟨_, ⟨es, clock, hb2, _⟩, _⟩ := hD.news
        rw [← Option.some.inj e, hd'] at hb2; cases hb2
      have hW2 : W2.heap[w.heap.size]? = some (.cells (writeCells p l).toArray 84 (0, 0)) := by
        refine (hG.block _ hsz (fun e => ?_)).trans hW
        obtain ⟨_, ⟨es, clock, hb2, _⟩, _⟩ := hD.news
        rw [← Option.some.inj e, hW] at hb2; cases hb2
      have hr2 : W2.ownsRow n₀ 84 257 v d.waits.length (waitCells d.waits) := hrow.kept hG (.inr hvn.2.2)
      have hn2 : n₀ ≤ W2.heap.size := Nat.le_trans (Nat.le_trans hn0 hB.size) hG.size
      have hK2 : Keeps n₀ w W2 := (Keeps.of_below hB hn0).trans (Keeps.of_grown hG h.lo.2.2 (Nat.le_trans hn0 hB.size) (fun cs t fr hk => by
        obtain ⟨_, ⟨es, clock, hb2, _⟩, _⟩ := hD.news
        rw [hk] at hb2; cases hb2))
      obtain ⟨i0, hi0, hz0, hz1, hz2⟩ := info_parts info90
      go_wp2_with fail
      refine wp_region_l (W3I n₀ W2 B v d.waits.length (waitCells d.waits) p l) (W3Sp n₀ B v d.waits.length (waitCells d.waits) p l W2.heap.size) (by kernel_rfl) (by kernel_rfl) (by kernel_rfl) (by kernel_rfl)
        ⟨⟨(Below.refl _ _).drew, fun _ _ _ _ h _ _ => h⟩, fun _ => rfl, by simp⟩ ?step3 ?fin3
      case step3 =>
        intro i o ho listed a w' hI hn hpre
        have hi : i < 11 := (Array.getElem?_eq_some_iff.1 ho).1
        have hK := hI.inv.1
        match i, hi with
        | 0, _ =>
          cases ho
          exact wpOp_load rfl rfl rfl (hI.kept (t := 2) (by kernel_rfl)) (load_cell (Try.isAgg25 _) (box_cell (hK.cells _ _ _ _ hd2 (by decide) (by decide)))) ⟨_, rfl, hI.inv.still (by omega), fun _ => rfl, fun _ _ _ h => h⟩
        | 1, _ =>
          cases ho
          exact wpOp_load rfl rfl rfl (hI.kept (t := 2) (by kernel_rfl)) (load_cell (Try.isAgg25 _) (box_cell (hK.cells _ _ _ _ hd2 (by decide) (by decide)))) ⟨_, rfl, hI.inv.still (by omega), fun _ => rfl, fun _ _ _ h => h⟩
        | 2, _ =>
          cases ho
          exact wpOp_nilCheck rfl rfl rfl (hI.slot 1 17 rfl (hpre ⟨1, .data⟩ (by simp) rfl) rfl) ⟨_, rfl, hI.inv.still (by omega), fun _ => rfl, fun _ _ _ h => h⟩
        | 3, _ =>
          cases ho
          exact wpOp_field rfl rfl rfl (hI.slot 2 18 rfl (hpre ⟨2, .data⟩ (by simp) rfl) rfl) (field58_5 B w') ⟨_, rfl, hI.inv.still (by omega), fun _ => rfl, fun _ _ _ h => h⟩
        | 4, _ =>
          have h10 := hI.notyet hn 10 (by kernel_rfl)
          cases ho
          exact wpOp_load rfl rfl rfl (hI.slot 3 19 rfl (hpre ⟨3, .data⟩ (by simp) rfl) rfl) (load_cell (Try.isAgg70 _) (by rw [cell_of_row w' B 7 _ _ _ ((hI.inv.2.1 h10).trans hc2)]; rfl)) ⟨_, rfl, hI.inv.still (by omega), fun _ => rfl, fun _ _ _ h => h⟩
        | 5, _ =>
          have h6 := hI.notyet hn 6 (by kernel_rfl)
          have h10 := hI.notyet hn 10 (by kernel_rfl)
          have h7 := hI.notyet h6 7 (by kernel_rfl)
          have hinv := hI.inv.2.2
          rw [if_neg (by rw [h10]; simp), if_neg (by rw [h7]; simp), if_neg (by rw [h6]; simp)] at hinv
          subst hinv
          cases ho
          have hr : (W2.drew).rangeAt w.heap.size 0 (writeCells p l) := fun j u hu => by
            rw [cell_of_row (W2.drew) w.heap.size (0 + j) _ _ _ hW2, List.getElem?_toArray, Nat.zero_add]; exact hu
          exact wpOp_load rfl rfl rfl (hI.kept (t := 3) (by kernel_rfl)) (run_load90 _ _ _ p l hl.len hr) ⟨_, rfl, hI.inv.still (by omega), fun _ => rfl, fun _ _ _ h => h⟩
        | 6, _ =>
          have h7 := hI.notyet hn 7 (by kernel_rfl)
          have h10 := hI.notyet hn 10 (by kernel_rfl)
          have hinv := hI.inv.2.2
          rw [if_neg (by rw [h10]; simp), if_neg (by rw [h7]; simp), if_neg (by rw [hn]; simp)] at hinv
          subst hinv
          cases ho
          have e21 : a.eval (.tmp 21) = writeV p l := hI.slot 5 21 rfl (hpre ⟨5, .data⟩ (by simp) rfl) rfl
          refine wpOp_buildSlice rfl rfl rfl (vs := #[(0, writeV p l)]) (by rw [Array.map_singleton]; show #[(0, a.eval (.tmp 21))] = _; rw [e21]) (build_slice90 (W2.drew) p l hl.len) ⟨_, rfl, ⟨?_, ?_, ?_⟩, fun _ => rfl, ?_⟩
          · exact ⟨(Below.refl _ W2).drew.alloc hn2 _, fun k cs t fr hk _ _ => (Below.heap_alloc W2.drew _ k (lt_of_heap hk)).trans hk⟩
          · intro _; exact Below.heap_alloc W2.drew _ B (lt_of_heap hc2)
          · rw [listed_other (by omega), listed_other (by omega), listed_same (by rw [hI.size]; decide), if_neg (by rw [h10]; simp), if_neg (by rw [h7]; simp), if_pos rfl]
          · intro j u hj hu
            exact W3Sp.any (by rintro rfl; rw [h7] at hj; cases hj) hu
        | 7, _ =>
          have h10 := hI.notyet hn 10 (by kernel_rfl)
          cases ho
          have h6 := hpre ⟨6, .data⟩ (by simp) rfl
          have hinv := hI.inv.2.2
          rw [if_neg (by rw [h10]; simp), if_neg (by rw [hn]; simp), if_pos h6] at hinv
          subst hinv
          have hal := heap_alloc_last W2.drew (.cells (writeCells p l).toArray 84)
          obtain ⟨u, w3, hrun, hr3, hg3, -⟩ := run_append_own (P := Try.prog) (W2.drew.alloc (.cells (writeCells p l).toArray 84)) n₀ 70 70 84 i0 _ 257 264 Try.underlying70 hi0 hz0 hz1 hz2 (by rw [writeV_cells, List.size_toArray, writeCells_len, noughts_len]) (by omega) v d.waits.length (waitCells d.waits) (World.ownsRow.alloc (World.ownsRow.drew hr2) _) ⟨W2.drew.heap.size, 0, none⟩ 1 1 (writeCells p l) (by rw [writeCells_len, hl.len])
            (fun j x hx => by rw [addr_add, Nat.zero_add, cell_of_row _ _ j _ _ _ hal, List.getElem?_toArray]; exact hx) (writeCells_one p l) (by unfold maxLen; omega) (by omega) (by rw [World.size_alloc]; exact Nat.le_succ_of_le hn2)
          refine wpOp_append rfl rfl rfl (hI.slot 4 20 rfl (hpre ⟨4, .data⟩ (by simp) rfl) rfl) (hI.slot 6 22 rfl h6 rfl) hrun ⟨_, rfl, ⟨?_, ?_, ?_⟩, fun _ => hr3, ?_⟩
          · refine hK.trans ⟨(Below.refl _ _).grown hg3 (by rw [World.size_alloc]; exact Nat.le_succ_of_le hn2) (fun k e => (hr2.lt k e).1), fun k cs t fr hk h1 h2 => ?_⟩
            refine (hg3.block k (lt_of_heap hk) (fun e => ?_)).trans hk
            obtain ⟨cs', hb'⟩ := row_block (World.ownsRow.alloc (World.ownsRow.drew hr2) _) k e.symm
            rw [hk] at hb'; cases hb'; exact h2 rfl
          · intro _
            exact (hg3.block B (by rw [World.size_alloc]; exact Nat.lt_succ_of_lt (lt_of_heap hc2)) (fun e => hvn.1 e.symm)).trans (Below.heap_alloc W2.drew _ B (lt_of_heap hc2))
          · rw [listed_other (by omega), listed_same (by rw [hI.size]; decide), if_neg (by rw [h10]; simp), if_pos rfl]
            exact hg3
          · intro j u' hj hu
            exact W3Sp.any (by rintro rfl; rw [hn] at hj; cases hj) hu
        | 8, _ =>
          cases ho
          exact wpOp_nilCheck rfl rfl rfl (hI.slot 0 16 rfl (hpre ⟨0, .data⟩ (by simp) rfl) rfl) ⟨_, rfl, hI.inv.still (by omega), fun _ => rfl, fun _ _ _ h => h⟩
        | 9, _ =>
          cases ho
          exact wpOp_field rfl rfl rfl (hI.slot 8 24 rfl (hpre ⟨8, .data⟩ (by simp) rfl) rfl) (field58_5 B w') ⟨_, rfl, hI.inv.still (by omega), fun _ => rfl, fun _ _ _ h => h⟩
        | 10, _ =>
          cases ho
          have h7 := hpre ⟨7, .data⟩ (by simp) rfl
          have hinv := hI.inv.2.2
          rw [if_neg (by rw [hn]; simp), if_pos h7] at hinv
          have hB' := (hI.inv.2.1 hn).trans hc2
          have hu : w'.ownsRow n₀ 84 257 (a.eval (.tmp 23)) (d.waits.length + 1) (waitCells d.waits ++ writeCells p l) := hI.slot 7 23 rfl h7 rfl
          have e25 : a.eval (.tmp 25) = .pointer (some ⟨B, 7, none⟩) := hI.slot 9 25 rfl (hpre ⟨9, .data⟩ (by simp) rfl) rfl
          obtain ⟨u, hue⟩ : ∃ u, a.eval (.tmp 23) = u := ⟨_, rfl⟩
          rw [hue] at hu
          obtain ⟨pa, nn, cc, rfl⟩ : ∃ pa nn cc, u = .slice pa nn cc := by
            rcases hu.2 with ⟨rfl, _⟩ | ⟨g, cap, cur, rfl, _⟩
            · exact ⟨_, _, _, rfl⟩
            · exact ⟨_, _, _, rfl⟩
          have hsg := grownBy_cell w' ⟨B, 7, none⟩ (.slice pa nn cc)
          refine wpOp_store rfl rfl rfl e25 hue (store_slice (Try.sizeOf70 _) (u := v) (by rw [cell_of_row w' B 7 _ _ _ hB']; rfl) (frozen_of_row w' B 7 _ _ hB')) ⟨_, rfl, ⟨?_, ?_, ?_⟩, (fun e => by cases e), ?_⟩
          · refine hK.trans (Keeps.of_grown hsg h.lo.1 (Nat.le_trans hn2 hK.below.size) (fun cs t fr hk => ?_))
            rw [hB'] at hk; cases hk; exact .inl rfl
          · intro hbad; rw [listed_same (by rw [hI.size]; decide)] at hbad; cases hbad
          · rw [listed_same (by rw [hI.size]; decide), if_pos rfl]
            exact ⟨_, w', hu, hinv, rfl⟩
          · intro j u' hj hu'
            by_cases h7' : j = 7
            · subst h7'
              have hu2 : w'.ownsRow n₀ 84 257 u' (d.waits.length + 1) (waitCells d.waits ++ writeCells p l) := hu'
              refine World.ownsRow.kept hu2 hsg (.inr fun e => ?_)
              obtain ⟨cs', hb'⟩ := row_block hu2 B e
              rw [hB'] at hb'; cases hb'
            · exact W3Sp.any h7' hu'
      case fin3 =>
        intro listed a w' hI hall
        obtain ⟨hK, -, hinv⟩ := hI.inv
        rw [if_pos (hall 10 (by decide))] at hinv
        obtain ⟨u, X, hu, hX, rfl⟩ := hinv
        have hdf := hI.defers
        have hBX : X.heap[B]? = some (.cells (dskCells d bl bn v) 72 (0, 0)) :=
          (hX.block B (by rw [World.size_alloc]; exact Nat.lt_succ_of_lt (lt_of_heap hc2)) (fun e => hvn.1 e.symm)).trans ((Below.heap_alloc W2.drew _ B (lt_of_heap hc2)).trans hc2)
        have hub : u.ownBlock ≠ some B := fun e => by
          obtain ⟨cs', hb'⟩ := row_block hu B e
          rw [hBX] at hb'; cases hb'
        have hsg := grownBy_cell X ⟨B, 7, none⟩ u
        have hK3 := hK2.trans hK
        go_wp2_with fail
        rcases a with ⟨T, D⟩
        obtain rfl : D = [] := hdf
        go_end0
        refine ⟨rfl, ⟨bl, bn, u, fl, ?_⟩, hK3⟩
        have hgX : ∀ k, k < W2.heap.size → some k ≠ v.ownBlock → X.heap[k]? = W2.heap[k]? := fun k hk hne =>
          (hX.block k (by rw [World.size_alloc]; exact Nat.lt_succ_of_lt hk) hne).trans (Below.heap_alloc W2.drew _ k hk)
        have hM3 : IntMap Try.prog 3 (X.setCell ⟨B, 7, none⟩ u) bn (putAt (pagesV (newest d.waits)) p (pageV l)) := by
          refine IntMap.kept (IntMap.at_block hM (hgX bn hM.lt (fun e => hvn.2.2 e.symm))) hsg (fun e => hnb (Option.some.inj e).symm)
        have hL2 : IntMap Try.prog 3 W2 bl (pagesV fl) := hD.last.kept hG (fun e => hD.ne (Option.some.inj e))
        have hL3 : IntMap Try.prog 3 (X.setCell ⟨B, 7, none⟩ u) bl (pagesV fl) :=
          IntMap.kept (IntMap.at_block hL2 (hgX bl hL2.lt (fun e => hvn.2.1 e.symm))) hsg (fun e => hD.ne_l (Option.some.inj e).symm)
        refine ⟨⟨h.ok.lo, h.ok.hi, h.ok.len, ?_, h.ok.kind, h.ok.none_, h.ok.dead_, h.ok.left_⟩, ?_, hL3, ?_, ?_, h.lo, h.ne, h.fl_lo, h.fl_hi⟩
        · intro x hx
          rcases List.mem_append.1 hx with hx | hx
          · exact h.ok.wait x hx
          · obtain rfl := List.mem_singleton.1 hx; exact ⟨hp, hl.len⟩
        · rw [heap_setCell_same X B 7 _ _ u hBX]; rfl
        · have e : pagesV (newest (d.waits ++ [(p, l)])) = putAt (pagesV (newest d.waits)) p (pageV l) := by
            funext j
            unfold pagesV putAt
            rw [newest_snoc]
            by_cases hj : j = p <;> simp [hj]
          rw [e]; exact hM3
        · have hu3 := World.ownsRow.kept hu hsg (.inr hub)
          simpa [waitCells_snoc] using hu3
end Go.Proofs.Ytkophpipehdkmaa

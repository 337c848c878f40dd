/- Layer 2: what a crash may tear, page by page. -/
import Derived.Test.YtkophpipehdkmaaDskMay
import Derived.Test.YtkophpipehdkmaaDskShelf
import Derived.Test.YtkophpipehdkmaaDskCopyMap
namespace Go.Proofs.Ytkophpipehdkmaa
open Go.RowKit
attribute [local go_sem] Oper.semAt_some

section
variable {iB iA iU : Nat} {n₀ : Nat} {W : World} {bm : Nat} {v : Value} {n : Nat} {xs : List Value} {l : Page} {f : Nat → Option Value} {p : Nat} {listed : Array Bool} {w : World}
theorem Lies.kept {w' : World} {u : Value} (h : Lies n₀ W v n xs l u w) (hg : w.grownBy w' (some bm)) (hm : ∃ E C, w.heap[bm]? = some (.map E C)) : Lies n₀ W v n xs l u w' := by
  obtain ⟨E, C, hb⟩ := hm
  refine ⟨World.ownsRow.kept h.1 hg (.inr fun e => ?_), h.2⟩
  obtain ⟨cs, hb2⟩ := row_block h.1 _ e
  rw [hb] at hb2; cases hb2
theorem MayI.cells (h : MayI iB iA iU n₀ W bm v n xs l f p listed w) (hr : W.ownsRow n₀ 66 256 v n xs) (hm : IntMap Try.prog 3 W bm f) {k : Nat} {cs : Array Value} {t : TypeId} {fr : Nat × Nat} (hk : W.heap[k]? = some (.cells cs t fr)) (ht : t ≠ 66) : w.heap[k]? = some (.cells cs t fr) := by
  refine (h.1.2 k (lt_of_heap hk) (fun e => ?_) (fun e => ?_)).trans hk
  · obtain ⟨cs', hb'⟩ := row_block hr k e.symm
    rw [hk] at hb'; cases hb'; exact ht rfl
  · obtain ⟨_, ⟨es, clock, hb2, _⟩, _⟩ := hm
    rw [e, hb2] at hk; cases hk
theorem MayI.maps (h : MayI iB iA iU n₀ W bm v n xs l f p listed w) (hr : W.ownsRow n₀ 66 256 v n xs) {bl : Nat} {fl : Nat → Option Value} (hl : IntMap Try.prog 3 W bl fl) (hne : bl ≠ bm) : IntMap Try.prog 3 w bl fl := by
  refine hl.at_block (h.1.2 bl hl.lt (fun e => ?_) hne)
  obtain ⟨cs', hb'⟩ := row_block hr bl e.symm
  obtain ⟨_, ⟨es, clock, hb2, _⟩, _⟩ := hl
  rw [hb2] at hb'; cases hb'
theorem map_ne_row (hr : W.ownsRow n₀ 66 256 v n xs) (hm : IntMap Try.prog 3 W bm f) : some bm ≠ v.ownBlock := fun e => by
  obtain ⟨cs', hb'⟩ := row_block hr bm e.symm
  obtain ⟨_, ⟨es, clock, hb2, _⟩, _⟩ := hm
  rw [hb2] at hb'; cases hb'
end
theorem map_at {w : World} {b : Nat} {f : Nat → Option Value} (h : IntMap Try.prog 3 w b f) : ∃ E C, w.heap[b]? = some (.map E C) := by
  obtain ⟨_, ⟨es, clock, hb2, _⟩, _⟩ := h
  exact ⟨_, _, hb2⟩

/-- The slots behind a drawn statement, one by one. -/
def dstsB (ops : Array Oper) (ds : List Tmp) : Bool := ops.toList.all fun o => match o.dst with | some d => ds.contains d | none => true
theorem setAll_get (f : Tmp → Value) (ds : List Tmp) (T : Array Value) : (ds.foldl (fun T d => T.setIfInBounds d (f d)) T).size = T.size ∧ ∀ t, (ds.foldl (fun T d => T.setIfInBounds d (f d)) T)[t]? = if t ∈ ds ∧ t < T.size then some (f t) else T[t]? := by
  induction ds generalizing T with
  | nil => exact ⟨rfl, fun t => by simp⟩
  | cons d ds ih =>
    obtain ⟨h1, h2⟩ := ih (T.setIfInBounds d (f d))
    refine ⟨by rw [List.foldl_cons, h1, Array.size_setIfInBounds], fun t => ?_⟩
    rw [List.foldl_cons, h2 t, Array.size_setIfInBounds]
    by_cases ht : t < T.size
    · by_cases hm : t ∈ ds
      · simp [hm, ht]
      · by_cases hd : t = d
        · subst hd; simp [ht, hm]
        · simp [hm, hd, Ne.symm hd]
    · rw [if_neg (by simp [ht]), if_neg (by simp [ht])]
      simp [ht]
theorem RegL.frameT {ops : Array Oper} {I : Array Bool → World → Prop} {Sp : Nat → Value → World → Prop} {a0 a : Act} {listed : Array Bool} {w : World} (h : RegL ops I Sp a0 listed a w) (ds : List Tmp) (hds : dstsB ops ds = true) :
    a = { a0 with tmps := ds.foldl (fun T d => T.setIfInBounds d (a.tmps.getD d undef)) a0.tmps } := by
  obtain ⟨h1, h2⟩ := setAll_get (fun d => a.tmps.getD d undef) ds a0.tmps
  have e : a.tmps = ds.foldl (fun T d => T.setIfInBounds d (a.tmps.getD d undef)) a0.tmps := by
    apply Array.ext_getElem?
    intro t
    rw [h2 t]
    by_cases ht : t < a0.tmps.size
    · have ht' : t < a.tmps.size := by rw [h.len]; exact ht
      by_cases hm : t ∈ ds
      · rw [if_pos ⟨hm, ht⟩, Array.getD, dif_pos ht', Array.getElem?_eq_getElem ht']; rfl
      · rw [if_neg (fun hh => hm hh.1)]
        have := h.old t (fun i o ho hd => hm (by
          have h3 := List.all_eq_true.1 hds o (by rw [Array.mem_toList_iff]; exact Array.mem_of_getElem? ho)
          rw [hd] at h3
          simpa using h3))
        rw [Array.getD, dif_pos ht', Array.getD, dif_pos ht] at this
        rw [Array.getElem?_eq_getElem ht', Array.getElem?_eq_getElem ht]
        exact congrArg some this
    · rw [if_neg (fun hh => ht hh.2), Array.getElem?_eq_none (by rw [h.len]; omega), Array.getElem?_eq_none (by omega)]
  have hd := h.defers
  cases a with
  | mk T D =>
    cases a0
    simp only at e hd ⊢
    rw [hd]
    exact congrArg (fun X => Act.mk X _) e

theorem RegL.framed {ops : Array Oper} {I : Array Bool → World → Prop} {Sp : Nat → Value → World → Prop} {a0 a : Act} {listed : Array Bool} {w : World} (h : RegL ops I Sp a0 listed a w) (ds : List Tmp) (hds : dstsB ops ds = true) :
    ∃ F : Tmp → Value, a = { a0 with tmps := ds.foldl (fun T d => T.setIfInBounds d (F d)) a0.tmps } := ⟨_, h.frameT ds hds⟩
theorem waitCells_get {ws : List (Nat × Page)} (h : ∀ x ∈ ws, x.2.length = 256) {i : Nat} {x : Nat × Page} (hi : ws[i]? = some x) {j : Nat} (hj : j < 257) : (waitCells ws)[i * 257 + j]? = (writeCells x.1 x.2)[j]? := by
  induction ws generalizing i with
  | nil => cases hi
  | cons y ws ih =>
    have hl : (writeCells y.1 y.2).length = 257 := by rw [writeCells_len, h y (by simp)]
    rw [show waitCells (y :: ws) = writeCells y.1 y.2 ++ waitCells ws by simp [waitCells]]
    cases i with
    | zero => cases hi; rw [Nat.zero_mul, Nat.zero_add, List.getElem?_append_left (by rw [hl]; exact hj)]
    | succ i =>
      rw [List.getElem?_append_right (by rw [hl]; omega), hl, show (i + 1) * 257 + j - 257 = i * 257 + j by omega, ih (fun x hx => h x (by simp [hx])) (by simpa using hi)]
theorem wait_at {w : World} {n₀ : Nat} {v : Value} {ws : List (Nat × Page)} {k : Nat} {x : Nat × Page} (h : w.ownsRow n₀ 84 257 v ws.length (waitCells ws)) (hl : ∀ x ∈ ws, x.2.length = 256) (hk : ws[k]? = some x) :
    ∃ gb cap, v = .slice (some ⟨gb, 0, none⟩) ws.length cap ∧ w.rangeAt gb (k * 257) (writeCells x.1 x.2) ∧ n₀ ≤ gb ∧ gb < w.heap.size := by
  have hlt := (List.getElem?_eq_some_iff.1 hk).1
  obtain ⟨g, cap, rfl, h1, h2⟩ := World.ownsRow.form h (by omega)
  refine ⟨g, cap, rfl, fun j u hu => ?_, h1, h2⟩
  have hj := (List.getElem?_eq_some_iff.1 hu).1
  rw [writeCells_len, hl x (List.mem_of_getElem? hk)] at hj
  have := World.ownsRow.cells h rfl (k * 257 + j) u (by rw [waitCells_get hl hk hj]; exact hu)
  rwa [addr_add, Nat.zero_add] at this
theorem index56 (w : World) (g n cap : Nat) (i : Nat) (hi : i < n) : (Instr.indexAt 70 (.slice (some ⟨g, 0, none⟩) n cap) (.int .i64 i)).run Try.prog w = .ok (.pointer (some ⟨g, i * 257, none⟩)) w := by
  have s90 : (sizeOf 84).run Try.prog w = .ok 257 w := by
    have := size90
    cases hq : Try.prog.info? 84 with
    | none => rw [hq] at this; cases this
    | some i => rw [hq] at this; simp [sizeOf, typeInfo, hq]; simpa using this
  have he : Try.prog.elem 70 = 84 := by kernel_rfl
  refine (run_indexAt_slice (P := Try.prog) (w := w) 70 ⟨g, 0, none⟩ n cap .i64 i (by rw [he]; exact Try.underlying70)).trans ?_
  rw [if_pos (by omega), he, s90]
  simp only [Result.andThen_ok, addr_add, Int.toNat_natCast, Nat.zero_add]
theorem field90_0 (g : Nat) (w : World) : (Instr.fieldAt 84 (ptr g) 0).run Try.prog w = .ok (ptr g) w := by simp [go_sem]
def writeArr (p : Nat) (l : Page) : Array Value := (writeCells p l).toArray
theorem writeArr_size {p : Nat} {l : Page} (h : l.length = 256) : (writeArr p l).size = 257 := by unfold writeArr; rw [List.size_toArray, writeCells_len, h]
theorem writeArr_zero (p : Nat) (l : Page) : (writeArr p l)[0]? = some (.int .i64 p) := rfl
theorem wpList_alloc90 {w : World} {ops : Array Oper} {rest : List Oper} {o : Oper} {a : Act} {Q : Exit → Act → World → Prop} (hgd : o.guard = none) (ho : o.op = .alloc 84)
    (h : wpList Try.prog ops Q rest (a.put o.dst (.pointer (some ⟨w.heap.size, 0, none⟩))) (w.alloc (.cells (writeArr 0 noughts) 84))) : wpList Try.prog ops Q (o :: rest) a w :=
  wpList_alloc_z hgd _ ho (writeV 0 noughts) (fun w => (zero_of_info zero90).1 w) h
theorem wpList_store90 {w : World} {ops : Array Oper} {rest : List Oper} {o : Oper} {a : Act} {Q : Exit → Act → World → Prop} (hgd : o.guard = none) (x y : Operand) (ho : o.op = .store 84 x y) (q p : Nat) (l m : Page) (hl : l.length = 256) (hm : m.length = 256)
    (hx : a.eval x = .pointer (some ⟨w.heap.size, 0, none⟩)) (hy : a.eval y = .agg (writeCells p m).toArray) (h : wpList Try.prog ops Q rest (a.put o.dst undef) (w.alloc (.cells (writeArr p m) 84))) : wpList Try.prog ops Q (o :: rest) a (w.alloc (.cells (writeArr q l) 84)) :=
  wpList_store_new hgd _ x y ho (writeArr q l) (writeArr p m) hx hy (by rw [size90, writeArr_size hm]) (by rw [writeArr_size hl, writeArr_size hm]) (all_oneCell_toArray (writeCells_one p m)) h

def mayOf (ls : List Page) (ws : List (Nat × Page)) (p : Nat) : List Page := if isTorn ws p = true then ls.getD p noughts :: wrote ws p else []
theorem isTorn_snoc (ws : List (Nat × Page)) (x : Nat × Page) (q : Nat) : isTorn (ws ++ [x]) q = (isTorn ws q || x.1 == q) := by simp [isTorn]
theorem wrote_none {ws : List (Nat × Page)} {p : Nat} (h : isTorn ws p = false) : wrote ws p = [] := by
  by_cases hw : wrote ws p = []
  · exact hw
  · rw [wrote_ne.1 hw] at h; cases h
theorem mayOf_torn {ls : List Page} {ws : List (Nat × Page)} {p : Nat} {l : Page} (h : isTorn ws p = true) : mayOf ls (ws ++ [(p, l)]) = pushAt (mayOf ls ws) p l := by
  funext q
  unfold pushAt mayOf
  rw [isTorn_snoc, wrote_snoc]
  by_cases e : q = p
  · subst e; simp [h]
  · have e' : (p == q) = false := by simpa using fun e' => e e'.symm
    simp only [e', Bool.or_false]
    rw [if_neg e, if_neg (fun e' : p = q => e e'.symm)]
theorem mayOf_new {ls : List Page} {ws : List (Nat × Page)} {p : Nat} {l : Page} (h : isTorn ws p = false) : mayOf ls (ws ++ [(p, l)]) = pushAt (pushAt (mayOf ls ws) p (ls.getD p noughts)) p l := by
  funext q
  unfold pushAt mayOf
  rw [isTorn_snoc, wrote_snoc]
  by_cases e : q = p
  · subst e; simp [h, wrote_none h]
  · have e' : (p == q) = false := by simpa using fun e' => e e'.symm
    simp only [e', Bool.or_false]
    rw [if_neg e, if_neg e, if_neg (fun e' : p = q => e e'.symm)]
theorem mayOf_len {ls : List Page} {ws : List (Nat × Page)} {p : Nat} : (mayOf ls ws p).length ≤ ws.length + 1 := by
  unfold mayOf
  split
  · simp only [List.length_cons]
    unfold wrote
    rw [List.length_map]
    exact Nat.succ_le_succ (List.length_filter_le _ _)
  · simp

def T5Sp (R : Value → World → Prop) (B bl bm g5 p : Nat) (l : Page) (v : Value) (gb : Nat) : Nat → Value → World → Prop
  | 15, u, w => R u w
  | 0, u, _ => u = .map (some bm)
  | 1, u, _ => u = ptr g5
  | 2, u, _ => u = .int .i64 p
  | 3, u, _ => u = .map (some bm)
  | 4, u, _ => u = ptr g5
  | 5, u, _ => u = .int .i64 p
  | 6, u, _ => u = v
  | 7, u, _ => u = ptr B
  | 8, u, _ => u = ptr B
  | 9, u, _ => u = .pointer (some ⟨B, 5, none⟩)
  | 10, u, _ => u = .map (some bl)
  | 11, u, _ => u = ptr g5
  | 12, u, _ => u = .int .i64 p
  | 13, u, _ => u = pageV l
  | _, u, _ => u = .slice (some ⟨gb, 0, none⟩) 1 1
theorem T5Sp.any {R : Value → World → Prop} {B bl bm g5 p : Nat} {l : Page} {v : Value} {gb : Nat} {w w' : World} : ∀ {j : Nat} {u : Value}, j ≠ 15 → T5Sp R B bl bm g5 p l v gb j u w → T5Sp R B bl bm g5 p l v gb j u w'
  | 0, _, _, h => h | 1, _, _, h => h | 2, _, _, h => h | 3, _, _, h => h | 4, _, _, h => h | 5, _, _, h => h | 6, _, _, h => h | 7, _, _, h => h
  | 8, _, _, h => h | 9, _, _, h => h | 10, _, _, h => h | 11, _, _, h => h | 12, _, _, h => h | 13, _, _, h => h | 14, _, _, h => h | 15, _, h, _ => absurd rfl h
  | _ + 16, _, _, h => h
def T6Sp (R : Value → World → Prop) (bm g5 p : Nat) (l : Page) (v : Value) (gb : Nat) : Nat → Value → World → Prop
  | 10, u, w => R u w
  | 0, u, _ => u = .map (some bm)
  | 1, u, _ => u = ptr g5
  | 2, u, _ => u = .int .i64 p
  | 3, u, _ => u = .map (some bm)
  | 4, u, _ => u = ptr g5
  | 5, u, _ => u = .int .i64 p
  | 6, u, _ => u = v
  | 7, u, _ => u = .pointer (some ⟨g5, 1, none⟩)
  | 8, u, _ => u = pageV l
  | _, u, _ => u = .slice (some ⟨gb, 0, none⟩) 1 1
theorem T6Sp.any {R : Value → World → Prop} {bm g5 p : Nat} {l : Page} {v : Value} {gb : Nat} {w w' : World} : ∀ {j : Nat} {u : Value}, j ≠ 10 → T6Sp R bm g5 p l v gb j u w → T6Sp R bm g5 p l v gb j u w'
  | 0, _, _, h => h | 1, _, _, h => h | 2, _, _, h => h | 3, _, _, h => h | 4, _, _, h => h | 5, _, _, h => h | 6, _, _, h => h | 7, _, _, h => h
  | 8, _, _, h => h | 9, _, _, h => h | 10, _, h, _ => absurd rfl h
  | _ + 11, _, _, h => h
/-- What is made from block B on lies as it lay, whether cells or what a walk leans on. -/
structure Kept (B : Nat) (W W' : World) : Prop where
  size : W.heap.size ≤ W'.heap.size
  same : ∀ (k : Nat) (o : Obj), B ≤ k → W.heap[k]? = some o → o.isCells = true ∨ o.isWalk = true → W'.heap[k]? = some o
theorem Kept.trans {B : Nat} {X Y Z : World} (h : Kept B X Y) (k : Kept B Y Z) : Kept B X Z := ⟨Nat.le_trans h.size k.size, fun i o hi ho hc => k.same i o hi (h.same i o hi ho hc) hc⟩
theorem Kept.put {B : Nat} (W : World) (l : Nat) (o o' : Obj) (h : W.heap[l]? = some o) (h1 : o.isCells = false) (h2 : o.isWalk = false) : Kept B W (W.putObj l o') :=
  ⟨by simp, fun k o2 _ hk hc => by
    by_cases e : k = l
    · subst e; rw [h] at hk; cases hk
      rcases hc with hc | hc
      · rw [h1] at hc; cases hc
      · rw [h2] at hc; cases hc
    · exact (World.putObj_heap_other e).trans hk⟩
theorem Kept.of_below {B n : Nat} {W W' : World} (h : Below n W W') (hn : W.heap.size ≤ n) : Kept B W W' := ⟨h.size, fun k _ _ hk _ => (h.block k (Nat.lt_of_lt_of_le (lt_of_heap hk) hn)).trans hk⟩
/-- What is handed over at the k-th call: the page, and all that it may be. -/
def TornM (n₀ : Nat) (d : Dsk) (k : Nat) (args : Array Value) (W : World) : Prop := ∃ (p gv cap : Nat), (tornPages d.waits d.room)[k]? = some p ∧ args = #[.int .i64 p, .slice (some ⟨gv, 0, none⟩) (mayOf d.lasts d.waits p).length cap] ∧ n₀ ≤ gv ∧
  W.ownsRow n₀ 66 256 (.slice (some ⟨gv, 0, none⟩) (mayOf d.lasts d.waits p).length cap) (mayOf d.lasts d.waits p).length (rowOf (mayOf d.lasts d.waits p))

theorem MayRows.on {B n₀ : Nat} {w w' : World} {bm : Nat} {f : Nat → Option Value} {g : Nat → List Page} (h : MayRows n₀ w bm f g) (hk : Kept B w w') (hB : B ≤ n₀) : MayRows n₀ w' bm f g := by
  obtain ⟨E, C, hb⟩ := map_at h.map
  refine ⟨h.map.at_block ((hk.same _ _ (Nat.le_trans hB h.lo) hb (.inr rfl)).trans hb.symm), h.lo, h.none_, fun p hp => ?_, h.apart⟩
  obtain ⟨v, hv, hr⟩ := h.some_ p hp
  refine ⟨v, hv, row_at hr (fun b hb => ?_)⟩
  obtain ⟨cs, hc⟩ := row_block hr b hb
  exact (hk.same _ _ (Nat.le_trans hB (hr.lt b hb).1) hc (.inl rfl)).trans hc.symm
theorem row_on {B n₀ : Nat} {w w' : World} {e : TypeId} {size : Nat} {v : Value} {n : Nat} {xs : List Value} (h : w.ownsRow n₀ e size v n xs) (hk : Kept B w w') (hB : B ≤ n₀) : w'.ownsRow n₀ e size v n xs := row_at h (fun b hb => by
  obtain ⟨cs, hc⟩ := row_block h b hb
  exact (hk.same _ _ (Nat.le_trans hB (h.lt b hb).1) hc (.inl rfl)).trans hc.symm)
theorem tornPages_mem {ws : List (Nat × Page)} {n p : Nat} : p ∈ tornPages ws n ↔ p < n ∧ isTorn ws p = true := by simp [tornPages]
theorem tornPages_sorted (ws : List (Nat × Page)) (n : Nat) : (tornPages ws n).Pairwise (· < ·) := List.Pairwise.filter _ List.pairwise_lt_range
theorem keys_torn {w : World} {b n : Nat} {f : Nat → Option Value} {D : VD} {ws : List (Nat × Page)} {room : Nat} (hown : w.ownsMap Try.prog 3 heldR b n D) (hr : MapReads D f) (hf : ∀ p, (f p).isSome = isTorn ws p) (hroom : ∀ x ∈ ws, x.1 < room) {ss : List Int} (hs : ss.Perm (Go.intKeys D)) :
    ss.mergeSort (fun x y => decide (x ≤ y)) = (tornPages ws room).map (fun p : Nat => (p : Int)) ∧ ss.length = (tornPages ws room).length := by
  have hsorted : ((tornPages ws room).map (fun p : Nat => (p : Int))).Pairwise (· < ·) := by
    rw [List.pairwise_map]
    exact (tornPages_sorted ws room).imp (fun h => by omega)
  have hperm : ((tornPages ws room).map (fun p : Nat => (p : Int))).Perm (Go.intKeys D) := by
    obtain ⟨es, rfl, hp, hkl⟩ := hown.entries (Maps.int_keyed Try.underlying3)
    refine Go.perm_intKeys hp (fun q hq => ?_) (hsorted.imp (fun h => by omega)) (fun x => ?_)
    · obtain ⟨k, e, _⟩ := hr.keys q.1 (by rw [Maps.has_eq, List.any_eq_true]; exact ⟨q, hq, WideAt.sameKey_self (hkl q hq)⟩)
      exact ⟨_, e⟩
    · rw [List.mem_map]
      constructor
      · rintro ⟨p, hp, rfl⟩
        rw [hr.has, hf]; exact (tornPages_mem.1 hp).2
      · intro hh
        obtain ⟨k, e, _⟩ := hr.keys _ hh
        obtain rfl : x = k := by injection e
        rw [hr.has, hf] at hh
        refine ⟨k, tornPages_mem.2 ⟨?_, hh⟩, rfl⟩
        obtain ⟨y, hy, e⟩ := List.any_eq_true.1 hh
        have := hroom y hy
        have e' : y.1 = k := by simpa using e
        omega
  have hp2 := hs.trans hperm.symm
  refine ⟨?_, by rw [hp2.length_eq, List.length_map]⟩
  rw [Go.mergeSort_of_perm_i hp2]
  exact List.mergeSort_of_pairwise (hsorted.imp (fun h => by simp only [Go.leI, decide_eq_true_eq]; omega))
theorem row_mono {w : World} {n₀ n₁ : Nat} {e : TypeId} {size : Nat} {v : Value} {n : Nat} {xs : List Value} (h : w.ownsRow n₀ e size v n xs) (hb : n₁ ≤ n₀) : w.ownsRow n₁ e size v n xs := by
  refine ⟨h.1, ?_⟩
  rcases h.2 with h | ⟨g, cap, cur, h1, h2, r⟩
  · exact .inl h
  · exact .inr ⟨g, cap, cur, h1, Nat.le_trans hb h2, r⟩
theorem slice_form {w : World} {n₀ : Nat} {e : TypeId} {size : Nat} {v : Value} {n : Nat} {xs : List Value} (h : w.ownsRow n₀ e size v n xs) : ∃ a c, v = .slice a n c := by
  rcases h.2 with ⟨rfl, e⟩ | ⟨g, cap, cur, rfl, _⟩
  · exact ⟨none, 0, by rw [e]⟩
  · exact ⟨_, _, rfl⟩
theorem of_below_grown {w w' : World} (h : Below w.heap.size w w') : w.grownBy w' none := ⟨h.os, h.tape, h.output, h.size, fun k hk _ => h.block k hk⟩

end Go.Proofs.Ytkophpipehdkmaa

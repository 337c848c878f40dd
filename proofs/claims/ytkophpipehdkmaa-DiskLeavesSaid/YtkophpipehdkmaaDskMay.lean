/- Layer 2: the pages that each torn page may be, as a map of rows; one page more in a row. -/
import Derived.Test.YtkophpipehdkmaaDskAmong
import Derived.Test.YtkophpipehdkmaaRound
import Derived.Deep.AppendLies
namespace Go.Proofs.Ytkophpipehdkmaa
open Go.RowKit

def zero83 : Value := .slice none 0 0
/-- Block bm is a map: for each number p of which g tells pages, a row of these; all in blocks from n₀ on, each its own. -/
structure MayRows (n₀ : Nat) (w : World) (bm : Nat) (f : Nat → Option Value) (g : Nat → List Page) : Prop where
  map : IntMap Try.prog 3 w bm f
  lo : n₀ ≤ bm
  none_ : ∀ p, g p = [] → f p = none
  some_ : ∀ p, g p ≠ [] → ∃ v, f p = some v ∧ w.ownsRow n₀ 66 256 v (g p).length (rowOf (g p))
  apart : ∀ p q u v b, f p = some u → f q = some v → u.ownBlock = some b → v.ownBlock = some b → p = q

section
variable {n₀ : Nat} {w : World} {bm : Nat} {f : Nat → Option Value} {g : Nat → List Page}
theorem MayRows.row (h : MayRows n₀ w bm f g) (p : Nat) : w.ownsRow n₀ 66 256 ((f p).getD zero83) (g p).length (rowOf (g p)) := by
  by_cases hg : g p = []
  · rw [h.none_ p hg, hg]; exact World.ownsRow_nil _ _ _ _
  · obtain ⟨v, hv, hr⟩ := h.some_ p hg
    rw [hv]; exact hr
theorem MayRows.kept {w' : World} (h : MayRows n₀ w bm f g) (hk : ∀ k, n₀ ≤ k → k < w.heap.size → w'.heap[k]? = w.heap[k]?) : MayRows n₀ w' bm f g :=
  ⟨h.map.at_block (hk _ h.lo h.map.lt), h.lo, h.none_, fun p hp => by
    obtain ⟨v, hv, hr⟩ := h.some_ p hp
    exact ⟨v, hv, row_at hr (fun b hb => hk b (hr.lt b hb).1 (hr.lt b hb).2)⟩, h.apart⟩
theorem MayRows.made (w : World) : MayRows w.heap.size (w.alloc (.map #[] 0)) w.heap.size (fun _ => none) (fun _ => []) :=
  ⟨IntMap.made w, Nat.le_refl _, fun _ _ => rfl, fun _ h => absurd rfl h, fun _ _ _ _ _ h => by cases h⟩
def pushAt (g : Nat → List Page) (p : Nat) (l : Page) : Nat → List Page := fun q => if q = p then g p ++ [l] else g q
end

/-- The row that holds one page more: the old one, or a new block; and what it owns. -/
def Lies (n₀ : Nat) (W : World) (v : Value) (n : Nat) (xs : List Value) (l : Page) (u : Value) (w : World) : Prop :=
  w.ownsRow n₀ 66 256 u (n + 1) (xs ++ byteVals l) ∧ ∀ b, u.ownBlock = some b → v.ownBlock = some b ∨ W.heap.size ≤ b
/-- What is known of the world while a page is put at the end of a row: iB: the page made; iA: it stands in the row; iU: the map has the row. -/
def MayI (iB iA iU : Nat) (n₀ : Nat) (W : World) (bm : Nat) (v : Value) (n : Nat) (xs : List Value) (l : Page) (f : Nat → Option Value) (p : Nat) (listed : Array Bool) (w : World) : Prop :=
  (W.heap.size ≤ w.heap.size ∧ ∀ k, k < W.heap.size → some k ≠ v.ownBlock → k ≠ bm → w.heap[k]? = W.heap[k]?) ∧
  (if listed.getD iU false = true then ∃ u X, Lies n₀ W v n xs l u X ∧ (W.drew.alloc (.cells (pageCells l) 66)).grownBy X v.ownBlock ∧ X.grownBy w (some bm) ∧ IntMap Try.prog 3 w bm (putAt f p u)
   else if listed.getD iA false = true then (W.drew.alloc (.cells (pageCells l) 66)).grownBy w v.ownBlock
   else if listed.getD iB false = true then w = W.drew.alloc (.cells (pageCells l) 66) else w = W.drew)
section
variable {iB iA iU : Nat} {n₀ : Nat} {W : World} {bm : Nat} {v : Value} {n : Nat} {xs : List Value} {l : Page} {f : Nat → Option Value} {p : Nat} {listed : Array Bool} {w : World}
theorem MayI.start (hn : ∀ i, listed.getD i false = false) : MayI iB iA iU n₀ W bm v n xs l f p listed W.drew := by
  refine ⟨⟨Nat.le_refl _, fun _ _ _ _ => rfl⟩, ?_⟩
  rw [if_neg (by rw [hn]; simp), if_neg (by rw [hn]; simp), if_neg (by rw [hn]; simp)]
theorem MayI.still (h : MayI iB iA iU n₀ W bm v n xs l f p listed w) {i : Nat} (hi : i ≠ iB ∧ i ≠ iA ∧ i ≠ iU) : MayI iB iA iU n₀ W bm v n xs l f p (listed.setIfInBounds i true) w := by
  unfold MayI at h ⊢
  rw [listed_other (Ne.symm hi.1), listed_other (Ne.symm hi.2.1), listed_other (Ne.symm hi.2.2)]
  exact h
/-- The map is as it was till it is turned. -/
theorem MayI.mapped (h : MayI iB iA iU n₀ W bm v n xs l f p listed w) (hU : listed.getD iU false = false) (hbm : bm < W.heap.size) (hv : some bm ≠ v.ownBlock) : w.heap[bm]? = W.heap[bm]? := by
  have hinv := h.2
  rw [if_neg (by rw [hU]; simp)] at hinv
  split at hinv
  · exact (hinv.block bm (by rw [World.size_alloc]; exact Nat.lt_succ_of_lt hbm) hv).trans (Below.heap_alloc W.drew _ bm hbm)
  · split at hinv
    · subst hinv; exact Below.heap_alloc W.drew _ bm hbm
    · subst hinv; rfl
theorem build_slice77 (w : World) (l : Page) (hl : l.length = 256) : (Instr.buildSlice 77 1 #[(0, pageV l)]).run Try.prog w = .ok (.slice (some ⟨w.heap.size, 0, none⟩) 1 1) (w.alloc (.cells (pageCells l) 66)) := by
  obtain ⟨i, hi, hz, hs, -⟩ := info_parts info77
  have hf := Great.fill_whole (s := 256) (by omega) [pageV l] ((Array.range (1 * 256)).map ((pageV noughts).cells[· % (pageV noughts).cells.size]!)) (by simp [pageV_cells, byteVals_len, hl]) (by simp)
  exact run_buildSlice w 77 66 1 _ _ i _ Try.underlying77 hi hz (by rw [hs]; omega) (by rw [hs]; omega) (by rw [hs]; simpa [pageV_cells, pageCells] using hf)
theorem MayI.build (h : MayI iB iA iU n₀ W bm v n xs l f p listed w) (hB : listed.getD iB false = false) (hA : listed.getD iA false = false) (hU : listed.getD iU false = false) (hne : iA ≠ iB ∧ iU ≠ iB) (hsz : iB < listed.size) (hl : l.length = 256) :
    ∃ w', (Instr.buildSlice 77 1 #[(0, pageV l)]).run Try.prog w = .ok (.slice (some ⟨W.heap.size, 0, none⟩) 1 1) w' ∧ MayI iB iA iU n₀ W bm v n xs l f p (listed.setIfInBounds iB true) w' := by
  have hinv := h.2
  rw [if_neg (by rw [hU]; simp), if_neg (by rw [hA]; simp), if_neg (by rw [hB]; simp)] at hinv
  subst hinv
  refine ⟨_, build_slice77 W.drew l hl, ⟨by simp, fun k hk _ _ => Below.heap_alloc W.drew _ k hk⟩, ?_⟩
  rw [listed_other hne.2, listed_other hne.1, listed_same hsz, if_neg (by rw [hU]; simp), if_neg (by rw [hA]; simp), if_pos rfl]
theorem MayI.app (h : MayI iB iA iU n₀ W bm v n xs l f p listed w) (hB : listed.getD iB false = true) (hA : listed.getD iA false = false) (hU : listed.getD iU false = false) (hne : iU ≠ iA) (hsz : iA < listed.size) (hl : l.length = 256)
    (hr : W.ownsRow n₀ 66 256 v n xs) (hn : n ≤ 2147483648) (hn0 : n₀ ≤ W.heap.size) (ty : TypeId) :
    ∃ u w', (Builtin.append_ #[77, 77] ty #[v, .slice (some ⟨W.heap.size, 0, none⟩) 1 1]).run Try.prog w = .ok u w' ∧ Lies n₀ W v n xs l u w' ∧ MayI iB iA iU n₀ W bm v n xs l f p (listed.setIfInBounds iA true) w' := by
  have hinv := h.2
  rw [if_neg (by rw [hU]; simp), if_neg (by rw [hA]; simp), if_pos hB] at hinv
  subst hinv
  obtain ⟨i0, hi0, hz0, hz1, hz2⟩ := info_parts info77
  have hal := heap_alloc_last W.drew (.cells (pageCells l) 66)
  obtain ⟨b', cap', w3, hrun, hr3, hg3, hlies, -⟩ := run_append_lies (P := Try.prog) (W.drew.alloc (.cells (pageCells l) 66)) 77 ty n₀ 66 i0 _ 256 256 Try.underlying77 hi0 hz0 hz1 hz2 (by rw [pageV_cells, List.size_toArray, byteVals_len, noughts_len]) (by omega) v n xs (World.ownsRow.alloc (World.ownsRow.drew hr) _) ⟨W.drew.heap.size, 0, none⟩ 1 1 (byteVals l) (by rw [byteVals_len, hl])
    (fun j x hx => by rw [addr_add, Nat.zero_add, cell_of_row _ _ j _ _ _ hal]; unfold pageCells; rw [List.getElem?_toArray]; exact hx) (byteVals_one l) (by omega) (by unfold maxLen; omega) (by omega) (by rw [World.size_alloc]; exact Nat.le_succ_of_le hn0) _ rfl
  refine ⟨_, w3, hrun, ⟨hr3, fun b hb => ?_⟩, ⟨?_, fun k hk h1 h2 => ?_⟩, ?_⟩
  · obtain rfl : b' = b := by simpa [Value.ownBlock] using hb
    rcases hlies with e | e
    · exact .inl e
    · right; rw [e, World.size_alloc]; exact Nat.le_succ _
  · have := hg3.size; rw [World.size_alloc] at this; exact Nat.le_trans (Nat.le_succ _) this
  · exact (hg3.block k (by rw [World.size_alloc]; exact Nat.lt_succ_of_lt hk) h1).trans (Below.heap_alloc W.drew _ k hk)
  · rw [listed_other hne, listed_same hsz, if_neg (by rw [hU]; simp), if_pos rfl]; exact hg3
theorem MayI.upd (h : MayI iB iA iU n₀ W bm v n xs l f p listed w) (hA : listed.getD iA false = true) (hU : listed.getD iU false = false) (hsz : iU < listed.size)
    (hm : IntMap Try.prog 3 W bm f) (hv : some bm ≠ v.ownBlock) (hp : p < 4096) {u : Value} (hu : Lies n₀ W v n xs l u w) :
    ∃ w', (Instr.mapUpdate 96 (.map (some bm)) (.int .i64 p) u).run Try.prog w = .ok () w' ∧ MayI iB iA iU n₀ W bm v n xs l f p (listed.setIfInBounds iU true) w' ∧ Lies n₀ W v n xs l u w' := by
  have hmw : IntMap Try.prog 3 w bm f := hm.at_block (h.mapped hU hm.lt hv)
  have hinv := h.2
  rw [if_neg (by rw [hU]; simp), if_pos hA] at hinv
  obtain ⟨w', hrun, r1, r2⟩ := hmw.put Try.underlying3 Try.underlying96 p hp u
  have hub : u.ownBlock ≠ some bm := fun e => by
    obtain ⟨cs, hb⟩ := row_block hu.1 _ e
    obtain ⟨_, ⟨es, clock, hb2, _⟩, _⟩ := hmw
    rw [hb2] at hb; cases hb
  refine ⟨w', hrun, ⟨⟨Nat.le_trans h.1.1 r2.size, fun k hk h1 h2 => ?_⟩, ?_⟩, World.ownsRow.kept hu.1 r2 (.inr hub), hu.2⟩
  · exact (r2.block k (Nat.lt_of_lt_of_le hk h.1.1) (fun e => h2 (Option.some.inj e))).trans (h.1.2 k hk h1 h2)
  · rw [listed_same hsz, if_pos rfl]
    exact ⟨u, w, hu, hinv, r2, r1⟩
/-- All of it. -/
theorem MayI.done {g : Nat → List Page} (h : MayI iB iA iU n₀ W bm ((f p).getD zero83) (g p).length (rowOf (g p)) l f p listed w) (hU : listed.getD iU false = true) (hm : MayRows n₀ W bm f g) (hn0 : n₀ ≤ W.heap.size) :
    (∃ f', MayRows n₀ w bm f' (pushAt g p l)) ∧ Below n₀ W w ∧ ∀ (k : Nat) (cs : Array Value) (t : TypeId) (fr : Nat × Nat), W.heap[k]? = some (Obj.cells cs t fr) → t ≠ 66 → w.heap[k]? = some (Obj.cells cs t fr) := by
  obtain ⟨⟨hs, hk⟩, hinv⟩ := h
  rw [if_pos hU] at hinv
  obtain ⟨u, X, ⟨hu, hlies⟩, hX, hw, hM⟩ := hinv
  have hrow := hm.row p
  have hnb : ∀ (v : Value) (q : List Value) (m : Nat) (Y : World), Y.ownsRow n₀ 66 256 v m q → ∀ E C, Y.heap[bm]? = some (.map E C) → v.ownBlock ≠ some bm := fun v q m Y hr E C hb e => by
    obtain ⟨cs, hb2⟩ := row_block hr _ e
    rw [hb] at hb2; cases hb2
  obtain ⟨E, C, hbm⟩ : ∃ E C, W.heap[bm]? = some (.map E C) := by
    obtain ⟨_, ⟨es, clock, hb2, _⟩, _⟩ := hm.map
    exact ⟨_, _, hb2⟩
  have hXbm : X.heap[bm]? = some (.map E C) := (hX.block bm (by rw [World.size_alloc]; exact Nat.lt_succ_of_lt hm.map.lt) (fun e => hnb _ _ _ _ hrow E C hbm e.symm)).trans ((Below.heap_alloc W.drew _ bm hm.map.lt).trans hbm)
  have hub := hnb _ _ _ _ hu E C hXbm
  have hWX : ∀ k, k < W.heap.size → some k ≠ ((f p).getD zero83).ownBlock → X.heap[k]? = W.heap[k]? := fun k hk h1 =>
    (hX.block k (by rw [World.size_alloc]; exact Nat.lt_succ_of_lt hk) h1).trans (Below.heap_alloc W.drew _ k hk)
  refine ⟨⟨putAt f p u, hM, hm.lo, ?_, ?_, ?_⟩, ?_, ?_⟩
  · intro q hq
    unfold pushAt at hq
    unfold putAt
    by_cases e : q = p
    · rw [if_pos e] at hq; simp at hq
    · rw [if_neg e] at hq ⊢; exact hm.none_ q hq
  · intro q hq
    unfold pushAt at hq ⊢
    unfold putAt
    by_cases e : q = p
    · rw [if_pos e, if_pos e]
      refine ⟨u, rfl, ?_⟩
      rw [rowOf_snoc, List.length_append]
      exact World.ownsRow.kept hu hw (.inr hub)
    · rw [if_neg e] at hq
      rw [if_neg e, if_neg e]
      obtain ⟨v, hv, hr⟩ := hm.some_ q hq
      refine ⟨v, hv, row_at hr (fun b hb => ?_)⟩
      refine hk b (hr.lt b hb).2 (fun e2 => ?_) (fun e2 => hnb _ _ _ _ hr E C hbm (by rw [hb, e2]))
      cases hfp : f p with
      | none => rw [hfp] at e2; cases e2
      | some v' =>
        rw [hfp] at e2
        exact e (hm.apart q p v v' b hv hfp hb e2.symm)
  · intro q q' u1 u2 b h1 h2 hb1 hb2
    have hnew : ∀ q v, q ≠ p → f q = some v → v.ownBlock = some b → u.ownBlock = some b → False := by
      intro q v hq hv hvb hub'
      have hg : g q ≠ [] := fun e => by rw [hm.none_ q e] at hv; cases hv
      obtain ⟨v1, hv1, hr⟩ := hm.some_ q hg
      rw [hv] at hv1; cases hv1
      rcases hlies b hub' with hold | hnew
      · cases hfp : f p with
        | none => rw [hfp] at hold; cases hold
        | some v' => rw [hfp] at hold; exact hq (hm.apart q p v v' b hv hfp hvb hold)
      · exact absurd (hr.lt b hvb).2 (by omega)
    unfold putAt at h1 h2
    by_cases e : q = p
    · by_cases e' : q' = p
      · rw [e, e']
      · rw [if_pos e] at h1
        rw [if_neg e'] at h2
        cases h1
        exact (hnew q' u2 e' h2 hb2 hb1).elim
    · rw [if_neg e] at h1
      by_cases e' : q' = p
      · rw [if_pos e'] at h2
        cases h2
        exact (hnew q u1 e h1 hb1 hb2).elim
      · rw [if_neg e'] at h2
        exact hm.apart q q' u1 u2 b h1 h2 hb1 hb2
  · refine ((Below.refl n₀ W).drew.alloc hn0 _).trans (((Below.refl n₀ _).grown hX (by rw [World.size_alloc]; exact Nat.le_succ_of_le hn0) (fun k e => (hrow.lt k e).1)).trans ((Below.refl n₀ X).grown hw ?_ (fun k e => by cases e; exact hm.lo)))
    have := hX.size; rw [World.size_alloc] at this; exact Nat.le_trans hn0 (Nat.le_trans (Nat.le_succ _) this)
  · intro k cs t fr hkk ht
    refine (hk k (lt_of_heap hkk) (fun e => ?_) (fun e => ?_)).trans hkk
    · obtain ⟨cs', hb'⟩ := row_block hrow k e.symm
      rw [hkk] at hb'; cases hb'; exact ht rfl
    · rw [e, hbm] at hkk; cases hkk
end
end Go.Proofs.Ytkophpipehdkmaa

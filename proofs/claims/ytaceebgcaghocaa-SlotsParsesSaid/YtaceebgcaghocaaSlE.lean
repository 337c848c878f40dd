/- Layer 5: cells in memory; runs of slices of bytes that a call made. -/
import Derived.Maps.AppendAt
import Derived.Test.YtaceebgcaghocaaSlA
namespace Go.Proofs.Ytaceebgcaghocaa
open Go.RowKit

/-- A cell lies from a place on. -/
structure CellAt (W : World) (b o : Nat) (c : Cv) : Prop where
  key : W.cell? ⟨b, o, none⟩ = some (.string c.key)
  text : W.cell? ⟨b, o + 1, none⟩ = some (.string c.text)
  long : W.cell? ⟨b, o + 2, none⟩ = some (.bool c.long)
  page : W.cell? ⟨b, o + 3, none⟩ = some (.int .i64 c.page)
  size : W.cell? ⟨b, o + 4, none⟩ = some (.int .i64 c.size)
theorem CellAt.below {n₀ b o : Nat} {W W' : World} {c : Cv} (h : CellAt W b o c) (hb : Below n₀ W W') (hlt : b < n₀) : CellAt W' b o c :=
  ⟨(hb.cell (p := ⟨b, o, none⟩) hlt).trans h.key, (hb.cell (p := ⟨b, o + 1, none⟩) hlt).trans h.text, (hb.cell (p := ⟨b, o + 2, none⟩) hlt).trans h.long, (hb.cell (p := ⟨b, o + 3, none⟩) hlt).trans h.page, (hb.cell (p := ⟨b, o + 4, none⟩) hlt).trans h.size⟩
/-- From the slice's address on lie these cells, in a block below n₁. -/
def CellsAt (n₁ : Nat) (W : World) (a : Option Addr) (L : List Cv) : Prop := L ≠ [] → ∃ b off, a = some ⟨b, off, none⟩ ∧ b < n₁ ∧ ∀ j, j < L.length → CellAt W b (off + j * 5) (L.getD j default)
theorem CellsAt.below {n₁ : Nat} {A B : World} {a : Option Addr} {L : List Cv} (h : Below n₁ A B) (k : CellsAt n₁ A a L) : CellsAt n₁ B a L := fun hl => by
  obtain ⟨b, off, rfl, hb, hc⟩ := k hl
  exact ⟨b, off, rfl, hb, fun j hj => (hc j hj).below h hb⟩
theorem CellsAt.mono {n₀ n₁ : Nat} {A : World} {a : Option Addr} {L : List Cv} (hn : n₀ ≤ n₁) (k : CellsAt n₀ A a L) : CellsAt n₁ A a L := fun hl => by
  obtain ⟨b, off, rfl, hb, hc⟩ := k hl
  exact ⟨b, off, rfl, Nat.lt_of_lt_of_le hb hn, hc⟩
def cellL (c : Cv) : List Value := [.string c.key, .string c.text, .bool c.long, .int .i64 c.page, .int .i64 c.size]
def cellsL (L : List Cv) : List Value := L.flatMap cellL
theorem cellsL_snoc (L : List Cv) (c : Cv) : cellsL (L ++ [c]) = cellsL L ++ cellL c := by simp [cellsL]
theorem cellsL_len (L : List Cv) : (cellsL L).length = L.length * 5 := by
  induction L with
  | nil => rfl
  | cons c L ih => rw [show cellsL (c :: L) = cellL c ++ cellsL L from rfl, List.length_append, ih]; simp [cellL]; omega
theorem cellsL_at (L : List Cv) (j t : Nat) (hj : j < L.length) (ht : t < 5) : (cellsL L)[j * 5 + t]? = (cellL (L.getD j default))[t]? := by
  induction L generalizing j with
  | nil => simp at hj
  | cons c L ih =>
    have hl : (cellL c).length = 5 := rfl
    rw [show cellsL (c :: L) = cellL c ++ cellsL L from rfl]
    cases j with
    | zero => rw [List.getElem?_append_left (by rw [hl]; omega), Nat.zero_mul, Nat.zero_add]; rfl
    | succ j =>
      rw [List.getElem?_append_right (by rw [hl]; omega), hl, show (j + 1) * 5 + t - 5 = j * 5 + t by omega, ih j (by simp at hj; omega)]
      rfl
/-- The slice value, made by the call, holds these cells. -/
def OwnC (w : World) (base : Nat) (v : Value) (L : List Cv) : Prop := w.ownsRow base 36 5 v L.length (cellsL L)
theorem OwnC.nil (w : World) (base : Nat) : OwnC w base (.slice none 0 0) [] := World.ownsRow_nil w base _ _
theorem ownC_block {w : World} {base : Nat} {v : Value} {L : List Cv} (h : OwnC w base v L) (g : Nat) (hg : v.ownBlock = some g) : ∃ cs, w.heap[g]? = some (.cells cs 36 (0, 0)) := by
  rcases h.2 with ⟨rfl, _⟩ | ⟨g', cap, cur, rfl, _, hh, _⟩
  · cases hg
  · cases hg; exact ⟨cur, hh⟩
theorem OwnC.form {w : World} {base : Nat} {v : Value} {L : List Cv} (h : OwnC w base v L) : ∃ a cap, v = .slice a L.length cap ∧ L.length ≤ cap ∧ cap ≤ maxLen ∧ (a = none → cap = 0) ∧ CellsAt w.heap.size w a L ∧ (L ≠ [] → ∃ g, a = some ⟨g, 0, none⟩ ∧ base ≤ g) := by
  obtain ⟨hlen, ⟨rfl, h0⟩ | ⟨g, cap, cur, rfl, hg, hh, hn, hcap, hsz, htk⟩⟩ := h
  · have : L = [] := List.eq_nil_of_length_eq_zero h0
    subst this
    exact ⟨none, 0, rfl, Nat.le_refl _, Nat.zero_le _, fun _ => rfl, fun h => absurd rfl h, fun h => absurd rfl h⟩
  · refine ⟨_, cap, rfl, hn, hcap, fun e => by (cases e), fun _ => ⟨g, 0, rfl, (Array.getElem?_eq_some_iff.1 hh).1, fun j hj => ?_⟩, fun _ => ⟨g, rfl, hg⟩⟩
    have key : ∀ t v, t < 5 → (cellL (L.getD j default))[t]? = some v → w.cell? ⟨g, 0 + j * 5 + t, none⟩ = some v := fun t v ht hv => by
      rw [Nat.zero_add, cell_of_row w g _ _ _ _ hh]
      have h1 : (cur.toList.take (L.length * 5))[j * 5 + t]? = some v := by rw [htk, cellsL_at L j t hj ht, hv]
      rw [List.getElem?_take, if_pos (by omega), Array.getElem?_toList] at h1
      exact h1
    exact ⟨key 0 _ (by omega) rfl, key 1 _ (by omega) rfl, key 2 _ (by omega) rfl, key 3 _ (by omega) rfl, key 4 _ (by omega) rfl⟩
theorem OwnC.kept {w w' : World} {base : Nat} {v : Value} {L : List Cv} (h : OwnC w base v L) (hg : ∀ g, v.ownBlock = some g → w'.heap[g]? = w.heap[g]?) : OwnC w' base v L := by
  refine ⟨h.1, ?_⟩
  rcases h.2 with e | ⟨g, cp, cur, rfl, hb, hh, r⟩
  · exact .inl e
  · exact .inr ⟨g, cp, cur, rfl, hb, (hg g rfl).trans hh, r⟩
theorem OwnC.below {w w' : World} {base : Nat} {v : Value} {L : List Cv} (h : OwnC w base v L) (hb : Below w.heap.size w w') : OwnC w' base v L :=
  h.kept fun g hg => by
    obtain ⟨cs, hh⟩ := ownC_block h g hg
    exact hb.block g (Array.getElem?_eq_some_iff.1 hh).1
theorem OwnC.keep {w w' : World} {base : Nat} {v : Value} {L : List Cv} (h : OwnC w base v L) (hk : CellKeep w w') : OwnC w' base v L :=
  h.kept fun g hg => by
    obtain ⟨cs, hh⟩ := ownC_block h g hg
    exact (hk g cs _ hh).trans hh.symm
theorem OwnC.mono {w : World} {b b' : Nat} {v : Value} {L : List Cv} (h : OwnC w b v L) (hn : b' ≤ b) : OwnC w b' v L := by
  refine ⟨h.1, ?_⟩
  rcases h.2 with e | ⟨g, cp, cur, rfl, hb, r⟩
  · exact .inl e
  · exact .inr ⟨g, cp, cur, rfl, Nat.le_trans hn hb, r⟩
theorem infoCell : (Try.prog.info? 36).map (fun i => (i.zero, i.size, i.bytes)) = some (some (.agg #[.string ⟨#[]⟩, .string ⟨#[]⟩, .bool false, .int .i64 0, .int .i64 0]), 5, 56) := by kernel_rfl
theorem wpList_append_cell {w : World} {ops : Array Oper} {rest : List Oper} {o : Oper} {a : Act} {Q : Exit → Act → World → Prop} (hgd : o.guard = none) (s x : Operand)
    (ho : o.op = .call { callee := .builtin .append, args := #[s, x], argTypes := #[25, 25] }) (base : Nat) (v : Value) (L : List Cv) (hs : a.eval s = v) (hown : OwnC w base v L)
    (b off c : Nat) (M : List Cv) (hx : a.eval x = .slice (some ⟨b, off, none⟩) M.length c) (hp : ∀ j, j < M.length → CellAt w b (off + j * 5) (M.getD j default)) (hbound : L.length + M.length ≤ 1000000) (hbase : base ≤ w.heap.size)
    (h : ∀ v' w', OwnC w' base v' (L ++ M) → w.grownBy w' v.ownBlock → wpList Try.prog ops Q rest (a.put o.dst v') w') : wpList Try.prog ops Q (o :: rest) a w := by
  obtain ⟨i0, hi, hz0, hz1, hz2⟩ := info_parts infoCell
  refine wpList_append_own_at w hgd s x 25 ho base 36 i0 _ 5 56 Try.underlying25 hi hz0 hz1 hz2 rfl (by decide) v L.length (cellsL L) hs hown ⟨b, off, none⟩ M.length c (cellsL M) hx (cellsL_len M) ?_ ?_ (by unfold maxLen; omega) (by omega) hbase
    (fun v' w' h1 h2 _ _ => h v' w' (by unfold OwnC; rw [List.length_append, show cellsL (L ++ M) = cellsL L ++ cellsL M by simp [cellsL]]; exact h1) h2)
  · intro j u hu
    have hj : j < M.length * 5 := by
      have := (List.getElem?_eq_some_iff.1 hu).1; rwa [cellsL_len] at this
    have hc := hp (j / 5) (by omega)
    have e1 : j = j / 5 * 5 + j % 5 := by omega
    have hm : j % 5 < 5 := Nat.mod_lt _ (by omega)
    rw [e1, cellsL_at M _ _ (by omega) hm] at hu
    rw [addr_add, show off + j = off + j / 5 * 5 + j % 5 by omega]
    revert hu hm
    generalize j % 5 = t
    intro hu hm
    match t, hu with
    | 0, hu => cases hu; exact hc.key
    | 1, hu => cases hu; exact hc.text
    | 2, hu => cases hu; exact hc.long
    | 3, hu => cases hu; exact hc.page
    | 4, hu => cases hu; exact hc.size
    | t + 5, hu => omega
  · intro u hu
    simp only [cellsL, List.mem_flatMap] at hu
    obtain ⟨c, _, hu⟩ := hu
    simp [cellL] at hu
    rcases hu with rfl | rfl | rfl | rfl | rfl <;> rfl
/-- A run of slices of bytes, all of it made by the call. -/
def OwnL (w : World) (base : Nat) (v : Value) (ls : List (List UInt8)) : Prop := ∃ xs : List Value, w.ownsRow base 23 1 v ls.length xs ∧ ∀ j, j < ls.length → OwnB w base (xs.getD j undef) (ls.getD j [])
theorem OwnL.nil (w : World) (base : Nat) : OwnL w base (.slice none 0 0) [] := ⟨[], World.ownsRow_nil w base _ _, fun _ h => by simp at h⟩
theorem OwnL.block {w : World} {base : Nat} {v : Value} {ls : List (List UInt8)} (h : OwnL w base v ls) (k : Nat) (hk : v.ownBlock = some k) : base ≤ k := by
  obtain ⟨xs, h1, -⟩ := h
  rcases h1.2 with ⟨rfl, _⟩ | ⟨g', cap, cur, rfl, hb, _⟩
  · cases hk
  · cases hk; exact hb
theorem OwnL.below {w w' : World} {base : Nat} {v : Value} {ls : List (List UInt8)} (h : OwnL w base v ls) (hb : Below w.heap.size w w') : OwnL w' base v ls := by
  obtain ⟨xs, h1, h2⟩ := h
  exact ⟨xs, World.ownsRow.kept h1 (below_grown hb) (by cases v.ownBlock <;> simp), fun j hj => (h2 j hj).below hb⟩
theorem OwnB.besides {w w' : World} {base : Nat} {u : Value} {l : List UInt8} {V : Nat} {cs : Array Value} {T : TypeId} {fr : Nat × Nat} (h : OwnB w base u l) (hV : w.heap[V]? = some (.cells cs T fr)) (hT : T ≠ 5) (hg : w.grownBy w' (some V)) : OwnB w' base u l :=
  World.ownsRow.kept h hg (by
    cases hx : u.ownBlock with
    | none => exact .inl rfl
    | some g =>
      refine .inr fun e => ?_
      cases e
      obtain ⟨ds, hd⟩ := own_block h V hx
      rw [hV] at hd; cases hd; exact hT rfl)
theorem infoL : (Try.prog.info? 23).map (fun i => (i.zero, i.size, i.bytes)) = some (some (.slice none 0 0), 1, 24) := by kernel_rfl
theorem wpList_append_run {w : World} {ops : Array Oper} {rest : List Oper} {o : Oper} {a : Act} {Q : Exit → Act → World → Prop} (hgd : o.guard = none) (s x : Operand)
    (ho : o.op = .call { callee := .builtin .append, args := #[s, x], argTypes := #[54, 54] }) (base : Nat) (v : Value) (ls : List (List UInt8)) (hs : a.eval s = v) (hown : OwnL w base v ls)
    (g c : Nat) (u : Value) (l : List UInt8) (hx : a.eval x = .slice (some ⟨g, 0, none⟩) 1 c) (hp : w.cell? ⟨g, 0, none⟩ = some u) (hu : OwnB w base u l) (hbound : ls.length ≤ 1000000) (hbase : base ≤ w.heap.size)
    (h : ∀ v' w', OwnL w' base v' (ls ++ [l]) → w.grownBy w' v.ownBlock → wpList Try.prog ops Q rest (a.put o.dst v') w') : wpList Try.prog ops Q (o :: rest) a w := by
  obtain ⟨i0, hi, hz0, hz1, hz2⟩ := info_parts infoL
  obtain ⟨xs, h1, h2⟩ := hown
  have hlen : xs.length = ls.length := by have := h1.1; omega
  refine wpList_append_own_at w hgd s x 54 ho base 23 i0 _ 1 24 Try.underlying54 hi hz0 hz1 hz2 rfl (by decide) v ls.length xs hs h1 ⟨g, 0, none⟩ 1 c [u] hx rfl ?_ ?_ (by unfold maxLen; omega) (by omega) hbase
    (fun v' w' k1 k2 _ _ => h v' w' ⟨xs ++ [u], by rw [List.length_append]; exact k1, fun j hj => ?_⟩ k2)
  · intro j y hy
    match j, hy with
    | 0, hy => cases hy; rw [addr_add]; exact hp
  · intro y hy
    simp only [List.mem_cons, List.not_mem_nil, or_false] at hy
    subst hy
    obtain ⟨a', c', e, -⟩ := hu.form
    rw [e]; rfl
  · have key : ∀ y m, OwnB w base y m → OwnB w' base y m := fun y m hy => by
      refine World.ownsRow.kept hy k2 ?_
      cases hx : y.ownBlock with
      | none => exact .inl rfl
      | some q =>
        refine .inr fun e => ?_
        obtain ⟨ds, hd⟩ := own_block hy q hx
        rcases h1.2 with ⟨e1, _⟩ | ⟨g', cap, cur, e1, _, hh, _⟩
        · rw [e1] at e; cases e
        · rw [e1] at e; cases e; rw [hd] at hh; cases hh
    rw [List.length_append, List.length_singleton] at hj
    by_cases hlt : j < ls.length
    · have e1 : (xs ++ [u]).getD j undef = xs.getD j undef := by simp [List.getD, List.getElem?_append_left (show j < xs.length by omega)]
      have e2 : (ls ++ [l]).getD j [] = ls.getD j [] := by simp [List.getD, List.getElem?_append_left hlt]
      rw [e1, e2]
      exact key _ _ (h2 j hlt)
    · obtain rfl : j = ls.length := by omega
      have e1 : (xs ++ [u]).getD ls.length undef = u := by rw [← hlen]; simp [List.getD]
      have e2 : (ls ++ [l]).getD ls.length [] = l := by simp [List.getD]
      rw [e1, e2]
      exact key _ _ hu
end Go.Proofs.Ytaceebgcaghocaa

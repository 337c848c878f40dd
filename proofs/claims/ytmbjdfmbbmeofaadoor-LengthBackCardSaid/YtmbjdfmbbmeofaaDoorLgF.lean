/- Layer 15: bytes.Clone; a row of runs of bytes that a call makes. -/
import Derived.Test.YtmbjdfmbbmeofaaDoorLgE
import Derived.Test.YtmbjdfmbbmeofaaDoorWireB
import Derived.Maps.AppendAt
import Derived.Lib.OwnKind
import Derived.RangeFuncWrites
namespace Go.Proofs.YtmbjdfmbbmeofaaDoor
open Go.RowKit Go.Shelf

set_option maxRecDepth 100000 in
/-- bytes.Clone: bytes that lie anywhere; the clone is the call's own. -/
theorem lg_clone (w : World) (ao : Option Addr) (l : List UInt8) (cap n₁ : Nat) (hm : BytesAt n₁ w ao l) (hnone : ao = none → cap = 0) (hle : l.length ≤ cap) (hl : l.length ≤ 1000000) :
    Calls Tryd.prog 18 #[.slice ao l.length cap] w fun e w' => ∃ v', e = .returned v' ∧ OwnB w' w.heap.size v' l ∧ Below w.heap.size w w' := by
  cases ao with
  | none =>
    obtain rfl := hnone rfl
    obtain rfl : l = [] := List.eq_nil_of_length_eq_zero (by omega)
    have he : ∀ w : World, (binOp .eql 22 (.slice none 0 0) (.slice none 0 0)).run Tryd.prog w = .ok (.bool true) w := fun _ => rfl
    go_enter Tryd.func18, Tryd.ntmps18
    go_wp2
    go_ret
    exact ⟨_, rfl, OwnB.nil _ _, Below.refl _ _⟩
  | some ad =>
    have O0 : OwnB (w.alloc (.cells #[] 5)) w.heap.size (.slice (some ⟨w.heap.size, 0, none⟩) 0 0) [] := World.ownsRow_made w #[] 0 (Nat.le_refl _) (by simp) rfl
    have he : ∀ w : World, (binOp .eql 22 (.slice (some ad) l.length cap) (.slice none 0 0)).run Tryd.prog w = .ok (.bool false) w := fun _ => rfl
    have hq : ([] : List UInt8).length + l.length ≤ 1099511627776 := by simp; omega
    have hm2 : BytesAt (max n₁ w.heap.size) (w.alloc (.cells #[] 5)) (some ad) l := fun hne => by
      obtain ⟨b, off, e, hb, hc⟩ := hm hne
      refine ⟨b, off, e, by omega, fun j hj => ?_⟩
      have := hc j hj
      exact ((below_grown ((Below.refl w.heap.size w).alloc (Nat.le_refl _) (.cells #[] 5))).cell this (by simp))
    go_enter Tryd.func18, Tryd.ntmps18
    go_wp2_with (at_builtin; refine wpList_append_goes rfl _ _ rfl w.heap.size _ _ [] rfl O0 ad l cap rfl hm2 hq (by simp) ?_; intro v' w' O' G' _)
    go_ret
    refine ⟨_, rfl, by simpa using O', ?_⟩
    exact G'.alloc.below (Nat.le_refl _) (fun k e => by cases e; exact Nat.le_refl _)
/-- Block r is no run of bytes, and no row of such runs. -/
def LgFar (w : World) (row : Option Nat) : Prop := ∀ r, row = some r → ∀ cs fr, w.heap[r]? ≠ some (.cells cs 5 fr) ∧ w.heap[r]? ≠ some (.cells cs 22 fr)
theorem LgFar.none (w : World) : LgFar w none := fun _ e => by cases e
theorem LgFar.box {w : World} {r : Nat} {T : TypeId} {cs : Array Value} {fr : Nat × Nat} (h : w.heap[r]? = some (.cells cs T fr)) (h1 : T ≠ 5) (h2 : T ≠ 22) : LgFar w (some r) := fun r' e cs' fr' => by
  cases e
  rw [h]
  exact ⟨fun e => by cases e; exact h1 rfl, fun e => by cases e; exact h2 rfl⟩
theorem LgFar.other {w : World} {r : Nat} {o : Obj} (h : w.heap[r]? = some o) (ho : o.isCells = false) : LgFar w (some r) := fun r' e cs' fr' => by
  cases e
  rw [h]
  exact ⟨(fun e => by cases e; cases ho), (fun e => by cases e; cases ho)⟩
theorem ownB_far {w w' : World} {base : Nat} {v : Value} {l : List UInt8} {row : Option Nat} (h : OwnB w base v l) (hg : w.grownBy w' row) (hr : ∀ r, row = some r → ∀ cs fr, w.heap[r]? ≠ some (.cells cs 5 fr)) : OwnB w' base v l :=
  World.ownsRow.kept h hg (by
    cases hx : v.ownBlock with
    | none => exact .inl rfl
    | some g =>
      refine .inr fun e => ?_
      obtain ⟨c, fz, hd⟩ := Lib.ownsRow_kind h g hx
      exact hr g e.symm _ _ hd)
theorem ownB_base {w : World} {b b' : Nat} {v : Value} {l : List UInt8} (h : OwnB w b v l) (hn : b' ≤ b) : OwnB w b' v l := by
  rcases h with ⟨hl, e | ⟨g, cp, cur, rfl, hb, r⟩⟩
  · exact ⟨hl, .inl e⟩
  · exact ⟨hl, .inr ⟨g, cp, cur, rfl, Nat.le_trans hn hb, r⟩⟩
/-- The slice value v, made since the heap had base blocks (or nil), holds slices of these bytes, which were made since then, too. -/
def LgL (w : World) (base : Nat) (v : Value) (ls : List (List UInt8)) : Prop := ∃ xs : List Value, w.ownsRow base 22 1 v ls.length xs ∧ ∀ j, j < ls.length → OwnB w base (xs.getD j undef) (ls.getD j [])
theorem LgL.nil (w : World) (base : Nat) : LgL w base (.slice none 0 0) [] := ⟨[], World.ownsRow_nil w base _ _, fun _ h => by simp at h⟩
theorem LgL.far {w w' : World} {base : Nat} {v : Value} {ls : List (List UInt8)} {row : Option Nat} (h : LgL w base v ls) (hg : w.grownBy w' row) (hr : LgFar w row) : LgL w' base v ls := by
  obtain ⟨xs, h1, h2⟩ := h
  refine ⟨xs, World.ownsRow.kept h1 hg ?_, fun j hj => ownB_far (h2 j hj) hg fun r e cs fr => (hr r e cs fr).1⟩
  cases hx : v.ownBlock with
  | none => exact .inl rfl
  | some g =>
    refine .inr fun e => ?_
    obtain ⟨c, fz, hd⟩ := Lib.ownsRow_kind h1 g hx
    exact (hr g e.symm _ _).2 hd
theorem LgL.kind {w : World} {base : Nat} {v : Value} {ls : List (List UInt8)} (h : LgL w base v ls) : ∀ g, v.ownBlock = some g → base ≤ g ∧ ∃ c fz, w.heap[g]? = some (.cells c 22 fz) := fun g hg => by
  obtain ⟨xs, h1, -⟩ := h
  refine ⟨?_, Lib.ownsRow_kind h1 g hg⟩
  exact (h1.lt g hg).1
theorem lg_infoL : (Tryd.prog.info? 22).map (fun i => (i.zero, i.size, i.bytes)) = some (some (.slice none 0 0), 1, 24) := by kernel_rfl
theorem lg_append (w : World) (base ty : Nat) (v : Value) (ls : List (List UInt8)) (hown : LgL w base v ls) (g c : Nat) (u : Value) (l : List UInt8) (hp : w.cell? ⟨g, 0, none⟩ = some u) (hu : OwnB w base u l) (hbound : ls.length ≤ 1000000) (hbase : base ≤ w.heap.size) :
    ∃ v' w', (Builtin.append_ #[36, 36] ty #[v, .slice (some ⟨g, 0, none⟩) 1 c]).run Tryd.prog w = .ok v' w' ∧ LgL w' base v' (ls ++ [l]) ∧ w.grownBy w' v.ownBlock := by
  obtain ⟨i0, hi, hz0, hz1, hz2⟩ := info_parts lg_infoL
  obtain ⟨xs, h1, h2⟩ := id hown
  have hlen : xs.length = ls.length := by have := h1.1; omega
  obtain ⟨v', w', hr, k1, k2, -, -⟩ := run_append_own_at (P := Tryd.prog) (w := w) base 36 ty 22 i0 _ 1 24 Tryd.underlying36 hi hz0 hz1 hz2 rfl (by decide) v ls.length xs h1 ⟨g, 0, none⟩ 1 c [u] rfl (fun j y hy => by
      match j, hy with
      | 0, hy => cases hy; exact hp
      | j + 1, hy => cases hy) (fun y hy => by
      obtain rfl : y = u := by simpa using hy
      obtain ⟨a', c', rfl, -⟩ := hu.form
      rfl) (by unfold maxLen; omega) (by omega) hbase
  refine ⟨v', w', hr, ⟨xs ++ [u], by rw [List.length_append]; exact k1, fun j hj => ?_⟩, k2⟩
  have far : ∀ r, v.ownBlock = some r → ∀ cs fr, w.heap[r]? ≠ some (.cells cs 5 fr) := fun r e cs fr e2 => by
    obtain ⟨c2, fz, hd⟩ := Lib.ownsRow_kind h1 r e
    rw [hd] at e2; cases e2
  rw [List.length_append, List.length_singleton] at hj
  rcases Nat.lt_or_ge j ls.length with hlt | hge
  · have := ownB_far (h2 j hlt) k2 far
    simpa [List.getD, List.getElem?_append_left (show j < xs.length by omega), List.getElem?_append_left hlt] using this
  · obtain rfl : j = ls.length := by omega
    have := ownB_far hu k2 far
    simpa [List.getD, List.getElem?_append_right (show xs.length ≤ ls.length by omega), hlen] using this
/-- Where a part of a slice lies. -/
def lgCutAt (ao : Option Addr) (c i : Nat) : Option Addr := if c = i then ao else ao.map fun x => x.add (i * 1)
theorem lg_slice_lh (w : World) (ao : Option Addr) (n c lo hi : Nat) (h1 : lo ≤ hi) (h2 : hi ≤ c) : (Instr.sliceAt 22 (.slice ao n c) (some (.int .i64 lo)) (some (.int .i64 hi)) none).run Tryd.prog w = .ok (.slice (lgCutAt ao c lo) (hi - lo) (c - lo)) w := by
  have hel : Tryd.prog.elem 22 = 5 := by kernel_rfl
  have hu : Tryd.prog.underlying 22 = some (.slice (Tryd.prog.elem 22)) := by rw [hel]; exact Tryd.underlying22
  have hs : (sizeOf 5).run Tryd.prog w = .ok 1 w := by kernel_rfl
  have h1 := (run_sliceAt_slice (P := Tryd.prog) w 22 _ _ _ _ hu).trans (run_slice_lh (P := Tryd.prog) w 22 ao n c hu .i64 .i64 (lo : Int) (hi : Int) (by omega) (by omega) (by omega))
  rw [hel, hs] at h1
  simp only [Result.andThen_ok, Int.toNat_natCast, sliced] at h1
  exact h1
theorem lg_slice_l (w : World) (ao : Option Addr) (n c i : Nat) (hi : i ≤ n) : (Instr.sliceAt 22 (.slice ao n c) (some (.int .i64 i)) none none).run Tryd.prog w = .ok (.slice (lgCutAt ao c i) (n - i) (c - i)) w := by
  have hel : Tryd.prog.elem 22 = 5 := by kernel_rfl
  have hu : Tryd.prog.underlying 22 = some (.slice (Tryd.prog.elem 22)) := by rw [hel]; exact Tryd.underlying22
  have hs : (sizeOf 5).run Tryd.prog w = .ok 1 w := by kernel_rfl
  have h1 := (run_sliceAt_slice (P := Tryd.prog) w 22 _ _ _ _ hu).trans (run_slice_l (P := Tryd.prog) w 22 ao n c hu .i64 (i : Int) (by omega) (by omega))
  rw [hel, hs] at h1
  simp only [Result.andThen_ok, Int.toNat_natCast, sliced] at h1
  exact h1
theorem lg_slice_h (w : World) (ao : Option Addr) (n c h : Nat) (h2 : h ≤ c) : (Instr.sliceAt 22 (.slice ao n c) none (some (.int .i64 h)) none).run Tryd.prog w = .ok (.slice (lgCutAt ao c 0) h c) w := by
  have hel : Tryd.prog.elem 22 = 5 := by kernel_rfl
  have hu : Tryd.prog.underlying 22 = some (.slice (Tryd.prog.elem 22)) := by rw [hel]; exact Tryd.underlying22
  have hs : (sizeOf 5).run Tryd.prog w = .ok 1 w := by kernel_rfl
  have h1 := (run_sliceAt_slice (P := Tryd.prog) w 22 _ _ _ _ hu).trans (run_slice_h (P := Tryd.prog) w 22 ao n c hu .i64 (h : Int) (by omega) (by omega))
  rw [hel, hs] at h1
  simp only [Result.andThen_ok, Int.toNat_natCast, sliced, Nat.sub_zero] at h1
  exact h1
theorem lgCutAt_none {ao : Option Addr} {c i : Nat} (h : ao = none → c = 0) (h2 : lgCutAt ao c i = none) : c - i = 0 := by
  cases ao with
  | none => have := h rfl; omega
  | some a =>
    unfold lgCutAt at h2
    split at h2 <;> cases h2
theorem lg_rest {n₁ : Nat} {w : World} {ao : Option Addr} {l : List UInt8} {c i : Nat} (hm : BytesAt n₁ w ao l) (hc : l.length ≤ c) : BytesAt n₁ w (lgCutAt ao c i) (l.drop i) := fun hne => by
  have hi : i < l.length := by
    rcases Nat.lt_or_ge i l.length with h | h
    · exact h
    · exact absurd (List.drop_of_length_le h) hne
  obtain ⟨b, off, rfl, hb, hcc⟩ := hm (by rintro rfl; simp at hi)
  refine ⟨b, off + i, ?_, hb, fun j hj => ?_⟩
  · unfold lgCutAt
    rw [if_neg (by omega), Option.map_some, Nat.mul_one, addr_add]
  · rw [List.length_drop] at hj
    rw [List.getElem?_drop, Nat.add_assoc]
    exact hcc (i + j) (by omega)
theorem lg_mid {n₁ : Nat} {w : World} {ao : Option Addr} {l : List UInt8} {c i m : Nat} (hm : BytesAt n₁ w ao l) (hc : l.length ≤ c) : BytesAt n₁ w (lgCutAt ao c i) ((l.drop i).take m) := by
  have h := lg_rest (i := i) hm hc
  rw [← List.take_append_drop m (l.drop i)] at h
  exact h.left
end Go.Proofs.YtmbjdfmbbmeofaaDoor

/- Layer 2: the document's disk in memory; its Write. -/
import Derived.Deep.RegionHeld3
import Derived.Deep.Cut
import Derived.Deep.DeepCutAuto
import Derived.Test.YtkophpipehdkmaaAppend
import Derived.Test.YtkophpipehdkmaaReg3
import Derived.Test.YtkophpipehdkmaaRefD
namespace Go.Proofs.Ytkophpipehdkmaa
open Go.RowKit

structure GD where
  lasts : List ByteArray
  waits : List (Int × ByteArray)
  k : Int
  l : Int
  b : Bool
  s : Int
def wtCells (x : Int × ByteArray) : List Value := [.int .i64 x.1, .string x.2]
def wtsCells (ws : List (Int × ByteArray)) : List Value := ws.flatMap wtCells
theorem wtsCells_snoc (ws : List (Int × ByteArray)) (x : Int × ByteArray) : wtsCells (ws ++ [x]) = wtsCells ws ++ wtCells x := by simp [wtsCells]
theorem wtsCells_len (ws : List (Int × ByteArray)) : (wtsCells ws).length = ws.length * 2 := by
  induction ws with
  | nil => rfl
  | cons x ws ih => rw [show wtsCells (x :: ws) = wtCells x ++ wtsCells ws from rfl, List.length_append, ih, List.length_cons]; simp [wtCells]; omega
/-- These cells lie from the slice's address on, in a block of T's below n₀. -/
def LiesAt (n₀ : Nat) (w : World) (T : TypeId) (a : Option Addr) (xs : List Value) : Prop := xs ≠ [] → ∃ b off, a = some ⟨b, off, none⟩ ∧ b < n₀ ∧ (∃ cs fr, w.heap[b]? = some (.cells cs T fr)) ∧ ∀ j u, xs[j]? = some u → w.cell? ⟨b, off + j, none⟩ = some u
theorem LiesAt.below {n₀ : Nat} {w w' : World} {T : TypeId} {a : Option Addr} {xs : List Value} (h : LiesAt n₀ w T a xs) (hb : Below n₀ w w') : LiesAt n₀ w' T a xs := fun hne => by
  obtain ⟨b, off, e, hlt, ⟨cs, fr, ht⟩, hc⟩ := h hne
  exact ⟨b, off, e, hlt, ⟨cs, fr, (hb.block b hlt).trans ht⟩, fun j u hu => (hb.cell (p := ⟨b, off + j, none⟩) hlt).trans (hc j u hu)⟩
theorem LiesAt.mono {n₀ n₁ : Nat} {w : World} {T : TypeId} {a : Option Addr} {xs : List Value} (h : LiesAt n₀ w T a xs) (hn : n₀ ≤ n₁) : LiesAt n₁ w T a xs := fun hne => by
  obtain ⟨b, off, e, hlt, ht, hc⟩ := h hne
  exact ⟨b, off, e, by omega, ht, hc⟩
/-- The value is the document's disk g, all that it names in blocks below n₀. -/
structure IsG (n₀ : Nat) (w : World) (la : Option Addr) (lc : Nat) (wa : Option Addr) (wc : Nat) (g : GD) : Prop where
  lasts : LiesAt n₀ w 9 la (g.lasts.map .string)
  waits : LiesAt n₀ w 50 wa (wtsCells g.waits)
  lle : g.lasts.length ≤ lc
  wle : g.waits.length ≤ wc
  wnone : wa = none → wc = 0
  lnone : la = none → lc = 0
  fewl : g.lasts.length ≤ 1000000
def gv (la : Option Addr) (lc : Nat) (wa : Option Addr) (wc : Nat) (g : GD) : Value := rv la g.lasts.length lc wa g.waits.length wc g.k g.l g.b g.s
theorem IsG.below {n₀ : Nat} {w w' : World} {la wa : Option Addr} {lc wc : Nat} {g : GD} (h : IsG n₀ w la lc wa wc g) (hb : Below n₀ w w') : IsG n₀ w' la lc wa wc g :=
  ⟨h.lasts.below hb, h.waits.below hb, h.lle, h.wle, h.wnone, h.lnone, h.fewl⟩
/-- What a call on the document's disk leaves. -/
def GPost (w : World) (r : GD × Int) (e : Ending) (w' : World) : Prop := ∃ la lc wa wc, e = .returned (.tuple #[gv la lc wa wc r.1, .int .i64 r.2]) ∧ IsG w'.heap.size w' la lc wa wc r.1 ∧ Below w.heap.size w w'
def GD.stepped (g : GD) : GD × Int := let r := rstep g.k g.l g.b g.s; ({ g with k := r.1, l := r.2.1, b := r.2.2.1, s := r.2.2.2.1 }, r.2.2.2.2)
def GD.write (g : GD) (p : Int) (l : List UInt8) : GD × Int :=
  if l.length ≠ 256 then (g, 2) else if p < 0 ∨ (g.lasts.length : Int) ≤ p then (g, 4) else
  if g.stepped.2 = 0 then ({ g.stepped.1 with waits := g.waits ++ [(p, ⟨l.toArray⟩)] }, 0) else g.stepped

theorem infoWait : (Try.prog.info? 50).map (fun i => (i.zero, i.size, i.bytes)) = some (some (.agg #[.int .i64 0, .string ⟨#[]⟩]), 2, 24) := by kernel_rfl
/-- A row of writes that wait, which the call made. -/
def OwnW (w : World) (base : Nat) (v : Value) (ws : List (Int × ByteArray)) : Prop := w.ownsRow base 50 2 v ws.length (wtsCells ws)
theorem OwnW.below {w w' : World} {base : Nat} {v : Value} {ws : List (Int × ByteArray)} (h : OwnW w base v ws) (hb : Below w.heap.size w w') : OwnW w' base v ws :=
  World.ownsRow.kept h (below_grown hb) (by cases v.ownBlock <;> simp)
theorem wt_one (x : Int × ByteArray) : ∀ u ∈ wtCells x, u.oneCell' = true := by
  intro u hu
  simp [wtCells] at hu
  rcases hu with rfl | rfl <;> rfl
theorem wts_one (ws : List (Int × ByteArray)) : ∀ u ∈ wtsCells ws, u.oneCell' = true := by
  intro u hu
  obtain ⟨x, _, h⟩ := List.mem_flatMap.1 hu
  exact wt_one x u h
/-- A copy of what waits: append to none. -/
theorem copy_waits (w : World) (ty : TypeId) (base : Nat) (hb : base ≤ w.heap.size) (wa : Option Addr) (wc : Nat) (ws : List (Int × ByteArray)) (hn : wa = none → wc = 0) (hle : ws.length ≤ wc) (hf : ws.length ≤ 1000000) (hl : LiesAt w.heap.size w 50 wa (wtsCells ws)) :
    ∃ v' w', (Builtin.append_ #[32, 32] ty #[.slice none 0 0, .slice wa ws.length wc]).run Try.prog w = .ok v' w' ∧ OwnW w' base v' ws ∧ Below w.heap.size w w' ∧ (ws.length = 0 → v'.ownBlock = none) := by
  obtain ⟨i0, hi, hz0, hz1, hz2⟩ := info_parts infoWait
  have hnil : w.ownsRow base 50 2 (.slice none 0 0) 0 [] := World.ownsRow_nil w base _ _
  cases wa with
  | none =>
    obtain rfl := hn rfl
    obtain rfl : ws = [] := List.eq_nil_of_length_eq_zero (by omega)
    have hrun := run_append_owned_none (P := Try.prog) (w := w) base 32 ty 50 i0 2 Try.underlying32 hi (.slice none 0 0) 0 [] hnil
    exact ⟨_, _, hrun, hnil, Below.refl _ _, fun _ => rfl⟩
  | some a =>
    have hnews : ∀ j u, (wtsCells ws)[j]? = some u → w.cell? (a.add j) = some u := fun j u hu => by
      obtain ⟨b, off, e, hlt, -, hc⟩ := hl (by rintro h; rw [h] at hu; simp at hu)
      cases e
      rw [addr_add]
      exact hc j u hu
    obtain ⟨v', w', hr, h2, h3, h4, -⟩ := run_append_own_at (P := Try.prog) w base 32 ty 50 i0 _ 2 24 Try.underlying32 hi hz0 hz1 hz2 rfl (by decide) (.slice none 0 0) 0 [] hnil a ws.length wc (wtsCells ws) (wtsCells_len ws) hnews (wts_one ws) (by unfold maxLen; omega) (by omega) hb
    refine ⟨v', w', hr, by unfold OwnW; simpa using h2, ⟨h3.os, h3.tape, h3.output, h3.size, fun k hk => h3.block k hk (by intro e; cases e)⟩, fun e => ?_⟩
    rw [h4.2 ⟨rfl, e⟩]; rfl
theorem ownW_same {w : World} {base : Nat} {u v : Value} {ws : List (Int × ByteArray)} (hu : OwnW w base u ws) (hv : OwnW w base v ws) {g : Nat} (eu : u.ownBlock = some g) (ev : v.ownBlock = some g) : u = v := by
  rcases hu.2 with ⟨rfl, _⟩ | ⟨g1, c1, cur1, rfl, _, hb1, _, _, hs1, _⟩
  · cases eu
  rcases hv.2 with ⟨rfl, _⟩ | ⟨g2, c2, cur2, rfl, _, hb2, _, _, hs2, _⟩
  · cases ev
  obtain rfl : g1 = g := Option.some.inj eu
  obtain rfl : g2 = g1 := Option.some.inj ev
  rw [hb1] at hb2
  obtain rfl : cur1 = cur2 := by injection (Option.some.inj hb2)
  obtain rfl : c1 = c2 := by omega
  rfl
/-- One write more, behind those that wait: all that lay in other blocks, and those that were there, stay. -/
theorem snoc_waits (w : World) (ty : TypeId) (base : Nat) (hb : base ≤ w.heap.size) (v : Value) (ws : List (Int × ByteArray)) (x : Int × ByteArray) (hO : OwnW w base v ws) (h0 : ws.length = 0 → v.ownBlock = none) (hf : ws.length ≤ 1000000)
    (g c : Nat) (hx : ∀ j u, (wtCells x)[j]? = some u → w.cell? ⟨g, j, none⟩ = some u) :
    ∃ v' w', (Builtin.append_ #[32, 32] ty #[v, .slice (some ⟨g, 0, none⟩) 1 c]).run Try.prog w = .ok v' w' ∧ OwnW w' base v' (ws ++ [x]) ∧ Below base w w' ∧ (∀ u, OwnW w base u ws → OwnW w' base u ws) ∧ (∀ g', (∀ j u, (wtCells x)[j]? = some u → w.cell? ⟨g', j, none⟩ = some u) → ∀ j u, (wtCells x)[j]? = some u → w'.cell? ⟨g', j, none⟩ = some u) := by
  obtain ⟨i0, hi, hz0, hz1, hz2⟩ := info_parts infoWait
  obtain ⟨v', w', hr, h2, h3, h4, h5⟩ := run_append_keeps (P := Try.prog) w base 32 ty 50 i0 _ 2 24 Try.underlying32 hi hz0 hz1 hz2 rfl (by decide) v ws.length (wtsCells ws) hO ⟨g, 0, none⟩ 1 c (wtCells x) rfl (fun j u hu => by rw [addr_add, Nat.zero_add]; exact hx j u hu) (wt_one x) (by unfold maxLen; omega) (by omega) hb
  refine ⟨v', w', hr, by unfold OwnW; rw [wtsCells_snoc]; simpa using h2, (Below.refl _ _).grown h3 hb (fun k e => (World.ownsRow.lt hO k e).1), fun u hu => ?_, fun g hx j u hu => ?_⟩
  · by_cases e : v.ownBlock = u.ownBlock ∧ v.ownBlock ≠ none
    · obtain ⟨g, hg⟩ := Option.ne_none_iff_exists'.1 e.2
      rw [ownW_same hu hO (e.1.symm.trans hg) hg]
      exact h5
    · refine World.ownsRow.kept hu h3 ?_
      cases hv : u.ownBlock with
      | none => exact .inl rfl
      | some k => exact .inr (fun e2 => e ⟨e2.symm.trans hv.symm, by rw [← e2]; simp⟩)
  have hc := hx j u hu
  by_cases e : v.ownBlock = some g
  · have hpos : 0 < ws.length := by
      rcases Nat.eq_zero_or_pos ws.length with e0 | e0
      · rw [h0 e0] at e; cases e
      · exact e0
    have hj : j < 2 := by have := (List.getElem?_eq_some_iff.1 hu).1; simpa [wtCells] using this
    obtain ⟨u', hu'⟩ : ∃ u', (wtsCells ws)[j]? = some u' := ⟨_, List.getElem?_eq_getElem (by rw [wtsCells_len]; omega)⟩
    rcases hO.2 with ⟨rfl, _⟩ | ⟨g', cap, cur, rfl, hr3⟩
    · cases e
    · obtain rfl : g' = g := Option.some.inj e
      have c1 := World.ownsRow.cells hO (g := g') rfl j u' hu'
      have c2 := World.ownsRow.cells h5 (g := g') rfl j u' hu'
      rw [addr_add, Nat.zero_add] at c1 c2
      rw [c2, ← c1, hc]
  · exact h3.cell hc (fun e2 => e e2.symm)
theorem set6_heap {w : World} {g : Nat} {a0 a1 a2 a3 a4 a5 : Value} {t : TypeId} (v0 v1 v2 v3 v4 v5 : Value) (h : w.heap[g]? = some (.cells #[a0, a1, a2, a3, a4, a5] t (0, 0))) :
    ((((((w.setCell ⟨g, 0, none⟩ v0).setCell ⟨g, 1, none⟩ v1).setCell ⟨g, 2, none⟩ v2).setCell ⟨g, 3, none⟩ v3).setCell ⟨g, 4, none⟩ v4).setCell ⟨g, 5, none⟩ v5).heap[g]? = some (.cells #[v0, v1, v2, v3, v4, v5] t (0, 0)) := by
  have h0 := heap_setCell_same w g 0 _ _ v0 h
  have h1 := heap_setCell_same _ g 1 _ _ v1 h0
  have h2 := heap_setCell_same _ g 2 _ _ v2 h1
  have h3 := heap_setCell_same _ g 3 _ _ v3 h2
  have h4 := heap_setCell_same _ g 4 _ _ v4 h3
  have h5 := heap_setCell_same _ g 5 _ _ v5 h4
  rw [h5]; rfl
theorem one_grown (w : World) (p : Addr) (v : Value) : w.grownBy (w.setCell p v) (some p.block) :=
  ⟨rfl, rfl, rfl, by simp [World.setCell], fun i _ hne => Below.heap_setCell w p v i (fun e => hne (by rw [e]))⟩
theorem set6_grown (w : World) (g : Nat) (v0 v1 v2 v3 v4 v5 : Value) :
    w.grownBy ((((((w.setCell ⟨g, 0, none⟩ v0).setCell ⟨g, 1, none⟩ v1).setCell ⟨g, 2, none⟩ v2).setCell ⟨g, 3, none⟩ v3).setCell ⟨g, 4, none⟩ v4).setCell ⟨g, 5, none⟩ v5) (some g) :=
  World.grownBy.trans (World.grownBy.trans (World.grownBy.trans (World.grownBy.trans (World.grownBy.trans (one_grown w ⟨g, 0, none⟩ v0) (one_grown _ ⟨g, 1, none⟩ v1)) (one_grown _ ⟨g, 2, none⟩ v2)) (one_grown _ ⟨g, 3, none⟩ v3)) (one_grown _ ⟨g, 4, none⟩ v4)) (one_grown _ ⟨g, 5, none⟩ v5)
end Go.Proofs.Ytkophpipehdkmaa

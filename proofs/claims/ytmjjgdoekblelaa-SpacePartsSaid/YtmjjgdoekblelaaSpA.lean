/- Layer 7's space as plain data and in memory; the contracts of its small calls. -/
import Derived.WalkKit
import Derived.Outline
import Derived.BigQuiet
import Derived.LoopTactic
import Derived.Lib.Hide
import Derived.Carry
import Derived.Deep.QuietTactic
import Derived.Maps.RangeWalk
import Derived.Shelf.SlMaps.Clone
import Derived.Test.YtmjjgdoekblelaaIntMap
import Derived.Test.YtmjjgdoekblelaaProg
namespace Go.Proofs.Ytmjjgdoekblelaa
open Go.RowKit Go.Maps

/-- What pages that are not kept are: 2 new, 3 held, 4 free. -/
abbrev Pl := Nat → Option Nat
structure Spc where
  most : Nat
  lhigh : Nat
  high : Nat
  last : Pl
  now : Pl
structure Spc.Ok (s : Spc) : Prop where
  most_hi : s.most ≤ 4096
  lo : 2 ≤ s.lhigh
  lh : s.lhigh ≤ s.high
  hi : s.high ≤ s.most
  now_ : ∀ k p, s.now k = some p → 2 ≤ k ∧ k < s.high ∧ (p = 2 ∨ p = 3 ∨ p = 4)
  last_ : ∀ k p, s.last k = some p → 2 ≤ k ∧ k < s.lhigh ∧ p = 4
def plV (f : Pl) : Nat → Option Value := fun k => (f k).map fun p => .int .i64 p
def isP (high : Nat) (now : Pl) (p : Int) : Nat := if 2 ≤ p ∧ p < high then (now p.toNat).getD 1 else 0
def Spc.is (s : Spc) (p : Int) : Nat := isP s.high s.now p
def plPut (f : Pl) (k p : Nat) : Pl := fun j => if j = k then some p else f j
theorem plV_put (f : Pl) (k p : Nat) : putAt (plV f) k (.int .i64 p) = plV (plPut f k p) := by
  funext j; unfold putAt plV plPut; split <;> rfl

/-- All that lay is as it was, but for some blocks. -/
structure Beside (S : List Nat) (w w' : World) : Prop where
  os : w'.os = w.os
  tape : w'.tape = w.tape
  output : w'.output = w.output
  size : w.heap.size ≤ w'.heap.size
  block : ∀ k, k < w.heap.size → k ∉ S → w'.heap[k]? = w.heap[k]?
theorem Beside.refl (S : List Nat) (w : World) : Beside S w w := ⟨rfl, rfl, rfl, Nat.le_refl _, fun _ _ _ => rfl⟩
theorem Beside.trans {S S' : List Nat} {a b c : World} (h : Beside S a b) (k : Beside S' b c) (hS : ∀ j ∈ S', j ∈ S ∨ a.heap.size ≤ j) : Beside S a c :=
  ⟨k.os.trans h.os, k.tape.trans h.tape, k.output.trans h.output, Nat.le_trans h.size k.size, fun j hj hn => by
    rw [k.block j (Nat.lt_of_lt_of_le hj h.size) (fun hm => by rcases hS j hm with h' | h'; exact hn h'; omega), h.block j hj hn]⟩
theorem Beside.grown {S : List Nat} {a w w' : World} {row : Option Nat} (h : Beside S a w) (hg : w.grownBy w' row) (hr : ∀ k, row = some k → k ∈ S ∨ a.heap.size ≤ k) : Beside S a w' :=
  ⟨hg.os.trans h.os, hg.tape.trans h.tape, hg.output.trans h.output, Nat.le_trans h.size hg.size, fun j hj hn => by
    rw [hg.block j (Nat.lt_of_lt_of_le hj h.size) (fun e => by rcases hr j e.symm with h' | h'; exact hn h'; omega), h.block j hj hn]⟩
theorem Beside.alloc {S : List Nat} {a w : World} (h : Beside S a w) (o : Obj) : Beside S a (w.alloc o) := h.grown (World.grownBy_alloc w o none) (fun k e => by cases e)
theorem Beside.setCell {S : List Nat} {a w : World} (h : Beside S a w) {p : Addr} (hp : p.block ∈ S) (u : Value) : Beside S a (w.setCell p u) :=
  h.grown (row := some p.block) ⟨rfl, rfl, rfl, by simp [World.setCell], fun i _ hne => Below.heap_setCell w p u i (fun e => hne (by rw [e]))⟩ (fun k e => by cases e; exact .inl hp)
theorem Beside.drew {S : List Nat} {a w : World} (h : Beside S a w) : Beside S a w.drew := ⟨h.os, h.tape, h.output, h.size, h.block⟩
theorem Beside.below {S : List Nat} {a w : World} (h : Beside S a w) {n : Nat} (hn : n ≤ a.heap.size) (hS : ∀ k ∈ S, n ≤ k) : Below n a w :=
  ⟨h.os, h.tape, h.output, h.size, fun k hk => h.block k (by omega) (fun hm => by have := hS k hm; omega)⟩
theorem Beside.of_below {a w : World} (h : Below a.heap.size a w) (S : List Nat) : Beside S a w := ⟨h.os, h.tape, h.output, h.size, fun k hk _ => h.block k hk⟩

abbrev ptr (B : Nat) : Value := .pointer (some ⟨B, 0, none⟩)
def spCells (lh : Nat) (vl : Value) (m h bp : Nat) : Array Value := #[.int .i64 lh, vl, .int .i64 m, .int .i64 h, .map (some bp)]
/-- A space's own cells. -/
def SpRow (w : World) (B lh : Nat) (vl : Value) (m h bp : Nat) : Prop := w.heap[B]? = some (.cells (spCells lh vl m h bp) 59 (0, 0))
section
variable {w : World} {B lh m h bp : Nat} {vl : Value}
theorem SpRow.lt (r : SpRow w B lh vl m h bp) : B < w.heap.size := (Array.getElem?_eq_some_iff.1 r).1
theorem SpRow.cell (r : SpRow w B lh vl m h bp) (i : Nat) : w.cell? ⟨B, i, none⟩ = (spCells lh vl m h bp)[i]? := cell_of_row w B i _ _ _ r
theorem SpRow.frozen (r : SpRow w B lh vl m h bp) (i : Nat) : w.frozen? ⟨B, i, none⟩ = false := frozen_of_row w B i _ _ r
theorem SpRow.ne_map (r : SpRow w B lh vl m h bp) {b : Nat} {f : Nat → Option Value} {kT : TypeId} (hm : IntMap Try.prog kT w b f) : B ≠ b := fun e => by
  obtain ⟨D, ⟨es, clock, hb, _⟩, _⟩ := hm
  have hc : w.heap[B]? = _ := r
  rw [e, hb] at hc; cases hc
end
theorem fieldS_0 (B : Nat) (w : World) : (Instr.fieldAt 59 (ptr B) 0).run Try.prog w = .ok (ptr B) w := by simp [go_sem]
theorem fieldS_1 (B : Nat) (w : World) : (Instr.fieldAt 59 (ptr B) 1).run Try.prog w = .ok (.pointer (some ⟨B, 2, none⟩)) w := by simp [go_sem]
theorem fieldS_2 (B : Nat) (w : World) : (Instr.fieldAt 59 (ptr B) 2).run Try.prog w = .ok (.pointer (some ⟨B, 3, none⟩)) w := by simp [go_sem]
theorem fieldS_3 (B : Nat) (w : World) : (Instr.fieldAt 59 (ptr B) 3).run Try.prog w = .ok (.pointer (some ⟨B, 4, none⟩)) w := by simp [go_sem]
theorem fieldW_0 (B : Nat) (w : World) : (Instr.fieldAt 57 (ptr B) 0).run Try.prog w = .ok (ptr B) w := by simp [go_sem]
theorem fieldW_1 (B : Nat) (w : World) : (Instr.fieldAt 57 (ptr B) 1).run Try.prog w = .ok (.pointer (some ⟨B, 1, none⟩)) w := by simp [go_sem]

theorem there_yes {w : World} {B lh m h bp : Nat} {vl : Value} (r : SpRow w B lh vl m h bp) (hm : 0 < m) :
    Calls Try.prog 25 #[ptr B] w fun e w' => e = .returned (.bool true) ∧ w = w' := by
  have h2 : w.cell? ⟨B, 2, none⟩ = some (.int .i64 m) := r.cell 2
  go_enter Try.func25, Try.ntmps25
  go_wp2
  go_ret
  exact ⟨rfl, rfl⟩
theorem high_yes {w : World} {B lh m h bp : Nat} {vl : Value} (r : SpRow w B lh vl m h bp) (hm : 0 < m) :
    Calls Try.prog 8 #[ptr B] w fun e w' => e = .returned (.int .i64 h) ∧ w = w' := by
  have ht := there_yes r hm
  have h3 : w.cell? ⟨B, 3, none⟩ = some (.int .i64 h) := r.cell 3
  go_enter Try.func8, Try.ntmps8
  go_wp2_with (go_at_call 25; refine ht.mono ?_; rintro e w' ⟨rfl, rfl⟩)
  go_ret
  exact ⟨rfl, rfl⟩
theorem zero_pl (w : World) : (zeroValue 32).run Try.prog w = .ok (.int .i64 0) w := by simp [go_sem]
theorem is_yes {w : World} {B lh m h bp : Nat} {vl : Value} {now : Pl} (r : SpRow w B lh vl m h bp) (hm : 0 < m) (hn : IntMap Try.prog 2 w bp (plV now)) (p : Int) (hh : h ≤ 4096) :
    Calls Try.prog 9 #[ptr B, .int .i64 p] w fun e w' => e = .returned (.int .i64 (isP h now p)) ∧ w = w' := by
  have ht := high_yes r hm
  have h3 : w.cell? ⟨B, 4, none⟩ = some (.map (some bp)) := r.cell 4
  by_cases h0 : p < 2
  · have e0 : isP h now p = 0 := by unfold isP; rw [if_neg (by omega)]
    rw [e0]
    go_enter Try.func9, Try.ntmps9
    go_wp2
    go_ret
    exact ⟨rfl, rfl⟩
  · by_cases h1 : (h : Int) ≤ p
    · have e0 : isP h now p = 0 := by unfold isP; rw [if_neg (by omega)]
      rw [e0]
      go_enter Try.func9, Try.ntmps9
      go_wp2_with (go_at_call 8; refine ht.mono ?_; rintro e w' ⟨rfl, rfl⟩)
      go_ret
      exact ⟨rfl, rfl⟩
    · obtain ⟨k, rfl⟩ : ∃ k : Nat, p = k := ⟨p.toNat, by omega⟩
      have e0 : isP h now k = (now k).getD 1 := by unfold isP; rw [if_pos (by omega)]; rfl
      rw [e0]
      have hl := fun c => hn.look Try.underlying2 Try.underlying55 zero_pl k (by omega) c
      cases hk : now k with
      | none =>
        have hv : plV now k = none := by unfold plV; rw [hk]; rfl
        rw [hv] at hl
        have hl1 := hl true
        simp only [if_true, Option.getD_none, Option.isSome_none] at hl1
        clear hl
        go_enter Try.func9, Try.ntmps9
        go_wp2_with (go_at_call 8; refine ht.mono ?_; rintro e w' ⟨rfl, rfl⟩)
        go_ret
        exact ⟨rfl, rfl⟩
      | some q =>
        have hv : plV now k = some (.int .i64 q) := by unfold plV; rw [hk]; rfl
        rw [hv] at hl
        have hl1 := hl true
        simp only [if_true, Option.getD_some, Option.isSome_some] at hl1
        clear hl
        go_enter Try.func9, Try.ntmps9
        go_wp2_with (go_at_call 8; refine ht.mono ?_; rintro e w' ⟨rfl, rfl⟩)
        go_ret
        exact ⟨rfl, rfl⟩
/-- maps.Clone: a new block with the same entries. -/
theorem clone_pl {w : World} {b : Nat} {f : Nat → Option Value} (h : IntMap Try.prog 2 w b f) :
    Calls Try.prog 31 #[.map (some b)] w fun e w' => e = .returned (.map (some w.heap.size)) ∧ IntMap Try.prog 2 w' w.heap.size f ∧ Below w.heap.size w w' ∧ w'.heap.size = w.heap.size + 1 := by
  obtain ⟨es, clock, hb, hnew⟩ := h.copied
  have hq := fun w => run_eql_map_nil_sl (P := Try.prog) w 55 _ _ (some b) Try.underlying55
  have HN := Lib.hid hnew
  clear hnew
  go_enter Try.func31, Try.ntmps31
  go_wp2
  rw [run_callFunc_extern Try.func41 (by kernel_rfl) (by kernel_rfl) (by kernel_rfl) (e := Extern.MapsClone.clone) (by kernel_rfl), run_maps_clone_sl w 55 hb]
  simp only [Result.andThen]
  rw [Oper.upon_value]
  go_wp2
  rw [run_typeAssert_map_sl _ 55 20 _ _ _ Try.underlying55]
  simp only [Result.andThen]
  rw [Oper.upon_value]
  go_wp2
  go_ret
  exact ⟨rfl, HN.out, (Below.refl _ w).alloc (Nat.le_refl _) _, by simp⟩
end Go.Proofs.Ytmjjgdoekblelaa

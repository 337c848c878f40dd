/- Layer 3: a writer in memory, and the contracts of its calls. -/
import Derived.ScopeJumps
import Derived.WalkMore
import Derived.Deep.QuietTactic
import Derived.Test.YtaceebgcaghocaaWireB
namespace Go.Proofs.Ytaceebgcaghocaa
open Go.RowKit

/-- Two blocks are turned at most: one that is named, and a slice's own; where the slice lies then. -/
structure Goes2 (w w' : World) (B : Nat) (v v' : Value) : Prop where
  os : w'.os = w.os
  tape : w'.tape = w.tape
  output : w'.output = w.output
  size : w.heap.size ≤ w'.heap.size
  block : ∀ k, k < w.heap.size → k ≠ B → some k ≠ v.ownBlock → w'.heap[k]? = w.heap[k]?
  near : v'.ownBlock = v.ownBlock ∨ ∃ g, v'.ownBlock = some g ∧ w.heap.size ≤ g
theorem Goes2.refl (w : World) (B : Nat) (v : Value) : Goes2 w w B v v := ⟨rfl, rfl, rfl, Nat.le_refl _, fun _ _ _ _ => rfl, .inl rfl⟩
theorem Goes2.of_below {w w' : World} (B : Nat) (v : Value) (h : Below w.heap.size w w') : Goes2 w w' B v v := ⟨h.os, h.tape, h.output, h.size, fun k hk _ _ => h.block k hk, .inl rfl⟩
theorem Goes2.trans {a b c : World} {B : Nat} {v v1 v2 : Value} (h : Goes2 a b B v v1) (k : Goes2 b c B v1 v2) : Goes2 a c B v v2 := by
  refine ⟨k.os.trans h.os, k.tape.trans h.tape, k.output.trans h.output, Nat.le_trans h.size k.size, fun i hi hB hne => ?_, ?_⟩
  · have h1 : some i ≠ v1.ownBlock := by
      rcases h.near with e | ⟨g, e, hg⟩
      · rw [e]; exact hne
      · rw [e]; intro e2; cases e2; omega
    exact (k.block i (Nat.lt_of_lt_of_le hi h.size) hB h1).trans (h.block i hi hB hne)
  · rcases k.near with e | ⟨g, e, hg⟩
    · rcases h.near with e2 | ⟨g, e2, hg⟩
      · exact .inl (e.trans e2)
      · exact .inr ⟨g, e.trans e2, hg⟩
    · exact .inr ⟨g, e, Nat.le_trans h.size hg⟩
theorem Goes2.below {n₀ : Nat} {w w' : World} {B : Nat} {v v' : Value} (h : Goes2 w w' B v v') (hn : n₀ ≤ w.heap.size) (hB : n₀ ≤ B) (hv : ∀ k, v.ownBlock = some k → n₀ ≤ k) : Below n₀ w w' :=
  ⟨h.os, h.tape, h.output, h.size, fun k hk => h.block k (by omega) (by omega) (fun e => by have := hv k e.symm; omega)⟩

/-- Block B is a writer that has these bytes, all of it from block n₀ on. -/
structure IsWr (n₀ : Nat) (w : World) (B : Nat) (v : Value) (l : List UInt8) : Prop where
  cells : w.heap[B]? = some (.cells #[.bool true, v] 87 (0, 0))
  own : OwnB w n₀ v l
  lo : n₀ ≤ B
  len : l.length ≤ 65536

section
variable {n₀ : Nat} {w : World} {B : Nat} {v : Value} {l : List UInt8}
theorem IsWr.lt (h : IsWr n₀ w B v l) : B < w.heap.size := (Array.getElem?_eq_some_iff.1 h.cells).1
theorem IsWr.n_le (h : IsWr n₀ w B v l) : n₀ ≤ w.heap.size := Nat.le_trans h.lo (Nat.le_of_lt h.lt)
theorem IsWr.cell0 (h : IsWr n₀ w B v l) : w.cell? ⟨B, 0, none⟩ = some (.bool true) := cell_of_row w B 0 _ _ _ h.cells
theorem IsWr.cell1 (h : IsWr n₀ w B v l) : w.cell? ⟨B, 1, none⟩ = some v := cell_of_row w B 1 _ _ _ h.cells
theorem IsWr.frozen (h : IsWr n₀ w B v l) (i : Nat) : w.frozen? ⟨B, i, none⟩ = false := frozen_of_row w B i _ _ h.cells
theorem own_block {v : Value} {l : List UInt8} (h : OwnB w n₀ v l) (g : Nat) (hg : v.ownBlock = some g) : ∃ cs, w.heap[g]? = some (.cells cs 5 (0, 0)) := by
  rcases h.2 with ⟨rfl, _⟩ | ⟨g', cap, cur, rfl, _, hh, _⟩
  · cases hg
  · cases hg; exact ⟨cur, hh⟩
theorem IsWr.ne (h : IsWr n₀ w B v l) : some B ≠ v.ownBlock := fun e => by
  obtain ⟨cs, hb⟩ := own_block h.own B e.symm
  rw [h.cells] at hb; cases hb
theorem IsWr.kept {w' : World} {row : Option Nat} (h : IsWr n₀ w B v l) (hg : w.grownBy w' row) (h1 : some B ≠ row) (h2 : v.ownBlock = none ∨ v.ownBlock ≠ row) : IsWr n₀ w' B v l :=
  ⟨(hg.block B h.lt h1).trans h.cells, World.ownsRow.kept h.own hg h2, h.lo, h.len⟩
theorem IsWr.below {w' : World} (h : IsWr n₀ w B v l) (hb : Below w.heap.size w w') : IsWr n₀ w' B v l :=
  h.kept (below_grown hb) (by simp) (by cases v.ownBlock <;> simp)
theorem IsWr.mono {n₁ : Nat} (h : IsWr n₀ w B v l) (hn : n₁ ≤ n₀) : IsWr n₁ w B v l := by
  refine ⟨h.cells, ⟨h.own.1, ?_⟩, Nat.le_trans hn h.lo, h.len⟩
  rcases h.own.2 with e | ⟨g, cap, cur, e, hb, r⟩
  · exact .inl e
  · exact .inr ⟨g, cap, cur, e, Nat.le_trans hn hb, r⟩
/-- What a call of the writer leaves: its result; the writer. -/
def WrPost (n₀ : Nat) (w : World) (B : Nat) (v : Value) (r : Nat × List UInt8) (e : Ending) (w' : World) : Prop :=
  e = .returned (.int .i64 r.1) ∧ ∃ v', IsWr n₀ w' B v' r.2 ∧ Goes2 w w' B v v'
theorem wr_same {r : Nat} (h : IsWr n₀ w B v l) : WrPost n₀ w B v (r, l) (.returned (.int .i64 r)) w := ⟨rfl, v, h, Goes2.refl _ _ _⟩
theorem wr_cells {w1 : World} {v1 : Value} (h : IsWr n₀ w B v l) (hG : Goes w w1 v v1) : w1.cell? ⟨B, 1, none⟩ = some v ∧ w1.frozen? ⟨B, 1, none⟩ = false := by
  have hc : w1.heap[B]? = some (.cells #[.bool true, v] 87 (0, 0)) := (hG.grown.block B h.lt h.ne).trans h.cells
  exact ⟨cell_of_row w1 B 1 _ _ _ hc, frozen_of_row w1 B 1 _ _ hc⟩
/-- The new slice is stored into the writer. -/
theorem wr_store {w1 : World} {v1 : Value} {l1 : List UInt8} (h : IsWr n₀ w B v l) (hO : OwnB w1 n₀ v1 l1) (hG : Goes w w1 v v1) (hl : l1.length ≤ 65536) : WrPost n₀ w B v (0, l1) (.returned (.int .i64 0)) (w1.setCell ⟨B, 1, none⟩ v1) := by
  have hc : w1.heap[B]? = some (.cells #[.bool true, v] 87 (0, 0)) := (hG.grown.block B h.lt h.ne).trans h.cells
  have hg : w1.grownBy (w1.setCell ⟨B, 1, none⟩ v1) (some B) := ⟨rfl, rfl, rfl, by simp [World.setCell], fun i _ hne => Below.heap_setCell w1 ⟨B, 1, none⟩ v1 i (fun e => hne (by rw [e]))⟩
  refine ⟨rfl, v1, ⟨?_, World.ownsRow.kept hO hg (.inr fun e => ?_), h.lo, hl⟩, ⟨hG.grown.os, hG.grown.tape, hG.grown.output, Nat.le_trans hG.grown.size hg.size, fun k hk hB hv => ?_, hG.near⟩⟩
  · rw [heap_setCell_same w1 B 1 _ _ v1 hc]; rfl
  · obtain ⟨cs, hb⟩ := own_block hO B e
    rw [hc] at hb; cases hb
  · exact (hg.block k (Nat.lt_of_lt_of_le hk hG.grown.size) (fun e => hB (Option.some.inj e))).trans (hG.grown.block k hk hv)
end
abbrev wptr (B : Nat) : Value := .pointer (some ⟨B, 0, none⟩)

theorem newWriter_any (w : World) : Calls Try.prog 20 #[] w fun e w' => e = .returned (wptr w.heap.size) ∧ IsWr w.heap.size w' w.heap.size (.slice none 0 0) [] ∧ Below w.heap.size w w' := by
  go_enter Try.func20, Try.ntmps20
  go_wp2
  go_ret
  exact ⟨rfl, ⟨heap_alloc_new w _, OwnB.nil _ _, Nat.le_refl _, by simp⟩, (Below.refl _ _).alloc (Nat.le_refl _) _⟩
section
variable {n₀ : Nat} {w : World} {B : Nat} {v : Value} {l : List UInt8}
theorem wthere_any (h : IsWr n₀ w B v l) : Calls Try.prog 35 #[wptr B] w fun e w' => e = .returned (.bool true) ∧ w = w' := by
  have hc := h.cell0
  go_enter Try.func35, Try.ntmps35
  go_wp2
  go_ret
  exact ⟨rfl, rfl⟩
theorem wtakes_any (h : IsWr n₀ w B v l) (n : Nat) : Calls Try.prog 37 #[wptr B, .int .i64 n] w fun e w' => e = .returned (.bool (decide (l.length + n ≤ 65536))) ∧ w = w' := by
  have hc := h.cell1
  obtain ⟨ao, cap, rfl, -, -, -, -, -⟩ := h.own.form
  have hl := h.len
  have hd : decide (l.length + n ≤ 65536) = decide ((n : Int) ≤ 65536 - (l.length : Int)) := by
    apply decide_eq_decide.2; omega
  rw [hd]
  clear hd h
  go_enter Try.func37, Try.ntmps37
  go_wp2
  go_ret
  exact ⟨rfl, rfl⟩
theorem sized_any (k : Int) : Calls Try.prog 36 #[.int .i64 k] w fun e w' => e = .returned (.bool (decide (1 ≤ k ∧ k ≤ 8))) ∧ w = w' := by
  by_cases h1 : 1 ≤ k
  · rw [show decide (1 ≤ k ∧ k ≤ 8) = decide (k ≤ 8) by simp [h1]]
    go_enter Try.func36, Try.ntmps36
    go_wp2
    go_ret
    exact ⟨rfl, rfl⟩
  · rw [show decide (1 ≤ k ∧ k ≤ 8) = false by simp [h1]]
    go_enter Try.func36, Try.ntmps36
    go_wp2
    go_ret
    exact ⟨rfl, rfl⟩
end

set_option maxRecDepth 100000 in
/-- slices.Clone of bytes: bytes that lie anywhere; the clone is the call's own. -/
theorem clone_wire (w : World) (ao : Option Addr) (l : List UInt8) (cap n₁ : Nat) (hm : BytesAt n₁ w ao l) (hnone : ao = none → cap = 0) (hle : l.length ≤ cap) (hl : l.length ≤ 1000000) :
    Calls Try.prog 39 #[.slice ao l.length cap] w fun e w' => ∃ v', e = .returned v' ∧ OwnB w' w.heap.size v' l ∧ Below w.heap.size w w' := by
  cases ao with
  | none =>
    obtain rfl := hnone rfl
    obtain rfl : l = [] := List.eq_nil_of_length_eq_zero (by omega)
    have he : ∀ w : World, (binOp .eql 23 (.slice none 0 0) (.slice none 0 0)).run Try.prog w = .ok (.bool true) w := fun _ => rfl
    go_enter Try.func39, Try.ntmps39
    go_wp2
    go_ret
    exact ⟨_, rfl, OwnB.nil _ _, Below.refl _ _⟩
  | some ad =>
    have O0 : OwnB (w.alloc (.cells #[] 5)) w.heap.size (.slice (some ⟨w.heap.size, 0, none⟩) 0 0) [] := World.ownsRow_made w #[] 0 (Nat.le_refl _) (by simp) rfl
    have he : ∀ w : World, (binOp .eql 23 (.slice (some ad) l.length cap) (.slice none 0 0)).run Try.prog w = .ok (.bool false) w := fun _ => rfl
    have hq : ([] : List UInt8).length + l.length ≤ 1099511627776 := by simp; omega
    have hm2 : BytesAt (max n₁ w.heap.size) (w.alloc (.cells #[] 5)) (some ad) l := fun hne => by
      obtain ⟨b, off, e, hb, hc⟩ := hm hne
      refine ⟨b, off, e, by omega, fun j hj => ?_⟩
      have := hc j hj
      exact ((below_grown ((Below.refl w.heap.size w).alloc (Nat.le_refl _) (.cells #[] 5))).cell this (by simp))
    go_enter Try.func39, Try.ntmps39
    go_wp2_with (at_builtin; refine wpList_append_goes rfl _ _ rfl w.heap.size _ _ [] rfl O0 ad l cap rfl hm2 hq (by simp) ?_; intro v' w' O' G' _)
    go_ret
    refine ⟨_, rfl, by simpa using O', ?_⟩
    exact G'.alloc.below (Nat.le_refl _) (fun k e => by cases e; exact Nat.le_refl _)
theorem wbytes_any {n₀ : Nat} {w : World} {B : Nat} {v : Value} {l : List UInt8} (h : IsWr n₀ w B v l) : Calls Try.prog 22 #[wptr B] w fun e w' => ∃ v', e = .returned v' ∧ OwnB w' w.heap.size v' l ∧ Below w.heap.size w w' := by
  have hc := h.cell1
  have ht := wthere_any h
  have hl := h.len
  obtain ⟨ao, cap, rfl, hm, h1, h2, h3, -⟩ := h.own.form
  have hcl := clone_wire w ao l cap _ hm h3 h1 (by omega)
  have T := Lib.hid ht
  have C := Lib.hid hcl
  clear ht h hcl hm h3
  go_enter Try.func22, Try.ntmps22
  go_wp2_with (first
    | (go_at_call 35; refine T.out.mono ?_; rintro e w' ⟨rfl, rfl⟩)
    | (go_at_call 39; refine C.out.mono ?_; rintro e w' ⟨v', rfl, hO, hB⟩))
  go_ret
  exact ⟨_, rfl, hO, hB⟩
end Go.Proofs.Ytaceebgcaghocaa

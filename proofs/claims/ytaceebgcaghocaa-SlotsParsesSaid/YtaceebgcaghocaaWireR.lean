/- Layer 3: a reader in memory, and the contracts of its small calls. -/
import Derived.WalkLawsBesides
import Derived.Deep.RegionHeld3
import Derived.Deep.Cut
import Derived.Deep.DeepCutAuto
import Derived.Test.YtaceebgcaghocaaReg
import Derived.Test.YtaceebgcaghocaaWireT
namespace Go.Proofs.Ytaceebgcaghocaa
open Go.RowKit

/-- Block B is a reader of the bytes l that stands ahead of byte i; all of it lies from block n₀ on. -/
structure IsRdAt (n₀ : Nat) (w : World) (B : Nat) (v : Value) (l : List UInt8) (i : Nat) : Prop where
  cells : w.heap[B]? = some (.cells #[.bool true, v, .int .i64 i] 93 (0, 0))
  own : OwnB w n₀ v l
  lo : n₀ ≤ B
  le : i ≤ l.length
  len : l.length ≤ 1000000
/-- Block B is a reader that has the bytes r left. -/
def IsRd (n₀ : Nat) (w : World) (B : Nat) (r : List UInt8) : Prop := ∃ v l i, IsRdAt n₀ w B v l i ∧ r = l.drop i

section
variable {n₀ : Nat} {w : World} {B : Nat} {v : Value} {l : List UInt8} {i : Nat}
theorem IsRdAt.lt (h : IsRdAt n₀ w B v l i) : B < w.heap.size := (Array.getElem?_eq_some_iff.1 h.cells).1
theorem IsRdAt.n_le (h : IsRdAt n₀ w B v l i) : n₀ ≤ w.heap.size := Nat.le_trans h.lo (Nat.le_of_lt h.lt)
theorem IsRdAt.cell0 (h : IsRdAt n₀ w B v l i) : w.cell? ⟨B, 0, none⟩ = some (.bool true) := cell_of_row w B 0 _ _ _ h.cells
theorem IsRdAt.cell1 (h : IsRdAt n₀ w B v l i) : w.cell? ⟨B, 1, none⟩ = some v := cell_of_row w B 1 _ _ _ h.cells
theorem IsRdAt.cell2 (h : IsRdAt n₀ w B v l i) : w.cell? ⟨B, 2, none⟩ = some (.int .i64 i) := cell_of_row w B 2 _ _ _ h.cells
theorem IsRdAt.frozen (h : IsRdAt n₀ w B v l i) (j : Nat) : w.frozen? ⟨B, j, none⟩ = false := frozen_of_row w B j _ _ h.cells
theorem IsRdAt.kept {w' : World} {row : Option Nat} (h : IsRdAt n₀ w B v l i) (hg : w.grownBy w' row) (h1 : some B ≠ row) (h2 : v.ownBlock = none ∨ v.ownBlock ≠ row) : IsRdAt n₀ w' B v l i :=
  ⟨(hg.block B h.lt h1).trans h.cells, World.ownsRow.kept h.own hg h2, h.lo, h.le, h.len⟩
theorem IsRdAt.below {w' : World} (h : IsRdAt n₀ w B v l i) (hb : Below w.heap.size w w') : IsRdAt n₀ w' B v l i :=
  h.kept (below_grown hb) (by simp) (by cases v.ownBlock <;> simp)
theorem IsRdAt.ne (h : IsRdAt n₀ w B v l i) : v.ownBlock ≠ some B := fun e => by
  obtain ⟨cs, hb⟩ := own_block h.own B e
  rw [h.cells] at hb; cases hb
theorem set_grown (w : World) (p : Addr) (x : Value) : w.grownBy (w.setCell p x) (some p.block) :=
  ⟨rfl, rfl, rfl, by simp [World.setCell], fun i _ hne => Below.heap_setCell w p x i (fun e => hne (by rw [e]))⟩
/-- The reader is set to another place. -/
theorem IsRdAt.set (h : IsRdAt n₀ w B v l i) {j : Nat} (hj : j ≤ l.length) : IsRdAt n₀ (w.setCell ⟨B, 2, none⟩ (.int .i64 j)) B v l j := by
  refine ⟨?_, World.ownsRow.kept h.own (set_grown w ⟨B, 2, none⟩ _) (.inr h.ne), h.lo, hj, h.len⟩
  rw [heap_setCell_same w B 2 _ _ (.int .i64 j) h.cells]; rfl

theorem newReader_any (w : World) (ao : Option Addr) (l : List UInt8) (cap n₁ : Nat) (hm : BytesAt n₁ w ao l) (hnone : ao = none → cap = 0) (hle : l.length ≤ cap) (hl : l.length ≤ 1000000) :
    Calls Try.prog 28 #[.slice ao l.length cap] w fun e w' => ∃ B, e = .returned (wptr B) ∧ IsRd w.heap.size w' B l ∧ Below w.heap.size w w' := by
  have C := Lib.hid (clone_wire w ao l cap n₁ hm hnone hle hl)
  clear hm hnone hle
  go_enter Try.func28, Try.ntmps28
  go_wp2_with (go_at_call 39; refine C.out.mono ?_; rintro e w' ⟨v', rfl, hO, hB⟩; have HO := Lib.hid hO; obtain ⟨ao1, cap1, e3, -, -, -, -, -⟩ := hO.form; clear hO; generalize l.length = ll at e3; subst e3)
  go_ret
  refine ⟨_, rfl, ⟨_, l, 0, ⟨heap_alloc_new _ _, HO.out.alloc _, hB.size, Nat.zero_le _, hl⟩, rfl⟩, hB.alloc hB.size _⟩

theorem rthere_any (h : IsRdAt n₀ w B v l i) : Calls Try.prog 42 #[wptr B] w fun e w' => e = .returned (.bool true) ∧ w = w' := by
  have hc := h.cell0
  go_enter Try.func42, Try.ntmps42
  go_wp2
  go_ret
  exact ⟨rfl, rfl⟩
theorem rleft_any (h : IsRdAt n₀ w B v l i) : Calls Try.prog 30 #[wptr B] w fun e w' => e = .returned (.int .i64 (l.length - i : Nat)) ∧ Below w.heap.size w w' := by
  have T := Lib.hid (rthere_any h)
  have hc1 := h.cell1
  have hc2 := h.cell2
  have hle := h.le
  have hlen := h.len
  obtain ⟨ao, cap, rfl, -, -, -, -, -⟩ := h.own.form
  rw [show ((l.length - i : Nat) : Int) = (l.length : Int) - (i : Int) by omega]
  clear h
  go_enter Try.func30, Try.ntmps30
  go_wp2_with (go_at_call 42; refine T.out.mono ?_; rintro e w' ⟨rfl, rfl⟩)
  go_region
  go_wp2
  go_ret
  exact ⟨rfl, (Below.refl _ _).drew⟩
end
end Go.Proofs.Ytaceebgcaghocaa

/- Layer 3: the law's own 'known'. -/
import Derived.Test.YtjfpgclaefbhjaaDoorWireR5
namespace Go.Proofs.YtjfpgclaefbhjaaDoor
open Go.RowKit

section
variable {n₀ : Nat} {w w' : World} {B : Nat} {r : List UInt8}
theorem IsRd.lo (h : IsRd n₀ w B r) : n₀ ≤ B := by obtain ⟨_, _, _, h, _⟩ := h; exact h.lo
theorem IsRd.lt (h : IsRd n₀ w B r) : B < w.heap.size := by obtain ⟨_, _, _, h, _⟩ := h; exact h.lt
theorem IsRd.below (h : IsRd n₀ w B r) (hb : Below w.heap.size w w') : IsRd n₀ w' B r := by obtain ⟨v, l, i, h, e⟩ := h; exact ⟨v, l, i, h.below hb, e⟩
theorem rd_below (h : IsRd n₀ w B r) (hg : w.grownBy w' (some B)) : Below n₀ w w' := (Below.refl n₀ w).grown hg (Nat.le_trans h.lo (Nat.le_of_lt h.lt)) (fun k e => by cases e; exact h.lo)
end
theorem IsRd.mono {n₀ n₁ : Nat} {w : World} {B : Nat} {r : List UInt8} (h : IsRd n₀ w B r) (hn : n₁ ≤ n₀) : IsRd n₁ w B r := by
  obtain ⟨v, l, i, h, e⟩ := h
  refine ⟨v, l, i, ⟨h.cells, ⟨h.own.1, ?_⟩, Nat.le_trans hn h.lo, h.le, h.len⟩, e⟩
  rcases h.own.2 with e | ⟨g, cp, cur, e, hg, r⟩
  · exact .inl e
  · exact .inr ⟨g, cp, cur, e, Nat.le_trans hn hg, r⟩
theorem some_bytes (w : World) (l : List UInt8) : BytesAt (w.heap.size + 1) (w.alloc (.cells (byteVals l).toArray 5)) (some ⟨w.heap.size, 0, none⟩) l := fun _ =>
  ⟨_, 0, rfl, by omega, fun j hj => by
    rw [Nat.zero_add, cell_of_row _ w.heap.size j _ _ _ (heap_alloc_new w _)]
    simp [byteVals, hj]⟩
def kl1 : List UInt8 := (wNum [] 258 3).2
def kl2 : List UInt8 := (wTextS kl1 ⟨#[97, 98]⟩).2
def kl3 : List UInt8 := (wTruth kl2 true).2
theorem kw1 : wNum [] 258 3 = (0, kl1) := by kernel_rfl
theorem kw2 : wTextS kl1 ⟨#[97, 98]⟩ = (0, kl2) := by kernel_rfl
theorem kw3 : wTruth kl2 true = (0, kl3) := by kernel_rfl
theorem kw4 : kl3 = [0, 1, 2, 0, 2, 97, 98, 1] := by kernel_rfl
theorem kr1 : rText [0, 3, 97] = ([], 130, [0, 3, 97]) := by kernel_rfl
theorem kr2 : rNum [0, 3, 97] 2 = (3, 0, [97]) := by kernel_rfl
theorem kr3 : rTruth [97] = (false, 130, [97]) := by kernel_rfl

end Go.Proofs.YtjfpgclaefbhjaaDoor

/- Layer 3: a writer in memory, and the contracts of its calls. -/
import Derived.ScopeJumps
import Derived.WalkMore
import Derived.Deep.QuietTactic
import Derived.Test.YtkophpipehdkmaaWireB
namespace Go.Proofs.Ytkophpipehdkmaa
open Go.RowKit

/-- Two blocks are turned at most: one that is named, and a slice's own; where the slice lies then. -/
structure Goes2 (w w' : World) (B : Nat) (v v' : Value) : Prop where
  os : w'.os = w.os
  tape : w'.tape = w.tape
  output : w'.output = w.output
  size : w.heap.size ≤ w'.heap.size
  block : ∀ k, k < w.heap.size → k ≠ B → some k ≠ v.ownBlock → w'.heap[k]? = w.heap[k]?
  near : v'.ownBlock = v.ownBlock ∨ ∃ g, v'.ownBlock = some g ∧ w.heap.size ≤ g
theorem Goes2.refl (w : World) (B : Nat) (v : Value) : Goes2 w w B v v := ⟨rfl, rfl, rfl, Nat.le_refl _, fun _ _ _ _ => rfl, .inl rfl⟩
theorem Goes2.of_below {w w' : World} (B : Nat) (v : Value) (h : Below w.heap.size w w') : Goes2 w w' B v v := ⟨h.os, h.tape, h.output, h.size, fun k hk _ _ => h.block k hk, .inl rfl⟩
theorem Goes2.trans {a b c : World} {B : Nat} {v v1 v2 : Value} (h : Goes2 a b B v v1) (k : Goes2 b c B v1 v2) : Goes2 a c B v v2 := by
  refine ⟨k.os.trans h.os, k.tape.trans h.tape, k.output.trans h.output, Nat.le_trans h.size k.size, fun i hi hB hne => ?_, ?_⟩
  · have h1 : some i ≠ v1.ownBlock := by
      rcases h.near with e | ⟨g, e, hg⟩
      · rw [e]; exact hne
      · rw [e]; intro e2; cases e2; omega
    exact (k.block i (Nat.lt_of_lt_of_le hi h.size) hB h1).trans (h.block i hi hB hne)
  · rcases k.near with e | ⟨g, e, hg⟩
    · rcases h.near with e2 | ⟨g, e2, hg⟩
      · exact .inl (e.trans e2)
      · exact .inr ⟨g, e.trans e2, hg⟩
    · exact .inr ⟨g, e, Nat.le_trans h.size hg⟩
theorem Goes2.below {n₀ : Nat} {w w' : World} {B : Nat} {v v' : Value} (h : Goes2 w w' B v v') (hn : n₀ ≤ w.heap.size) (hB : n₀ ≤ B) (hv : ∀ k, v.ownBlock = some k → n₀ ≤ k) : Below n₀ w w' :=
  ⟨h.os, h.tape, h.output, h.size, fun k hk => h.block k (by omega) (by omega) (fun e => by have := hv k e.symm; omega)⟩

section
variable {n₀ : Nat} {w : World} {B : Nat} {v : Value} {l : List UInt8}
theorem own_block {v : Value} {l : List UInt8} (h : OwnB w n₀ v l) (g : Nat) (hg : v.ownBlock = some g) : ∃ cs, w.heap[g]? = some (.cells cs 5 (0, 0)) := by
  rcases h.2 with ⟨rfl, _⟩ | ⟨g', cap, cur, rfl, _, hh, _⟩
  · cases hg
  · cases hg; exact ⟨cur, hh⟩
end
abbrev wptr (B : Nat) : Value := .pointer (some ⟨B, 0, none⟩)

section
variable {n₀ : Nat} {w : World} {B : Nat} {v : Value} {l : List UInt8}
end

end Go.Proofs.Ytkophpipehdkmaa

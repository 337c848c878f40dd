/- Rows of bytes that a call made: written, kept. -/
import Derived.Test.YtaceebgcaghocaaWireR5
namespace Go.Proofs.Ytaceebgcaghocaa
open Go.RowKit

theorem OwnB.set {w : World} {base g n cap : Nat} {l : List UInt8} (h : OwnB w base (.slice (some ⟨g, 0, none⟩) n cap) l) (i : Nat) (b : UInt8) :
    OwnB (w.setCell ⟨g, i, none⟩ (.int .u8 (b.toNat : Int))) base (.slice (some ⟨g, 0, none⟩) n cap) (l.set i b) := by
  obtain ⟨hlen, ⟨e, _⟩ | ⟨g', cap', cur, e, hb, hh, hn, hc, hs, ht⟩⟩ := h
  · cases e
  · cases e
    refine ⟨by simp [byteVals], .inr ⟨g, cap, _, by rw [List.length_set], hb, heap_setCell_same w g i cur _ _ hh, by simpa using hn, hc, by simpa using hs, ?_⟩⟩
    rw [Array.toList_setIfInBounds, List.length_set, List.take_set, ht]
    simp [byteVals, List.map_set]
theorem OwnB.below {w w' : World} {base : Nat} {v : Value} {l : List UInt8} (h : OwnB w base v l) (hb : Below w.heap.size w w') : OwnB w' base v l :=
  World.ownsRow.kept h (below_grown hb) (by cases v.ownBlock <;> simp)
theorem OwnB.mono {w : World} {b b' : Nat} {v : Value} {l : List UInt8} (h : OwnB w b v l) (hn : b' ≤ b) : OwnB w b' v l := by
  refine ⟨h.1, ?_⟩
  rcases h.2 with e | ⟨g, cp, cur, e, hg, r⟩
  · exact .inl e
  · exact .inr ⟨g, cp, cur, e, Nat.le_trans hn hg, r⟩
/-- Bytes that lie behind a writer's blocks stay when it writes. -/
theorem OwnB.kept2 {w w' : World} {base B : Nat} {u v v' : Value} {l : List UInt8} (h : OwnB w base u l) (hg : Goes2 w w' B v v') (hB : B < base) (hv : ∀ k, v.ownBlock = some k → k < base) : OwnB w' base u l := by
  refine ⟨h.1, ?_⟩
  rcases h.2 with e | ⟨g, cp, cur, e, hb, hh, r⟩
  · exact .inl e
  · exact .inr ⟨g, cp, cur, e, hb, (hg.block g (Array.getElem?_eq_some_iff.1 hh).1 (by omega) (fun e2 => by have := hv g e2.symm; omega)).trans hh, r⟩
theorem bumped (b : UInt8) : (((UInt8.ofNat (b.toNat + 1)).toNat : Nat) : Int) = ((b.toNat : Int) + 1) % 256 := by
  rw [UInt8.toNat_ofNat']; omega

end Go.Proofs.Ytaceebgcaghocaa

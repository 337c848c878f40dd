/- Layer 7: the law: what each page is behind any calls. -/
import Derived.Test.YtmjjgdoekblelaaSpZd
namespace Go.Proofs.Ytmjjgdoekblelaa
open Go.RowKit

/-- The two spaces tell the same; the document's lies in the law's own variable. -/
structure PlayAt (N : Nat) (w wr : World) (B D : Nat) (s : Spc) (g : GSp) (a1 : Option Addr) (c1 : Nat) (a2 : Option Addr) (c2 : Nat) : Prop where
  sp : IsSp N wr B s
  agr : Agr s g
  isg : IsG wr a1 c1 a2 c2 g
  row : wr.heap[D]? = some (.cells #[.int .i64 g.most, .slice a1 g.now.length c1, .slice a2 g.last.length c2] 40 (0, 0))
  below : Below N w wr
theorem set3_row {w : World} {D : Nat} {x0 x1 x2 : Value} {t : TypeId} {fr : Nat × Nat} (h : w.heap[D]? = some (.cells #[x0, x1, x2] t fr)) : w.cell? ⟨D, 0, none⟩ = some x0 ∧ w.cell? ⟨D, 1, none⟩ = some x1 ∧ w.cell? ⟨D, 2, none⟩ = some x2 :=
  ⟨cell_of_row w D 0 _ _ _ h, cell_of_row w D 1 _ _ _ h, cell_of_row w D 2 _ _ _ h⟩
theorem set3_open {w : World} {D : Nat} {x0 x1 x2 : Value} {t : TypeId} (h : w.heap[D]? = some (.cells #[x0, x1, x2] t (0, 0))) : w.frozen? ⟨D, 0, none⟩ = false ∧ w.frozen? ⟨D, 1, none⟩ = false ∧ w.frozen? ⟨D, 2, none⟩ = false :=
  ⟨frozen_of_row w D 0 _ _ h, frozen_of_row w D 1 _ _ h, frozen_of_row w D 2 _ _ h⟩
/-- Behind a call, ahead of the question whether they tell the same. -/
structure Next (N : Nat) (w W : World) (B D R : Nat) (s' : Spc) (x0 x1 x2 : Value) (g' : GSp) (e1 : Option Addr) (y1 : Nat) (e2 : Option Addr) (y2 : Nat) : Prop where
  sp : IsSp N W B s'
  isg : IsG W e1 y1 e2 y2 g'
  rowR : W.heap[R]? = some (.cells #[.int .i64 g'.most, .slice e1 g'.now.length y1, .slice e2 g'.last.length y2] 40 (0, 0))
  rowD : W.heap[D]? = some (.cells #[x0, x1, x2] 40 (0, 0))
  below : Below N w W
theorem nextA {N : Nat} {w wr w5 : World} {B D : Nat} {s s' : Spc} {g g' : GSp} {a1 a2 e1 e2 : Option Addr} {c1 c2 y1 y2 : Nat} (HP : PlayAt N w wr B D s g a1 c1 a2 c2) (hG : IsG w5 e1 y1 e2 y2 g') (hS : IsSp N w5 B s') (hk : SpKeeps N wr.drew w5) :
    Next N w (w5.alloc (.cells #[.int .i64 g'.most, .slice e1 g'.now.length y1, .slice e2 g'.last.length y2] 40)) B D w5.heap.size s' (.int .i64 g.most) (.slice a1 g.now.length c1) (.slice a2 g.last.length c2) g' e1 y1 e2 y2 := by
  have hb : Below w5.heap.size w5 (w5.alloc (.cells #[.int .i64 g'.most, .slice e1 g'.now.length y1, .slice e2 g'.last.length y2] 40)) := (Below.refl _ _).alloc (Nat.le_refl _) _
  have hk' : SpKeeps N wr w5 := ⟨⟨hk.below.os, hk.below.tape, hk.below.output, hk.below.size, hk.below.block⟩, hk.cells⟩
  have hD := hk'.cells D _ _ _ HP.row (by decide)
  exact ⟨hS.below hb, hG.below hb, (MapKept.heap_alloc w5 _).1, (hb.block D (Array.getElem?_eq_some_iff.1 hD).1).trans hD, (HP.below.trans hk'.below).trans (hb.mono hS.n_le)⟩
theorem nextB {N : Nat} {w wr w5 : World} {B D : Nat} {s s' : Spc} {g g' : GSp} {a1 a2 e1 e2 : Option Addr} {c1 c2 y1 y2 : Nat} {u0 u1 u2 : Value} {Z : Obj} (HP : PlayAt N w wr B D s g a1 c1 a2 c2) (hG : IsG w5 e1 y1 e2 y2 g') (hS : IsSp N w5 B s') (hk : SpKeeps N (wr.alloc Z).drew w5)
    (hR : w5.heap[wr.heap.size]? = some (.cells #[u0, u1, u2] 40 (0, 0))) :
    Next N w (((w5.setCell ⟨wr.heap.size, 0, none⟩ (.int .i64 g'.most)).setCell ⟨wr.heap.size, 1, none⟩ (.slice e1 g'.now.length y1)).setCell ⟨wr.heap.size, 2, none⟩ (.slice e2 g'.last.length y2)) B D wr.heap.size s' (.int .i64 g.most) (.slice a1 g.now.length c1) (.slice a2 g.last.length c2) g' e1 y1 e2 y2 := by
  have hk1 : SpKeeps N (wr.alloc Z) w5 := ⟨⟨hk.below.os, hk.below.tape, hk.below.output, hk.below.size, hk.below.block⟩, hk.cells⟩
  have hk' : SpKeeps N wr w5 := (SpKeeps.of_below ((Below.refl _ _).alloc (Nat.le_refl _) Z) HP.sp.n_le).trans hk1
  have hD := hk'.cells D _ _ _ HP.row (by decide)
  have hlt := (Array.getElem?_eq_some_iff.1 HP.row).1
  exact ⟨hS.set3 hR (by decide) _ _ _, hG.set3 hR (by decide) _ _ _, set3_heap _ _ _ hR, (set3_far _ _ _ _ _ D (by omega)).trans hD, set3_below (HP.below.trans hk'.below) HP.sp.n_le _ _ _⟩
end Go.Proofs.Ytmjjgdoekblelaa

/- Layer 7: the document's space: Give, Take. -/
import Derived.Test.YtmjjgdoekblelaaSpR
namespace Go.Proofs.Ytmjjgdoekblelaa
open Go.RowKit

def GSp.give (g : GSp) (p : Int) : GSp × Nat := if g.is p = 1 then (g.put p.toNat 3, 0) else if g.is p = 2 then (g.put p.toNat 4, 0) else (g, 171)
theorem gis_pos {g : GSp} {p : Int} (hp : g.is p ≠ 0) : ∃ k : Nat, p = k ∧ 2 ≤ k ∧ k < g.now.length := by
  unfold GSp.is at hp
  split at hp
  · exact ⟨p.toNat, by omega, by omega, by omega⟩
  · exact absurd rfl hp
theorem NatsAt.set3 {n₀ : Nat} {W : World} {a : Option Addr} {l : List Nat} (h : NatsAt n₀ W a l) {g : Nat} {a0 a1 a2 : Value} {t : TypeId} (hg : W.heap[g]? = some (.cells #[a0, a1, a2] t (0, 0))) (ht : t ≠ 3) (v0 v1 v2 : Value) :
    NatsAt n₀ (((W.setCell ⟨g, 0, none⟩ v0).setCell ⟨g, 1, none⟩ v1).setCell ⟨g, 2, none⟩ v2) a l :=
  ((h.other hg ht 0 v0).other (heap_setCell_same W g 0 _ _ v0 hg) ht 1 v1).other (heap_setCell_same _ g 1 _ _ v1 (heap_setCell_same W g 0 _ _ v0 hg)) ht 2 v2
theorem IsG.set3 {w : World} {a1 a2 : Option Addr} {c1 c2 : Nat} {g : GSp} (h : IsG w a1 c1 a2 c2 g) {b : Nat} {x0 x1 x2 : Value} {t : TypeId} (hg : w.heap[b]? = some (.cells #[x0, x1, x2] t (0, 0))) (ht : t ≠ 3) (v0 v1 v2 : Value) :
    IsG (((w.setCell ⟨b, 0, none⟩ v0).setCell ⟨b, 1, none⟩ v1).setCell ⟨b, 2, none⟩ v2) a1 c1 a2 c2 g :=
  ⟨(h.now_.set3 hg ht v0 v1 v2).mono (by simp [World.setCell]), (h.last_.set3 hg ht v0 v1 v2).mono (by simp [World.setCell]), h.no1, h.no2, h.le1, h.le2, h.few1, h.few2⟩
/-- A boxed space and a result's variable behind it. -/
structure TwoRows (w0 w : World) (S : Nat) (x : Array Value) : Prop where
  below : Below S w0 w
  box : w.heap[S]? = some (.cells x 40 (0, 0))
  res : w.heap[S + 1]? = some (.cells #[.int .i64 0, .slice none 0 0, .slice none 0 0] 40 (0, 0))
theorem TwoRows.start (w : World) (x : Array Value) : TwoRows w ((w.alloc (.cells x 40)).alloc (.cells #[.int .i64 0, .slice none 0 0, .slice none 0 0] 40)) w.heap.size x :=
  ⟨((Below.refl _ w).alloc (Nat.le_refl _) _).alloc (by simp) _, (Below.heap_alloc _ _ _ (by simp)).trans (MapKept.heap_alloc w _).1, by
    have := (MapKept.heap_alloc (w.alloc (.cells x 40)) (.cells #[.int .i64 0, .slice none 0 0, .slice none 0 0] 40)).1
    rw [World.size_alloc] at this; exact this⟩
theorem TwoRows.step {w0 w w' : World} {S : Nat} {x : Array Value} (h : TwoRows w0 w S x) (hb : Below w.heap.size w w') : TwoRows w0 w' S x := by
  have h1 := (Array.getElem?_eq_some_iff.1 h.box).1
  have h2 := (Array.getElem?_eq_some_iff.1 h.res).1
  exact ⟨h.below.trans (hb.mono (by omega)), (hb.block S h1).trans h.box, (hb.block _ h2).trans h.res⟩
theorem TwoRows.cells {w0 w : World} {S : Nat} {x0 x1 x2 : Value} (h : TwoRows w0 w S #[x0, x1, x2]) : w.cell? ⟨S, 0, none⟩ = some x0 ∧ w.cell? ⟨S, 1, none⟩ = some x1 ∧ w.cell? ⟨S, 2, none⟩ = some x2 ∧ w.frozen? ⟨S, 1, none⟩ = false ∧
    w.cell? ⟨S + 1, 0, none⟩ = some (.int .i64 0) ∧ w.cell? ⟨S + 1, 1, none⟩ = some (.slice none 0 0) ∧ w.cell? ⟨S + 1, 2, none⟩ = some (.slice none 0 0) ∧ w.frozen? ⟨S + 1, 0, none⟩ = false ∧ w.frozen? ⟨S + 1, 1, none⟩ = false ∧ w.frozen? ⟨S + 1, 2, none⟩ = false :=
  ⟨cell_of_row w S 0 _ _ _ h.box, cell_of_row w S 1 _ _ _ h.box, cell_of_row w S 2 _ _ _ h.box, frozen_of_row w S 1 _ _ h.box, cell_of_row w _ 0 _ _ _ h.res, cell_of_row w _ 1 _ _ _ h.res, cell_of_row w _ 2 _ _ _ h.res, frozen_of_row w _ 0 _ _ h.res, frozen_of_row w _ 1 _ _ h.res, frozen_of_row w _ 2 _ _ h.res⟩
/-- What a call leaves that tells a space, stored into the result's variable. -/
theorem TwoRows.fin {w0 w : World} {S : Nat} {x : Array Value} (h : TwoRows w0 w S x) (hS : w0.heap.size = S) {a1 a2 : Option Addr} {c1 c2 : Nat} {g : GSp} (hG : IsG w a1 c1 a2 c2 g) :
    (((w.setCell ⟨S + 1, 0, none⟩ (.int .i64 g.most)).setCell ⟨S + 1, 1, none⟩ (.slice a1 g.now.length c1)).setCell ⟨S + 1, 2, none⟩ (.slice a2 g.last.length c2)).heap[S + 1]? = some (.cells #[.int .i64 g.most, .slice a1 g.now.length c1, .slice a2 g.last.length c2] 40 (0, 0)) ∧
    GOut w0 g (gval g.most a1 g.now.length c1 a2 g.last.length c2) (((w.setCell ⟨S + 1, 0, none⟩ (.int .i64 g.most)).setCell ⟨S + 1, 1, none⟩ (.slice a1 g.now.length c1)).setCell ⟨S + 1, 2, none⟩ (.slice a2 g.last.length c2)) :=
  ⟨set3_heap _ _ _ h.res, a1, c1, a2, c2, rfl, hG.set3 h.res (by decide) _ _ _, by rw [hS]; exact set3_below h.below (Nat.le_succ _) _ _ _⟩
set_option maxRecDepth 100000 in
set_option maxHeartbeats 1000000 in
theorem ggive_any (g : GSp) (a1 a2 : Option Addr) (c1 c2 : Nat) (w : World) (h : IsG w a1 c1 a2 c2 g) (p : Int) :
    Calls Try.prog 28 #[gval g.most a1 g.now.length c1 a2 g.last.length c2, .int .i64 p] w fun e w' => ∃ v, e = .returned (.tuple #[v, .int .i64 ((g.give p).2 : Nat)]) ∧ GOut w (g.give p).1 v w' := by
  obtain ⟨S, hS⟩ : ∃ S, w.heap.size = S := ⟨_, rfl⟩
  have hT := TwoRows.start w #[.int .i64 g.most, .slice a1 g.now.length c1, .slice a2 g.last.length c2]
  rw [hS] at hT
  have HH := Lib.hid h
  have HS := Lib.hid hS
  have HT := Lib.hid hT
  unfold gval
  by_cases e1 : g.is p = 1
  · obtain ⟨k, rfl, hk2, hkl⟩ := gis_pos (g := g) (p := p) (by omega)
    have eg : g.give k = (g.put k 3, 0) := by unfold GSp.give; rw [if_pos e1]; rfl
    rw [eg]
    have HE := Lib.hid e1
    clear h hS hT e1 eg
    go_enter Try.func28, Try.ntmps28
    go_wp2_with (first
      | (go_at_call 32; rw [HS.out]; refine (gis_any g a1 a2 c1 c2 _ (HH.out.below (by rw [HS.out]; exact HT.out.below)) k).mono ?_; rw [HE.out]; rintro e w3 ⟨rfl, hb3⟩; have HT3 := Lib.hid (HT.out.step hb3); obtain ⟨s0, s1, s2, -, -⟩ := HT3.out.cells)
      | (go_at_call 37; refine (gwith_any g a1 a2 c1 c2 w3 (HH.out.below (by rw [HS.out]; exact HT3.out.below)) k 3 hkl).mono ?_; rintro e w4 ⟨v, rfl, b1, d1, b2, d2, rfl, hG4, hb4⟩; have HT4 := Lib.hid (HT3.out.step hb4); have HG4 := Lib.hid hG4; clear s0 s1 s2; obtain ⟨-, -, -, -, r0, r1, r2, q0, q1, q2⟩ := HT4.out.cells; clear hG4; unfold gval))
    obtain ⟨hr, hout⟩ := HT4.out.fin HS.out HG4.out
    refine bodyPost_ret (results_cell_tmps rfl _ _ (S + 1) 40 _ (0, 0) rfl hr Try.underlying40 (by kernel_rfl)) rfl ?_
    exact ⟨_, rfl, hout⟩
  · by_cases e2 : g.is p = 2
    · obtain ⟨k, rfl, hk2, hkl⟩ := gis_pos (g := g) (p := p) (by omega)
      have eg : g.give k = (g.put k 4, 0) := by unfold GSp.give; rw [if_neg e1, if_pos e2]; rfl
      rw [eg]
      have HE := Lib.hid e2
      clear h hS hT e1 e2 eg
      go_enter Try.func28, Try.ntmps28
      go_wp2_with (first
        | (go_at_call 32; rw [HS.out]; refine (gis_any g a1 a2 c1 c2 _ (HH.out.below (by rw [HS.out]; exact HT.out.below)) k).mono ?_; rw [HE.out]; rintro e w3 ⟨rfl, hb3⟩; have HT3 := Lib.hid (HT.out.step hb3); obtain ⟨s0, s1, s2, -, -⟩ := HT3.out.cells)
        | (go_at_call 37; refine (gwith_any g a1 a2 c1 c2 w3 (HH.out.below (by rw [HS.out]; exact HT3.out.below)) k 4 hkl).mono ?_; rintro e w4 ⟨v, rfl, b1, d1, b2, d2, rfl, hG4, hb4⟩; have HT4 := Lib.hid (HT3.out.step hb4); have HG4 := Lib.hid hG4; clear s0 s1 s2; obtain ⟨-, -, -, -, r0, r1, r2, q0, q1, q2⟩ := HT4.out.cells; clear hG4; unfold gval))
      obtain ⟨hr, hout⟩ := HT4.out.fin HS.out HG4.out
      refine bodyPost_ret (results_cell_tmps rfl _ _ (S + 1) 40 _ (0, 0) rfl hr Try.underlying40 (by kernel_rfl)) rfl ?_
      exact ⟨_, rfl, hout⟩
    · have eg : g.give p = (g, 171) := by unfold GSp.give; rw [if_neg e1, if_neg e2]
      rw [eg]
      obtain ⟨q, hq⟩ : ∃ q, g.is p = q := ⟨_, rfl⟩
      have n1 : ((q : Int) == 1) = false := by simp; omega
      have n2 : ((q : Int) == 2) = false := by simp; omega
      have HE := Lib.hid hq
      clear h hS hT e1 e2 eg hq
      go_enter Try.func28, Try.ntmps28
      go_wp2_with (first
        | (go_at_call 32; rw [HS.out]; refine (gis_any g a1 a2 c1 c2 _ (HH.out.below (by rw [HS.out]; exact HT.out.below)) p).mono ?_; rw [HE.out]; rintro e w3 ⟨rfl, hb3⟩; have HT3 := Lib.hid (HT.out.step hb3); obtain ⟨s0, s1, s2, -, r0, r1, r2, q0, q1, q2⟩ := HT3.out.cells))
      have HT4 := HT3
      have HG4 := Lib.hid ((HH.out.below (by rw [HS.out]; exact HT.out.below)).below hb3)
      obtain ⟨hr, hout⟩ := HT4.out.fin HS.out HG4.out
      refine bodyPost_ret (results_cell_tmps rfl _ _ (S + 1) 40 _ (0, 0) rfl hr Try.underlying40 (by kernel_rfl)) rfl ?_
      exact ⟨_, rfl, hout⟩
end Go.Proofs.Ytmjjgdoekblelaa

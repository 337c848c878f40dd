/- Layer 7: what lasts, what does not; a copy. -/
import Derived.Deep.RegionHeld3
import Derived.Test.YtmjjgdoekblelaaSpA
import Derived.Test.YtmjjgdoekblelaaReg3
namespace Go.Proofs.Ytmjjgdoekblelaa
open Go.RowKit Go.Maps

section
variable {w : World} {B lh m h bp : Nat} {vl : Value}
theorem SpRow.all (r : SpRow w B lh vl m h bp) : w.cell? ⟨B, 0, none⟩ = some (.int .i64 lh) ∧ w.cell? ⟨B, 1, none⟩ = some vl ∧ w.cell? ⟨B, 2, none⟩ = some (.int .i64 m) ∧ w.cell? ⟨B, 3, none⟩ = some (.int .i64 h) ∧ w.cell? ⟨B, 4, none⟩ = some (.map (some bp)) ∧
    w.frozen? ⟨B, 0, none⟩ = false ∧ w.frozen? ⟨B, 1, none⟩ = false ∧ w.frozen? ⟨B, 3, none⟩ = false ∧ w.frozen? ⟨B, 4, none⟩ = false :=
  ⟨r.cell 0, r.cell 1, r.cell 2, r.cell 3, r.cell 4, r.frozen 0, r.frozen 1, r.frozen 3, r.frozen 4⟩
theorem SpRow.set0 (r : SpRow w B lh vl m h bp) (n : Nat) : SpRow (w.setCell ⟨B, 0, none⟩ (.int .i64 n)) B n vl m h bp := heap_setCell_same w B 0 _ _ (.int .i64 n) r
theorem SpRow.set1 (r : SpRow w B lh vl m h bp) (v : Value) : SpRow (w.setCell ⟨B, 1, none⟩ v) B lh v m h bp := heap_setCell_same w B 1 _ _ v r
theorem SpRow.set3 (r : SpRow w B lh vl m h bp) (n : Nat) : SpRow (w.setCell ⟨B, 3, none⟩ (.int .i64 n)) B lh vl m n bp := heap_setCell_same w B 3 _ _ (.int .i64 n) r
theorem SpRow.set4 (r : SpRow w B lh vl m h bp) (b : Nat) : SpRow (w.setCell ⟨B, 4, none⟩ (.map (some b))) B lh vl m h b := heap_setCell_same w B 4 _ _ (.map (some b)) r
theorem SpRow.below {w' : World} {n : Nat} (r : SpRow w B lh vl m h bp) (hb : Below n w w') (hn : B < n) : SpRow w' B lh vl m h bp := (hb.block B hn).trans r
end
theorem IntMap.setCell {w : World} {b : Nat} {f : Nat → Option Value} {kT : TypeId} {P : Program} (h : IntMap P kT w b f) (p : Addr) (v : Value) (hne : p.block ≠ b) : IntMap P kT (w.setCell p v) b f :=
  h.at_block (Below.heap_setCell w p v b (fun e => hne e.symm))
set_option maxRecDepth 100000 in
theorem keep_any {w : World} {B lh m h bp : Nat} {vl : Value} {now : Pl} (r : SpRow w B lh vl m h bp) (hn : IntMap Try.prog 2 w bp (plV now)) :
    Calls Try.prog 24 #[ptr B] w fun e w' => e = .returned (.tuple #[]) ∧ SpRow w' B h (.map (some w.heap.size)) m h bp ∧ IntMap Try.prog 2 w' w.heap.size (plV now) ∧ Beside [B] w w' := by
  have h3 : w.cell? ⟨B, 3, none⟩ = some (.int .i64 h) := r.cell 3
  have h4 : w.cell? ⟨B, 4, none⟩ = some (.map (some bp)) := r.cell 4
  have hc := clone_pl hn.drew
  have fin : ∀ w2 : World, IntMap Try.prog 2 w2 w.heap.size (plV now) → Below w.heap.size w.drew w2 → w2.heap.size = w.heap.size + 1 →
      SpRow ((w2.setCell ⟨B, 0, none⟩ (.int .i64 h)).setCell ⟨B, 1, none⟩ (.map (some w.heap.size))) B h (.map (some w.heap.size)) m h bp ∧ IntMap Try.prog 2 ((w2.setCell ⟨B, 0, none⟩ (.int .i64 h)).setCell ⟨B, 1, none⟩ (.map (some w.heap.size))) w.heap.size (plV now) ∧ Beside [B] w ((w2.setCell ⟨B, 0, none⟩ (.int .i64 h)).setCell ⟨B, 1, none⟩ (.map (some w.heap.size))) := fun w2 hm2 hb2 hs2 => by
    have hB := r.lt
    exact ⟨((SpRow.below (w := w.drew) r hb2 hB).set0 h).set1 _, (hm2.setCell _ _ (by show B ≠ _; omega)).setCell _ _ (by show B ≠ _; omega), (((Beside.refl [B] w).drew.trans (Beside.of_below hb2 [B]) (fun j hj => .inl hj)).setCell (by simp) _).setCell (by simp) _⟩
  have HF := Lib.hid fin
  clear fin
  go_enter Try.func24, Try.ntmps24
  go_region_with (go_at_call 31; refine hc.mono ?_; rintro e w2 ⟨rfl, hm2, hb2, hs2⟩; have r2 : SpRow w2 B lh vl m h bp := (hb2.block B r.lt).trans r; obtain ⟨c0, c1, -, c3, -, f0, f1, -, -⟩ := r2.all)
  all_goals (go_end0; exact ⟨rfl, HF.out w2 hm2 hb2 hs2⟩)

/-- A space lies in block B, its maps in blocks bl and bp. -/
structure SpAt (w : World) (B bl bp : Nat) (s : Spc) : Prop where
  ok : s.Ok
  row : SpRow w B s.lhigh (.map (some bl)) s.most s.high bp
  last : IntMap Try.prog 2 w bl (plV s.last)
  now : IntMap Try.prog 2 w bp (plV s.now)
  ne : bl ≠ bp
theorem SpAt.pos {w : World} {B bl bp : Nat} {s : Spc} (h : SpAt w B bl bp s) : 0 < s.most := by have := h.ok.lo; have := h.ok.lh; have := h.ok.hi; omega
/-- What a call on a space keeps; its blocks are its own or new. -/
structure SpGo (w w' : World) (B bl bp bl' bp' : Nat) : Prop where
  keeps : Beside [B, bl, bp] w w'
  l : bl' = bl ∨ bl' = bp ∨ w.heap.size ≤ bl'
  p : bp' = bl ∨ bp' = bp ∨ w.heap.size ≤ bp'
theorem SpAt.beside {w w' : World} {B bl bp : Nat} {s : Spc} {S : List Nat} (h : SpAt w B bl bp s) (hb : Beside S w w') (h1 : B ∉ S) (h2 : bl ∉ S) (h3 : bp ∉ S) : SpAt w' B bl bp s :=
  ⟨h.ok, (hb.block B h.row.lt h1).trans h.row, h.last.at_block (hb.block bl h.last.lt h2), h.now.at_block (hb.block bp h.now.lt h3), h.ne⟩
theorem SpAt.below {w w' : World} {B bl bp : Nat} {s : Spc} (h : SpAt w B bl bp s) (hb : Below w.heap.size w w') : SpAt w' B bl bp s := h.beside (Beside.of_below hb []) (by simp) (by simp) (by simp)
theorem SpAt.drew {w : World} {B bl bp : Nat} {s : Spc} (h : SpAt w B bl bp s) : SpAt w.drew B bl bp s := ⟨h.ok, h.row, h.last.drew, h.now.drew, h.ne⟩
def Spc.undo (s : Spc) : Spc := { s with high := s.lhigh, now := s.last }
theorem Spc.Ok.undo {s : Spc} (h : s.Ok) : s.undo.Ok :=
  ⟨h.most_hi, h.lo, Nat.le_refl _, Nat.le_trans h.lh h.hi, fun k p hk => by have := h.last_ k p hk; exact ⟨this.1, this.2.1, .inr (.inr this.2.2)⟩, h.last_⟩
set_option maxRecDepth 100000 in
theorem undo_any {w : World} {B bl bp : Nat} {s : Spc} (h : SpAt w B bl bp s) :
    Calls Try.prog 20 #[ptr B] w fun e w' => e = .returned (.int .i64 0) ∧ SpAt w' B bl w.heap.size s.undo ∧ Beside [B] w w' := by
  have ht := there_yes h.row h.pos
  have r := h.row
  have hc := clone_pl h.last.drew
  have hc2 := clone_pl (h.last.drew.setCell ⟨B, 3, none⟩ (.int .i64 s.lhigh) (h.row.ne_map h.last))
  obtain ⟨c0, c1, c2, c3, c4, f0, f1, f3, f4⟩ := r.all
  have fin : ∀ w2 : World, IntMap Try.prog 2 w2 w.heap.size (plV s.last) → Below w.heap.size w.drew w2 →
      SpAt ((w2.setCell ⟨B, 3, none⟩ (.int .i64 s.lhigh)).setCell ⟨B, 4, none⟩ (.map (some w.heap.size))) B bl w.heap.size s.undo ∧ Beside [B] w ((w2.setCell ⟨B, 3, none⟩ (.int .i64 s.lhigh)).setCell ⟨B, 4, none⟩ (.map (some w.heap.size))) := fun w2 hm2 hb2 => by
    have hB := r.lt
    have hl := h.last.lt
    exact ⟨⟨h.ok.undo, ((SpRow.below (w := w.drew) r hb2 hB).set3 _).set4 _, ((h.last.drew.below hb2 hl).setCell _ _ (r.ne_map h.last)).setCell _ _ (r.ne_map h.last), (hm2.setCell _ _ (by show B ≠ _; omega)).setCell _ _ (by show B ≠ _; omega), by omega⟩,
      (((Beside.refl [B] w).drew.trans (Beside.of_below hb2 [B]) (fun j hj => .inl hj)).setCell (by simp) _).setCell (by simp) _⟩
  have HF := Lib.hid fin
  clear fin
  go_enter Try.func20, Try.ntmps20
  go_wp2_with (go_at_call 25; refine ht.mono ?_; rintro e w' ⟨rfl, rfl⟩)
  go_region_with (go_at_call 31; refine hc.mono ?_; rintro e w2 ⟨rfl, hm2, hb2, hs2⟩; have r2 : SpRow w2 B s.lhigh (.map (some bl)) s.most s.high bp := (hb2.block B r.lt).trans r; obtain ⟨d0, d1, -, d3, d4, g0, g1, g3, g4⟩ := r2.all)
  all_goals (go_wp2; go_ret; exact ⟨rfl, HF.out w2 hm2 hb2⟩)
end Go.Proofs.Ytmjjgdoekblelaa

/- Layer 2's disk in memory, and the contracts of its small calls. -/
import Derived.WalkKit
import Derived.Outline
import Derived.BigQuiet
import Derived.LoopTactic
import Derived.Lib.Hide
import Derived.Carry
import Derived.Deep.QuietTactic
import Derived.Test.YtkophpipehdkmaaDskPure
namespace Go.Proofs.Ytkophpipehdkmaa
open Go.RowKit

def waitCells (ws : List (Nat × Page)) : List Value := ws.flatMap fun x => writeCells x.1 x.2
theorem waitCells_snoc (ws : List (Nat × Page)) (x : Nat × Page) : waitCells (ws ++ [x]) = waitCells ws ++ writeCells x.1 x.2 := by simp [waitCells]
def pagesV (f : Nat → Option Page) : Nat → Option Value := fun p => (f p).map pageV

/-- What a disk's own cells hold. -/
def dskCells (d : Dsk) (bl bn : Nat) (v : Value) : Array Value := #[.int .i64 d.kind, .int .i64 d.left, .bool d.dead, .int .i64 d.room, .int .i64 d.steps, .map (some bl), .map (some bn), v]
/-- The disk d lies in block B, all of it from n₀ on. -/
structure DskAt (n₀ : Nat) (w : World) (B : Nat) (d : Dsk) (bl bn : Nat) (v : Value) (fl : Nat → Option Page) : Prop where
  ok : d.Ok
  cells : w.heap[B]? = some (.cells (dskCells d bl bn v) 72 (0, 0))
  last : IntMap Try.prog 3 w bl (pagesV fl)
  news : IntMap Try.prog 3 w bn (pagesV (newest d.waits))
  row : w.ownsRow n₀ 84 257 v d.waits.length (waitCells d.waits)
  lo : n₀ ≤ B ∧ n₀ ≤ bl ∧ n₀ ≤ bn
  ne : bl ≠ bn
  fl_lo : ∀ p, p < d.room → (fl p).getD noughts = d.lasts.getD p noughts
  fl_hi : ∀ p, d.room ≤ p → fl p = none
def IsDisk (n₀ : Nat) (w : World) (B : Nat) (d : Dsk) : Prop := ∃ bl bn v fl, DskAt n₀ w B d bl bn v fl

/-- What a call on disks keeps: what lay below n₀; and all cells but those of disks and of writes. -/
structure Keeps (n₀ : Nat) (w w' : World) : Prop where
  below : Below n₀ w w'
  cells : ∀ (k : Nat) (cs : Array Value) (t : TypeId) (fr : Nat × Nat), w.heap[k]? = some (Obj.cells cs t fr) → t ≠ 72 → t ≠ 84 → w'.heap[k]? = some (Obj.cells cs t fr)
theorem Keeps.trans {n₀ : Nat} {a b c : World} (h : Keeps n₀ a b) (k : Keeps n₀ b c) : Keeps n₀ a c :=
  ⟨h.below.trans k.below, fun j cs t fr hj h1 h2 => k.cells j cs t fr (h.cells j cs t fr hj h1 h2) h1 h2⟩
theorem Keeps.of_below {n₀ : Nat} {w w' : World} (h : Below w.heap.size w w') (hn : n₀ ≤ w.heap.size) : Keeps n₀ w w' :=
  ⟨h.mono hn, fun k _ _ _ hk _ _ => (h.block k (Array.getElem?_eq_some_iff.1 hk).1).trans hk⟩
theorem Keeps.refl (n₀ : Nat) (w : World) : Keeps n₀ w w := ⟨Below.refl _ _, fun _ _ _ _ h _ _ => h⟩
theorem Keeps.mono {n₀ n₁ : Nat} {w w' : World} (h : Keeps n₀ w w') (hn : n₁ ≤ n₀) : Keeps n₁ w w' := ⟨h.below.mono hn, h.cells⟩
theorem Keeps.cell {n₀ : Nat} {w w' : World} (h : Keeps n₀ w w') {b o : Nat} {cs : Array Value} {t : TypeId} {fr : Nat × Nat} (hk : w.heap[b]? = some (.cells cs t fr)) (h1 : t ≠ 72) (h2 : t ≠ 84) : w'.cell? ⟨b, o, none⟩ = w.cell? ⟨b, o, none⟩ :=
  World.cell?_of_block ((h.cells b cs t fr hk h1 h2).trans hk.symm)
/-- One block that is turned: a map, or one of a disk's. -/
theorem Keeps.of_grown {n₀ g : Nat} {w w' : World} (h : w.grownBy w' (some g)) (hn : n₀ ≤ g) (hs : n₀ ≤ w.heap.size) (ht : ∀ (cs : Array Value) (t : TypeId) (fr : Nat × Nat), w.heap[g]? = some (Obj.cells cs t fr) → t = 72 ∨ t = 84) : Keeps n₀ w w' :=
  ⟨(Below.refl _ _).grown h hs (fun k e => by cases e; exact hn), fun k cs t fr hk h1 h2 => by
    by_cases e : k = g
    · subst e
      rcases ht cs t fr hk with e | e
      · exact absurd e h1
      · exact absurd e h2
    · exact (h.block k (Array.getElem?_eq_some_iff.1 hk).1 (fun e' => e (Option.some.inj e'))).trans hk⟩

section
variable {n₀ : Nat} {w : World} {B bl bn : Nat} {d : Dsk} {v : Value} {fl : Nat → Option Page}
theorem DskAt.lt (h : DskAt n₀ w B d bl bn v fl) : B < w.heap.size := (Array.getElem?_eq_some_iff.1 h.cells).1
theorem DskAt.cell (h : DskAt n₀ w B d bl bn v fl) (i : Nat) : w.cell? ⟨B, i, none⟩ = (dskCells d bl bn v)[i]? := cell_of_row w B i _ _ _ h.cells
theorem DskAt.frozen (h : DskAt n₀ w B d bl bn v fl) (i : Nat) : w.frozen? ⟨B, i, none⟩ = false := frozen_of_row w B i _ _ h.cells
theorem DskAt.ne_l (h : DskAt n₀ w B d bl bn v fl) : B ≠ bl := fun e => by
  obtain ⟨D, ⟨es, clock, hb, _⟩, _⟩ := h.last
  have hc := h.cells
  rw [e, hb] at hc; cases hc
theorem DskAt.ne_n (h : DskAt n₀ w B d bl bn v fl) : B ≠ bn := fun e => by
  obtain ⟨D, ⟨es, clock, hb, _⟩, _⟩ := h.news
  have hc := h.cells
  rw [e, hb] at hc; cases hc
theorem row_block {w : World} {n₀ n : Nat} {v : Value} {xs : List Value} {e : TypeId} {k : Nat} (h : w.ownsRow n₀ e k v n xs) (g : Nat) (hg : v.ownBlock = some g) : ∃ cs, w.heap[g]? = some (.cells cs e (0, 0)) := by
  rcases h.2 with ⟨rfl, _⟩ | ⟨g', cap, cur, rfl, _, hh, _⟩
  · cases hg
  · cases hg; exact ⟨cur, hh⟩
theorem DskAt.ne_v (h : DskAt n₀ w B d bl bn v fl) : v.ownBlock ≠ some B ∧ v.ownBlock ≠ some bl ∧ v.ownBlock ≠ some bn := by
  refine ⟨fun e => ?_, fun e => ?_, fun e => ?_⟩
  · obtain ⟨cs, hb⟩ := row_block h.row _ e
    rw [h.cells] at hb; cases hb
  · obtain ⟨cs, hb⟩ := row_block h.row _ e
    obtain ⟨D, ⟨es, clock, hb2, _⟩, _⟩ := h.last
    rw [hb2] at hb; cases hb
  · obtain ⟨cs, hb⟩ := row_block h.row _ e
    obtain ⟨D, ⟨es, clock, hb2, _⟩, _⟩ := h.news
    rw [hb2] at hb; cases hb
theorem row_at {w w' : World} {n₀ n : Nat} {v : Value} {xs : List Value} {e : TypeId} {k : Nat} (h : w.ownsRow n₀ e k v n xs) (hg : ∀ g, v.ownBlock = some g → w'.heap[g]? = w.heap[g]?) : w'.ownsRow n₀ e k v n xs := by
  refine ⟨h.1, ?_⟩
  rcases h.2 with hn | ⟨g, cap, cur, rfl, hb, hh, r⟩
  · exact .inl hn
  · exact .inr ⟨g, cap, cur, rfl, hb, (hg g rfl).trans hh, r⟩
theorem DskAt.below {w' : World} (h : DskAt n₀ w B d bl bn v fl) (hb : Below w.heap.size w w') : DskAt n₀ w' B d bl bn v fl :=
  ⟨h.ok, (hb.block B h.lt).trans h.cells, h.last.below hb h.last.lt, h.news.below hb h.news.lt, row_at h.row (fun g hg => hb.block g (h.row.lt g hg).2), h.lo, h.ne, h.fl_lo, h.fl_hi⟩
theorem DskAt.far {w' : World} {n₁ : Nat} (h : DskAt n₀ w B d bl bn v fl) (hb : Below n₁ w w') (hn : w.heap.size ≤ n₁) : DskAt n₀ w' B d bl bn v fl := h.below (hb.mono hn)
theorem DskAt.drew (h : DskAt n₀ w B d bl bn v fl) : DskAt n₀ w.drew B d bl bn v fl := ⟨h.ok, h.cells, h.last, h.news, h.row, h.lo, h.ne, h.fl_lo, h.fl_hi⟩
theorem DskAt.n_le (h : DskAt n₀ w B d bl bn v fl) : n₀ ≤ w.heap.size := Nat.le_trans h.lo.1 (Nat.le_of_lt h.lt)
/-- A disk lies in blocks from n₀ on and below n₁: what lies there is as it was. -/
theorem DskAt.upto {w' : World} (h : DskAt n₀ w B d bl bn v fl) (hb : ∀ k, k < w.heap.size → w'.heap[k]? = w.heap[k]?) : DskAt n₀ w' B d bl bn v fl :=
  ⟨h.ok, (hb B h.lt).trans h.cells, h.last.at_block (hb _ h.last.lt), h.news.at_block (hb _ h.news.lt), row_at h.row (fun g hg => hb g (h.row.lt g hg).2), h.lo, h.ne, h.fl_lo, h.fl_hi⟩
end
theorem IsDisk.below {n₀ : Nat} {w w' : World} {B : Nat} {d : Dsk} (h : IsDisk n₀ w B d) (hb : Below w.heap.size w w') : IsDisk n₀ w' B d := by
  obtain ⟨bl, bn, v, fl, h⟩ := h; exact ⟨bl, bn, v, fl, h.below hb⟩
theorem IsDisk.ok {n₀ : Nat} {w : World} {B : Nat} {d : Dsk} (h : IsDisk n₀ w B d) : d.Ok := by
  obtain ⟨bl, bn, v, fl, h⟩ := h; exact h.ok
theorem IsDisk.lt {n₀ : Nat} {w : World} {B : Nat} {d : Dsk} (h : IsDisk n₀ w B d) : B < w.heap.size := by
  obtain ⟨bl, bn, v, fl, h⟩ := h; exact h.lt
theorem IsDisk.n_le {n₀ : Nat} {w : World} {B : Nat} {d : Dsk} (h : IsDisk n₀ w B d) : n₀ ≤ w.heap.size := by
  obtain ⟨bl, bn, v, fl, h⟩ := h; exact h.n_le
abbrev ptr (B : Nat) : Value := .pointer (some ⟨B, 0, none⟩)

theorem field58_0 (B : Nat) (w : World) : (Instr.fieldAt 72 (ptr B) 0).run Try.prog w = .ok (ptr B) w := by simp [go_sem]
theorem field58_1 (B : Nat) (w : World) : (Instr.fieldAt 72 (ptr B) 1).run Try.prog w = .ok (.pointer (some ⟨B, 3, none⟩)) w := by simp [go_sem]
theorem field58_3 (B : Nat) (w : World) : (Instr.fieldAt 72 (ptr B) 3).run Try.prog w = .ok (.pointer (some ⟨B, 5, none⟩)) w := by simp [go_sem]
theorem field58_4 (B : Nat) (w : World) : (Instr.fieldAt 72 (ptr B) 4).run Try.prog w = .ok (.pointer (some ⟨B, 6, none⟩)) w := by simp [go_sem]
theorem field58_5 (B : Nat) (w : World) : (Instr.fieldAt 72 (ptr B) 5).run Try.prog w = .ok (.pointer (some ⟨B, 7, none⟩)) w := by simp [go_sem]
theorem field54_0 (B : Nat) (w : World) : (Instr.fieldAt 69 (ptr B) 0).run Try.prog w = .ok (ptr B) w := by simp [go_sem]
/- The small calls. -/
theorem there_disk {n₀ : Nat} {w : World} {B : Nat} {d : Dsk} (h : IsDisk n₀ w B d) :
    Calls Try.prog 26 #[ptr B] w fun e w' => e = .returned (.bool true) ∧ w = w' := by
  obtain ⟨bl, bn, v, fl, h⟩ := h
  have h3 : w.cell? ⟨B, 3, none⟩ = some (.int .i64 d.room) := h.cell 3
  have hlo : 0 < d.room := by have := h.ok.lo; omega
  go_enter Try.func26, Try.ntmps26
  go_wp2
  go_ret
  exact ⟨rfl, rfl⟩
theorem has_disk {n₀ : Nat} {w : World} {B : Nat} {d : Dsk} (h : IsDisk n₀ w B d) (p : Int) (b : Bool) (hb : b = decide (0 ≤ p ∧ p < d.room)) :
    Calls Try.prog 27 #[ptr B, .int .i64 p] w fun e w' => e = .returned (.bool b) ∧ w = w' := by
  obtain ⟨bl, bn, v, fl, h⟩ := h
  have h3 : w.cell? ⟨B, 3, none⟩ = some (.int .i64 d.room) := h.cell 3
  by_cases h0 : 0 ≤ p
  · by_cases h1 : p < d.room
    · obtain rfl : b = true := by rw [hb]; simp [h0, h1]
      clear hb
      go_enter Try.func27, Try.ntmps27
      go_wp2
      go_ret
      exact ⟨rfl, rfl⟩
    · obtain rfl : b = false := by rw [hb]; simp [h1]
      clear hb
      go_enter Try.func27, Try.ntmps27
      go_wp2
      go_ret
      exact ⟨rfl, rfl⟩
  · obtain rfl : b = false := by rw [hb]; simp [h0]
    clear hb
    have h0' : p < 0 := by omega
    go_enter Try.func27, Try.ntmps27
    go_wp2
    go_ret
    exact ⟨rfl, rfl⟩
theorem pages_disk {n₀ : Nat} {w : World} {B : Nat} {d : Dsk} (h : IsDisk n₀ w B d) :
    Calls Try.prog 36 #[ptr B] w fun e w' => e = .returned (.int .i64 d.room) ∧ w = w' := by
  have ht := there_disk h
  obtain ⟨bl, bn, v, fl, h⟩ := h
  have h3 : w.cell? ⟨B, 3, none⟩ = some (.int .i64 d.room) := h.cell 3
  go_enter Try.func36, Try.ntmps36
  go_wp2_with (go_at_call 26; refine ht.mono ?_; rintro e w' ⟨rfl, rfl⟩)
  go_ret
  exact ⟨rfl, rfl⟩
theorem steps_disk {n₀ : Nat} {w : World} {B : Nat} {d : Dsk} (h : IsDisk n₀ w B d) :
    Calls Try.prog 37 #[ptr B] w fun e w' => e = .returned (.int .i64 d.steps) ∧ w = w' := by
  have ht := there_disk h
  obtain ⟨bl, bn, v, fl, h⟩ := h
  have h3 : w.cell? ⟨B, 4, none⟩ = some (.int .i64 d.steps) := h.cell 4
  go_enter Try.func37, Try.ntmps37
  go_wp2_with (go_at_call 26; refine ht.mono ?_; rintro e w' ⟨rfl, rfl⟩)
  go_ret
  exact ⟨rfl, rfl⟩
theorem dead_disk {n₀ : Nat} {w : World} {B : Nat} {d : Dsk} (h : IsDisk n₀ w B d) :
    Calls Try.prog 12 #[ptr B] w fun e w' => e = .returned (.bool d.dead) ∧ w = w' := by
  have ht := there_disk h
  obtain ⟨bl, bn, v, fl, h⟩ := h
  have h3 : w.cell? ⟨B, 2, none⟩ = some (.bool d.dead) := h.cell 2
  go_enter Try.func12, Try.ntmps12
  go_wp2_with (go_at_call 26; refine ht.mono ?_; rintro e w' ⟨rfl, rfl⟩)
  go_ret
  exact ⟨rfl, rfl⟩
theorem waits_disk {n₀ : Nat} {w : World} {B : Nat} {d : Dsk} (h : IsDisk n₀ w B d) :
    Calls Try.prog 10 #[ptr B] w fun e w' => e = .returned (.int .i64 d.waits.length) ∧ w = w' := by
  have ht := there_disk h
  obtain ⟨bl, bn, v, fl, h⟩ := h
  have h3 : w.cell? ⟨B, 7, none⟩ = some v := h.cell 7
  obtain ⟨a, cap, rfl⟩ : ∃ a cap, v = .slice a d.waits.length cap := by
    rcases h.row.2 with ⟨rfl, e⟩ | ⟨g, cap, cur, rfl, _⟩
    · exact ⟨none, 0, by rw [e]⟩
    · exact ⟨_, _, rfl⟩
  go_enter Try.func10, Try.ntmps10
  go_wp2_with (go_at_call 26; refine ht.mono ?_; rintro e w' ⟨rfl, rfl⟩)
  go_ret
  exact ⟨rfl, rfl⟩
end Go.Proofs.Ytkophpipehdkmaa

/- Layer 7: a space beside one block more, which no call on it turns. -/
import Derived.Test.YtmjjgdoekblelaaSpZ
namespace Go.Proofs.Ytmjjgdoekblelaa
open Go.RowKit

def IsSpX (n₀ X : Nat) (w : World) (B : Nat) (s : Spc) : Prop := ∃ bl bp, SpAt w B bl bp s ∧ (n₀ ≤ B ∧ n₀ ≤ bl ∧ n₀ ≤ bp) ∧ X < w.heap.size ∧ X ≠ B ∧ X ≠ bl ∧ X ≠ bp
structure SpKeepsX (n₀ X : Nat) (w w' : World) : Prop extends SpKeeps n₀ w w' where
  at_ : X < w.heap.size → w'.heap[X]? = w.heap[X]?
theorem SpKeepsX.trans {n₀ X : Nat} {a b c : World} (h : SpKeepsX n₀ X a b) (k : SpKeepsX n₀ X b c) : SpKeepsX n₀ X a c :=
  ⟨h.toSpKeeps.trans k.toSpKeeps, fun hx => (k.at_ (Nat.lt_of_lt_of_le hx h.below.size)).trans (h.at_ hx)⟩
theorem SpKeepsX.of_below {n₀ X : Nat} {w w' : World} (h : Below w.heap.size w w') (hn : n₀ ≤ w.heap.size) : SpKeepsX n₀ X w w' :=
  ⟨SpKeeps.of_below h hn, fun hx => h.block X hx⟩
theorem IsSpX.one {n₀ X : Nat} {w : World} {B : Nat} {s : Spc} (h : IsSpX n₀ X w B s) : IsSp n₀ w B s := by
  obtain ⟨bl, bp, h, h1, -⟩ := h; exact ⟨bl, bp, h, h1⟩
theorem IsSpX.ok {n₀ X : Nat} {w : World} {B : Nat} {s : Spc} (h : IsSpX n₀ X w B s) : s.Ok := h.one.ok
theorem IsSpX.lt {n₀ X : Nat} {w : World} {B : Nat} {s : Spc} (h : IsSpX n₀ X w B s) : X < w.heap.size := by
  obtain ⟨bl, bp, h, h1, h2, -⟩ := h; exact h2
theorem IsSpX.n_le {n₀ X : Nat} {w : World} {B : Nat} {s : Spc} (h : IsSpX n₀ X w B s) : n₀ ≤ w.heap.size := h.one.n_le
theorem IsSpX.below {n₀ X : Nat} {w w' : World} {B : Nat} {s : Spc} (h : IsSpX n₀ X w B s) (hb : Below w.heap.size w w') : IsSpX n₀ X w' B s := by
  obtain ⟨bl, bp, h, h1, h2, h3⟩ := h
  exact ⟨bl, bp, h.below hb, h1, Nat.lt_of_lt_of_le h2 hb.size, h3⟩
theorem IsSpX.set3 {n₀ X : Nat} {w : World} {B : Nat} {s : Spc} (h : IsSpX n₀ X w B s) {k : Nat} {cs : Array Value} {t : TypeId} {fr : Nat × Nat} (hk : w.heap[k]? = some (.cells cs t fr)) (ht : t ≠ 59) (v0 v1 v2 : Value) : IsSpX n₀ X (((w.setCell ⟨k, 0, none⟩ v0).setCell ⟨k, 1, none⟩ v1).setCell ⟨k, 2, none⟩ v2) B s := by
  obtain ⟨bl, bp, h, h1, h2, h3⟩ := h
  obtain ⟨x1, x2, x3⟩ := h.not_cells hk ht
  have hb := set3_far w k v0 v1 v2
  exact ⟨bl, bp, ⟨h.ok, (hb B x1.symm).trans h.row, h.last.at_block (hb bl x2.symm), h.now.at_block (hb bp x3.symm), h.ne⟩, h1, by simpa using h2, h3⟩
theorem SpKeepsX.set3 {n₀ X : Nat} {w w' : World} (h : SpKeepsX n₀ X w w') {k : Nat} (hk : w.heap.size ≤ k) (hn : n₀ ≤ w.heap.size) (v0 v1 v2 : Value) : SpKeepsX n₀ X w (((w'.setCell ⟨k, 0, none⟩ v0).setCell ⟨k, 1, none⟩ v1).setCell ⟨k, 2, none⟩ v2) :=
  ⟨h.toSpKeeps.set3 hk hn v0 v1 v2, fun hx => (set3_far w' k v0 v1 v2 X (by omega)).trans (h.at_ hx)⟩
/-- One call on a space beside a block. -/
theorem step_ownX {n₀ X : Nat} {w : World} {B : Nat} {s : Spc} {f : FuncId} {args : Array Value} {v : Value} {s' : Spc} (h : IsSpX n₀ X w B s)
    (hc : ∀ bl bp, SpAt w B bl bp s → Calls Try.prog f args w fun en w' => en = .returned v ∧ IsStep w w' B bl bp s') :
    Calls Try.prog f args w fun en w' => en = .returned v ∧ IsSpX n₀ X w' B s' ∧ SpKeepsX n₀ X w w' := by
  have hn := h.n_le
  obtain ⟨bl, bp, h, ⟨h1, h2, h3⟩, hx, x1, x2, x3⟩ := h
  refine (hc bl bp h).mono fun en w' ⟨a, b⟩ => ⟨a, ?_, ?_⟩
  · obtain ⟨bl', bp', hs⟩ := b
    refine ⟨bl', bp', hs.at_, ⟨h1, by rcases hs.l with e | e <;> omega, by rcases hs.p with e | e <;> omega⟩, Nat.lt_of_lt_of_le hx hs.keeps.size, x1, by rcases hs.l with e | e <;> omega, by rcases hs.p with e | e <;> omega⟩
  · obtain ⟨_, _, b⟩ := b
    exact ⟨SpKeeps.of_beside h b.keeps h1 h2 h3, fun hlt => b.keeps.block X hlt (by simp [x1, x2, x3])⟩
theorem take_kX {n₀ X : Nat} {w : World} {B : Nat} {s : Spc} (h : IsSpX n₀ X w B s) : Calls Try.prog 10 #[ptr B] w fun en w' => en = .returned (.tuple #[.int .i64 (s.take.2.1 : Nat), .int .i64 (s.take.2.2 : Nat)]) ∧ IsSpX n₀ X w' B s.take.1 ∧ SpKeepsX n₀ X w w' :=
  step_ownX h fun _ _ h => take_step h _ _ rfl rfl
theorem give_kX {n₀ X : Nat} {w : World} {B : Nat} {s : Spc} (h : IsSpX n₀ X w B s) (p : Int) : Calls Try.prog 22 #[ptr B, .int .i64 p] w fun en w' => en = .returned (.int .i64 ((s.give p).2 : Nat)) ∧ IsSpX n₀ X w' B (s.give p).1 ∧ SpKeepsX n₀ X w w' :=
  step_ownX h fun _ _ h => give_step h p _ rfl
theorem lasts_kX {n₀ X : Nat} {w : World} {B : Nat} {s : Spc} (h : IsSpX n₀ X w B s) : Calls Try.prog 23 #[ptr B] w fun en w' => en = .returned (.int .i64 0) ∧ IsSpX n₀ X w' B s.lasts ∧ SpKeepsX n₀ X w w' :=
  step_ownX h fun _ _ h => lasts_step h
theorem undo_kX {n₀ X : Nat} {w : World} {B : Nat} {s : Spc} (h : IsSpX n₀ X w B s) : Calls Try.prog 20 #[ptr B] w fun en w' => en = .returned (.int .i64 0) ∧ IsSpX n₀ X w' B s.undo ∧ SpKeepsX n₀ X w w' :=
  step_ownX h fun _ _ h => undo_step h
theorem nums_kX {n₀ X : Nat} {w : World} {B : Nat} {s : Spc} {f : FuncId} {args : Array Value} {l : List Nat} (h : IsSpX n₀ X w B s) (hc : ∀ bl bp, SpAt w B bl bp s → Calls Try.prog f args w fun en w' => NumsPost w l en w') :
    Calls Try.prog f args w fun en w' => ∃ a c, en = .returned (.slice a l.length c) ∧ Below w.heap.size w w' := by
  refine (nums_k h.one hc).mono ?_
  rintro en w' ⟨a, c, rfl, -, -, hb⟩
  exact ⟨a, c, rfl, hb⟩
end Go.Proofs.Ytmjjgdoekblelaa

/- Layer 7: what calls on spaces keep; two spaces beside each other. -/
import Derived.Test.YtmjjgdoekblelaaSpO
namespace Go.Proofs.Ytmjjgdoekblelaa
open Go.RowKit Go.Maps

/-- What calls on spaces keep: what lay below n₀; and all cells but those of spaces. -/
structure SpKeeps (n₀ : Nat) (w w' : World) : Prop where
  below : Below n₀ w w'
  cells : ∀ (k : Nat) (cs : Array Value) (t : TypeId) (fr : Nat × Nat), w.heap[k]? = some (Obj.cells cs t fr) → t ≠ 59 → w'.heap[k]? = some (Obj.cells cs t fr)
theorem SpKeeps.refl (n₀ : Nat) (w : World) : SpKeeps n₀ w w := ⟨Below.refl _ _, fun _ _ _ _ h _ => h⟩
theorem SpKeeps.trans {n₀ : Nat} {a b c : World} (h : SpKeeps n₀ a b) (k : SpKeeps n₀ b c) : SpKeeps n₀ a c :=
  ⟨h.below.trans k.below, fun j cs t fr hj h1 => k.cells j cs t fr (h.cells j cs t fr hj h1) h1⟩
theorem SpKeeps.of_below {n₀ : Nat} {w w' : World} (h : Below w.heap.size w w') (hn : n₀ ≤ w.heap.size) : SpKeeps n₀ w w' :=
  ⟨h.mono hn, fun k _ _ _ hk _ => (h.block k (Array.getElem?_eq_some_iff.1 hk).1).trans hk⟩
theorem SpKeeps.mono {n₀ n₁ : Nat} {w w' : World} (h : SpKeeps n₀ w w') (hn : n₁ ≤ n₀) : SpKeeps n₁ w w' := ⟨h.below.mono hn, h.cells⟩
theorem SpKeeps.row {n₀ b : Nat} {w w' : World} {e : TypeId} {size n : Nat} {v : Value} {xs : List Value} (h : SpKeeps n₀ w w') (hr : w.ownsRow b e size v n xs) (he : e ≠ 59) : w'.ownsRow b e size v n xs := by
  refine ⟨hr.1, ?_⟩
  rcases hr.2 with hn | ⟨g, cap, cur, rfl, hb, hh, r⟩
  · exact .inl hn
  · exact .inr ⟨g, cap, cur, rfl, hb, h.cells g _ _ _ hh he, r⟩
theorem SpAt.not_cells {w : World} {B bl bp : Nat} {s : Spc} (h : SpAt w B bl bp s) {k : Nat} {cs : Array Value} {t : TypeId} {fr : Nat × Nat} (hk : w.heap[k]? = some (.cells cs t fr)) (ht : t ≠ 59) : k ≠ B ∧ k ≠ bl ∧ k ≠ bp := by
  refine ⟨fun e => ?_, fun e => ?_, fun e => ?_⟩
  · have hr : w.heap[B]? = _ := h.row
    rw [← e, hk] at hr
    injection hr with hr
    injection hr with h1 h2
    exact ht h2
  · obtain ⟨D, ⟨es, clock, hb, _⟩, _⟩ := h.last
    rw [← e, hk] at hb; cases hb
  · obtain ⟨D, ⟨es, clock, hb, _⟩, _⟩ := h.now
    rw [← e, hk] at hb; cases hb
theorem SpKeeps.of_beside {n₀ : Nat} {w w' : World} {B bl bp : Nat} {s : Spc} (h : SpAt w B bl bp s) (hb : Beside [B, bl, bp] w w') (h1 : n₀ ≤ B) (h2 : n₀ ≤ bl) (h3 : n₀ ≤ bp) : SpKeeps n₀ w w' := by
  refine ⟨hb.below (Nat.le_trans h1 (Nat.le_of_lt h.row.lt)) (fun k hk => ?_), fun k cs t fr hk ht => ?_⟩
  · simp only [List.mem_cons, List.not_mem_nil, or_false] at hk
    rcases hk with rfl | rfl | rfl <;> assumption
  · obtain ⟨a, b, c⟩ := h.not_cells hk ht
    exact (hb.block k (Array.getElem?_eq_some_iff.1 hk).1 (by simp [a, b, c])).trans hk
/-- One call on a space whose blocks the law made. -/
theorem step_own {n₀ : Nat} {w : World} {B : Nat} {s : Spc} {f : FuncId} {args : Array Value} {v : Value} {s' : Spc} (h : IsSp n₀ w B s)
    (hc : ∀ bl bp, SpAt w B bl bp s → Calls Try.prog f args w fun en w' => en = .returned v ∧ IsStep w w' B bl bp s') :
    Calls Try.prog f args w fun en w' => en = .returned v ∧ IsSp n₀ w' B s' ∧ SpKeeps n₀ w w' := by
  have hn := h.n_le
  obtain ⟨bl, bp, h, h1, h2, h3⟩ := h
  refine (hc bl bp h).mono fun en w' ⟨a, b⟩ => ⟨a, (b.own h1 h2 h3 hn).1, ?_⟩
  obtain ⟨_, _, b⟩ := b
  exact SpKeeps.of_beside h b.keeps h1 h2 h3
theorem take_k {n₀ : Nat} {w : World} {B : Nat} {s : Spc} (h : IsSp n₀ w B s) : Calls Try.prog 10 #[ptr B] w fun en w' => en = .returned (.tuple #[.int .i64 (s.take.2.1 : Nat), .int .i64 (s.take.2.2 : Nat)]) ∧ IsSp n₀ w' B s.take.1 ∧ SpKeeps n₀ w w' :=
  step_own h fun _ _ h => take_step h _ _ rfl rfl
theorem give_k {n₀ : Nat} {w : World} {B : Nat} {s : Spc} (h : IsSp n₀ w B s) (p : Int) : Calls Try.prog 22 #[ptr B, .int .i64 p] w fun en w' => en = .returned (.int .i64 ((s.give p).2 : Nat)) ∧ IsSp n₀ w' B (s.give p).1 ∧ SpKeeps n₀ w w' :=
  step_own h fun _ _ h => give_step h p _ rfl
theorem lasts_k {n₀ : Nat} {w : World} {B : Nat} {s : Spc} (h : IsSp n₀ w B s) : Calls Try.prog 23 #[ptr B] w fun en w' => en = .returned (.int .i64 0) ∧ IsSp n₀ w' B s.lasts ∧ SpKeeps n₀ w w' :=
  step_own h fun _ _ h => lasts_step h
theorem undo_k {n₀ : Nat} {w : World} {B : Nat} {s : Spc} (h : IsSp n₀ w B s) : Calls Try.prog 20 #[ptr B] w fun en w' => en = .returned (.int .i64 0) ∧ IsSp n₀ w' B s.undo ∧ SpKeeps n₀ w w' :=
  step_own h fun _ _ h => undo_step h
theorem nums_k {n₀ : Nat} {w : World} {B : Nat} {s : Spc} {f : FuncId} {args : Array Value} {l : List Nat} (h : IsSp n₀ w B s) (hc : ∀ bl bp, SpAt w B bl bp s → Calls Try.prog f args w fun en w' => NumsPost w l en w') :
    Calls Try.prog f args w fun en w' => ∃ a c, en = .returned (.slice a l.length c) ∧ w'.ownsRow w.heap.size 2 1 (.slice a l.length c) l.length (natVals l) ∧ IsSp n₀ w' B s ∧ Below w.heap.size w w' := by
  have hh := h
  obtain ⟨bl, bp, h, h1⟩ := h
  refine (hc bl bp h).mono ?_
  rintro en w' ⟨v, rfl, hv, hb⟩
  obtain ⟨a, c, rfl⟩ := row_slice hv
  exact ⟨a, c, rfl, hv, hh.below hb, hb⟩

/-- Two spaces, no block of one is the other's. -/
structure TwoAt (w : World) (B bl bp : Nat) (s : Spc) (A al ap : Nat) (t : Spc) : Prop where
  one : SpAt w B bl bp s
  two : SpAt w A al ap t
  far : ∀ j ∈ [B, bl, bp], j ∉ [A, al, ap]
def IsTwo (n₀ : Nat) (w : World) (B : Nat) (s : Spc) (A : Nat) (t : Spc) : Prop := ∃ bl bp al ap, TwoAt w B bl bp s A al ap t ∧ (n₀ ≤ B ∧ n₀ ≤ bl ∧ n₀ ≤ bp) ∧ (n₀ ≤ A ∧ n₀ ≤ al ∧ n₀ ≤ ap)
theorem IsTwo.swap {n₀ : Nat} {w : World} {B A : Nat} {s t : Spc} (h : IsTwo n₀ w B s A t) : IsTwo n₀ w A t B s := by
  obtain ⟨bl, bp, al, ap, ⟨h1, h2, h3⟩, h4, h5⟩ := h
  exact ⟨al, ap, bl, bp, ⟨h2, h1, fun j hj hm => h3 j hm hj⟩, h5, h4⟩
theorem IsTwo.one {n₀ : Nat} {w : World} {B A : Nat} {s t : Spc} (h : IsTwo n₀ w B s A t) : IsSp n₀ w B s := by
  obtain ⟨bl, bp, al, ap, h1, h4, h5⟩ := h; exact ⟨bl, bp, h1.one, h4⟩
theorem IsTwo.below {n₀ : Nat} {w w' : World} {B A : Nat} {s t : Spc} (h : IsTwo n₀ w B s A t) (hb : Below w.heap.size w w') : IsTwo n₀ w' B s A t := by
  obtain ⟨bl, bp, al, ap, ⟨h1, h2, h3⟩, h4, h5⟩ := h
  exact ⟨bl, bp, al, ap, ⟨h1.below hb, h2.below hb, h3⟩, h4, h5⟩
theorem step_two {n₀ : Nat} {w : World} {B A : Nat} {s t : Spc} {f : FuncId} {args : Array Value} {v : Value} {s' : Spc} (h : IsTwo n₀ w B s A t)
    (hc : ∀ bl bp, SpAt w B bl bp s → Calls Try.prog f args w fun en w' => en = .returned v ∧ IsStep w w' B bl bp s') :
    Calls Try.prog f args w fun en w' => en = .returned v ∧ IsTwo n₀ w' B s' A t ∧ SpKeeps n₀ w w' := by
  obtain ⟨bl, bp, al, ap, ⟨h1, h2, h3⟩, ⟨g1, g2, g3⟩, g4⟩ := h
  refine (hc bl bp h1).mono fun en w' ⟨a, b⟩ => ⟨a, ?_, ?_⟩
  · obtain ⟨bl', bp', hs⟩ := b
    have hA := h2.row.lt
    have hal := h2.last.lt
    have hap := h2.now.lt
    have hnl := h1.row.lt
    refine ⟨bl', bp', al, ap, ⟨hs.at_, h2.beside hs.keeps (fun hm => h3 A hm (by simp)) (fun hm => h3 al hm (by simp)) (fun hm => h3 ap hm (by simp)), fun j hj => ?_⟩, ⟨g1, by rcases hs.l with e | e <;> omega, by rcases hs.p with e | e <;> omega⟩, g4⟩
    simp only [List.mem_cons, List.not_mem_nil, or_false] at hj
    rcases hj with rfl | rfl | rfl
    · exact h3 _ (by simp)
    · rcases hs.l with e | e
      · rw [e]; exact h3 _ (by simp)
      · simp only [List.mem_cons, List.not_mem_nil, or_false, not_or]; omega
    · rcases hs.p with e | e
      · rw [e]; exact h3 _ (by simp)
      · simp only [List.mem_cons, List.not_mem_nil, or_false, not_or]; omega
  · obtain ⟨_, _, b⟩ := b
    exact SpKeeps.of_beside h1 b.keeps g1 g2 g3
theorem copy_two {n₀ : Nat} {w : World} {B : Nat} {s : Spc} (h : IsSp n₀ w B s) :
    Calls Try.prog 17 #[ptr B] w fun en w' => en = .returned (ptr w.heap.size) ∧ IsTwo n₀ w' B s w.heap.size s ∧ Below w.heap.size w w' := by
  have hn := h.n_le
  obtain ⟨bl, bp, h, h1, h2, h3⟩ := h
  refine (copy_any h).mono ?_
  rintro en w' ⟨rfl, hc, hb⟩
  have e1 := h.row.lt
  have e2 := h.last.lt
  have e3 := h.now.lt
  refine ⟨rfl, ⟨bl, bp, _, _, ⟨h.below hb, hc, fun j hj => ?_⟩, ⟨h1, h2, h3⟩, ⟨hn, by omega, by omega⟩⟩, hb⟩
  simp only [List.mem_cons, List.not_mem_nil, or_false, not_or] at hj ⊢
  omega
theorem same_two {n₀ : Nat} {w : World} {B A : Nat} {s t : Spc} (h : IsTwo n₀ w B s A t) :
    Calls Try.prog 19 #[ptr B, ptr A] w fun en w' => SamePost w s t en w' := by
  obtain ⟨bl, bp, al, ap, ⟨h1, h2, h3⟩, -⟩ := h
  exact same_any h1 h2
end Go.Proofs.Ytmjjgdoekblelaa

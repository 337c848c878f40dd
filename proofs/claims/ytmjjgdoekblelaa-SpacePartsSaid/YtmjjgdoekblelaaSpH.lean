/- Layer 7: Lasts. -/
import Derived.Test.YtmjjgdoekblelaaSpG
namespace Go.Proofs.Ytmjjgdoekblelaa
open Go.RowKit Go.Maps

section
variable {P : Program} {kT : TypeId}
def delAt (f : Nat → Option Value) (k : Nat) : Nat → Option Value := fun j => if j = k then none else f j
/-- 'delete(m, k)'. -/
theorem IntMap.drop {T E : TypeId} {w : World} {b : Nat} {f : Nat → Option Value} (h : IntMap P kT w b f) (hkT : P.underlying kT = some (.int .i64)) (hT : P.underlying T = some (.map kT E)) (k : Nat) (hk : k ≤ 9223372036854775807) (ty : TypeId) :
    ∃ w', (Builtin.delete_ #[T, kT] ty #[.map (some b), .int .i64 k]).run P w = .ok (.tuple #[]) w' ∧ IntMap P kT w' b (delAt f k) ∧ w.grownBy w' (some b) := by
  obtain ⟨D, ho, hr⟩ := h
  have hkey : keyOf P kT (.int .i64 k) = some (.int .i64 k) := Maps.keyOf_int_mk hkT (wf_nat k hk)
  obtain ⟨w', hrun, h1, h2⟩ := ho.drop (Maps.int_keyed hkT) hT hkey ty
  refine ⟨w', hrun, ⟨_, h1, fun j zd => ?_, fun kl hh => ?_⟩, h2.grown⟩
  · by_cases hj : j = k
    · subst hj; rw [Maps.atKey_del_same]; simp [delAt]
    · rw [Maps.atKey_del_other (by intro e; apply hj; have : (j : Int) = k := by injection e
                                   omega), hr.at_]
      simp [delAt, hj]
  · by_cases hkk : kl = .int .i64 k
    · rw [hkk, Maps.has_del_same] at hh; cases hh
    · rw [Maps.has_del_other hkk] at hh
      exact hr.keys kl hh
theorem wpList_drop {T E : TypeId} {w : World} {ops : Array Oper} {rest : List Oper} {o : Oper} {a : Act} {Q : Exit → Act → World → Prop} {b : Nat} {f : Nat → Option Value} (hg : o.guard = none) (m x : Operand) (hop : o.op = Op.call { callee := Callee.builtin Builtin.delete, args := #[m, x], argTypes := #[T, kT] })
    (hkT : P.underlying kT = some (.int .i64)) (hT : P.underlying T = some (.map kT E)) (h : IntMap P kT w b f) (hm : a.eval m = .map (some b)) (k : Nat) (hk : k ≤ 9223372036854775807) (hx : a.eval x = .int .i64 k)
    (hK : ∀ w', IntMap P kT w' b (delAt f k) → w.grownBy w' (some b) → wpList P ops Q rest (a.put o.dst (.tuple #[])) w') : wpList P ops Q (o :: rest) a w := by
  refine wpList_plain hg fun K hK' => ?_
  obtain ⟨w', hrun, r1, r2⟩ := h.drop hkT hT k hk o.type
  unfold Oper.wp
  simp [execOp, hop, resolve, invoke, builtin, hm, hx, hrun, Result.andThen]
  exact hK' _ _ (hK w' r1 r2)
end
theorem mem_pgL {h : Nat} {now : Pl} {e : Nat} {x : Nat × Nat} : x ∈ pgL h now e ↔ 2 ≤ x.1 ∧ x.1 < e ∧ x.2 = isP h now x.1 := by
  unfold pgL
  simp only [List.mem_map, List.mem_range'_1]
  constructor
  · rintro ⟨j, ⟨h1, h2⟩, rfl⟩; exact ⟨h1, by simp only; omega, rfl⟩
  · rintro ⟨h1, h2, h3⟩; exact ⟨x.1, ⟨h1, by omega⟩, by rw [← h3]⟩
theorem mem_of {s : Spc} {ls : List Nat} {j : Nat} : j ∈ s.of ls ↔ 2 ≤ j ∧ j < s.high ∧ isP s.high s.now j ∈ ls := by
  unfold Spc.of ofL
  simp only [List.mem_map, List.mem_filter, List.contains_eq_mem, decide_eq_true_eq]
  constructor
  · rintro ⟨x, ⟨hx, hc⟩, rfl⟩
    obtain ⟨h1, h2, h3⟩ := mem_pgL.1 hx
    exact ⟨h1, h2, by rw [← h3]; exact hc⟩
  · rintro ⟨h1, h2, h3⟩
    exact ⟨(j, isP s.high s.now j), ⟨mem_pgL.2 ⟨h1, h2, rfl⟩, h3⟩, rfl⟩
theorem isP_in {h : Nat} {now : Pl} {j : Nat} (h2 : 2 ≤ j) (hj : j < h) : isP h now j = (now j).getD 1 := by
  unfold isP; rw [if_pos (by omega)]; rfl
def delL (f : Pl) (l : List Nat) : Pl := fun j => if j ∈ l then none else f j
def putL (f : Pl) (l : List Nat) (p : Nat) : Pl := fun j => if j ∈ l then some p else f j
theorem delL_nil (f : Pl) : delL f [] = f := by funext j; simp [delL]
theorem putL_nil (f : Pl) (p : Nat) : putL f [] p = f := by funext j; simp [putL]
theorem delL_snoc (f : Pl) (l : List Nat) (k : Nat) : delAt (plV (delL f l)) k = plV (delL f (l ++ [k])) := by
  funext j; unfold delAt plV delL
  by_cases hj : j = k
  · simp [hj]
  · simp [hj]
theorem putL_snoc (f : Pl) (l : List Nat) (k p : Nat) : putAt (plV (putL f l p)) k (.int .i64 p) = plV (putL f (l ++ [k]) p) := by
  funext j; unfold putAt plV putL
  by_cases hj : j = k
  · simp [hj]
  · simp [hj]
def Spc.lasted (s : Spc) : Pl := fun k => if s.now k = some 2 then none else if s.now k = some 3 then some 4 else s.now k
def Spc.lasts (s : Spc) : Spc := { s with now := s.lasted, last := s.lasted, lhigh := s.high }
/-- What it is between the two loops. -/
def Spc.mid (s : Spc) : Spc := { s with now := delL s.now (s.of [2]) }
theorem Spc.Ok.mid {s : Spc} (h : s.Ok) : s.mid.Ok :=
  ⟨h.most_hi, h.lo, h.lh, h.hi, fun k p hk => by
    simp only [Spc.mid, delL] at hk
    split at hk
    · cases hk
    · exact h.now_ k p hk, h.last_⟩
theorem mid_now {s : Spc} (h : s.Ok) (k : Nat) : s.mid.now k = if s.now k = some 2 then none else s.now k := by
  simp only [Spc.mid, delL, mem_of, List.mem_singleton]
  cases hk : s.now k with
  | none =>
    split <;> rfl
  | some p =>
    obtain ⟨h2, hk2, -⟩ := h.now_ k p hk
    rw [isP_in h2 hk2, hk]
    simp only [Option.getD_some, Option.some.injEq]
    by_cases hp : p = 2
    · rw [if_pos ⟨h2, hk2, hp⟩, if_pos hp]
    · rw [if_neg (fun e => hp e.2.2), if_neg hp]
theorem lasted_eq {s : Spc} (h : s.Ok) : putL s.mid.now (s.mid.of [3]) 4 = s.lasted := by
  funext k
  unfold putL
  have hm := mid_now h k
  simp only [mem_of, List.mem_singleton, Spc.lasted]
  have hh : s.mid.high = s.high := rfl
  rw [hh]
  cases hk : s.now k with
  | none =>
    rw [hk] at hm
    rw [if_neg (by rintro ⟨h2, hk2, e⟩; rw [isP_in h2 hk2, hm] at e; simp at e), hm]
    simp
  | some p =>
    rw [hk] at hm
    obtain ⟨h2, hk2, hp⟩ := h.now_ k p hk
    rw [isP_in h2 hk2, hm]
    rcases hp with rfl | rfl | rfl
    · simp
    · simp [h2, hk2]
    · simp
theorem Spc.Ok.lasts {s : Spc} (h : s.Ok) : s.lasts.Ok := by
  have hl : ∀ k p, s.lasted k = some p → 2 ≤ k ∧ k < s.high ∧ p = 4 := fun k p hk => by
    unfold Spc.lasted at hk
    split at hk
    · cases hk
    · rename_i h2
      split at hk
      · rename_i h3
        cases hk
        have := h.now_ k 3 h3
        exact ⟨this.1, this.2.1, rfl⟩
      · rename_i h3
        obtain ⟨a, b, c⟩ := h.now_ k p hk
        refine ⟨a, b, ?_⟩
        rcases c with rfl | rfl | rfl
        · exact absurd hk h2
        · exact absurd hk h3
        · rfl
  exact ⟨h.most_hi, Nat.le_trans h.lo h.lh, Nat.le_refl _, h.hi, fun k p hk => by obtain ⟨a, b, c⟩ := hl k p hk; exact ⟨a, b, .inr (.inr c)⟩, hl⟩
theorem nat_take {l : List Nat} {k : Nat} (hk : k < l.length) : l.take (k + 1) = l.take k ++ [l[k]?.getD 0] := by
  rw [List.take_succ_eq_append_getElem hk]; simp [hk]
theorem row_nat {w : World} {b g cap : Nat} {l : List Nat} {k : Nat} (h : w.ownsRow b 2 1 (.slice (some ⟨g, 0, none⟩) l.length cap) l.length (natVals l)) (hk : k < l.length) : w.cell? ⟨g, k, none⟩ = some (.int .i64 (l[k]?.getD 0 : Nat)) := by
  rw [h.cellAt k (by omega)]
  simp [natVals, hk]
theorem row_some {w : World} {b : Nat} {v : Value} {l : List Nat} (h : w.ownsRow b 2 1 v l.length (natVals l)) (hl : 0 < l.length) : ∃ g cap, v = .slice (some ⟨g, 0, none⟩) l.length cap ∧ b ≤ g ∧ g < w.heap.size := by
  rcases h.2 with ⟨_, h0⟩ | ⟨g, cap, cur, rfl, hb, hh, _⟩
  · omega
  · exact ⟨g, cap, rfl, hb, (Array.getElem?_eq_some_iff.1 hh).1⟩
end Go.Proofs.Ytmjjgdoekblelaa

/- Layer 7: what the law of the least page needs of memory: runs of pages that it made, a space beside them. -/
import Derived.Test.YtmjjgdoekblelaaSpLa
import Derived.Test.YtmjjgdoekblelaaStops
namespace Go.Proofs.Ytmjjgdoekblelaa
open Go.RowKit

/-- An append of numbers to numbers that the call made. -/
theorem app_nums (w : World) (ty base : Nat) (hb : base ≤ w.heap.size) (v : Value) (l : List Nat) (hO : OwnP w base v l) (b off c : Nat) (m : List Nat) (hp : ∀ j, j < m.length → w.cell? ⟨b, off + j, none⟩ = some (.int .i64 (m[j]?.getD 0 : Nat))) (hf : l.length + m.length ≤ 5000) :
    ∃ v' w', (Builtin.append_ #[23, 23] ty #[v, .slice (some ⟨b, off, none⟩) m.length c]).run Try.prog w = .ok v' w' ∧ OwnP w' base v' (l ++ m) ∧ w.grownBy w' v.ownBlock := by
  obtain ⟨i0, hi, hz0, hz1, hz2⟩ := info_parts infoI64
  obtain ⟨v', w', hr, h2, h3, -, -⟩ := run_append_own_at (P := Try.prog) w base 23 ty 2 i0 _ 1 8 Try.underlying23 hi hz0 hz1 hz2 rfl (by decide) v l.length (natVals l) hO ⟨b, off, none⟩ m.length c (natVals m) (by simp [natVals]) (fun j u hu => by
    have hj : j < m.length := by have := (List.getElem?_eq_some_iff.1 hu).1; simpa [natVals] using this
    rw [addr_add, hp j hj]
    simp only [natVals, List.getElem?_map, List.getElem?_eq_getElem hj, Option.map_some, Option.some.injEq] at hu
    subst hu
    simp [hj]) (by
    intro u hu
    simp only [natVals, List.mem_map] at hu
    obtain ⟨q, -, rfl⟩ := hu
    rfl) (by unfold maxLen; omega) (by omega) hb
  exact ⟨v', w', hr, by unfold OwnP; simpa [natVals] using h2, h3⟩
theorem OwnP.nil (w : World) (base : Nat) : OwnP w base (.slice none 0 0) [] := World.ownsRow_nil _ _ _ _
theorem OwnP.cells {w : World} {b : Nat} {v : Value} {l : List Nat} (h : OwnP w b v l) (hl : l ≠ []) : ∃ g c, v = .slice (some ⟨g, 0, none⟩) l.length c ∧ b ≤ g ∧ g < w.heap.size ∧ l.length ≤ c ∧ (∃ cs, w.heap[g]? = some (.cells cs 2 (0, 0)) ∧ c ≤ cs.size) ∧ ∀ j, j < l.length → w.cell? ⟨g, j, none⟩ = some (.int .i64 (l[j]?.getD 0 : Nat)) := by
  obtain ⟨hlen, ⟨rfl, h0⟩ | ⟨g, cap, cur, rfl, hg, hh, hn, hcap, hsz, htk⟩⟩ := h
  · exact absurd (List.eq_nil_of_length_eq_zero h0) hl
  · refine ⟨g, cap, rfl, hg, (Array.getElem?_eq_some_iff.1 hh).1, hn, ⟨cur, hh, by omega⟩, fun j hj => ?_⟩
    rw [cell_of_row w g _ _ _ _ hh]
    have h1 : (cur.toList.take (l.length * 1))[j]? = some (.int .i64 (l[j]?.getD 0 : Nat)) := by
      rw [htk]; unfold natVals; rw [List.getElem?_map, List.getElem?_eq_getElem hj]; simp
    rw [List.getElem?_take, if_pos (by omega), Array.getElem?_toList] at h1
    exact h1
theorem OwnP.own {w : World} {b : Nat} {v : Value} {l : List Nat} (h : OwnP w b v l) : ∀ g, v.ownBlock = some g → ∃ cs fr T, w.heap[g]? = some (.cells cs T fr) ∧ T ≠ 59 := fun g hg => by
  obtain ⟨hlen, ⟨rfl, h0⟩ | ⟨g', cap, cur, rfl, hg', hh, hn, hcap, hsz, htk⟩⟩ := h
  · cases hg
  · cases hg
    exact ⟨_, _, _, hh, by decide⟩
theorem append_nils (w : World) (ty : Nat) : (Builtin.append_ #[23, 23] ty #[.slice none 0 0, .slice none 0 0]).run Try.prog w = .ok (.slice none 0 0) w := by
  obtain ⟨i0, hi, hz0, hz1, hz2⟩ := info_parts infoI64
  simp [Builtin.append_, go_sem, hi, sizeOf, typeInfo, Builtin.lenOf, Builtin.firstCells]
/-- A copy of numbers that the call made. -/
theorem copy_nums (w : World) (ty base n : Nat) (hb : base ≤ w.heap.size) (v : Value) (l : List Nat) (hO : OwnP w n v l) (hf : l.length ≤ 5000) :
    ∃ v' w', (Builtin.append_ #[23, 23] ty #[.slice none 0 0, v]).run Try.prog w = .ok v' w' ∧ OwnP w' base v' l ∧ Below w.heap.size w w' := by
  by_cases hl : l = []
  · subst hl
    obtain ⟨hlen, ⟨rfl, h0⟩ | ⟨g, cap, cur, rfl, hg, hh, hn, hcap, hsz, htk⟩⟩ := hO
    · exact ⟨_, w, append_nils w ty, OwnP.nil _ _, Below.refl _ _⟩
    · obtain ⟨v', w', hr, h1, h2⟩ := app_nums w ty base hb (.slice none 0 0) [] (OwnP.nil _ _) g 0 cap [] (fun j hj => absurd hj (Nat.not_lt_zero _)) (by simp)
      exact ⟨v', w', hr, h1, (Below.refl _ _).grown h2 (Nat.le_refl _) (fun k e => by cases e)⟩
  · obtain ⟨g, c, rfl, -, -, -, -, hc⟩ := hO.cells hl
    obtain ⟨v', w', hr, h1, h2⟩ := app_nums w ty base hb (.slice none 0 0) [] (OwnP.nil _ _) g 0 c l (fun j hj => by rw [Nat.zero_add]; exact hc j hj) (by simpa using hf)
    exact ⟨v', w', hr, by simpa using h1, (Below.refl _ _).grown h2 (Nat.le_refl _) (fun k e => by cases e)⟩
end Go.Proofs.Ytmjjgdoekblelaa

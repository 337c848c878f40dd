/- An argument that is a run of structs of four cells each, opened: of no program. -/
import Derived.Deep.Slices
import Derived.Deep.Fields
import Derived.ChangeSame
import Derived.Test.YtkophpipehdkmaaKit
namespace Go.Proofs.Ytkophpipehdkmaa
open Go.ChangeShapes Go.WideShapes Go.RowKit Go.Deep

section
variable {H : Type} {enc : TypeId × Value → H} {P : Program}
/-- What is known of one of them: its four cells, each of which reads as its field's type. -/
def FourAt (enc : TypeId × Value → H) (P : Program) (W : World) (p : Addr) (fs : Array Field) (c0 c1 c2 c3 : Value) : Prop :=
  W.cell? p = some c0 ∧ W.cell? (p.add 1) = some c1 ∧ W.cell? (p.add 2) = some c2 ∧ W.cell? (p.add 3) = some c3 ∧
  ∀ (j : Nat) (f : Field) (c : Value), fs[j]? = some f → [c0, c1, c2, c3][j]? = some c → ∃ n y, DataW.trod enc P W 0 (fun _ => true) true n f.type [c] = some y
theorem open_fours {t e : TypeId} {fs : Array Field} {base : Nat} {W : World} {v : Value} {d : DataW H} {ps : List MemPlace} (ht : P.underlying t = some (.slice e)) (he : P.underlying e = some (.struct fs)) (hn : fs.size = 4)
    (hone : oneCellFields P fs = true) (hC : P.cellsOf e = 4) (hok : Value.okWide P W .any base t v) (h : DataW.Trod enc P W 0 (fun _ => true) true t v d ps) :
    ∃ a len cap, v = .slice a len cap ∧ len ≤ cap ∧ cap ≤ maxLen ∧ (len = 0 ∨ ∃ b off, a = some ⟨b, off, none⟩ ∧ b < W.heap.size ∧ ∀ i, i < len → ∃ c0 c1 c2 c3, FourAt enc P W ⟨b, off + i * 4, none⟩ fs c0 c1 c2 c3) := by
  obtain ⟨a0, len, cap, rfl⟩ := okWide_slice ht hok
  obtain ⟨fuel, hf⟩ := h
  rcases open_slice ht hf with ⟨hcs, hx⟩ | ⟨a, len', cap', m, n, D, Pl, hcs, _, hl, hm, hmm, hx, hi⟩
  · simp [Value.cells] at hcs
    obtain ⟨rfl, rfl, rfl⟩ := hcs
    exact ⟨none, 0, 0, rfl, Nat.le_refl _, Nat.zero_le _, .inl rfl⟩
  · simp [Value.cells] at hcs
    obtain ⟨rfl, rfl, rfl⟩ := hcs
    simp only [if_true] at hmm
    refine ⟨some a, len, cap, rfl, hl, hm, ?_⟩
    rcases Nat.eq_zero_or_pos len with h0 | h0
    · exact .inl h0
    · refine .inr ?_
      have key : ∀ i, i < len → ∃ c0 c1 c2 c3, FourAt enc P W (a.add (i * 4)) fs c0 c1 c2 c3 := fun i hil => by
        obtain ⟨cs', hc, ht'⟩ := hi i (by omega)
        rw [hC] at hc
        obtain ⟨_, hcl, hat⟩ := World.cells?_some hc
        match cs', hcl with
        | [c0, c1, c2, c3], _ =>
          refine ⟨c0, c1, c2, c3, ?_, hat 1 (by omega), hat 2 (by omega), hat 3 (by omega), ?_⟩
          · have := hat 0 (by omega)
            rw [Go.Deep.add_add, Nat.add_zero] at this
            exact this
          · intro j f c hj hcj
            obtain ⟨ys, n', _, _, _, hyl, hfj⟩ := DataW.trod_struct he ht'
            obtain ⟨ho, hk⟩ := hone_of hone j f hj
            have hjl : j < fs.size := (Array.getElem?_eq_some_iff.1 hj).1
            have h1 := hfj j f hj
            rw [ho, hk] at h1
            have e1 : ([c0, c1, c2, c3].drop j).take 1 = [c] := by
              match j, hn ▸ hjl with
              | 0, _ => simp at hcj; subst hcj; rfl
              | 1, _ => simp at hcj; subst hcj; rfl
              | 2, _ => simp at hcj; subst hcj; rfl
              | 3, _ => simp at hcj; subst hcj; rfl
            rw [e1] at h1
            exact ⟨n', _, h1.trans (List.getElem?_eq_getElem (by omega))⟩
      obtain ⟨c0, c1, c2, c3, hk, -⟩ := key 0 h0
      obtain ⟨b, off, spot⟩ := a
      have hspot : spot = none := by simpa [Addr.add] using World.cell?_spot hk
      subst hspot
      refine ⟨b, off, rfl, ?_, fun i hil => ?_⟩
      · have := cell_lt hk; simpa [Addr.add] using this
      · have := key i hil
        rw [addr_add] at this
        exact this
theorem trod_int_of {W : World} {n : Nat} {t : TypeId} {k : IntKind} {c : Value} {y : DataW H × List MemPlace} (ht : P.underlying t = some (.int k)) (h : DataW.trod enc P W 0 (fun _ => true) true n t [c] = some y) : ∃ z, c = .int k z ∧ (Lit.int k z).wf = true := by
  obtain ⟨z, hc, _, hw⟩ := DataW.trod_int ht h
  simp at hc
  exact ⟨z, hc, hw⟩
theorem trod_string_of {W : World} {n : Nat} {t : TypeId} {c : Value} {y : DataW H × List MemPlace} (ht : P.underlying t = some .string) (h : DataW.trod enc P W 0 (fun _ => true) true n t [c] = some y) : ∃ s, c = .string s ∧ s.size ≤ maxLen := by
  obtain ⟨s, hc, _, hs⟩ := DataW.trod_string ht h
  simp at hc
  exact ⟨s, hc, hs⟩
end
end Go.Proofs.Ytkophpipehdkmaa

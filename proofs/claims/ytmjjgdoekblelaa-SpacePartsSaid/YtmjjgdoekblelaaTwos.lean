/- Arguments opened: a run of structs of two cells each, a run of ints, an array of two ints. Of no program. -/
import Derived.Deep.Slices
import Derived.Deep.Fields
import Derived.ChangeSame
import Derived.ChangeArms
import Derived.WideShapes
import Derived.Test.YtmjjgdoekblelaaKit
namespace Go.Proofs.Ytmjjgdoekblelaa
open Go.ChangeShapes Go.WideShapes Go.RowKit Go.Deep

section
variable {H : Type} {enc : TypeId × Value → H} {P : Program}
/-- What is known of one of them: its two cells, each of which reads as its field's type. -/
def TwoCells (enc : TypeId × Value → H) (P : Program) (W : World) (p : Addr) (fs : Array Field) (c0 c1 : Value) : Prop :=
  W.cell? p = some c0 ∧ W.cell? (p.add 1) = some c1 ∧
  ∀ (j : Nat) (f : Field) (c : Value), fs[j]? = some f → [c0, c1][j]? = some c → ∃ n y, DataW.trod enc P W 0 (fun _ => true) true n f.type [c] = some y
theorem open_twos {t e : TypeId} {fs : Array Field} {base : Nat} {W : World} {v : Value} {d : DataW H} {ps : List MemPlace} (ht : P.underlying t = some (.slice e)) (he : P.underlying e = some (.struct fs)) (hn : fs.size = 2)
    (hone : oneCellFields P fs = true) (hC : P.cellsOf e = 2) (hok : Value.okWide P W .any base t v) (h : DataW.Trod enc P W 0 (fun _ => true) true t v d ps) :
    ∃ a len cap, v = .slice a len cap ∧ len ≤ cap ∧ cap ≤ maxLen ∧ (len = 0 ∨ ∃ b off, a = some ⟨b, off, none⟩ ∧ b < W.heap.size ∧ ∀ i, i < len → ∃ c0 c1, TwoCells enc P W ⟨b, off + i * 2, none⟩ fs c0 c1) := by
  obtain ⟨a0, len, cap, rfl⟩ := okWide_slice ht hok
  obtain ⟨fuel, hf⟩ := h
  rcases open_slice ht hf with ⟨hcs, hx⟩ | ⟨a, len', cap', m, n, D, Pl, hcs, _, hl, hm, hmm, hx, hi⟩
  · simp [Value.cells] at hcs
    obtain ⟨rfl, rfl, rfl⟩ := hcs
    exact ⟨none, 0, 0, rfl, Nat.le_refl _, Nat.zero_le _, .inl rfl⟩
  · simp [Value.cells] at hcs
    obtain ⟨rfl, rfl, rfl⟩ := hcs
    simp only [if_true] at hmm
    refine ⟨some a, len, cap, rfl, hl, hm, ?_⟩
    rcases Nat.eq_zero_or_pos len with h0 | h0
    · exact .inl h0
    · refine .inr ?_
      have key : ∀ i, i < len → ∃ c0 c1, TwoCells enc P W (a.add (i * 2)) fs c0 c1 := fun i hil => by
        obtain ⟨cs', hc, ht'⟩ := hi i (by omega)
        rw [hC] at hc
        obtain ⟨_, hcl, hat⟩ := World.cells?_some hc
        match cs', hcl with
        | [c0, c1], _ =>
          refine ⟨c0, c1, ?_, hat 1 (by omega), ?_⟩
          · have := hat 0 (by omega)
            rw [Go.Deep.add_add, Nat.add_zero] at this
            exact this
          · intro j f c hj hcj
            obtain ⟨ys, n', _, _, _, hyl, hfj⟩ := DataW.trod_struct he ht'
            obtain ⟨ho, hk⟩ := hone_of hone j f hj
            have hjl : j < fs.size := (Array.getElem?_eq_some_iff.1 hj).1
            have h1 := hfj j f hj
            rw [ho, hk] at h1
            have e1 : ([c0, c1].drop j).take 1 = [c] := by
              match j, hn ▸ hjl with
              | 0, _ => simp at hcj; subst hcj; rfl
              | 1, _ => simp at hcj; subst hcj; rfl
            rw [e1] at h1
            exact ⟨n', _, h1.trans (List.getElem?_eq_getElem (by omega))⟩
      obtain ⟨c0, c1, hk, -⟩ := key 0 h0
      obtain ⟨b, off, spot⟩ := a
      have hspot : spot = none := by simpa [Addr.add] using World.cell?_spot hk
      subst hspot
      refine ⟨b, off, rfl, ?_, fun i hil => ?_⟩
      · have := cell_lt hk; simpa [Addr.add] using this
      · have := key i hil
        rw [addr_add] at this
        exact this
theorem trod_int_of {W : World} {n : Nat} {t : TypeId} {k : IntKind} {c : Value} {y : DataW H × List MemPlace} (ht : P.underlying t = some (.int k)) (h : DataW.trod enc P W 0 (fun _ => true) true n t [c] = some y) : ∃ z, c = .int k z ∧ (Lit.int k z).wf = true := by
  obtain ⟨z, hc, _, hw⟩ := DataW.trod_int ht h
  simp at hc
  exact ⟨z, hc, hw⟩
/-- An argument of ints, opened. -/
theorem open_introw {t e : TypeId} {base : Nat} {W : World} {v : Value} {d : DataW H} {ps : List MemPlace} (ht : P.underlying t = some (.slice e)) (he : P.underlying e = some (.int .i64)) (hc : P.cellsOf e = 1)
    (hok : Value.okWide P W .any base t v) (h : DataW.Trod enc P W 0 (fun _ => true) true t v d ps) :
    ∃ a l cap, v = .slice a (l : List Int).length cap ∧ l.length ≤ cap ∧ cap ≤ maxLen ∧ (l ≠ [] → ∃ b off, a = some ⟨b, off, none⟩ ∧ b < W.heap.size ∧ ∀ j, j < l.length → W.cell? ⟨b, off + j, none⟩ = some (.int .i64 (l[j]?.getD 0))) := by
  obtain ⟨a0, len, cap, rfl⟩ := okWide_slice ht hok
  obtain ⟨fuel, hf⟩ := h
  rcases open_ints ht he hc hf with ⟨hcs, hx⟩ | ⟨a, len', cap', zs, hcs, _, hl, hm, hz, hx, hcell, hwz⟩
  · simp [Value.cells] at hcs
    obtain ⟨rfl, rfl, rfl⟩ := hcs
    exact ⟨none, [], 0, rfl, Nat.le_refl _, Nat.zero_le _, fun h => absurd rfl h⟩
  · simp [Value.cells] at hcs
    obtain ⟨rfl, rfl, rfl⟩ := hcs
    simp only [if_true] at hz
    refine ⟨some a, zs.take len, cap, ?_, ?_, hm, ?_⟩
    · simp; omega
    · simp; omega
    · intro hne
      have hlen : 0 < len := by
        rcases Nat.eq_zero_or_pos len with h0 | h0
        · subst h0; simp at hne
        · exact h0
      obtain ⟨b, off, spot⟩ := a
      have hspot : spot = none := by simpa [Addr.add] using World.cell?_spot (hcell 0 (by omega))
      subst hspot
      refine ⟨b, off, rfl, ?_, fun j hj => ?_⟩
      · have := cell_lt (hcell 0 (by omega)); simpa [Addr.add] using this
      · have hj1 : j < len ∧ j < zs.length := by simp at hj; omega
        have h1 := hcell j (by omega)
        have e3 : (⟨b, off, none⟩ : Addr).add j = ⟨b, off + j, none⟩ := addr_add b off j
        rw [List.getElem?_take, if_pos hj1.1, ← e3, h1]
        simp [List.getD]
theorem open_two {t e : TypeId} {base : Nat} {W : World} {v : Value} {d : DataW H} {ps : List MemPlace} (ht : P.underlying t = some (.array 2 e)) (he : P.underlying e = some (.int .i64)) (ct : P.cellsOf t = 2) (ce : P.cellsOf e = 1)
    (hok : Value.okWide P W .any base t v) (h : DataW.Trod enc P W 0 (fun _ => true) true t v d ps) : ∃ z0 z1, v = .agg #[.int .i64 z0, .int .i64 z1] := by
  unfold Value.okWide at hok
  rw [ht] at hok
  obtain ⟨cs, rfl, hsz, -⟩ := hok
  rw [ct] at hsz
  obtain ⟨fuel, hf⟩ := h
  obtain ⟨xs, m, -, -, -, hlen, hel⟩ := DataW.trod_array ht hf
  obtain ⟨c0, c1, rfl⟩ : ∃ c0 c1, cs = #[c0, c1] := by
    match cs, hsz with
    | ⟨[c0, c1]⟩, _ => exact ⟨c0, c1, rfl⟩
  have hget : ∀ i (hi : i < 2) (c : Value), (([c0, c1].drop (i * P.cellsOf e)).take (P.cellsOf e)) = [c] → ∃ z, c = .int .i64 z := fun i hi c hc => by
    have h1 := hel i hi
    rw [show (Value.agg #[c0, c1]).cells.toList = [c0, c1] from rfl, hc, List.getElem?_eq_getElem (by omega)] at h1
    obtain ⟨z, hz, -, -⟩ := DataW.trod_int he h1
    exact ⟨z, by simpa using hz⟩
  obtain ⟨z0, rfl⟩ := hget 0 (by decide) c0 (by rw [ce]; rfl)
  obtain ⟨z1, rfl⟩ := hget 1 (by decide) c1 (by rw [ce]; rfl)
  exact ⟨z0, z1, rfl⟩
end
end Go.Proofs.Ytmjjgdoekblelaa

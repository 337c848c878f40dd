/- Layer 7: an array of two runs of calls opened; when two spaces are like each other. -/
import Derived.Test.YtmjjgdoekblelaaSpZd
namespace Go.Proofs.Ytmjjgdoekblelaa
open Go.ChangeShapes Go.WideShapes Go.RowKit Go.Deep

section
variable {H : Type} {enc : TypeId × Value → H} {P : Program}
theorem open_twos0 {t e : TypeId} {fs : Array Field} {W : World} {a0 : Option Addr} {len cap : Nat} {d : DataW H} {ps : List MemPlace} (ht : P.underlying t = some (.slice e)) (he : P.underlying e = some (.struct fs)) (hn : fs.size = 2)
    (hone : oneCellFields P fs = true) (hC : P.cellsOf e = 2) (h : DataW.Trod enc P W 0 (fun _ => true) true t (.slice a0 len cap) d ps) :
    len ≤ cap ∧ cap ≤ maxLen ∧ (len = 0 ∨ ∃ b off, a0 = some ⟨b, off, none⟩ ∧ b < W.heap.size ∧ ∀ i, i < len → ∃ c0 c1, TwoCells enc P W ⟨b, off + i * 2, none⟩ fs c0 c1) := by
  obtain ⟨fuel, hf⟩ := h
  rcases open_slice ht hf with ⟨hcs, hx⟩ | ⟨a, len', cap', m, n, D, Pl, hcs, _, hl, hm, hmm, hx, hi⟩
  · simp [Value.cells] at hcs
    obtain ⟨rfl, rfl, rfl⟩ := hcs
    exact ⟨Nat.le_refl _, Nat.zero_le _, .inl rfl⟩
  · simp [Value.cells] at hcs
    obtain ⟨rfl, rfl, rfl⟩ := hcs
    simp only [if_true] at hmm
    refine ⟨hl, hm, ?_⟩
    rcases Nat.eq_zero_or_pos len with h0 | h0
    · exact .inl h0
    · refine .inr ?_
      have key : ∀ i, i < len → ∃ c0 c1, TwoCells enc P W (a.add (i * 2)) fs c0 c1 := fun i hil => by
        obtain ⟨cs', hc, ht'⟩ := hi i (by omega)
        rw [hC] at hc
        obtain ⟨_, hcl, hat⟩ := World.cells?_some hc
        match cs', hcl with
        | [c0, c1], _ =>
          refine ⟨c0, c1, ?_, hat 1 (by omega), ?_⟩
          · have := hat 0 (by omega)
            rw [Go.Deep.add_add, Nat.add_zero] at this
            exact this
          · intro j f c hj hcj
            obtain ⟨ys, n', _, _, _, hyl, hfj⟩ := DataW.trod_struct he ht'
            obtain ⟨ho, hk⟩ := hone_of hone j f hj
            have hjl : j < fs.size := (Array.getElem?_eq_some_iff.1 hj).1
            have h1 := hfj j f hj
            rw [ho, hk] at h1
            have e1 : ([c0, c1].drop j).take 1 = [c] := by
              match j, hn ▸ hjl with
              | 0, _ => simp at hcj; subst hcj; rfl
              | 1, _ => simp at hcj; subst hcj; rfl
            rw [e1] at h1
            exact ⟨n', _, h1.trans (List.getElem?_eq_getElem (by omega))⟩
      obtain ⟨c0, c1, hk, -⟩ := key 0 h0
      obtain ⟨b, off, spot⟩ := a
      have hspot : spot = none := by simpa [Addr.add] using World.cell?_spot hk
      subst hspot
      refine ⟨b, off, rfl, ?_, fun i hil => ?_⟩
      · have := cell_lt hk; simpa [Addr.add] using this
      · have := key i hil
        rw [addr_add] at this
        exact this
end
section
variable {H : Type} {enc : TypeId × Value → H}
set_option maxRecDepth 100000 in
theorem open_acts0 {W : World} {a : Option Addr} {len cap : Nat} {d : DataW H} {ps : List MemPlace} (h : DataW.Trod enc Try.prog W 0 (fun _ => true) true 24 (.slice a len cap) d ps) :
    ∃ L : List (Int × Int), len = L.length ∧ L.length ≤ 9223372036854775807 ∧ ActsAt W.heap.size W a L := by
  obtain ⟨hl, hm, hr⟩ := open_twos0 Try.underlying24 Try.underlying35 rfl (by kernel_rfl) (by kernel_rfl) h
  unfold maxLen at hm
  rcases hr with rfl | ⟨b, off, rfl, hb, hc⟩
  · exact ⟨[], rfl, by simp, fun h => absurd rfl h⟩
  · have key : ∀ i, ∃ p : Int × Int, i < len → W.cell? ⟨b, off + i * 2, none⟩ = some (.int .i64 p.1) ∧ W.cell? ⟨b, off + i * 2 + 1, none⟩ = some (.int .i64 p.2) := fun i => by
      by_cases hi : i < len
      · obtain ⟨c0, c1, h0, h1, hf⟩ := hc i hi
        obtain ⟨n0, y0, t0⟩ := hf 0 _ c0 rfl rfl
        obtain ⟨n1, y1, t1⟩ := hf 1 _ c1 rfl rfl
        obtain ⟨z0, rfl, w0⟩ := trod_int_of Try.underlying3 t0
        obtain ⟨z1, rfl, w1⟩ := trod_int_of Try.underlying2 t1
        rw [addr_add] at h1
        exact ⟨(z0, z1), fun _ => ⟨h0, h1⟩⟩
      · exact ⟨(0, 0), fun h => absurd h hi⟩
    obtain ⟨f, hf⟩ := Classical.axiomOfChoice key
    refine ⟨(List.range len).map f, by simp, by simp; omega, fun _ => ⟨b, off, rfl, hb, fun j hj => ?_⟩⟩
    have hj' : j < len := by simpa using hj
    have e1 : ((List.range len).map f)[j]?.getD (0, 0) = f j := by simp [hj']
    rw [e1]
    exact hf j hj'
theorem slice_of {W : World} {fuel : Nat} {c : Value} {y : DataW H × List MemPlace} (h : DataW.trod enc Try.prog W 0 (fun _ => true) true fuel 24 [c] = some y) :
    ∃ a len cap, c = .slice a len cap ∧ DataW.Trod enc Try.prog W 0 (fun _ => true) true 24 (.slice a len cap) y.1 y.2 := by
  rcases open_slice Try.underlying24 h with ⟨hcs, hx⟩ | ⟨a, len', cap', m, n, D, Pl, hcs, _, hl, hm, hmm, hx, hi⟩
  · simp at hcs
    subst hcs
    exact ⟨none, 0, 0, rfl, fuel, h⟩
  · simp at hcs
    subst hcs
    exact ⟨some a, len', cap', rfl, fuel, h⟩
set_option maxRecDepth 100000 in
theorem open_acts2 {base : Nat} {W : World} {v : Value} {d : DataW H} {ps : List MemPlace} (hok : Value.okWide Try.prog W .any base 45 v) (h : DataW.Trod enc Try.prog W 0 (fun _ => true) true 45 v d ps) :
    ∃ (a0 : Option Addr) (L0 : List (Int × Int)) (c0 : Nat) (a1 : Option Addr) (L1 : List (Int × Int)) (c1 : Nat), v = .agg #[.slice a0 L0.length c0, .slice a1 L1.length c1] ∧ L0.length ≤ 9223372036854775807 ∧ L1.length ≤ 9223372036854775807 ∧ ActsAt W.heap.size W a0 L0 ∧ ActsAt W.heap.size W a1 L1 := by
  have ct : Try.prog.cellsOf 45 = 2 := by kernel_rfl
  have ce : Try.prog.cellsOf 24 = 1 := by kernel_rfl
  unfold Value.okWide at hok
  rw [Try.underlying45] at hok
  obtain ⟨cs, rfl, hsz, -⟩ := hok
  rw [ct] at hsz
  obtain ⟨fuel, hf⟩ := h
  obtain ⟨xs, m, -, -, -, hlen, hel⟩ := DataW.trod_array Try.underlying45 hf
  obtain ⟨c0, c1, rfl⟩ : ∃ c0 c1, cs = #[c0, c1] := by
    match cs, hsz with
    | ⟨[c0, c1]⟩, _ => exact ⟨c0, c1, rfl⟩
  have hget : ∀ i (hi : i < 2) (c : Value), (([c0, c1].drop (i * Try.prog.cellsOf 24)).take (Try.prog.cellsOf 24)) = [c] → ∃ (a : Option Addr) (L : List (Int × Int)) (cap : Nat), c = .slice a L.length cap ∧ L.length ≤ 9223372036854775807 ∧ ActsAt W.heap.size W a L := fun i hi c hc => by
    have h1 := hel i hi
    rw [show (Value.agg #[c0, c1]).cells.toList = [c0, c1] from rfl, hc, List.getElem?_eq_getElem (by omega)] at h1
    obtain ⟨a, len, cap, rfl, hT⟩ := slice_of h1
    obtain ⟨L, rfl, hL, hA⟩ := open_acts0 hT
    exact ⟨a, L, cap, rfl, hL, hA⟩
  obtain ⟨a0, L0, k0, rfl, hL0, hA0⟩ := hget 0 (by decide) c0 (by rw [ce]; rfl)
  obtain ⟨a1, L1, k1, rfl, hL1, hA1⟩ := hget 1 (by decide) c1 (by rw [ce]; rfl)
  exact ⟨a0, L0, k0, a1, L1, k1, rfl, hL0, hL1, hA0, hA1⟩
end
/-- Lists of pages tell what the maps hold. -/
theorem pl_of_list {h : Nat} {f k : Pl} (hf : ∀ j p, f j = some p → 2 ≤ j ∧ j < h ∧ (p = 2 ∨ p = 3 ∨ p = 4)) (hk : ∀ j p, k j = some p → 2 ≤ j ∧ j < h ∧ (p = 2 ∨ p = 3 ∨ p = 4)) (e : listOf h f = listOf h k) : f = k := by
  funext j
  by_cases hj : 2 ≤ j ∧ j < h
  · have h1 := listOf_get h f hj.2
    rw [e, listOf_get h k hj.2, isP_cast hj.1 hj.2, isP_cast hj.1 hj.2] at h1
    cases ef : f j with
    | none =>
      cases ek : k j with
      | none => rfl
      | some q =>
        have := (hk j q ek).2.2
        rw [ef, ek] at h1; simp at h1; omega
    | some p =>
      have hp := (hf j p ef).2.2
      cases ek : k j with
      | none => rw [ef, ek] at h1; simp at h1; omega
      | some q => rw [ef, ek] at h1; simp at h1; rw [h1]
  · cases ef : f j with
    | none =>
      cases ek : k j with
      | none => rfl
      | some q => exact absurd ⟨(hk j q ek).1, (hk j q ek).2.1⟩ hj
    | some p => exact absurd ⟨(hf j p ef).1, (hf j p ef).2.1⟩ hj
theorem Agr.like {s t : Spc} {g o : GSp} (h1 : Agr s g) (h2 : Agr t o) (k1 : s.Ok) (k2 : t.Ok) (hm : s.most = t.most) : s.like t ↔ g.now = o.now ∧ g.last = o.last := by
  constructor
  · rintro ⟨-, e1, e2, e3, e4⟩
    rw [h1.now_, h2.now_, h1.last_, h2.last_, e1, e2, e3, e4]
    exact ⟨rfl, rfl⟩
  · rintro ⟨e1, e2⟩
    rw [h1.now_, h2.now_] at e1
    rw [h1.last_, h2.last_] at e2
    have l1 : s.high = t.high := by have := congrArg List.length e1; rwa [listOf_len, listOf_len] at this
    have l2 : s.lhigh = t.lhigh := by have := congrArg List.length e2; rwa [listOf_len, listOf_len] at this
    rw [l1] at e1
    rw [l2] at e2
    refine ⟨hm, l1, l2, pl_of_list (fun j p hj => ?_) k2.now_ e1, pl_of_list (fun j p hj => ?_) (fun j p hj => ?_) e2⟩
    · rw [← l1]; exact k1.now_ j p hj
    · obtain ⟨a, b, c⟩ := k1.last_ j p hj
      exact ⟨a, by rw [← l2]; exact b, .inr (.inr c)⟩
    · obtain ⟨a, b, c⟩ := k2.last_ j p hj
      exact ⟨a, b, .inr (.inr c)⟩
end Go.Proofs.Ytmjjgdoekblelaa

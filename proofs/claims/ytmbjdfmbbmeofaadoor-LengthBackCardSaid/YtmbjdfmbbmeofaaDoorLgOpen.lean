/- Layer 15: an argument of runs of bytes, opened. -/
import Derived.Deep.Matrix
import Derived.Test.YtmbjdfmbbmeofaaDoorLgLaid
import Derived.Test.YtmbjdfmbbmeofaaDoorLgJ
namespace Go.Proofs.YtmbjdfmbbmeofaaDoor
open Go.ChangeShapes Go.WideShapes Go.RowKit

def bytes15 (zs : List Int) : List UInt8 := zs.map fun z => UInt8.ofNat z.toNat
theorem bytes15_get {zs : List Int} (hw : ∀ n ∈ zs, (Lit.int .u8 n).wf = true) {j : Nat} (hj : j < zs.length) : (((bytes15 zs)[j]?.getD 0).toNat : Int) = zs.getD j 0 := by
  have h1 := wf_u8 (hw (zs.getD j 0) (by simp [List.getD, List.getElem?_eq_getElem hj]))
  have e : ((bytes15 zs)[j]?.getD 0).toNat = (zs.getD j 0).toNat := by
    rw [bytes15, List.getElem?_map, List.getElem?_eq_getElem hj]
    simp only [List.getD, List.getElem?_eq_getElem hj, Option.map_some, Option.getD_some] at h1 ⊢
    exact UInt8.toNat_ofNat_of_lt' (by have : UInt8.size = 256 := rfl; omega)
  rw [e]; omega

section
variable {H : Type} {enc : TypeId × Value → H} {P : Program}
/-- An argument of parts, opened. -/
theorem open_runs15 {t e q : TypeId} {base : Nat} {W : World} {v : Value} {d : DataW H} {ps : List MemPlace} (ht : P.underlying t = some (.slice e)) (he : P.underlying e = some (.slice q)) (hq : P.underlying q = some (.int .u8)) (ce : P.cellsOf e = 1) (cq : P.cellsOf q = 1)
    (hok : Value.okWide P W .any base t v) (h : DataW.Trod enc P W 0 (fun _ => true) true t v d ps) :
    ∃ a ls cap, v = .slice a (ls : List (List UInt8)).length cap ∧ LgRuns W.heap.size W a ls := by
  obtain ⟨a0, len, cap, rfl⟩ := okWide_slice ht hok
  obtain ⟨fuel, hf⟩ := h
  rcases Deep.open_int_rows ht he hq ce cq hf with ⟨hcs, hx⟩ | ⟨a, len', cap', A, L, C, Z, hcs, _, hl, hm, -, hrow⟩
  · simp [Value.cells] at hcs
    obtain ⟨rfl, rfl, rfl⟩ := hcs
    exact ⟨none, [], 0, rfl, fun hne => absurd rfl hne⟩
  · simp [Value.cells] at hcs
    obtain ⟨rfl, rfl, rfl⟩ := hcs
    refine ⟨some a, (List.range len).map fun r => bytes15 ((Z r).take (L r)), cap, by simp, fun hne => ?_⟩
    have hlen : 0 < len := by
      rcases Nat.eq_zero_or_pos len with h0 | h0
      · subst h0; simp at hne
      · exact h0
    obtain ⟨b, off, spot⟩ := a
    have hspot : spot = none := by simpa [Addr.add] using World.cell?_spot (hrow 0 (by omega)).1
    subst hspot
    refine ⟨b, off, rfl, ?_, fun j hj => ?_⟩
    · have := cell_lt (hrow 0 (by omega)).1; rw [addr_add] at this; exact this
    · have hj1 : j < len := by simpa using hj
      obtain ⟨h1, h2, h3, h4, h5, h6, h7⟩ := hrow j (by omega)
      have e : ((List.range len).map fun r => bytes15 ((Z r).take (L r))).getD j [] = bytes15 ((Z j).take (L j)) := by simp [List.getD, hj1]
      have hlj : (bytes15 ((Z j).take (L j))).length = L j := by simp [bytes15]; omega
      rw [e]
      refine ⟨A j, C j, by rw [hlj, ← addr_add]; exact h1, fun hne2 => ?_⟩
      have hL : 0 < L j := by
        rcases Nat.eq_zero_or_pos (L j) with h0 | h0
        · rw [h0] at hne2; simp [bytes15] at hne2
        · exact h0
      cases hA : A j with
      | none => have := h6 hA; omega
      | some a2 =>
        obtain ⟨_, hc2⟩ := h7 a2 hA
        obtain ⟨b2, off2, spot2⟩ := a2
        have hspot2 : spot2 = none := by simpa [Addr.add] using World.cell?_spot (hc2 0 (by omega))
        subst hspot2
        refine ⟨b2, off2, rfl, ?_, fun i hi => ?_⟩
        · have := cell_lt (hc2 0 (by omega)); rw [addr_add] at this; exact this
        · rw [hlj] at hi
          have hg := bytes15_get (zs := (Z j).take (L j)) (fun n hn => h5 n (List.mem_of_mem_take hn)) (j := i) (by simp; omega)
          rw [hg, ← addr_add, hc2 i (by omega)]
          simp [List.getD, hi]

end
theorem cellsSl : Tryd.prog.cellsOf 22 = 1 := by kernel_rfl
theorem open_runs {H : Type} {enc : TypeId × Value → H} {base : Nat} {W : World} {v : Value} {d : DataW H} {ps : List MemPlace} (hok : Value.okWide Tryd.prog W .any base 36 v) (h : DataW.Trod enc Tryd.prog W 0 (fun _ => true) true 36 v d ps) :
    ∃ a ls cap, v = .slice a (ls : List (List UInt8)).length cap ∧ LgRuns W.heap.size W a ls :=
  open_runs15 Tryd.underlying36 Tryd.underlying22 Tryd.underlying5 cellsSl cellsU8 hok h
end Go.Proofs.YtmbjdfmbbmeofaaDoor

/- Layer 5: runs of cells that came in. -/
import Derived.Test.YtaclbloconlhnaaFours
import Derived.Test.YtaclbloconlhnaaFives
import Derived.Test.YtaclbloconlhnaaSlW
import Derived.Test.YtaclbloconlhnaaSlU
namespace Go.Proofs.Ytaclbloconlhnaa
open Go.ChangeShapes Go.WideShapes Go.RowKit

section
variable {H : Type} {enc : TypeId × Value → H}
set_option maxRecDepth 100000 in
theorem open_cells {base : Nat} {W : World} {v : Value} {d : DataW H} {ps : List MemPlace} (hok : Value.okWide Try.prog W .any base 23 v) (h : DataW.Trod enc Try.prog W 0 (fun _ => true) true 23 v d ps) :
    ∃ a L cap, v = .slice a (L : List Cv).length cap ∧ L.length ≤ cap ∧ cap ≤ maxLen ∧ CellsAt W.heap.size W a L ∧ Sized L := by
  obtain ⟨a, len, cap, rfl, hl, hm, hr⟩ := open_fives Try.underlying23 Try.underlying50 rfl (by kernel_rfl) (by kernel_rfl) hok h
  rcases hr with rfl | ⟨b, off, rfl, hb, hc⟩
  · exact ⟨a, [], cap, rfl, by simp, hm, fun h => absurd rfl h, fun j hj => by simp at hj⟩
  · have key : ∀ i, ∃ p : Cv, i < len → CellAt W b (off + i * 5) p ∧ p.key.size ≤ 9223372036854775807 ∧ p.text.size ≤ 9223372036854775807 := fun i => by
      by_cases hi : i < len
      · obtain ⟨c0, c1, c2, c3, c4, ⟨h0, h1, h2, h3, h4, hf⟩⟩ := hc i hi
        obtain ⟨n0, y0, t0⟩ := hf 0 _ c0 rfl rfl
        obtain ⟨n1, y1, t1⟩ := hf 1 _ c1 rfl rfl
        obtain ⟨n2, y2, t2⟩ := hf 2 _ c2 rfl rfl
        obtain ⟨n3, y3, t3⟩ := hf 3 _ c3 rfl rfl
        obtain ⟨n4, y4, t4⟩ := hf 4 _ c4 rfl rfl
        obtain ⟨s0, rfl, w0⟩ := trod_string_of Try.underlying9 t0
        obtain ⟨s1, rfl, w1⟩ := trod_string_of Try.underlying9 t1
        obtain ⟨b2, e2, -⟩ := DataW.trod_bool Try.underlying4 t2
        simp at e2
        subst e2
        obtain ⟨z3, rfl, w3⟩ := trod_int_of Try.underlying2 t3
        obtain ⟨z4, rfl, w4⟩ := trod_int_of Try.underlying2 t4
        rw [addr_add] at h1 h2 h3 h4
        refine ⟨⟨s0, s1, b2, z3, z4⟩, fun _ => ⟨⟨h0, h1, h2, h3, h4⟩, ?_, ?_⟩⟩
        · show s0.size ≤ _; unfold maxLen at w0; omega
        · show s1.size ≤ _; unfold maxLen at w1; omega
      · exact ⟨default, fun h => absurd h hi⟩
    obtain ⟨f, hf⟩ := Classical.axiomOfChoice key
    have e1 : ∀ j, j < len → ((List.range len).map f).getD j default = f j := fun j hj => by simp [List.getD, hj]
    refine ⟨_, (List.range len).map f, cap, by simp, by simpa using hl, hm, fun _ => ⟨b, off, rfl, hb, fun j hj => ?_⟩, fun j hj => ?_⟩
    · have hj' : j < len := by simpa using hj
      rw [e1 j hj']
      exact (hf j hj').1
    · have hj' : j < len := by simpa using hj
      rw [e1 j hj']
      exact (hf j hj').2
end
end Go.Proofs.Ytaclbloconlhnaa

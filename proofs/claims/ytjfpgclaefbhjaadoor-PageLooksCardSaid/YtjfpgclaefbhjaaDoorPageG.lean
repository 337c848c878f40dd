/- Layer 4: the document's bytes of a page. -/
import Derived.Test.YtjfpgclaefbhjaaDoorRefNum
import Derived.Test.YtjfpgclaefbhjaaDoorRefRead
import Derived.Test.YtjfpgclaefbhjaaDoorPageD
namespace Go.Proofs.YtjfpgclaefbhjaaDoor
open Go.RowKit

def NumRow (w : World) (n k : Nat) (e : Ending) (w' : World) : Prop := ∃ g, e = .returned (.slice (some ⟨g, 0, none⟩) k k) ∧ OwnB w' w.heap.size (.slice (some ⟨g, 0, none⟩) k k) (laidB n k k) ∧ Below w.heap.size w w'
theorem number4_any (n : Nat) (hn : n < 9223372036854775808) (k : Nat) (h1 : 1 ≤ k) (h8 : k ≤ 8) (w : World) : Calls Tryd.prog 26 #[.int .i64 n, .int .i64 k] w fun e w' => NumRow w n k e w' := by
  have hr := refNum_any n (by omega) (k : Int) w
  have HR := Lib.hid hr
  clear hr
  go_enter Tryd.func26, Tryd.ntmps26
  go_wp2_with fail
  refine HR.out.mono ?_
  rintro e w1 (⟨h, -⟩ | ⟨-, -, g, rfl, hO, hb⟩)
  · exact absurd h (by omega)
  rw [Int.toNat_natCast] at hO ⊢
  have HX := Lib.hid (And.intro hO hb)
  clear hO hb HR
  go_wp2
  go_ret
  exact ⟨g, rfl, HX.out.1, HX.out.2⟩
theorem append_full (w : World) (base ty g n : Nat) (l : List UInt8) (hO : OwnB w base (.slice (some ⟨g, 0, none⟩) n n) l) (hl : l.length = n) (n₀ : Nat) (ao : Addr) (m : List UInt8) (c : Nat) (hm : BytesAt n₀ w (some ao) m) (hpos : 0 < m.length) (hb : n + m.length ≤ 1000000) :
    ∃ v' w', (Builtin.append_ #[23, 23] ty #[.slice (some ⟨g, 0, none⟩) n n, .slice (some ao) m.length c]).run Tryd.prog w = .ok v' w' ∧ OwnB w' w.heap.size v' (l ++ m) ∧ Below w.heap.size w w' := by
  obtain ⟨i0, hi, hz0, hz1, hz2⟩ := info_parts infoU8
  have hnews : ∀ j u, (byteVals m)[j]? = some u → w.cell? (ao.add j) = some u := by
    intro j u hu
    have hj : j < m.length := by
      have := (List.getElem?_eq_some_iff.1 hu).1; simpa [byteVals] using this
    obtain ⟨b, off, e, hb, hc⟩ := hm (by rintro rfl; simp at hj)
    cases e
    rw [addr_add, hc j hj]
    rw [byteVals, List.getElem?_map, List.getElem?_eq_getElem hj] at hu
    simp [hj] at hu ⊢
    exact hu
  have hr := run_append_grow (P := Tryd.prog) w 23 ty 5 i0 _ Tryd.underlying23 hi hz0 ⟨g, 0, none⟩ n n (byteVals l) (by rw [hz1]; simp [byteVals, hl]) (World.ownsRow.cells hO (g := g) rfl) ao m.length c (byteVals m) (by rw [hz1]; simp [byteVals]) hnews (by omega) (by omega) (growslice_fits (by omega) (by rw [hz2]; omega))
  refine ⟨_, _, hr, ?_, ((Below.refl _ _).drew).alloc (by simp) _⟩
  have hge := grownCap_ge w (n + m.length) n 5
  have hG := grownCap_le_maxLen w (n + m.length) n 5 (by unfold maxLen; omega)
  refine ⟨by simp [byteVals], .inr ⟨w.heap.size, grownCap w (n + m.length) n 5, _, by rw [List.length_append, hl], Nat.le_refl _, heap_alloc_new w.drew _, by rw [List.length_append, hl]; exact hge, hG, ?_, ?_⟩⟩
  · rw [zero_cells]; simp [byteVals, hl]; omega
  · rw [zero_cells, List.length_append, hl, Nat.mul_one]
    have h1 : (byteVals l ++ byteVals m).length = n + m.length := by simp [byteVals, hl]
    simp only [List.append_toArray, Array.toList_append, Array.toList_replicate]
    rw [List.take_append_of_le_length (by rw [h1]; omega), List.take_of_length_le (by rw [h1]; omega)]
    simp [byteVals]
end Go.Proofs.YtjfpgclaefbhjaaDoor

/- Layer 12: sieved, over the runes of a text and over a slice of runes (printed by wip/tools/mkutfF.py). -/
import Derived.Test.YtgcfgheamaoceaaGreatDoorUtfE
import Derived.Test.YtgcfgheamaoceaaGreatDoorWireB
namespace Go.Proofs.YtgcfgheamaoceaaGreatDoor
open Go.RowKit Go.Shelf

attribute [local go_sem] Oper.semAt_some

theorem infoInt : (Tryz.prog.info? 3).map (fun i => (i.zero, i.size, i.bytes)) = some (some (.int .i64 0), 1, 8) := by kernel_rfl
def natVals (l : List Nat) : List Value := l.map fun (k : Nat) => Value.int .i64 k
/-- The places of those that are such. -/
def suchL (p : Int → Bool) (l : List (Nat × Int)) : List Nat := (l.filter fun x => p x.2).map (·.1)
theorem suchL_hit {p : Int → Bool} (l : List (Nat × Int)) {x : Nat × Int} (h : p x.2 = true) : suchL p (l ++ [x]) = suchL p l ++ [x.1] := by
  simp only [suchL, List.filter_append, List.map_append]; rw [List.filter_cons_of_pos (p := fun x : Nat × Int => p x.2) h]; rfl
theorem suchL_miss {p : Int → Bool} (l : List (Nat × Int)) {x : Nat × Int} (h : p x.2 = false) : suchL p (l ++ [x]) = suchL p l := by
  simp only [suchL, List.filter_append, List.map_append]; rw [List.filter_cons_of_neg (p := fun x : Nat × Int => p x.2) (by rw [h]; decide)]; simp
theorem suchL_len (p : Int → Bool) (l : List (Nat × Int)) : (suchL p l).length ≤ l.length := by
  unfold suchL; rw [List.length_map]; exact List.length_filter_le _ _
theorem row_slice {W : World} {base : Nat} {e : TypeId} {size n : Nat} {v : Value} {xs : List Value} (h : W.ownsRow base e size v n xs) : ∃ a c, v = .slice a n c := by
  rcases h.2 with ⟨rfl, h0⟩ | ⟨g, cap, cur, rfl, _⟩
  · exact ⟨none, 0, by rw [h0]⟩
  · exact ⟨_, _, rfl⟩
theorem own_or (v : Value) : v.ownBlock = none ∨ v.ownBlock ≠ none := by cases v.ownBlock <;> simp
def SvPost (w : World) (m : Nat) (e : Ending) (w' : World) : Prop := ∃ a c, e = .returned (.slice a m c) ∧ Below w.heap.size w w'
end Go.Proofs.YtgcfgheamaoceaaGreatDoor

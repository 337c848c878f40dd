/- What the rows' list gives of layer 15's statements (the bounds of lengths), and a world that holds it. -/
import Derived.Test.YtmbjdfmbbmeofaaDoorCards
import Derived.Test.YtmbjdfmbbmeofaaDoorTie
import Derived.ProofKit
import Derived.OpenShut
import Derived.ChangeArms
import Derived.Deep.DeepHandedRow
import Derived.Lib.LaidTab
import Derived.ChangeMaps5
import Derived.Test.YtmbjdfmbbmeofaaDoorKit
import Derived.Test.YtmbjdfmbbmeofaaDoorLgB
namespace Go.Proofs.YtmbjdfmbbmeofaaDoor
open Go.ChangeShapes Go.WideShapes Go.ChangeAt Go.RowKit

theorem own : ownKnob Tryd.prog.godebug = none := by kernel_rfl
theorem laidOut : laidOutB Tryd.prog = true := by kernel_rfl
theorem gLb : Tryd.prog.globalNamed "pigeonry/length.bounds" = some 0 := by kernel_rfl
theorem gLbType : (Tryd.prog.globals[0]?).map (·.type) = some 44 := by kernel_rfl
theorem cellsLb : Tryd.prog.cellsOf 44 = 4 := by kernel_rfl
theorem cellsI64 : Tryd.prog.cellsOf 2 = 1 := by kernel_rfl
theorem cellsU8 : Tryd.prog.cellsOf 5 = 1 := by kernel_rfl
def lbTab : List Int := [127, 16383, 2097151, 268435455]
/-- WHAT THE ROW's LIST GIVES. -/
theorem given {W : World} (h : laidMetH Tryd.prog [("pigeonry/length.bounds", Rows.laid_pigeonry_length_bounds)] W) : LgTab W := by
  have h1 : Lib.TabIs Tryd.prog W "pigeonry/length.bounds" .i64 lbTab := Lib.tabIs_of_head (rest := []) gLb gLbType Tryd.underlying44 Tryd.underlying2 cellsI64 cellsLb h
  exact ⟨h1.cell gLb 0 (by decide), h1.cell gLb 1 (by decide), h1.cell gLb 2 (by decide), h1.cell gLb 3 (by decide)⟩
noncomputable def fillLb : Obj → Obj
  | .cells _ t frozen => .cells (lbTab.map fun z => Value.int .i64 z).toArray t frozen
  | o => o
/-- A WORLD FOR THE WITNESS: the settled one, the table holding what its initialiser lays. -/
noncomputable def laidWorld (os : Os) : World :=
  { World.holding Tryd.prog os ⟨#[], #[], []⟩ with heap := (World.holding Tryd.prog os ⟨#[], #[], []⟩).heap.modify 0 fillLb }
/-- The types that these laws take read whole. -/
theorem types_ok : ∀ t ∈ [2, 3, 22, 36], Tryd.prog.readableRec t = true ∧ t < Tryd.prog.types.size := by
  intro t ht
  have h : ([2, 3, 22, 36].all fun t => Tryd.prog.readableRec t && decide (t < Tryd.prog.types.size)) = true := by kernel_rfl
  have := List.all_eq_true.1 h t ht
  simpa using this
end Go.Proofs.YtmbjdfmbbmeofaaDoor

/- What the rows' list gives (the table's sixteen numbers), and a world that holds it. -/
import Derived.Test.YtjpjijjnkjomnaaDoorCards
import Derived.Test.YtjpjijjnkjomnaaDoorTie
import Derived.WalkKit
import Derived.ProofKit
import Derived.OpenShut
import Derived.Deep.DeepHandedRow
import Derived.Lib.LaidTab
import Derived.Test.YtjpjijjnkjomnaaDoorKit
import Derived.Test.YtjpjijjnkjomnaaDoorCrcFns
namespace Go.Proofs.YtjpjijjnkjomnaaDoor
open Go.ChangeShapes Go.WideShapes Go.ChangeAt Go.RowKit

theorem own : ownKnob Tryd.prog.godebug = none := by kernel_rfl
theorem laidOut : laidOutB Tryd.prog = true := by kernel_rfl
theorem gTab : Tryd.prog.globalNamed "pigeonry/crc.words" = some 0 := by kernel_rfl
theorem gTabType : (Tryd.prog.globals[0]?).map (·.type) = some 53 := by kernel_rfl
theorem cellsTab : Tryd.prog.cellsOf 53 = 16 := by kernel_rfl
theorem cellsU32 : Tryd.prog.cellsOf 31 = 1 := by kernel_rfl
theorem cellsU8 : Tryd.prog.cellsOf 5 = 1 := by kernel_rfl
theorem cellsBytes : Tryd.prog.cellsOf 23 = 1 := by kernel_rfl

/-- WHAT THE ROW's LIST GIVES: the table's cells hold its sixteen numbers. -/
theorem table {W : World} (h : laidMetH Tryd.prog [("pigeonry/crc.words", Rows.laid_pigeonry_crc_words)] W) : Lib.TabIs Tryd.prog W "pigeonry/crc.words" .u32 crcTab :=
  Lib.tabIs_of_head (rest := []) gTab gTabType Tryd.underlying53 Tryd.underlying31 cellsU32 cellsTab h
theorem tab {W : World} (h : laidMetH Tryd.prog [("pigeonry/crc.words", Rows.laid_pigeonry_crc_words)] W) : Tab W := fun i hi => by
  rw [← crcT_tab]; exact (table h).cell gTab i hi
theorem tab_size {W : World} (h : Tab W) : 1 ≤ W.heap.size := by
  have := cell_lt (h 0 (by decide)); exact this

/-- A WORLD FOR THE WITNESS: the settled one, the table (block 0) holding what its initialiser lays. -/
noncomputable def laidWorld (os : Os) : World :=
  { World.holding Tryd.prog os ⟨#[], #[], []⟩ with heap := (World.holding Tryd.prog os ⟨#[], #[], []⟩).heap.modify 0 fun
      | .cells _ t frozen => .cells (crcTab.map fun z => Value.int .u32 z).toArray t frozen
      | o => o }

/-- The types that these laws take read whole. -/
theorem types_ok : ∀ t ∈ [23, 22, 5, 3, 41], Tryd.prog.readableRec t = true ∧ t < Tryd.prog.types.size := by
  intro t ht
  have h : ([23, 22, 5, 3, 41].all fun t => Tryd.prog.readableRec t && decide (t < Tryd.prog.types.size)) = true := by kernel_rfl
  have := List.all_eq_true.1 h t ht
  simpa using this
end Go.Proofs.YtjpjijjnkjomnaaDoor

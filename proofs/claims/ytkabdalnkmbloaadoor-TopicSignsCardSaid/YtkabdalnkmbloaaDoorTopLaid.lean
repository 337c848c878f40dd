/- What the rows' list gives of layer 13's statements (the bounds of runes, the first bytes' marks), and a world that holds both. -/
import Derived.Test.YtkabdalnkmbloaaDoorCards
import Derived.Test.YtkabdalnkmbloaaDoorTie
import Derived.ProofKit
import Derived.OpenShut
import Derived.ChangeArms
import Derived.Deep.DeepHandedRow
import Derived.Lib.LaidTab
import Derived.ChangeMaps5
import Derived.Test.YtkabdalnkmbloaaDoorKit
import Derived.Test.YtkabdalnkmbloaaDoorUtfI
namespace Go.Proofs.YtkabdalnkmbloaaDoor
open Go.ChangeShapes Go.WideShapes Go.ChangeAt Go.RowKit

theorem own : ownKnob Tryd.prog.godebug = none := by kernel_rfl
theorem laidOut : laidOutB Tryd.prog = true := by kernel_rfl
theorem gBd : Tryd.prog.globalNamed "pigeonry/utf.bounds" = some 2 := by kernel_rfl
theorem gBdType : (Tryd.prog.globals[2]?).map (·.type) = some 82 := by kernel_rfl
theorem gLd : Tryd.prog.globalNamed "pigeonry/utf.leads" = some 1 := by kernel_rfl
theorem gLdType : (Tryd.prog.globals[1]?).map (·.type) = some 77 := by kernel_rfl
theorem cellsBd : Tryd.prog.cellsOf 82 = 3 := by kernel_rfl
theorem cellsLd : Tryd.prog.cellsOf 77 = 4 := by kernel_rfl
theorem cellsI32 : Tryd.prog.cellsOf 21 = 1 := by kernel_rfl
theorem cellsU8 : Tryd.prog.cellsOf 5 = 1 := by kernel_rfl
theorem tab_of_second {P : Program} {W : World} {first : String × DataW Unit} {name : String} {k : IntKind} {zs : List Int} {rest : List (String × DataW Unit)} {g : Nat} {t e : TypeId} {n : Nat}
    (hg : P.globalNamed name = some g) (hty : (P.globals[g]?).map (·.type) = some t) (ht : P.underlying t = some (.array n e)) (he : P.underlying e = some (.int k)) (hce : P.cellsOf e = 1) (hct : P.cellsOf t = n)
    (h : laidMet P (first :: (name, Lib.tabData k zs) :: rest) W) : Lib.TabIs P W name k zs := by
  obtain ⟨ps, ⟨_, _, _, _, _, _, _, _, _, _, hr, _⟩, _⟩ := h
  obtain ⟨g', t', cs, fuel, p, q, hg', ht', hvar, hd, _, _⟩ := hr
  obtain rfl := Option.some.inj (hg.symm.trans hg')
  obtain rfl := Option.some.inj (hty.symm.trans ht')
  unfold Lib.TabIs
  rw [hvar, ← Lib.cells_of_tab ht he hce hct hd]
def bdTab : List Int := [128, 2048, 65536]
def ldTab : List Int := [0, 192, 224, 240]
/-- WHAT THE ROW's LIST GIVES. -/
theorem given {W : World} (h : laidMetH Tryd.prog [("pigeonry/utf.bounds", Rows.laid_pigeonry_utf_bounds), ("pigeonry/utf.leads", Rows.laid_pigeonry_utf_leads)] W) : Tabs W := by
  have h1 : Lib.TabIs Tryd.prog W "pigeonry/utf.bounds" .i32 bdTab := Lib.tabIs_of_head (rest := [("pigeonry/utf.leads", Rows.laid_pigeonry_utf_leads)]) gBd gBdType Tryd.underlying82 Tryd.underlying21 cellsI32 cellsBd h
  have h2 : Lib.TabIs Tryd.prog W "pigeonry/utf.leads" .u8 ldTab := tab_of_second (first := ("pigeonry/utf.bounds", Rows.laid_pigeonry_utf_bounds)) (rest := []) gLd gLdType Tryd.underlying77 Tryd.underlying5 cellsU8 cellsLd h
  exact ⟨h1.cell gBd 0 (by decide), h1.cell gBd 1 (by decide), h1.cell gBd 2 (by decide), h2.cell gLd 0 (by decide), h2.cell gLd 1 (by decide), h2.cell gLd 2 (by decide), h2.cell gLd 3 (by decide)⟩
noncomputable def fillBd : Obj → Obj
  | .cells _ t frozen => .cells (bdTab.map fun z => Value.int .i32 z).toArray t frozen
  | o => o
noncomputable def fillLd : Obj → Obj
  | .cells _ t frozen => .cells (ldTab.map fun z => Value.int .u8 z).toArray t frozen
  | o => o
/-- A WORLD FOR THE WITNESS: the settled one, both tables holding what their initialisers lay. -/
noncomputable def laidWorld (os : Os) : World :=
  { World.holding Tryd.prog os ⟨#[], #[], []⟩ with heap := ((World.holding Tryd.prog os ⟨#[], #[], []⟩).heap.modify 2 fillBd).modify 1 fillLd }
/-- The types that these laws take read whole. -/
theorem types_ok : ∀ t ∈ [9, 3], Tryd.prog.readableRec t = true ∧ t < Tryd.prog.types.size := by
  intro t ht
  have h : ([9, 3].all fun t => Tryd.prog.readableRec t && decide (t < Tryd.prog.types.size)) = true := by kernel_rfl
  have := List.all_eq_true.1 h t ht
  simpa using this
end Go.Proofs.YtkabdalnkmbloaaDoor

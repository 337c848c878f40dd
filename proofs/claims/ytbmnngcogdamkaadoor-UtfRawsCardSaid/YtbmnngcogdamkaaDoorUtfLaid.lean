/- What the rows' list gives of layer 12's statements (the bounds of runes, the first bytes' marks), and a world that holds both; a slice of runes that came in, opened. -/
import Derived.Test.YtbmnngcogdamkaaDoorCards
import Derived.Test.YtbmnngcogdamkaaDoorTie
import Derived.ProofKit
import Derived.OpenShut
import Derived.ChangeArms
import Derived.Deep.DeepHandedRow
import Derived.Lib.LaidTab
import Derived.ChangeMaps5
import Derived.Test.YtbmnngcogdamkaaDoorKit
import Derived.Test.YtbmnngcogdamkaaDoorUtfI
namespace Go.Proofs.YtbmnngcogdamkaaDoor
open Go.ChangeShapes Go.WideShapes Go.ChangeAt Go.RowKit

theorem own : ownKnob Tryd.prog.godebug = none := by kernel_rfl
theorem laidOut : laidOutB Tryd.prog = true := by kernel_rfl
theorem gBd : Tryd.prog.globalNamed "pigeonry/utf.bounds" = some 1 := by kernel_rfl
theorem gBdType : (Tryd.prog.globals[1]?).map (·.type) = some 59 := by kernel_rfl
theorem gLd : Tryd.prog.globalNamed "pigeonry/utf.leads" = some 0 := by kernel_rfl
theorem gLdType : (Tryd.prog.globals[0]?).map (·.type) = some 58 := by kernel_rfl
theorem cellsBd : Tryd.prog.cellsOf 59 = 3 := by kernel_rfl
theorem cellsLd : Tryd.prog.cellsOf 58 = 4 := by kernel_rfl
theorem cellsI32 : Tryd.prog.cellsOf 21 = 1 := by kernel_rfl
theorem cellsU8 : Tryd.prog.cellsOf 5 = 1 := by kernel_rfl
theorem tab_of_second {P : Program} {W : World} {first : String × DataW Unit} {name : String} {k : IntKind} {zs : List Int} {rest : List (String × DataW Unit)} {g : Nat} {t e : TypeId} {n : Nat}
    (hg : P.globalNamed name = some g) (hty : (P.globals[g]?).map (·.type) = some t) (ht : P.underlying t = some (.array n e)) (he : P.underlying e = some (.int k)) (hce : P.cellsOf e = 1) (hct : P.cellsOf t = n)
    (h : laidMet P (first :: (name, Lib.tabData k zs) :: rest) W) : Lib.TabIs P W name k zs := by
  obtain ⟨ps, ⟨_, _, _, _, _, _, _, _, _, _, hr, _⟩, _⟩ := h
  obtain ⟨g', t', cs, fuel, p, q, hg', ht', hvar, hd, _, _⟩ := hr
  obtain rfl := Option.some.inj (hg.symm.trans hg')
  obtain rfl := Option.some.inj (hty.symm.trans ht')
  unfold Lib.TabIs
  rw [hvar, ← Lib.cells_of_tab ht he hce hct hd]
def bdTab : List Int := [128, 2048, 65536]
def ldTab : List Int := [0, 192, 224, 240]
/-- WHAT THE ROW's LIST GIVES. -/
theorem given {W : World} (h : laidMetH Tryd.prog [("pigeonry/utf.bounds", Rows.laid_pigeonry_utf_bounds), ("pigeonry/utf.leads", Rows.laid_pigeonry_utf_leads)] W) : Tabs W := by
  have h1 : Lib.TabIs Tryd.prog W "pigeonry/utf.bounds" .i32 bdTab := Lib.tabIs_of_head (rest := [("pigeonry/utf.leads", Rows.laid_pigeonry_utf_leads)]) gBd gBdType Tryd.underlying59 Tryd.underlying21 cellsI32 cellsBd h
  have h2 : Lib.TabIs Tryd.prog W "pigeonry/utf.leads" .u8 ldTab := tab_of_second (first := ("pigeonry/utf.bounds", Rows.laid_pigeonry_utf_bounds)) (rest := []) gLd gLdType Tryd.underlying58 Tryd.underlying5 cellsU8 cellsLd h
  exact ⟨h1.cell gBd 0 (by decide), h1.cell gBd 1 (by decide), h1.cell gBd 2 (by decide), h2.cell gLd 0 (by decide), h2.cell gLd 1 (by decide), h2.cell gLd 2 (by decide), h2.cell gLd 3 (by decide)⟩
noncomputable def fillBd : Obj → Obj
  | .cells _ t frozen => .cells (bdTab.map fun z => Value.int .i32 z).toArray t frozen
  | o => o
noncomputable def fillLd : Obj → Obj
  | .cells _ t frozen => .cells (ldTab.map fun z => Value.int .u8 z).toArray t frozen
  | o => o
/-- A WORLD FOR THE WITNESS: the settled one, both tables holding what their initialisers lay. -/
noncomputable def laidWorld (os : Os) : World :=
  { World.holding Tryd.prog os ⟨#[], #[], []⟩ with heap := ((World.holding Tryd.prog os ⟨#[], #[], []⟩).heap.modify 1 fillBd).modify 0 fillLd }
/-- The types that these laws take read whole. -/
theorem types_ok : ∀ t ∈ [9, 3, 21, 23], Tryd.prog.readableRec t = true ∧ t < Tryd.prog.types.size := by
  intro t ht
  have h : ([9, 3, 21, 23].all fun t => Tryd.prog.readableRec t && decide (t < Tryd.prog.types.size)) = true := by kernel_rfl
  have := List.all_eq_true.1 h t ht
  simpa using this
section
variable {H : Type} {enc : TypeId × Value → H}
/-- A slice of runes that came in. -/
theorem open_runes {base : Nat} {W : World} {v : Value} {d : DataW H} {ps : List MemPlace} (hok : Value.okWide Tryd.prog W .any base 23 v) (h : DataW.Trod enc Tryd.prog W 0 (fun _ => true) true 23 v d ps) :
    ∃ a l c, v = .slice a (l : List Int).length c ∧ RnOn (Lt W.heap.size) W a l ∧ c ≤ maxLen ∧ l.length ≤ c ∧ ∀ r ∈ l, (Lit.int .i32 r).wf = true := by
  obtain ⟨a0, len, cap, rfl⟩ := okWide_slice Tryd.underlying23 hok
  obtain ⟨fuel, hf⟩ := h
  rcases open_ints Tryd.underlying23 Tryd.underlying21 cellsI32 hf with ⟨hcs, hx⟩ | ⟨a, len', cap', zs, hcs, _, hl, hm, hz, hx, hcell, hwz⟩
  · simp [Value.cells] at hcs
    obtain ⟨rfl, rfl, rfl⟩ := hcs
    exact ⟨none, [], 0, rfl, (fun h => absurd rfl h), Nat.zero_le _, Nat.le_refl _, (fun _ h => by cases h)⟩
  · simp [Value.cells] at hcs
    obtain ⟨rfl, rfl, rfl⟩ := hcs
    simp only [if_true] at hz
    refine ⟨some a, zs.take len, cap, ?_, ?_, hm, ?_, ?_⟩
    · rw [show (zs.take len).length = len by simp; omega]
    · intro hne
      have hlen : 0 < len := by
        rcases Nat.eq_zero_or_pos len with h0 | h0
        · subst h0; simp at hne
        · exact h0
      obtain ⟨b, off, spot⟩ := a
      have hspot : spot = none := by simpa [Addr.add] using World.cell?_spot (hcell 0 (by omega))
      subst hspot
      refine ⟨b, off, rfl, ?_, fun j hj => ?_⟩
      · have := cell_lt (hcell 0 (by omega)); simpa [Addr.add] using this
      · have hj1 : j < len ∧ j < zs.length := by simp at hj; omega
        have h1 := hcell j (by omega)
        have e3 : (⟨b, off, none⟩ : Addr).add j = ⟨b, off + j, none⟩ := addr_add b off j
        rw [e3] at h1
        rw [List.getElem?_take, if_pos hj1.1]
        exact h1
    · simp; omega
    · intro r hr
      exact hwz r (List.mem_of_mem_take hr)
end
end Go.Proofs.YtbmnngcogdamkaaDoor

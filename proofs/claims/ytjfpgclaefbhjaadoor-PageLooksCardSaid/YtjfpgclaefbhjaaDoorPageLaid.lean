/- What the rows' list gives of layer 4's statements (the table's sixteen numbers, the array of texts), and a world that holds both; a page that came in, opened. -/
import Derived.Test.YtjfpgclaefbhjaaDoorCards
import Derived.Test.YtjfpgclaefbhjaaDoorTie
import Derived.ProofKit
import Derived.OpenShut
import Derived.ChangeArms
import Derived.Deep.DeepHandedRow
import Derived.Lib.LaidTab
import Derived.Lib.SmallJoins
import Derived.ChangeMaps5
import Derived.Test.YtjfpgclaefbhjaaDoorKit
import Derived.Test.YtjfpgclaefbhjaaDoorPageK
namespace Go.Proofs.YtjfpgclaefbhjaaDoor
open Go.ChangeShapes Go.WideShapes Go.ChangeAt Go.RowKit

theorem own : ownKnob Tryd.prog.godebug = none := by kernel_rfl
theorem laidOut : laidOutB Tryd.prog = true := by kernel_rfl
theorem gTab : Tryd.prog.globalNamed "pigeonry/crc.words" = some 1 := by kernel_rfl
theorem gTabType : (Tryd.prog.globals[1]?).map (·.type) = some 98 := by kernel_rfl
theorem gTx : Tryd.prog.globalNamed "pigeonry/page.texts" = some 0 := by kernel_rfl
theorem gTxType : (Tryd.prog.globals[0]?).map (·.type) = some 64 := by kernel_rfl
theorem cellsTab : Tryd.prog.cellsOf 98 = 16 := by kernel_rfl
theorem cellsTx : Tryd.prog.cellsOf 64 = 6 := by kernel_rfl
theorem cellsStr : Tryd.prog.cellsOf 9 = 1 := by kernel_rfl
theorem cellsU32 : Tryd.prog.cellsOf 53 = 1 := by kernel_rfl
theorem cellsU8 : Tryd.prog.cellsOf 5 = 1 := by kernel_rfl

def strData {H : Type} (ss : List (List UInt8)) : DataW H := .agg (ss.map fun s => .lit (.string s))
/-- An array of texts that reads as these holds these, cell for cell. -/
theorem cells_of_strs {H : Type} {enc : TypeId × Value → H} {P : Program} {w : World} {base : Nat} {sp : Nat → Bool} {held : Bool} {fuel : Nat} {t e : TypeId} {n : Nat} {cs : List Value} {ss : List (List UInt8)} {p : List MemPlace}
    (ht : P.underlying t = some (.array n e)) (he : P.underlying e = some .string) (hce : P.cellsOf e = 1) (hct : P.cellsOf t = n)
    (h : DataW.trod enc P w base sp held fuel t cs = some (strData ss, p)) : cs = ss.map fun s => Value.string ⟨s.toArray⟩ := by
  cases fuel with
  | zero => simp [DataW.trod] at h
  | succ fuel =>
    simp only [DataW.trod, ht, hce, hct, Nat.mul_one] at h
    split at h
    · rename_i hl
      obtain ⟨xs, hm, hx⟩ := Option.map_eq_some_iff.1 h
      have hxs : xs.map (·.1) = ss.map fun s => (DataW.lit (.string s) : DataW H) := by
        have := congrArg Prod.fst hx
        simpa [strData] using this
      have hxl : xs.length = n := by simpa using Lib.mapM_length hm
      have hzl : ss.length = n := by
        have := congrArg List.length hxs
        simp at this
        omega
      apply List.ext_getElem?
      intro i
      by_cases hi : i < n
      · obtain ⟨b, hb, hf⟩ := Lib.mapM_at hm i i (by simp [hi])
        obtain ⟨z, hc, rfl, _⟩ := DataW.trod_string he hf
        have h1 : cs[i]? = some (.string z) := by
          have := congrArg (·[0]?) hc
          simpa [List.getElem?_take, List.getElem?_drop] using this
        have h2 : (xs.map (·.1))[i]? = some (DataW.lit (.string z.data.toList) : DataW H) := by simp [hb]
        rw [hxs] at h2
        simp only [List.getElem?_map, Option.map_eq_some_iff, DataW.lit.injEq, Lit.string.injEq] at h2
        obtain ⟨z', hz', rfl⟩ := h2
        obtain ⟨⟨z⟩⟩ := z
        simp [h1, hz']
      · rw [List.getElem?_eq_none (by omega), List.getElem?_eq_none (by simp; omega)]
    · cases h
theorem strs_of_second {P : Program} {W : World} {first : String × DataW Unit} {name : String} {ss : List (List UInt8)} {rest : List (String × DataW Unit)} {g : Nat} {t e : TypeId} {n : Nat}
    (hg : P.globalNamed name = some g) (hty : (P.globals[g]?).map (·.type) = some t) (ht : P.underlying t = some (.array n e)) (he : P.underlying e = some .string) (hce : P.cellsOf e = 1) (hct : P.cellsOf t = n)
    (h : laidMet P (first :: (name, strData ss) :: rest) W) : W.var? P name = some (ss.map fun s => Value.string ⟨s.toArray⟩).toArray := by
  obtain ⟨ps, ⟨_, _, _, _, _, _, _, _, _, _, hr, _⟩, _⟩ := h
  obtain ⟨g', t', cs, fuel, p, q, hg', ht', hvar, hd, _, _⟩ := hr
  obtain rfl := Option.some.inj (hg.symm.trans hg')
  obtain rfl := Option.some.inj (hty.symm.trans ht')
  rw [hvar, ← cells_of_strs ht he hce hct hd]
def texts6 : List (List UInt8) := [[], [109, 101, 116, 97], [108, 101, 97, 102], [98, 114, 97, 110, 99, 104], [99, 104, 97, 105, 110], [102, 114, 101, 101]]
/-- WHAT THE ROW's LIST GIVES. -/
theorem given {W : World} (h : laidMetH Tryd.prog [("pigeonry/crc.words", Rows.laid_pigeonry_crc_words), ("pigeonry/page.texts", Rows.laid_pigeonry_page_texts)] W) : Given W := by
  have h1 : Lib.TabIs Tryd.prog W "pigeonry/crc.words" .u32 crcTab := Lib.tabIs_of_head (rest := [("pigeonry/page.texts", Rows.laid_pigeonry_page_texts)]) gTab gTabType Tryd.underlying98 Tryd.underlying53 cellsU32 cellsTab h
  have h2 : W.var? Tryd.prog "pigeonry/page.texts" = some (texts6.map fun s => Value.string ⟨s.toArray⟩).toArray := strs_of_second (first := ("pigeonry/crc.words", Rows.laid_pigeonry_crc_words)) (rest := []) gTx gTxType Tryd.underlying64 Tryd.underlying9 cellsStr cellsTx h
  have t1 : Tab W := fun i hi => by rw [← crcT_tab]; exact h1.cell gTab i hi
  have t2 : Texts W := fun i hi => by
    have h3 := World.var?_cell gTx h2 i
    rw [h3]
    match i, hi with
    | 0, _ => rfl
    | 1, _ => rfl
    | 2, _ => rfl
    | 3, _ => rfl
    | 4, _ => rfl
    | 5, _ => rfl
  exact ⟨t1, cell_lt (t1 0 (by decide)), t2, cell_lt (t2 0 (by decide))⟩

noncomputable def fillTab : Obj → Obj
  | .cells _ t frozen => .cells (crcTab.map fun z => Value.int .u32 z).toArray t frozen
  | o => o
noncomputable def fillTx : Obj → Obj
  | .cells _ t frozen => .cells (texts6.map fun s => Value.string ⟨s.toArray⟩).toArray t frozen
  | o => o
/-- A WORLD FOR THE WITNESS: the settled one, both tables holding what their initialisers lay. -/
noncomputable def laidWorld (os : Os) : World :=
  { World.holding Tryd.prog os ⟨#[], #[], []⟩ with heap := ((World.holding Tryd.prog os ⟨#[], #[], []⟩).heap.modify 1 fillTab).modify 0 fillTx }

/-- The types that these laws take read whole. -/
theorem types_ok : ∀ t ∈ [23, 25, 2, 22, 42], Tryd.prog.readableRec t = true ∧ t < Tryd.prog.types.size := by
  intro t ht
  have h : ([23, 25, 2, 22, 42].all fun t => Tryd.prog.readableRec t && decide (t < Tryd.prog.types.size)) = true := by kernel_rfl
  have := List.all_eq_true.1 h t ht
  simpa using this
section
variable {H : Type} {enc : TypeId × Value → H}
/-- A page that came in. -/
theorem open_page {base : Nat} {W : World} {v : Value} {d : DataW H} {ps : List MemPlace} (hok : Value.okWide Tryd.prog W .any base 25 v) (h : DataW.Trod enc Tryd.prog W 0 (fun _ => true) true 25 v d ps) :
    ∃ (k t x : Int) (a : Option Addr) (l : List UInt8) (c : Nat), v = pgv k t x a l.length c ∧ BytesAt W.heap.size W a l ∧ (a = none → c = 0) ∧ l.length ≤ c ∧ c ≤ maxLen := by
  obtain ⟨v0, v1, v2, v3, y0, y1, y2, y3, n, rfl, -, -, h0, h1, h2, h3⟩ := Joins.open_agg4 Tryd.underlying25 (by kernel_rfl) (by kernel_rfl) hok h
  obtain ⟨k, e0, -, -⟩ := DataW.trod_int Tryd.underlying22 h0
  obtain ⟨t, e1, -, -⟩ := DataW.trod_int Tryd.underlying2 h1
  obtain ⟨x, e2, -, -⟩ := DataW.trod_int Tryd.underlying2 h2
  cases e0; cases e1; cases e2
  rcases open_ints Tryd.underlying23 Tryd.underlying5 cellsU8 h3 with ⟨hcs, hx⟩ | ⟨a, len', cap', zs, hcs, _, hl, hm, hz, hx, hcell, hwz⟩
  · cases hcs
    exact ⟨k, t, x, none, [], 0, rfl, .nil, fun _ => rfl, Nat.le_refl _, Nat.zero_le _⟩
  · cases hcs
    simp only [if_true] at hz
    refine ⟨k, t, x, some a, (zs.take len').map (fun z => UInt8.ofNat z.toNat), cap', ?_, ?_, (fun h => by cases h), ?_, hm⟩
    · rw [show ((zs.take len').map (fun z => UInt8.ofNat z.toNat)).length = len' by simp; omega]
    · intro hne
      have hlen : 0 < len' := by
        rcases Nat.eq_zero_or_pos len' with h0 | h0
        · subst h0; simp at hne
        · exact h0
      obtain ⟨b, off, spot⟩ := a
      have hspot : spot = none := by simpa [Addr.add] using World.cell?_spot (hcell 0 (by omega))
      subst hspot
      refine ⟨b, off, rfl, ?_, fun j hj => ?_⟩
      · have := cell_lt (hcell 0 (by omega)); simpa [Addr.add] using this
      · have hj1 : j < len' ∧ j < zs.length := by simp at hj; omega
        have h1 := hcell j (by omega)
        have hw := wf_u8 (hwz (zs.getD j 0) (by simp [List.getD, List.getElem?_eq_getElem hj1.2]))
        have e2 : (((zs.take len').map (fun z => UInt8.ofNat z.toNat))[j]?.getD 0).toNat = (zs.getD j 0).toNat := by
          rw [List.getElem?_map, List.getElem?_take, if_pos hj1.1, List.getElem?_eq_getElem hj1.2]
          simp only [List.getD, List.getElem?_eq_getElem hj1.2, Option.map_some, Option.getD_some] at hw ⊢
          exact UInt8.toNat_ofNat_of_lt' (by have : UInt8.size = 256 := rfl; omega)
        have e3 : (⟨b, off, none⟩ : Addr).add j = ⟨b, off + j, none⟩ := addr_add b off j
        rw [e2, show (((zs.getD j 0).toNat : Nat) : Int) = zs.getD j 0 by omega, ← e3]
        exact h1
    · simp; omega
end
end Go.Proofs.YtjfpgclaefbhjaaDoor

/- Layer 5: what all texts of slots share: cells as values; what a call keeps; what tells the cells' parts, by kind. -/
import Derived.Laws.StructEq
import Derived.Laws.Cover1
import Derived.Laws.Strings
import Derived.Test.YtaceebgcaghocaaIntMap
import Derived.Test.YtaceebgcaghocaaOwnB
namespace Go.Proofs.Ytaceebgcaghocaa
open Go.RowKit

theorem go_on {w a b : World} (h : Below w.heap.size w a) (hb : Below a.heap.size a b) : Below w.heap.size w b := h.trans (hb.mono h.size)
theorem go_new {w a : World} (h : Below w.heap.size w a) (o : Obj) : Below w.heap.size w (a.alloc o) := h.alloc h.size _
theorem go_row {a b : World} {k : Nat} {o : Obj} (h : a.heap[k]? = some o) (hb : Below a.heap.size a b) : b.heap[k]? = some o := (hb.block k (Array.getElem?_eq_some_iff.1 h).1).trans h
theorem ret_eq {a b : Value} (h : a = b) : Ending.returned a = .returned b := by rw [h]
theorem ret_bool {a b : Bool} (h : a = b) : Ending.returned (.bool a) = .returned (.bool b) := by rw [h]

/-- A cell. -/
structure Cv where
  key : ByteArray
  text : ByteArray
  long : Bool
  page : Int
  size : Int
instance : Inhabited Cv := ⟨⟨ByteArray.empty, ByteArray.empty, false, 0, 0⟩⟩
abbrev Cv.row (c : Cv) : Array Value := #[.string c.key, .string c.text, .bool c.long, .int .i64 c.page, .int .i64 c.size]
abbrev cellv (c : Cv) : Value := .agg #[.string c.key, .string c.text, .bool c.long, .int .i64 c.page, .int .i64 c.size]
def Cv.same (c d : Cv) : Bool := (c.key.toList == d.key.toList) && ((c.text.toList == d.text.toList) && ((c.long == d.long) && ((c.page == d.page) && (c.size == d.size))))
theorem toList_inj {a b : ByteArray} (h : a.toList = b.toList) : a = b := by
  rw [ByteArray.toList_eq, ByteArray.toList_eq] at h
  cases a; cases b
  simp only [ByteArray.mk.injEq]
  exact Array.toList_inj.1 h
theorem Cv.same_iff {c d : Cv} : c.same d = true ↔ c = d := by
  cases c; cases d
  simp only [Cv.same, Bool.and_eq_true, beq_iff_eq, Cv.mk.injEq]
  constructor
  · rintro ⟨h1, h2, h3, h4, h5⟩; exact ⟨toList_inj h1, toList_inj h2, h3, h4, h5⟩
  · rintro ⟨rfl, rfl, rfl, rfl, rfl⟩; simp
/-- Every block of a cell's type is as it was. -/
def CellKeep (w w' : World) : Prop := ∀ (k : Nat) (cs : Array Value) (fr : Nat × Nat), w.heap[k]? = some (.cells cs 36 fr) → w'.heap[k]? = some (.cells cs 36 fr)
theorem CellKeep.refl (w : World) : CellKeep w w := fun _ _ _ h => h
theorem CellKeep.trans {a b c : World} (h : CellKeep a b) (k : CellKeep b c) : CellKeep a c := fun i cs fr hi => k i cs fr (h i cs fr hi)
theorem CellKeep.of_below {w w' : World} (h : Below w.heap.size w w') : CellKeep w w' := fun _ _ _ hi => go_row hi h
theorem CellKeep.of_grown {w w' : World} {B : Nat} {cs : Array Value} {T : TypeId} {fr : Nat × Nat} (hB : w.heap[B]? = some (.cells cs T fr)) (hT : T ≠ 36) (h : w.grownBy w' (some B)) : CellKeep w w' := fun k ds fr2 hk => by
  refine (h.block k (Array.getElem?_eq_some_iff.1 hk).1 (fun e => ?_)).trans hk
  cases e
  rw [hB] at hk; cases hk; exact hT rfl

/-- What tells a leaf's parts, a branch's. -/
def kindF : Nat → Option Value := putAt (putAt (fun _ => none) 2 (.func (.func 26) #[] #[])) 3 (.func (.func 27) #[] #[])
theorem zeroPart (w : World) : (zeroValue 41).run Try.prog w = .ok .nilFunc w := by kernel_rfl
set_option maxRecDepth 100000 in
theorem kinds_any (w : World) :
    Calls Try.prog 11 #[] w fun e w' => e = .returned (.map (some w.heap.size)) ∧ IntMap Try.prog 22 w' w.heap.size kindF ∧ Below w.heap.size w w' := by
  have hmm := @run_makeMap Try.prog
  have hm := IntMap.made (P := Try.prog) (kT := 22) w
  go_enter Try.func11, Try.ntmps11
  go_wp2_with (first
    | (refine wpList_insert rfl _ _ _ rfl Try.underlying22 Try.underlying43 hm rfl 2 (by omega) rfl ?_; intro w1 h1 g1; clear hm)
    | (refine wpList_insert rfl _ _ _ rfl Try.underlying22 Try.underlying43 h1 rfl 3 (by omega) rfl ?_; intro w2 h2 g2; clear h1))
  have hb1 : Below w.heap.size w w1 := ((Below.refl _ w).alloc (Nat.le_refl _) _).grown g1 (by simp) (fun k e => by cases e; exact Nat.le_refl _)
  have hb2 : Below w.heap.size w w2 := hb1.grown g2 hb1.size (fun k e => by cases e; exact Nat.le_refl _)
  go_ret
  exact ⟨rfl, h2, hb2⟩
end Go.Proofs.Ytaceebgcaghocaa

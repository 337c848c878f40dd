/- Layer 3: Rest: what is left, a copy. -/
import Derived.Test.YtkophpipehdkmaaWireR4
import Derived.Test.YtkophpipehdkmaaFrames
namespace Go.Proofs.Ytkophpipehdkmaa
open Go.RowKit

section
variable {n₀ : Nat} {w : World} {B : Nat}
theorem load_cellR {P : Program} {T : TypeId} {w : World} {a : Addr} {v : Value} (hT : (isAgg T).run P w = .ok false w) (h : w.cell? a = some v) : (Instr.loadAt T (.pointer (some a))).run P w = .ok v w := by
  simp [Instr.loadAt, Instr.sureAddr, loadVar, hT, go_sem, Result.andThen, h]
def slFrom (ao : Option Addr) (c i : Nat) : Option Addr := if c = i then ao else ao.map fun x => x.add (i * 1)
theorem slFrom_none {ao : Option Addr} {c i : Nat} (h : ao = none → c = 0) (h2 : slFrom ao c i = none) : c - i = 0 := by
  cases ao with
  | none => have := h rfl; omega
  | some a =>
    unfold slFrom at h2
    split at h2 <;> cases h2
theorem rest_at {n₁ : Nat} {ao : Option Addr} {l : List UInt8} {c i : Nat} (hm : BytesAt n₁ w ao l) (hc : l.length ≤ c) : BytesAt n₁ w (slFrom ao c i) (l.drop i) := fun hne => by
  have hi : i < l.length := by
    rcases Nat.lt_or_ge i l.length with h | h
    · exact h
    · exact absurd (List.drop_of_length_le h) hne
  obtain ⟨b, off, rfl, hb, hcc⟩ := hm (by rintro rfl; simp at hi)
  refine ⟨b, off + i, ?_, hb, fun j hj => ?_⟩
  · unfold slFrom
    rw [if_neg (by omega), Option.map_some, Nat.mul_one, addr_add]
  · rw [List.length_drop] at hj
    rw [List.getElem?_drop, Nat.add_assoc]
    exact hcc (i + j) (by omega)

/-- What the operations of Rest's last statement yield. -/
def RestSp (B n₁ n c i : Nat) (ao : Option Addr) (r : List UInt8) : Nat → Value → World → Prop
  | 3, u, _ => u = .pointer (some ⟨B, 1, none⟩)
  | 4, u, _ => u = .slice ao n c
  | 7, u, _ => u = .pointer (some ⟨B, 2, none⟩)
  | 8, u, _ => u = .int .i64 i
  | 9, u, _ => u = .slice (slFrom ao c i) (n - i) (c - i)
  | 10, u, w => OwnB w n₁ u r
  | 11, u, w => OwnB w n₁ u r
  | _, u, _ => u = wptr B
theorem RestSp.below {B n₁ n c i : Nat} {ao : Option Addr} {r : List UInt8} {w w' : World} (hb : Below w.heap.size w w') : ∀ j u, RestSp B n₁ n c i ao r j u w → RestSp B n₁ n c i ao r j u w' := by
  intro j u h
  have hk : ∀ v l, OwnB w n₁ v l → OwnB w' n₁ v l := fun v l ho => World.ownsRow.kept ho (below_grown hb) (by cases v.ownBlock <;> simp)
  unfold RestSp at h ⊢
  split at h
  all_goals first
    | exact hk _ _ h
    | exact h
def RestPost (w : World) (r : List UInt8) (e : Ending) (w' : World) : Prop := ∃ v, e = .returned v ∧ OwnB w' w.heap.size v r ∧ Below w.heap.size w w'
end
end Go.Proofs.Ytkophpipehdkmaa

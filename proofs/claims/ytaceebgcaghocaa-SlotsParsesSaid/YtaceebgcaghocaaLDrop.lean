/- A list's rest, its first one apart. -/
import Derived.Test.YtaceebgcaghocaaKit
namespace Go.Proofs.Ytaceebgcaghocaa

theorem drop_cons {α : Type} {L : List α} {k : Nat} {d : α} (h : k < L.length) : L.drop k = L.getD k d :: L.drop (k + 1) := by
  rw [List.drop_eq_getElem_cons h]; simp [List.getD, h]
end Go.Proofs.Ytaceebgcaghocaa

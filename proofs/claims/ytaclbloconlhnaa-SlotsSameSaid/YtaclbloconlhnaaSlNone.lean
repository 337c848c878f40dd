/- A slice that came in and has no address has no room. Of no program. -/
import Derived.Deep.Slices
import Derived.Deep.Fields
import Derived.ChangeSame
import Derived.Test.YtaclbloconlhnaaKit
namespace Go.Proofs.Ytaclbloconlhnaa
open Go.ChangeShapes Go.WideShapes Go.RowKit Go.Deep

theorem none_cap {H : Type} {enc : TypeId × Value → H} {P : Program} {t e : TypeId} {W : World} {a : Option Addr} {len cap : Nat} {d : DataW H} {ps : List MemPlace} (ht : P.underlying t = some (.slice e)) (h : DataW.Trod enc P W 0 (fun _ => true) true t (.slice a len cap) d ps) : a = none → cap = 0 := by
  obtain ⟨fuel, hf⟩ := h
  rcases open_slice ht hf with ⟨hcs, hx⟩ | ⟨a', len', cap', m, n, D, Pl, hcs, _⟩
  · simp [Value.cells] at hcs
    intro _
    exact hcs.2.2
  · simp [Value.cells] at hcs
    intro e
    rw [e] at hcs
    exact absurd hcs.1 (by simp)
end Go.Proofs.Ytaclbloconlhnaa

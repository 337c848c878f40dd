/- Layer 3: a reader in memory, and the contracts of its small calls. -/
import Derived.WalkLawsBesides
import Derived.Deep.RegionHeld3
import Derived.Deep.Cut
import Derived.Deep.DeepCutAuto
import Derived.Test.YtkophpipehdkmaaReg
import Derived.Test.YtkophpipehdkmaaWireT
namespace Go.Proofs.Ytkophpipehdkmaa
open Go.RowKit

section
variable {n₀ : Nat} {w : World} {B : Nat} {v : Value} {l : List UInt8} {i : Nat}
theorem set_grown (w : World) (p : Addr) (x : Value) : w.grownBy (w.setCell p x) (some p.block) :=
  ⟨rfl, rfl, rfl, by simp [World.setCell], fun i _ hne => Below.heap_setCell w p x i (fun e => hne (by rw [e]))⟩
end
end Go.Proofs.Ytkophpipehdkmaa

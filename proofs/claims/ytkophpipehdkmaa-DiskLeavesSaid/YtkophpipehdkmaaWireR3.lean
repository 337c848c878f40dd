/- Layer 3: what a reader reads: numbers, truths, texts; what is left. -/
import Derived.Test.YtkophpipehdkmaaWireR2
namespace Go.Proofs.Ytkophpipehdkmaa
open Go.RowKit

section
variable {n₀ : Nat} {w : World} {B : Nat} {v : Value} {l : List UInt8} {i : Nat}
theorem grown_below {row : Option Nat} {w w' : World} (h : Below w.heap.size w w') : w.grownBy w' row := ⟨h.os, h.tape, h.output, h.size, fun k hk _ => h.block k hk⟩
def RNumJump (w : World) (B : Nat) (k : Int) (a' : Act) (w' : World) : Prop :=
  Below w.heap.size w w' ∧ ∃ u6 u7 u8 u9 u10 u11 u12 u13 u14 u15 u16 u17 u18 u19 u20 u21 u22 u23 u24 u25 u26 : Value, a' = { tmps := #[wptr B, .int .i64 k, undef, undef, .int .u64 0, .int .i64 0, u6, u7, u8, u9, u10, u11, u12, u13, u14, u15, u16, u17, u18, u19, u20, u21, u22, u23, u24, u25, u26], defers := [] }
end
end Go.Proofs.Ytkophpipehdkmaa

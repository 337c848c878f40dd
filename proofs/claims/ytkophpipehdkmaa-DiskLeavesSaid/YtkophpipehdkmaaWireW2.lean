/- Layer 3: what a writer writes: numbers, truths, texts. -/
import Derived.Test.YtkophpipehdkmaaWireW
namespace Go.Proofs.Ytkophpipehdkmaa
open Go.RowKit

/-- What Number answers, and the bytes behind it. -/
def wNum (l : List UInt8) (n : Nat) (k : Int) : Nat × List UInt8 :=
  if k < 1 ∨ 8 < k ∨ 2 ^ (8 * k.toNat) ≤ n then (2, l) else if 65536 < l.length + k.toNat then (3, l) else (0, l ++ laidB n k.toNat k.toNat)
def wTruth (l : List UInt8) (b : Bool) : Nat × List UInt8 := if 65536 < l.length + 1 then (3, l) else (0, l ++ [if b then 1 else 0])
def wText (l s : List UInt8) : Nat × List UInt8 := if 65536 < l.length + 2 + s.length then (3, l) else (0, l ++ (laidB s.length 2 2 ++ s))

section
variable {n₀ : Nat} {w : World} {B : Nat} {v : Value} {l : List UInt8}
/-- What holds where Number jumps to its last lines. -/
def NumJump (w : World) (B : Nat) (n : Nat) (k : Int) (a' : Act) (w' : World) : Prop :=
  w' = w ∧ ∃ u7 u8 u9 u10 u11 u12 u13 u14 u15 u16 u17 u18 u19 u20 u21 u22 u23 u24 u25 u26 u27 u28 u29 u30 u31 u32 u33 : Value, a' = { tmps := #[wptr B, .int .u64 n, .int .i64 k, undef, undef, undef, .int .i64 0, u7, u8, u9, u10, u11, u12, u13, u14, u15, u16, u17, u18, u19, u20, u21, u22, u23, u24, u25, u26, u27, u28, u29, u30, u31, u32, u33], defers := [] }
end
end Go.Proofs.Ytkophpipehdkmaa

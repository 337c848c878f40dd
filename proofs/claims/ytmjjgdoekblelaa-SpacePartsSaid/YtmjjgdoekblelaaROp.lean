/- Operations of statements in no fixed order: wanted or not, picks, comparisons of numbers, lengths, booleans. Of no program. -/
import Derived.WalkKit
import Derived.Deep.Slices
import Derived.Test.YtmjjgdoekblelaaReg3
namespace Go.Proofs.Ytmjjgdoekblelaa
open Go.RowKit

section
variable {P : Program} {ops : Array Oper} {Q : Exit → Act → World → Prop} {i : Nat} {o : Oper} {a : Act} {w w' : World} {K : Act → World → Prop}
theorem wantedOf {oi : Oper} {b : Bool} {d : Tmp} {j : Nat} (hg : o.guard = some (j, b)) (ho : ops[j]? = some oi) (hd : oi.dst = some d) (hsz : d < a.tmps.size) (hv : a.eval (.tmp d) = .bool b) : Region.wanted o (yielded ops a.tmps) = true := by
  have h1 : a.tmps[d]? = some (.bool b) := by
    have : a.tmps.getD d undef = .bool b := hv
    rw [Array.getD, dif_pos hsz] at this
    rw [Array.getElem?_eq_getElem hsz]; exact congrArg some this
  unfold Region.wanted
  rw [hg]
  simp [yielded, ho, hd, h1]
theorem wantedOff {oi : Oper} {b b' : Bool} {d : Tmp} {j : Nat} (hg : o.guard = some (j, b)) (ho : ops[j]? = some oi) (hd : oi.dst = some d) (hsz : d < a.tmps.size) (hv : a.eval (.tmp d) = .bool b') (hb : b' ≠ b) : Region.wanted o (yielded ops a.tmps) = false := by
  have h1 : a.tmps[d]? = some (.bool b') := by
    have : a.tmps.getD d undef = .bool b' := hv
    rw [Array.getD, dif_pos hsz] at this
    rw [Array.getElem?_eq_getElem hsz]; exact congrArg some this
  unfold Region.wanted
  rw [hg]
  simp [yielded, ho, hd, h1, hb]
theorem wpOp_off (ho : ops[i]? = some o) (hg : Region.wanted o (yielded ops a.tmps) = false) (hK : K (a.put o.dst undef) w) : wpOp P ops Q i K a w := by
  unfold wpOp
  simp only [ho]
  rw [if_neg (by rw [hg]; decide)]
  exact hK
theorem wpOp_pick2 {c x y : Operand} {b : Bool} {v u : Value} (ho : ops[i]? = some o) (hg : Region.wanted o (yielded ops a.tmps) = true) (hop : o.op = .pick c x y) (hc : a.eval c = .bool b) (hx : b = true → a.eval x = v) (hy : b = false → a.eval y = u) (hK : K (a.put o.dst (if b then v else u)) w) : wpOp P ops Q i K a w := by
  cases b with
  | true => exact wpOp_val (v := v) (w' := w) ho hg (by simp [execOp, hop, hc, hx rfl, asBool]) hK
  | false => exact wpOp_val (v := u) (w' := w) ho hg (by simp [execOp, hop, hc, hy rfl, asBool]) hK
/-- Two numbers held against each other. -/
theorem wpOp_bin {b : BinOp} {t u : TypeId} {x y : Operand} {vx vy v : Value} (ho : ops[i]? = some o) (hg : Region.wanted o (yielded ops a.tmps) = true) (hop : o.op = .binOp b t x y u) (hx : a.eval x = vx) (hy : a.eval y = vy)
    (heg : (eqGuard b t x y vx vy).run P w = .ok () w) (hrun : (binOp b t vx vy).run P w = .ok v w) (hK : K (a.put o.dst v) w) : wpOp P ops Q i K a w :=
  wpOp_val ho hg (by simp only [execOp, hop, hx, hy, heg, hrun, Sem.run_bind, Sem.run_pure, Result.andThen_ok]) hK
end
end Go.Proofs.Ytmjjgdoekblelaa

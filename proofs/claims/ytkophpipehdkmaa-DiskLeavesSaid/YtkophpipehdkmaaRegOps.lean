/- Layer 3: operations of statements in no fixed order: lengths, comparisons, conversions. -/
import Derived.Test.YtkophpipehdkmaaReg2
import Derived.Test.YtkophpipehdkmaaWireR5
namespace Go.Proofs.Ytkophpipehdkmaa
open Go.RowKit
section
variable {ops : Array Oper} {Q : Exit → Act → World → Prop} {i : Nat} {o : Oper} {a : Act} {w w' : World} {K : Act → World → Prop}
theorem wantedOf {oi : Oper} {b : Bool} {d : Tmp} {j : Nat} (hg : o.guard = some (j, b)) (ho : ops[j]? = some oi) (hd : oi.dst = some d) (hsz : d < a.tmps.size) (hv : a.eval (.tmp d) = .bool b) : Region.wanted o (yielded ops a.tmps) = true := by
  have h1 : a.tmps[d]? = some (.bool b) := by
    have : a.tmps.getD d undef = .bool b := hv
    rw [Array.getD, dif_pos hsz] at this
    rw [Array.getElem?_eq_getElem hsz]; exact congrArg some this
  unfold Region.wanted
  rw [hg]
  simp [yielded, ho, hd, h1]
theorem wpOp_lenS {x : Operand} {ao : Option Addr} {n c : Nat} (ho : ops[i]? = some o) (hg : Region.wanted o (yielded ops a.tmps) = true) (hop : o.op = .call { callee := .builtin .len, args := #[x], argTypes := #[31] }) (hx : a.eval x = .slice ao n c) (hK : K (a.put o.dst (.int .i64 n)) w) : wpOp Try.prog ops Q i K a w :=
  wpOp_val (v := .int .i64 n) (w' := w) ho hg (by simp only [execOp, hop, resolve, invoke, Go.builtin, List.map_toArray, List.map_cons, List.map_nil, hx, Sem.run_bind, Sem.run_pure, Result.andThen_ok]; rw [run_len_slice w 31 o.type ao n c (by rw [show Try.prog.elem 31 = 5 by kernel_rfl]; exact Try.underlying31)]; rfl) hK
theorem wpOp_neqI {x y : Operand} {n m : Int} (ho : ops[i]? = some o) (hg : Region.wanted o (yielded ops a.tmps) = true) (hop : o.op = .binOp .neq 3 x y 3) (hx : a.eval x = .int .i64 n) (hy : a.eval y = .int .i64 m) (hK : K (a.put o.dst (.bool (n != m))) w) : wpOp Try.prog ops Q i K a w :=
  wpOp_val ho hg (by simp only [execOp, hop, hx, hy]; simp [go_sem]) hK
theorem wpOp_neqE {x y : Operand} {n m : Int} (ho : ops[i]? = some o) (hg : Region.wanted o (yielded ops a.tmps) = true) (hop : o.op = .binOp .neq 26 x y 26) (hx : a.eval x = .int .i64 n) (hy : a.eval y = .int .i64 m) (hK : K (a.put o.dst (.bool (n != m))) w) : wpOp Try.prog ops Q i K a w :=
  wpOp_val ho hg (by simp only [execOp, hop, hx, hy]; simp [go_sem]) hK
theorem wpOp_neqS {x y : Operand} {s t : ByteArray} (ho : ops[i]? = some o) (hg : Region.wanted o (yielded ops a.tmps) = true) (hop : o.op = .binOp .neq 9 x y 9) (hx : a.eval x = .string s) (hy : a.eval y = .string t) (hK : K (a.put o.dst (.bool (s.toList != t.toList))) w) : wpOp Try.prog ops Q i K a w :=
  wpOp_val ho hg (by simp only [execOp, hop, hx, hy]; simp [go_sem, bne]) hK
theorem wpOp_eqS {x y : Operand} {s t : ByteArray} (ho : ops[i]? = some o) (hg : Region.wanted o (yielded ops a.tmps) = true) (hop : o.op = .binOp .eql 9 x y 9) (hx : a.eval x = .string s) (hy : a.eval y = .string t) (hK : K (a.put o.dst (.bool (s.toList == t.toList))) w) : wpOp Try.prog ops Q i K a w :=
  wpOp_val ho hg (by simp only [execOp, hop, hx, hy]; simp [go_sem]) hK
theorem wpOp_eqI {x y : Operand} {n m : Int} (ho : ops[i]? = some o) (hg : Region.wanted o (yielded ops a.tmps) = true) (hop : o.op = .binOp .eql 3 x y 3) (hx : a.eval x = .int .i64 n) (hy : a.eval y = .int .i64 m) (hK : K (a.put o.dst (.bool (n == m))) w) : wpOp Try.prog ops Q i K a w :=
  wpOp_val ho hg (by simp only [execOp, hop, hx, hy]; simp [go_sem]) hK
theorem wpOp_pick2 {c x y : Operand} {b : Bool} {v u : Value} (ho : ops[i]? = some o) (hg : Region.wanted o (yielded ops a.tmps) = true) (hop : o.op = .pick c x y) (hc : a.eval c = .bool b) (hx : b = true → a.eval x = v) (hy : b = false → a.eval y = v) (hu : u = v) (hK : K (a.put o.dst u) w) : wpOp Try.prog ops Q i K a w := by
  subst hu
  refine wpOp_val (v := u) ho hg ?_ hK
  cases b with
  | true => simp only [execOp, hop, hc, hx rfl]; simp [go_sem]
  | false => simp only [execOp, hop, hc, hy rfl]; simp [go_sem]
theorem wpOp_conv {s t : TypeId} {x : Operand} {vx v : Value} (ho : ops[i]? = some o) (hg : Region.wanted o (yielded ops a.tmps) = true) (hop : o.op = .convert s t x) (hx : a.eval x = vx) (hrun : (convert s t vx).run Try.prog w = .ok v w') (hK : K (a.put o.dst v) w') : wpOp Try.prog ops Q i K a w :=
  wpOp_val ho hg (by simp only [execOp, hop, hx, hrun, Sem.run_bind, Sem.run_pure, Result.andThen_ok]) hK
end
end Go.Proofs.Ytkophpipehdkmaa

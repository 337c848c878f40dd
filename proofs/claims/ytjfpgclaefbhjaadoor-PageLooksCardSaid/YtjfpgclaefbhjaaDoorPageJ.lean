/- Layer 4: what the document's Look needs at single operations. -/
import Derived.Test.YtjfpgclaefbhjaaDoorPageI
import Derived.Test.YtjfpgclaefbhjaaDoorPageB
namespace Go.Proofs.YtjfpgclaefbhjaaDoor
open Go.RowKit

theorem wrapI {z : Int} (h : -9223372036854775808 ≤ z) (h2 : z < 9223372036854775808) : IntKind.i64.wrap z = z := by
  simp [IntKind.wrap, IntKind.bits, IntKind.signed]; omega
section
variable {ops : Array Oper} {o : Oper} {i : Nat} {a : Act} {w : World} {K : Act → World → Prop} {Q : Exit → Act → World → Prop}
theorem wpOp_off (ho : ops[i]? = some o) (hg : Region.wanted o (yielded ops a.tmps) = false) (hK : K (a.put o.dst undef) w) : wpOp Tryd.prog ops Q i K a w := by
  unfold wpOp
  simp only [ho]
  rw [if_neg (by rw [hg]; decide)]
  exact hK
theorem wantedOff {oi : Oper} {b b' : Bool} {d : Tmp} {j : Nat} (hg : o.guard = some (j, b)) (ho : ops[j]? = some oi) (hd : oi.dst = some d) (hsz : d < a.tmps.size) (hv : a.eval (.tmp d) = .bool b') (hb : b' ≠ b) : Region.wanted o (yielded ops a.tmps) = false := by
  have h1 : a.tmps[d]? = some (.bool b') := by
    have : a.tmps.getD d undef = .bool b' := hv
    rw [Array.getD, dif_pos hsz] at this
    rw [Array.getElem?_eq_getElem hsz]; exact congrArg some this
  unfold Region.wanted
  rw [hg]
  simp [yielded, ho, hd, h1, hb]
theorem wpOp_neL {x y : Operand} {n m : Int} {c : Bool} (ho : ops[i]? = some o) (hg : Region.wanted o (yielded ops a.tmps) = true) (hop : o.op = .binOp .neq 2 x y 2) (hx : a.eval x = .int .i64 n) (hy : a.eval y = .int .i64 m) (hc : c = (n != m)) (hK : K (a.put o.dst (.bool c)) w) : wpOp Tryd.prog ops Q i K a w := by
  subst hc
  exact wpOp_val ho hg (by simp only [execOp, hop, hx, hy]; simp [go_sem]) hK
theorem wpOp_ltL {x y : Operand} {n m : Int} {c : Bool} (ho : ops[i]? = some o) (hg : Region.wanted o (yielded ops a.tmps) = true) (hop : o.op = .binOp .lss 2 x y 2) (hx : a.eval x = .int .i64 n) (hy : a.eval y = .int .i64 m) (hc : c = decide (n < m)) (hK : K (a.put o.dst (.bool c)) w) : wpOp Tryd.prog ops Q i K a w := by
  subst hc
  exact wpOp_val ho hg (by simp only [execOp, hop, hx, hy]; simp [go_sem]) hK
theorem wpOp_gtL {x y : Operand} {n m : Int} {c : Bool} (ho : ops[i]? = some o) (hg : Region.wanted o (yielded ops a.tmps) = true) (hop : o.op = .binOp .gtr 2 x y 2) (hx : a.eval x = .int .i64 n) (hy : a.eval y = .int .i64 m) (hc : c = decide (m < n)) (hK : K (a.put o.dst (.bool c)) w) : wpOp Tryd.prog ops Q i K a w := by
  subst hc
  exact wpOp_val ho hg (by simp only [execOp, hop, hx, hy]; simp [go_sem]) hK
theorem wpOp_notB {x : Operand} {b c : Bool} (ho : ops[i]? = some o) (hg : Region.wanted o (yielded ops a.tmps) = true) (hop : o.op = .unOp .not 4 x) (hx : a.eval x = .bool b) (hc : c = !b) (hK : K (a.put o.dst (.bool c)) w) : wpOp Tryd.prog ops Q i K a w := by
  subst hc
  exact wpOp_val ho hg (by simp only [execOp, hop, hx]; simp [go_sem]) hK
theorem wpOp_add24 {x y : Operand} {n : Nat} (ho : ops[i]? = some o) (hg : Region.wanted o (yielded ops a.tmps) = true) (hop : o.op = .binOp .add 3 x y 3) (hx : a.eval x = .int .i64 24) (hy : a.eval y = .int .i64 n) (hn : n ≤ 1000) (hK : K (a.put o.dst (.int .i64 (24 + (n : Int)))) w) : wpOp Tryd.prog ops Q i K a w := by
  have h : IntKind.i64.wrap (24 + (n : Int)) = 24 + (n : Int) := wrapI (by omega) (by omega)
  exact wpOp_val ho hg (by simp only [execOp, hop, hx, hy]; simp [go_sem, h]) hK
end
theorem slice24 (w : World) (a : Option Addr) (n c size : Nat) (hc : 24 + size ≤ c) : (Instr.sliceAt 23 (.slice a n c) (some (.int .i64 24)) (some (.int .i64 (24 + (size : Int)))) none).run Tryd.prog w = .ok (.slice (slFrom a c 24) size (c - 24)) w := by
  have hel : Tryd.prog.elem 23 = 5 := by kernel_rfl
  have hu : Tryd.prog.underlying 23 = some (.slice (Tryd.prog.elem 23)) := by rw [hel]; exact Tryd.underlying23
  have hs : (sizeOf 5).run Tryd.prog w = .ok 1 w := by kernel_rfl
  have h1 := (run_sliceAt_slice (P := Tryd.prog) w 23 (.slice a n c) (some (.int .i64 24)) (some (.int .i64 (24 + (size : Int)))) none hu).trans (run_slice_lh (P := Tryd.prog) w 23 a n c hu .i64 .i64 24 (24 + (size : Int)) (by omega) (by omega) (by omega))
  rw [hel, hs] at h1
  rw [h1]
  simp only [Result.andThen_ok, sliced, show (24 + (size : Int)).toNat = 24 + size by omega, show (24 : Int).toNat = 24 from rfl, show 24 + size - 24 = size by omega]
  rfl
theorem index_b (w : World) (b off n cap i : Nat) (h : i < n) : (Instr.indexAt 23 (.slice (some ⟨b, off, none⟩) n cap) (.int .i64 i)).run Tryd.prog w = .ok (.pointer (some ⟨b, off + i, none⟩)) w := by
  have he : Tryd.prog.elem 23 = 5 := by kernel_rfl
  have hs : (sizeOf 5).run Tryd.prog w = .ok 1 w := by kernel_rfl
  refine (run_indexAt_slice (P := Tryd.prog) (w := w) 23 ⟨b, off, none⟩ n cap .i64 i (by rw [he]; exact Tryd.underlying23)).trans ?_
  rw [if_pos (by omega), he, hs]
  simp [Result.andThen, Addr.add]
theorem conv_i64 (w : World) (n : Nat) (h : n < 4294967296) : (convert 53 2 (.int .u32 n)).run Tryd.prog w = .ok (.int .i64 n) w := by
  have h2 : IntKind.i64.wrap (n : Int) = n := wrapI (by omega) (by omega)
  simp [go_sem, h2]
theorem conv_kind (w : World) (n : Nat) (h : n < 256) : (convert 5 22 (.int .u8 n)).run Tryd.prog w = .ok (.int .i64 n) w := by
  have h2 : IntKind.i64.wrap (n : Int) = n := wrapI (by omega) (by omega)
  simp [go_sem, h2]
theorem sumOk_neL (b : List UInt8) : ((wrap64 ((numOf (b.take 4) : Nat) : Int)) != ((crcSum (b.drop 4) : Nat) : Int)) = !sumOk b := by
  have h1 := numOf_lt (b.take 4)
  have h2 : 256 ^ (b.take 4).length ≤ 256 ^ 4 := Nat.pow_le_pow_right (by decide) (by rw [List.length_take]; omega)
  have h3 : (256 : Nat) ^ 4 = 4294967296 := by decide
  have h4 : wrap64 ((numOf (b.take 4) : Nat) : Int) = (numOf (b.take 4) : Nat) := by unfold wrap64; omega
  rw [h4]
  unfold sumOk
  rw [Bool.eq_iff_iff]; simp; omega
theorem results_tct {fn : Func} {p u v : Tmp} {ty : TypeId} {fs : Array Field} (h : fn.results = #[.tmp u, .cell p ty, .tmp v]) (tmps : Array Value) (w : World) (g : Nat) (t : TypeId) (cs : Array Value) (fr : Nat × Nat)
    (hp : tmps.getD p undef = .pointer (some ⟨g, 0, none⟩)) (hg : w.heap[g]? = some (.cells cs t fr)) (hu : Tryd.prog.underlying ty = some (.struct fs)) (hi : (Tryd.prog.info? ty).map (·.size) = some cs.size) :
    (results fn tmps).run Tryd.prog w = .ok (.tuple #[tmps.getD u undef, .agg cs, tmps.getD v undef]) w := by
  have h1 : (results fn tmps).run Tryd.prog w = ((asAddr (tmps.getD p undef)).run Tryd.prog w).andThen fun a w => ((loadVar ty a).run Tryd.prog w).andThen fun x w => .ok (.tuple #[tmps.getD u undef, x, tmps.getD v undef]) w := by
    simp [results, h]
  rw [h1, hp]
  simp [asAddr, run_loadVar_row w g t ty cs fr _ hg hu rfl hi, Result.andThen]
theorem row_grown (w : World) (g : Nat) (cs : Array Value) : w.grownBy (w.setRow g cs) (some g) :=
  ⟨rfl, rfl, rfl, by simp [World.setRow], fun k _ hk => by
    simp only [World.setRow, Array.getElem?_modify]
    rw [if_neg (fun e => hk (by rw [e]))]⟩
theorem row_set {w : World} {g : Nat} {old : Array Value} {t : TypeId} {fr : Nat × Nat} (cs : Array Value) (h : w.heap[g]? = some (.cells old t fr)) : (w.setRow g cs).heap[g]? = some (.cells cs t fr) := by
  simp only [World.setRow, Array.getElem?_modify, if_true, h, Option.map_some]
/-- A page stored over a page's block. -/
theorem pg_store {w : World} {g : Nat} {old : Array Value} {t : TypeId} (v0 v1 v2 v3 : Value) (h : w.heap[g]? = some (.cells old t (0, 0))) (hs : old.size = 4) (h1 : (#[v0, v1, v2, v3] : Array Value).all (·.oneCell') = true) :
    (Instr.storeAt 25 (.pointer (some ⟨g, 0, none⟩)) (.agg #[v0, v1, v2, v3])).run Tryd.prog w = .ok () (w.setRow g #[v0, v1, v2, v3]) := by
  have := run_storeVar_row (P := Tryd.prog) w g t 25 old #[v0, v1, v2, v3] h (by kernel_rfl) (by rw [hs]; rfl) h1
  simp [Instr.storeAt, Instr.sureAddr, this]
theorem pg_alloc (w : World) : (Instr.alloc 25 true (.tuple #[])).run Tryd.prog w = .ok (.pointer (some ⟨w.heap.size, 0, none⟩)) (w.alloc (.cells #[.int .i64 0, .int .i64 0, .int .i64 0, .slice none 0 0] 25)) := by
  simp [go_sem]
theorem pg_build (w : World) (v0 v1 v2 : Int) (a : Option Addr) (n c : Nat) : (Instr.build 25 #[(0, .int .i64 v0), (1, .int .i64 v1), (2, .int .i64 v2), (3, .slice a n c)]).run Tryd.prog w = .ok (pgv v0 v1 v2 a n c) w := by
  simp [go_sem]
theorem one_at (b : List UInt8) (i : Nat) (h : i < b.length) : numOf ((b.drop i).take 1) = (b[i]?.getD 0).toNat := by
  have := numOf_take (l := b.drop i) (j := 0) (by rw [List.length_drop]; omega)
  rw [this, List.getElem?_drop]
  simp [numOf]
end Go.Proofs.YtjfpgclaefbhjaaDoor

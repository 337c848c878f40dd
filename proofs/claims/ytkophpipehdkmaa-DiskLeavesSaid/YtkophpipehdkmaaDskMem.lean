/- Pages of 256 bytes and writes of them as values and in memory: what each operation on them does, whatever the bytes (nothing is unrolled). -/
import Derived.WalkKit
import Derived.OwnWalk
import Derived.Deep.MidRow
import Derived.Deep.WholeRow
import Derived.Great.BuildSlice
import Derived.Lib.Hide
import Derived.Stop.BytesEq
import Derived.Maps.Own
import Derived.Test.YtkophpipehdkmaaKit
import Derived.Test.YtkophpipehdkmaaBytes
import Derived.Test.YtkophpipehdkmaaReg
import Derived.Test.YtkophpipehdkmaaProg
namespace Go.Proofs.Ytkophpipehdkmaa
open Go.RowKit

abbrev Page := List UInt8
def noughts : Page := List.replicate 256 0
theorem noughts_len : noughts.length = 256 := by unfold noughts; exact List.length_replicate
def pageV (l : Page) : Value := .agg (byteVals l).toArray
def writeCells (p : Nat) (l : Page) : List Value := .int .i64 p :: byteVals l
def writeV (p : Nat) (l : Page) : Value := .agg (writeCells p l).toArray
theorem byteVals_len (l : Page) : (byteVals l).length = l.length := by simp [byteVals]
theorem writeCells_len (p : Nat) (l : Page) : (writeCells p l).length = l.length + 1 := by simp [writeCells, byteVals]
theorem byteVals_inj {l m : Page} (h : byteVals l = byteVals m) : l = m := by
  unfold byteVals at h
  refine List.map_inj_right ?_ |>.1 h
  intro x y e
  have : ((x.toNat : Nat) : Int) = (y.toNat : Int) := by injection e
  exact UInt8.toNat_inj.1 (by omega)
theorem pageV_inj {l m : Page} (h : pageV l = pageV m) : l = m := by
  unfold pageV at h
  injection h with h
  exact byteVals_inj (by simpa using h)
theorem byteVals_one (l : Page) : ∀ v ∈ byteVals l, v.oneCell' = true := by
  intro v hv
  simp only [byteVals, List.mem_map] at hv
  obtain ⟨y, _, rfl⟩ := hv
  rfl
theorem writeCells_one (p : Nat) (l : Page) : ∀ v ∈ writeCells p l, v.oneCell' = true := by
  intro v hv
  rcases List.mem_cons.1 hv with rfl | hv
  · rfl
  · exact byteVals_one l v hv
theorem pageV_cells (l : Page) : (pageV l).cells = (byteVals l).toArray := rfl
theorem writeV_cells (p : Nat) (l : Page) : (writeV p l).cells = (writeCells p l).toArray := rfl

theorem zero77 : (Try.prog.info? 66).map (fun i => (i.zero, i.size)) = some (some (pageV noughts), 256) := by kernel_rfl
theorem zero90 : (Try.prog.info? 84).map (fun i => (i.zero, i.size)) = some (some (writeV 0 noughts), 257) := by kernel_rfl
theorem info77 : (Try.prog.info? 66).map (fun i => (i.zero, i.size, i.bytes)) = some (some (pageV noughts), 256, 256) := by kernel_rfl
theorem info90 : (Try.prog.info? 84).map (fun i => (i.zero, i.size, i.bytes)) = some (some (writeV 0 noughts), 257, 264) := by kernel_rfl
theorem size77 : (Try.prog.info? 66).map (·.size) = some 256 := (zero_of_info zero77).2
theorem size90 : (Try.prog.info? 84).map (·.size) = some 257 := (zero_of_info zero90).2

section
variable {P : Program}
theorem run_alloc_z (w : World) (T : TypeId) (z : Value) (hz : ∀ w, (zeroValue T).run P w = .ok z w) :
    (Instr.alloc T true (.tuple #[])).run P w = .ok (.pointer (some ⟨w.heap.size, 0, none⟩)) (w.alloc (.cells z.cells T)) := by
  simp [Instr.alloc, hz, newVar, newRow, Result.andThen]
/-- 'var x T': the new block holds the zero value. -/
theorem wpList_alloc_z {w : World} {ops : Array Oper} {rest : List Oper} {o : Oper} {a : Act} {Q : Exit → Act → World → Prop} (hgd : o.guard = none) (T : TypeId) (ho : o.op = .alloc T) (z : Value) (hz : ∀ w, (zeroValue T).run P w = .ok z w)
    (h : wpList P ops Q rest (a.put o.dst (.pointer (some ⟨w.heap.size, 0, none⟩))) (w.alloc (.cells z.cells T))) : wpList P ops Q (o :: rest) a w :=
  wpList_plain hgd fun _ hK => by
    unfold Oper.wp execOp
    simp only [ho, Sem.run_bind, Sem.run_pure, run_alloc_z w T z hz, Result.andThen_ok]
    exact hK _ _ h
/-- A store of many cells over the whole of the block that was made last. -/
theorem wpList_store_new {w : World} {ops : Array Oper} {rest : List Oper} {o : Oper} {a : Act} {Q : Exit → Act → World → Prop} (hgd : o.guard = none) (T : TypeId) (x y : Operand) (ho : o.op = .store T x y) (c c' : Array Value)
    (hx : a.eval x = .pointer (some ⟨w.heap.size, 0, none⟩)) (hy : a.eval y = .agg c') (hi : (P.info? T).map (·.size) = some c'.size) (hc : c.size = c'.size) (h1 : c'.all (·.oneCell') = true)
    (h : wpList P ops Q rest (a.put o.dst undef) (w.alloc (.cells c' T))) : wpList P ops Q (o :: rest) a (w.alloc (.cells c T)) :=
  wpList_plain hgd fun _ hK => by
    unfold Oper.wp execOp
    simp only [ho, hx, hy, Sem.run_bind, Sem.run_pure, run_storeAt_new w T c c' hi hc h1, Result.andThen_ok]
    exact hK _ _ h
theorem setRow_grown (w : World) (g : Nat) (cs : Array Value) : w.grownBy (w.setRow g cs) (some g) :=
  ⟨rfl, rfl, rfl, by simp, fun k _ hk => by
    simp only [World.setRow, Array.getElem?_modify]
    rw [if_neg (fun e => hk (by rw [e]))]⟩
end

theorem load_cell {P : Program} {T : TypeId} {w : World} {a : Addr} {v : Value} (hT : (isAgg T).run P w = .ok false w) (h : w.cell? a = some v) : (Instr.loadAt T (.pointer (some a))).run P w = .ok v w := by
  simp [Instr.loadAt, Instr.sureAddr, loadVar, hT, go_sem, Result.andThen, h]
theorem store_slice {P : Program} {T : TypeId} {w : World} {a : Addr} {u : Value} {p : Option Addr} {n c : Nat} (hz : (sizeOf T).run P w = .ok 1 w) (h : w.cell? a = some u) (hf : w.frozen? a = false) : (Instr.storeAt T (.pointer (some a)) (.slice p n c)).run P w = .ok () (w.setCell a (.slice p n c)) := by
  simp [Instr.storeAt, Instr.sureAddr, storeVar, storeCells, hz, go_sem, Result.andThen, h, hf]
def pageCells (l : Page) : Array Value := (byteVals l).toArray
theorem pageCells_size {l : Page} (h : l.length = 256) : (pageCells l).size = 256 := by unfold pageCells; rw [List.size_toArray, byteVals_len, h]
/-- 'var c content'. -/
theorem wpList_alloc77 {w : World} {ops : Array Oper} {rest : List Oper} {o : Oper} {a : Act} {Q : Exit → Act → World → Prop} (hgd : o.guard = none) (ho : o.op = .alloc 66)
    (h : wpList Try.prog ops Q rest (a.put o.dst (.pointer (some ⟨w.heap.size, 0, none⟩))) (w.alloc (.cells (pageCells noughts) 66))) : wpList Try.prog ops Q (o :: rest) a w :=
  wpList_alloc_z hgd _ ho (pageV noughts) (fun w => (zero_of_info zero77).1 w) h
/-- A page into the variable that was made last. -/
theorem wpList_store77 {w : World} {ops : Array Oper} {rest : List Oper} {o : Oper} {a : Act} {Q : Exit → Act → World → Prop} (hgd : o.guard = none) (x y : Operand) (ho : o.op = .store 66 x y) (l m : Page) (hl : l.length = 256) (hm : m.length = 256)
    (hx : a.eval x = .pointer (some ⟨w.heap.size, 0, none⟩)) (hy : a.eval y = pageV m) (h : wpList Try.prog ops Q rest (a.put o.dst undef) (w.alloc (.cells (pageCells m) 66))) : wpList Try.prog ops Q (o :: rest) a (w.alloc (.cells (pageCells l) 66)) :=
  wpList_store_new hgd _ x y ho (pageCells l) (pageCells m) hx hy (by rw [size77, pageCells_size hm]) (by rw [pageCells_size hl, pageCells_size hm]) (all_oneCell_toArray (byteVals_one m)) h
/-- A variable that holds a page. -/
def PageAt (w : World) (g : Nat) (l : Page) : Prop := w.heap[g]? = some (.cells (byteVals l).toArray 66 (0, 0))
theorem PageAt.new (w : World) (l : Page) : PageAt (w.alloc (.cells (pageV l).cells 66)) w.heap.size l := heap_alloc_last w _
theorem PageAt.lt {w : World} {g : Nat} {l : Page} (h : PageAt w g l) : g < w.heap.size := (Array.getElem?_eq_some_iff.1 h).1
theorem PageAt.below {w w' : World} {g n : Nat} {l : Page} (h : PageAt w g l) (hb : Below n w w') (hg : g < n) : PageAt w' g l := (hb.block g hg).trans h
theorem PageAt.grown {w w' : World} {g : Nat} {row : Option Nat} {l : Page} (h : PageAt w g l) (hb : w.grownBy w' row) (hg : some g ≠ row) : PageAt w' g l := (hb.block g h.lt hg).trans h
theorem PageAt.range {w : World} {g : Nat} {l : Page} (h : PageAt w g l) : w.rangeAt g 0 (byteVals l) := fun j v hv => by
  rw [Nat.zero_add, cell_of_row w g j _ _ _ h]; simpa using hv
theorem PageAt.bytes {w : World} {g : Nat} {l : Page} (h : PageAt w g l) : BytesAt w.heap.size w (some ⟨g, 0, none⟩) l := fun _ => ⟨g, 0, rfl, h.lt, fun j hj => by
  rw [Nat.zero_add, cell_of_row w g j _ _ _ h]; simp [byteVals, hj]⟩

theorem PageAt.new' (w : World) (l : Page) : PageAt (w.alloc (.cells (pageCells l) 66)) w.heap.size l := heap_alloc_last w _
/-- A page out of a variable. -/
theorem wpList_load77 {w : World} {ops : Array Oper} {rest : List Oper} {o : Oper} {a : Act} {Q : Exit → Act → World → Prop} (hgd : o.guard = none) (x : Operand) (ho : o.op = .load 66 x) (g : Nat) (l : Page) (hl : l.length = 256)
    (hx : a.eval x = .pointer (some ⟨g, 0, none⟩)) (hP : PageAt w g l) (h : wpList Try.prog ops Q rest (a.put o.dst (pageV l)) w) : wpList Try.prog ops Q (o :: rest) a w :=
  wpList_load_mid hgd _ x ho g 0 hx (byteVals l) _ hP.range Try.underlying66 rfl (by rw [size77, byteVals_len, hl]) h
theorem run_load77 (w : World) (g o : Nat) (l : Page) (hl : l.length = 256) (h : w.rangeAt g o (byteVals l)) : (Instr.loadAt 66 (.pointer (some ⟨g, o, none⟩))).run Try.prog w = .ok (pageV l) w :=
  run_loadAt_mid w g o 66 (byteVals l) _ h Try.underlying66 rfl (by rw [size77, byteVals_len, hl])
theorem run_load90 (w : World) (g o p : Nat) (l : Page) (hl : l.length = 256) (h : w.rangeAt g o (writeCells p l)) : (Instr.loadAt 84 (.pointer (some ⟨g, o, none⟩))).run Try.prog w = .ok (writeV p l) w :=
  run_loadAt_mid w g o 84 (writeCells p l) _ h Try.underlying84 rfl (by rw [size90, writeCells_len, hl])

theorem fill90 (Z : Array Value) (hsz : Z.size = 257) (u : Value) (hu : u.cells = #[u]) (C : List Value) (hC : C.length = 256) :
    Instr.fill (#[((0 : Nat), (1 : Nat)), (1, 256)][·]?) Z [(0, u), (1, .agg C.toArray)] = some (u :: C).toArray := by
  obtain ⟨g1, g2⟩ := Great.foldl_set 1 C 0 (Z.setIfInBounds 0 u)
  have hfold : (C.zipIdx 0).foldl (fun cs (x : Value × Nat) => cs.setIfInBounds (1 + x.2) x.1) (Z.setIfInBounds 0 u) = (u :: C).toArray := by
    apply Array.ext_getElem?
    intro k
    rw [g2 k]
    simp only [Array.size_setIfInBounds, hsz, hC, Nat.add_zero, List.getElem?_toArray]
    by_cases hk : k = 0
    · subst hk
      rw [if_neg (by omega)]
      rw [Array.getElem?_setIfInBounds_self_of_lt (by omega)]
      rfl
    · obtain ⟨j, rfl⟩ : ∃ j, k = j + 1 := ⟨k - 1, by omega⟩
      by_cases hj : j < 256
      · rw [if_pos (by omega)]
        rw [List.getElem?_cons_succ]
        congr 1
      · rw [if_neg (by omega), Array.getElem?_setIfInBounds_ne (by omega)]
        rw [Array.getElem?_eq_none (by omega), List.getElem?_eq_none (by simp; omega)]
  have e : (Value.agg C.toArray).cells.zipIdx.foldl (fun cs (x : Value × Nat) => cs.setIfInBounds (1 + x.2) x.1) (Z.setIfInBounds 0 u) = (u :: C).toArray := by
    rw [← hfold, ← Array.foldl_toList, Array.toList_zipIdx]; rfl
  have hz2 : (Z.setIfInBounds 0 u).size = 257 := by rw [Array.size_setIfInBounds, hsz]
  have hone : Array.foldl (fun cs (x : Value × Nat) => cs.setIfInBounds (0 + x.2) x.1) Z (#[u].zipIdx) = Z.setIfInBounds 0 u := by
    simp
  have hcs : (Value.agg C.toArray).cells.size = 256 := by
    show C.toArray.size = 256
    rw [List.size_toArray, hC]
  unfold Instr.fill
  rw [show (#[((0 : Nat), (1 : Nat)), (1, 256)][0]?) = some (0, 1) from rfl]
  simp only [hu]
  rw [if_neg (by rw [hsz, show (#[u] : Array Value).size = 1 from rfl]; decide), hone]
  unfold Instr.fill
  rw [show (#[((0 : Nat), (1 : Nat)), (1, 256)][1]?) = some (1, 256) from rfl]
  simp only [hcs, hz2]
  rw [if_neg (by decide), e]
  rfl

/-- 'write{page, content}'. -/
theorem run_build90 (w : World) (p : Nat) (l : Page) (hl : l.length = 256) :
    (Instr.build 84 #[(0, .int .i64 p), (1, pageV l)]).run Try.prog w = .ok (writeV p l) w := by
  have hz := (zero_of_info zero90).1 w
  have hu := run_underlying (P := Try.prog) Try.underlying84 w
  have s3 : (sizeOf 3).run Try.prog w = .ok 1 w := by kernel_rfl
  have s77 : (sizeOf 66).run Try.prog w = .ok 256 w := by
    have := size77
    cases hq : Try.prog.info? 66 with
    | none => rw [hq] at this; cases this
    | some i => rw [hq] at this; simp [sizeOf, typeInfo, hq]; simpa using this
  have hfill : Instr.fill (#[((0 : Nat), (1 : Nat)), (1, 256)][·]?) (writeV 0 noughts).cells [(0, .int .i64 p), (1, pageV l)] = some (writeCells p l).toArray :=
    fill90 _ (by rw [writeV_cells, List.size_toArray, writeCells_len, noughts_len]) _ rfl (byteVals l) (by rw [byteVals_len, hl])
  have hp : ((#[{ name := "page", type := 3, offset := 0, embedded := false, tag := "", pkgPath := "pigeonry/disk", byteOffset := 0 }, { name := "content", type := 66, offset := 1, embedded := false, tag := "", pkgPath := "pigeonry/disk", byteOffset := 8 }] : Array Field).mapM fun (f : Field) => (do pure (f.offset, ← sizeOf f.type) : Sem (Nat × Nat))).run Try.prog w = .ok #[(0, 1), (1, 256)] w := by
    simp [s3, s77, go_sem, Result.andThen]
  clear s3 s77
  unfold Instr.build
  simp only [Sem.run_bind, hz, hu, Result.andThen_ok, hp, hfill, Sem.run_pure]
  rfl

/- Layer 13: texts in memory: appended, boxed; a statement in a round whose order is open. -/
import Derived.Great.FillDense
import Derived.Great.BuildSlice
import Derived.Test.YtgcfgheamaoceaaGreatDoorTopG
import Derived.Test.YtgcfgheamaoceaaGreatDoorUtfL
import Derived.Test.YtgcfgheamaoceaaGreatDoorUtfK
import Derived.Test.YtgcfgheamaoceaaGreatDoorReg3
import Derived.Test.YtgcfgheamaoceaaGreatDoorRound
namespace Go.Proofs.YtgcfgheamaoceaaGreatDoor
open Go.RowKit Go.Shelf

attribute [local go_sem] Oper.semAt_some

theorem infoStr : (Tryz.prog.info? 9).map (fun i => (i.zero, i.size, i.bytes)) = some (some (.string ⟨#[]⟩), 1, 16) := by kernel_rfl
def strVals (l : List (List UInt8)) : List Value := l.map fun x => .string ⟨x.toArray⟩
/-- The slice value v, made since the heap had base blocks (or nil), holds these texts. -/
def OwnT (w : World) (base : Nat) (v : Value) (l : List (List UInt8)) : Prop := w.ownsRow base 9 1 v l.length (strVals l)
theorem strVals_snoc (l : List (List UInt8)) (x : List UInt8) : strVals (l ++ [x]) = strVals l ++ [.string ⟨x.toArray⟩] := by simp [strVals]
def byts (p : List (Nat × Lvl)) : List (List UInt8) := p.map fun x => byt x.2
theorem byts_snoc (p : List (Nat × Lvl)) (x : Nat × Lvl) : byts (p ++ [x]) = byts p ++ [byt x.2] := by simp [byts]
theorem byts_len (p : List (Nat × Lvl)) : (byts p).length = p.length := by simp [byts]
theorem byt_str (x : Lvl) : (⟨(byt x).toArray⟩ : ByteArray) = x.1 := rfl
theorem byts_all {s : ByteArray} (hs : s.size ≤ 1000) : byts (itm 0 (lv s.data.toList)) = lv s.data.toList := itm_byt 0 (lv_short hs)
section
variable {P : Program} {ops : Array Oper} {Q : Exit → Act → World → Prop}
theorem region_round_m {l n id : Nat} (I : Array Bool → World → Prop) (Sp : Nat → Value → World → Prop) {a0 : Act} {w : World} (hm : P.follows .mixedOrders = true) (hL : ¬LetsOut Q) (hd : noDeferB ops = true)
    (hlex : lexAnyB ops = true) (hdst : dstB ops = true) (hin : inB ops a0.tmps.size = true) (hI : I (Array.replicate ops.size false) w.drew)
    (step : ∀ (i : Nat) (o : Oper), ops[i]? = some o → ∀ listed a w', RegL ops I Sp a0 listed a w' → listed.getD i false = false → (∀ e ∈ o.after, Region.binds .any e = true → listed.getD e.on false = true) →
      wpOp P ops Q i (fun a' w'' => ∃ v, a' = a.put o.dst v ∧ I (listed.setIfInBounds i true) w'' ∧ (o.dst.isSome = true → Sp i v w'') ∧ ∀ j u, listed.getD j false = true → Sp j u w' → Sp j u w'') a w')
    (fin : ∀ listed a w', RegL ops I Sp a0 listed a w' → (∀ i, i < ops.size → listed.getD i false = true) → Q .normal a w') :
    (Code.region id ops true).wpIn (rnd l) n P Q a0 w := by
  have hno : ∀ i, (Array.replicate ops.size false).getD i false = false := fun i => by
    simp only [Array.getD_eq_getD_getElem?, Array.getElem?_replicate]
    split <;> rfl
  refine wpIn_region_any hm (wpAny_round hL hd _ _ _ _ (wpAny_l I Sp a0 (lexAny_of hlex) (fun i j oi oj d hi hj hne hd => dst_of hdst i j oi oj d hi hj hne hd) (fun i o d hi hd => in_of hin i o d hi hd) step fin _ _ _ _ ?_ (by simp)))
  refine ⟨hI, by simp, rfl, rfl, fun _ _ => rfl, ?_, ?_⟩
  · intro i o d _ hl _
    rw [hno i] at hl; cases hl
  · intro i o _ hl
    rw [hno i] at hl; cases hl
end
theorem build_str (w : World) (x : ByteArray) : (Instr.buildSlice 79 1 #[(0, .string x)]).run Tryz.prog w = .ok (.slice (some ⟨w.heap.size, 0, none⟩) 1 1) (w.alloc (.cells #[.string x] 9)) := by
  obtain ⟨i, hi, hz, hs, hb⟩ := info_parts infoStr
  have hf := Great.fill_whole (s := 1) (by omega) [(.string x : Value)] ((Array.range (1 * 1)).map ((Value.string ⟨#[]⟩).cells[· % (Value.string ⟨#[]⟩).cells.size]!)) (by simp [Value.cells]) (by simp)
  exact run_buildSlice w 79 9 1 _ _ i _ Tryz.underlying79 hi hz (by rw [hs]; omega) (by rw [hs]; omega) (by rw [hs]; simpa [Value.cells] using hf)
theorem append_text (w : World) (base : Nat) (v : Value) (L : List (List UInt8)) (k : Nat) (x : ByteArray) (hk : w.cell? ⟨k, 0, none⟩ = some (.string x)) (hown : OwnT w base v L) (hL : L.length ≤ 1000000) (hbase : base ≤ w.heap.size) :
    ∃ v' w', (Builtin.append_ #[79, 79] 79 #[v, .slice (some ⟨k, 0, none⟩) 1 1]).run Tryz.prog w = .ok v' w' ∧ OwnT w' base v' (L ++ [x.data.toList]) ∧ w.grownBy w' v.ownBlock := by
  obtain ⟨i0, hi, hz0, hz1, hz2⟩ := info_parts infoStr
  obtain ⟨v', w', hr, ho, hg, -⟩ := run_append_own (P := Tryz.prog) w base 79 79 9 i0 (.string ⟨#[]⟩) 1 16 Tryz.underlying79 hi hz0 hz1 hz2 rfl (by decide) v L.length (strVals L) hown ⟨k, 0, none⟩ 1 1 [.string x] rfl (fun j u hu => by
    cases j with
    | zero => rw [addr_add]; simp at hu; subst hu; exact hk
    | succ j => simp at hu) (by simp [Value.oneCell']) (by unfold maxLen; omega) (by omega) hbase
  refine ⟨v', w', hr, ?_, hg⟩
  unfold OwnT
  rw [strVals_snoc, List.length_append]
  exact ho
theorem cell_far2 {w w' : World} {row : Option Nat} {k : Nat} {u : Value} (h : w.cell? ⟨k, 0, none⟩ = some u) (hg : w.grownBy w' row) (hne : some k ≠ row) : w'.cell? ⟨k, 0, none⟩ = some u := (World.cell?_of_block (hg.block k (cell_lt h) hne)).trans h
theorem own_lt {w : World} {base : Nat} {v : Value} {L : List (List UInt8)} (h : OwnT w base v L) : ∀ k, v.ownBlock = some k → base ≤ k ∧ k < w.heap.size ∧ ∃ o : Obj, w.heap[k]? = some o ∧ o.isCells = true := by
  intro k hk
  rcases h.2 with ⟨rfl, -⟩ | ⟨g, cap, cur, rfl, hb, hg, -⟩
  · cases hk
  · cases hk; exact ⟨hb, (Array.getElem?_eq_some_iff.1 hg).1, _, hg, rfl⟩
theorem load_box {w : World} {B : Nat} {v : Value} (h : Boxed w B 79 v) : (Instr.loadAt 79 (.pointer (some ⟨B, 0, none⟩))).run Tryz.prog w = .ok v w := by
  have c := h.cell
  simp [go_sem, Result.andThen, c]
theorem store_box {w : World} {B : Nat} {v : Value} (a : Option Addr) (n m : Nat) (h : Boxed w B 79 v) : (Instr.storeAt 79 (.pointer (some ⟨B, 0, none⟩)) (.slice a n m)).run Tryz.prog w = .ok () (w.setCell ⟨B, 0, none⟩ (.slice a n m)) := by
  have c := h.cell
  have f := h.frozen
  simp [go_sem, Result.andThen, c, f]
end Go.Proofs.YtgcfgheamaoceaaGreatDoor

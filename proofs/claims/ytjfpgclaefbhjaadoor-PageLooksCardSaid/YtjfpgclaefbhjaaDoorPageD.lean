/- Layer 4: a page read out of its bytes. -/
import Derived.Test.YtjfpgclaefbhjaaDoorRegOps
import Derived.Test.YtjfpgclaefbhjaaDoorReg3
import Derived.Test.YtjfpgclaefbhjaaDoorPageN
import Derived.Test.YtjfpgclaefbhjaaDoorWireK
namespace Go.Proofs.YtjfpgclaefbhjaaDoor
open Go.RowKit

/-- What a page's bytes tell, place by place. -/
def atK (b : List UInt8) : Nat := numOf ((b.drop 4).take 1)
def atS (b : List UInt8) : Nat := numOf ((b.drop 5).take 1)
def atT (b : List UInt8) : Nat := numOf ((b.drop 6).take 8)
def atN (b : List UInt8) : Nat := numOf ((b.drop 14).take 4)
def atX (b : List UInt8) : Nat := numOf ((b.drop 18).take 4)
def atB (b : List UInt8) : List UInt8 := (b.drop 24).take (atS b)
def sumOk (b : List UInt8) : Bool := numOf (b.take 4) == crcSum (b.drop 4)
def restOk (b : List UInt8) : Bool := bodyOk (b.drop 22) (atS b) && (numB (atN b) && rightB (atK b) (wrap64 (atT b)) (atX b) (atS b))
/-- What each operation of the drawn statement leaves: the sum that is written, and that which is reckoned. -/
def RdSp (B : Nat) (b : List UInt8) (v0 v3 : Value) : Nat → Value → World → Prop
  | 0, v, _ => v = wptr B
  | 1, v, _ => v = .int .u64 (numOf (b.take 4))
  | 2, v, _ => v = v0
  | 3, v, _ => v = v3
  | 4, v, w' => ∃ P, v = .slice (some ⟨P, 0, none⟩) 1 1 ∧ P ≠ B ∧ w'.heap[P]? = some (.cells #[v3] 23 (0, 0))
  | 5, v, _ => v = .int .u32 (crcSum (b.drop 4))
  | 6, v, _ => v = .int .u64 (crcSum (b.drop 4))
  | 7, v, _ => v = .bool (!sumOk b)
  | _, _, _ => True
theorem RdSp.any {B : Nat} {b : List UInt8} {v0 v3 : Value} {w' w'' : World} (h4 : ∀ P, P ≠ B → w'.heap[P]? = some (.cells #[v3] 23 (0, 0)) → w''.heap[P]? = some (.cells #[v3] 23 (0, 0))) (k : Nat) (v : Value) (h : RdSp B b v0 v3 k v w') : RdSp B b v0 v3 k v w'' := by
  rcases k with _ | _ | _ | _ | _ | _ | _ | _ | k
  · exact h
  · exact h
  · exact h
  · exact h
  · obtain ⟨P, e, hn, hr⟩ := h; exact ⟨P, e, hn, h4 P hn hr⟩
  · exact h
  · exact h
  · exact h
  · exact h
theorem conv_u64 (w : World) (n : Nat) (h : n < 4294967296) : (convert 53 50 (.int .u32 n)).run Tryd.prog w = .ok (.int .u64 n) w := by
  have : IntKind.u64.wrap (n : Int) = n := by rw [wrapU64]; omega
  simp [go_sem, this]
theorem sumOk_neq (b : List UInt8) : (((numOf (b.take 4) : Nat) : Int) != ((crcSum (b.drop 4) : Nat) : Int)) = !sumOk b := by
  unfold sumOk
  rw [Bool.eq_iff_iff]; simp; omega
section
variable {ops : Array Oper} {o : Oper} {i : Nat} {a : Act} {w : World} {K : Act → World → Prop} {Q : Exit → Act → World → Prop}
theorem wpOp_neqU {x y : Operand} {n m : Int} {c : Bool} (ho : ops[i]? = some o) (hg : Region.wanted o (yielded ops a.tmps) = true) (hop : o.op = .binOp .neq 50 x y 50) (hx : a.eval x = .int .u64 n) (hy : a.eval y = .int .u64 m) (hc : c = (n != m)) (hK : K (a.put o.dst (.bool c)) w) : wpOp Tryd.prog ops Q i K a w := by
  subst hc
  exact wpOp_val ho hg (by simp only [execOp, hop, hx, hy]; simp [go_sem]) hK
end
theorem num_lt (b : List UInt8) (i k : Nat) (h : i + k ≤ b.length) : numOf ((b.drop i).take k) < 256 ^ k := by
  have h2 := numOf_lt ((b.drop i).take k)
  rwa [show ((b.drop i).take k).length = k by rw [List.length_take, List.length_drop]; omega] at h2
def ReadPost (w : World) (b : List UInt8) (e : Ending) (w' : World) : Prop := Below w.heap.size w w' ∧
  ((sumOk b = true ∧ restOk b = true ∧ ∃ ar c, e = .returned (.tuple #[.int .i64 (atN b), pgv (atK b) (wrap64 (atT b)) (atX b) (bodyAt ar (atS b)) (atS b) (atS b)]) ∧ OwnB w' w.heap.size (.slice ar 234 c) (b.drop 22)) ∨
  (sumOk b = false ∧ e = .panicked (errV 140)) ∨ (sumOk b = true ∧ restOk b = false ∧ e = .panicked (errV 141)))
theorem set4_heap {w : World} {g : Nat} {a0 a1 a2 a3 : Value} {t : TypeId} (v0 v1 v2 v3 : Value) (h : w.heap[g]? = some (.cells #[a0, a1, a2, a3] t (0, 0))) :
    ((((w.setCell ⟨g, 0, none⟩ v0).setCell ⟨g, 1, none⟩ v1).setCell ⟨g, 2, none⟩ v2).setCell ⟨g, 3, none⟩ v3).heap[g]? = some (.cells #[v0, v1, v2, v3] t (0, 0)) := by
  have h0 := heap_setCell_same w g 0 _ _ v0 h
  have h1 := heap_setCell_same _ g 1 _ _ v1 h0
  have h2 := heap_setCell_same _ g 2 _ _ v2 h1
  have h3 := heap_setCell_same _ g 3 _ _ v3 h2
  rw [h3]; rfl
theorem set4_grown (w : World) (g : Nat) (v0 v1 v2 v3 : Value) :
    w.grownBy ((((w.setCell ⟨g, 0, none⟩ v0).setCell ⟨g, 1, none⟩ v1).setCell ⟨g, 2, none⟩ v2).setCell ⟨g, 3, none⟩ v3) (some g) :=
  World.grownBy.trans (World.grownBy.trans (World.grownBy.trans (set_grown w ⟨g, 0, none⟩ v0) (set_grown _ ⟨g, 1, none⟩ v1)) (set_grown _ ⟨g, 2, none⟩ v2)) (set_grown _ ⟨g, 3, none⟩ v3)
theorem results_tc {fn : Func} {p u : Tmp} {ty : TypeId} {fs : Array Field} (h : fn.results = #[.tmp u, .cell p ty]) (tmps : Array Value) (w : World) (g : Nat) (t : TypeId) (cs : Array Value) (fr : Nat × Nat)
    (hp : tmps.getD p undef = .pointer (some ⟨g, 0, none⟩)) (hg : w.heap[g]? = some (.cells cs t fr)) (hu : Tryd.prog.underlying ty = some (.struct fs)) (hi : (Tryd.prog.info? ty).map (·.size) = some cs.size) :
    (results fn tmps).run Tryd.prog w = .ok (.tuple #[tmps.getD u undef, .agg cs]) w := by
  have h1 : (results fn tmps).run Tryd.prog w = ((asAddr (tmps.getD p undef)).run Tryd.prog w).andThen fun a w => ((loadVar ty a).run Tryd.prog w).andThen fun v w => .ok (.tuple #[tmps.getD u undef, v]) w := by
    simp [results, h]
  rw [h1, hp]
  simp [asAddr, run_loadVar_row w g t ty cs fr _ hg hu rfl hi, Result.andThen]
/-- The reader, and the page that is filled, while the bytes are read. -/
structure RdSt (n₀ : Nat) (w0 w : World) (B : Nat) (r : List UInt8) (V : Nat) (cs : Array Value) : Prop where
  rd : IsRd n₀ w B r
  row : w.heap[V]? = some (.cells cs 25 (0, 0))
  below : Below n₀ w0 w
  lo : n₀ ≤ V
theorem rd_at {n₀ : Nat} {w : World} {B : Nat} {r : List UInt8} (h : IsRd n₀ w B r) : ∃ cs, w.heap[B]? = some (.cells cs 94 (0, 0)) := by
  obtain ⟨v, l, i, h, -⟩ := h; exact ⟨_, h.cells⟩
theorem IsRd.besides {n₀ : Nat} {w w' : World} {B V : Nat} {r : List UInt8} {cs : Array Value} {T : TypeId} {fr : Nat × Nat} (h : IsRd n₀ w B r) (hV : w.heap[V]? = some (.cells cs T fr)) (hT : T ≠ 5) (hT2 : T ≠ 94) (hg : w.grownBy w' (some V)) : IsRd n₀ w' B r := by
  obtain ⟨v, l, i, h, e⟩ := h
  refine ⟨v, l, i, h.kept hg (fun e2 => ?_) (.inr fun e2 => ?_), e⟩
  · obtain rfl := Option.some.inj e2
    rw [h.cells] at hV
    injection hV with hV; injection hV with _ hV _
    exact hT2 hV.symm
  · obtain ⟨cs', hc⟩ := own_block h.own V e2
    rw [hc] at hV
    injection hV with hV; injection hV with _ hV _
    exact hT hV.symm
theorem OwnB.besides {w w' : World} {base : Nat} {u : Value} {l : List UInt8} {V : Nat} {cs : Array Value} {T : TypeId} {fr : Nat × Nat} (h : OwnB w base u l) (hV : w.heap[V]? = some (.cells cs T fr)) (hT : T ≠ 5) (hg : w.grownBy w' (some V)) : OwnB w' base u l :=
  World.ownsRow.kept h hg (.inr fun e2 => by
    obtain ⟨cs', hc⟩ := own_block h V e2
    rw [hc] at hV
    injection hV with hV; injection hV with _ hV _
    exact hT hV.symm)
theorem RdSt.ne {n₀ : Nat} {w0 w : World} {B V : Nat} {r : List UInt8} {cs : Array Value} (h : RdSt n₀ w0 w B r V cs) : V ≠ B := fun e => by
  subst e
  obtain ⟨cs', hc⟩ := rd_at h.rd
  have := hc.symm.trans h.row
  injection this with h1; injection h1 with _ h1 _
  exact absurd h1 (by decide)
theorem RdSt.next {n₀ : Nat} {w0 w w' : World} {B V : Nat} {r r' : List UInt8} {cs : Array Value} (h : RdSt n₀ w0 w B r V cs) (hR : IsRd n₀ w' B r') (hg : w.grownBy w' (some B)) : RdSt n₀ w0 w' B r' V cs :=
  ⟨hR, (hg.block V (Array.getElem?_eq_some_iff.1 h.row).1 (fun e => h.ne (Option.some.inj e))).trans h.row, h.below.trans (rd_below h.rd hg), h.lo⟩
theorem RdSt.go {n₀ : Nat} {w0 w w' : World} {B V : Nat} {r : List UInt8} {cs : Array Value} (h : RdSt n₀ w0 w B r V cs) (hb : Below w.heap.size w w') : RdSt n₀ w0 w' B r V cs :=
  ⟨h.rd.below hb, go_row h.row hb, h.below.trans (hb.mono (Nat.le_trans h.lo (Nat.le_of_lt (Array.getElem?_eq_some_iff.1 h.row).1))), h.lo⟩
theorem RdSt.set {n₀ : Nat} {w0 w : World} {B V : Nat} {r : List UInt8} {cs : Array Value} (h : RdSt n₀ w0 w B r V cs) (j : Nat) (v : Value) : RdSt n₀ w0 (w.setCell ⟨V, j, none⟩ v) B r V (cs.setIfInBounds j v) :=
  ⟨h.rd.besides h.row (by decide) (by decide) (set_grown w ⟨V, j, none⟩ v), heap_setCell_same w V j _ _ v h.row, h.below.setCell h.lo _, h.lo⟩
theorem RdSt.cells {n₀ : Nat} {w0 w : World} {B V : Nat} {r : List UInt8} {c0 c1 c2 c3 : Value} (h : RdSt n₀ w0 w B r V #[c0, c1, c2, c3]) : w.cell? ⟨V, 0, none⟩ = some c0 ∧ w.cell? ⟨V, 1, none⟩ = some c1 ∧ w.cell? ⟨V, 2, none⟩ = some c2 ∧ w.cell? ⟨V, 3, none⟩ = some c3 :=
  ⟨cell_of_row w V 0 _ _ _ h.row, cell_of_row w V 1 _ _ _ h.row, cell_of_row w V 2 _ _ _ h.row, cell_of_row w V 3 _ _ _ h.row⟩
theorem RdSt.free {n₀ : Nat} {w0 w : World} {B V : Nat} {r : List UInt8} {cs : Array Value} (h : RdSt n₀ w0 w B r V cs) (j : Nat) : w.frozen? ⟨V, j, none⟩ = false := frozen_of_row w V j _ _ h.row
def RdInv (n₀ : Nat) (w : World) (B : Nat) (b : List UInt8) (listed : Array Bool) (w' : World) : Prop := Below n₀ w w' ∧ IsRd n₀ w' B (if listed.getD 1 false = true then b.drop 4 else b)
set_option maxRecDepth 100000 in
set_option maxHeartbeats 1000000 in
theorem read_any (b : List UInt8) (hb : b.length = 256) (a : Option Addr) (c n₁ : Nat) (hc : 256 ≤ c) (w : World) (hm : BytesAt n₁ w a b) (hn₁ : n₁ ≤ w.heap.size) (hno : a = none → c = 0) (hT : Tab w) (hg : 1 + 1 ≤ w.heap.size) :
    Calls Tryd.prog 25 #[.slice a 256 c] w fun e w' => ReadPost w b e w' := by
  have hW0 : Below w.heap.size w (w.alloc (.cells #[.int .i64 0, .int .i64 0, .int .i64 0, .slice none 0 0] 25)) := (Below.refl _ _).alloc (Nat.le_refl _) _
  have hnr := fun w' (h : Below w.heap.size w w') => newReader_any w' a b c n₁ (hm.below (h.mono hn₁)) hno (by omega) (by omega)
  rw [hb] at hnr
  have HN := Lib.hid (hnr _ hW0)
  have H0 := Lib.hid hW0
  have HM := Lib.hid (And.intro hm (And.intro hno (And.intro hT hg)))
  clear hm hno hT hg hnr hW0
  go_enter Tryd.func25, Tryd.ntmps25
  go_wp2_with (go_at_call 36; refine HN.out.mono ?_; rintro e w1 ⟨B, rfl, hR1, hb1⟩)
  rw [World.size_alloc] at hR1 hb1
  have hlb := hR1.choose_spec.choose_spec.choose_spec.1
  have hBlt := hlb.lt
  have hBlo := hlb.lo
  clear hlb
  have hb01 := H0.out.trans (hb1.mono (by omega))
  have h1sz := hb1.size
  rw [World.size_alloc] at h1sz
  obtain ⟨a4, c4, ha4⟩ : ∃ a4 c4, (Value.slice (slFrom a c 4) (256 - 4) (c - 4)) = .slice a4 252 c4 := ⟨_, _, rfl⟩
  have hrest : ∀ w', Below w.heap.size w w' → IsBs w'.heap.size w' (.slice a4 252 c4) (b.drop 4) := fun w' h => by
    rw [← ha4]
    exact ⟨slFrom a c 4, c - 4, by rw [List.length_drop, hb], (rest_at ((HM.out.1.below (h.mono hn₁)).mono (Nat.le_trans hn₁ h.size)) (by omega)), slFrom_none HM.out.2.1, by rw [List.length_drop]; omega⟩
  have hsl := fun w' => sliceFrom w' a 256 c 4 (by decide)
  simp only [ha4] at hsl
  clear ha4
  refine wp_region_m (RdInv (w.heap.size + 1) w1 B b) (RdSp B b (.slice a 256 c) (.slice a4 252 c4)) (by kernel_rfl) (by kernel_rfl) (by kernel_rfl) (by kernel_rfl) ⟨(Below.refl _ _).drew, by rw [if_neg (by simp)]; exact hR1.below (Below.refl _ _).drew⟩ ?step ?fin
  case step =>
    intro q o ho listed a' w' hI hn hpre
    have hq : q < 8 := (Array.getElem?_eq_some_iff.1 ho).1
    obtain ⟨hB, hR⟩ := hI.inv
    have hlb := hR.choose_spec.choose_spec.choose_spec.1
    have hBlt' := hlb.lt
    have hall := hb01.trans (hB.mono (by omega))
    have hsame : ∀ k, k ≠ 1 → RdInv (w.heap.size + 1) w1 B b (listed.setIfInBounds k true) w' := fun k hk => ⟨hB, by rw [listed_other (Ne.symm hk)]; exact hR⟩
    match q, hq with
    | 0, _ =>
      cases ho
      exact wpOp_move rfl rfl (.inl rfl) (hI.kept (t := 4) (by kernel_rfl)) ⟨_, rfl, hsame _ (by decide), fun _ => rfl, fun _ _ _ h => h⟩
    | 1, _ =>
      cases ho
      rw [if_neg (by rw [hn]; decide)] at hR
      have e0 : a'.eval (.tmp 10) = wptr B := hI.slot 0 10 rfl (hpre ⟨0, .data⟩ (by simp) rfl) rfl
      refine wpOp_callFn rfl rfl rfl (vs := #[wptr B, .int .i64 4]) (by simp only [List.map_toArray, List.map_cons, List.map_nil, e0]; rfl) (fun _ _ => by kernel_rfl) ((next_any hR 4 (by decide) (by decide) (by omega)).mono ?_)
      rintro e w'' ⟨rfl, hR2, hg2⟩
      refine ⟨_, rfl, _, rfl, ⟨hB.trans (rd_below hR hg2), by rw [if_pos (listed_same (by rw [hI.size]; decide))]; exact hR2⟩, fun _ => rfl, fun j u _ h => RdSp.any (fun P hP hr => (hg2.block P (Array.getElem?_eq_some_iff.1 hr).1 (fun e => hP (Option.some.inj e))).trans hr) j u h⟩
    | 2, _ =>
      cases ho
      exact wpOp_move rfl rfl (.inl rfl) (hI.kept (t := 0) (by kernel_rfl)) ⟨_, rfl, hsame _ (by decide), fun _ => rfl, fun _ _ _ h => h⟩
    | 3, _ =>
      cases ho
      have e2 : a'.eval (.tmp 12) = .slice a 256 c := hI.slot 2 12 rfl (hpre ⟨2, .data⟩ (by simp) rfl) rfl
      exact wpOp_slice rfl rfl rfl e2 rfl rfl rfl (hsl w') ⟨_, rfl, hsame _ (by decide), fun _ => rfl, fun _ _ _ h => h⟩
    | 4, _ =>
      cases ho
      have e3 : a'.eval (.tmp 13) = .slice a4 252 c4 := hI.slot 3 13 rfl (hpre ⟨3, .data⟩ (by simp) rfl) rfl
      have hal : Below w'.heap.size w' (w'.alloc (.cells #[.slice a4 252 c4] 23)) := (Below.refl _ _).alloc (Nat.le_refl _) _
      refine wpOp_buildSlice rfl rfl rfl (vs := #[(0, .slice a4 252 c4)]) (by simp only [List.map_toArray, List.map_cons, List.map_nil, e3]) (v := .slice (some ⟨w'.heap.size, 0, none⟩) 1 1) (w' := w'.alloc (.cells #[.slice a4 252 c4] 23)) (by simp [go_sem]) ⟨_, rfl, ⟨hB.trans (hal.mono (by omega)), by rw [listed_other (by decide)]; exact hR.below hal⟩, fun _ => ⟨_, rfl, by omega, heap_alloc_new _ _⟩, fun j u _ h => RdSp.any (fun P _ hr => (hal.block P (Array.getElem?_eq_some_iff.1 hr).1).trans hr) j u h⟩
    | 5, _ =>
      cases ho
      obtain ⟨P, e4, hPB, hrow⟩ : ∃ P, a'.eval (.tmp 14) = .slice (some ⟨P, 0, none⟩) 1 1 ∧ P ≠ B ∧ w'.heap[P]? = some (.cells #[.slice a4 252 c4] 23 (0, 0)) := hI.slot 4 14 rfl (hpre ⟨4, .data⟩ (by simp) rfl) rfl
      have hbs : BsRow w' P [b.drop 4] := bs_of (vs := [.slice a4 252 c4]) hrow fun j hj => match j, hj with
        | 0, _ => ⟨_, rfl, hrest w' hall⟩
      have hcs := sum_any (some ⟨P, 0, none⟩) 1 [b.drop 4] (by simp) w' (HM.out.2.2.1.below HM.out.2.2.2 hall) (Nat.le_trans HM.out.2.2.2 hall.size) (hbs.parts (by intro l hl; simp only [List.mem_cons, List.not_mem_nil, or_false] at hl; subst hl; rw [List.length_drop]; omega))
      rw [show [b.drop 4].flatten = b.drop 4 by simp] at hcs
      refine wpOp_callFn rfl rfl rfl (vs := #[.slice (some ⟨P, 0, none⟩) 1 1]) (by simp only [List.map_toArray, List.map_cons, List.map_nil, e4]) (fun _ _ => by kernel_rfl) (hcs.mono ?_)
      rintro e w'' ⟨rfl, hb2⟩
      exact ⟨_, rfl, _, rfl, ⟨hB.trans (hb2.mono (by omega)), by rw [listed_other (by decide)]; exact hR.below hb2⟩, fun _ => rfl, fun j u _ h => RdSp.any (fun P _ hr => (hb2.block P (Array.getElem?_eq_some_iff.1 hr).1).trans hr) j u h⟩
    | 6, _ =>
      cases ho
      have hs := crcSum_lt (b.drop 4)
      exact wpOp_conv rfl rfl rfl (hI.slot 5 15 rfl (hpre ⟨5, .data⟩ (by simp) rfl) rfl) (v := .int .u64 (crcSum (b.drop 4))) (w' := w') (conv_u64 w' _ hs) ⟨_, rfl, hsame _ (by decide), fun _ => rfl, fun _ _ _ h => h⟩
    | 7, _ =>
      cases ho
      have e1 : a'.eval (.tmp 11) = .int .u64 (numOf (b.take 4)) := hI.slot 1 11 rfl (hpre ⟨1, .data⟩ (by simp) rfl) rfl
      have e6 : a'.eval (.tmp 16) = .int .u64 (crcSum (b.drop 4)) := hI.slot 6 16 rfl (hpre ⟨6, .data⟩ (by simp) rfl) rfl
      exact wpOp_neqU rfl rfl rfl e1 e6 (sumOk_neq b).symm ⟨_, rfl, hsame _ (by decide), fun _ => rfl, fun _ _ _ h => h⟩
  case fin =>
    intro listed a' w' hI hall
    obtain ⟨hB, hR⟩ := hI.inv
    rw [if_pos (hall 1 (by decide))] at hR
    have e17 : a'.tmps.getD 17 undef = .bool (!sumOk b) := hI.slot 7 17 rfl (hall 7 (by decide)) rfl
    obtain ⟨vs, hvl, hvs, e⟩ := hI.frame 10 8 (Nat.le_of_ble_eq_true (by kernel_rfl)) (by kernel_rfl)
    have v7' := hvs 7 (by decide)
    clear hI hall hvs
    match vs, hvl with
    | [t0, t1, t2, t3, t4, t5, t6, t7], _ =>
    simp only [List.getElem?_cons_zero, List.getElem?_cons_succ, Option.some.injEq] at v7'
    rw [show 10 + 7 = 17 from rfl, e17] at v7'
    subst v7'
    simp only [List.take_succ_cons, List.take_zero, List.drop_succ_cons, List.drop_zero, List.cons_append, List.nil_append, Nat.reduceAdd] at e
    subst e
    have hB1 := hb01.trans (hB.mono (by omega))
    have hRow : w'.heap[w.heap.size]? = some (.cells #[.int .i64 0, .int .i64 0, .int .i64 0, .slice none 0 0] 25 (0, 0)) := (hB.block w.heap.size (by omega)).trans ((hb1.block w.heap.size (by omega)).trans (heap_alloc_new w _))
    have HX := Lib.hid (And.intro hB1 (And.intro hR hRow))
    clear hR1 hb1 hB hR hrest hsl e17 HN hBlt hBlo h1sz hb01 hB1 hRow
    by_cases hsum : sumOk b = true
    case neg =>
      have hsum' : sumOk b = false := by simpa using hsum
      rw [hsum']
      have HS := Lib.hid hsum'
      clear hsum hsum'
      go_wp2
      exact ⟨rfl, HX.out.1, .inr (.inl ⟨HS.out, rfl⟩)⟩
    rw [hsum]
    have HS := Lib.hid hsum
    clear hsum
    have hw1 := HX.out.1.size
    go_wp2_with fail
    have hal : Below w'.heap.size w' (w'.alloc (.cells #[.int .i64 0, .int .i64 0, .int .i64 0, .slice none 0 0] 25)) := (Below.refl _ _).alloc (Nat.le_refl _) _
    obtain ⟨V, hV⟩ : ∃ V, w'.heap.size = V := ⟨_, rfl⟩
    have hr0 := heap_alloc_new w' (.cells #[.int .i64 0, .int .i64 0, .int .i64 0, .slice none 0 0] 25)
    rw [hV] at hr0
    have hVlo : w.heap.size + 1 ≤ V := by have := (Array.getElem?_eq_some_iff.1 HX.out.2.2).1; omega
    have hS0 : RdSt (w.heap.size + 1) w' (w'.alloc (.cells #[.int .i64 0, .int .i64 0, .int .i64 0, .slice none 0 0] 25)) B (b.drop 4) V #[.int .i64 0, .int .i64 0, .int .i64 0, .slice none 0 0] :=
      ⟨HX.out.2.1.below hal, hr0, hal.mono (by omega), hVlo⟩
    revert hS0
    rw [hV]
    clear hr0
    generalize w'.alloc (.cells #[.int .i64 0, .int .i64 0, .int .i64 0, .slice none 0 0] 25) = wa
    intro hS0
    clear hal
    refine (next_any hS0.rd 1 (by decide) (by decide) (by rw [List.length_drop]; omega)).mono ?_
    rintro e w2 ⟨rfl, hR, hg⟩
    have hS := hS0.next hR hg
    rw [List.drop_drop] at hS
    obtain ⟨k, hk⟩ : ∃ k, numOf ((b.drop 4).take 1) = k := ⟨_, rfl⟩
    have hkl := num_lt b 4 1 (by omega)
    rw [hk] at hkl ⊢
    simp only [Nat.reducePow] at hkl
    have Ek := Lib.hid hk
    clear hR hg hk
    have c0 := hS.cells.1; have f0 := hS.free 0
    have hS1 := hS.set 0 (.int .i64 k)
    have HS1 := Lib.hid hS1
    clear hS hS0 hS1
    go_wp2_with fail
    have hS0 : RdSt (w.heap.size + 1) w' _ B (b.drop 5) V #[.int .i64 k, .int .i64 0, .int .i64 0, .slice none 0 0] := HS1.out
    clear HS1 c0 f0
    revert hS0
    generalize w2.setCell ⟨V, 0, none⟩ (.int .i64 (k : Int)) = wa
    intro hS0
    refine (next_any hS0.rd 1 (by decide) (by decide) (by rw [List.length_drop]; omega)).mono ?_
    rintro e w2 ⟨rfl, hR, hg⟩
    have hS := hS0.next hR hg
    rw [List.drop_drop] at hS
    obtain ⟨sz, hsz⟩ : ∃ sz, numOf ((b.drop 5).take 1) = sz := ⟨_, rfl⟩
    have hszl := num_lt b 5 1 (by omega)
    rw [hsz] at hszl ⊢
    simp only [Nat.reducePow] at hszl
    have Esz := Lib.hid hsz
    clear hR hg hsz
    have HS1 := Lib.hid hS
    clear hS hS0
    go_wp2_with fail
    have hS0 : RdSt (w.heap.size + 1) w' _ B (b.drop 6) V #[.int .i64 k, .int .i64 0, .int .i64 0, .slice none 0 0] := HS1.out
    clear HS1
    refine (next_any hS0.rd 8 (by decide) (by decide) (by rw [List.length_drop]; omega)).mono ?_
    rintro e w2 ⟨rfl, hR, hg⟩
    have hS := hS0.next hR hg
    rw [List.drop_drop] at hS
    obtain ⟨t, ht⟩ : ∃ t, numOf ((b.drop 6).take 8) = t := ⟨_, rfl⟩
    have htl := num_lt b 6 8 (by omega)
    rw [ht] at htl ⊢
    simp only [Nat.reducePow] at htl
    have Et := Lib.hid ht
    clear hR hg ht
    have c0 := hS.cells.2.1; have f0 := hS.free 1
    have hS1 := hS.set 1 (.int .i64 (wrap64 t))
    have HS1 := Lib.hid hS1
    clear hS hS0 hS1
    go_wp2_with fail
    have hS0 : RdSt (w.heap.size + 1) w' _ B (b.drop 14) V #[.int .i64 k, .int .i64 (wrap64 t), .int .i64 0, .slice none 0 0] := HS1.out
    clear HS1 c0 f0
    revert hS0
    generalize w2.setCell ⟨V, 1, none⟩ (.int .i64 (wrap64 (t : Int))) = wa
    intro hS0
    refine (next_any hS0.rd 4 (by decide) (by decide) (by rw [List.length_drop]; omega)).mono ?_
    rintro e w2 ⟨rfl, hR, hg⟩
    have hS := hS0.next hR hg
    rw [List.drop_drop] at hS
    obtain ⟨n, hn⟩ : ∃ n, numOf ((b.drop 14).take 4) = n := ⟨_, rfl⟩
    have hnl := num_lt b 14 4 (by omega)
    rw [hn] at hnl ⊢
    simp only [Nat.reducePow] at hnl
    have En := Lib.hid hn
    clear hR hg hn
    have HS1 := Lib.hid hS
    clear hS hS0
    go_wp2_with fail
    have hS0 : RdSt (w.heap.size + 1) w' _ B (b.drop 18) V #[.int .i64 k, .int .i64 (wrap64 t), .int .i64 0, .slice none 0 0] := HS1.out
    clear HS1
    refine (next_any hS0.rd 4 (by decide) (by decide) (by rw [List.length_drop]; omega)).mono ?_
    rintro e w2 ⟨rfl, hR, hg⟩
    have hS := hS0.next hR hg
    rw [List.drop_drop] at hS
    obtain ⟨x, hx⟩ : ∃ x, numOf ((b.drop 18).take 4) = x := ⟨_, rfl⟩
    have hxl := num_lt b 18 4 (by omega)
    rw [hx] at hxl ⊢
    simp only [Nat.reducePow] at hxl
    have Ex := Lib.hid hx
    clear hR hg hx
    have c0 := hS.cells.2.2.1; have f0 := hS.free 2
    have HS1 := Lib.hid (hS.set 2 (.int .i64 x))
    clear hS hS0
    go_wp2_with fail
    have hS0 : RdSt (w.heap.size + 1) w' _ B (b.drop 22) V #[.int .i64 k, .int .i64 (wrap64 t), .int .i64 x, .slice none 0 0] := HS1.out
    clear HS1 c0 f0
    revert hS0
    generalize w2.setCell ⟨V, 2, none⟩ (.int .i64 (x : Int)) = wa
    intro hS0
    refine (rrest_any hS0.rd).mono ?_
    rintro e w3 ⟨v3, rfl, hO3, hb3⟩
    have hS := hS0.go hb3
    obtain ⟨ar, cr, hv, hm3, hle3, hcm3, hno3, -⟩ := hO3.form
    have hl234 : (b.drop 22).length = 234 := by rw [List.length_drop]; omega
    rw [hl234] at hle3 hv
    subst hv
    have hbod := body_any ar (b.drop 22) cr w3.heap.size (by omega) (by omega) (by omega) (by unfold maxLen at hcm3; omega) sz (by omega) w3 hm3
    rw [hl234] at hbod
    have HBO := Lib.hid hbod
    have hwa : w.heap.size ≤ wa.heap.size := by
      have h1 := hS0.below.size
      omega
    have HS1 := Lib.hid (And.intro hS (hO3.mono hwa))
    have c0 := hS.cells.2.2.2; have f0 := hS.free 3
    clear hS hS0 hO3 hb3 hm3 hle3 hcm3 hno3 hl234 hbod hwa
    go_wp2_with fail
    refine HBO.out.mono ?_
    rintro e w4 (⟨hbo, rfl, rfl⟩ | ⟨hbo, rfl, rfl⟩)
    case inr =>
      have hrest : restOk b = false := by
        unfold restOk
        rw [show atS b = sz from Esz.out, hbo]; rfl
      have hbb : Below w.heap.size w w3 := HX.out.1.trans (HS1.out.1.below.mono (by omega))
      go_wp2
      exact ⟨rfl, hbb, .inr (.inr ⟨HS.out, hrest, rfl⟩)⟩
    have HBK := Lib.hid hbo
    clear hbo HBO
    go_wp2_with fail
    have hS0 : RdSt (w.heap.size + 1) w' _ B (b.drop 22) V #[.int .i64 k, .int .i64 (wrap64 t), .int .i64 x, .slice (bodyAt ar sz) sz sz] := HS1.out.1.set 3 (.slice (bodyAt ar sz) sz sz)
    have hO0 : OwnB (w3.setCell ⟨V, 3, none⟩ (.slice (bodyAt ar sz) sz sz)) w.heap.size (.slice ar 234 cr) (b.drop 22) := HS1.out.2.besides HS1.out.1.row (by decide) (set_grown w3 ⟨V, 3, none⟩ _)
    have hSO := And.intro hS0 hO0
    clear HS1 c0 f0 hS0 hO0
    obtain ⟨ab, hab⟩ : ∃ ab, bodyAt ar sz = ab := ⟨_, rfl⟩
    rw [hab] at hSO ⊢
    have HAB := Lib.hid hab
    clear hab
    revert hSO
    generalize w3.setCell ⟨V, 3, none⟩ (.slice ab sz sz) = w4
    rintro ⟨hS0, hO0⟩
    have hrest : restOk b = (numB n && rightB k (wrap64 t) x sz) := by
      unfold restOk
      rw [show atS b = sz from Esz.out, HBK.out, show atN b = n from En.out, show atK b = k from Ek.out, show atT b = t from Et.out, show atX b = x from Ex.out]; rfl
    have HR := Lib.hid hrest
    have hbb : Below w.heap.size w w4 := HX.out.1.trans (hS0.below.mono (by omega))
    have HB4 := Lib.hid hbb
    clear hrest hbb
    by_cases hn1 : numB (n : Int) = true
    case neg =>
      have hn2 : numB (n : Int) = false := by simpa using hn1
      clear hn1
      have HS0 := Lib.hid hS0
      clear hS0 hO0
      refine (isNumber_any _ _).mono ?_
      rintro e w5 ⟨rfl, rfl⟩
      go_wp2
      exact ⟨rfl, HB4.out, .inr (.inr ⟨HS.out, by rw [HR.out, hn2]; rfl, rfl⟩)⟩
    refine (isNumber_any _ _).mono ?_
    rintro e w5 ⟨rfl, rfl⟩
    obtain ⟨c0, c1, c2, c3⟩ := hS0.cells
    have HS0 := Lib.hid (And.intro hS0 hO0)
    clear hS0 hO0
    go_wp2_with fail
    by_cases hr1 : rightB (k : Int) (wrap64 t) (x : Int) sz = true
    case neg =>
      have hr2 : rightB (k : Int) (wrap64 t) (x : Int) sz = false := by simpa using hr1
      have hck := check_any k (wrap64 t) x ab sz sz w4 (by omega)
      rw [hr2, if_neg (by decide)] at hck
      refine hck.mono ?_
      rintro e w5 ⟨rfl, hb5⟩
      have HB5 := Lib.hid (go_on HB4.out hb5)
      clear hr1 hb5 hck
      go_wp2
      exact ⟨rfl, HB5.out, .inr (.inr ⟨HS.out, by rw [HR.out, hr2]; simp, rfl⟩)⟩
    have hck := check_any k (wrap64 t) x ab sz sz w4 (by omega)
    rw [hr1, if_pos rfl] at hck
    refine hck.mono ?_
    rintro e w5 ⟨rfl, hb5⟩
    have hS5 := HS0.out.1.go hb5
    have hO5 := HS0.out.2.below hb5
    have hB5 := go_on HB4.out hb5
    have hrowV := hS5.row
    have hrowR : w5.heap[w.heap.size]? = some (.cells #[.int .i64 0, .int .i64 0, .int .i64 0, .slice none 0 0] 25 (0, 0)) := (hS5.below.block w.heap.size (by omega)).trans HX.out.2.2
    obtain ⟨c0, c1, c2, c3⟩ := hS5.cells
    have d0 := cell_of_row w5 w.heap.size 0 _ _ _ hrowR; have f0 := frozen_of_row w5 w.heap.size 0 _ _ hrowR
    have d1 := cell_of_row w5 w.heap.size 1 _ _ _ hrowR; have f1 := frozen_of_row w5 w.heap.size 1 _ _ hrowR
    have d2 := cell_of_row w5 w.heap.size 2 _ _ _ hrowR; have f2 := frozen_of_row w5 w.heap.size 2 _ _ hrowR
    have d3 := cell_of_row w5 w.heap.size 3 _ _ _ hrowR; have f3 := frozen_of_row w5 w.heap.size 3 _ _ hrowR
    simp only [List.getElem?_toArray, List.getElem?_cons_zero, List.getElem?_cons_succ] at d0 d1 d2 d3
    have hVR : ¬ V = w.heap.size := by omega
    have H5 := Lib.hid (And.intro hS5 (And.intro hO5 (And.intro hB5 hrowR)))
    have hr0 := Lib.hid hr1
    clear hS5 hO5 hB5 hrowV hrowR hck hb5 hr1
    go_wp2_with fail
    go_region
    go_wp2
    obtain ⟨hS5, hO5, hB5, hrowR⟩ := H5.out
    have hgr := set4_grown w5 w.heap.size (.int .i64 (k : Int)) (.int .i64 (wrap64 (t : Int))) (.int .i64 (x : Int)) (.slice ab sz sz)
    refine bodyPost_ret (results_tc rfl _ _ _ _ _ _ rfl (set4_heap _ _ _ _ hrowR) Tryd.underlying25 (by kernel_rfl)) rfl ?_
    refine ⟨(hB5.grown hgr hB5.size (fun q e => by cases e; exact Nat.le_refl _)).drew, .inl ⟨HS.out, by rw [HR.out, hn1, hr0.out]; rfl, ar, cr, ?_, ?_⟩⟩
    · rw [show atN b = n from En.out, show atK b = k from Ek.out, show atT b = t from Et.out, show atX b = x from Ex.out, show atS b = sz from Esz.out, HAB.out]; rfl
    · exact (hO5.besides hrowR (by decide) hgr).below (Below.refl _ _).drew
end Go.Proofs.YtjfpgclaefbhjaaDoor

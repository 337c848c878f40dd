/- Layer 5: what tells a cell's parts, over the hand that reads. -/
import Derived.Test.YtaceebgcaghocaaSlH
import Derived.Test.YtaceebgcaghocaaSlD
namespace Go.Proofs.Ytaceebgcaghocaa
open Go.RowKit

abbrev rhand (B : Nat) : Value := .iface 73 (.agg #[wptr B])
theorem mr_text (B : Nat) (w : World) : (method 223 73 (.agg #[wptr B]) "pigeonry/slots.text").run Try.prog w = .ok (66, .agg #[wptr B]) w := by kernel_rfl
theorem mr_truth (B : Nat) (w : World) : (method 223 73 (.agg #[wptr B]) "pigeonry/slots.truth").run Try.prog w = .ok (67, .agg #[wptr B]) w := by kernel_rfl
theorem mr_number (B : Nat) (w : World) : (method 223 73 (.agg #[wptr B]) "pigeonry/slots.number").run Try.prog w = .ok (65, .agg #[wptr B]) w := by kernel_rfl
structure PartR (w0 : World) (B X R H : Nat) (cs rs hs : Array Value) (w : World) : Prop where
  x : w.heap[X]? = some (.cells cs 36 (0, 0))
  r : w.heap[R]? = some (.cells rs 36 (0, 0))
  h : w.heap[H]? = some (.cells hs 36 (0, 0))
  grown : w0.grownBy w (some B)
  lo : w0.heap.size ≤ X ∧ w0.heap.size ≤ R ∧ w0.heap.size ≤ H ∧ B < w0.heap.size
  ne : X ≠ H ∧ R ≠ H ∧ X ≠ R
section
variable {w0 w w' : World} {B X R H : Nat} {cs rs hs : Array Value}
theorem PartR.on (h : PartR w0 B X R H cs rs hs w) (hg : w.grownBy w' (some B)) : PartR w0 B X R H cs rs hs w' := by
  obtain ⟨l1, l2, l3, l4⟩ := h.lo
  exact ⟨(hg.block X (Array.getElem?_eq_some_iff.1 h.x).1 (by simp; omega)).trans h.x, (hg.block R (Array.getElem?_eq_some_iff.1 h.r).1 (by simp; omega)).trans h.r, (hg.block H (Array.getElem?_eq_some_iff.1 h.h).1 (by simp; omega)).trans h.h, World.grownBy.trans h.grown hg, h.lo, h.ne⟩
theorem PartR.setH (h : PartR w0 B X R H cs rs hs w) (j : Nat) (v : Value) : PartR w0 B X R H cs rs (hs.setIfInBounds j v) (w.setCell ⟨H, j, none⟩ v) :=
  ⟨(Below.heap_setCell w ⟨H, j, none⟩ v X h.ne.1).trans h.x, (Below.heap_setCell w ⟨H, j, none⟩ v R h.ne.2.1).trans h.r, heap_setCell_same w H j _ _ v h.h,
    h.grown.andThen (set_grown w ⟨H, j, none⟩ v) (fun k e => by cases e; exact .inl h.lo.2.2.1), h.lo, h.ne⟩
theorem PartR.setR (h : PartR w0 B X R H cs rs hs w) (j : Nat) (v : Value) : PartR w0 B X R H cs (rs.setIfInBounds j v) hs (w.setCell ⟨R, j, none⟩ v) :=
  ⟨(Below.heap_setCell w ⟨R, j, none⟩ v X h.ne.2.2).trans h.x, heap_setCell_same w R j _ _ v h.r, (Below.heap_setCell w ⟨R, j, none⟩ v H h.ne.2.1.symm).trans h.h,
    h.grown.andThen (set_grown w ⟨R, j, none⟩ v) (fun k e => by cases e; exact .inl h.lo.2.1), h.lo, h.ne⟩
end
theorem partR_start {w : World} {B : Nat} (hB : B < w.heap.size) {cs rs : Array Value} {w1 : World} (hg : ((w.alloc (.cells cs 36)).alloc (.cells rs 36)).grownBy w1 (some B)) (hs : Array Value) :
    PartR w B w.heap.size (w.heap.size + 1) w1.heap.size cs rs hs (w1.alloc (.cells hs 36)) := by
  have hb0 : Below w.heap.size w ((w.alloc (.cells cs 36)).alloc (.cells rs 36)) := ((Below.refl _ _).alloc (Nat.le_refl _) _).alloc (by simp) _
  have hx0 : ((w.alloc (.cells cs 36)).alloc (.cells rs 36)).heap[w.heap.size]? = some (.cells cs 36 (0, 0)) := (Below.heap_alloc _ _ _ (by simp)).trans (heap_alloc_new w _)
  have hr0 := heap_alloc_new (w.alloc (.cells cs 36)) (.cells rs 36)
  rw [World.size_alloc] at hr0
  have hx1 := (hg.block w.heap.size (by simp; omega) (by simp; omega)).trans hx0
  have hr1 := (hg.block (w.heap.size + 1) (by simp) (by simp; omega)).trans hr0
  have lx := (Array.getElem?_eq_some_iff.1 hx1).1
  have lr := (Array.getElem?_eq_some_iff.1 hr1).1
  have hA : Below w1.heap.size w1 (w1.alloc (.cells hs 36)) := (Below.refl _ _).alloc (Nat.le_refl _) _
  exact ⟨go_row hx1 hA, go_row hr1 hA, heap_alloc_new w1 _, World.grownBy.trans (grown_after hb0 hg) (grown_below hA), ⟨Nat.le_refl _, Nat.le_succ _, by omega, hB⟩, ⟨by omega, by omega, by omega⟩⟩
theorem RdIn.set {n₀ : Nat} {w : World} {B : Nat} {v : Value} {l r : List UInt8} {V : Nat} {cs : Array Value} {fr : Nat × Nat} (h : RdIn n₀ w B v l r) (hV : w.heap[V]? = some (.cells cs 36 fr)) (j : Nat) (x : Value) : RdIn n₀ (w.setCell ⟨V, j, none⟩ x) B v l r :=
  h.besides hV (by decide) (by decide) (set_grown w ⟨V, j, none⟩ x)
def TxOk (r : List UInt8) : Prop := ¬ (r.length < 1 ∨ r.length < 1 + numOf (r.take 1))
instance (r : List UInt8) : Decidable (TxOk r) := by unfold TxOk; infer_instance
def txS (r : List UInt8) : ByteArray := ⟨((r.drop 1).take (numOf (r.take 1))).toArray⟩
def txR (r : List UInt8) : List UInt8 := r.drop (1 + numOf (r.take 1))
theorem rTx_yes {r : List UInt8} (h : TxOk r) : rTx r = some (.string (txS r), txR r) := by unfold rTx; rw [if_neg h]; rfl
theorem rTx_no {r : List UInt8} (h : ¬ TxOk r) : rTx r = none := by unfold rTx; rw [if_pos (Classical.not_not.1 h)]
def readBranch (r : List UInt8) : Option (Cv × List UInt8) :=
  if TxOk r then (if 4 ≤ (txR r).length then some (⟨txS r, ByteArray.empty, false, numOf ((txR r).take 4), 0⟩, (txR r).drop 4) else none) else none
def readShort (key : ByteArray) (r : List UInt8) : Option (Cv × List UInt8) := if TxOk r then some (⟨key, txS r, false, 0, 0⟩, txR r) else none
def readLong (key : ByteArray) (r : List UInt8) : Option (Cv × List UInt8) :=
  if 4 ≤ r.length then (if 4 ≤ (r.drop 4).length then some (⟨key, ByteArray.empty, true, numOf (r.take 4), numOf ((r.drop 4).take 4)⟩, (r.drop 4).drop 4) else none) else none
def readLeaf (r : List UInt8) : Option (Cv × List UInt8) :=
  if TxOk r then (if (txR r).length < 1 ∨ 1 < numOf ((txR r).take 1) then none else if numOf ((txR r).take 1) == 1 then readLong (txS r) ((txR r).drop 1) else readShort (txS r) ((txR r).drop 1)) else none
def cellRes (x : Option (Cv × List UInt8)) : Option (Value × List UInt8) := x.map fun p => (cellv p.1, p.2)
section
variable {n₀ : Nat} {w : World} {B : Nat} {v : Value} {l r : List UInt8}
set_option maxRecDepth 100000 in
set_option maxHeartbeats 1000000 in
theorem branchR_any (h : RdIn n₀ w B v l r) (c : Cv) :
    Calls Try.prog 27 #[rhand B, cellv c] w fun e w' => RHand n₀ w B v l (cellRes (readBranch r)) e w' := by
  have hmt := mr_text B
  have hmn := mr_number B
  have hmu := mr_truth B
  have hB := h.lt
  have hb0 : Below w.heap.size w ((w.alloc (.cells #[.string c.key, .string c.text, .bool c.long, .int .i64 c.page, .int .i64 c.size] 36)).alloc (.cells #[.string ByteArray.empty, .string ByteArray.empty, .bool false, .int .i64 0, .int .i64 0] 36)) := ((Below.refl _ _).alloc (Nat.le_refl _) _).alloc (by simp) _
  have HB0 := Lib.hid hb0
  by_cases hs1 : TxOk r
  case neg =>
    have HC := Lib.hid (rtx_any (h.below hb0) c.key 0 48)
    rw [rTx_no hs1] at HC
    have HR := Lib.hid (show cellRes (readBranch r) = none by unfold readBranch; rw [if_neg hs1]; rfl)
    clear hb0 h hs1
    go_enter Try.func27, Try.ntmps27
    go_wp2_with fail
    refine HC.out.mono ?_
    rintro e w1 ⟨hg, ⟨x, r', hx, rfl, hR⟩ | ⟨hx, rfl⟩⟩
    · cases hx
    · have HX := Lib.hid hg
      clear hg hx HC
      go_wp2
      exact ⟨rfl, grown_after HB0.out HX.out, .inr ⟨HR.out, rfl⟩⟩
  have HC := Lib.hid (rtx_any (h.below hb0) c.key 0 48)
  rw [rTx_yes hs1] at HC
  have HS1 := Lib.hid hs1
  obtain ⟨s1, hs⟩ : ∃ s, txS r = s := ⟨_, rfl⟩
  obtain ⟨q1, hq⟩ : ∃ q, txR r = q := ⟨_, rfl⟩
  rw [hs, hq] at HC
  have HSQ := Lib.hid (And.intro hs hq)
  clear hb0 h hs1 hs hq
  by_cases hl4 : 4 ≤ q1.length
  case neg =>
    have HR := Lib.hid (show cellRes (readBranch r) = none by unfold readBranch; rw [if_pos HS1.out, HSQ.out.2, if_neg hl4]; rfl)
    go_enter Try.func27, Try.ntmps27
    go_wp2_with fail
    refine HC.out.mono ?_
    rintro e w1 ⟨hg, ⟨x, r', hx, rfl, hR⟩ | ⟨hx, rfl⟩⟩
    case inr => cases hx
    cases hx
    have hS := partR_start hB hg #[.string s1, .string ByteArray.empty, .bool false, .int .i64 0, .int .i64 0]
    have hR2 := hR.below ((Below.refl w1.heap.size w1).alloc (Nat.le_refl _) (.cells #[.string s1, .string ByteArray.empty, .bool false, .int .i64 0, .int .i64 0] 36))
    have hx1 : w1.heap[w.heap.size]? = some (.cells c.row 36 (0, 0)) := by
      have := hS.x
      rwa [Below.heap_alloc _ _ _ (by have := (Array.getElem?_eq_some_iff.1 this).1; rw [World.size_alloc] at this; have := hS.ne.1; omega)] at this
    obtain ⟨-, -, x2, x3, -⟩ := cell5 hx1
    have hlt1 := (Array.getElem?_eq_some_iff.1 hx1).1
    have HI := Lib.hid (And.intro hR2 hS)
    clear hR hg hx1 HC hR2 hS
    go_wp2_with fail
    obtain ⟨hR2, hS⟩ := HI.out
    have HN := rnumber_any hR2 c.page 1 4095
    rw [if_neg hl4] at HN
    refine HN.mono ?_
    rintro e w9 ⟨hg, ⟨x, r', hx, rfl, hR⟩ | ⟨hx, rfl⟩⟩
    · cases hx
    · have HX := Lib.hid (World.grownBy.trans hS.grown hg)
      clear hg hx
      go_wp2
      exact ⟨rfl, HX.out, .inr ⟨HR.out, rfl⟩⟩
  have hnl := numOf_lt (q1.take 4)
  rw [List.length_take, Nat.min_eq_left hl4] at hnl
  obtain ⟨n, hn⟩ : ∃ n, numOf (q1.take 4) = n := ⟨_, rfl⟩
  have HR := Lib.hid (show cellRes (readBranch r) = some (cellv ⟨s1, ByteArray.empty, false, n, 0⟩, q1.drop 4) by unfold readBranch; rw [if_pos HS1.out, HSQ.out.2, if_pos hl4, HSQ.out.1, hn]; rfl)
  go_enter Try.func27, Try.ntmps27
  go_wp2_with fail
  refine HC.out.mono ?_
  rintro e w1 ⟨hg, ⟨x, r', hx, rfl, hR⟩ | ⟨hx, rfl⟩⟩
  case inr => cases hx
  cases hx
  have hS := partR_start hB hg #[.string s1, .string ByteArray.empty, .bool false, .int .i64 0, .int .i64 0]
  have hR2 := hR.below ((Below.refl w1.heap.size w1).alloc (Nat.le_refl _) (.cells #[.string s1, .string ByteArray.empty, .bool false, .int .i64 0, .int .i64 0] 36))
  have hx1 : w1.heap[w.heap.size]? = some (.cells c.row 36 (0, 0)) := by
    have := hS.x
    rwa [Below.heap_alloc _ _ _ (by have := (Array.getElem?_eq_some_iff.1 this).1; rw [World.size_alloc] at this; have := hS.ne.1; omega)] at this
  obtain ⟨-, -, x2, x3, -⟩ := cell5 hx1
  have hlt1 := (Array.getElem?_eq_some_iff.1 hx1).1
  have HI := Lib.hid (And.intro hR2 hS)
  clear hR hg hx1 HC hR2 hS
  go_wp2_with fail
  obtain ⟨hR2, hS⟩ := HI.out
  have HN := rnumber_any hR2 c.page 1 4095
  rw [if_pos hl4, hn] at HN
  refine HN.mono ?_
  rintro e w3 ⟨hg3, ⟨x, r', hx, rfl, hR3⟩ | ⟨hx, rfl⟩⟩
  case inr => cases hx
  cases hx
  have hS3 := hS.on hg3
  obtain ⟨h0, h1, h2, h3, h4⟩ := cell5 hS3.h
  obtain ⟨r0, r1, r2, r3, r4⟩ := cell5 hS3.r
  obtain ⟨x0, x1, x2, x3, x4⟩ := cell5 hS3.x
  have f1 := frozen_of_row w3 w1.heap.size 1 _ _ hS3.h; have f2 := frozen_of_row w3 w1.heap.size 2 _ _ hS3.h; have f3 := frozen_of_row w3 w1.heap.size 3 _ _ hS3.h; have f4 := frozen_of_row w3 w1.heap.size 4 _ _ hS3.h
  have g0 := frozen_of_row w3 (w.heap.size + 1) 0 _ _ hS3.r; have g1 := frozen_of_row w3 (w.heap.size + 1) 1 _ _ hS3.r; have g2 := frozen_of_row w3 (w.heap.size + 1) 2 _ _ hS3.r; have g3 := frozen_of_row w3 (w.heap.size + 1) 3 _ _ hS3.r; have g4 := frozen_of_row w3 (w.heap.size + 1) 4 _ _ hS3.r
  have hne1 := hS3.ne.2.1; have hne2 := hS3.ne.1; have hne3 := hS3.ne.2.2
  have H3 := Lib.hid (And.intro hR3 hS3)
  clear hR3 hS3 hg3 hR2 hS HI hlt1 HN hn hnl
  go_wp2
  obtain ⟨hR3, hS3⟩ := H3.out
  clear h0 h1 h2 h3 h4 r0 r1 r2 r3 r4 x0 x1 x2 x3 x4 f1 f2 f3 f4 g0 g1 g2 g3 g4 hne1 hne2 hne3
  have hS3_1 := hS3.setH 3 (.int .i64 n); have hR3_1 := hR3.set hS3.h 3 (.int .i64 n)
  have hS3_2 := hS3_1.setR 0 (.string s1); have hR3_2 := hR3_1.set hS3_1.r 0 (.string s1)
  have hS3_3 := hS3_2.setR 1 (.string ByteArray.empty); have hR3_3 := hR3_2.set hS3_2.r 1 (.string ByteArray.empty)
  have hS3_4 := hS3_3.setR 2 (.bool false); have hR3_4 := hR3_3.set hS3_3.r 2 (.bool false)
  have hS3_5 := hS3_4.setR 3 (.int .i64 n); have hR3_5 := hR3_4.set hS3_4.r 3 (.int .i64 n)
  have hS3_6 := hS3_5.setR 4 (.int .i64 0); have hR3_6 := hR3_5.set hS3_5.r 4 (.int .i64 0)
  refine bodyPost_ret (results_cell rfl _ _ _ _ _ _ rfl hS3_6.r Try.underlying36 (by kernel_rfl)) rfl ?_
  exact ⟨hS3_6.grown, .inl ⟨_, _, HR.out, rfl, hR3_6⟩⟩
end
end Go.Proofs.Ytaceebgcaghocaa

/- Layer 5: what tells a cell's parts, over the hand that lays. -/
import Derived.Test.YtaceebgcaghocaaSlC
namespace Go.Proofs.Ytaceebgcaghocaa
open Go.RowKit

abbrev whand (G : Nat) : Value := .iface 83 (.pointer (some ⟨G, 0, none⟩))
theorem m_text (G : Nat) (w : World) : (method 223 83 (.pointer (some ⟨G, 0, none⟩)) "pigeonry/slots.text").run Try.prog w = .ok (70, .pointer (some ⟨G, 0, none⟩)) w := by kernel_rfl
theorem m_truth (G : Nat) (w : World) : (method 223 83 (.pointer (some ⟨G, 0, none⟩)) "pigeonry/slots.truth").run Try.prog w = .ok (71, .pointer (some ⟨G, 0, none⟩)) w := by kernel_rfl
theorem m_number (G : Nat) (w : World) : (method 223 83 (.pointer (some ⟨G, 0, none⟩)) "pigeonry/slots.number").run Try.prog w = .ok (69, .pointer (some ⟨G, 0, none⟩)) w := by kernel_rfl
/-- What a call that tells a cell's parts has made: the cell that came, the one that it answers, the one that it has. -/
structure PartSt (w0 : World) (n₀ X R H : Nat) (cs rs hs : Array Value) (w : World) : Prop where
  x : w.heap[X]? = some (.cells cs 36 (0, 0))
  r : w.heap[R]? = some (.cells rs 36 (0, 0))
  h : w.heap[H]? = some (.cells hs 36 (0, 0))
  below : Below n₀ w0 w
  keep : CellKeep w0 w
  lo : w0.heap.size ≤ X ∧ w0.heap.size ≤ R ∧ w0.heap.size ≤ H ∧ n₀ ≤ w0.heap.size
  ne : X ≠ H ∧ R ≠ H ∧ X ≠ R
section
variable {w0 w w' : World} {n₀ X R H : Nat} {cs rs hs : Array Value}
theorem PartSt.on (h : PartSt w0 n₀ X R H cs rs hs w) (hb : Below n₀ w w') (hk : CellKeep w w') : PartSt w0 n₀ X R H cs rs hs w' :=
  ⟨hk _ _ _ h.x, hk _ _ _ h.r, hk _ _ _ h.h, h.below.trans hb, h.keep.trans hk, h.lo, h.ne⟩
theorem PartSt.go (h : PartSt w0 n₀ X R H cs rs hs w) (hb : Below w.heap.size w w') : PartSt w0 n₀ X R H cs rs hs w' :=
  h.on (hb.mono (Nat.le_trans h.lo.2.2.2 (h.below.size))) (CellKeep.of_below hb)
theorem set_keep {w0 w : World} {V : Nat} (h : CellKeep w0 w) (hV : w0.heap.size ≤ V) (j : Nat) (v : Value) : CellKeep w0 (w.setCell ⟨V, j, none⟩ v) := fun k cs fr hk => by
  have hlt := (Array.getElem?_eq_some_iff.1 hk).1
  exact (Below.heap_setCell w ⟨V, j, none⟩ v k (by show k ≠ V; omega)).trans (h k cs fr hk)
theorem PartSt.setH (h : PartSt w0 n₀ X R H cs rs hs w) (j : Nat) (v : Value) : PartSt w0 n₀ X R H cs rs (hs.setIfInBounds j v) (w.setCell ⟨H, j, none⟩ v) :=
  ⟨(Below.heap_setCell w ⟨H, j, none⟩ v X h.ne.1).trans h.x, (Below.heap_setCell w ⟨H, j, none⟩ v R h.ne.2.1).trans h.r, heap_setCell_same w H j _ _ v h.h,
    h.below.setCell (Nat.le_trans h.lo.2.2.2 h.lo.2.2.1) v, set_keep h.keep h.lo.2.2.1 j v, h.lo, h.ne⟩
theorem PartSt.setR (h : PartSt w0 n₀ X R H cs rs hs w) (j : Nat) (v : Value) : PartSt w0 n₀ X R H cs (rs.setIfInBounds j v) hs (w.setCell ⟨R, j, none⟩ v) :=
  ⟨(Below.heap_setCell w ⟨R, j, none⟩ v X h.ne.2.2).trans h.x, heap_setCell_same w R j _ _ v h.r, (Below.heap_setCell w ⟨R, j, none⟩ v H h.ne.2.1.symm).trans h.h,
    h.below.setCell (Nat.le_trans h.lo.2.2.2 h.lo.2.1) v, set_keep h.keep h.lo.2.1 j v, h.lo, h.ne⟩
end
theorem part_start {w : World} {n₀ : Nat} (hn : n₀ ≤ w.heap.size) {cs rs : Array Value} {w1 : World} (hb : Below n₀ ((w.alloc (.cells cs 36)).alloc (.cells rs 36)) w1) (hk : CellKeep ((w.alloc (.cells cs 36)).alloc (.cells rs 36)) w1) (hs : Array Value) :
    PartSt w n₀ w.heap.size (w.heap.size + 1) w1.heap.size cs rs hs (w1.alloc (.cells hs 36)) := by
  have hb0 : Below w.heap.size w ((w.alloc (.cells cs 36)).alloc (.cells rs 36)) := ((Below.refl _ _).alloc (Nat.le_refl _) _).alloc (by simp) _
  have hx0 : ((w.alloc (.cells cs 36)).alloc (.cells rs 36)).heap[w.heap.size]? = some (.cells cs 36 (0, 0)) := (Below.heap_alloc _ _ _ (by simp)).trans (heap_alloc_new w _)
  have hr0 := heap_alloc_new (w.alloc (.cells cs 36)) (.cells rs 36)
  rw [World.size_alloc] at hr0
  have hx1 := hk _ _ _ hx0
  have hr1 := hk _ _ _ hr0
  have lx := (Array.getElem?_eq_some_iff.1 hx1).1
  have lr := (Array.getElem?_eq_some_iff.1 hr1).1
  have hA : Below w1.heap.size w1 (w1.alloc (.cells hs 36)) := (Below.refl _ _).alloc (Nat.le_refl _) _
  exact ⟨go_row hx1 hA, go_row hr1 hA, heap_alloc_new w1 _, ((hb0.mono hn).trans hb).trans (hA.mono (Nat.le_trans hn (by omega))), ((CellKeep.of_below hb0).trans hk).trans (CellKeep.of_below hA), ⟨Nat.le_refl _, Nat.le_succ _, by omega, hn⟩, ⟨by omega, by omega, by omega⟩⟩
theorem cell5 {w : World} {V : Nat} {a0 a1 a2 a3 a4 : Value} {T : TypeId} {fr : Nat × Nat} (h : w.heap[V]? = some (.cells #[a0, a1, a2, a3, a4] T fr)) :
    w.cell? ⟨V, 0, none⟩ = some a0 ∧ w.cell? ⟨V, 1, none⟩ = some a1 ∧ w.cell? ⟨V, 2, none⟩ = some a2 ∧ w.cell? ⟨V, 3, none⟩ = some a3 ∧ w.cell? ⟨V, 4, none⟩ = some a4 :=
  ⟨cell_of_row w V 0 _ _ _ h, cell_of_row w V 1 _ _ _ h, cell_of_row w V 2 _ _ _ h, cell_of_row w V 3 _ _ _ h, cell_of_row w V 4 _ _ _ h⟩
theorem results_cell {fn : Func} {p : Tmp} {ty : TypeId} {fs : Array Field} (h : fn.results = #[.cell p ty]) (tmps : Array Value) (w : World) (g : Nat) (t : TypeId) (cs : Array Value) (fr : Nat × Nat)
    (hp : tmps.getD p undef = .pointer (some ⟨g, 0, none⟩)) (hg : w.heap[g]? = some (.cells cs t fr)) (hu : Try.prog.underlying ty = some (.struct fs)) (hi : (Try.prog.info? ty).map (·.size) = some cs.size) :
    (results fn tmps).run Try.prog w = .ok (.agg cs) w := by
  have h1 : (results fn tmps).run Try.prog w = ((asAddr (tmps.getD p undef)).run Try.prog w).andThen fun a w => (loadVar ty a).run Try.prog w := by
    simp [results, h]
  rw [h1, hp]
  simp [asAddr, run_loadVar_row w g t ty cs fr _ hg hu rfl hi, Result.andThen]
theorem IsHand.set {n₀ : Nat} {w : World} {G B : Nat} {l : List UInt8} {bad : Bool} {V : Nat} {cs : Array Value} {fr : Nat × Nat} (h : IsHand n₀ w G B l bad) (hV : w.heap[V]? = some (.cells cs 36 fr)) (j : Nat) (v : Value) : IsHand n₀ (w.setCell ⟨V, j, none⟩ v) G B l bad :=
  h.besides hV (set_grown w ⟨V, j, none⟩ v)
theorem hText_len {r : List UInt8 × Bool} {s : ByteArray} {lo hi : Int} (h : hi ≤ 255) : (hText r s lo hi).1.length ≤ r.1.length + 256 := by
  unfold hText
  split
  · rw [List.length_append, List.length_append, laidB_len, data_len]; omega
  · simp
theorem hNum_len {r : List UInt8 × Bool} {n lo hi : Int} : (hNum r n lo hi).1.length ≤ r.1.length + 4 := by
  unfold hNum
  split
  · rw [List.length_append, laidB_len]; omega
  · simp
theorem hTruth_len {r : List UInt8 × Bool} {b : Bool} : (hTruth r b).1.length = r.1.length + 1 := by
  unfold hTruth; rw [List.length_append]; rfl
section
variable {n₀ : Nat} {w : World} {G B : Nat} {l : List UInt8} {bad : Bool}
def branchHand (c : Cv) : List UInt8 × Bool := hNum (hText ([], false) c.key 0 48) c.page 1 4095
def branchHas (c : Cv) : Cv := ⟨c.key, ByteArray.empty, false, c.page, 0⟩
set_option maxRecDepth 100000 in
set_option maxHeartbeats 1000000 in
theorem branchW_any (h : IsHand n₀ w G B [] false) (c : Cv) :
    Calls Try.prog 27 #[whand G, cellv c] w fun e w' => HandPost n₀ w G B (cellv (branchHas c)) (branchHand c) e w' := by
  have hmt := m_text G
  have hmn := m_number G
  have hb0 : Below w.heap.size w ((w.alloc (.cells #[.string c.key, .string c.text, .bool c.long, .int .i64 c.page, .int .i64 c.size] 36)).alloc (.cells #[.string ByteArray.empty, .string ByteArray.empty, .bool false, .int .i64 0, .int .i64 0] 36)) := ((Below.refl _ _).alloc (Nat.le_refl _) _).alloc (by simp) _
  have HC := Lib.hid (htext_any (h.below hb0) c.key 0 48 (by omega) (by simp))
  have HH := Lib.hid (And.intro h hb0)
  have hnl := h.n_le
  clear hb0 h
  go_enter Try.func27, Try.ntmps27
  go_wp2_with fail
  refine HC.out.mono ?_
  rintro e w1 ⟨rfl, hI, hb, hc⟩
  have hS := part_start hnl hb hc #[.string c.key, .string ByteArray.empty, .bool false, .int .i64 0, .int .i64 0]
  have hI2 := hI.below ((Below.refl w1.heap.size w1).alloc (Nat.le_refl _) (.cells #[.string c.key, .string ByteArray.empty, .bool false, .int .i64 0, .int .i64 0] 36))
  have hx1 : w1.heap[w.heap.size]? = some (.cells c.row 36 (0, 0)) := by
    have := hS.x
    rwa [Below.heap_alloc _ _ _ (by have := (Array.getElem?_eq_some_iff.1 this).1; rw [World.size_alloc] at this; have := hS.ne.1; omega)] at this
  obtain ⟨-, -, -, x3, -⟩ := cell5 hx1
  have hlt1 := (Array.getElem?_eq_some_iff.1 hx1).1
  have HI := Lib.hid (And.intro hI2 hS)
  clear hI hb hc hx1 HC hI2 hS
  go_wp2_with fail
  obtain ⟨hI2, hS⟩ := HI.out
  refine (hnum_any hI2 c.page 1 4095 (by omega) (by omega) (by have := hText_len (r := ([], false)) (s := c.key) (lo := 0) (hi := 48) (by omega); simp at this; omega)).mono ?_
  rintro e w3 ⟨rfl, hI3, hb3, hc3⟩
  have hS3 := hS.on hb3 hc3
  obtain ⟨h0, h1, h2, h3, h4⟩ := cell5 hS3.h
  obtain ⟨r0, r1, r2, r3, r4⟩ := cell5 hS3.r
  have f3 := frozen_of_row w3 w1.heap.size 3 _ _ hS3.h
  have g0 := frozen_of_row w3 (w.heap.size + 1) 0 _ _ hS3.r; have g1 := frozen_of_row w3 (w.heap.size + 1) 1 _ _ hS3.r; have g2 := frozen_of_row w3 (w.heap.size + 1) 2 _ _ hS3.r; have g3 := frozen_of_row w3 (w.heap.size + 1) 3 _ _ hS3.r; have g4 := frozen_of_row w3 (w.heap.size + 1) 4 _ _ hS3.r
  have hne1 := hS3.ne.2.1
  have H3 := Lib.hid (And.intro hI3 hS3)
  clear hI3 hS3 hb3 hc3 hI2 hS HI x3 hlt1
  go_wp2
  obtain ⟨hI3, hS3⟩ := H3.out
  have S1 := hS3.setH 3 (.int .i64 c.page); have I1 := hI3.set hS3.h 3 (.int .i64 c.page)
  have S2 := S1.setR 0 (.string c.key); have I2 := I1.set S1.r 0 (.string c.key)
  have S3 := S2.setR 1 (.string ByteArray.empty); have I3 := I2.set S2.r 1 (.string ByteArray.empty)
  have S4 := S3.setR 2 (.bool false); have I4 := I3.set S3.r 2 (.bool false)
  have S5 := S4.setR 3 (.int .i64 c.page); have I5 := I4.set S4.r 3 (.int .i64 c.page)
  have S6 := S5.setR 4 (.int .i64 0); have I6 := I5.set S5.r 4 (.int .i64 0)
  refine bodyPost_ret (results_cell rfl _ _ _ _ _ _ rfl S6.r Try.underlying36 (by kernel_rfl)) rfl ?_
  exact ⟨rfl, I6, S6.below, S6.keep⟩
def leafHand (c : Cv) : List UInt8 × Bool := if c.long then hNum (hNum (hTruth (hText ([], false) c.key 1 48) true) c.page 1 4095) c.size 61 4096 else hText (hTruth (hText ([], false) c.key 1 48) false) c.text 0 60
def leafHas (c : Cv) : Cv := if c.long then ⟨c.key, ByteArray.empty, true, c.page, c.size⟩ else ⟨c.key, c.text, false, 0, 0⟩
set_option maxRecDepth 100000 in
set_option maxHeartbeats 1000000 in
theorem leafW_any (h : IsHand n₀ w G B [] false) (c : Cv) :
    Calls Try.prog 26 #[whand G, cellv c] w fun e w' => HandPost n₀ w G B (cellv (leafHas c)) (leafHand c) e w' := by
  have hmt := m_text G
  have hmn := m_number G
  have hmu := m_truth G
  have hb0 : Below w.heap.size w ((w.alloc (.cells #[.string c.key, .string c.text, .bool c.long, .int .i64 c.page, .int .i64 c.size] 36)).alloc (.cells #[.string ByteArray.empty, .string ByteArray.empty, .bool false, .int .i64 0, .int .i64 0] 36)) := ((Below.refl _ _).alloc (Nat.le_refl _) _).alloc (by simp) _
  have HC := Lib.hid (htext_any (h.below hb0) c.key 1 48 (by omega) (by simp))
  have HL := Lib.hid (hText_len (r := ([], false)) (s := c.key) (lo := 1) (hi := 48) (by omega))
  have hnl := h.n_le
  clear hb0 h
  go_enter Try.func26, Try.ntmps26
  go_wp2_with fail
  refine HC.out.mono ?_
  rintro e w1 ⟨rfl, hI, hb, hc⟩
  have hS := part_start hnl hb hc #[.string c.key, .string ByteArray.empty, .bool false, .int .i64 0, .int .i64 0]
  have hI2 := hI.below ((Below.refl w1.heap.size w1).alloc (Nat.le_refl _) (.cells #[.string c.key, .string ByteArray.empty, .bool false, .int .i64 0, .int .i64 0] 36))
  have hx1 : w1.heap[w.heap.size]? = some (.cells c.row 36 (0, 0)) := by
    have := hS.x
    rwa [Below.heap_alloc _ _ _ (by have := (Array.getElem?_eq_some_iff.1 this).1; rw [World.size_alloc] at this; have := hS.ne.1; omega)] at this
  obtain ⟨-, -, x2, -, -⟩ := cell5 hx1
  have hlt1 := (Array.getElem?_eq_some_iff.1 hx1).1
  have HI := Lib.hid (And.intro hI2 hS)
  clear hI hb hc hx1 HC hI2 hS
  cases hl : c.long
  · rw [hl] at x2
    have HE := Lib.hid (And.intro (show leafHas c = ⟨c.key, c.text, false, 0, 0⟩ by unfold leafHas; rw [hl]; rfl) (show leafHand c = hText (hTruth (hText ([], false) c.key 1 48) false) c.text 0 60 by unfold leafHand; rw [hl]; rfl))
    clear hl
    go_wp2_with fail
    obtain ⟨hI2, hS⟩ := HI.out
    refine (htruth_any hI2 false (by have := HL.out; simp at this; show (hText ([], false) c.key 1 48).1.length ≤ 1000; omega)).mono ?_
    rintro e w3 ⟨rfl, hI3, hb3, hc3⟩
    have hS3 := hS.on hb3 hc3
    obtain ⟨h0, h1, h2, h3, h4⟩ := cell5 hS3.h
    obtain ⟨r0, r1, r2, r3, r4⟩ := cell5 hS3.r
    obtain ⟨x0, x1, -, x3, x4⟩ := cell5 hS3.x
    have f1 := frozen_of_row w3 w1.heap.size 1 _ _ hS3.h; have f2 := frozen_of_row w3 w1.heap.size 2 _ _ hS3.h; have f3 := frozen_of_row w3 w1.heap.size 3 _ _ hS3.h; have f4 := frozen_of_row w3 w1.heap.size 4 _ _ hS3.h
    have g0 := frozen_of_row w3 (w.heap.size + 1) 0 _ _ hS3.r; have g1 := frozen_of_row w3 (w.heap.size + 1) 1 _ _ hS3.r; have g2 := frozen_of_row w3 (w.heap.size + 1) 2 _ _ hS3.r; have g3 := frozen_of_row w3 (w.heap.size + 1) 3 _ _ hS3.r; have g4 := frozen_of_row w3 (w.heap.size + 1) 4 _ _ hS3.r
    have hne1 := hS3.ne.2.1; have hne2 := hS3.ne.1; have hne3 := hS3.ne.2.2
    have H3 := Lib.hid (And.intro hI3 hS3)
    clear hI3 hS3 hb3 hc3 hI2 hS HI x2 hlt1
    go_wp2_with fail
    obtain ⟨hI3, hS3⟩ := H3.out
    clear h0 h1 h2 h3 h4 r0 r1 r2 r3 r4 x0 x1 x3 x4 f1 f2 f3 f4 g0 g1 g2 g3 g4 hne1 hne2 hne3
    have hS4 := hS3.setH 2 (.bool false); have hI4 := hI3.set hS3.h 2 (.bool false)
    have HL4 := Lib.hid (show (hTruth (hText ([], false) c.key 1 48) false).1.length ≤ 300 by rw [hTruth_len]; have := HL.out; simp at this; omega)
    clear hS3 hI3 H3
    refine (htext_any hI4 c.text 0 60 (by omega) (by have := HL4.out; exact Nat.le_trans this (by omega))).mono ?_
    rintro e w5 ⟨rfl, hI5, hb5, hc5⟩
    have hS5 := hS4.on hb5 hc5
    obtain ⟨h0, h1, h2, h3, h4⟩ := cell5 hS5.h
    obtain ⟨r0, r1, r2, r3, r4⟩ := cell5 hS5.r
    obtain ⟨x0, x1, -, x3, x4⟩ := cell5 hS5.x
    have f1 := frozen_of_row w5 w1.heap.size 1 _ _ hS5.h; have f2 := frozen_of_row w5 w1.heap.size 2 _ _ hS5.h; have f3 := frozen_of_row w5 w1.heap.size 3 _ _ hS5.h; have f4 := frozen_of_row w5 w1.heap.size 4 _ _ hS5.h
    have g0 := frozen_of_row w5 (w.heap.size + 1) 0 _ _ hS5.r; have g1 := frozen_of_row w5 (w.heap.size + 1) 1 _ _ hS5.r; have g2 := frozen_of_row w5 (w.heap.size + 1) 2 _ _ hS5.r; have g3 := frozen_of_row w5 (w.heap.size + 1) 3 _ _ hS5.r; have g4 := frozen_of_row w5 (w.heap.size + 1) 4 _ _ hS5.r
    have hne1 := hS5.ne.2.1; have hne2 := hS5.ne.1; have hne3 := hS5.ne.2.2
    have H5 := Lib.hid (And.intro hI5 hS5)
    clear hI5 hS5 hb5 hc5 hI4 hS4
    go_wp2
    obtain ⟨hI5, hS5⟩ := H5.out
    clear h0 h1 h2 h3 h4 r0 r1 r2 r3 r4 x0 x1 x3 x4 f1 f2 f3 f4 g0 g1 g2 g3 g4 hne1 hne2 hne3
    have hS5_1 := hS5.setH 1 (.string c.text); have hI5_1 := hI5.set hS5.h 1 (.string c.text)
    have hS5_2 := hS5_1.setR 0 (.string c.key); have hI5_2 := hI5_1.set hS5_1.r 0 (.string c.key)
    have hS5_3 := hS5_2.setR 1 (.string c.text); have hI5_3 := hI5_2.set hS5_2.r 1 (.string c.text)
    have hS5_4 := hS5_3.setR 2 (.bool false); have hI5_4 := hI5_3.set hS5_3.r 2 (.bool false)
    have hS5_5 := hS5_4.setR 3 (.int .i64 0); have hI5_5 := hI5_4.set hS5_4.r 3 (.int .i64 0)
    have hS5_6 := hS5_5.setR 4 (.int .i64 0); have hI5_6 := hI5_5.set hS5_5.r 4 (.int .i64 0)
    refine bodyPost_ret (results_cell rfl _ _ _ _ _ _ rfl hS5_6.r Try.underlying36 (by kernel_rfl)) rfl ?_
    rw [HE.out.1, HE.out.2]
    exact ⟨rfl, hI5_6, hS5_6.below, hS5_6.keep⟩
  · rw [hl] at x2
    have HE := Lib.hid (And.intro (show leafHas c = ⟨c.key, ByteArray.empty, true, c.page, c.size⟩ by unfold leafHas; rw [hl]; rfl) (show leafHand c = hNum (hNum (hTruth (hText ([], false) c.key 1 48) true) c.page 1 4095) c.size 61 4096 by unfold leafHand; rw [hl]; rfl))
    clear hl
    go_wp2_with fail
    obtain ⟨hI2, hS⟩ := HI.out
    refine (htruth_any hI2 true (by have := HL.out; simp at this; show (hText ([], false) c.key 1 48).1.length ≤ 1000; omega)).mono ?_
    rintro e w3 ⟨rfl, hI3, hb3, hc3⟩
    have hS3 := hS.on hb3 hc3
    obtain ⟨h0, h1, h2, h3, h4⟩ := cell5 hS3.h
    obtain ⟨r0, r1, r2, r3, r4⟩ := cell5 hS3.r
    obtain ⟨x0, x1, -, x3, x4⟩ := cell5 hS3.x
    have f1 := frozen_of_row w3 w1.heap.size 1 _ _ hS3.h; have f2 := frozen_of_row w3 w1.heap.size 2 _ _ hS3.h; have f3 := frozen_of_row w3 w1.heap.size 3 _ _ hS3.h; have f4 := frozen_of_row w3 w1.heap.size 4 _ _ hS3.h
    have g0 := frozen_of_row w3 (w.heap.size + 1) 0 _ _ hS3.r; have g1 := frozen_of_row w3 (w.heap.size + 1) 1 _ _ hS3.r; have g2 := frozen_of_row w3 (w.heap.size + 1) 2 _ _ hS3.r; have g3 := frozen_of_row w3 (w.heap.size + 1) 3 _ _ hS3.r; have g4 := frozen_of_row w3 (w.heap.size + 1) 4 _ _ hS3.r
    have hne1 := hS3.ne.2.1; have hne2 := hS3.ne.1; have hne3 := hS3.ne.2.2
    have H3 := Lib.hid (And.intro hI3 hS3)
    clear hI3 hS3 hb3 hc3 hI2 hS HI x2 hlt1
    go_wp2_with fail
    obtain ⟨hI3, hS3⟩ := H3.out
    clear h0 h1 h2 h3 h4 r0 r1 r2 r3 r4 x0 x1 x3 x4 f1 f2 f3 f4 g0 g1 g2 g3 g4 hne1 hne2 hne3
    have hS4 := hS3.setH 2 (.bool true); have hI4 := hI3.set hS3.h 2 (.bool true)
    have HL4 := Lib.hid (show (hTruth (hText ([], false) c.key 1 48) true).1.length ≤ 300 by rw [hTruth_len]; have := HL.out; simp at this; omega)
    clear hS3 hI3 H3
    refine (hnum_any hI4 c.page 1 4095 (by omega) (by omega) (by have := HL4.out; exact Nat.le_trans this (by omega))).mono ?_
    rintro e w5 ⟨rfl, hI5, hb5, hc5⟩
    have hS5 := hS4.on hb5 hc5
    obtain ⟨h0, h1, h2, h3, h4⟩ := cell5 hS5.h
    obtain ⟨r0, r1, r2, r3, r4⟩ := cell5 hS5.r
    obtain ⟨x0, x1, -, x3, x4⟩ := cell5 hS5.x
    have f1 := frozen_of_row w5 w1.heap.size 1 _ _ hS5.h; have f2 := frozen_of_row w5 w1.heap.size 2 _ _ hS5.h; have f3 := frozen_of_row w5 w1.heap.size 3 _ _ hS5.h; have f4 := frozen_of_row w5 w1.heap.size 4 _ _ hS5.h
    have g0 := frozen_of_row w5 (w.heap.size + 1) 0 _ _ hS5.r; have g1 := frozen_of_row w5 (w.heap.size + 1) 1 _ _ hS5.r; have g2 := frozen_of_row w5 (w.heap.size + 1) 2 _ _ hS5.r; have g3 := frozen_of_row w5 (w.heap.size + 1) 3 _ _ hS5.r; have g4 := frozen_of_row w5 (w.heap.size + 1) 4 _ _ hS5.r
    have hne1 := hS5.ne.2.1; have hne2 := hS5.ne.1; have hne3 := hS5.ne.2.2
    have H5 := Lib.hid (And.intro hI5 hS5)
    clear hI5 hS5 hb5 hc5 hI4 hS4
    go_wp2_with fail
    obtain ⟨hI5, hS5⟩ := H5.out
    clear h0 h1 h2 h3 h4 r0 r1 r2 r3 r4 x0 x1 x3 x4 f1 f2 f3 f4 g0 g1 g2 g3 g4 hne1 hne2 hne3
    have hS6 := hS5.setH 3 (.int .i64 c.page); have hI6 := hI5.set hS5.h 3 (.int .i64 c.page)
    clear hS5 hI5 H5
    refine (hnum_any hI6 c.size 61 4096 (by omega) (by omega) (by have := HL4.out; exact Nat.le_trans hNum_len (by show _ + 4 ≤ _; exact Nat.le_trans (Nat.add_le_add_right this 4) (by omega)))).mono ?_
    rintro e w7 ⟨rfl, hI7, hb7, hc7⟩
    have hS7 := hS6.on hb7 hc7
    obtain ⟨h0, h1, h2, h3, h4⟩ := cell5 hS7.h
    obtain ⟨r0, r1, r2, r3, r4⟩ := cell5 hS7.r
    obtain ⟨x0, x1, -, x3, x4⟩ := cell5 hS7.x
    have f1 := frozen_of_row w7 w1.heap.size 1 _ _ hS7.h; have f2 := frozen_of_row w7 w1.heap.size 2 _ _ hS7.h; have f3 := frozen_of_row w7 w1.heap.size 3 _ _ hS7.h; have f4 := frozen_of_row w7 w1.heap.size 4 _ _ hS7.h
    have g0 := frozen_of_row w7 (w.heap.size + 1) 0 _ _ hS7.r; have g1 := frozen_of_row w7 (w.heap.size + 1) 1 _ _ hS7.r; have g2 := frozen_of_row w7 (w.heap.size + 1) 2 _ _ hS7.r; have g3 := frozen_of_row w7 (w.heap.size + 1) 3 _ _ hS7.r; have g4 := frozen_of_row w7 (w.heap.size + 1) 4 _ _ hS7.r
    have hne1 := hS7.ne.2.1; have hne2 := hS7.ne.1; have hne3 := hS7.ne.2.2
    have H7 := Lib.hid (And.intro hI7 hS7)
    clear hI7 hS7 hb7 hc7 hI6 hS6
    go_wp2
    obtain ⟨hI7, hS7⟩ := H7.out
    clear h0 h1 h2 h3 h4 r0 r1 r2 r3 r4 x0 x1 x3 x4 f1 f2 f3 f4 g0 g1 g2 g3 g4 hne1 hne2 hne3
    have hS7_1 := hS7.setH 4 (.int .i64 c.size); have hI7_1 := hI7.set hS7.h 4 (.int .i64 c.size)
    have hS7_2 := hS7_1.setR 0 (.string c.key); have hI7_2 := hI7_1.set hS7_1.r 0 (.string c.key)
    have hS7_3 := hS7_2.setR 1 (.string ByteArray.empty); have hI7_3 := hI7_2.set hS7_2.r 1 (.string ByteArray.empty)
    have hS7_4 := hS7_3.setR 2 (.bool true); have hI7_4 := hI7_3.set hS7_3.r 2 (.bool true)
    have hS7_5 := hS7_4.setR 3 (.int .i64 c.page); have hI7_5 := hI7_4.set hS7_4.r 3 (.int .i64 c.page)
    have hS7_6 := hS7_5.setR 4 (.int .i64 c.size); have hI7_6 := hI7_5.set hS7_5.r 4 (.int .i64 c.size)
    refine bodyPost_ret (results_cell rfl _ _ _ _ _ _ rfl hS7_6.r Try.underlying36 (by kernel_rfl)) rfl ?_
    rw [HE.out.1, HE.out.2]
    exact ⟨rfl, hI7_6, hS7_6.below, hS7_6.keep⟩
end
end Go.Proofs.Ytaceebgcaghocaa

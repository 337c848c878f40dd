/- Texts of the proof in one file, in build order: MetaA, MetaLaid, MetaB, MetaC, MetaD, MetaE, MetaF. -/
import Derived.ScopeJumps
import Derived.Test.YtaijjlaheoamaaaDoorG2
import Derived.Test.YtaijjlaheoamaaaDoorCards
import Derived.Test.YtaijjlaheoamaaaDoorTie
import Derived.WalkKit
import Derived.ProofKit
import Derived.OpenShut
import Derived.Deep.DeepHandedRow
import Derived.Lib.LaidTab
import Derived.Test.YtaijjlaheoamaaaDoorG1
import Derived.Lib.SmallJoins
import Derived.Test.YtaijjlaheoamaaaDoorG3
import Derived.Test.YtaijjlaheoamaaaDoorG5
/- Layer 6: whether a page, a meta may be; where a meta stands (the program's words and the document's). Printed by wip/tools/mkmetaA.py. -/
namespace Go.Proofs.YtaijjlaheoamaaaDoor
open Go.RowKit

def isPgB (n h : Int) : Bool := decide (n = 0) || (decide (2 ≤ n) && decide (n < h))
def metaB (t r f h : Int) : Bool := decide (0 ≤ t) && decide (t ≤ 4611686018427387904) && decide (2 ≤ h) && decide (h ≤ 4096) && isPgB r h && isPgB f h
abbrev mtv (t r f h : Int) : Value := .agg #[.int .i64 t, .int .i64 r, .int .i64 f, .int .i64 h]
def whereI (t : Int) : Int := if t < 0 then 0 else t % 2

theorem isPage_any (n h : Int) (w : World) : Calls Tryd.prog 28 #[.int .i64 n, .int .i64 h] w fun e w' => e = .returned (.bool (isPgB n h)) ∧ w = w' := by
  unfold isPgB
  by_cases h0 : n = 0
  · subst h0
    go_enter Tryd.func28, Tryd.ntmps28
    go_wp2
    go_ret
    exact ⟨rfl, rfl⟩
  by_cases h1 : 2 ≤ n
  · rw [show (decide (n = 0) || (decide (2 ≤ n) && decide (n < h))) = decide (n < h) by simp [h0, h1]]
    have h0' : (n == 0) = false := by simpa using h0
    go_enter Tryd.func28, Tryd.ntmps28
    go_wp2
    go_ret
    exact ⟨rfl, rfl⟩
  · rw [show (decide (n = 0) || (decide (2 ≤ n) && decide (n < h))) = false by simp [h0, h1]]
    have h0' : (n == 0) = false := by simpa using h0
    go_enter Tryd.func28, Tryd.ntmps28
    go_wp2
    go_ret
    exact ⟨rfl, rfl⟩
def CheckJump (w : World) (a' : Act) (w' : World) : Prop := Below w.heap.size w w' ∧ ∃ u0 u1 u2 u3 u4 u5 u6 u7 u8 u9 u10 u11 u12 u13 u14 u15 u16 u17 u18 u19 u20 u21 u22 u23 u24 u25 u26 u27 u28 u29 u30 u31 u32 : Value, a' = { tmps := #[u0, u1, u2, u3, u4, u5, u6, u7, u8, u9, u10, u11, u12, u13, u14, u15, u16, u17, u18, u19, u20, u21, u22, u23, u24, u25, u26, u27, u28, u29, u30, u31, u32], defers := [] }
set_option maxHeartbeats 1000000 in
set_option maxRecDepth 100000 in
theorem mcheck_any (t r f h : Int) (w : World) : Calls Tryd.prog 14 #[mtv t r f h] w fun e w' => e = .returned (.int .i64 (if metaB t r f h then 0 else 2)) ∧ Below w.heap.size w w' := by
  have hb : Below w.heap.size w (w.alloc (.cells #[.int .i64 t, .int .i64 r, .int .i64 f, .int .i64 h] 25)) := (Below.refl _ _).alloc (Nat.le_refl _) _
  have HB := Lib.hid hb
  have HX : True := trivial
  clear hb
  by_cases h1 : 0 ≤ t
  case neg =>
    rw [show metaB t r f h = false by simp [metaB, h1]]
    clear HX
    go_enter Tryd.func14, Tryd.ntmps14
    go_wp2
    refine wp_scope_jumps 0 (CheckJump w) (fun _ _ => 0) rfl ?first ?pass
    case first =>
      go_wp2_with (go_at_call 28; refine (isPage_any _ _ _).mono ?_; rintro e w' ⟨rfl, rfl⟩)
      go_step3
      exact ⟨rfl, HB.out, _, _, _, _, _, _, _, _, _, _, _, _, _, _, _, _, _, _, _, _, _, _, _, _, _, _, _, _, _, _, _, _, _, rfl⟩
    case pass =>
      rintro a' w' ⟨hb', u0, u1, u2, u3, u4, u5, u6, u7, u8, u9, u10, u11, u12, u13, u14, u15, u16, u17, u18, u19, u20, u21, u22, u23, u24, u25, u26, u27, u28, u29, u30, u31, u32, rfl⟩
      go_wp2
      simp only [Exit.jump]
      go_ret
      exact ⟨rfl, hb'⟩
  by_cases h2 : t ≤ 4611686018427387904
  case neg =>
    rw [show metaB t r f h = false by simp [metaB, h2]]
    clear HX
    go_enter Tryd.func14, Tryd.ntmps14
    go_wp2
    refine wp_scope_jumps 0 (CheckJump w) (fun _ _ => 0) rfl ?first ?pass
    case first =>
      go_wp2_with (go_at_call 28; refine (isPage_any _ _ _).mono ?_; rintro e w' ⟨rfl, rfl⟩)
      go_step3
      exact ⟨rfl, HB.out, _, _, _, _, _, _, _, _, _, _, _, _, _, _, _, _, _, _, _, _, _, _, _, _, _, _, _, _, _, _, _, _, _, rfl⟩
    case pass =>
      rintro a' w' ⟨hb', u0, u1, u2, u3, u4, u5, u6, u7, u8, u9, u10, u11, u12, u13, u14, u15, u16, u17, u18, u19, u20, u21, u22, u23, u24, u25, u26, u27, u28, u29, u30, u31, u32, rfl⟩
      go_wp2
      simp only [Exit.jump]
      go_ret
      exact ⟨rfl, hb'⟩
  by_cases h3 : 2 ≤ h
  case neg =>
    rw [show metaB t r f h = false by simp [metaB, h3]]
    clear HX
    go_enter Tryd.func14, Tryd.ntmps14
    go_wp2
    refine wp_scope_jumps 0 (CheckJump w) (fun _ _ => 0) rfl ?first ?pass
    case first =>
      go_wp2_with (go_at_call 28; refine (isPage_any _ _ _).mono ?_; rintro e w' ⟨rfl, rfl⟩)
      go_step3
      exact ⟨rfl, HB.out, _, _, _, _, _, _, _, _, _, _, _, _, _, _, _, _, _, _, _, _, _, _, _, _, _, _, _, _, _, _, _, _, _, rfl⟩
    case pass =>
      rintro a' w' ⟨hb', u0, u1, u2, u3, u4, u5, u6, u7, u8, u9, u10, u11, u12, u13, u14, u15, u16, u17, u18, u19, u20, u21, u22, u23, u24, u25, u26, u27, u28, u29, u30, u31, u32, rfl⟩
      go_wp2
      simp only [Exit.jump]
      go_ret
      exact ⟨rfl, hb'⟩
  by_cases h4 : h ≤ 4096
  case neg =>
    rw [show metaB t r f h = false by simp [metaB, h4]]
    clear HX
    go_enter Tryd.func14, Tryd.ntmps14
    go_wp2
    refine wp_scope_jumps 0 (CheckJump w) (fun _ _ => 0) rfl ?first ?pass
    case first =>
      go_wp2_with (go_at_call 28; refine (isPage_any _ _ _).mono ?_; rintro e w' ⟨rfl, rfl⟩)
      go_step3
      exact ⟨rfl, HB.out, _, _, _, _, _, _, _, _, _, _, _, _, _, _, _, _, _, _, _, _, _, _, _, _, _, _, _, _, _, _, _, _, _, rfl⟩
    case pass =>
      rintro a' w' ⟨hb', u0, u1, u2, u3, u4, u5, u6, u7, u8, u9, u10, u11, u12, u13, u14, u15, u16, u17, u18, u19, u20, u21, u22, u23, u24, u25, u26, u27, u28, u29, u30, u31, u32, rfl⟩
      go_wp2
      simp only [Exit.jump]
      go_ret
      exact ⟨rfl, hb'⟩
  by_cases h5 : isPgB r h = true
  case neg =>
    have h5' : isPgB r h = false := by simpa using h5
    rw [show metaB t r f h = false by simp [metaB, h5']]
    clear h5
    clear HX
    go_enter Tryd.func14, Tryd.ntmps14
    go_wp2
    refine wp_scope_jumps 0 (CheckJump w) (fun _ _ => 0) rfl ?first ?pass
    case first =>
      go_wp2_with (go_at_call 28; refine (isPage_any _ _ _).mono ?_; rintro e w' ⟨rfl, rfl⟩)
      go_step3
      exact ⟨rfl, HB.out, _, _, _, _, _, _, _, _, _, _, _, _, _, _, _, _, _, _, _, _, _, _, _, _, _, _, _, _, _, _, _, _, _, rfl⟩
    case pass =>
      rintro a' w' ⟨hb', u0, u1, u2, u3, u4, u5, u6, u7, u8, u9, u10, u11, u12, u13, u14, u15, u16, u17, u18, u19, u20, u21, u22, u23, u24, u25, u26, u27, u28, u29, u30, u31, u32, rfl⟩
      go_wp2
      simp only [Exit.jump]
      go_ret
      exact ⟨rfl, hb'⟩
  by_cases h6 : isPgB f h = true
  · rw [show metaB t r f h = true by simp [metaB, *]]
    go_enter Tryd.func14, Tryd.ntmps14
    go_wp2
    go_step3
    go_wp2_with (go_at_call 28; refine (isPage_any _ _ _).mono ?_; rintro e w' ⟨rfl, rfl⟩)
    rw [Exit.noGoto_ret]
    go_ret
    exact ⟨rfl, HB.out⟩
  · have h6' : isPgB f h = false := by simpa using h6
    rw [show metaB t r f h = false by simp [metaB, h6']]
    clear h6
    clear HX
    go_enter Tryd.func14, Tryd.ntmps14
    go_wp2
    refine wp_scope_jumps 0 (CheckJump w) (fun _ _ => 0) rfl ?first ?pass
    case first =>
      go_wp2_with (go_at_call 28; refine (isPage_any _ _ _).mono ?_; rintro e w' ⟨rfl, rfl⟩)
      go_step3
      exact ⟨rfl, HB.out, _, _, _, _, _, _, _, _, _, _, _, _, _, _, _, _, _, _, _, _, _, _, _, _, _, _, _, _, _, _, _, _, _, rfl⟩
    case pass =>
      rintro a' w' ⟨hb', u0, u1, u2, u3, u4, u5, u6, u7, u8, u9, u10, u11, u12, u13, u14, u15, u16, u17, u18, u19, u20, u21, u22, u23, u24, u25, u26, u27, u28, u29, u30, u31, u32, rfl⟩
      go_wp2
      simp only [Exit.jump]
      go_ret
      exact ⟨rfl, hb'⟩
theorem where_any (t : Int) (w : World) : Calls Tryd.prog 16 #[.int .i64 t] w fun e w' => e = .returned (.int .i64 (whereI t)) ∧ w = w' := by
  unfold whereI
  by_cases h : t < 0
  · rw [if_pos h]
    go_enter Tryd.func16, Tryd.ntmps16
    go_wp2
    go_ret
    exact ⟨rfl, rfl⟩
  · rw [if_neg h]
    have hm : t.tmod 2 = t % 2 := Int.tmod_eq_emod_of_nonneg (by omega)
    have hw : wrap64 (t % 2) = t % 2 := by unfold wrap64; omega
    go_enter Tryd.func16, Tryd.ntmps16
    go_wp2
    go_ret
    exact ⟨rfl, rfl⟩
set_option maxHeartbeats 1000000 in
theorem mright_any (t r f h : Int) (w : World) : Calls Tryd.prog 15 #[mtv t r f h] w fun e w' => e = .returned (.bool (metaB t r f h)) ∧ Below w.heap.size w w' := by
  have hb : ∀ r f : Int, Below w.heap.size w (w.alloc (.cells #[.int .i64 t, .int .i64 r, .int .i64 f, .int .i64 h] 25)) := fun _ _ => (Below.refl _ _).alloc (Nat.le_refl _) _
  have HB := Lib.hid hb
  clear hb
  go_enter Tryd.func15, Tryd.ntmps15
  go_wp2
  all_goals
    go_ret
    refine ⟨ret_bool ?_, HB.out _ _⟩
    clear HB
    rw [Bool.eq_iff_iff]
    simp [metaB, isPgB]
    try omega
end Go.Proofs.YtaijjlaheoamaaaDoor
/- Layer 6's: what the rows' list gives (the table6's sixteen numbers), and a world that holds it; a meta that came in. -/
namespace Go.Proofs.YtaijjlaheoamaaaDoor
open Go.ChangeShapes Go.WideShapes Go.ChangeAt Go.RowKit

theorem own : ownKnob Tryd.prog.godebug = none := by kernel_rfl
theorem laidOut : laidOutB Tryd.prog = true := by kernel_rfl
theorem gTab : Tryd.prog.globalNamed "pigeonry/crc.words" = some 0 := by kernel_rfl
theorem gTabType : (Tryd.prog.globals[0]?).map (·.type) = some 129 := by kernel_rfl
theorem cellsTb : Tryd.prog.cellsOf 129 = 16 := by kernel_rfl
theorem cellsU32 : Tryd.prog.cellsOf 86 = 1 := by kernel_rfl
theorem cellsU8 : Tryd.prog.cellsOf 5 = 1 := by kernel_rfl
theorem cellsBytes : Tryd.prog.cellsOf 22 = 1 := by kernel_rfl

/-- WHAT THE ROW's LIST GIVES: the table6's cells hold its sixteen numbers. -/
theorem table6 {W : World} (h : laidMetH Tryd.prog [("pigeonry/crc.words", Rows.laid_pigeonry_crc_words)] W) : Lib.TabIs Tryd.prog W "pigeonry/crc.words" .u32 crcTab :=
  Lib.tabIs_of_head (rest := []) gTab gTabType Tryd.underlying129 Tryd.underlying86 cellsU32 cellsTb h
theorem tab {W : World} (h : laidMetH Tryd.prog [("pigeonry/crc.words", Rows.laid_pigeonry_crc_words)] W) : Tab W := fun i hi => by
  rw [← crcT_tab]; exact (table6 h).cell gTab i hi
theorem tab_size {W : World} (h : Tab W) : 1 ≤ W.heap.size := by
  have := cell_lt (h 0 (by decide)); exact this

/-- A WORLD FOR THE WITNESS: the settled one, the table6 (block 0) holding what its initialiser lays. -/
noncomputable def laidWorld (os : Os) : World :=
  { World.holding Tryd.prog os ⟨#[], #[], []⟩ with heap := (World.holding Tryd.prog os ⟨#[], #[], []⟩).heap.modify 0 fun
      | .cells _ t frozen => .cells (crcTab.map fun z => Value.int .u32 z).toArray t frozen
      | o => o }

/-- The types that these laws take read whole. -/
theorem types_ok : ∀ t ∈ [22, 25, 2, 5, 3, 41], Tryd.prog.readableRec t = true ∧ t < Tryd.prog.types.size := by
  intro t ht
  have h : ([22, 25, 2, 5, 3, 41].all fun t => Tryd.prog.readableRec t && decide (t < Tryd.prog.types.size)) = true := by kernel_rfl
  have := List.all_eq_true.1 h t ht
  simpa using this
section
variable {H : Type} {enc : TypeId × Value → H}
set_option maxRecDepth 100000 in
theorem open_meta {base : Nat} {W : World} {v : Value} {d : DataW H} {ps : List MemPlace} (hok : Value.okWide Tryd.prog W .any base 25 v) (h : DataW.Trod enc Tryd.prog W 0 (fun _ => true) true 25 v d ps) :
    ∃ (t r f h : Int), v = mtv t r f h := by
  obtain ⟨v0, v1, v2, v3, y0, y1, y2, y3, n, rfl, -, -, h0, h1, h2, h3⟩ := Joins.open_agg4 Tryd.underlying25 (by kernel_rfl) (by kernel_rfl) hok h
  obtain ⟨k, e0, -, -⟩ := DataW.trod_int Tryd.underlying2 h0
  obtain ⟨t, e1, -, -⟩ := DataW.trod_int Tryd.underlying2 h1
  obtain ⟨x, e2, -, -⟩ := DataW.trod_int Tryd.underlying2 h2
  obtain ⟨z, e3, -, -⟩ := DataW.trod_int Tryd.underlying2 h3
  cases e0; cases e1; cases e2; cases e3
  exact ⟨k, t, x, z, rfl⟩
end
end Go.Proofs.YtaijjlaheoamaaaDoor
/- Layer 6: the places of a meta's parts. Printed by wip/tools/mkmetaB.py. -/
namespace Go.Proofs.YtaijjlaheoamaaaDoor
open Go.RowKit

abbrev mpt (M j : Nat) : Value := .pointer (some ⟨M, j, none⟩)
def PtV (M : Nat) : Nat → Value → World → Prop
  | 0, v, _ => v = mpt M 0
  | 1, v, _ => v = mpt M 0
  | 2, v, _ => v = mpt M 1
  | 3, v, _ => v = mpt M 0
  | 4, v, _ => v = mpt M 0
  | 5, v, _ => v = mpt M 2
  | 6, v, _ => v = mpt M 0
  | 7, v, _ => v = mpt M 0
  | 8, v, _ => v = mpt M 3
  | 9, v, _ => v = .agg #[mpt M 1, mpt M 2, mpt M 3]
  | _, _, _ => True
def PtI (M C : Nat) (n₀ : Nat) (W : World) (listed : Array Bool) (w' : World) : Prop := Below n₀ W w' ∧ w'.heap[C]? = some (.cells (if listed.getD 10 false = true then #[mpt M 1, mpt M 2, mpt M 3] else #[.pointer none, .pointer none, .pointer none]) 80 (0, 0))
set_option maxRecDepth 100000 in
set_option maxHeartbeats 1000000 in
theorem mparts_any (M : Nat) (w : World) : Calls Tryd.prog 36 #[mpt M 0] w fun e w' => e = .returned (.agg #[mpt M 1, mpt M 2, mpt M 3]) ∧ Below w.heap.size w w' := by
  have hb0 : Below w.heap.size w (w.alloc (.cells #[.pointer none, .pointer none, .pointer none] 80)) := (Below.refl _ _).alloc (Nat.le_refl _) _
  have hr0 := heap_alloc_new w (.cells #[.pointer none, .pointer none, .pointer none] 80)
  have HB := Lib.hid (And.intro hb0 hr0)
  clear hb0 hr0
  go_enter Tryd.func36, Tryd.ntmps36
  go_wp2_with fail
  obtain ⟨hb0, hr0⟩ := HB.out
  revert hb0 hr0
  generalize w.alloc (.cells #[.pointer none, .pointer none, .pointer none] 80) = W
  intro hb0 hr0
  clear HB
  refine wp_region_m (PtI M w.heap.size w.heap.size W) (PtV M) (by kernel_rfl) (by kernel_rfl) (by kernel_rfl) (by kernel_rfl) ⟨(Below.refl _ _).drew, hr0⟩ ?step ?fin
  case step =>
    intro q o ho listed a' w' hI hn' hpre
    have hq : q < 11 := (Array.getElem?_eq_some_iff.1 ho).1
    obtain ⟨hB, hC⟩ := hI.inv
    have hsame : ∀ k, k ≠ 10 → PtI M w.heap.size w.heap.size W (listed.setIfInBounds k true) w' := fun k hk => ⟨hB, by rw [listed_other (Ne.symm hk)]; exact hC⟩
    match q, hq with
    | 0, _ =>
      cases ho
      exact wpOp_move rfl rfl (.inl rfl) (hI.kept (t := 0) (by kernel_rfl)) ⟨_, rfl, hsame _ (by decide), fun _ => rfl, fun _ _ _ h => h⟩
    | 1, _ =>
      cases ho
      exact wpOp_nilCheck rfl rfl rfl (ad := ⟨M, 0, none⟩) (hI.slot 0 3 rfl (hpre ⟨0, .data⟩ (by simp) rfl) rfl) ⟨_, rfl, hsame _ (by decide), fun _ => rfl, fun _ _ _ h => h⟩
    | 2, _ =>
      cases ho
      exact wpOp_field rfl rfl rfl (hI.slot 1 4 rfl (hpre ⟨1, .data⟩ (by simp) rfl) rfl) (v := mpt M 1) (w' := w') (by simp [go_sem]) ⟨_, rfl, hsame _ (by decide), fun _ => rfl, fun _ _ _ h => h⟩
    | 3, _ =>
      cases ho
      exact wpOp_move rfl rfl (.inl rfl) (hI.kept (t := 0) (by kernel_rfl)) ⟨_, rfl, hsame _ (by decide), fun _ => rfl, fun _ _ _ h => h⟩
    | 4, _ =>
      cases ho
      exact wpOp_nilCheck rfl rfl rfl (ad := ⟨M, 0, none⟩) (hI.slot 3 6 rfl (hpre ⟨3, .data⟩ (by simp) rfl) rfl) ⟨_, rfl, hsame _ (by decide), fun _ => rfl, fun _ _ _ h => h⟩
    | 5, _ =>
      cases ho
      exact wpOp_field rfl rfl rfl (hI.slot 4 7 rfl (hpre ⟨4, .data⟩ (by simp) rfl) rfl) (v := mpt M 2) (w' := w') (by simp [go_sem]) ⟨_, rfl, hsame _ (by decide), fun _ => rfl, fun _ _ _ h => h⟩
    | 6, _ =>
      cases ho
      exact wpOp_move rfl rfl (.inl rfl) (hI.kept (t := 0) (by kernel_rfl)) ⟨_, rfl, hsame _ (by decide), fun _ => rfl, fun _ _ _ h => h⟩
    | 7, _ =>
      cases ho
      exact wpOp_nilCheck rfl rfl rfl (ad := ⟨M, 0, none⟩) (hI.slot 6 9 rfl (hpre ⟨6, .data⟩ (by simp) rfl) rfl) ⟨_, rfl, hsame _ (by decide), fun _ => rfl, fun _ _ _ h => h⟩
    | 8, _ =>
      cases ho
      exact wpOp_field rfl rfl rfl (hI.slot 7 10 rfl (hpre ⟨7, .data⟩ (by simp) rfl) rfl) (v := mpt M 3) (w' := w') (by simp [go_sem]) ⟨_, rfl, hsame _ (by decide), fun _ => rfl, fun _ _ _ h => h⟩
    | 9, _ =>
      cases ho
      have e1 : a'.eval (.tmp 5) = mpt M 1 := hI.slot 2 5 rfl (hpre ⟨2, .data⟩ (by simp) rfl) rfl
      have e2 : a'.eval (.tmp 8) = mpt M 2 := hI.slot 5 8 rfl (hpre ⟨5, .data⟩ (by simp) rfl) rfl
      have e3 : a'.eval (.tmp 11) = mpt M 3 := hI.slot 8 11 rfl (hpre ⟨8, .data⟩ (by simp) rfl) rfl
      exact wpOp_build rfl rfl rfl (vs := #[(0, mpt M 1), (1, mpt M 2), (2, mpt M 3)]) (by simp only [List.map_toArray, List.map_cons, List.map_nil, e1, e2, e3]) (v := .agg #[mpt M 1, mpt M 2, mpt M 3]) (w' := w') (by simp [go_sem]) ⟨_, rfl, hsame _ (by decide), fun _ => rfl, fun _ _ _ h => h⟩
    | 10, _ =>
      cases ho
      have e9 : a'.eval (.tmp 12) = .agg #[mpt M 1, mpt M 2, mpt M 3] := hI.slot 9 12 rfl (hpre ⟨9, .data⟩ (by simp) rfl) rfl
      rw [if_neg (by rw [hn']; decide)] at hC
      refine wpOp_store rfl rfl rfl (hI.kept (t := 2) (by kernel_rfl)) e9 (w' := w'.setRow w.heap.size #[mpt M 1, mpt M 2, mpt M 3]) ?_ ⟨_, rfl, ⟨?_, ?_⟩, (fun e => by cases e), fun j u _ h => ?_⟩
      · have := run_storeVar_row (P := Tryd.prog) w' w.heap.size _ 80 _ #[mpt M 1, mpt M 2, mpt M 3] hC (by kernel_rfl) rfl (by simp [Value.oneCell'])
        simp [Instr.storeAt, Instr.sureAddr, this]
      · exact hB.grown (row_grown _ _ _) (Nat.le_trans hb0.size hB.size) (fun q e => by cases e; exact Nat.le_refl _)
      · rw [if_pos (listed_same (by rw [hI.size]; decide))]
        exact row_set _ hC
      · rcases j with _ | _ | _ | _ | _ | _ | _ | _ | _ | _ | j <;> exact h
  case fin =>
    intro listed a' w1 hI hall
    obtain ⟨hB, hC⟩ := hI.inv
    rw [if_pos (hall 10 (by decide))] at hC
    obtain ⟨vs, hvl, hvs, e⟩ := hI.frame 3 10 (Nat.le_of_ble_eq_true (by kernel_rfl)) (by kernel_rfl)
    clear hI hall hvs
    match vs, hvl with
    | [t0, t1, t2, t3, t4, t5, t6, t7, t8, t9], _ =>
    simp only [List.take_succ_cons, List.take_zero, List.drop_succ_cons, List.drop_zero, List.cons_append, List.nil_append, Nat.reduceAdd] at e
    subst e
    go_wp2
    refine bodyPost_ret (results_cell_row rfl _ _ _ _ _ _ _ rfl hC Tryd.underlying80 rfl (by kernel_rfl)) rfl ?_
    exact ⟨rfl, hb0.trans hB⟩
end Go.Proofs.YtaijjlaheoamaaaDoor
/- Layer 6: the page of a meta. -/
namespace Go.Proofs.YtaijjlaheoamaaaDoor
open Go.RowKit

/-- A meta that may be. -/
structure Mt where
  t : Nat
  r : Nat
  f : Nat
  h : Nat
def Mt.ok (m : Mt) : Prop := m.t ≤ 4611686018427387904 ∧ 2 ≤ m.h ∧ m.h ≤ 4096 ∧ (m.r = 0 ∨ 2 ≤ m.r ∧ m.r < m.h) ∧ (m.f = 0 ∨ 2 ≤ m.f ∧ m.f < m.h)
def Mt.ps (m : Mt) : List (Nat × Nat) := [(m.r, 4), (m.f, 4), (m.h, 4)]
def Mt.body (m : Mt) : List UInt8 := laidParts m.ps
def Mt.pg (m : Mt) : Pg := ⟨1, m.t, 0, m.body⟩
def Mt.raw (m : Mt) : List UInt8 := m.pg.raw (m.t % 2)
abbrev Mt.val (m : Mt) : Value := mtv m.t m.r m.f m.h
theorem Mt.body_len (m : Mt) : m.body.length = 12 := by simp [Mt.body, Mt.ps, laidParts, laidB_len]
theorem Mt.pg_ok {m : Mt} (h : m.ok) : m.pg.ok := ⟨by simp [Mt.pg], by simp [Mt.pg], h.1, by simp [Mt.pg], by simp [Mt.pg, Mt.body_len]⟩
theorem Mt.ok_iff {t r f h : Int} : metaB t r f h = true ↔ ∃ m : Mt, m.ok ∧ (m.t : Int) = t ∧ (m.r : Int) = r ∧ (m.f : Int) = f ∧ (m.h : Int) = h := by
  constructor
  · intro hm
    simp [metaB, isPgB] at hm
    refine ⟨⟨t.toNat, r.toNat, f.toNat, h.toNat⟩, ⟨by dsimp only; omega, by dsimp only; omega, by dsimp only; omega, by dsimp only; omega, by dsimp only; omega⟩, by dsimp only; omega, by dsimp only; omega, by dsimp only; omega, by dsimp only; omega⟩
  · rintro ⟨m, ⟨h1, h2, h3, h4, h5⟩, rfl, rfl, rfl, rfl⟩
    simp [metaB, isPgB]; omega
theorem Mt.num {m : Mt} (h : m.ok) (k : Nat) (hk : k < 3) : wNum (laidParts (m.ps.take k)) (m.ps.getD k (0, 0)).1 4 = (0, laidParts (m.ps.take (k + 1))) := by
  have hx : (m.ps.getD k (0, 0)).2 = 4 ∧ (m.ps.getD k (0, 0)).1 < 2 ^ (8 * 4) ∧ m.ps.take (k + 1) = m.ps.take k ++ [m.ps.getD k (0, 0)] ∧ (laidParts (m.ps.take k)).length = 4 * k := by
    obtain ⟨h1, h2, h3, h4, h5⟩ := h
    match k, hk with
    | 0, _ => exact ⟨rfl, by simp [Mt.ps]; omega, rfl, rfl⟩
    | 1, _ => exact ⟨rfl, by simp [Mt.ps]; omega, rfl, by simp [Mt.ps, laidParts, laidB_len]⟩
    | 2, _ => exact ⟨rfl, by simp [Mt.ps]; omega, rfl, by simp [Mt.ps, laidParts, laidB_len]⟩
  obtain ⟨e2, hlt, e3, e4⟩ := hx
  have := wNum_fits (l := laidParts (m.ps.take k)) (n := (m.ps.getD k (0, 0)).1) (k := 4) (by decide) (by decide) hlt (by omega)
  rw [e3, laidParts_snoc, e2]
  exact this
theorem index_p0 (v0 v1 v2 : Value) (w : World) : (Instr.index 80 (.agg #[v0, v1, v2]) (.int .i64 0)).run Tryd.prog w = .ok v0 w := by kernel_rfl
theorem index_p1 (v0 v1 v2 : Value) (w : World) : (Instr.index 80 (.agg #[v0, v1, v2]) (.int .i64 1)).run Tryd.prog w = .ok v1 w := by kernel_rfl
theorem index_p2 (v0 v1 v2 : Value) (w : World) : (Instr.index 80 (.agg #[v0, v1, v2]) (.int .i64 2)).run Tryd.prog w = .ok v2 w := by kernel_rfl
theorem go_below3 {M : Nat} {w w2 wr : World} (h : Below M w w2) (k : Below (M + 1 + 1) w2 wr) (_ : M ≤ M + 1 + 1) : Below M w wr := h.trans (k.mono (by omega))
def PgdV (M B s0 : Nat) (t : Int) (body : List UInt8) : Nat → Value → World → Prop
  | 0, v, _ => v = mpt M 0
  | 1, v, _ => v = .int .i64 t
  | 2, v, _ => v = wptr B
  | 3, v, w' => ∃ a c, v = .slice a 12 c ∧ OwnB w' s0 (.slice a 12 c) body
  | 4, v, w' => ∃ a c, v = pgv 1 t 0 a 12 c ∧ OwnB w' s0 (.slice a 12 c) body
  | _, _, _ => True
theorem PgdV.any {M B s0 : Nat} {t : Int} {body : List UInt8} {w' w'' : World} (h : ∀ v, OwnB w' s0 v body → OwnB w'' s0 v body) : ∀ j v, PgdV M B s0 t body j v w' → PgdV M B s0 t body j v w'' := fun j _ k => match j, k with
  | 0, k => k
  | 1, k => k
  | 2, k => k
  | 3, ⟨a, c, e, k⟩ => ⟨a, c, e, h _ k⟩
  | 4, ⟨a, c, e, k⟩ => ⟨a, c, e, h _ k⟩
  | _ + 5, _ => trivial
structure PgdI (M B s0 : Nat) (t : Int) (body : List UInt8) (v : Value) (W : World) (listed : Array Bool) (w' : World) : Prop where
  below : Below (M + 1) W w'
  size : s0 ≤ w'.heap.size
  still : listed.getD 5 false = false → w'.heap[M + 1]? = some (.cells #[.int .i64 0, .int .i64 0, .int .i64 0, .slice none 0 0] 55 (0, 0)) ∧ IsWr (M + 1 + 1) w' B v body
  done : listed.getD 5 false = true → ∃ a c, w'.heap[M + 1]? = some (.cells #[.int .i64 1, .int .i64 t, .int .i64 0, .slice a 12 c] 55 (0, 0)) ∧ OwnB w' s0 (.slice a 12 c) body
def PagedPost (w : World) (m : Mt) (e : Ending) (w' : World) : Prop := ∃ a c, e = .returned (pgv 1 m.t 0 a 12 c) ∧ OwnB w' w.heap.size (.slice a 12 c) m.body ∧ Below w.heap.size w w'
set_option maxRecDepth 100000 in
set_option maxHeartbeats 1000000 in
theorem paged_any (m : Mt) (hok : m.ok) (w : World) : Calls Tryd.prog 27 #[m.val] w fun e w' => PagedPost w m e w' := by
  obtain ⟨h1, h2, h3, h4, h5⟩ := hok
  have hb0 : Below w.heap.size w ((w.alloc (.cells #[.int .i64 m.t, .int .i64 m.r, .int .i64 m.f, .int .i64 m.h] 25)).alloc (.cells #[.int .i64 0, .int .i64 0, .int .i64 0, .slice none 0 0] 55)) := ((Below.refl _ _).alloc (Nat.le_refl _) _).alloc (by simp) _
  have HB := Lib.hid hb0
  have hr : (m.r : Int) ≤ 4096 ∧ (m.f : Int) ≤ 4096 ∧ (m.h : Int) ≤ 4096 := by omega
  have HR := Lib.hid hr
  clear hb0 hr
  go_enter Tryd.func27, Tryd.ntmps27
  go_wp2_with (first
    | (go_at_call 45; refine (newWriter_any _).mono ?_; rintro e w1 ⟨rfl, hW1, hb1⟩)
    | (go_at_call 36; refine (mparts_any _ _).mono ?_; rintro e w2 ⟨rfl, hb2⟩))
  rw [World.size_alloc, World.size_alloc] at hW1 hb1
  have hM : w2.heap[w.heap.size]? = some (.cells #[.int .i64 m.t, .int .i64 m.r, .int .i64 m.f, .int .i64 m.h] 25 (0, 0)) := (hb2.block _ (by have := hb1.size; rw [World.size_alloc, World.size_alloc] at this; omega)).trans ((hb1.block _ (by omega)).trans ((Below.heap_alloc _ _ _ (by simp)).trans (heap_alloc_new w _)))
  have hC : w2.heap[w.heap.size + 1]? = some (.cells #[.int .i64 0, .int .i64 0, .int .i64 0, .slice none 0 0] 55 (0, 0)) := (hb2.block _ (by have := hb1.size; rw [World.size_alloc, World.size_alloc] at this; omega)).trans ((hb1.block _ (by omega)).trans (heap_alloc_two w _ _))
  have hW2 := hW1.below hb2
  have hB2 : Below w.heap.size w w2 := go_on (HB.out.trans (hb1.mono (by omega))) hb2
  have hs2 := hW2.lt
  obtain ⟨M, hMe⟩ : ∃ M, w.heap.size = M := ⟨_, rfl⟩
  rw [hMe] at hM hC hW2 hB2 hs2
  have HH := Lib.hid (And.intro hM (And.intro hC (And.intro hB2 (And.intro hMe hs2))))
  have hok : m.ok := ⟨h1, h2, h3, h4, h5⟩
  have HN := Lib.hid (fun k hk => Mt.num hok k hk)
  clear hW1 hb1 hb2 hM hC hB2 HB h1 h2 h3 h4 h5 hok hs2
  rw [hMe]
  clear hMe
  go_loopw [5, 8, 9, 10, 11, 12, 13, 14, 15, 16, 17] (fun _ i _ _ _ _ _ _ _ _ _ wr => ∃ (k : Nat) (v : Value), i = .int .i64 k ∧ k ≤ 3 ∧ IsWr (M + 1 + 1) wr (M + 1 + 1) v (laidParts (m.ps.take k)) ∧ Below (M + 1 + 1) w2 wr)
    (fun _ i _ _ _ _ _ _ _ _ _ _ => 3 - (intOf i).toNat)
  case atStart => exact ⟨0, _, rfl, Nat.zero_le _, hW2, Below.refl _ _⟩
  case round =>
    obtain ⟨k, v, rfl, hk, hW, hbr⟩ := hrel
    obtain ⟨q1, q2, q3⟩ := HR.out
    have hrow := (hbr.block M (by have := HH.out.2.2.2.2; omega)).trans HH.out.1
    have d1 := cell_of_row wr M 1 _ _ _ hrow
    have d2 := cell_of_row wr M 2 _ _ _ hrow
    have d3 := cell_of_row wr M 3 _ _ _ hrow
    simp only [List.getElem?_toArray, List.getElem?_cons_zero, List.getElem?_cons_succ] at d1 d2 d3
    clear hrow hW2
    have HV := Lib.hid (hW.own.block)
    have HB := Lib.hid hbr
    have HW := Lib.hid (And.intro hW HB)
    by_cases hlt : k < 3
    · obtain rfl | rfl | rfl : k = 0 ∨ k = 1 ∨ k = 2 := by omega
      · have hnn := wnum_any hW m.r 4
        have e1 : IntKind.u64.wrap (m.r : Int) = m.r := by rw [wrapU64]; omega
        have e0 : wNum (laidParts (m.ps.take 0)) m.r 4 = (0, laidParts (m.ps.take 1)) := HN.out 0 (by decide)
        have hix := index_p0 (mpt M 1) (mpt M 2) (mpt M 3)
        rw [e0] at hnn
        have HQ := Lib.hid hnn
        clear hnn hW HR q1 q2 q3 HN hbr hlt e0
        go_wp2_with (go_at_call 46; refine HQ.out.mono ?_; rintro e w3 ⟨rfl, v3, hW3, hg3⟩)
        refine ⟨⟨1, v3, rfl, by decide, hW3, HB.out.trans ?_⟩, by simp [intOf]⟩
        exact hg3.below (by have := HB.out.size; have := HH.out.2.2.2.2; omega) (Nat.le_refl _) HV.out
      · have hnn := wnum_any hW m.f 4
        have e1 : IntKind.u64.wrap (m.f : Int) = m.f := by rw [wrapU64]; omega
        have e0 : wNum (laidParts (m.ps.take 1)) m.f 4 = (0, laidParts (m.ps.take 2)) := HN.out 1 (by decide)
        have hix := index_p1 (mpt M 1) (mpt M 2) (mpt M 3)
        rw [e0] at hnn
        have HQ := Lib.hid hnn
        clear hnn hW HR q1 q2 q3 HN hbr hlt e0
        go_wp2_with (go_at_call 46; refine HQ.out.mono ?_; rintro e w3 ⟨rfl, v3, hW3, hg3⟩)
        refine ⟨⟨2, v3, rfl, by decide, hW3, HB.out.trans ?_⟩, by simp [intOf]⟩
        exact hg3.below (by have := HB.out.size; have := HH.out.2.2.2.2; omega) (Nat.le_refl _) HV.out
      · have hnn := wnum_any hW m.h 4
        have e1 : IntKind.u64.wrap (m.h : Int) = m.h := by rw [wrapU64]; omega
        have e0 : wNum (laidParts (m.ps.take 2)) m.h 4 = (0, laidParts (m.ps.take 3)) := HN.out 2 (by decide)
        have hix := index_p2 (mpt M 1) (mpt M 2) (mpt M 3)
        rw [e0] at hnn
        have HQ := Lib.hid hnn
        clear hnn hW HR q1 q2 q3 HN hbr hlt e0
        go_wp2_with (go_at_call 46; refine HQ.out.mono ?_; rintro e w3 ⟨rfl, v3, hW3, hg3⟩)
        refine ⟨⟨3, v3, rfl, by decide, hW3, HB.out.trans ?_⟩, by simp [intOf]⟩
        exact hg3.below (by have := HB.out.size; have := HH.out.2.2.2.2; omega) (Nat.le_refl _) HV.out
    · obtain rfl : k = 3 := by omega
      have hlt3 : ¬ ((3 : Int) < 3) := by decide
      clear q1 q2 q3 hbr d2 d3 HN HR
      go_wp2_with fail
      have hW3 : IsWr (M + 1 + 1) wr (M + 1 + 1) v m.body := HW.out.1
      obtain ⟨g1, g2, g3, g4, g5⟩ := HH.out
      have hM := (HB.out.block M (by omega)).trans g1
      have hC := (HB.out.block (M + 1) (by omega)).trans g2
      have hs := Nat.le_trans (Nat.le_of_lt g5) HB.out.size
      have hlt5 := hW3.lt
      have HB0 := Lib.hid (And.intro (go_below3 g3 HB.out (by omega)) g4)
      clear HH HW HB HV hk hlt hlt3 hW d1 g1 g2 g3 g4 g5
      refine wp_region_m (PgdI M (M + 1 + 1) wr.heap.size m.t m.body v wr) (PgdV M (M + 1 + 1) wr.heap.size m.t m.body) (by kernel_rfl) (by kernel_rfl) (by kernel_rfl) (by kernel_rfl) ⟨(Below.refl _ _).drew, Nat.le_refl _, fun _ => ⟨hC, hW3.below (Below.refl _ _).drew⟩, fun e => by simp at e⟩ ?step ?fin
      case step =>
        intro q o ho listed a' w' hI hn' hpre
        have hq : q < 6 := (Array.getElem?_eq_some_iff.1 ho).1
        have hJ := hI.inv
        have hB := hJ.below
        have hrow := (hB.block M (by omega)).trans hM
        have hsame : ∀ k, k ≠ 5 → PgdI M (M + 1 + 1) wr.heap.size m.t m.body v wr (listed.setIfInBounds k true) w' := fun k hk => ⟨hB, hJ.size, fun e => hJ.still (by rwa [listed_other (Ne.symm hk)] at e), fun e => hJ.done (by rwa [listed_other (Ne.symm hk)] at e)⟩
        match q, hq with
        | 0, _ =>
          cases ho
          exact wpOp_field rfl rfl rfl (hI.kept (t := 1) (by kernel_rfl)) (v := mpt M 0) (w' := w') (by simp [go_sem]) ⟨_, rfl, hsame _ (by decide), fun _ => rfl, fun _ _ _ h => h⟩
        | 1, _ =>
          cases ho
          exact wpOp_load rfl rfl rfl (hI.slot 0 18 rfl (hpre ⟨0, .data⟩ (by simp) rfl) rfl) (load_cellR (Tryd.isAgg2 w') (v := .int .i64 m.t) (cell_of_row w' M 0 _ _ _ hrow)) ⟨_, rfl, hsame _ (by decide), fun _ => rfl, fun _ _ _ h => h⟩
        | 2, _ =>
          cases ho
          exact wpOp_move rfl rfl (.inl rfl) (hI.kept (t := 3) (by kernel_rfl)) ⟨_, rfl, hsame _ (by decide), fun _ => rfl, fun _ _ _ h => h⟩
        | 3, _ =>
          cases ho
          have e2 : a'.eval (.tmp 20) = wptr (M + 1 + 1) := hI.slot 2 20 rfl (hpre ⟨2, .data⟩ (by simp) rfl) rfl
          have hno5 : listed.getD 5 false = false := hI.notyet hn' 5 (by kernel_rfl)
          obtain ⟨hz, hWr⟩ := hJ.still hno5
          refine wpOp_callFn rfl rfl rfl (vs := #[wptr (M + 1 + 1)]) (by simp only [List.map_toArray, List.map_cons, List.map_nil, e2]) (fun _ _ => by kernel_rfl) ((wbytes_any hWr).mono ?_)
          rintro e w'' ⟨v', rfl, hO, hb2⟩
          obtain ⟨a, c, ev, -, -, -, -, -⟩ := hO.form
          rw [Mt.body_len] at ev
          subst ev
          refine ⟨_, rfl, _, rfl, ⟨hB.trans (hb2.mono (by have := hJ.size; omega)), Nat.le_trans hJ.size hb2.size, fun _ => ⟨go_row hz hb2, hWr.below hb2⟩, fun e => ?_⟩, fun _ => ⟨a, c, rfl, hO.mono hJ.size⟩, fun j u _ h => PgdV.any (fun v h => h.below hb2) j u h⟩
          rw [listed_other (by decide), hno5] at e
          cases e
        | 4, _ =>
          cases ho
          have e1 : a'.eval (.tmp 19) = .int .i64 m.t := hI.slot 1 19 rfl (hpre ⟨1, .data⟩ (by simp) rfl) rfl
          obtain ⟨a, c, e3, hO⟩ : ∃ a c, a'.eval (.tmp 21) = .slice a 12 c ∧ OwnB w' wr.heap.size (.slice a 12 c) m.body := hI.slot 3 21 rfl (hpre ⟨3, .data⟩ (by simp) rfl) rfl
          exact wpOp_build rfl rfl rfl (vs := #[(0, .int .i64 1), (1, .int .i64 m.t), (3, .slice a 12 c)]) (by simp only [List.map_toArray, List.map_cons, List.map_nil, e1, e3]; rfl) (v := pgv 1 m.t 0 a 12 c) (w' := w') (by simp [go_sem]) ⟨_, rfl, hsame _ (by decide), fun _ => ⟨a, c, rfl, hO⟩, fun _ _ _ h => h⟩
        | 5, _ =>
          cases ho
          obtain ⟨a, c, e4, hO⟩ : ∃ a c, a'.eval (.tmp 22) = pgv 1 m.t 0 a 12 c ∧ OwnB w' wr.heap.size (.slice a 12 c) m.body := hI.slot 4 22 rfl (hpre ⟨4, .data⟩ (by simp) rfl) rfl
          obtain ⟨hz, hWr⟩ := hJ.still hn'
          have hgr := row_grown w' (M + 1) #[.int .i64 1, .int .i64 m.t, .int .i64 0, .slice a 12 c]
          have hkeep : ∀ v, OwnB w' wr.heap.size v m.body → OwnB (w'.setRow (M + 1) #[.int .i64 1, .int .i64 m.t, .int .i64 0, .slice a 12 c]) wr.heap.size v m.body := fun v h => h.besides hz (by decide) hgr
          refine wpOp_store rfl rfl rfl (hI.kept (t := 2) (by kernel_rfl)) e4 (pg_store _ _ _ _ hz rfl (by simp [Value.oneCell'])) ⟨_, rfl, ⟨hB.grown hgr (by have := hJ.size; omega) (fun q e => by cases e; exact Nat.le_refl _), by simp only [World.setRow, Array.size_modify]; exact hJ.size, fun e => ?_, fun _ => ⟨a, c, row_set _ hz, hkeep _ hO⟩⟩, (fun e => by cases e), fun j u _ h => PgdV.any hkeep j u h⟩
          rw [listed_same (by rw [hI.size]; decide)] at e
          cases e
      case fin =>
        intro listed a' w3 hI hall
        obtain ⟨hB, hsz, -, hd⟩ := hI.inv
        obtain ⟨a, c, hrow, hO⟩ := hd (hall 5 (by decide))
        obtain ⟨vs, hvl, hvs, e⟩ := hI.frame 18 5 (Nat.le_of_ble_eq_true (by kernel_rfl)) (by kernel_rfl)
        clear hI hall hvs hd
        match vs, hvl with
        | [t0, t1, t2, t3, t4], _ =>
        simp only [List.take_succ_cons, List.take_zero, List.drop_succ_cons, List.drop_zero, List.cons_append, List.nil_append, Nat.reduceAdd] at e
        subst e
        go_wp2
        refine bodyPost_ret (results_cell_row rfl _ _ _ _ _ _ _ rfl hrow Tryd.underlying55 rfl (by kernel_rfl)) rfl ?_
        have g4 := HB0.out.2
        refine ⟨a, c, rfl, hO.mono (by omega), ?_⟩
        rw [g4]
        exact HB0.out.1.trans (hB.mono (by omega))
end Go.Proofs.YtaijjlaheoamaaaDoor
/- Layer 6: the bytes of a meta. -/
namespace Go.Proofs.YtaijjlaheoamaaaDoor
open Go.RowKit

set_option maxRecDepth 100000 in
set_option maxHeartbeats 1000000 in
theorem mraw_no (t r f h : Int) (hm : metaB t r f h = false) (w : World) : Calls Tryd.prog 13 #[mtv t r f h] w fun e w' => e = .returned (.tuple #[.slice none 0 0, .int .i64 2]) ∧ Below w.heap.size w w' := by
  have hb : Below w.heap.size w (w.alloc (.cells #[.int .i64 t, .int .i64 r, .int .i64 f, .int .i64 h] 25)) := (Below.refl _ _).alloc (Nat.le_refl _) _
  have HB := Lib.hid hb
  have HC := Lib.hid (fun w => mcheck_any t r f h w)
  simp only [hm] at HC
  clear hb hm
  go_enter Tryd.func13, Tryd.ntmps13
  go_wp2_with (go_at_call 14; refine (HC.out _).mono ?_; rintro e w' ⟨rfl, hb'⟩)
  go_ret2
  exact ⟨rfl, go_on HB.out hb'⟩
def RwmV (M s0 : Nat) (m : Mt) : Nat → Value → World → Prop
  | 0, v, _ => v = mpt M 0
  | 1, v, _ => v = .int .i64 m.t
  | 2, v, _ => v = .int .i64 (m.t % 2 : Nat)
  | 3, v, _ => v = m.val
  | 4, v, w' => ∃ a c, v = pgv 1 m.t 0 a 12 c ∧ OwnB w' s0 (.slice a 12 c) m.body
  | 5, v, w' => ∃ r, v = .tuple #[r, .int .i64 0] ∧ OwnB w' s0 r m.raw
  | 6, v, w' => OwnB w' s0 v m.raw
  | 7, v, _ => v = .int .i64 0
  | 8, v, w' => OwnB w' s0 v m.raw
  | 9, v, _ => v = .int .i64 0
  | _, _, _ => True
theorem RwmV.below {M s0 : Nat} {m : Mt} {w' w'' : World} (h : Below w'.heap.size w' w'') : ∀ j v, RwmV M s0 m j v w' → RwmV M s0 m j v w'' := fun j _ k => match j, k with
  | 0, k => k
  | 1, k => k
  | 2, k => k
  | 3, k => k
  | 4, ⟨a, c, e, k⟩ => ⟨a, c, e, k.below h⟩
  | 5, ⟨r, e, k⟩ => ⟨r, e, k.below h⟩
  | 6, k => OwnB.below k h
  | 7, k => k
  | 8, k => OwnB.below k h
  | 9, k => k
  | _ + 10, _ => trivial
theorem load_mt {w : World} {M : Nat} {m : Mt} (h : w.heap[M]? = some (.cells #[.int .i64 m.t, .int .i64 m.r, .int .i64 m.f, .int .i64 m.h] 25 (0, 0))) : (Instr.loadAt 25 (mpt M 0)).run Tryd.prog w = .ok m.val w := by
  simp [Instr.loadAt, Instr.sureAddr, run_loadVar_row w M _ 25 _ _ _ h Tryd.underlying25 rfl (by kernel_rfl)]
section
variable {ops : Array Oper} {Q : Exit → Act → World → Prop} {i : Nat} {o : Oper} {a : Act} {w : World} {K : Act → World → Prop}
theorem wpOp_extract0 {x : Operand} {u v : Value} (ho : ops[i]? = some o) (hg : Region.wanted o (yielded ops a.tmps) = true) (hop : o.op = .extract x 0) (hx : a.eval x = .tuple #[u, v]) (hK : K (a.put o.dst u) w) : wpOp Tryd.prog ops Q i K a w :=
  wpOp_val (v := u) (w' := w) ho hg (by simp only [execOp, hop, hx]; simp [go_sem]) hK
theorem wpOp_extract1 {x : Operand} {u v : Value} (ho : ops[i]? = some o) (hg : Region.wanted o (yielded ops a.tmps) = true) (hop : o.op = .extract x 1) (hx : a.eval x = .tuple #[u, v]) (hK : K (a.put o.dst v) w) : wpOp Tryd.prog ops Q i K a w :=
  wpOp_val (v := v) (w' := w) ho hg (by simp only [execOp, hop, hx]; simp [go_sem]) hK
end
set_option maxRecDepth 100000 in
set_option maxHeartbeats 1000000 in
theorem mraw_yes (m : Mt) (hok : m.ok) (w : World) (hT : Tab w) (hg : 0 + 1 ≤ w.heap.size) : Calls Tryd.prog 13 #[m.val] w fun e w' => RawPost w m.raw e w' := by
  have hb : Below w.heap.size w (w.alloc (.cells #[.int .i64 m.t, .int .i64 m.r, .int .i64 m.f, .int .i64 m.h] 25)) := (Below.refl _ _).alloc (Nat.le_refl _) _
  have hr := heap_alloc_new w (.cells #[.int .i64 m.t, .int .i64 m.r, .int .i64 m.f, .int .i64 m.h] 25)
  have HB := Lib.hid (And.intro hb hr)
  have HC := Lib.hid (fun w => mcheck_any m.t m.r m.f m.h w)
  have hmb : metaB m.t m.r m.f m.h = true := Mt.ok_iff.2 ⟨m, hok, rfl, rfl, rfl, rfl⟩
  simp only [hmb, if_true] at HC
  have HT := Lib.hid (And.intro hT hg)
  have HK := Lib.hid hok
  clear hb hmb hr hT hg hok
  go_enter Tryd.func13, Tryd.ntmps13
  go_wp2_with (go_at_call 14; refine (HC.out _).mono ?_; rintro e w1 ⟨rfl, hb1⟩; have hrow := (go_row HB.out.2 hb1))
  have hb01 := go_on HB.out.1 hb1
  obtain ⟨M, hMe⟩ : ∃ M, w.heap.size = M := ⟨_, rfl⟩
  rw [hMe] at hrow ⊢
  have HM := Lib.hid hMe
  have hlt := (Array.getElem?_eq_some_iff.1 hrow).1
  clear HB HC hb1 hMe
  refine wp_region_m (fun _ w' => Below w1.heap.size w1 w') (RwmV M w1.heap.size m) (by kernel_rfl) (by kernel_rfl) (by kernel_rfl) (by kernel_rfl) (Below.refl _ _).drew ?step ?fin
  case step =>
    intro q o ho listed a' w' hI hn' hpre
    have hq : q < 10 := (Array.getElem?_eq_some_iff.1 ho).1
    have hB := hI.inv
    have hrw := (hB.block M hlt).trans hrow
    match q, hq with
    | 0, _ =>
      cases ho
      exact wpOp_field rfl rfl rfl (hI.kept (t := 1) (by kernel_rfl)) (v := mpt M 0) (w' := w') (by simp [go_sem]) ⟨_, rfl, hB, fun _ => rfl, fun _ _ _ h => h⟩
    | 1, _ =>
      cases ho
      exact wpOp_load rfl rfl rfl (hI.slot 0 7 rfl (hpre ⟨0, .data⟩ (by simp) rfl) rfl) (load_cellR (Tryd.isAgg2 w') (v := .int .i64 m.t) (cell_of_row w' M 0 _ _ _ hrw)) ⟨_, rfl, hB, fun _ => rfl, fun _ _ _ h => h⟩
    | 2, _ =>
      cases ho
      have e1 : a'.eval (.tmp 8) = .int .i64 m.t := hI.slot 1 8 rfl (hpre ⟨1, .data⟩ (by simp) rfl) rfl
      refine wpOp_callFn rfl rfl rfl (vs := #[.int .i64 m.t]) (by simp only [List.map_toArray, List.map_cons, List.map_nil, e1]) (fun _ _ => by kernel_rfl) ((where_any m.t w').mono ?_)
      rintro e w'' ⟨rfl, rfl⟩
      refine ⟨_, rfl, _, rfl, hB, fun _ => ?_, fun _ _ _ h => h⟩
      show Value.int .i64 (whereI m.t) = _
      unfold whereI
      rw [if_neg (by omega)]; rfl
    | 3, _ =>
      cases ho
      exact wpOp_load rfl rfl rfl (hI.kept (t := 1) (by kernel_rfl)) (load_mt hrw) ⟨_, rfl, hB, fun _ => rfl, fun _ _ _ h => h⟩
    | 4, _ =>
      cases ho
      have e3 : a'.eval (.tmp 10) = m.val := hI.slot 3 10 rfl (hpre ⟨3, .data⟩ (by simp) rfl) rfl
      refine wpOp_callFn rfl rfl rfl (vs := #[m.val]) (by simp only [List.map_toArray, List.map_cons, List.map_nil, e3]) (fun _ _ => by kernel_rfl) ((paged_any m HK.out w').mono ?_)
      rintro e w'' ⟨a, c, rfl, hO, hb2⟩
      exact ⟨_, rfl, _, rfl, hB.trans (hb2.mono hB.size), fun _ => ⟨a, c, rfl, hO.mono hB.size⟩, fun j u _ h => RwmV.below hb2 j u h⟩
    | 5, _ =>
      cases ho
      have e2 : a'.eval (.tmp 9) = .int .i64 (m.t % 2 : Nat) := hI.slot 2 9 rfl (hpre ⟨2, .data⟩ (by simp) rfl) rfl
      obtain ⟨a, c, e4, hO⟩ : ∃ a c, a'.eval (.tmp 11) = pgv 1 m.t 0 a 12 c ∧ OwnB w' w1.heap.size (.slice a 12 c) m.body := hI.slot 4 11 rfl (hpre ⟨4, .data⟩ (by simp) rfl) rfl
      have hall : Below w.heap.size w w' := hb01.trans (hB.mono hb01.size)
      obtain ⟨a2, c2, ev, hm2, hno2, hle2⟩ := hO.isBs
      rw [Mt.body_len] at ev hle2
      cases ev
      have hraw := raw_yes (m.t % 2) (by omega) m.pg (Mt.pg_ok HK.out) a c w' _ (Nat.le_refl _) hm2 hno2 (by rw [show m.pg.b.length = 12 from m.body_len]; exact hle2) (HT.out.1.below HT.out.2 hall) (Nat.le_trans HT.out.2 hall.size)
      rw [show m.pg.b.length = 12 from m.body_len] at hraw
      refine wpOp_callFn rfl rfl rfl (vs := #[.int .i64 (m.t % 2 : Nat), pgv 1 m.t 0 a 12 c]) (by simp only [List.map_toArray, List.map_cons, List.map_nil, e2, e4]) (fun _ _ => by kernel_rfl) (hraw.mono ?_)
      rintro e w'' ⟨r, rfl, hO2, hb2⟩
      exact ⟨_, rfl, _, rfl, hB.trans (hb2.mono hB.size), fun _ => ⟨r, rfl, hO2.mono hB.size⟩, fun j u _ h => RwmV.below hb2 j u h⟩
    | 6, _ =>
      cases ho
      obtain ⟨r, e5, hO⟩ : ∃ r, a'.eval (.tmp 12) = .tuple #[r, .int .i64 0] ∧ OwnB w' w1.heap.size r m.raw := hI.slot 5 12 rfl (hpre ⟨5, .data⟩ (by simp) rfl) rfl
      exact wpOp_extract0 rfl rfl rfl e5 ⟨_, rfl, hB, fun _ => hO, fun _ _ _ h => h⟩
    | 7, _ =>
      cases ho
      obtain ⟨r, e5, hO⟩ : ∃ r, a'.eval (.tmp 12) = .tuple #[r, .int .i64 0] ∧ OwnB w' w1.heap.size r m.raw := hI.slot 5 12 rfl (hpre ⟨5, .data⟩ (by simp) rfl) rfl
      exact wpOp_extract1 rfl rfl rfl e5 ⟨_, rfl, hB, fun _ => rfl, fun _ _ _ h => h⟩
    | 8, _ =>
      cases ho
      have e6 := hI.slot 6 13 rfl (hpre ⟨6, .data⟩ (by simp) rfl) rfl
      exact wpOp_move rfl rfl (.inr rfl) rfl ⟨_, rfl, hB, fun _ => e6, fun _ _ _ h => h⟩
    | 9, _ =>
      cases ho
      have e7 := hI.slot 7 14 rfl (hpre ⟨7, .data⟩ (by simp) rfl) rfl
      exact wpOp_move rfl rfl (.inr rfl) rfl ⟨_, rfl, hB, fun _ => e7, fun _ _ _ h => h⟩
  case fin =>
    intro listed a' w3 hI hall
    have hB := hI.inv
    have e2 : OwnB w3 w1.heap.size (a'.tmps.getD 2 undef) m.raw := hI.slot 8 2 rfl (hall 8 (by decide)) rfl
    have e3 : a'.tmps.getD 3 undef = .int .i64 0 := hI.slot 9 3 rfl (hall 9 (by decide)) rfl
    obtain ⟨vs, us, hvl, hul, hvs, hus, e⟩ := hI.frame2 2 2 7 8 (by decide) (Nat.le_of_ble_eq_true (by kernel_rfl)) (by kernel_rfl)
    have v0 := hvs 0 (by decide)
    have v1 := hvs 1 (by decide)
    clear hI hall hvs hus
    match vs, hvl, us, hul with
    | [t2, t3], _, [t7, t8, t9, t10, t11, t12, t13, t14], _ =>
    simp only [List.getElem?_cons_zero, List.getElem?_cons_succ, Option.some.injEq] at v0 v1
    rw [← v0] at e2
    rw [← v1] at e3
    subst e3
    simp only [List.take_succ_cons, List.take_zero, List.drop_succ_cons, List.drop_zero, List.cons_append, List.nil_append, Nat.reduceAdd, Nat.reduceSub] at e
    subst e
    clear v0 v1
    go_wp2
    go_ret2
    have g4 := HM.out
    exact ⟨t2, rfl, e2.mono (by omega), hb01.trans (hB.mono (by omega))⟩
end Go.Proofs.YtaijjlaheoamaaaDoor
/- Layer 6: the meta of a page. -/
namespace Go.Proofs.YtaijjlaheoamaaaDoor
open Go.RowKit

/-- What the reader has left behind k numbers, and what the next one is. -/
def rdR (l : List UInt8) : Nat → List UInt8
  | 0 => l
  | k + 1 => (rNum (rdR l k) 4).2.2
def rdN (l : List UInt8) (k : Nat) : Nat := (rNum (rdR l k) 4).1
theorem rNum_lt (r : List UInt8) : (rNum r 4).1 < 4294967296 := by
  unfold rNum
  rw [if_neg (by omega)]
  split
  · show 0 < _
    decide
  · have := numOf_lt (r.take (4 : Int).toNat)
    rename_i h
    rw [List.length_take, Nat.min_eq_left (by omega)] at this
    exact this
theorem rNum_laid {n : Nat} (hn : n < 4294967296) (r : List UInt8) : rNum (laidB n 4 4 ++ r) 4 = (n, 0, r) := by
  unfold rNum
  rw [if_neg (by omega), if_neg (by rw [List.length_append, laidB_len]; simp)]
  rw [show (4 : Int).toNat = 4 from rfl, List.take_left' (laidB_len _ _ _), List.drop_left' (laidB_len _ _ _), numOf_whole (by simpa using hn)]
theorem rd_body {m : Mt} (h : m.ok) : rdN m.body 0 = m.r ∧ rdN m.body 1 = m.f ∧ rdN m.body 2 = m.h := by
  obtain ⟨h1, h2, h3, h4, h5⟩ := h
  have e0 : rdR m.body 0 = laidB m.r 4 4 ++ (laidB m.f 4 4 ++ (laidB m.h 4 4 ++ [])) := by simp [rdR, Mt.body, Mt.ps, laidParts]
  have e1 : rdR m.body 1 = laidB m.f 4 4 ++ (laidB m.h 4 4 ++ []) := by
    show (rNum (rdR m.body 0) 4).2.2 = _
    rw [e0, rNum_laid (by omega)]
  have e2 : rdR m.body 2 = laidB m.h 4 4 ++ [] := by
    show (rNum (rdR m.body 1) 4).2.2 = _
    rw [e1, rNum_laid (by omega)]
  refine ⟨?_, ?_, ?_⟩
  · unfold rdN; rw [e0, rNum_laid (by omega)]
  · unfold rdN; rw [e1, rNum_laid (by omega)]
  · unfold rdN; rw [e2, rNum_laid (by omega)]
/-- These are the parts of the page of that meta. -/
def Tells (k t x : Int) (l : List UInt8) (m : Mt) : Prop := m.ok ∧ k = 1 ∧ t = m.t ∧ x = 0 ∧ l = m.body
theorem Tells.nums {k t x : Int} {l : List UInt8} {m : Mt} (h : Tells k t x l m) : metaB t (rdN l 0) (rdN l 1) (rdN l 2) = true ∧ (m.r = rdN l 0 ∧ m.f = rdN l 1 ∧ m.h = rdN l 2) := by
  obtain ⟨hok, -, rfl, -, rfl⟩ := h
  obtain ⟨e0, e1, e2⟩ := rd_body hok
  rw [e0, e1, e2]
  exact ⟨Mt.ok_iff.2 ⟨m, hok, rfl, rfl, rfl, rfl⟩, rfl, rfl, rfl⟩
theorem alloc3 (w : World) (A B C : Obj) : Below w.heap.size w (((w.alloc A).alloc B).alloc C) ∧ (((w.alloc A).alloc B).alloc C).heap[w.heap.size]? = some A ∧ (((w.alloc A).alloc B).alloc C).heap[w.heap.size + 1]? = some B ∧ (((w.alloc A).alloc B).alloc C).heap[w.heap.size + 2]? = some C ∧ (((w.alloc A).alloc B).alloc C).heap.size = w.heap.size + 3 := by
  have hA : Below w.heap.size w (w.alloc A) := (Below.refl _ _).alloc (Nat.le_refl _) _
  have hB := hA.alloc hA.size B
  have hC := hB.alloc hB.size C
  have h2 := heap_alloc_new ((w.alloc A).alloc B) C
  rw [show ((w.alloc A).alloc B).heap.size = w.heap.size + 2 by simp] at h2
  exact ⟨hC, (Below.heap_alloc _ _ _ (by simp; omega)).trans ((Below.heap_alloc _ _ _ (by simp)).trans (heap_alloc_new w _)), (Below.heap_alloc _ _ _ (by simp)).trans (heap_alloc_two w _ _), h2, by simp⟩
def ToldPost (w : World) (k t x : Int) (l : List UInt8) (e : Ending) (w' : World) : Prop := Below w.heap.size w w' ∧
  ((∃ m, Tells k t x l m ∧ e = .returned (.tuple #[m.val, .bool true])) ∨ ((∀ m, ¬ Tells k t x l m) ∧ e = .returned (.tuple #[mtv 0 0 0 0, .bool false])))
structure TlSt (P n₀ : Nat) (w wr : World) (B : Nat) (k t x : Int) (v : Value) (l : List UInt8) (j : Nat) : Prop where
  rd : IsRd n₀ wr B (rdR l j)
  pg : wr.heap[P]? = some (.cells #[.int .i64 k, .int .i64 t, .int .i64 x, v] 55 (0, 0))
  no : wr.heap[P + 1]? = some (.cells #[.int .i64 0, .int .i64 0, .int .i64 0, .int .i64 0] 25 (0, 0))
  mt : wr.heap[P + 2]? = some (.cells #[.int .i64 t, .int .i64 (if 1 ≤ j then (rdN l 0 : Nat) else 0 : Nat), .int .i64 (if 2 ≤ j then (rdN l 1 : Nat) else 0 : Nat), .int .i64 (if 3 ≤ j then (rdN l 2 : Nat) else 0 : Nat)] 25 (0, 0))
  below : Below P w wr
theorem TlSt.far {P : Nat} {w wr : World} {B : Nat} {k t x : Int} {v : Value} {l : List UInt8} {j : Nat} (h : TlSt P (P + 3) w wr B k t x v l j) : P + 3 ≤ B ∧ P + 2 < wr.heap.size := by
  obtain ⟨u, l', i, hb, -⟩ := h.rd
  exact ⟨hb.lo, (Array.getElem?_eq_some_iff.1 h.mt).1⟩
theorem TlSt.rows {P : Nat} {w wr w3 : World} {B : Nat} {k t x : Int} {v : Value} {l : List UInt8} {j : Nat} (h : TlSt P (P + 3) w wr B k t x v l j) (hg : wr.grownBy w3 (some B)) (hR : IsRd (P + 3) w3 B (rdR l j)) : TlSt P (P + 3) w w3 B k t x v l j := by
  obtain ⟨h1, h2⟩ := h.far
  have hne : ∀ q, q < P + 3 → some q ≠ some B := fun q hq e => by cases e; omega
  exact ⟨hR, (hg.block P (by omega) (hne _ (by omega))).trans h.pg, (hg.block (P + 1) (by omega) (hne _ (by omega))).trans h.no, (hg.block (P + 2) (by omega) (hne _ (by omega))).trans h.mt, h.below.grown hg (by omega) (fun q e => by cases e; omega)⟩
def mtRow (t : Int) (l : List UInt8) (j : Nat) : Array Value := #[.int .i64 t, .int .i64 (if 1 ≤ j then (rdN l 0 : Nat) else 0 : Nat), .int .i64 (if 2 ≤ j then (rdN l 1 : Nat) else 0 : Nat), .int .i64 (if 3 ≤ j then (rdN l 2 : Nat) else 0 : Nat)]
theorem mtRow_set (t : Int) (l : List UInt8) {j : Nat} (hj : j < 3) : (mtRow t l j).setIfInBounds (j + 1) (.int .i64 (rdN l j)) = mtRow t l (j + 1) := match j, hj with
  | 0, _ => rfl
  | 1, _ => rfl
  | 2, _ => rfl
theorem mtRow_at (t : Int) (l : List UInt8) {j : Nat} (hj : j < 3) : ∃ u, (mtRow t l j)[j + 1]? = some (.int .i64 u) := match j, hj with
  | 0, _ => ⟨_, rfl⟩
  | 1, _ => ⟨_, rfl⟩
  | 2, _ => ⟨_, rfl⟩
/-- The next number is read: what is to be known ahead of its store, and what the store leaves. -/
theorem TlSt.step {P : Nat} {w wr w3 : World} {B : Nat} {k t x : Int} {v : Value} {l : List UInt8} {j : Nat} (hj : j < 3) (h : TlSt P (P + 3) w wr B k t x v l j) (hg : wr.grownBy w3 (some B)) (hR : IsRd (P + 3) w3 B (rdR l (j + 1))) :
    (∃ u, w3.cell? ⟨P + 2, j + 1, none⟩ = some (.int .i64 u)) ∧ w3.frozen? ⟨P + 2, j + 1, none⟩ = false ∧ TlSt P (P + 3) w (w3.setCell ⟨P + 2, j + 1, none⟩ (.int .i64 (rdN l j))) B k t x v l (j + 1) := by
  obtain ⟨h1, h2⟩ := h.far
  have hne : ∀ q, q < P + 3 → some q ≠ some B := fun q hq e => by cases e; omega
  have hm := (hg.block (P + 2) (by omega) (hne _ (by omega))).trans h.mt
  have hs := set_grown w3 ⟨P + 2, j + 1, none⟩ (.int .i64 (rdN l j))
  have hsz := hg.size
  have hb3 := h.below.grown hg (by omega) (fun q e => by cases e; omega)
  refine ⟨?_, frozen_of_row _ _ _ _ _ hm, ⟨hR.besides hm (by decide) (by decide) hs, (hs.block P (by omega) (by simp)).trans ((hg.block P (by omega) (hne _ (by omega))).trans h.pg), (hs.block (P + 1) (by omega) (by simp)).trans ((hg.block (P + 1) (by omega) (hne _ (by omega))).trans h.no), ?_, hb3.grown hs (by omega) (fun q e => by cases e; show P ≤ P + 2; omega)⟩⟩
  · rw [cell_of_row _ _ _ _ _ _ hm]
    exact mtRow_at t l hj
  · rw [heap_setCell_same w3 (P + 2) (j + 1) _ _ _ hm, show (#[.int .i64 t, .int .i64 (if 1 ≤ j then (rdN l 0 : Nat) else 0 : Nat), .int .i64 (if 2 ≤ j then (rdN l 1 : Nat) else 0 : Nat), .int .i64 (if 3 ≤ j then (rdN l 2 : Nat) else 0 : Nat)] : Array Value).setIfInBounds (j + 1) (.int .i64 (rdN l j)) = mtRow t l (j + 1) from mtRow_set t l hj]
    rfl
def TdV (mb sm : Bool) (mv pv : Value) (t : Int) (s0 : Nat) (body : List UInt8) : Nat → Value → World → Prop
  | 0, v, _ => v = mv
  | 1, v, _ => v = .int .i64 (if mb then 0 else 2)
  | 2, v, _ => v = .bool (!mb)
  | 3, v, _ => v = .bool (!mb)
  | 4, v, _ => mb = true → v = pv
  | 5, v, _ => mb = true → v = mv
  | 6, v, w' => mb = true → ∃ a c, v = pgv 1 t 0 a 12 c ∧ OwnB w' s0 (.slice a 12 c) body
  | 7, v, _ => mb = true → v = .bool sm
  | 8, v, _ => mb = true → v = .bool (!sm)
  | 9, v, _ => v = .bool (!(mb && sm))
  | _, _, _ => True
theorem TdV.below {mb sm : Bool} {mv pv : Value} {t : Int} {s0 : Nat} {body : List UInt8} {w' w'' : World} (h : Below w'.heap.size w' w'') : ∀ j v, TdV mb sm mv pv t s0 body j v w' → TdV mb sm mv pv t s0 body j v w'' := fun j _ k => match j, k with
  | 0, k => k
  | 1, k => k
  | 2, k => k
  | 3, k => k
  | 4, k => k
  | 5, k => k
  | 6, k => fun e => (k e).elim fun a k => k.elim fun c k => ⟨a, c, k.1, k.2.below h⟩
  | 7, k => k
  | 8, k => k
  | 9, k => k
  | _ + 10, _ => trivial
theorem load_pgv {w : World} {M : Nat} {v0 v1 v2 v3 : Value} (h : w.heap[M]? = some (.cells #[v0, v1, v2, v3] 55 (0, 0))) : (Instr.loadAt 55 (mpt M 0)).run Tryd.prog w = .ok (.agg #[v0, v1, v2, v3]) w := by
  simp [Instr.loadAt, Instr.sureAddr, run_loadVar_row w M _ 55 _ _ _ h Tryd.underlying55 rfl (by kernel_rfl)]
theorem load_mtv {w : World} {M : Nat} {v0 v1 v2 v3 : Value} (h : w.heap[M]? = some (.cells #[v0, v1, v2, v3] 25 (0, 0))) : (Instr.loadAt 25 (mpt M 0)).run Tryd.prog w = .ok (.agg #[v0, v1, v2, v3]) w := by
  simp [Instr.loadAt, Instr.sureAddr, run_loadVar_row w M _ 25 _ _ _ h Tryd.underlying25 rfl (by kernel_rfl)]
/-- The meta that the numbers of a page's parts name. -/
def mtOf (t : Int) (l : List UInt8) : Mt := ⟨t.toNat, rdN l 0, rdN l 1, rdN l 2⟩
theorem mtOf_ok {t : Int} {l : List UInt8} (h : metaB t (rdN l 0) (rdN l 1) (rdN l 2) = true) : (mtOf t l).ok ∧ ((mtOf t l).t : Int) = t := by
  obtain ⟨m, hok, e1, e2, e3, e4⟩ := Mt.ok_iff.1 h
  have e : mtOf t l = m := by
    obtain ⟨mt, mr, mf, mh⟩ := m
    simp only at e1 e2 e3 e4
    simp only [mtOf, Mt.mk.injEq]
    omega
  rw [e]; exact ⟨hok, e1⟩
theorem tells_iff {k t x : Int} {l : List UInt8} : (∃ m, Tells k t x l m) ↔ (metaB t (rdN l 0) (rdN l 1) (rdN l 2) && sameB k t x l 1 (mtOf t l).t 0 (mtOf t l).body) = true := by
  constructor
  · rintro ⟨m, h⟩
    obtain ⟨h1, e1, e2, e3⟩ := h.nums
    obtain ⟨hok, rfl, rfl, rfl, rfl⟩ := h
    have e : mtOf m.t m.body = m := by
      obtain ⟨mt, mr, mf, mh⟩ := m
      simp only [mtOf, Mt.mk.injEq]
      exact ⟨by simp, e1.symm, e2.symm, e3.symm⟩
    rw [h1, e]
    simp [sameB]
  · intro h
    rw [Bool.and_eq_true] at h
    obtain ⟨h1, h2⟩ := h
    obtain ⟨hok, ht⟩ := mtOf_ok h1
    simp [sameB] at h2
    exact ⟨mtOf t l, hok, h2.1.1.1, ht.symm, h2.1.2, h2.2⟩
theorem tells_one {k t x : Int} {l : List UInt8} {m : Mt} (h : Tells k t x l m) : m = mtOf t l := by
  obtain ⟨-, e1, e2, e3⟩ := h.nums
  obtain ⟨-, -, e0, -, -⟩ := h
  obtain ⟨mt, mr, mf, mh⟩ := m
  simp only at e0 e1 e2 e3
  simp only [mtOf, Mt.mk.injEq]
  exact ⟨by omega, e1, e2, e3⟩
set_option maxRecDepth 100000 in
set_option maxHeartbeats 1000000 in
theorem told_any (k t x : Int) (a : Option Addr) (l : List UInt8) (c n₁ : Nat) (w : World) (hn₁ : n₁ ≤ w.heap.size) (hm : BytesAt n₁ w a l) (hno : a = none → c = 0) (hle : l.length ≤ c) (hl : l.length ≤ 1000000) :
    Calls Tryd.prog 23 #[pgv k t x a l.length c] w fun e w' => ToldPost w k t x l e w' := by
  have hmf : ∀ (fn : Fn) (first cap : Array Value) (w : World), (Instr.makeFunc fn first cap).run Tryd.prog w = .ok (.func fn first cap) w := fun _ _ _ _ => rfl
  have hb0 := alloc3 w (.cells #[.int .i64 k, .int .i64 t, .int .i64 x, .slice a l.length c] 55) (.cells #[.int .i64 0, .int .i64 0, .int .i64 0, .int .i64 0] 25) (.cells #[.int .i64 t, .int .i64 0, .int .i64 0, .int .i64 0] 25)
  have HN := Lib.hid (newReader_any _ a l c n₁ (hm.below (hb0.1.mono hn₁)) hno hle hl)
  have HB := Lib.hid hb0
  have HM := Lib.hid (And.intro hm (And.intro hno hle))
  obtain ⟨ll, hll⟩ : ∃ ll, l.length = ll := ⟨_, rfl⟩
  rw [hll] at HN HB HM ⊢
  have HLL := Lib.hid hll
  clear hm hno hle hb0 hll
  go_enter Tryd.func23, Tryd.ntmps23
  go_wp2_with (first
    | (go_at_call 34; refine HN.out.mono ?_; rintro e w1 ⟨B, rfl, hR1, hb1⟩)
    | (go_at_call 36; refine (mparts_any _ _).mono ?_; rintro e w2 ⟨rfl, hb2⟩))
  obtain ⟨q0, q1, q2, q3, q4⟩ := HB.out
  have hW2 : TlSt w.heap.size (w.heap.size + 3) w w2 B k t x (.slice a ll c) l 0 := by
    rw [q4] at hR1
    exact ⟨hR1.below hb2, go_row (go_row q1 hb1) hb2, go_row (go_row q2 hb1) hb2, go_row (go_row q3 hb1) hb2, go_on (go_on q0 hb1) hb2⟩
  clear q0 q1 q2 q3 q4 HN HB hR1 hb1 hb2
  obtain ⟨P, hPe⟩ : ∃ P, w.heap.size = P := ⟨_, rfl⟩
  rw [hPe] at hW2
  simp only [hPe]
  have HP := Lib.hid (And.intro hPe hn₁)
  clear hPe hn₁
  go_loopw [7, 8, 9, 18, 19, 20, 21, 22, 23, 24, 25, 26, 27, 28, 29, 30] (fun _ _ _ i _ _ _ _ _ _ _ _ _ _ _ _ wr => ∃ j : Nat, i = .int .i64 j ∧ j ≤ 3 ∧ TlSt P (P + 3) w wr B k t x (.slice a ll c) l j)
    (fun _ _ _ i _ _ _ _ _ _ _ _ _ _ _ _ _ => 3 - (intOf i).toNat)
  case atStart => exact ⟨0, rfl, Nat.zero_le _, hW2⟩
  case round =>
    obtain ⟨j, rfl, hj, hS⟩ := hrel
    clear hW2
    by_cases hlt : j < 3
    · obtain rfl | rfl | rfl : j = 0 ∨ j = 1 ∨ j = 2 := by omega
      · have hix := index_p0 (mpt (P + 2) 1) (mpt (P + 2) 2) (mpt (P + 2) 3)
        have HQ := Lib.hid (rnum_any hS.rd 4)
        have HS := Lib.hid hS
        have hnl : rdN l 0 < 4294967296 := rNum_lt _
        have e1 : wrap64 (rdN l 0 : Int) = rdN l 0 := by unfold wrap64; omega
        clear hS hlt
        go_wp2_with (go_at_call 35; refine HQ.out.mono ?_; rintro e w3 ⟨rfl, hR3, hg3⟩; rw [show (rNum (rdR l 0) 4).1 = rdN l 0 from rfl]; obtain ⟨⟨u, hc3⟩, hf3, hS3⟩ := HS.out.step (by decide) hg3 hR3; have HS3 := Lib.hid hS3; clear hS3 hR3 hg3)
        exact ⟨⟨1, rfl, by decide, HS3.out⟩, by simp [intOf]⟩
      · have hix := index_p1 (mpt (P + 2) 1) (mpt (P + 2) 2) (mpt (P + 2) 3)
        have HQ := Lib.hid (rnum_any hS.rd 4)
        have HS := Lib.hid hS
        have hnl : rdN l 1 < 4294967296 := rNum_lt _
        have e1 : wrap64 (rdN l 1 : Int) = rdN l 1 := by unfold wrap64; omega
        clear hS hlt
        go_wp2_with (go_at_call 35; refine HQ.out.mono ?_; rintro e w3 ⟨rfl, hR3, hg3⟩; rw [show (rNum (rdR l 1) 4).1 = rdN l 1 from rfl]; obtain ⟨⟨u, hc3⟩, hf3, hS3⟩ := HS.out.step (by decide) hg3 hR3; have HS3 := Lib.hid hS3; clear hS3 hR3 hg3)
        exact ⟨⟨2, rfl, by decide, HS3.out⟩, by simp [intOf]⟩
      · have hix := index_p2 (mpt (P + 2) 1) (mpt (P + 2) 2) (mpt (P + 2) 3)
        have HQ := Lib.hid (rnum_any hS.rd 4)
        have HS := Lib.hid hS
        have hnl : rdN l 2 < 4294967296 := rNum_lt _
        have e1 : wrap64 (rdN l 2 : Int) = rdN l 2 := by unfold wrap64; omega
        clear hS hlt
        go_wp2_with (go_at_call 35; refine HQ.out.mono ?_; rintro e w3 ⟨rfl, hR3, hg3⟩; rw [show (rNum (rdR l 2) 4).1 = rdN l 2 from rfl]; obtain ⟨⟨u, hc3⟩, hf3, hS3⟩ := HS.out.step (by decide) hg3 hR3; have HS3 := Lib.hid hS3; clear hS3 hR3 hg3)
        exact ⟨⟨3, rfl, by decide, HS3.out⟩, by simp [intOf]⟩
    · obtain rfl : j = 3 := by omega
      have hlt3 : ¬ ((3 : Int) < 3) := by decide
      have HS := Lib.hid hS
      clear hS
      go_wp2_with fail
      obtain ⟨mb, hmb⟩ : ∃ mb, metaB t (rdN l 0) (rdN l 1) (rdN l 2) = mb := ⟨_, rfl⟩
      obtain ⟨sm, hsm⟩ : ∃ sm, sameB k t x l 1 (mtOf t l).t 0 (mtOf t l).body = sm := ⟨_, rfl⟩
      have hmt : mb = true → (mtOf t l).ok ∧ ((mtOf t l).t : Int) = t := fun e => mtOf_ok (hmb.trans e)
      have hS := HS.out
      have hg1 := hS.pg
      have hg2 : wr.heap[P + 2]? = some (.cells #[.int .i64 t, .int .i64 (rdN l 0 : Nat), .int .i64 (rdN l 1 : Nat), .int .i64 (rdN l 2 : Nat)] 25 (0, 0)) := hS.mt
      have hl1 := (Array.getElem?_eq_some_iff.1 hg1).1
      have hl2 := (Array.getElem?_eq_some_iff.1 hg2).1
      have hbw := hS.below
      clear hlt hlt3 hj hmf hS
      refine wp_region_m (fun _ w' => Below wr.heap.size wr w') (TdV mb sm (mtv t (rdN l 0 : Nat) (rdN l 1 : Nat) (rdN l 2 : Nat)) (pgv k t x a ll c) t wr.heap.size (mtOf t l).body) (by kernel_rfl) (by kernel_rfl) (by kernel_rfl) (by kernel_rfl) (Below.refl _ _).drew ?step ?fin
      case step =>
        intro q o ho listed a' w' hI hn' hpre
        have hq : q < 10 := (Array.getElem?_eq_some_iff.1 ho).1
        have hB := hI.inv
        match q, hq with
        | 0, _ =>
          cases ho
          exact wpOp_load rfl rfl rfl (hI.kept (t := 4) (by kernel_rfl)) (load_mtv ((hB.block _ hl2).trans hg2)) ⟨_, rfl, hB, fun _ => rfl, fun _ _ _ h => h⟩
        | 1, _ =>
          cases ho
          have e0 : a'.eval (.tmp 31) = mtv t (rdN l 0 : Nat) (rdN l 1 : Nat) (rdN l 2 : Nat) := hI.slot 0 31 rfl (hpre ⟨0, .data⟩ (by simp) rfl) rfl
          refine wpOp_callFn rfl rfl rfl (vs := #[mtv t (rdN l 0 : Nat) (rdN l 1 : Nat) (rdN l 2 : Nat)]) (by simp only [List.map_toArray, List.map_cons, List.map_nil, e0]) (fun _ _ => by kernel_rfl) ((mcheck_any _ _ _ _ w').mono ?_)
          rintro e w'' ⟨rfl, hb2⟩
          rw [hmb]
          exact ⟨_, rfl, _, rfl, hB.trans (hb2.mono hB.size), fun _ => rfl, fun j v _ h => TdV.below hb2 j v h⟩
        | 2, _ =>
          cases ho
          have e1 : a'.eval (.tmp 32) = .int .i64 (if mb then 0 else 2) := hI.slot 1 32 rfl (hpre ⟨1, .data⟩ (by simp) rfl) rfl
          exact wpOp_neqE rfl rfl rfl e1 rfl (m := 0) ⟨_, rfl, hB, fun _ => by cases mb <;> rfl, fun _ _ _ h => h⟩
        | 3, _ =>
          cases ho
          exact wpOp_move rfl rfl (.inl rfl) (hI.slot 2 33 rfl (hpre ⟨2, .data⟩ (by simp) rfl) rfl) ⟨_, rfl, hB, fun _ => rfl, fun _ _ _ h => h⟩
        | 4, _ =>
          cases ho
          have eg : a'.eval (.tmp 34) = .bool (!mb) := hI.slot 3 34 rfl (hpre ⟨3, .guard⟩ (by simp) rfl) rfl
          by_cases hw : mb = true
          · have eg2 : a'.eval (.tmp 34) = .bool false := by rw [eg, hw]; rfl
            exact wpOp_load rfl (wantedOf (j := 3) (b := false) rfl rfl rfl (by rw [hI.len]; show _ < 43; decide) eg2) rfl (hI.kept (t := 1) (by kernel_rfl)) (load_pgv ((hB.block _ hl1).trans hg1)) ⟨_, rfl, hB, fun _ => fun _ => rfl, fun _ _ _ h => h⟩
          · have hw' : mb = false := by simpa using hw
            exact wpOp_off rfl (wantedOff (j := 3) (b := false) (b' := true) rfl rfl rfl (by rw [hI.len]; show _ < 43; decide) (by rw [eg, hw']; rfl) (by decide)) ⟨_, rfl, hB, fun _ => fun h => absurd h hw, fun _ _ _ h => h⟩
        | 5, _ =>
          cases ho
          have eg : a'.eval (.tmp 34) = .bool (!mb) := hI.slot 3 34 rfl (hpre ⟨3, .guard⟩ (by simp) rfl) rfl
          by_cases hw : mb = true
          · have eg2 : a'.eval (.tmp 34) = .bool false := by rw [eg, hw]; rfl
            exact wpOp_load rfl (wantedOf (j := 3) (b := false) rfl rfl rfl (by rw [hI.len]; show _ < 43; decide) eg2) rfl (hI.kept (t := 4) (by kernel_rfl)) (load_mtv ((hB.block _ hl2).trans hg2)) ⟨_, rfl, hB, fun _ => fun _ => rfl, fun _ _ _ h => h⟩
          · have hw' : mb = false := by simpa using hw
            exact wpOp_off rfl (wantedOff (j := 3) (b := false) (b' := true) rfl rfl rfl (by rw [hI.len]; show _ < 43; decide) (by rw [eg, hw']; rfl) (by decide)) ⟨_, rfl, hB, fun _ => fun h => absurd h hw, fun _ _ _ h => h⟩
        | 6, _ =>
          cases ho
          have eg : a'.eval (.tmp 34) = .bool (!mb) := hI.slot 3 34 rfl (hpre ⟨3, .guard⟩ (by simp) rfl) rfl
          by_cases hw : mb = true
          · have eg2 : a'.eval (.tmp 34) = .bool false := by rw [eg, hw]; rfl
            have e0 : a'.eval (.tmp 36) = mtv t (rdN l 0 : Nat) (rdN l 1 : Nat) (rdN l 2 : Nat) := (hI.slot 5 36 rfl (hpre ⟨5, .data⟩ (by simp) rfl) rfl) hw
            obtain ⟨mok, mt⟩ := hmt hw
            have hpd := paged_any (mtOf t l) mok w'
            rw [show (mtOf t l).val = mtv t (rdN l 0 : Nat) (rdN l 1 : Nat) (rdN l 2 : Nat) by unfold Mt.val; rw [mt]; rfl] at hpd
            refine wpOp_callFn rfl (wantedOf (j := 3) (b := false) rfl rfl rfl (by rw [hI.len]; show _ < 43; decide) eg2) rfl (vs := #[mtv t (rdN l 0 : Nat) (rdN l 1 : Nat) (rdN l 2 : Nat)]) (by simp only [List.map_toArray, List.map_cons, List.map_nil, e0]) (fun _ _ => by kernel_rfl) (hpd.mono ?_)
            rintro e w'' ⟨a2, c2, rfl, hO, hb2⟩
            rw [mt]
            exact ⟨_, rfl, _, rfl, hB.trans (hb2.mono hB.size), fun _ => fun _ => ⟨a2, c2, rfl, hO.mono hB.size⟩, fun j v _ h => TdV.below hb2 j v h⟩
          · have hw' : mb = false := by simpa using hw
            exact wpOp_off rfl (wantedOff (j := 3) (b := false) (b' := true) rfl rfl rfl (by rw [hI.len]; show _ < 43; decide) (by rw [eg, hw']; rfl) (by decide)) ⟨_, rfl, hB, fun _ => fun h => absurd h hw, fun _ _ _ h => h⟩
        | 7, _ =>
          cases ho
          have eg : a'.eval (.tmp 34) = .bool (!mb) := hI.slot 3 34 rfl (hpre ⟨3, .guard⟩ (by simp) rfl) rfl
          by_cases hw : mb = true
          · have eg2 : a'.eval (.tmp 34) = .bool false := by rw [eg, hw]; rfl
            have e0 : a'.eval (.tmp 35) = pgv k t x a ll c := (hI.slot 4 35 rfl (hpre ⟨4, .data⟩ (by simp) rfl) rfl) hw
            obtain ⟨a2, c2, e1, hO⟩ : ∃ a c, a'.eval (.tmp 37) = pgv 1 t 0 a 12 c ∧ OwnB w' wr.heap.size (.slice a 12 c) (mtOf t l).body := (hI.slot 6 37 rfl (hpre ⟨6, .data⟩ (by simp) rfl) rfl) hw
            obtain ⟨mok, mt⟩ := hmt hw
            obtain ⟨a3, c3, e3, hm3, -⟩ := hO.form
            rw [Mt.body_len] at e3
            cases e3
            have hall : Below w.heap.size w w' := (hbw.mono (by have := HP.out.1; omega)).trans (hB.mono (by have := HP.out.1; omega))
            have hps := psame_any w' w'.heap.size (Nat.le_refl _) k t x a l c 1 t 0 a2 (mtOf t l).body c2 ((HM.out.1.below (hall.mono HP.out.2)).mono (Nat.le_trans HP.out.2 hall.size)) hm3
            rw [Mt.body_len, HLL.out] at hps
            rw [mt] at hsm
            rw [hsm] at hps
            refine wpOp_callFn rfl (wantedOf (j := 3) (b := false) rfl rfl rfl (by rw [hI.len]; show _ < 43; decide) eg2) rfl (vs := #[pgv k t x a ll c, pgv 1 t 0 a2 12 c2]) (by simp only [List.map_toArray, List.map_cons, List.map_nil, e0, e1]) (fun _ _ => by kernel_rfl) (hps.mono ?_)
            rintro e w'' ⟨rfl, hb2⟩
            exact ⟨_, rfl, _, rfl, hB.trans (hb2.mono hB.size), fun _ => fun _ => rfl, fun j v _ h => TdV.below hb2 j v h⟩
          · have hw' : mb = false := by simpa using hw
            exact wpOp_off rfl (wantedOff (j := 3) (b := false) (b' := true) rfl rfl rfl (by rw [hI.len]; show _ < 43; decide) (by rw [eg, hw']; rfl) (by decide)) ⟨_, rfl, hB, fun _ => fun h => absurd h hw, fun _ _ _ h => h⟩
        | 8, _ =>
          cases ho
          have eg : a'.eval (.tmp 34) = .bool (!mb) := hI.slot 3 34 rfl (hpre ⟨3, .guard⟩ (by simp) rfl) rfl
          by_cases hw : mb = true
          · have eg2 : a'.eval (.tmp 34) = .bool false := by rw [eg, hw]; rfl
            have e0 : a'.eval (.tmp 38) = .bool sm := (hI.slot 7 38 rfl (hpre ⟨7, .data⟩ (by simp) rfl) rfl) hw
            exact wpOp_notB rfl (wantedOf (j := 3) (b := false) rfl rfl rfl (by rw [hI.len]; show _ < 43; decide) eg2) rfl e0 rfl ⟨_, rfl, hB, fun _ => fun _ => rfl, fun _ _ _ h => h⟩
          · have hw' : mb = false := by simpa using hw
            exact wpOp_off rfl (wantedOff (j := 3) (b := false) (b' := true) rfl rfl rfl (by rw [hI.len]; show _ < 43; decide) (by rw [eg, hw']; rfl) (by decide)) ⟨_, rfl, hB, fun _ => fun h => absurd h hw, fun _ _ _ h => h⟩
        | 9, _ =>
          cases ho
          have e0 : a'.eval (.tmp 34) = .bool (!mb) := hI.slot 3 34 rfl (hpre ⟨3, .data⟩ (by simp) rfl) rfl
          have e1 : mb = true → a'.eval (.tmp 39) = .bool (!sm) := hI.slot 8 39 rfl (hpre ⟨8, .data⟩ (by simp) rfl) rfl
          have p1 : (!mb) = true → Value.bool true = .bool (!(mb && sm)) := fun h => by
            have h2 : mb = false := by simpa using h
            rw [h2]; rfl
          have p2 : (!mb) = false → a'.eval (.tmp 39) = .bool (!(mb && sm)) := fun h => by
            have h2 : mb = true := by simpa using h
            rw [e1 h2, h2]; rfl
          exact wpOp_pick2 rfl rfl rfl e0 (v := .bool (!(mb && sm))) p1 p2 rfl ⟨_, rfl, hB, fun _ => rfl, fun _ _ _ h => h⟩
      case fin =>
        intro listed a' w3 hI hall
        have hB := hI.inv
        have e40 : a'.tmps.getD 40 undef = .bool (!(mb && sm)) := hI.slot 9 40 rfl (hall 9 (by decide)) rfl
        obtain ⟨vs, hvl, hvs, e⟩ := hI.frame 31 10 (Nat.le_of_ble_eq_true (by kernel_rfl)) (by kernel_rfl)
        have v9 := hvs 9 (by decide)
        clear hI hall hvs
        match vs, hvl with
        | [t0, t1, t2, t3, t4, t5, t6, t7, t8, t9], _ =>
        simp only [List.getElem?_cons_zero, List.getElem?_cons_succ, Option.some.injEq] at v9
        rw [show 31 + 9 = 40 from rfl, e40] at v9
        subst v9
        simp only [List.take_succ_cons, List.take_zero, List.drop_succ_cons, List.drop_zero, List.cons_append, List.nil_append, Nat.reduceAdd] at e
        subst e
        have hti := tells_iff (k := k) (t := t) (x := x) (l := l)
        rw [hmb, hsm] at hti
        have hn1 : w3.heap[P + 1]? = some (.cells #[.int .i64 0, .int .i64 0, .int .i64 0, .int .i64 0] 25 (0, 0)) := (hB.block (P + 1) (by omega)).trans HS.out.no
        have hn2 : w3.heap[P + 2]? = some (.cells #[.int .i64 t, .int .i64 (rdN l 0 : Nat), .int .i64 (rdN l 1 : Nat), .int .i64 (rdN l 2 : Nat)] 25 (0, 0)) := (hB.block (P + 2) hl2).trans hg2
        have hb3 := hbw.trans (hB.mono (by omega))
        have HX := Lib.hid (And.intro hti (And.intro hb3 (And.intro hn1 hn2)))
        clear hti hb3 hbw hB e40 hg1 hg2
        generalize (mb && sm) = ms at HX
        have d0 := cell_of_row w3 (P + 1) 0 _ _ _ hn1; have f0 := frozen_of_row w3 (P + 1) 0 _ _ hn1
        have d1 := cell_of_row w3 (P + 1) 1 _ _ _ hn1; have f1 := frozen_of_row w3 (P + 1) 1 _ _ hn1
        have d2 := cell_of_row w3 (P + 1) 2 _ _ _ hn1; have f2 := frozen_of_row w3 (P + 1) 2 _ _ hn1
        have d3 := cell_of_row w3 (P + 1) 3 _ _ _ hn1; have f3 := frozen_of_row w3 (P + 1) 3 _ _ hn1
        have c0 := cell_of_row w3 (P + 2) 0 _ _ _ hn2
        have c1 := cell_of_row w3 (P + 2) 1 _ _ _ hn2
        have c2 := cell_of_row w3 (P + 2) 2 _ _ _ hn2
        have c3 := cell_of_row w3 (P + 2) 3 _ _ _ hn2
        simp only [List.getElem?_toArray, List.getElem?_cons_zero, List.getElem?_cons_succ] at d0 d1 d2 d3 c0 c1 c2 c3
        clear hn1 hn2 HS hmt hl1 hl2 hmb hsm
        cases ms with
        | false =>
          clear c0 c1 c2 c3
          go_wp2
          obtain ⟨hti, hb3, hn1, hn2⟩ := HX.out
          have hg1 := set4_grown w3 (P + 1) (.int .i64 0) (.int .i64 0) (.int .i64 0) (.int .i64 0)
          have hR2 := set4_heap (.int .i64 0) (.int .i64 0) (.int .i64 0) (.int .i64 0) hn1
          refine bodyPost_ret (results_ct rfl _ _ _ _ _ _ rfl hR2 Tryd.underlying25 (by kernel_rfl)) rfl ?_
          have hP := HP.out.1
          refine ⟨by rw [hP]; exact hb3.grown hg1 (by have := hb3.size; omega) (fun q e => by cases e; show P ≤ P + 1; omega), .inr ⟨fun m hm => ?_, rfl⟩⟩
          have := hti.1 ⟨m, hm⟩
          cases this
        | true =>
          go_wp2
          obtain ⟨hti, hb3, hn1, hn2⟩ := HX.out
          have hg1 := set4_grown w3 (P + 1) (.int .i64 t) (.int .i64 (rdN l 0 : Nat)) (.int .i64 (rdN l 1 : Nat)) (.int .i64 (rdN l 2 : Nat))
          have hR2 := set4_heap (.int .i64 t) (.int .i64 (rdN l 0 : Nat)) (.int .i64 (rdN l 1 : Nat)) (.int .i64 (rdN l 2 : Nat)) hn1
          refine bodyPost_ret (results_ct rfl _ _ _ _ _ _ rfl hR2 Tryd.underlying25 (by kernel_rfl)) rfl ?_
          have hP := HP.out.1
          obtain ⟨m, hm⟩ := hti.2 trivial
          refine ⟨by rw [hP]; exact hb3.grown hg1 (by have := hb3.size; omega) (fun q e => by cases e; show P ≤ P + 1; omega), .inl ⟨m, hm, ?_⟩⟩
          have e1 := tells_one hm
          have e2 := hm.2.2.1
          rw [e2]
          subst e1
          rfl
end Go.Proofs.YtaijjlaheoamaaaDoor
/- Layer 6: Parse. -/
namespace Go.Proofs.YtaijjlaheoamaaaDoor
open Go.RowKit

/-- These bytes are that meta's, at that number. -/
def IsMt (n : Int) (b : List UInt8) (m : Mt) : Prop := m.ok ∧ ((m.t % 2 : Nat) : Int) = n ∧ b = m.raw
def errM (n : Int) (b : List UInt8) : Int := if (n = 0 ∨ n = 1) ∧ b.length = 256 then 160 else 2
theorem Mt.raw_len {m : Mt} (h : m.ok) : m.raw.length = 256 := Pg.raw_len (Mt.pg_ok h)
theorem IsMt.look {n : Int} {b : List UInt8} {m : Mt} (h : IsMt n b m) : (n = 0 ∨ n = 1) ∧ b.length = 256 ∧ parseE n b = 0 ∧ pgOf b = m.pg ∧ (atN b : Int) = n := by
  obtain ⟨hok, hn, rfl⟩ := h
  obtain ⟨h1, h2, h3⟩ := raw_look (n := m.t % 2) (Mt.pg_ok hok) (by omega)
  have h3' : (atN m.raw : Int) = n := by rw [← hn]; exact congrArg _ h3
  refine ⟨by omega, Mt.raw_len hok, ?_, h2, h3'⟩
  unfold parseE
  rw [if_pos (by simp [numB]; omega), if_pos (show lookE m.raw = 0 from h1), if_pos h3']
theorem isMt_iff {n : Int} {b : List UInt8} (h : parseE n b = 0) {m : Mt} : IsMt n b m ↔ (whereI (wrap64 (atT b)) = n ∧ Tells (atK b) (wrap64 (atT b)) (atX b) (atB b) m) := by
  constructor
  · intro hm
    obtain ⟨h1, h2, h3, h4, h5⟩ := hm.look
    have eK : atK b = 1 := congrArg Pg.k h4
    have eT : atT b = m.t := congrArg Pg.t h4
    have eX : atX b = 0 := congrArg Pg.x h4
    have eB : atB b = m.body := congrArg Pg.b h4
    obtain ⟨hok, hn, -⟩ := hm
    have hw : wrap64 (m.t : Int) = m.t := wrap_small hok.1
    rw [eK, eT, eX, eB, hw]
    refine ⟨?_, hok, rfl, rfl, rfl, rfl⟩
    unfold whereI; rw [if_neg (by omega)]; omega
  · rintro ⟨hw, hok, h1, h2, h3, h4⟩
    unfold parseE at h
    split at h
    · split at h
      · rename_i hlk
        obtain ⟨hpo, hn4, hraw, hlen, -⟩ := look_raw hlk
        split at h
        · rename_i hat
          have ht : atT b ≤ 4611686018427387904 := hpo.2.2.1
          rw [wrap_small ht] at hw h2
          have e : pgOf b = m.pg := by
            show Pg.mk (atK b) (atT b) (atX b) (atB b) = Pg.mk 1 m.t 0 m.body
            rw [Pg.mk.injEq]
            exact ⟨by omega, by omega, by omega, h4⟩
          have hwn : ((m.t % 2 : Nat) : Int) = n := by
            unfold whereI at hw; rw [if_neg (by omega)] at hw; omega
          refine ⟨hok, hwn, ?_⟩
          rw [← hraw, e]
          show m.pg.raw (atN b) = m.pg.raw (m.t % 2)
          congr 1; omega
        · cases h
      · contradiction
    · cases h
theorem body_is {w : World} {base : Nat} {ar : Option Addr} {c : Nat} {b : List UInt8} (hb : b.length = 256) (hs : (atB b).length = atS b) (h : OwnB w base (.slice ar 234 c) (b.drop 22)) : IsBs w.heap.size w (.slice (bodyAt ar (atS b)) (atS b) (atS b)) (atB b) := by
  obtain ⟨a', c', e, hm, -⟩ := h.isBs
  injection e with e1 e2 e3
  subst e1
  have hs2 : atS b ≤ 232 := by
    have := hs
    unfold atB at this
    rw [List.length_take, List.length_drop] at this
    omega
  have h2 := body_at (size := atS b) hm (by rw [List.length_drop]; omega)
  rw [List.drop_drop] at h2
  refine ⟨bodyAt ar (atS b), atS b, by rw [hs], h2, fun e => ?_, by omega⟩
  unfold bodyAt at e
  split at e
  · omega
  · obtain ⟨q, off, rfl, -⟩ := hm (by intro e; have := congrArg List.length e; rw [List.length_drop] at this; simp at this; omega)
    cases e
def MParsePost (w : World) (n : Int) (b : List UInt8) (e : Ending) (w' : World) : Prop := Below w.heap.size w w' ∧
  ((∃ m, IsMt n b m ∧ e = .returned (.tuple #[m.val, .int .i64 0])) ∨ ((∀ m, ¬ IsMt n b m) ∧ e = .returned (.tuple #[mtv 0 0 0 0, .int .i64 (errM n b)])))
theorem lookE_len {b : List UInt8} (h : lookE b = 0) : b.length = 256 := (look_raw h).2.2.2.1
theorem parseE_look {n : Int} {b : List UInt8} (h : parseE n b = 0) : lookE b = 0 := by
  unfold parseE at h
  split at h
  · split at h
    · rename_i hlk; exact hlk
    · contradiction
  · cases h
theorem parseE_len {n : Int} {b : List UInt8} (h : parseE n b = 0) : b.length = 256 := by
  unfold parseE at h
  split at h
  · split at h
    · rename_i hlk; exact lookE_len hlk
    · contradiction
  · cases h
set_option maxRecDepth 100000 in
set_option maxHeartbeats 1000000 in
theorem mparse_any (n : Int) (b : List UInt8) (a : Option Addr) (c n₁ : Nat) (hc : b.length ≤ c) (hlb : b.length ≤ 9223372036854775807) (w : World) (hm : BytesAt n₁ w a b) (hn₁ : n₁ ≤ w.heap.size) (hno : a = none → c = 0) (hT : Tab w) (hg : 0 + 1 ≤ w.heap.size) :
    Calls Tryd.prog 11 #[.int .i64 n, .slice a b.length c] w fun e w' => MParsePost w n b e w' := by
  have hb0 : Below w.heap.size w (w.alloc (.cells #[.int .i64 0, .int .i64 0, .int .i64 0, .int .i64 0] 25)) := (Below.refl _ _).alloc (Nat.le_refl _) _
  have hr0 := heap_alloc_new w (.cells #[.int .i64 0, .int .i64 0, .int .i64 0, .int .i64 0] 25)
  have HP := Lib.hid (parse_any n b a c n₁ hc _ (hm.below (hb0.mono hn₁)) (Nat.le_trans hn₁ hb0.size) hno (hT.below hg hb0) (Nat.le_trans hg hb0.size))
  have HB := Lib.hid (And.intro hb0 hr0)
  clear hb0 hr0 hm hn₁ hno hT hg
  obtain ⟨bl, hbl⟩ : ∃ k, b.length = k := ⟨_, rfl⟩
  rw [hbl] at HP hlb ⊢
  have HBL := Lib.hid hbl
  clear hc
  by_cases hin : (n = 0 ∨ n = 1) ∧ bl = 256
  case neg =>
    have HE := Lib.hid (show errM n b = 2 by unfold errM; rw [if_neg (by rw [hbl]; exact hin)])
    have HNM := Lib.hid (fun m (h : IsMt n b m) => hin ⟨h.look.1, hbl ▸ h.look.2.1⟩)
    clear hbl HP
    by_cases h1 : n < 0
    · clear hin
      go_enter Tryd.func11, Tryd.ntmps11
      go_wp2
      refine bodyPost_ret (results_ct rfl _ _ _ _ _ _ rfl HB.out.2 Tryd.underlying25 (by kernel_rfl)) rfl ?_
      exact ⟨HB.out.1, .inr ⟨HNM.out, by rw [HE.out]; rfl⟩⟩
    by_cases h2 : 2 ≤ n
    · clear hin
      go_enter Tryd.func11, Tryd.ntmps11
      go_wp2
      refine bodyPost_ret (results_ct rfl _ _ _ _ _ _ rfl HB.out.2 Tryd.underlying25 (by kernel_rfl)) rfl ?_
      exact ⟨HB.out.1, .inr ⟨HNM.out, by rw [HE.out]; rfl⟩⟩
    have h3 : ((bl : Int) != 256) = true := by
      have : bl ≠ 256 := fun e => hin ⟨by omega, e⟩
      simp; omega
    clear hin
    go_enter Tryd.func11, Tryd.ntmps11
    go_wp2
    refine bodyPost_ret (results_ct rfl _ _ _ _ _ _ rfl HB.out.2 Tryd.underlying25 (by kernel_rfl)) rfl ?_
    exact ⟨HB.out.1, .inr ⟨HNM.out, by rw [HE.out]; rfl⟩⟩
  obtain ⟨hn, rfl⟩ := hin
  have HE := Lib.hid (show errM n b = 160 by unfold errM; rw [if_pos ⟨hn, hbl⟩])
  have h1 : ¬ n < 0 := by omega
  have h2 : ¬ 2 ≤ n := by omega
  have HN := Lib.hid hn
  clear hbl hn hlb
  go_enter Tryd.func11, Tryd.ntmps11
  go_wp2_with fail
  refine HP.out.mono ?_
  rintro e w1 ⟨hb1, ⟨hpe, ar, cr, rfl, hO⟩ | ⟨hpe, rfl⟩⟩
  · have hlk := parseE_look hpe
    obtain ⟨hpo, -, -, hlen, -, -, -, hsz⟩ := look_raw hlk
    have hbo := body_is hlen hsz hO
    have hiff := fun m => isMt_iff (m := m) hpe
    have hb := go_on HB.out.1 hb1
    have hR1 := go_row HB.out.2 hb1
    obtain ⟨sz, hsze⟩ : ∃ k, atS b = k := ⟨_, rfl⟩
    obtain ⟨ab, hab⟩ : ∃ v, bodyAt ar sz = v := ⟨_, rfl⟩
    obtain ⟨k, hk⟩ : ∃ k, atK b = k := ⟨_, rfl⟩
    obtain ⟨t, ht⟩ : ∃ k, wrap64 (atT b) = k := ⟨_, rfl⟩
    obtain ⟨x, hx⟩ : ∃ k, atX b = k := ⟨_, rfl⟩
    obtain ⟨l, hl⟩ : ∃ k, atB b = k := ⟨_, rfl⟩
    rw [hsze] at hsz hbo ⊢
    rw [hab] at hbo ⊢
    rw [hk, ht, hx]
    rw [hl] at hsz hbo
    simp only [hk, ht, hx, hl] at hiff
    have hszle : sz ≤ 232 := by have := hpo.2.2.2.2; rw [show (pgOf b).b = l from hl] at this; omega
    clear hpo hlen hO hlk hpe hsze hab hk hx hl hb1
    have d0 := cell_of_row w1 w.heap.size 0 _ _ _ hR1; have f0 := frozen_of_row w1 w.heap.size 0 _ _ hR1
    have d1 := cell_of_row w1 w.heap.size 1 _ _ _ hR1; have f1 := frozen_of_row w1 w.heap.size 1 _ _ hR1
    have d2 := cell_of_row w1 w.heap.size 2 _ _ _ hR1; have f2 := frozen_of_row w1 w.heap.size 2 _ _ hR1
    have d3 := cell_of_row w1 w.heap.size 3 _ _ _ hR1; have f3 := frozen_of_row w1 w.heap.size 3 _ _ hR1
    simp only [List.getElem?_toArray, List.getElem?_cons_zero, List.getElem?_cons_succ] at d0 d1 d2 d3
    have hlt := (Array.getElem?_eq_some_iff.1 hR1).1
    by_cases hw : whereI t = n
    case neg =>
      have hwb : (whereI t != n) = true := by simpa using hw
      have HX := Lib.hid (And.intro hR1 (And.intro hb (fun m (h : IsMt n b m) => hw ((hiff m).1 h).1)))
      clear hR1 hb hiff hw hbo HBL HP HN ht
      go_wp2_with (go_at_call 16; refine (where_any _ _).mono ?_; rintro e w' ⟨rfl, rfl⟩)
      obtain ⟨hR1, hb, hno⟩ := HX.out
      have hg1 := set4_grown w1 w.heap.size (.int .i64 0) (.int .i64 0) (.int .i64 0) (.int .i64 0)
      have hR2 := set4_heap (.int .i64 0) (.int .i64 0) (.int .i64 0) (.int .i64 0) hR1
      have hb2 := hb.grown hg1 hb.size (fun q e => by cases e; exact Nat.le_refl _)
      refine bodyPost_ret (results_ct rfl _ _ _ _ _ _ rfl ((Below.heap_alloc _ _ _ (Array.getElem?_eq_some_iff.1 hR2).1).trans hR2) Tryd.underlying25 (by kernel_rfl)) rfl ?_
      exact ⟨hb2.alloc hb2.size _, .inr ⟨hno, by rw [HE.out]; rfl⟩⟩
    have hwb : (whereI t != n) = false := by simpa using hw
    obtain ⟨a', c', ev, hm2, hno2, hle2⟩ := hbo
    rw [hsz] at ev hle2
    cases ev
    have htd := told_any k t x ab l sz w1.heap.size _ (((Below.refl w1.heap.size w1).alloc (Nat.le_refl _) (.cells #[.int .i64 k, .int .i64 t, .int .i64 x, .slice ab sz sz] 55)).size) (hm2.below ((Below.refl w1.heap.size w1).alloc (Nat.le_refl _) _)) hno2 (by omega) (by omega)
    rw [hsz] at htd
    have HTo := Lib.hid htd
    have HX := Lib.hid (And.intro hR1 (And.intro hb hiff))
    clear hR1 hb hiff hm2 hno2 hle2 HBL HP HN htd d0 d1 d2 d3 f0 f1 f2 f3
    go_wp2_with (go_at_call 16; refine (where_any _ _).mono ?_; rintro e w' ⟨rfl, rfl⟩)
    refine HTo.out.mono ?_
    rintro e w2 ⟨hb2, ⟨m, hm, rfl⟩ | ⟨hm, rfl⟩⟩
    · obtain ⟨hR0, hb0, hiff⟩ := HX.out
      have hal : Below w1.heap.size w1 (w1.alloc (.cells #[.int .i64 k, .int .i64 t, .int .i64 x, .slice ab sz sz] 55)) := (Below.refl _ _).alloc (Nat.le_refl _) _
      have hR1 := go_row (go_row hR0 hal) hb2
      have hb := go_on (go_on hb0 hal) hb2
      have d0 := cell_of_row w2 w.heap.size 0 _ _ _ hR1; have f0 := frozen_of_row w2 w.heap.size 0 _ _ hR1
      have d1 := cell_of_row w2 w.heap.size 1 _ _ _ hR1; have f1 := frozen_of_row w2 w.heap.size 1 _ _ hR1
      have d2 := cell_of_row w2 w.heap.size 2 _ _ _ hR1; have f2 := frozen_of_row w2 w.heap.size 2 _ _ hR1
      have d3 := cell_of_row w2 w.heap.size 3 _ _ _ hR1; have f3 := frozen_of_row w2 w.heap.size 3 _ _ hR1
      simp only [List.getElem?_toArray, List.getElem?_cons_zero, List.getElem?_cons_succ] at d0 d1 d2 d3
      have hlt2 := (Array.getElem?_eq_some_iff.1 hR1).1
      have HX := Lib.hid (And.intro hR1 (And.intro hb ((hiff m).2 ⟨hw, hm⟩)))
      clear hR0 hb0 hiff hal hR1 hb HTo hb2 hlt hm hsz hszle ht
      go_wp2
      obtain ⟨hR1, hb, hyes⟩ := HX.out
      have hg1 := set4_grown w2 w.heap.size (.int .i64 m.t) (.int .i64 m.r) (.int .i64 m.f) (.int .i64 m.h)
      have hR2 := set4_heap (.int .i64 m.t) (.int .i64 m.r) (.int .i64 m.f) (.int .i64 m.h) hR1
      have hb2 := hb.grown hg1 hb.size (fun q e => by cases e; exact Nat.le_refl _)
      refine bodyPost_ret (results_ct rfl _ _ _ _ _ _ rfl ((Below.heap_alloc _ _ _ (Array.getElem?_eq_some_iff.1 hR2).1).trans hR2) Tryd.underlying25 (by kernel_rfl)) rfl ?_
      exact ⟨hb2.alloc hb2.size _, .inl ⟨m, hyes, rfl⟩⟩
    · obtain ⟨hR0, hb0, hiff⟩ := HX.out
      have hal : Below w1.heap.size w1 (w1.alloc (.cells #[.int .i64 k, .int .i64 t, .int .i64 x, .slice ab sz sz] 55)) := (Below.refl _ _).alloc (Nat.le_refl _) _
      have hR1 := go_row (go_row hR0 hal) hb2
      have hb := go_on (go_on hb0 hal) hb2
      have d0 := cell_of_row w2 w.heap.size 0 _ _ _ hR1; have f0 := frozen_of_row w2 w.heap.size 0 _ _ hR1
      have d1 := cell_of_row w2 w.heap.size 1 _ _ _ hR1; have f1 := frozen_of_row w2 w.heap.size 1 _ _ hR1
      have d2 := cell_of_row w2 w.heap.size 2 _ _ _ hR1; have f2 := frozen_of_row w2 w.heap.size 2 _ _ hR1
      have d3 := cell_of_row w2 w.heap.size 3 _ _ _ hR1; have f3 := frozen_of_row w2 w.heap.size 3 _ _ hR1
      simp only [List.getElem?_toArray, List.getElem?_cons_zero, List.getElem?_cons_succ] at d0 d1 d2 d3
      have hlt2 := (Array.getElem?_eq_some_iff.1 hR1).1
      have HX := Lib.hid (And.intro hR1 (And.intro hb (fun m (h : IsMt n b m) => hm m ((hiff m).1 h).2)))
      clear hR0 hb0 hiff hal hR1 hb HTo hb2 hlt hm hsz hszle ht
      go_wp2
      obtain ⟨hR1, hb, hno⟩ := HX.out
      have hg1 := set4_grown w2 w.heap.size (.int .i64 0) (.int .i64 0) (.int .i64 0) (.int .i64 0)
      have hR2 := set4_heap (.int .i64 0) (.int .i64 0) (.int .i64 0) (.int .i64 0) hR1
      have hb2 := hb.grown hg1 hb.size (fun q e => by cases e; exact Nat.le_refl _)
      refine bodyPost_ret (results_ct rfl _ _ _ _ _ _ rfl ((Below.heap_alloc _ _ _ (Array.getElem?_eq_some_iff.1 hR2).1).trans hR2) Tryd.underlying25 (by kernel_rfl)) rfl ?_
      exact ⟨hb2.alloc hb2.size _, .inr ⟨hno, by rw [HE.out]; rfl⟩⟩
  · have hb := go_on HB.out.1 hb1
    have hR1 := go_row HB.out.2 hb1
    have d0 := cell_of_row w1 w.heap.size 0 _ _ _ hR1; have f0 := frozen_of_row w1 w.heap.size 0 _ _ hR1
    have d1 := cell_of_row w1 w.heap.size 1 _ _ _ hR1; have f1 := frozen_of_row w1 w.heap.size 1 _ _ hR1
    have d2 := cell_of_row w1 w.heap.size 2 _ _ _ hR1; have f2 := frozen_of_row w1 w.heap.size 2 _ _ hR1
    have d3 := cell_of_row w1 w.heap.size 3 _ _ _ hR1; have f3 := frozen_of_row w1 w.heap.size 3 _ _ hR1
    simp only [List.getElem?_toArray, List.getElem?_cons_zero, List.getElem?_cons_succ] at d0 d1 d2 d3
    have hlt := (Array.getElem?_eq_some_iff.1 hR1).1
    have hpb : ((parseE n b : Int) != 0) = true := by simpa using hpe
    have HX := Lib.hid (And.intro hR1 (And.intro hb (fun m (h : IsMt n b m) => hpe h.look.2.2.1)))
    generalize (parseE n b : Int) = pe at hpb
    clear hR1 hb hpe HP HN hb1 HBL
    go_wp2
    obtain ⟨hR1, hb, hno⟩ := HX.out
    have hg1 := set4_grown w1 w.heap.size (.int .i64 0) (.int .i64 0) (.int .i64 0) (.int .i64 0)
    have hR2 := set4_heap (.int .i64 0) (.int .i64 0) (.int .i64 0) (.int .i64 0) hR1
    have hb2 := hb.grown hg1 hb.size (fun q e => by cases e; exact Nat.le_refl _)
    refine bodyPost_ret (results_ct rfl _ _ _ _ _ _ rfl ((Below.heap_alloc _ _ _ (Array.getElem?_eq_some_iff.1 hR2).1).trans hR2) Tryd.underlying25 (by kernel_rfl)) rfl ?_
    exact ⟨hb2.alloc hb2.size _, .inr ⟨hno, by rw [HE.out]; rfl⟩⟩
end Go.Proofs.YtaijjlaheoamaaaDoor

/- The laws' own known: a crash whose answer is written down. -/
import Derived.Test.YtkophpipehdkmaaDskCrash
import Derived.Test.YtkophpipehdkmaaDskAll
import Derived.Test.YtkophpipehdkmaaDskRead
import Derived.Test.YtkophpipehdkmaaDskFlush
import Derived.Test.YtkophpipehdkmaaDskArms
namespace Go.Proofs.Ytkophpipehdkmaa
open Go.RowKit

def pgA : Page := List.replicate 256 97
def pgB : Page := List.replicate 256 98
def kd1 : Dsk := ((Dsk.new 2).write 0 pgA).1
def kd2 : Dsk := (kd1.write 0 pgB).1
def kc0 : Dsk := kd2.crash [1, 2, 0]
def kc1 : Dsk := (kc0.arm 2 0).1
def kc2 : Dsk := kc1.flush.1
def kpage : Page := List.replicate 64 97 ++ List.replicate 64 98 ++ List.replicate 128 0
theorem k1 : ((Dsk.new 2).write 0 pgA).2 = 0 := by kernel_rfl
theorem k2 : (kd1.write 0 pgB).2 = 0 := by kernel_rfl
theorem k3 : (kc0.arm 2 0).2 = 0 := by kernel_rfl
theorem k4 : kc1.flush.2 = 121 := by kernel_rfl
theorem k5 : kc2.flush.2 = 0 := by kernel_rfl
theorem k6 : kc0.page 0 = kpage := by kernel_rfl
theorem IsDisk.mono {n₀ n₁ : Nat} {w : World} {B : Nat} {d : Dsk} (h : IsDisk n₀ w B d) (hn : n₁ ≤ n₀) : IsDisk n₁ w B d := by
  obtain ⟨bl, bn, v, fl, h⟩ := h
  exact ⟨bl, bn, v, fl, h.ok, h.cells, h.last, h.news, row_mono h.row hn, ⟨Nat.le_trans hn h.lo.1, Nat.le_trans hn h.lo.2.1, Nat.le_trans hn h.lo.2.2⟩, h.ne, h.fl_lo, h.fl_hi⟩
theorem RowAt.bytes {w : World} {g : Nat} {l : Page} (h : RowAt w g l) (hl : l.length = 256) : Bytes256 w g 0 l :=
  ⟨hl, fun j v hv => by rw [Nat.zero_add, cell_of_row w g j _ _ _ h]; simpa using hv, _, _, _, h, by decide, by decide⟩
theorem RowAt.handed {w : World} {g : Nat} {l : Page} (h : RowAt w g l) (hl : l.length = 256) : Handed w (some ⟨g, 0, none⟩) 256 l := ⟨hl, fun _ => ⟨g, 0, rfl, h.bytes hl⟩⟩
def bs (l : List UInt8) : ByteArray := ⟨l.toArray⟩
theorem kstr : bs kpage = (bs (List.replicate 64 97) ++ bs (List.replicate 64 98)) ++ bs (List.replicate 128 0) := by kernel_rfl
/-- A slice over a block of bytes. -/
def KB (l : Page) (n c : Nat) (u : Value) (w : World) : Prop := ∃ g, u = .slice (some ⟨g, 0, none⟩) n c ∧ RowAt w g l
theorem RowAt.keeps {n g : Nat} {w w' : World} {l : Page} (h : RowAt w g l) (hk : Keeps n w w') : RowAt w' g l := hk.cells _ _ _ _ h (by decide) (by decide)
theorem KB.keeps {l : Page} {n c m : Nat} {u : Value} {w w' : World} (h : KB l n c u w) (hk : Keeps m w w') : KB l n c u w' := by
  obtain ⟨g, e, h⟩ := h; exact ⟨g, e, h.keeps hk⟩
theorem RowAt.part {w : World} {g : Nat} {l m : Page} (h : RowAt w g l) (hm : l.take m.length = m) : w.rangeAt g 0 (byteVals m) := fun j v hv => by
  rw [Nat.zero_add, cell_of_row w g j _ _ _ h, List.getElem?_toArray]
  have hj := (List.getElem?_eq_some_iff.1 hv).1
  rw [byteVals_len] at hj
  rw [← hv, ← hm]
  unfold byteVals
  rw [List.getElem?_map, List.getElem?_map, List.getElem?_take, if_pos hj]
theorem conv_bytes (w : World) (b o : Nat) (l : List UInt8) (cap : Nat) (hr : w.rangeAt b o (byteVals l)) : (convert 31 9 (.slice (some ⟨b, o, none⟩) l.length cap)).run Try.prog w = .ok (.string (bs l)) w := by
  have := run_convert_bytes_arg (P := Try.prog) (w := w) 31 5 Try.underlying31 Try.underlying5 b o l.length cap (l.map fun x => (x.toNat : Int)) (by simp) (fun i hi => by
    rw [hr i (.int .u8 ((l[i]).toNat : Int)) (by simp [byteVals, hi])]
    simp [List.getD, hi]) 9 Try.underlying9
  rw [this]
  refine congrArg (fun s => Result.ok (Value.string s) w) ?_
  apply ByteArray.ext
  apply Array.toList_inj.1
  rw [strOfNums_data, List.map_map]
  show _ = l
  conv => rhs; rw [← List.map_id l]
  apply List.map_congr_left
  intro x _
  simp
theorem slice40 (w : World) (g : Nat) : (Instr.sliceAt 31 (.slice (some ⟨g, 0, none⟩) 256 256) none (some (.int .i64 64)) none).run Try.prog w = .ok (.slice (some ⟨g, 0, none⟩) 64 256) w := by
  have hel : Try.prog.elem 31 = 5 := by kernel_rfl
  have hu : Try.prog.underlying 31 = some (.slice (Try.prog.elem 31)) := by rw [hel]; exact Try.underlying31
  have hs : (sizeOf 5).run Try.prog w = .ok 1 w := by kernel_rfl
  refine (run_sliceAt_slice (P := Try.prog) w 31 _ _ _ _ hu).trans ((run_slice_h (P := Try.prog) w 31 (some ⟨g, 0, none⟩) 256 256 hu .i64 64 (by omega) (by omega)).trans ?_)
  rw [hel, hs]
  rfl
section
variable {ops : Array Oper} {Q : Exit → Act → World → Prop} {i : Nat} {o : Oper} {a : Act} {w w' : World} {K : Act → World → Prop}
theorem wanted_of {oi : Oper} {b : Bool} {d : Tmp} (hg : o.guard = some (i, b)) (ho : ops[i]? = some oi) (hd : oi.dst = some d) (hsz : d < a.tmps.size) (hv : a.eval (.tmp d) = .bool b) : Region.wanted o (yielded ops a.tmps) = true := by
  have h1 : a.tmps[d]? = some (.bool b) := by
    have : a.tmps.getD d undef = .bool b := hv
    rw [Array.getD, dif_pos hsz] at this
    rw [Array.getElem?_eq_getElem hsz]; exact congrArg some this
  unfold Region.wanted
  rw [hg]
  simp [yielded, ho, hd, h1]
theorem wpOp_eqInt {x y : Operand} {n m : Int} (ho : ops[i]? = some o) (hg : Region.wanted o (yielded ops a.tmps) = true) (hop : o.op = .binOp .eql 26 x y 26) (hx : a.eval x = .int .i64 n) (hy : a.eval y = .int .i64 m) (hK : K (a.put o.dst (.bool (n == m))) w) : wpOp Try.prog ops Q i K a w :=
  wpOp_val ho hg (by simp only [execOp, hop, hx, hy]; simp [go_sem]) hK
theorem wpOp_pick {c x y : Operand} {v : Value} (ho : ops[i]? = some o) (hg : Region.wanted o (yielded ops a.tmps) = true) (hop : o.op = .pick c x y) (hc : a.eval c = .bool true) (hx : a.eval x = v) (hK : K (a.put o.dst v) w) : wpOp Try.prog ops Q i K a w :=
  wpOp_val (v := v) ho hg (by simp only [execOp, hop, hc, hx]; simp [go_sem]) hK
theorem wpOp_convert {s t : TypeId} {x : Operand} {vx v : Value} (ho : ops[i]? = some o) (hg : Region.wanted o (yielded ops a.tmps) = true) (hop : o.op = .convert s t x) (hx : a.eval x = vx) (hrun : (convert s t vx).run Try.prog w = .ok v w') (hK : K (a.put o.dst v) w') : wpOp Try.prog ops Q i K a w :=
  wpOp_val ho hg (by simp only [execOp, hop, hx, hrun, Sem.run_bind, Sem.run_pure, Result.andThen_ok]) hK
theorem wpOp_make {t : TypeId} {x y : Operand} {vx vy v : Value} (ho : ops[i]? = some o) (hg : Region.wanted o (yielded ops a.tmps) = true) (hop : o.op = .makeSlice t x y) (hx : a.eval x = vx) (hy : a.eval y = vy) (hrun : (Instr.makeSlice t vx vy).run Try.prog w = .ok v w') (hK : K (a.put o.dst v) w') : wpOp Try.prog ops Q i K a w :=
  wpOp_val ho hg (by simp only [execOp, hop, hx, hy, hrun, Sem.run_bind, Sem.run_pure, Result.andThen_ok]) hK
theorem wpOp_addStr {x y : Operand} {s t : ByteArray} (ho : ops[i]? = some o) (hg : Region.wanted o (yielded ops a.tmps) = true) (hop : o.op = .binOp .add 9 x y 9) (hx : a.eval x = .string s) (hy : a.eval y = .string t) (hsz : s.size + t.size ≤ 9223372036854775807) (hK : K (a.put o.dst (.string (s ++ t))) w) : wpOp Try.prog ops Q i K a w :=
  wpOp_val ho hg (by simp only [execOp, hop, hx, hy]; simp [go_sem, Nat.not_lt.2 hsz]) hK
theorem wpOp_eqStr {x y : Operand} {s t : ByteArray} (ho : ops[i]? = some o) (hg : Region.wanted o (yielded ops a.tmps) = true) (hop : o.op = .binOp .eql 9 x y 9) (hx : a.eval x = .string s) (hy : a.eval y = .string t) (hK : K (a.put o.dst (.bool (s.toList == t.toList))) w) : wpOp Try.prog ops Q i K a w :=
  wpOp_val ho hg (by simp only [execOp, hop, hx, hy]; simp [go_sem]) hK
end
theorem Keeps.below_size {n : Nat} {w w' : World} (h : Keeps n w w') (hn : n ≤ w.heap.size := by omega) : n ≤ w'.heap.size := Nat.le_trans hn h.below.size
def KSp (g C : Nat) : Nat → Value → World → Prop
  | 0, u, _ => u = .int .i64 0
  | 3, u, _ => u = .int .i64 0
  | 7, u, _ => u = .int .i64 0
  | 11, u, _ => u = .int .i64 0
  | 15, u, _ => u = .int .i64 0
  | 34, u, _ => u = .int .i64 0
  | 38, u, _ => u = .int .i64 121
  | 43, u, _ => u = .int .i64 0
  | 19, u, _ => u = .slice (some ⟨g, 0, none⟩) 256 256
  | 20, u, _ => u = .string (bs kpage)
  | 21, u, w => KB pgA 256 256 u w
  | 22, u, w => KB pgA 64 256 u w
  | 23, u, _ => u = .string (bs (List.replicate 64 97))
  | 24, u, w => KB pgB 256 256 u w
  | 25, u, w => KB pgB 64 256 u w
  | 26, u, _ => u = .string (bs (List.replicate 64 98))
  | 27, u, _ => u = .string (bs (List.replicate 64 97) ++ bs (List.replicate 64 98))
  | 28, u, w => KB (List.replicate 128 0) 128 128 u w
  | 29, u, _ => u = .string (bs (List.replicate 128 0))
  | 30, u, _ => u = .string ((bs (List.replicate 64 97) ++ bs (List.replicate 64 98)) ++ bs (List.replicate 128 0))
  | 42, u, _ => u = ptr C
  | _, u, _ => u = .bool true
theorem KSp.keeps {g C n : Nat} {j : Nat} {u : Value} {w w' : World} (h : KSp g C j u w) (hk : Keeps n w w') : KSp g C j u w' := by
  by_cases h1 : j = 21
  · subst h1; exact KB.keeps h hk
  by_cases h2 : j = 22
  · subst h2; exact KB.keeps h hk
  by_cases h3 : j = 24
  · subst h3; exact KB.keeps h hk
  by_cases h4 : j = 25
  · subst h4; exact KB.keeps h hk
  by_cases h5 : j = 28
  · subst h5; exact KB.keeps h hk
  unfold KSp at h ⊢
  split at h <;> first | exact absurd rfl h1 | exact absurd rfl h2 | exact absurd rfl h3 | exact absurd rfl h4 | exact absurd rfl h5 | exact h
def KI (n C : Nat) (X : World) (listed : Array Bool) (w : World) : Prop := Keeps n X w ∧ (listed.getD 43 false = false → IsDisk n w C kc2)
theorem KI.still {n C : Nat} {X w : World} {listed : Array Bool} (h : KI n C X listed w) {i : Nat} (hi : i ≠ 43) : KI n C X (listed.setIfInBounds i true) w := ⟨h.1, fun e => h.2 (by rwa [listed_other (Ne.symm hi)] at e)⟩
theorem picks120 (w : World) : PickV (w.alloc (.cells #[.int .i64 1, .int .i64 2, .int .i64 0] 3)) (w.alloc (.cells #[.int .i64 1, .int .i64 2, .int .i64 0] 3)).heap.size (.slice (some ⟨w.heap.size, 0, none⟩) 3 3) [1, 2, 0] :=
  ⟨_, 3, rfl, Nat.le_refl _, fun _ => ⟨w.heap.size, 0, rfl, by simp, fun i x hx => by
    rw [Nat.zero_add, cell_of_row _ _ i _ _ _ (heap_alloc_last w _)]
    match i with
    | 0 => simp at hx; subst hx; rfl
    | 1 => simp at hx; subst hx; rfl
    | 2 => simp at hx; subst hx; rfl
    | i + 3 => simp at hx⟩⟩
set_option maxRecDepth 100000 in
set_option maxHeartbeats 4000000 in
theorem known_any (w : World) : Calls Try.prog 6 #[] w fun e w' => e = .returned (.bool true) ∧ Below w.heap.size w w' := by
  have hnew : Calls Try.prog 7 #[.int .i64 2] w (NewPost w 2) := new_yes 2 (by omega) (by omega) w
  have halla : ∀ w, Calls Try.prog 20 #[.int .u8 97] w fun e w' => e = .returned (.slice (some ⟨w.heap.size, 0, none⟩) 256 256) ∧ RowAt w' w.heap.size pgA ∧ Below w.heap.size w w' := fun w => all_any 97 w
  have hallb : ∀ w, Calls Try.prog 20 #[.int .u8 98] w fun e w' => e = .returned (.slice (some ⟨w.heap.size, 0, none⟩) 256 256) ∧ RowAt w' w.heap.size pgB ∧ Below w.heap.size w w' := fun w => all_any 98 w
  have lA : pgA.length = 256 := List.length_replicate
  have lB : pgB.length = 256 := List.length_replicate
  have f0 : (Dsk.new 2).Few 2147483648 := (Dsk.Few.new 2).mono (by omega)
  have f1 : kd1.Few 2147483648 := ((Dsk.Few.new 2).write (Dsk.Ok.new (by omega) (by omega)) 0 pgA).mono (by omega)
  have f3 : kc1.Few 2147483648 := ((Dsk.Few.crash kd2 [1, 2, 0]).arm 2 0).mono (by omega)
  have HA := Lib.hid halla
  have HB := Lib.hid hallb
  clear halla hallb
  go_enter Try.func6, Try.ntmps6
  have tA : True := trivial
  have tB : True := trivial
  have tW : True := trivial
  have tV : True := trivial
  have tC : True := trivial
  have tR : True := trivial
  have tM : True := trivial
  have tF : True := trivial
  go_wp2_with (first
    | (go_at_call 7; refine hnew.mono ?_; rintro e w1 ⟨B, rfl, hD1, hB1⟩)
    | (have _t := tA; go_at_call 20; refine (HA.out _).mono ?_; rintro e wa ⟨rfl, hRa, hBa⟩; clear tA)
    | (have _t := tW; go_at_call 19; refine (write_disk (hD1.below hBa) f0 0 _ 256 256 pgA (hRa.handed lA)).mono ?_; rintro e w2 ⟨he, hD2, hK2⟩; rw [k1] at he; subst he; replace hD2 : IsDisk w.heap.size w2 B kd1 := hD2; clear tW)
    | (have _t := tB; go_at_call 20; refine (HB.out _).mono ?_; rintro e wb ⟨rfl, hRb, hBb⟩; clear tB)
    | (have _t := tV; go_at_call 19; refine (write_disk (hD2.below hBb) f1 0 _ 256 256 pgB (hRb.handed lB)).mono ?_; rintro e w3 ⟨he, hD3, hK3⟩; rw [k2] at he; subst he; replace hD3 : IsDisk w.heap.size w3 B kd2 := hD3; clear tV)
    | (have _t := tC; go_at_call 11; refine (crash_disk (hD3.below ((Below.refl _ w3).alloc (Nat.le_refl _) _)) [1, 2, 0] (picks120 w3) (by decide)).mono ?_; rintro e w5 ⟨C, rfl, hC, hB5⟩; replace hC : IsDisk w.heap.size w5 C kc0 := hC.mono (by have := hD3.n_le; simp; omega); clear tC)
    | (have _t := tR; go_at_call 9; refine (read_yes hC 0 (by decide)).mono ?_; rintro e w6 ⟨g, rfl, hP, hg, hB6⟩; rw [k6] at hP; clear tR)
    | (have _t := tM; go_at_call 21; refine (arm_disk (hC.below hB6) 2 0 (by decide) (by omega)).mono ?_; rintro e w7 ⟨he, hC7, hK7⟩; rw [k3] at he; subst he; replace hC7 : IsDisk w.heap.size w7 C kc1 := hC7; clear tM)
    | (have _t := tF; go_at_call 18; refine (flush_disk hC7 f3).mono ?_; rintro e w8 ⟨he, hC8, hK8⟩; rw [k4] at he; subst he; replace hC8 : IsDisk w.heap.size w8 C kc2 := hC8; clear tF))
  have hn8 : w.heap.size ≤ w8.heap.size := hC8.n_le
  have halla := HA.out
  have hallb := HB.out
  have f4 : kc2.Few 2147483648 := (((Dsk.Few.crash kd2 [1, 2, 0]).arm 2 0).flush (((((Dsk.Ok.new (by omega) (by omega)).write 0 pgA).write 0 pgB).crash [1, 2, 0]).arm 2 0 (by omega))).mono (by omega)
  have hP8 : w8.heap[g]? = some (.cells (byteVals kpage).toArray 66 (0, 0)) := hK8.cells _ _ _ _ (hK7.cells _ _ _ _ hP (by decide) (by decide)) (by decide) (by decide)
  have hPat : ∀ w', Keeps w.heap.size w8 w' → w'.rangeAt g 0 (byteVals kpage) := fun w' hk => PageAt.range (hk.cells _ _ _ _ hP8 (by decide) (by decide))
  have hall0 : Below w.heap.size w w8 := by
    have b1 := hB1.trans (hBa.mono (by have := hB1.size; omega))
    have b2 := (b1.trans hK2.below).trans (hBb.mono (by have := hD2.n_le; omega))
    have b3 := (b2.trans hK3.below).alloc (by have := hD3.n_le; omega) (.cells #[.int .i64 1, .int .i64 2, .int .i64 0] 3)
    have b4 := b3.trans (hB5.mono (by have := hD3.n_le; simp; omega))
    exact ((b4.trans (hB6.mono hC.n_le)).trans hK7.below).trans hK8.below
  refine wp_region_l (KI w.heap.size C w8) (KSp g C) (by kernel_rfl) (by kernel_rfl) (by kernel_rfl) (by kernel_rfl) ⟨⟨(Below.refl _ _).drew, fun _ _ _ _ h _ _ => h⟩, fun _ => hC8.below (Below.refl _ _).drew⟩ ?step ?fin
  case step =>
    intro i o ho listed a w' hI hn hpre
    have hi' : i < 47 := (Array.getElem?_eq_some_iff.1 ho).1
    match i, hi' with
    | 0, _ =>
      cases ho
      exact wpOp_move rfl rfl (.inl rfl) (hI.kept (t := 2) (by kernel_rfl)) ⟨_, rfl, hI.inv.still (by omega), fun _ => rfl, fun _ _ _ h => h⟩
    | 1, _ =>
      cases ho
      exact wpOp_eqInt rfl rfl rfl (hI.slot 0 36 rfl (hpre ⟨0, .data⟩ (by simp) rfl) rfl) rfl ⟨_, rfl, hI.inv.still (by omega), fun _ => rfl, fun _ _ _ h => h⟩
    | 2, _ =>
      cases ho
      exact wpOp_move rfl rfl (.inl rfl) (hI.slot 1 37 rfl (hpre ⟨1, .data⟩ (by simp) rfl) rfl) ⟨_, rfl, hI.inv.still (by omega), fun _ => rfl, fun _ _ _ h => h⟩
    | 3, _ =>
      cases ho
      exact wpOp_move rfl (wanted_of rfl (i := 2) rfl rfl (by rw [hI.len]; show _ < 82; decide) (hI.slot 2 38 rfl (hpre ⟨2, .guard⟩ (by simp) rfl) rfl)) (.inl rfl) (hI.kept (t := 3) (by kernel_rfl)) ⟨_, rfl, hI.inv.still (by omega), fun _ => rfl, fun _ _ _ h => h⟩
    | 4, _ =>
      cases ho
      exact wpOp_eqInt rfl (wanted_of rfl (i := 2) rfl rfl (by rw [hI.len]; show _ < 82; decide) (hI.slot 2 38 rfl (hpre ⟨2, .guard⟩ (by simp) rfl) rfl)) rfl (hI.slot 3 39 rfl (hpre ⟨3, .data⟩ (by simp) rfl) rfl) rfl ⟨_, rfl, hI.inv.still (by omega), fun _ => rfl, fun _ _ _ h => h⟩
    | 5, _ =>
      cases ho
      exact wpOp_pick rfl rfl rfl (hI.slot 2 38 rfl (hpre ⟨2, .data⟩ (by simp) rfl) rfl) (hI.slot 4 40 rfl (hpre ⟨4, .data⟩ (by simp) rfl) rfl) ⟨_, rfl, hI.inv.still (by omega), fun _ => rfl, fun _ _ _ h => h⟩
    | 6, _ =>
      cases ho
      exact wpOp_move rfl rfl (.inl rfl) (hI.slot 5 41 rfl (hpre ⟨5, .data⟩ (by simp) rfl) rfl) ⟨_, rfl, hI.inv.still (by omega), fun _ => rfl, fun _ _ _ h => h⟩
    | 7, _ =>
      cases ho
      exact wpOp_move rfl (wanted_of rfl (i := 6) rfl rfl (by rw [hI.len]; show _ < 82; decide) (hI.slot 6 42 rfl (hpre ⟨6, .guard⟩ (by simp) rfl) rfl)) (.inl rfl) (hI.kept (t := 4) (by kernel_rfl)) ⟨_, rfl, hI.inv.still (by omega), fun _ => rfl, fun _ _ _ h => h⟩
    | 8, _ =>
      cases ho
      exact wpOp_eqInt rfl (wanted_of rfl (i := 6) rfl rfl (by rw [hI.len]; show _ < 82; decide) (hI.slot 6 42 rfl (hpre ⟨6, .guard⟩ (by simp) rfl) rfl)) rfl (hI.slot 7 43 rfl (hpre ⟨7, .data⟩ (by simp) rfl) rfl) rfl ⟨_, rfl, hI.inv.still (by omega), fun _ => rfl, fun _ _ _ h => h⟩
    | 9, _ =>
      cases ho
      exact wpOp_pick rfl rfl rfl (hI.slot 6 42 rfl (hpre ⟨6, .data⟩ (by simp) rfl) rfl) (hI.slot 8 44 rfl (hpre ⟨8, .data⟩ (by simp) rfl) rfl) ⟨_, rfl, hI.inv.still (by omega), fun _ => rfl, fun _ _ _ h => h⟩
    | 10, _ =>
      cases ho
      exact wpOp_move rfl rfl (.inl rfl) (hI.slot 9 45 rfl (hpre ⟨9, .data⟩ (by simp) rfl) rfl) ⟨_, rfl, hI.inv.still (by omega), fun _ => rfl, fun _ _ _ h => h⟩
    | 11, _ =>
      cases ho
      exact wpOp_move rfl (wanted_of rfl (i := 10) rfl rfl (by rw [hI.len]; show _ < 82; decide) (hI.slot 10 46 rfl (hpre ⟨10, .guard⟩ (by simp) rfl) rfl)) (.inl rfl) (hI.kept (t := 6) (by kernel_rfl)) ⟨_, rfl, hI.inv.still (by omega), fun _ => rfl, fun _ _ _ h => h⟩
    | 12, _ =>
      cases ho
      exact wpOp_eqInt rfl (wanted_of rfl (i := 10) rfl rfl (by rw [hI.len]; show _ < 82; decide) (hI.slot 10 46 rfl (hpre ⟨10, .guard⟩ (by simp) rfl) rfl)) rfl (hI.slot 11 47 rfl (hpre ⟨11, .data⟩ (by simp) rfl) rfl) rfl ⟨_, rfl, hI.inv.still (by omega), fun _ => rfl, fun _ _ _ h => h⟩
    | 13, _ =>
      cases ho
      exact wpOp_pick rfl rfl rfl (hI.slot 10 46 rfl (hpre ⟨10, .data⟩ (by simp) rfl) rfl) (hI.slot 12 48 rfl (hpre ⟨12, .data⟩ (by simp) rfl) rfl) ⟨_, rfl, hI.inv.still (by omega), fun _ => rfl, fun _ _ _ h => h⟩
    | 14, _ =>
      cases ho
      exact wpOp_move rfl rfl (.inl rfl) (hI.slot 13 49 rfl (hpre ⟨13, .data⟩ (by simp) rfl) rfl) ⟨_, rfl, hI.inv.still (by omega), fun _ => rfl, fun _ _ _ h => h⟩
    | 15, _ =>
      cases ho
      exact wpOp_move rfl (wanted_of rfl (i := 14) rfl rfl (by rw [hI.len]; show _ < 82; decide) (hI.slot 14 50 rfl (hpre ⟨14, .guard⟩ (by simp) rfl) rfl)) (.inl rfl) (hI.kept (t := 8) (by kernel_rfl)) ⟨_, rfl, hI.inv.still (by omega), fun _ => rfl, fun _ _ _ h => h⟩
    | 16, _ =>
      cases ho
      exact wpOp_eqInt rfl (wanted_of rfl (i := 14) rfl rfl (by rw [hI.len]; show _ < 82; decide) (hI.slot 14 50 rfl (hpre ⟨14, .guard⟩ (by simp) rfl) rfl)) rfl (hI.slot 15 51 rfl (hpre ⟨15, .data⟩ (by simp) rfl) rfl) rfl ⟨_, rfl, hI.inv.still (by omega), fun _ => rfl, fun _ _ _ h => h⟩
    | 17, _ =>
      cases ho
      exact wpOp_pick rfl rfl rfl (hI.slot 14 50 rfl (hpre ⟨14, .data⟩ (by simp) rfl) rfl) (hI.slot 16 52 rfl (hpre ⟨16, .data⟩ (by simp) rfl) rfl) ⟨_, rfl, hI.inv.still (by omega), fun _ => rfl, fun _ _ _ h => h⟩
    | 18, _ =>
      cases ho
      exact wpOp_move rfl rfl (.inl rfl) (hI.slot 17 53 rfl (hpre ⟨17, .data⟩ (by simp) rfl) rfl) ⟨_, rfl, hI.inv.still (by omega), fun _ => rfl, fun _ _ _ h => h⟩
    | 19, _ =>
      cases ho
      exact wpOp_move rfl (wanted_of rfl (i := 18) rfl rfl (by rw [hI.len]; show _ < 82; decide) (hI.slot 18 54 rfl (hpre ⟨18, .guard⟩ (by simp) rfl) rfl)) (.inl rfl) (hI.kept (t := 7) (by kernel_rfl)) ⟨_, rfl, hI.inv.still (by omega), fun _ => rfl, fun _ _ _ h => h⟩
    | 20, _ =>
      cases ho
      exact wpOp_convert rfl (wanted_of rfl (i := 18) rfl rfl (by rw [hI.len]; show _ < 82; decide) (hI.slot 18 54 rfl (hpre ⟨18, .guard⟩ (by simp) rfl) rfl)) rfl (hI.slot 19 55 rfl (hpre ⟨19, .data⟩ (by simp) rfl) rfl) (conv_bytes w' g 0 kpage 256 (hPat w' hI.inv.1)) ⟨_, rfl, hI.inv.still (by omega), fun _ => rfl, fun _ _ _ h => h⟩
    | 21, _ =>
      cases ho
      refine wpOp_callFn rfl (wanted_of rfl (i := 18) rfl rfl (by rw [hI.len]; show _ < 82; decide) (hI.slot 18 54 rfl (hpre ⟨18, .guard⟩ (by simp) rfl) rfl)) rfl (vs := #[.int .u8 97]) (by rw [Array.map_singleton]; rfl) (enters_of Try.func20 (by kernel_rfl) rfl) ((halla w').mono ?_)
      rintro e w2 ⟨rfl, hr, hb⟩
      exact ⟨_, rfl, _, rfl, ⟨hI.inv.1.trans (Keeps.of_below hb hI.inv.1.below_size), fun e => (hI.inv.2 (by rwa [listed_other (by decide)] at e)).below hb⟩, fun _ => ⟨_, rfl, hr⟩, fun j u _ h => h.keeps (Keeps.of_below hb hI.inv.1.below_size)⟩
    | 22, _ =>
      cases ho
      obtain ⟨g', e1, hr⟩ : KB pgA 256 256 (a.eval (.tmp 57)) w' := (hI.slot 21 57 rfl (hpre ⟨21, .data⟩ (by simp) rfl) rfl)
      exact wpOp_slice rfl (wanted_of rfl (i := 18) rfl rfl (by rw [hI.len]; show _ < 82; decide) (hI.slot 18 54 rfl (hpre ⟨18, .guard⟩ (by simp) rfl) rfl)) rfl e1 rfl rfl rfl (slice40 w' g') ⟨_, rfl, hI.inv.still (by omega), fun _ => ⟨g', rfl, hr⟩, fun _ _ _ h => h⟩
    | 23, _ =>
      cases ho
      obtain ⟨g', e1, hr⟩ : KB pgA 64 256 (a.eval (.tmp 58)) w' := (hI.slot 22 58 rfl (hpre ⟨22, .data⟩ (by simp) rfl) rfl)
      exact wpOp_convert rfl (wanted_of rfl (i := 18) rfl rfl (by rw [hI.len]; show _ < 82; decide) (hI.slot 18 54 rfl (hpre ⟨18, .guard⟩ (by simp) rfl) rfl)) rfl e1 (conv_bytes w' g' 0 (List.replicate 64 97) 256 (hr.part (by kernel_rfl))) ⟨_, rfl, hI.inv.still (by omega), fun _ => rfl, fun _ _ _ h => h⟩
    | 24, _ =>
      cases ho
      refine wpOp_callFn rfl (wanted_of rfl (i := 18) rfl rfl (by rw [hI.len]; show _ < 82; decide) (hI.slot 18 54 rfl (hpre ⟨18, .guard⟩ (by simp) rfl) rfl)) rfl (vs := #[.int .u8 98]) (by rw [Array.map_singleton]; rfl) (enters_of Try.func20 (by kernel_rfl) rfl) ((hallb w').mono ?_)
      rintro e w2 ⟨rfl, hr, hb⟩
      exact ⟨_, rfl, _, rfl, ⟨hI.inv.1.trans (Keeps.of_below hb hI.inv.1.below_size), fun e => (hI.inv.2 (by rwa [listed_other (by decide)] at e)).below hb⟩, fun _ => ⟨_, rfl, hr⟩, fun j u _ h => h.keeps (Keeps.of_below hb hI.inv.1.below_size)⟩
    | 25, _ =>
      cases ho
      obtain ⟨g', e1, hr⟩ : KB pgB 256 256 (a.eval (.tmp 60)) w' := (hI.slot 24 60 rfl (hpre ⟨24, .data⟩ (by simp) rfl) rfl)
      exact wpOp_slice rfl (wanted_of rfl (i := 18) rfl rfl (by rw [hI.len]; show _ < 82; decide) (hI.slot 18 54 rfl (hpre ⟨18, .guard⟩ (by simp) rfl) rfl)) rfl e1 rfl rfl rfl (slice40 w' g') ⟨_, rfl, hI.inv.still (by omega), fun _ => ⟨g', rfl, hr⟩, fun _ _ _ h => h⟩
    | 26, _ =>
      cases ho
      obtain ⟨g', e1, hr⟩ : KB pgB 64 256 (a.eval (.tmp 61)) w' := (hI.slot 25 61 rfl (hpre ⟨25, .data⟩ (by simp) rfl) rfl)
      exact wpOp_convert rfl (wanted_of rfl (i := 18) rfl rfl (by rw [hI.len]; show _ < 82; decide) (hI.slot 18 54 rfl (hpre ⟨18, .guard⟩ (by simp) rfl) rfl)) rfl e1 (conv_bytes w' g' 0 (List.replicate 64 98) 256 (hr.part (by kernel_rfl))) ⟨_, rfl, hI.inv.still (by omega), fun _ => rfl, fun _ _ _ h => h⟩
    | 27, _ =>
      cases ho
      exact wpOp_addStr rfl (wanted_of rfl (i := 18) rfl rfl (by rw [hI.len]; show _ < 82; decide) (hI.slot 18 54 rfl (hpre ⟨18, .guard⟩ (by simp) rfl) rfl)) rfl (hI.slot 23 59 rfl (hpre ⟨23, .data⟩ (by simp) rfl) rfl) (hI.slot 26 62 rfl (hpre ⟨26, .data⟩ (by simp) rfl) rfl) (Nat.le_of_ble_eq_true (by kernel_rfl)) ⟨_, rfl, hI.inv.still (by omega), fun _ => rfl, fun _ _ _ h => h⟩
    | 28, _ =>
      cases ho
      have hb : Below w'.heap.size w' (w'.alloc (.cells (byteVals (List.replicate 128 0)).toArray 5)) := (Below.refl _ w').alloc (Nat.le_refl _) _
      exact wpOp_make rfl (wanted_of rfl (i := 18) rfl rfl (by rw [hI.len]; show _ < 82; decide) (hI.slot 18 54 rfl (hpre ⟨18, .guard⟩ (by simp) rfl) rfl)) rfl rfl rfl (make40 w' 128 (by omega)) ⟨_, rfl, ⟨hI.inv.1.trans (Keeps.of_below hb hI.inv.1.below_size), fun e => (hI.inv.2 (by rwa [listed_other (by decide)] at e)).below hb⟩, fun _ => ⟨_, rfl, heap_alloc_last w' _⟩, fun j u _ h => h.keeps (Keeps.of_below hb hI.inv.1.below_size)⟩
    | 29, _ =>
      cases ho
      obtain ⟨g', e1, hr⟩ : KB (List.replicate 128 0) 128 128 (a.eval (.tmp 64)) w' := (hI.slot 28 64 rfl (hpre ⟨28, .data⟩ (by simp) rfl) rfl)
      exact wpOp_convert rfl (wanted_of rfl (i := 18) rfl rfl (by rw [hI.len]; show _ < 82; decide) (hI.slot 18 54 rfl (hpre ⟨18, .guard⟩ (by simp) rfl) rfl)) rfl e1 (conv_bytes w' g' 0 (List.replicate 128 0) 128 (hr.part (by kernel_rfl))) ⟨_, rfl, hI.inv.still (by omega), fun _ => rfl, fun _ _ _ h => h⟩
    | 30, _ =>
      cases ho
      exact wpOp_addStr rfl (wanted_of rfl (i := 18) rfl rfl (by rw [hI.len]; show _ < 82; decide) (hI.slot 18 54 rfl (hpre ⟨18, .guard⟩ (by simp) rfl) rfl)) rfl (hI.slot 27 63 rfl (hpre ⟨27, .data⟩ (by simp) rfl) rfl) (hI.slot 29 65 rfl (hpre ⟨29, .data⟩ (by simp) rfl) rfl) (Nat.le_of_ble_eq_true (by kernel_rfl)) ⟨_, rfl, hI.inv.still (by omega), fun _ => rfl, fun _ _ _ h => h⟩
    | 31, _ =>
      cases ho
      exact wpOp_eqStr rfl (wanted_of rfl (i := 18) rfl rfl (by rw [hI.len]; show _ < 82; decide) (hI.slot 18 54 rfl (hpre ⟨18, .guard⟩ (by simp) rfl) rfl)) rfl (hI.slot 20 56 rfl (hpre ⟨20, .data⟩ (by simp) rfl) rfl) (hI.slot 30 66 rfl (hpre ⟨30, .data⟩ (by simp) rfl) rfl) ⟨_, rfl, hI.inv.still (by omega), fun _ => congrArg Value.bool (by rw [kstr]; exact beq_self_eq_true _), fun _ _ _ h => h⟩
    | 32, _ =>
      cases ho
      exact wpOp_pick rfl rfl rfl (hI.slot 18 54 rfl (hpre ⟨18, .data⟩ (by simp) rfl) rfl) (hI.slot 31 67 rfl (hpre ⟨31, .data⟩ (by simp) rfl) rfl) ⟨_, rfl, hI.inv.still (by omega), fun _ => rfl, fun _ _ _ h => h⟩
    | 33, _ =>
      cases ho
      exact wpOp_move rfl rfl (.inl rfl) (hI.slot 32 68 rfl (hpre ⟨32, .data⟩ (by simp) rfl) rfl) ⟨_, rfl, hI.inv.still (by omega), fun _ => rfl, fun _ _ _ h => h⟩
    | 34, _ =>
      cases ho
      exact wpOp_move rfl (wanted_of rfl (i := 33) rfl rfl (by rw [hI.len]; show _ < 82; decide) (hI.slot 33 69 rfl (hpre ⟨33, .guard⟩ (by simp) rfl) rfl)) (.inl rfl) (hI.kept (t := 9) (by kernel_rfl)) ⟨_, rfl, hI.inv.still (by omega), fun _ => rfl, fun _ _ _ h => h⟩
    | 35, _ =>
      cases ho
      exact wpOp_eqInt rfl (wanted_of rfl (i := 33) rfl rfl (by rw [hI.len]; show _ < 82; decide) (hI.slot 33 69 rfl (hpre ⟨33, .guard⟩ (by simp) rfl) rfl)) rfl (hI.slot 34 70 rfl (hpre ⟨34, .data⟩ (by simp) rfl) rfl) rfl ⟨_, rfl, hI.inv.still (by omega), fun _ => rfl, fun _ _ _ h => h⟩
    | 36, _ =>
      cases ho
      exact wpOp_pick rfl rfl rfl (hI.slot 33 69 rfl (hpre ⟨33, .data⟩ (by simp) rfl) rfl) (hI.slot 35 71 rfl (hpre ⟨35, .data⟩ (by simp) rfl) rfl) ⟨_, rfl, hI.inv.still (by omega), fun _ => rfl, fun _ _ _ h => h⟩
    | 37, _ =>
      cases ho
      exact wpOp_move rfl rfl (.inl rfl) (hI.slot 36 72 rfl (hpre ⟨36, .data⟩ (by simp) rfl) rfl) ⟨_, rfl, hI.inv.still (by omega), fun _ => rfl, fun _ _ _ h => h⟩
    | 38, _ =>
      cases ho
      exact wpOp_move rfl (wanted_of rfl (i := 37) rfl rfl (by rw [hI.len]; show _ < 82; decide) (hI.slot 37 73 rfl (hpre ⟨37, .guard⟩ (by simp) rfl) rfl)) (.inl rfl) (hI.kept (t := 10) (by kernel_rfl)) ⟨_, rfl, hI.inv.still (by omega), fun _ => rfl, fun _ _ _ h => h⟩
    | 39, _ =>
      cases ho
      exact wpOp_eqInt rfl (wanted_of rfl (i := 37) rfl rfl (by rw [hI.len]; show _ < 82; decide) (hI.slot 37 73 rfl (hpre ⟨37, .guard⟩ (by simp) rfl) rfl)) rfl (hI.slot 38 74 rfl (hpre ⟨38, .data⟩ (by simp) rfl) rfl) rfl ⟨_, rfl, hI.inv.still (by omega), fun _ => rfl, fun _ _ _ h => h⟩
    | 40, _ =>
      cases ho
      exact wpOp_pick rfl rfl rfl (hI.slot 37 73 rfl (hpre ⟨37, .data⟩ (by simp) rfl) rfl) (hI.slot 39 75 rfl (hpre ⟨39, .data⟩ (by simp) rfl) rfl) ⟨_, rfl, hI.inv.still (by omega), fun _ => rfl, fun _ _ _ h => h⟩
    | 41, _ =>
      cases ho
      exact wpOp_move rfl rfl (.inl rfl) (hI.slot 40 76 rfl (hpre ⟨40, .data⟩ (by simp) rfl) rfl) ⟨_, rfl, hI.inv.still (by omega), fun _ => rfl, fun _ _ _ h => h⟩
    | 42, _ =>
      cases ho
      exact wpOp_move rfl (wanted_of rfl (i := 41) rfl rfl (by rw [hI.len]; show _ < 82; decide) (hI.slot 41 77 rfl (hpre ⟨41, .guard⟩ (by simp) rfl) rfl)) (.inl rfl) (hI.kept (t := 5) (by kernel_rfl)) ⟨_, rfl, hI.inv.still (by omega), fun _ => rfl, fun _ _ _ h => h⟩
    | 43, _ =>
      cases ho
      have e42 : a.eval (.tmp 78) = ptr C := (hI.slot 42 78 rfl (hpre ⟨42, .data⟩ (by simp) rfl) rfl)
      refine wpOp_callFn rfl (wanted_of rfl (i := 41) rfl rfl (by rw [hI.len]; show _ < 82; decide) (hI.slot 41 77 rfl (hpre ⟨41, .guard⟩ (by simp) rfl) rfl)) rfl (vs := #[ptr C]) (by rw [Array.map_singleton]; show #[a.eval (.tmp 78)] = _; rw [e42]) (enters_of Try.func18 (by kernel_rfl) rfl) ((flush_disk (hI.inv.2 hn) f4).mono ?_)
      rintro e w2 ⟨rfl, hd, hk⟩
      exact ⟨_, rfl, _, rfl, ⟨hI.inv.1.trans hk, fun e => by rw [listed_same (by rw [hI.size]; decide)] at e; cases e⟩, fun _ => by rw [k5]; rfl, fun j u _ h => h.keeps hk⟩
    | 44, _ =>
      cases ho
      exact wpOp_eqInt rfl (wanted_of rfl (i := 41) rfl rfl (by rw [hI.len]; show _ < 82; decide) (hI.slot 41 77 rfl (hpre ⟨41, .guard⟩ (by simp) rfl) rfl)) rfl (hI.slot 43 79 rfl (hpre ⟨43, .data⟩ (by simp) rfl) rfl) rfl ⟨_, rfl, hI.inv.still (by omega), fun _ => rfl, fun _ _ _ h => h⟩
    | 45, _ =>
      cases ho
      exact wpOp_pick rfl rfl rfl (hI.slot 41 77 rfl (hpre ⟨41, .data⟩ (by simp) rfl) rfl) (hI.slot 44 80 rfl (hpre ⟨44, .data⟩ (by simp) rfl) rfl) ⟨_, rfl, hI.inv.still (by omega), fun _ => rfl, fun _ _ _ h => h⟩
    | 46, _ =>
      cases ho
      exact wpOp_move rfl rfl (.inr rfl) (hI.slot 45 81 rfl (hpre ⟨45, .data⟩ (by simp) rfl) rfl) ⟨_, rfl, hI.inv.still (by omega), fun _ => rfl, fun _ _ _ h => h⟩
  case fin =>
    intro listed a w' hI hall
    have e0 : a.eval (.tmp 0) = .bool true := hI.slot 46 0 rfl (hall 46 (by decide)) rfl
    have hb := hall0.trans hI.inv.1.below
    have hdf := hI.defers
    clear hI hall
    rcases a with ⟨T, DD⟩
    obtain rfl : DD = [] := hdf
    go_wp2
    have e0' : T.getD 0 undef = .bool true := e0
    refine bodyPost_ret (results_tmp rfl _ _ _) rfl ?_
    exact ⟨by rw [e0'], hb⟩
end Go.Proofs.Ytkophpipehdkmaa

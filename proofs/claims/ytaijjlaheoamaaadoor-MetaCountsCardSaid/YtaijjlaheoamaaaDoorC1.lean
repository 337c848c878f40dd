/- Texts of the proof in one file, in build order: PageK, PageSame, PageQ6, MetaP. -/
import Derived.Test.YtaijjlaheoamaaaDoorG5
import Derived.Deep.MidRow
import Derived.Test.YtaijjlaheoamaaaDoorRR
import Derived.Test.YtaijjlaheoamaaaDoorG3
/- Layer 4: the laws' own example: a leaf without a body. -/
namespace Go.Proofs.YtaijjlaheoamaaaDoor
open Go.RowKit

theorem at_place {l m : List UInt8} {i k : Nat} (h : (l.drop i).take k = m) (j : Nat) (hj : j < k) : l[i + j]? = m[j]? := by
  rw [← h, List.getElem?_take, if_pos hj, List.getElem?_drop]
def leaf0 : Pg := ⟨2, 7, 0, []⟩
theorem leaf0_ok : leaf0.ok := ⟨by decide, by decide, by decide, by decide, by decide⟩
end Go.Proofs.YtaijjlaheoamaaaDoor
/- Layer 4: the law on Same and Text. -/
namespace Go.Proofs.YtaijjlaheoamaaaDoor
open Go.RowKit

theorem load_page {w : World} {A : Nat} {cs : List Value} {fr : Nat × Nat} (h : w.heap[A]? = some (.cells cs.toArray 55 fr)) (hl : cs.length = 4) : (Instr.loadAt 55 (.pointer (some ⟨A, 0, none⟩))).run Tryd.prog w = .ok (.agg cs.toArray) w :=
  run_loadAt_mid w A 0 _ cs _ (fun j v hv => by rw [cell_of_row w A (0 + j) _ _ _ h, Nat.zero_add, List.getElem?_toArray]; exact hv) Tryd.underlying55 rfl (by rw [hl]; kernel_rfl)
section
variable {ops : Array Oper} {o : Oper} {i : Nat} {a : Act} {w : World} {K : Act → World → Prop} {Q : Exit → Act → World → Prop}
theorem wpOp_eqB {x y : Operand} {n : Bool} (ho : ops[i]? = some o) (hg : Region.wanted o (yielded ops a.tmps) = true) (hop : o.op = .binOp .eql 4 x y 4) (hx : a.eval x = .bool n) (hy : a.eval y = .bool n) (hK : K (a.put o.dst (.bool true)) w) : wpOp Tryd.prog ops Q i K a w :=
  wpOp_val ho hg (by simp only [execOp, hop, hx, hy]; simp [go_sem]) hK
end
/-- What each operation of the last statement leaves. -/
def SmV (va vb : Value) (s : Bool) : Nat → Value → Prop
  | 0, v => v = va
  | 1, v => v = vb
  | 2, v => v = .bool s
  | 3, v => v = va
  | 4, v => v = vb
  | 5, v => v = .bool s
  | 8, v => v = va
  | 9, v => v = va
  | _, v => v = .bool true
theorem sameB_self (k t x : Int) (l : List UInt8) : sameB k t x l k t x l = true := by simp [sameB]
end Go.Proofs.YtaijjlaheoamaaaDoor
/- (The text PageQ, saying also that the body lies within the slice's room.) Layer 4: the document's Look. -/
namespace Go.Proofs.YtaijjlaheoamaaaDoor
open Go.RowKit

def DLookPost (w : World) (b : List UInt8) (e : Ending) (w' : World) : Prop := Below w.heap.size w w' ∧
  ((lookE b = 0 ∧ ∃ ar cr, e = .returned (.tuple #[.int .i64 (atN b), pgv (atK b) (wrap64 (atT b)) (atX b) ar (atS b) cr, .int .i64 0]) ∧ BytesAt w'.heap.size w' ar (atB b) ∧ atS b ≤ cr) ∨
   (lookE b ≠ 0 ∧ e = .returned (.tuple #[.int .i64 0, pgv 0 0 0 none 0 0, .int .i64 (lookE b)])))
/-- What each operation of the statement that reckons the sum leaves. -/
def DsV (b : List UInt8) (v0 v3 : Value) : Nat → Value → Prop
  | 0, v => v = v0
  | 1, v => v = .int .i64 (wrap64 (numOf (b.take 4)))
  | 2, v => v = v0
  | 3, v => v = v3
  | 4, v => v = .int .u32 (crcSum (b.drop 4))
  | 5, v => v = .int .i64 (crcSum (b.drop 4))
  | _, v => v = .bool (!sumOk b)
/-- What each operation of the statement that reads the page leaves. -/
def DpV (v0 : Value) (bk off N : Nat) (k : Nat) (t x : Int) (sz : Nat) (ab : Option Addr) (cb : Nat) : Nat → Value → Prop
  | 1, v => v = .pointer (some ⟨bk, off + 4, none⟩)
  | 2, v => v = .int .u8 k
  | 3, v => v = .int .i64 k
  | 5, v => v = .int .i64 t
  | 7, v => v = .int .i64 x
  | 9, v => v = .int .i64 sz
  | 10, v => v = .int .i64 (24 + (sz : Int))
  | 11, v => v = .slice ab sz cb
  | 12, v => v = pgv k t x ab sz cb
  | 13, v => v = .pointer (some ⟨N, 0, none⟩)
  | 14, _ => True
  | _, v => v = v0
def DpI (w2 : World) (cs : Array Value) (listed : Array Bool) (w' : World) : Prop := Below w2.heap.size w2 w' ∧
  if listed.getD 13 false = true then w'.heap[w2.heap.size]? = some (.cells (if listed.getD 14 false = true then cs else #[.int .i64 0, .int .i64 0, .int .i64 0, .slice none 0 0]) 55 (0, 0)) else w'.heap.size = w2.heap.size
/-- What each operation of the statement that compares the bytes leaves. -/
def SqV (P : Value) (R N4 : Bool) (n : Nat) (b raw : List UInt8) (S : Value) : Nat → Value → World → Prop
  | 0, v, _ => v = P
  | 1, v, _ => v = .bool R
  | 2, v, _ => v = .bool (!R)
  | 3, v, _ => v = .bool (!R)
  | 4, v, _ => R = true → v = .int .i64 n
  | 5, v, _ => R = true → v = .bool false
  | 6, v, _ => v = .bool (!R)
  | 7, v, _ => v = .bool (!R)
  | 8, v, _ => R = true → v = .int .i64 n
  | 9, v, _ => R = true → v = .bool N4
  | 10, v, _ => v = .bool (!R || N4)
  | 11, v, _ => v = .bool (!R || N4)
  | 12, v, _ => (!R || N4) = false → v = .int .i64 n
  | 13, v, _ => (!R || N4) = false → v = P
  | 14, v, w => (!R || N4) = false → IsBs w.heap.size w v raw
  | 15, v, _ => (!R || N4) = false → v = .string ⟨raw.toArray⟩
  | 16, v, _ => (!R || N4) = false → v = S
  | 17, v, _ => (!R || N4) = false → v = .string ⟨b.toArray⟩
  | 18, v, _ => (!R || N4) = false → v = .bool (raw != b)
  | _, v, _ => v = .bool ((!R || N4) || (raw != b))
theorem SqV.below {P : Value} {R N4 : Bool} {n : Nat} {b raw : List UInt8} {S : Value} {w' w'' : World} (hb : Below w'.heap.size w' w'') (j : Nat) (v : Value) (h : SqV P R N4 n b raw S j v w') : SqV P R N4 n b raw S j v w'' := by
  rcases j with _ | _ | _ | _ | _ | _ | _ | _ | _ | _ | _ | _ | _ | _ | _ | _ | _ | _ | _ | j
  all_goals first | exact h | exact fun hz => (IsBs.below (h hz) hb).mono hb.size
theorem one_of {us : List Value} {n : Nat} (h : us.length = n + 1) : ∃ u t, us = u :: t ∧ t.length = n := by
  cases us with
  | nil => cases h
  | cons u t => exact ⟨u, t, rfl, by simpa using h⟩
theorem split20 {us : List Value} (h : us.length = 20) : ∃ f : Nat → Value, us = [f 0, f 1, f 2, f 3, f 4, f 5, f 6, f 7, f 8, f 9, f 10, f 11, f 12, f 13, f 14, f 15, f 16, f 17, f 18, f 19] := by
  obtain ⟨u0, us, rfl, h0⟩ := one_of (n := 19) h
  obtain ⟨u1, us, rfl, h1⟩ := one_of (n := 18) h0
  obtain ⟨u2, us, rfl, h2⟩ := one_of (n := 17) h1
  obtain ⟨u3, us, rfl, h3⟩ := one_of (n := 16) h2
  obtain ⟨u4, us, rfl, h4⟩ := one_of (n := 15) h3
  obtain ⟨u5, us, rfl, h5⟩ := one_of (n := 14) h4
  obtain ⟨u6, us, rfl, h6⟩ := one_of (n := 13) h5
  obtain ⟨u7, us, rfl, h7⟩ := one_of (n := 12) h6
  obtain ⟨u8, us, rfl, h8⟩ := one_of (n := 11) h7
  obtain ⟨u9, us, rfl, h9⟩ := one_of (n := 10) h8
  obtain ⟨u10, us, rfl, h10⟩ := one_of (n := 9) h9
  obtain ⟨u11, us, rfl, h11⟩ := one_of (n := 8) h10
  obtain ⟨u12, us, rfl, h12⟩ := one_of (n := 7) h11
  obtain ⟨u13, us, rfl, h13⟩ := one_of (n := 6) h12
  obtain ⟨u14, us, rfl, h14⟩ := one_of (n := 5) h13
  obtain ⟨u15, us, rfl, h15⟩ := one_of (n := 4) h14
  obtain ⟨u16, us, rfl, h16⟩ := one_of (n := 3) h15
  obtain ⟨u17, us, rfl, h17⟩ := one_of (n := 2) h16
  obtain ⟨u18, us, rfl, h18⟩ := one_of (n := 1) h17
  obtain ⟨u19, us, rfl, h19⟩ := one_of (n := 0) h18
  obtain rfl := List.eq_nil_of_length_eq_zero h19
  exact ⟨fun j => [u0, u1, u2, u3, u4, u5, u6, u7, u8, u9, u10, u11, u12, u13, u14, u15, u16, u17, u18, u19].getD j undef, rfl⟩
/-- The page that is read may be, if its parts say so. -/
theorem pgOf_ok {b : List UInt8} (hlen : b.length = 256) (h : (!rightB (atK b) (wrap64 (atT b)) (atX b) (atS b) || decide (4095 < ((atN b : Nat) : Int))) = false) : (pgOf b).ok ∧ atN b ≤ 4095 ∧ wrap64 ((atT b : Nat) : Int) = (atT b : Nat) := by
  simp only [Bool.or_eq_false_iff, Bool.not_eq_false', decide_eq_false_iff_not, rightB, kindB, numB, Bool.and_eq_true, decide_eq_true_eq] at h
  obtain ⟨⟨⟨⟨⟨h1, h2⟩, h3⟩, h4⟩, h5⟩, h6⟩ := h
  have ht := num_lt b 6 8 (by omega)
  rw [show numOf ((b.drop 6).take 8) = atT b from rfl] at ht
  have ht2 := wrap_back (t := atT b) (by have : (256 : Nat) ^ 8 = 18446744073709551616 := by decide
                                         omega) h2 h3
  have hb : (atB b).length = atS b := by unfold atB; rw [List.length_take, List.length_drop]; omega
  exact ⟨⟨by show 1 ≤ atK b; omega, by show atK b ≤ 5; omega, ht2, by show atX b ≤ 4095; omega, by show (atB b).length ≤ 232; omega⟩, by omega, wrap_small ht2⟩
theorem fin_look {b : List UInt8} (hlen : b.length = 256) (hsum : sumOk b = true) : lookE b = if ((!rightB (atK b) (wrap64 (atT b)) (atX b) (atS b) || decide (4095 < ((atN b : Nat) : Int))) || ((pgOf b).raw (atN b) != b)) = true then 141 else 0 := by
  have hE : lookE b = if restOk b then 0 else 141 := by unfold lookE; rw [if_neg (by omega), if_pos hsum]
  by_cases hf : ((!rightB (atK b) (wrap64 (atT b)) (atX b) (atS b) || decide (4095 < ((atN b : Nat) : Int))) || ((pgOf b).raw (atN b) != b)) = true
  · rw [if_pos hf]
    by_cases hr : restOk b = true
    · exfalso
      have h0 : lookE b = 0 := by rw [hE, if_pos hr]
      obtain ⟨hok, hn, hraw, -, -, -, -, hl⟩ := look_raw h0
      have h1 := Pg.ok_right hok
      rw [show (pgOf b).k = atK b from rfl, show (pgOf b).t = atT b from rfl, show (pgOf b).x = atX b from rfl, show (pgOf b).b.length = atS b from hl] at h1
      rw [h1, hraw] at hf
      simp at hf
      omega
    · rw [hE, if_neg hr]
  · rw [if_neg hf]
    rw [Bool.not_eq_true, Bool.or_eq_false_iff] at hf
    obtain ⟨h1, h2⟩ := hf
    obtain ⟨hok, hn, -⟩ := pgOf_ok hlen h1
    have h3 : (pgOf b).raw (atN b) = b := by simpa using h2
    rw [← h3]
    have := (raw_look hok hn).1
    rw [h3] at this ⊢
    exact this
/-- The document's bytes of the page that was read. -/
theorem raw_when (b : List UInt8) (hlen : b.length = 256) (a : Option Addr) (c n₁ : Nat) (hc : 256 ≤ c) (hno : a = none → c = 0) (h : (!rightB (atK b) (wrap64 (atT b)) (atX b) (atS b) || decide (4095 < ((atN b : Nat) : Int))) = false) (w : World) (hn₁ : n₁ ≤ w.heap.size) (hm : BytesAt n₁ w a b) :
    Calls Tryd.prog 30 #[.int .i64 (atN b : Nat), pgv (atK b) (wrap64 (atT b)) (atX b) (slFrom a c 24) (atS b) (c - 24)] w fun e w' => LaidPost w ((pgOf b).raw (atN b)) e w' := by
  obtain ⟨hok, hn, ht⟩ := pgOf_ok hlen h
  have h232 := hok.2.2.2.2
  have hb : (atB b).length = atS b := by
    have : atS b ≤ 232 := by
      simp only [Bool.or_eq_false_iff, Bool.not_eq_false', rightB, Bool.and_eq_true, decide_eq_true_eq] at h
      exact h.1.2
    unfold atB; rw [List.length_take, List.length_drop]; omega
  have hbd := rest_at (i := 24) hm (by omega : b.length ≤ c)
  rw [← List.take_append_drop (atS b) (b.drop 24)] at hbd
  have := rraw_any (atN b) hn (pgOf b) hok (slFrom a c 24) (c - 24) w n₁ hn₁ hbd.left (slFrom_none hno) (by show (atB b).length ≤ c - 24; have : (atB b).length ≤ 232 := h232; omega)
  rw [ht, ← hb]
  exact this
set_option maxRecDepth 100000 in
set_option maxHeartbeats 2000000 in
theorem dlook_any (b : List UInt8) (a : Option Addr) (c n₁ : Nat) (hc : b.length ≤ c) (hl : b.length ≤ 9223372036854775807) (w : World) (hm : BytesAt n₁ w a b) (hn₁ : n₁ ≤ w.heap.size) (hno : a = none → c = 0) :
    Calls Tryd.prog 24 #[.slice a b.length c] w fun e w' => DLookPost w b e w' := by
  obtain ⟨W1, hW1⟩ : ∃ W1, w.alloc (.cells #[.int .i64 0, .int .i64 0, .int .i64 0, .slice none 0 0] 55) = W1 := ⟨_, rfl⟩
  have hB1 : Below w.heap.size w W1 := hW1 ▸ (Below.refl _ _).alloc (Nat.le_refl _) _
  have hrow : W1.heap[w.heap.size]? = some (.cells #[.int .i64 0, .int .i64 0, .int .i64 0, .slice none 0 0] 55 (0, 0)) := by
    rw [← hW1]; exact heap_alloc_new w _
  have hs1 := (Array.getElem?_eq_some_iff.1 hrow).1
  -- a row that no one else knows of, and the way back with nothing
  have hback : ∀ (w' : World) (fr : Nat × Nat), w'.heap[w.heap.size]? = some (.cells #[.int .i64 0, .int .i64 0, .int .i64 0, .slice none 0 0] 55 fr) → w'.cell? ⟨w.heap.size, 0, none⟩ = some (.int .i64 0) ∧ w'.cell? ⟨w.heap.size, 1, none⟩ = some (.int .i64 0) ∧ w'.cell? ⟨w.heap.size, 2, none⟩ = some (.int .i64 0) ∧ w'.cell? ⟨w.heap.size, 3, none⟩ = some (.slice none 0 0) := fun w' fr h =>
    ⟨cell_of_row w' _ 0 _ _ _ h, cell_of_row w' _ 1 _ _ _ h, cell_of_row w' _ 2 _ _ _ h, cell_of_row w' _ 3 _ _ _ h⟩
  have HBK := Lib.hid hback
  have HB1 := Lib.hid hB1
  have HROW := Lib.hid hrow
  clear hback
  by_cases hlen : b.length = 256
  case neg =>
    have hd : ((b.length : Int) != 256) = true := by simp; omega
    have he : lookE b = 2 := by unfold lookE; rw [if_pos hlen]
    have HE := Lib.hid he
    have f0 := frozen_of_row W1 w.heap.size 0 _ _ hrow
    have f1 := frozen_of_row W1 w.heap.size 1 _ _ hrow
    have f2 := frozen_of_row W1 w.heap.size 2 _ _ hrow
    have f3 := frozen_of_row W1 w.heap.size 3 _ _ hrow
    obtain ⟨d0, d1, d2, d3⟩ := HBK.out W1 _ hrow
    clear hm he hlen hrow hB1
    go_enter Tryd.func24, Tryd.ntmps24
    go_wp2
    refine bodyPost_ret (results_tct rfl _ _ _ _ _ _ rfl (set4_heap _ _ _ _ HROW.out) Tryd.underlying55 (by kernel_rfl)) rfl ?_
    refine ⟨HB1.out.grown (set4_grown W1 w.heap.size _ _ _ _) HB1.out.size (fun q e => by cases e; exact Nat.le_refl _), .inr ⟨by rw [HE.out]; decide, by rw [HE.out]; rfl⟩⟩
  have hd : ((b.length : Int) != 256) = false := by simp; omega
  have hc256 : 256 ≤ c := hlen ▸ hc
  have hm1 := hm.below (hB1.mono hn₁)
  obtain ⟨a4, c4, ha4⟩ : ∃ a4 c4, (Value.slice (slFrom a c 4) (256 - 4) (c - 4)) = .slice a4 252 c4 := ⟨_, _, rfl⟩
  have hsl := fun w' => sliceFrom w' a 256 c 4 (by decide)
  have hrest : ∀ w', Below n₁ w w' → BytesAt n₁ w' a4 (b.drop 4) := fun w' h => by
    injection ha4 with e1 e2 e3
    subst e1
    exact rest_at (hm.below h) (by omega)
  simp only [ha4] at hsl
  clear ha4
  rw [hlen] at hd ⊢
  have HM := Lib.hid (And.intro hm (And.intro hno (And.intro hlen hc256)))
  clear hm hno hrow hm1
  go_enter Tryd.func24, Tryd.ntmps24
  go_wp2_with fail
  refine wp_region_m (fun _ w' => Below w.heap.size W1 w' ∧ Below W1.heap.size W1 w') (fun j v _ => DsV b (.slice a 256 c) (.slice a4 252 c4) j v) (by kernel_rfl) (by kernel_rfl) (by kernel_rfl) (by kernel_rfl) ⟨(Below.refl _ _).drew, (Below.refl _ _).drew⟩ ?step ?fin
  case step =>
    intro i o ho listed a' w' hI hn' hpre
    have hi : i < 7 := (Array.getElem?_eq_some_iff.1 ho).1
    have hB := hI.inv
    have hbw : Below n₁ w w' := (hB1.trans hB.1).mono hn₁
    match i, hi with
    | 0, _ =>
      cases ho
      exact wpOp_move rfl rfl (.inl rfl) (hI.kept (t := 0) (by kernel_rfl)) ⟨_, rfl, hB, fun _ => rfl, fun _ _ _ h => h⟩
    | 1, _ =>
      cases ho
      have e0 : a'.eval (.tmp 12) = .slice a 256 c := hI.slot 0 12 rfl (hpre ⟨0, .data⟩ (by simp) rfl) rfl
      refine wpOp_callFn rfl rfl rfl (vs := #[.slice a 256 c, .int .i64 (0 : Nat), .int .i64 (4 : Nat)]) (by simp only [List.map_toArray, List.map_cons, List.map_nil, e0]; rfl) (fun _ _ => by kernel_rfl) ((dread_any a b c 0 4 n₁ w' (HM.out.1.below hbw) HM.out.2.2.1 HM.out.2.2.2 (by decide) (by decide)).mono ?_)
      rintro e w'' ⟨rfl, rfl⟩
      exact ⟨_, rfl, _, rfl, hB, fun _ => rfl, fun _ _ _ h => h⟩
    | 2, _ =>
      cases ho
      exact wpOp_move rfl rfl (.inl rfl) (hI.kept (t := 0) (by kernel_rfl)) ⟨_, rfl, hB, fun _ => rfl, fun _ _ _ h => h⟩
    | 3, _ =>
      cases ho
      have e2 : a'.eval (.tmp 14) = .slice a 256 c := hI.slot 2 14 rfl (hpre ⟨2, .data⟩ (by simp) rfl) rfl
      exact wpOp_slice rfl rfl rfl e2 rfl rfl rfl (hsl w') ⟨_, rfl, hB, fun _ => rfl, fun _ _ _ h => h⟩
    | 4, _ =>
      cases ho
      have e3 : a'.eval (.tmp 15) = .slice a4 252 c4 := hI.slot 3 15 rfl (hpre ⟨3, .data⟩ (by simp) rfl) rfl
      have hcs := refSum_any n₁ a4 c4 (b.drop 4) (by rw [List.length_drop]; omega) w' (hrest w' hbw)
      rw [List.length_drop, HM.out.2.2.1] at hcs
      refine wpOp_callFn rfl rfl rfl (vs := #[.slice a4 252 c4]) (by simp only [List.map_toArray, List.map_cons, List.map_nil, e3]) (fun _ _ => by kernel_rfl) (hcs.mono ?_)
      rintro e w'' ⟨rfl, rfl⟩
      exact ⟨_, rfl, _, rfl, hB, fun _ => rfl, fun _ _ _ h => h⟩
    | 5, _ =>
      cases ho
      have hs := crcSum_lt (b.drop 4)
      exact wpOp_conv rfl rfl rfl (hI.slot 4 16 rfl (hpre ⟨4, .data⟩ (by simp) rfl) rfl) (v := .int .i64 (crcSum (b.drop 4))) (w' := w') (conv_i64 w' _ hs) ⟨_, rfl, hB, fun _ => rfl, fun _ _ _ h => h⟩
    | 6, _ =>
      cases ho
      have e1 : a'.eval (.tmp 13) = .int .i64 (wrap64 (numOf (b.take 4))) := hI.slot 1 13 rfl (hpre ⟨1, .data⟩ (by simp) rfl) rfl
      have e5 : a'.eval (.tmp 17) = .int .i64 (crcSum (b.drop 4)) := hI.slot 5 17 rfl (hpre ⟨5, .data⟩ (by simp) rfl) rfl
      exact wpOp_neL rfl rfl rfl e1 e5 (sumOk_neL b).symm ⟨_, rfl, hB, fun _ => rfl, fun _ _ _ h => h⟩
  case fin =>
    intro listed a' w2 hI hall
    obtain ⟨hB2, hB2'⟩ := hI.inv
    have e6 : a'.tmps.getD 18 undef = .bool (!sumOk b) := hI.slot 6 18 rfl (hall 6 (by decide)) rfl
    obtain ⟨vs, hvl, hvs, e⟩ := hI.frame 12 7 (Nat.le_of_ble_eq_true (by kernel_rfl)) (by kernel_rfl)
    have v6' := hvs 6 (by decide)
    have hrow2 := go_row HROW.out hB2'
    have HB2 := Lib.hid (And.intro (hB1.trans hB2) (And.intro hB2' hrow2))
    clear hI hall hvs hB2 hB2'
    match vs, hvl with
    | [u0, u1, u2, u3, u4, u5, u6], _ =>
    simp only [List.getElem?_cons_zero, List.getElem?_cons_succ, Option.some.injEq] at v6'
    rw [show 12 + 6 = 18 from rfl, e6] at v6'
    subst v6'
    simp only [List.take_succ_cons, List.take_zero, List.drop_succ_cons, List.drop_zero, List.cons_append, List.nil_append, Nat.reduceAdd] at e
    subst e
    clear e6
    have f0 := frozen_of_row w2 w.heap.size 0 _ _ hrow2
    have f1 := frozen_of_row w2 w.heap.size 1 _ _ hrow2
    have f2 := frozen_of_row w2 w.heap.size 2 _ _ hrow2
    have f3 := frozen_of_row w2 w.heap.size 3 _ _ hrow2
    obtain ⟨d0, d1, d2, d3⟩ := HBK.out w2 _ hrow2
    have hs2 := (Array.getElem?_eq_some_iff.1 hrow2).1
    clear hrow2
    by_cases hsum : sumOk b = true
    case neg =>
      have hsum' : sumOk b = false := by simpa using hsum
      have he : lookE b = 140 := by unfold lookE; rw [if_neg (by rw [hlen]; decide), hsum']; rfl
      rw [hsum']
      have HE := Lib.hid he
      clear hsum hsum' he
      go_wp2
      refine bodyPost_ret (results_tct rfl _ _ _ _ _ _ rfl (set4_heap _ _ _ _ HB2.out.2.2) Tryd.underlying55 (by kernel_rfl)) rfl ?_
      refine ⟨HB2.out.1.grown (set4_grown w2 w.heap.size _ _ _ _) HB2.out.1.size (fun q e => by cases e; exact Nat.le_refl _), .inr ⟨by rw [HE.out]; decide, by rw [HE.out]; rfl⟩⟩
    rw [hsum]
    obtain ⟨bk, off, rfl, hbk, hcc⟩ := HM.out.1 (by rintro rfl; simp at hlen)
    obtain ⟨sz, hsz⟩ : ∃ n, atS b = n := ⟨_, rfl⟩
    obtain ⟨k, hk⟩ : ∃ n, atK b = n := ⟨_, rfl⟩
    have k5 := one_at b 5 (by omega)
    have k4 := one_at b 4 (by omega)
    rw [show numOf ((b.drop 5).take 1) = atS b from rfl, hsz] at k5
    rw [show numOf ((b.drop 4).take 1) = atK b from rfl, hk] at k4
    have hsz256 : sz < 256 := by have := UInt8.toNat_lt (b[5]?.getD 0); omega
    have hk256 : k < 256 := by have := UInt8.toNat_lt (b[4]?.getD 0); omega
    have hblk := fun w' (h : Below w.heap.size w w') => (HM.out.1.below (h.mono hn₁))
    have hcell : ∀ w', Below w.heap.size w w' → w'.cell? ⟨bk, off + 5, none⟩ = some (.int .u8 sz) ∧ w'.cell? ⟨bk, off + 4, none⟩ = some (.int .u8 k) := fun w' h => by
      obtain ⟨b', o', e, -, hcc'⟩ := hblk w' h (by rintro rfl; simp at hlen)
      injection e with e; injection e with e1 e2
      subst e1 e2
      rw [k5, k4]
      exact ⟨hcc' 5 (by omega), hcc' 4 (by omega)⟩
    have q5 := (hcell w2 HB2.out.1).1
    have q5' : w2.cell? ⟨bk, off + 5 * 1, none⟩ = some (.int .u8 sz) := q5
    have HC := Lib.hid hcell
    have hrest0 : restOk b = (bodyOk (b.drop 22) sz && (numB (atN b) && rightB k (wrap64 (atT b)) (atX b) sz)) := by unfold restOk; rw [hsz, hk]
    clear hcell hcc k5 k4
    by_cases hbig : 232 < sz
    · have he : lookE b = 141 := by
        unfold lookE; rw [if_neg (by rw [hlen]; decide), if_pos hsum, hrest0]
        have : rightB k (wrap64 (atT b)) (atX b) sz = false := by unfold rightB; rw [show decide (sz ≤ 232) = false by simp; omega]; simp
        rw [this]; simp
      have HE := Lib.hid he
      have hbig' : (232 : Int) < (sz : Int) := by omega
      have hin : (5 : Int) < 256 := by decide
      clear he hsum hrest0 hblk
      go_wp2
      refine bodyPost_ret (results_tct rfl _ _ _ _ _ _ rfl (set4_heap _ _ _ _ HB2.out.2.2) Tryd.underlying55 (by kernel_rfl)) rfl ?_
      refine ⟨HB2.out.1.grown (set4_grown w2 w.heap.size _ _ _ _) HB2.out.1.size (fun q e => by cases e; exact Nat.le_refl _), .inr ⟨by rw [HE.out]; decide, by rw [HE.out]; rfl⟩⟩
    have hsm : ¬ (232 : Int) < (sz : Int) := by omega
    have HR := Lib.hid (And.intro hsum (And.intro hrest0 (And.intro hsz hk)))
    clear hsum hrest0
    go_wp2_with fail
    obtain ⟨ab, hab⟩ : ∃ x, slFrom (some ⟨bk, off, none⟩) c 24 = x := ⟨_, rfl⟩
    have hX : wrap64 ((atX b : Nat) : Int) = (atX b : Nat) := wrap64_eq (by omega) (by have := num_lt b 18 4 (by omega); rw [show numOf ((b.drop 18).take 4) = atX b from rfl] at this; omega)
    have hb02 := HB2.out.1
    have hs2' : w.heap.size ≤ w2.heap.size := hb02.size
    refine wp_region_m (DpI w2 #[.int .i64 k, .int .i64 (wrap64 (atT b)), .int .i64 (atX b), .slice ab sz (c - 24)]) (fun j v _ => DpV (.slice (some ⟨bk, off, none⟩) 256 c) bk off w2.heap.size k (wrap64 (atT b)) (atX b) sz ab (c - 24) j v) (by kernel_rfl) (by kernel_rfl) (by kernel_rfl) (by kernel_rfl) ⟨(Below.refl _ _).drew, by rw [if_neg (by simp)]; rfl⟩ ?step8 ?fin8
    case step8 =>
     intro i o ho listed a' w' hI hn' hpre
     have hi : i < 15 := (Array.getElem?_eq_some_iff.1 ho).1
     have hB := hI.inv.1
     have hbw : Below w.heap.size w w' := hb02.trans (hB.mono hs2')
     have hsame : ∀ k', k' ≠ 13 → k' ≠ 14 → DpI w2 #[.int .i64 k, .int .i64 (wrap64 (atT b)), .int .i64 (atX b), .slice ab sz (c - 24)] (listed.setIfInBounds k' true) w' := fun k' hk hk' => ⟨hB, by rw [listed_other (Ne.symm hk), listed_other (Ne.symm hk')]; exact hI.inv.2⟩
     match i, hi with
     | 0, _ =>
      cases ho
      exact wpOp_move rfl rfl (.inl rfl) (hI.kept (t := 0) (by kernel_rfl)) ⟨_, rfl, hsame _ (by decide) (by decide), fun _ => rfl, fun _ _ _ h => h⟩
     | 1, _ =>
      cases ho
      have e0 : a'.eval (.tmp 27) = .slice (some ⟨bk, off, none⟩) 256 c := hI.slot 0 27 rfl (hpre ⟨0, .data⟩ (by simp) rfl) rfl
      exact wpOp_index rfl rfl rfl e0 rfl (index_b w' bk off 256 c 4 (by decide)) ⟨_, rfl, hsame _ (by decide) (by decide), fun _ => rfl, fun _ _ _ h => h⟩
     | 2, _ =>
      cases ho
      have e0 : a'.eval (.tmp 28) = .pointer (some ⟨bk, off + 4, none⟩) := hI.slot 1 28 rfl (hpre ⟨1, .data⟩ (by simp) rfl) rfl
      exact wpOp_load rfl rfl rfl e0 (load_cellR (Tryd.isAgg5 w') (v := .int .u8 k) (HC.out w' (hb02.trans (hB.mono hs2'))).2) ⟨_, rfl, hsame _ (by decide) (by decide), fun _ => rfl, fun _ _ _ h => h⟩
     | 3, _ =>
      cases ho
      have e0 : a'.eval (.tmp 29) = .int .u8 k := hI.slot 2 29 rfl (hpre ⟨2, .data⟩ (by simp) rfl) rfl
      exact wpOp_conv rfl rfl rfl e0 (conv_kind w' k hk256) ⟨_, rfl, hsame _ (by decide) (by decide), fun _ => rfl, fun _ _ _ h => h⟩
     | 4, _ =>
      cases ho
      exact wpOp_move rfl rfl (.inl rfl) (hI.kept (t := 0) (by kernel_rfl)) ⟨_, rfl, hsame _ (by decide) (by decide), fun _ => rfl, fun _ _ _ h => h⟩
     | 5, _ =>
      cases ho
      have e0 : a'.eval (.tmp 31) = .slice (some ⟨bk, off, none⟩) 256 c := hI.slot 4 31 rfl (hpre ⟨4, .data⟩ (by simp) rfl) rfl
      have hrd := dread_any (some ⟨bk, off, none⟩) b c 6 8 n₁ w' (HM.out.1.below (hbw.mono hn₁)) HM.out.2.2.1 HM.out.2.2.2 (by decide) (by decide)
      rw [show numOf ((b.drop 6).take 8) = atT b from rfl] at hrd
      refine wpOp_callFn rfl rfl rfl (vs := #[.slice (some ⟨bk, off, none⟩) 256 c, .int .i64 (6 : Nat), .int .i64 (8 : Nat)]) (by simp only [List.map_toArray, List.map_cons, List.map_nil, e0]; rfl) (fun _ _ => by kernel_rfl) (hrd.mono ?_)
      rintro e w'' ⟨rfl, rfl⟩
      exact ⟨_, rfl, _, rfl, hsame _ (by decide) (by decide), fun _ => rfl, fun _ _ _ h => h⟩
     | 6, _ =>
      cases ho
      exact wpOp_move rfl rfl (.inl rfl) (hI.kept (t := 0) (by kernel_rfl)) ⟨_, rfl, hsame _ (by decide) (by decide), fun _ => rfl, fun _ _ _ h => h⟩
     | 7, _ =>
      cases ho
      have e0 : a'.eval (.tmp 33) = .slice (some ⟨bk, off, none⟩) 256 c := hI.slot 6 33 rfl (hpre ⟨6, .data⟩ (by simp) rfl) rfl
      have hrd := dread_any (some ⟨bk, off, none⟩) b c 18 4 n₁ w' (HM.out.1.below (hbw.mono hn₁)) HM.out.2.2.1 HM.out.2.2.2 (by decide) (by decide)
      rw [show numOf ((b.drop 18).take 4) = atX b from rfl, hX] at hrd
      refine wpOp_callFn rfl rfl rfl (vs := #[.slice (some ⟨bk, off, none⟩) 256 c, .int .i64 (18 : Nat), .int .i64 (4 : Nat)]) (by simp only [List.map_toArray, List.map_cons, List.map_nil, e0]; rfl) (fun _ _ => by kernel_rfl) (hrd.mono ?_)
      rintro e w'' ⟨rfl, rfl⟩
      exact ⟨_, rfl, _, rfl, hsame _ (by decide) (by decide), fun _ => rfl, fun _ _ _ h => h⟩
     | 8, _ =>
      cases ho
      exact wpOp_move rfl rfl (.inl rfl) (hI.kept (t := 0) (by kernel_rfl)) ⟨_, rfl, hsame _ (by decide) (by decide), fun _ => rfl, fun _ _ _ h => h⟩
     | 9, _ =>
      cases ho
      exact wpOp_move rfl rfl (.inl rfl) (hI.kept (t := 5) (by kernel_rfl)) ⟨_, rfl, hsame _ (by decide) (by decide), fun _ => rfl, fun _ _ _ h => h⟩
     | 10, _ =>
      cases ho
      have e0 : a'.eval (.tmp 36) = .int .i64 sz := hI.slot 9 36 rfl (hpre ⟨9, .data⟩ (by simp) rfl) rfl
      exact wpOp_add24 rfl rfl rfl rfl e0 (by omega) ⟨_, rfl, hsame _ (by decide) (by decide), fun _ => rfl, fun _ _ _ h => h⟩
     | 11, _ =>
      cases ho
      have e0 : a'.eval (.tmp 35) = .slice (some ⟨bk, off, none⟩) 256 c := hI.slot 8 35 rfl (hpre ⟨8, .data⟩ (by simp) rfl) rfl
      have e1 : a'.eval (.tmp 37) = .int .i64 (24 + (sz : Int)) := hI.slot 10 37 rfl (hpre ⟨10, .data⟩ (by simp) rfl) rfl
      exact wpOp_slice rfl rfl rfl e0 rfl (congrArg some e1) rfl (hab ▸ slice24 w' (some ⟨bk, off, none⟩) 256 c sz (by omega)) ⟨_, rfl, hsame _ (by decide) (by decide), fun _ => rfl, fun _ _ _ h => h⟩
     | 12, _ =>
      cases ho
      have e0 : a'.eval (.tmp 30) = .int .i64 k := hI.slot 3 30 rfl (hpre ⟨3, .data⟩ (by simp) rfl) rfl
      have e1 : a'.eval (.tmp 32) = .int .i64 (wrap64 (atT b)) := hI.slot 5 32 rfl (hpre ⟨5, .data⟩ (by simp) rfl) rfl
      have e2 : a'.eval (.tmp 34) = .int .i64 (atX b) := hI.slot 7 34 rfl (hpre ⟨7, .data⟩ (by simp) rfl) rfl
      have e3 : a'.eval (.tmp 38) = .slice ab sz (c - 24) := hI.slot 11 38 rfl (hpre ⟨11, .data⟩ (by simp) rfl) rfl
      exact wpOp_build rfl rfl rfl (vs := #[(0, .int .i64 k), (1, .int .i64 (wrap64 (atT b))), (2, .int .i64 (atX b)), (3, .slice ab sz (c - 24))]) (by simp only [List.map_toArray, List.map_cons, List.map_nil, e0, e1, e2, e3]) (pg_build w' k (wrap64 (atT b)) (atX b) ab sz (c - 24)) ⟨_, rfl, hsame _ (by decide) (by decide), fun _ => rfl, fun _ _ _ h => h⟩
     | 13, _ =>
      cases ho
      have hsz' : w'.heap.size = w2.heap.size := by
        have h := hI.inv.2
        rw [if_neg (by rw [hn']; decide)] at h
        exact h
      have h14 : listed.getD 14 false = false := hI.notyet hn' 14 (by kernel_rfl)
      have hr := heap_alloc_new w' (.cells #[.int .i64 0, .int .i64 0, .int .i64 0, .slice none 0 0] 55)
      refine wpOp_alloc rfl rfl rfl (pg_alloc w') ⟨_, rfl, ⟨hB.alloc hB.size _, ?_⟩, fun _ => by rw [hsz']; rfl, fun _ _ _ h => h⟩
      rw [if_pos (listed_same (by rw [hI.size]; decide)), listed_other (by decide), h14, ← hsz']
      exact hr
     | 14, _ =>
      cases ho
      have e0 : a'.eval (.tmp 39) = pgv k (wrap64 (atT b)) (atX b) ab sz (c - 24) := hI.slot 12 39 rfl (hpre ⟨12, .data⟩ (by simp) rfl) rfl
      have e1 : a'.eval (.tmp 6) = .pointer (some ⟨w2.heap.size, 0, none⟩) := hI.slot 13 6 rfl (hpre ⟨13, .data⟩ (by simp) rfl) rfl
      have hr := hI.inv.2
      rw [if_pos (hpre ⟨13, .data⟩ (by simp) rfl), if_neg (by rw [hn']; decide)] at hr
      refine wpOp_store rfl rfl rfl e1 e0 (pg_store _ _ _ _ hr rfl (by kernel_rfl)) ⟨_, rfl, ⟨hB.grown (row_grown w' w2.heap.size _) hB.size (fun q e => by cases e; exact Nat.le_refl _), ?_⟩, fun _ => trivial, fun _ _ _ h => h⟩
      rw [if_pos (by rw [listed_other (by decide)]; exact hpre ⟨13, .data⟩ (by simp) rfl), if_pos (listed_same (by rw [hI.size]; decide))]
      exact row_set _ hr
    case fin8 =>
     intro listed a' w3 hI hall
     have hB := hI.inv.1
     have hr3 := hI.inv.2
     rw [if_pos (hall 13 (by decide)), if_pos (hall 14 (by decide))] at hr3
     have e6 : a'.tmps.getD 6 undef = .pointer (some ⟨w2.heap.size, 0, none⟩) := hI.slot 13 6 rfl (hall 13 (by decide)) rfl
     obtain ⟨vs', us, hvl', hul, hvs, -, e⟩ := hI.frame2 6 1 27 13 (by decide) (Nat.le_of_ble_eq_true (by kernel_rfl)) (by kernel_rfl)
     have v0' := hvs 0 (by decide)
     have hrow3 := go_row HB2.out.2.2 hB
     have HB3 := Lib.hid (And.intro (hb02.trans (hB.mono hs2')) (And.intro hrow3 hr3))
     clear hI hall hvs hB d0 d1 d2 d3 f0 f1 f2 f3 q5 q5'
     match vs', us, hvl', hul with
     | [v0], [x0, x1, x2, x3, x4, x5, x6, x7, x8, x9, x10, x11, x12], _, _ =>
     simp only [List.getElem?_cons_zero, Option.some.injEq] at v0'
     rw [Nat.add_zero, e6] at v0'
     subst v0'
     simp only [List.take_succ_cons, List.take_zero, List.drop_succ_cons, List.drop_zero, List.cons_append, List.nil_append, Nat.reduceAdd, Nat.reduceSub] at e
     subst e
     clear e6
     have hN : wrap64 ((atN b : Nat) : Int) = (atN b : Nat) := wrap64_eq (by omega) (by have := num_lt b 14 4 (by omega); rw [show numOf ((b.drop 14).take 4) = atN b from rfl] at this; omega)
     have hrd := dread_any (some ⟨bk, off, none⟩) b c 14 4 n₁ w3 (HM.out.1.below (HB3.out.1.mono hn₁)) HM.out.2.2.1 HM.out.2.2.2 (by decide) (by decide)
     rw [show numOf ((b.drop 14).take 4) = atN b from rfl, hN] at hrd
     have HRD := Lib.hid hrd
     clear hrd hsl hblk hrow3 hr3
     go_wp2_with fail
     refine HRD.out.mono ?_
     rintro e w' ⟨rfl, rfl⟩
     go_wp2_with fail
     obtain ⟨V, hV⟩ : ∃ V, w2.heap.size = V := ⟨_, rfl⟩
     have hVR : ¬ V = w.heap.size := by omega
     obtain ⟨hb03, hrow3, hrP3⟩ := HB3.out
     rw [hV] at hrP3 ⊢
     obtain ⟨R, hR⟩ : ∃ R, rightB k (wrap64 (atT b)) (atX b) sz = R := ⟨_, rfl⟩
     obtain ⟨N4, hN4⟩ : ∃ N4, decide (4095 < ((atN b : Nat) : Int)) = N4 := ⟨_, rfl⟩
     have hlook := fin_look hlen HR.out.1
     have hrw := raw_when b hlen (some ⟨bk, off, none⟩) c n₁ HM.out.2.2.2 HM.out.2.1
     rw [HR.out.2.2.1, HR.out.2.2.2, hR, hN4] at hlook hrw
     rw [hab] at hrw
     have hX2 := hX
     have hatb : (atB b).length = sz := by unfold atB; rw [List.length_take, List.length_drop, HR.out.2.2.1]; omega
     have HW := Lib.hid (And.intro hlook (And.intro hrw hatb))
     have hra := right_any k (wrap64 (atT b)) (atX b) ab sz (c - 24)
     rw [hR] at hra
     have hcvb := fun w' (h : Below w.heap.size w w') => conv_at w' (some ⟨bk, off, none⟩) b c n₁ (HM.out.1.below (h.mono hn₁))
     rw [hlen] at hcvb
     clear hlook hrw hatb HB3 hX hX2
     refine wp_region_m (fun _ w' => Below w3.heap.size w3 w') (SqV (pgv k (wrap64 (atT b)) (atX b) ab sz (c - 24)) R N4 (atN b) b ((pgOf b).raw (atN b)) (.slice (some ⟨bk, off, none⟩) 256 c)) (by kernel_rfl) (by kernel_rfl) (by kernel_rfl) (by kernel_rfl) (Below.refl _ _).drew ?step10 ?fin10
     case step10 =>
      intro i o ho listed a' w' hI hn' hpre
      have hi : i < 20 := (Array.getElem?_eq_some_iff.1 ho).1
      have hB := hI.inv
      have hsz' := hB.size
      have hbw : Below w.heap.size w w' := hb03.trans (hB.mono hb03.size)
      match i, hi with
      | 0, _ =>
       cases ho
       exact wpOp_load rfl rfl rfl (hI.kept (t := 6) (by kernel_rfl)) (load_page (go_row hrP3 hB) rfl) ⟨_, rfl, hB, fun _ => rfl, fun _ _ _ h => h⟩
      | 1, _ =>
       cases ho
       have e0 : a'.eval (.tmp 42) = pgv k (wrap64 (atT b)) (atX b) ab sz (c - 24) := (hI.slot 0 42 rfl (hpre ⟨0, .data⟩ (by simp) rfl) rfl)
       refine wpOp_callFn rfl rfl rfl (vs := #[pgv k (wrap64 (atT b)) (atX b) ab sz (c - 24)]) (by simp only [List.map_toArray, List.map_cons, List.map_nil, e0]) (fun _ _ => by kernel_rfl) ((hra w' (by omega)).mono ?_)
       rintro e w'' ⟨rfl, hb2⟩
       exact ⟨_, rfl, _, rfl, hB.trans (hb2.mono hsz'), fun _ => rfl, fun j v _ h => SqV.below hb2 j v h⟩
      | 2, _ =>
       cases ho
       have e0 : a'.eval (.tmp 43) = .bool R := (hI.slot 1 43 rfl (hpre ⟨1, .data⟩ (by simp) rfl) rfl)
       exact wpOp_notB rfl rfl rfl e0 rfl ⟨_, rfl, hB, fun _ => rfl, fun _ _ _ h => h⟩
      | 3, _ =>
       cases ho
       exact wpOp_move rfl rfl (.inl rfl) (hI.slot 2 44 rfl (hpre ⟨2, .data⟩ (by simp) rfl) rfl) ⟨_, rfl, hB, fun _ => rfl, fun _ _ _ h => h⟩
      | 4, _ =>
       cases ho
       have eg : a'.eval (.tmp 45) = .bool (!R) := hI.slot 3 45 rfl (hpre ⟨3, .guard⟩ (by simp) rfl) rfl
       by_cases hw : R = true
       · have eg2 : a'.eval (.tmp 45) = .bool false := by rw [eg, hw]; rfl
         exact wpOp_move rfl (wantedOf (j := 3) (b := false) rfl rfl rfl (by rw [hI.len]; show _ < 65; decide) eg2) (.inl rfl) (hI.kept (t := 7) (by kernel_rfl)) ⟨_, rfl, hB, fun _ => fun _ => rfl, fun _ _ _ h => h⟩
       · exact wpOp_off rfl (wantedOff (j := 3) (b := false) (b' := true) rfl rfl rfl (by rw [hI.len]; show _ < 65; decide) (by rw [eg]; exact congrArg Value.bool (by revert hw; cases R <;> cases N4 <;> simp)) (by decide)) ⟨_, rfl, hB, fun _ => fun h => absurd h hw, fun _ _ _ h => h⟩
      | 5, _ =>
       cases ho
       have eg : a'.eval (.tmp 45) = .bool (!R) := hI.slot 3 45 rfl (hpre ⟨3, .guard⟩ (by simp) rfl) rfl
       by_cases hw : R = true
       · have eg2 : a'.eval (.tmp 45) = .bool false := by rw [eg, hw]; rfl
         have e0 : a'.eval (.tmp 46) = .int .i64 (atN b) := (hI.slot 4 46 rfl (hpre ⟨4, .data⟩ (by simp) rfl) rfl) hw
         exact wpOp_ltL rfl (wantedOf (j := 3) (b := false) rfl rfl rfl (by rw [hI.len]; show _ < 65; decide) eg2) rfl e0 (m := 0) rfl (c := false) (by simp) ⟨_, rfl, hB, fun _ => fun _ => rfl, fun _ _ _ h => h⟩
       · exact wpOp_off rfl (wantedOff (j := 3) (b := false) (b' := true) rfl rfl rfl (by rw [hI.len]; show _ < 65; decide) (by rw [eg]; exact congrArg Value.bool (by revert hw; cases R <;> cases N4 <;> simp)) (by decide)) ⟨_, rfl, hB, fun _ => fun h => absurd h hw, fun _ _ _ h => h⟩
      | 6, _ =>
       cases ho
       have e0 : a'.eval (.tmp 45) = .bool (!R) := (hI.slot 3 45 rfl (hpre ⟨3, .data⟩ (by simp) rfl) rfl)
       have e1 : R = true → a'.eval (.tmp 47) = .bool false := (hI.slot 5 47 rfl (hpre ⟨5, .data⟩ (by simp) rfl) rfl)
       exact wpOp_pick2 rfl rfl rfl e0 (v := .bool (!R)) (fun h => by rw [h]; rfl) (fun h => by rw [h]; exact e1 (by simpa using h)) rfl ⟨_, rfl, hB, fun _ => rfl, fun _ _ _ h => h⟩
      | 7, _ =>
       cases ho
       exact wpOp_move rfl rfl (.inl rfl) (hI.slot 6 48 rfl (hpre ⟨6, .data⟩ (by simp) rfl) rfl) ⟨_, rfl, hB, fun _ => rfl, fun _ _ _ h => h⟩
      | 8, _ =>
       cases ho
       have eg : a'.eval (.tmp 49) = .bool (!R) := hI.slot 7 49 rfl (hpre ⟨7, .guard⟩ (by simp) rfl) rfl
       by_cases hw : R = true
       · have eg2 : a'.eval (.tmp 49) = .bool false := by rw [eg, hw]; rfl
         exact wpOp_move rfl (wantedOf (j := 7) (b := false) rfl rfl rfl (by rw [hI.len]; show _ < 65; decide) eg2) (.inl rfl) (hI.kept (t := 7) (by kernel_rfl)) ⟨_, rfl, hB, fun _ => fun _ => rfl, fun _ _ _ h => h⟩
       · exact wpOp_off rfl (wantedOff (j := 7) (b := false) (b' := true) rfl rfl rfl (by rw [hI.len]; show _ < 65; decide) (by rw [eg]; exact congrArg Value.bool (by revert hw; cases R <;> cases N4 <;> simp)) (by decide)) ⟨_, rfl, hB, fun _ => fun h => absurd h hw, fun _ _ _ h => h⟩
      | 9, _ =>
       cases ho
       have eg : a'.eval (.tmp 49) = .bool (!R) := hI.slot 7 49 rfl (hpre ⟨7, .guard⟩ (by simp) rfl) rfl
       by_cases hw : R = true
       · have eg2 : a'.eval (.tmp 49) = .bool false := by rw [eg, hw]; rfl
         have e0 : a'.eval (.tmp 50) = .int .i64 (atN b) := (hI.slot 8 50 rfl (hpre ⟨8, .data⟩ (by simp) rfl) rfl) hw
         exact wpOp_gtL rfl (wantedOf (j := 7) (b := false) rfl rfl rfl (by rw [hI.len]; show _ < 65; decide) eg2) rfl e0 (m := 4095) rfl (c := N4) hN4.symm ⟨_, rfl, hB, fun _ => fun _ => rfl, fun _ _ _ h => h⟩
       · exact wpOp_off rfl (wantedOff (j := 7) (b := false) (b' := true) rfl rfl rfl (by rw [hI.len]; show _ < 65; decide) (by rw [eg]; exact congrArg Value.bool (by revert hw; cases R <;> cases N4 <;> simp)) (by decide)) ⟨_, rfl, hB, fun _ => fun h => absurd h hw, fun _ _ _ h => h⟩
      | 10, _ =>
       cases ho
       have e0 : a'.eval (.tmp 49) = .bool (!R) := (hI.slot 7 49 rfl (hpre ⟨7, .data⟩ (by simp) rfl) rfl)
       have e1 : R = true → a'.eval (.tmp 51) = .bool N4 := (hI.slot 9 51 rfl (hpre ⟨9, .data⟩ (by simp) rfl) rfl)
       exact wpOp_pick2 rfl rfl rfl e0 (v := .bool (!R || N4)) (fun h => by rw [h]; rfl) (fun h => by rw [h]; exact e1 (by simpa using h)) rfl ⟨_, rfl, hB, fun _ => rfl, fun _ _ _ h => h⟩
      | 11, _ =>
       cases ho
       exact wpOp_move rfl rfl (.inl rfl) (hI.slot 10 52 rfl (hpre ⟨10, .data⟩ (by simp) rfl) rfl) ⟨_, rfl, hB, fun _ => rfl, fun _ _ _ h => h⟩
      | 12, _ =>
       cases ho
       have eg : a'.eval (.tmp 53) = .bool ((!R || N4)) := hI.slot 11 53 rfl (hpre ⟨11, .guard⟩ (by simp) rfl) rfl
       by_cases hw : (!R || N4) = false
       · have eg2 : a'.eval (.tmp 53) = .bool false := by rw [eg, hw]
         exact wpOp_move rfl (wantedOf (j := 11) (b := false) rfl rfl rfl (by rw [hI.len]; show _ < 65; decide) eg2) (.inl rfl) (hI.kept (t := 7) (by kernel_rfl)) ⟨_, rfl, hB, fun _ => fun _ => rfl, fun _ _ _ h => h⟩
       · exact wpOp_off rfl (wantedOff (j := 11) (b := false) (b' := true) rfl rfl rfl (by rw [hI.len]; show _ < 65; decide) (by rw [eg]; exact congrArg Value.bool (by revert hw; cases R <;> cases N4 <;> simp)) (by decide)) ⟨_, rfl, hB, fun _ => fun h => absurd h hw, fun _ _ _ h => h⟩
      | 13, _ =>
       cases ho
       have eg : a'.eval (.tmp 53) = .bool ((!R || N4)) := hI.slot 11 53 rfl (hpre ⟨11, .guard⟩ (by simp) rfl) rfl
       by_cases hw : (!R || N4) = false
       · have eg2 : a'.eval (.tmp 53) = .bool false := by rw [eg, hw]
         exact wpOp_load rfl (wantedOf (j := 11) (b := false) rfl rfl rfl (by rw [hI.len]; show _ < 65; decide) eg2) rfl (hI.kept (t := 6) (by kernel_rfl)) (load_page (go_row hrP3 hB) rfl) ⟨_, rfl, hB, fun _ => fun _ => rfl, fun _ _ _ h => h⟩
       · exact wpOp_off rfl (wantedOff (j := 11) (b := false) (b' := true) rfl rfl rfl (by rw [hI.len]; show _ < 65; decide) (by rw [eg]; exact congrArg Value.bool (by revert hw; cases R <;> cases N4 <;> simp)) (by decide)) ⟨_, rfl, hB, fun _ => fun h => absurd h hw, fun _ _ _ h => h⟩
      | 14, _ =>
       cases ho
       have eg : a'.eval (.tmp 53) = .bool ((!R || N4)) := hI.slot 11 53 rfl (hpre ⟨11, .guard⟩ (by simp) rfl) rfl
       by_cases hw : (!R || N4) = false
       · have eg2 : a'.eval (.tmp 53) = .bool false := by rw [eg, hw]
         have e0 : a'.eval (.tmp 54) = .int .i64 (atN b) := (hI.slot 12 54 rfl (hpre ⟨12, .data⟩ (by simp) rfl) rfl) hw
         have e1 : a'.eval (.tmp 55) = pgv k (wrap64 (atT b)) (atX b) ab sz (c - 24) := (hI.slot 13 55 rfl (hpre ⟨13, .data⟩ (by simp) rfl) rfl) hw
         refine wpOp_callFn rfl (wantedOf (j := 11) (b := false) rfl rfl rfl (by rw [hI.len]; show _ < 65; decide) eg2) rfl (vs := #[.int .i64 (atN b), pgv k (wrap64 (atT b)) (atX b) ab sz (c - 24)]) (by simp only [List.map_toArray, List.map_cons, List.map_nil, e0, e1]) (fun _ _ => by kernel_rfl) ((HW.out.2.1 hw w' (Nat.le_trans hn₁ hbw.size) (HM.out.1.below (hbw.mono hn₁))).mono ?_)
         rintro e w'' ⟨v, rfl, hO, hb2⟩
         exact ⟨_, rfl, _, rfl, hB.trans (hb2.mono hsz'), fun _ => fun _ => hO.isBs, fun j v _ h => SqV.below hb2 j v h⟩
       · exact wpOp_off rfl (wantedOff (j := 11) (b := false) (b' := true) rfl rfl rfl (by rw [hI.len]; show _ < 65; decide) (by rw [eg]; exact congrArg Value.bool (by revert hw; cases R <;> cases N4 <;> simp)) (by decide)) ⟨_, rfl, hB, fun _ => fun h => absurd h hw, fun _ _ _ h => h⟩
      | 15, _ =>
       cases ho
       have eg : a'.eval (.tmp 53) = .bool ((!R || N4)) := hI.slot 11 53 rfl (hpre ⟨11, .guard⟩ (by simp) rfl) rfl
       by_cases hw : (!R || N4) = false
       · have eg2 : a'.eval (.tmp 53) = .bool false := by rw [eg, hw]
         obtain ⟨a9, c9, e9, h9, -⟩ : IsBs w'.heap.size w' (a'.eval (.tmp 56)) ((pgOf b).raw (atN b)) := (hI.slot 14 56 rfl (hpre ⟨14, .data⟩ (by simp) rfl) rfl) hw
         exact wpOp_conv rfl (wantedOf (j := 11) (b := false) rfl rfl rfl (by rw [hI.len]; show _ < 65; decide) eg2) rfl e9 (conv_at w' a9 ((pgOf b).raw (atN b)) c9 w'.heap.size h9) ⟨_, rfl, hB, fun _ => fun _ => rfl, fun _ _ _ h => h⟩
       · exact wpOp_off rfl (wantedOff (j := 11) (b := false) (b' := true) rfl rfl rfl (by rw [hI.len]; show _ < 65; decide) (by rw [eg]; exact congrArg Value.bool (by revert hw; cases R <;> cases N4 <;> simp)) (by decide)) ⟨_, rfl, hB, fun _ => fun h => absurd h hw, fun _ _ _ h => h⟩
      | 16, _ =>
       cases ho
       have eg : a'.eval (.tmp 53) = .bool ((!R || N4)) := hI.slot 11 53 rfl (hpre ⟨11, .guard⟩ (by simp) rfl) rfl
       by_cases hw : (!R || N4) = false
       · have eg2 : a'.eval (.tmp 53) = .bool false := by rw [eg, hw]
         exact wpOp_move rfl (wantedOf (j := 11) (b := false) rfl rfl rfl (by rw [hI.len]; show _ < 65; decide) eg2) (.inl rfl) (hI.kept (t := 0) (by kernel_rfl)) ⟨_, rfl, hB, fun _ => fun _ => rfl, fun _ _ _ h => h⟩
       · exact wpOp_off rfl (wantedOff (j := 11) (b := false) (b' := true) rfl rfl rfl (by rw [hI.len]; show _ < 65; decide) (by rw [eg]; exact congrArg Value.bool (by revert hw; cases R <;> cases N4 <;> simp)) (by decide)) ⟨_, rfl, hB, fun _ => fun h => absurd h hw, fun _ _ _ h => h⟩
      | 17, _ =>
       cases ho
       have eg : a'.eval (.tmp 53) = .bool ((!R || N4)) := hI.slot 11 53 rfl (hpre ⟨11, .guard⟩ (by simp) rfl) rfl
       by_cases hw : (!R || N4) = false
       · have eg2 : a'.eval (.tmp 53) = .bool false := by rw [eg, hw]
         have e0 : a'.eval (.tmp 58) = .slice (some ⟨bk, off, none⟩) 256 c := (hI.slot 16 58 rfl (hpre ⟨16, .data⟩ (by simp) rfl) rfl) hw
         exact wpOp_conv rfl (wantedOf (j := 11) (b := false) rfl rfl rfl (by rw [hI.len]; show _ < 65; decide) eg2) rfl e0 (hcvb w' hbw) ⟨_, rfl, hB, fun _ => fun _ => rfl, fun _ _ _ h => h⟩
       · exact wpOp_off rfl (wantedOff (j := 11) (b := false) (b' := true) rfl rfl rfl (by rw [hI.len]; show _ < 65; decide) (by rw [eg]; exact congrArg Value.bool (by revert hw; cases R <;> cases N4 <;> simp)) (by decide)) ⟨_, rfl, hB, fun _ => fun h => absurd h hw, fun _ _ _ h => h⟩
      | 18, _ =>
       cases ho
       have eg : a'.eval (.tmp 53) = .bool ((!R || N4)) := hI.slot 11 53 rfl (hpre ⟨11, .guard⟩ (by simp) rfl) rfl
       by_cases hw : (!R || N4) = false
       · have eg2 : a'.eval (.tmp 53) = .bool false := by rw [eg, hw]
         have e0 : a'.eval (.tmp 57) = .string ⟨((pgOf b).raw (atN b)).toArray⟩ := (hI.slot 15 57 rfl (hpre ⟨15, .data⟩ (by simp) rfl) rfl) hw
         have e1 : a'.eval (.tmp 59) = .string ⟨b.toArray⟩ := (hI.slot 17 59 rfl (hpre ⟨17, .data⟩ (by simp) rfl) rfl) hw
         refine wpOp_neqS rfl (wantedOf (j := 11) (b := false) rfl rfl rfl (by rw [hI.len]; show _ < 65; decide) eg2) rfl e0 e1 ?_
         rw [ByteArray.toList_eq, ByteArray.toList_eq]
         exact ⟨_, rfl, hB, fun _ => fun _ => rfl, fun _ _ _ h => h⟩
       · exact wpOp_off rfl (wantedOff (j := 11) (b := false) (b' := true) rfl rfl rfl (by rw [hI.len]; show _ < 65; decide) (by rw [eg]; exact congrArg Value.bool (by revert hw; cases R <;> cases N4 <;> simp)) (by decide)) ⟨_, rfl, hB, fun _ => fun h => absurd h hw, fun _ _ _ h => h⟩
      | 19, _ =>
       cases ho
       have e0 : a'.eval (.tmp 53) = .bool (!R || N4) := (hI.slot 11 53 rfl (hpre ⟨11, .data⟩ (by simp) rfl) rfl)
       have e1 : (!R || N4) = false → a'.eval (.tmp 60) = .bool ((pgOf b).raw (atN b) != b) := (hI.slot 18 60 rfl (hpre ⟨18, .data⟩ (by simp) rfl) rfl)
       exact wpOp_pick2 rfl rfl rfl e0 (v := .bool ((!R || N4) || ((pgOf b).raw (atN b) != b))) (fun h => by rw [h]; rfl) (fun h => by rw [h]; exact e1 h) rfl ⟨_, rfl, hB, fun _ => rfl, fun _ _ _ h => h⟩
     case fin10 =>
      intro listed a' w4 hI hall
      have hB := hI.inv
      have e19 : a'.tmps.getD 61 undef = .bool ((!R || N4) || ((pgOf b).raw (atN b) != b)) := hI.slot 19 61 rfl (hall 19 (by decide)) rfl
      obtain ⟨vs, hvl, hvs, e⟩ := hI.frame 42 20 (Nat.le_of_ble_eq_true (by kernel_rfl)) (by kernel_rfl)
      have v19' := hvs 19 (by decide)
      have hb04 := hb03.trans (hB.mono hb03.size)
      have hrow4 := go_row hrow3 hB
      have hrP4 := go_row hrP3 hB
      have HB4 := Lib.hid (And.intro hb04 (And.intro hrow4 hrP4))
      clear hI hall hvs hB hb03 hrow3 hrP3 hra hcvb
      obtain ⟨f, rfl⟩ := split20 hvl
      clear hvl
      simp only [List.getElem?_cons_zero, List.getElem?_cons_succ, Option.some.injEq] at v19'
      rw [show 42 + 19 = 61 from rfl, e19] at v19'
      rw [v19'] at e
      simp only [List.take_succ_cons, List.take_zero, List.drop_succ_cons, List.drop_zero, List.cons_append, List.nil_append, Nat.reduceAdd] at e
      subst e
      clear e19 v19'
      obtain ⟨fb, hfb⟩ : ∃ fb, ((!R || N4) || ((pgOf b).raw (atN b) != b)) = fb := ⟨_, rfl⟩
      have hlook := HW.out.1
      rw [hfb] at hlook ⊢
      have HL := Lib.hid hlook
      clear hlook hfb HRD
      have f0 := frozen_of_row w4 w.heap.size 0 _ _ hrow4
      have f1 := frozen_of_row w4 w.heap.size 1 _ _ hrow4
      have f2 := frozen_of_row w4 w.heap.size 2 _ _ hrow4
      have f3 := frozen_of_row w4 w.heap.size 3 _ _ hrow4
      obtain ⟨d0, d1, d2, d3⟩ := HBK.out w4 _ hrow4
      have hlt := (Array.getElem?_eq_some_iff.1 hrow4).1
      cases fb with
      | true =>
        clear hrow4 hrP4
        go_wp2
        refine bodyPost_ret (results_tct rfl _ _ _ _ _ _ rfl (set4_heap _ _ _ _ HB4.out.2.1) Tryd.underlying55 (by kernel_rfl)) rfl ?_
        refine ⟨HB4.out.1.grown (set4_grown w4 w.heap.size _ _ _ _) HB4.out.1.size (fun q e => by cases e; exact Nat.le_refl _), .inr ⟨by rw [HL.out]; decide, by rw [HL.out]; rfl⟩⟩
      | false =>
        have c0 := cell_of_row w4 V 0 _ _ _ hrP4
        have c1 := cell_of_row w4 V 1 _ _ _ hrP4
        have c2 := cell_of_row w4 V 2 _ _ _ hrP4
        have c3 := cell_of_row w4 V 3 _ _ _ hrP4
        simp only [List.getElem?_toArray, List.getElem?_cons_zero, List.getElem?_cons_succ] at c0 c1 c2 c3
        clear hrow4 hrP4
        go_wp2_with fail
        go_region
        go_wp2
        have hgr := set4_grown w4 w.heap.size (.int .i64 (k : Int)) (.int .i64 (wrap64 (atT b))) (.int .i64 (atX b : Nat)) (.slice ab sz (c - 24))
        have hb5 := HB4.out.1.grown hgr HB4.out.1.size (fun q e => by cases e; exact Nat.le_refl _)
        refine bodyPost_ret (results_tct rfl _ _ _ _ _ _ rfl (set4_heap _ _ _ _ HB4.out.2.1) Tryd.underlying55 (by kernel_rfl)) rfl ?_
        have h0 : lookE b = 0 := by rw [HL.out]; rfl
        have h24 : atS b ≤ c - 24 := by
          have h1 := (look_raw h0).1.2.2.2.2
          have h2 := (look_raw h0).2.2.2.2.2.2.2
          have h3 : (pgOf b).b.length = atS b := h2
          have h4 := (look_raw h0).2.2.2.1
          omega
        refine ⟨hb5.drew, .inl ⟨h0, ab, c - 24, ?_, ?_, h24⟩⟩
        · rw [hsz, hk]; rfl
        · have hbd := rest_at (i := 24) (HM.out.1.below (hb5.drew.mono hn₁)) (by omega : b.length ≤ c)
          rw [hab, ← List.take_append_drop (atS b) (b.drop 24)] at hbd
          exact hbd.left.mono (Nat.le_trans hn₁ hb5.drew.size)
end Go.Proofs.YtaijjlaheoamaaaDoor
/- Layer 6: the document's Parse. -/
namespace Go.Proofs.YtaijjlaheoamaaaDoor
open Go.RowKit

theorem rd_takes {l : List UInt8} (h : l.length = 12) : rdN l 0 = numOf (l.take 4) ∧ rdN l 1 = numOf ((l.drop 4).take 4) ∧ rdN l 2 = numOf ((l.drop 8).take 4) := by
  have e0 : rNum l 4 = (numOf (l.take 4), 0, l.drop 4) := by
    unfold rNum; rw [if_neg (by omega), if_neg (by rw [h]; decide)]; rfl
  have e1 : rNum (l.drop 4) 4 = (numOf ((l.drop 4).take 4), 0, l.drop 8) := by
    unfold rNum; rw [if_neg (by omega), if_neg (by rw [List.length_drop, h]; decide), List.drop_drop]; rfl
  have e2 : rNum (l.drop 8) 4 = (numOf ((l.drop 8).take 4), 0, l.drop 12) := by
    unfold rNum; rw [if_neg (by omega), if_neg (by rw [List.length_drop, h]; decide), List.drop_drop]; rfl
  refine ⟨?_, ?_, ?_⟩
  · show (rNum l 4).1 = _
    rw [e0]
  · show (rNum (rNum l 4).2.2 4).1 = _
    rw [e0, e1]
  · show (rNum (rNum (rNum l 4).2.2 4).2.2 4).1 = _
    rw [e0, e1, e2]
/-- Where the document finds no meta. -/
theorem opt_look {n : Int} {b : List UInt8} (h : lookE b ≠ 0 ∨ (atN b : Int) ≠ n ∨ atS b ≠ 12) : Opt n b none := fun m hm => by
  have h1 := parseE_look hm.look.2.2.1
  obtain ⟨-, -, -, h4, h5⟩ := hm.look
  have hB : atB b = m.body := congrArg Pg.b h4
  have h6 := (look_raw h1).2.2.2.2.2.2.2
  rw [hB, Mt.body_len] at h6
  rcases h with h | h | h
  · exact h h1
  · exact h h5
  · exact h h6.symm
/-- The meta that the bytes name, and whether they are its. -/
theorem opt_name {n : Int} {b : List UInt8} (hl : lookE b = 0) (hn : (atN b : Int) = n) (h01 : n = 0 ∨ n = 1) : Opt n b (if metaB (wrap64 (atT b)) (rdN (atB b) 0) (rdN (atB b) 1) (rdN (atB b) 2) && ((mtOf (wrap64 (atT b)) (atB b)).raw == b) then some (mtOf (wrap64 (atT b)) (atB b)) else none) := by
  have hp : parseE n b = 0 := by
    unfold parseE
    rw [if_pos (by simp [numB]; omega), if_pos hl, if_pos hn]
  by_cases hc : (metaB (wrap64 (atT b)) (rdN (atB b) 0) (rdN (atB b) 1) (rdN (atB b) 2) && ((mtOf (wrap64 (atT b)) (atB b)).raw == b)) = true
  · rw [if_pos hc]
    rw [Bool.and_eq_true] at hc
    obtain ⟨h1, h2⟩ := hc
    obtain ⟨hok, -⟩ := mtOf_ok h1
    have h3 : (mtOf (wrap64 (atT b)) (atB b)).raw = b := by simpa using h2
    have h4 := (isMt_self hok).look.2.2.2.2
    rw [h3] at h4
    exact ⟨hok, h4.symm.trans hn, h3.symm⟩
  · rw [if_neg hc]
    intro m hm
    obtain ⟨-, ht⟩ := (isMt_iff hp).1 hm
    have e := tells_one ht
    have h1 := ht.nums.1
    apply hc
    rw [h1, ← e, hm.2.2]
    simp
def PdV (mb sm : Bool) (mv bs : Value) (raw b : List UInt8) : Nat → Value → World → Prop
  | 0, v, _ => v = mv
  | 1, v, _ => v = .bool mb
  | 2, v, _ => v = .bool (!mb)
  | 3, v, _ => v = .bool (!mb)
  | 4, v, _ => mb = true → v = mv
  | 5, v, w' => mb = true → IsBs w'.heap.size w' v raw
  | 6, v, _ => mb = true → v = .string ⟨raw.toArray⟩
  | 7, v, _ => mb = true → v = bs
  | 8, v, _ => mb = true → v = .string ⟨b.toArray⟩
  | 9, v, _ => mb = true → v = .bool (!sm)
  | 10, v, _ => v = .bool (!(mb && sm))
  | _, _, _ => True
theorem PdV.below {mb sm : Bool} {mv bs : Value} {raw b : List UInt8} {w' w'' : World} (hb : Below w'.heap.size w' w'') : ∀ j v, PdV mb sm mv bs raw b j v w' → PdV mb sm mv bs raw b j v w'' := fun j _ k => match j, k with
  | 0, k => k
  | 1, k => k
  | 2, k => k
  | 3, k => k
  | 4, k => k
  | 5, k => fun e => IsBs.mono (IsBs.below (k e) hb) hb.size
  | 6, k => k
  | 7, k => k
  | 8, k => k
  | 9, k => k
  | 10, k => k
  | _ + 11, _ => trivial
def DParsePost (w : World) (n : Int) (b : List UInt8) (o : Option Mt) (e : Ending) (w' : World) : Prop := e = .returned (.tuple #[optM o, .int .i64 (optE n b o)]) ∧ Below w.heap.size w w'
set_option maxRecDepth 100000 in
set_option maxHeartbeats 8000000 in
theorem dparse_any (n : Int) (b : List UInt8) (a : Option Addr) (c n₁ : Nat) (hc : b.length ≤ c) (hlb : b.length ≤ 9223372036854775807) (w : World) (hm : BytesAt n₁ w a b) (hn₁ : n₁ ≤ w.heap.size) (hno : a = none → c = 0) :
    Calls Tryd.prog 12 #[.int .i64 n, .slice a b.length c] w fun e w' => ∃ o, Opt n b o ∧ DParsePost w n b o e w' := by
  have hb0 : Below w.heap.size w (w.alloc (.cells #[.int .i64 0, .int .i64 0, .int .i64 0, .int .i64 0] 25)) := (Below.refl _ _).alloc (Nat.le_refl _) _
  have hr0 := heap_alloc_new w (.cells #[.int .i64 0, .int .i64 0, .int .i64 0, .int .i64 0] 25)
  have HB := Lib.hid (And.intro hb0 hr0)
  obtain ⟨bl, hbl⟩ : ∃ k, b.length = k := ⟨_, rfl⟩
  by_cases hin : (n = 0 ∨ n = 1) ∧ bl = 256
  case neg =>
    have HE := Lib.hid (show errM n b = 2 by unfold errM; rw [if_neg (by rw [hbl]; exact hin)])
    have HNM := Lib.hid (fun m (h : IsMt n b m) => hin ⟨h.look.1, hbl ▸ h.look.2.1⟩)
    rw [hbl]
    clear hm hc hbl hlb hb0 hr0
    by_cases h0 : n = 0
    · have h3 : ((bl : Int) != 256) = true := by
        have : bl ≠ 256 := fun e => hin ⟨.inl h0, e⟩
        simp; omega
      subst h0
      clear hin
      go_enter Tryd.func12, Tryd.ntmps12
      go_wp2
      refine bodyPost_ret (results_ct rfl _ _ _ _ _ _ rfl HB.out.2 Tryd.underlying25 (by kernel_rfl)) rfl ?_
      exact ⟨none, HNM.out, by rw [show optE 0 b none = 2 from HE.out]; rfl, HB.out.1⟩
    have g0 : (n != 0) = true := by simpa using h0
    by_cases h1 : n = 1
    · have h3 : ((bl : Int) != 256) = true := by
        have : bl ≠ 256 := fun e => hin ⟨.inr h1, e⟩
        simp; omega
      subst h1
      clear hin h0 g0
      go_enter Tryd.func12, Tryd.ntmps12
      go_wp2
      refine bodyPost_ret (results_ct rfl _ _ _ _ _ _ rfl HB.out.2 Tryd.underlying25 (by kernel_rfl)) rfl ?_
      exact ⟨none, HNM.out, by rw [show optE 1 b none = 2 from HE.out]; rfl, HB.out.1⟩
    have g1 : (n != 1) = true := by simpa using h1
    clear hin h0 h1
    go_enter Tryd.func12, Tryd.ntmps12
    go_wp2
    refine bodyPost_ret (results_ct rfl _ _ _ _ _ _ rfl HB.out.2 Tryd.underlying25 (by kernel_rfl)) rfl ?_
    exact ⟨none, HNM.out, by rw [show optE n b none = 2 from HE.out]; rfl, HB.out.1⟩
  obtain ⟨h01, rfl⟩ := hin
  have hlk := dlook_any b a c n₁ hc hlb _ (hm.below (hb0.mono hn₁)) (Nat.le_trans hn₁ hb0.size) hno
  rw [hbl] at hlk ⊢
  have HLK := Lib.hid hlk
  have HE := Lib.hid (show errM n b = 160 by unfold errM; rw [if_pos ⟨h01, hbl⟩])
  have HM := Lib.hid (And.intro hm (And.intro hn₁ (And.intro hc (And.intro hbl h01))))
  have g01 : (n != 0 && n != 1) = false := by rcases h01 with rfl | rfl <;> rfl
  clear hlk hm hc hbl hlb hb0 hr0 hno hn₁
  rcases h01 with rfl | rfl
  · skip
    clear g01
    go_enter Tryd.func12, Tryd.ntmps12
    go_wp2_with fail
    refine HLK.out.mono ?_
    rintro e w1 ⟨hb1, ⟨hlk, ar, cr, rfl, hbo, hle⟩ | ⟨hlk, rfl⟩⟩
    case inr =>
      have hb := go_on HB.out.1 hb1
      have hR1 := go_row HB.out.2 hb1
      have d0 := cell_of_row w1 w.heap.size 0 _ _ _ hR1; have fd0 := frozen_of_row w1 w.heap.size 0 _ _ hR1
      have d1 := cell_of_row w1 w.heap.size 1 _ _ _ hR1; have fd1 := frozen_of_row w1 w.heap.size 1 _ _ hR1
      have d2 := cell_of_row w1 w.heap.size 2 _ _ _ hR1; have fd2 := frozen_of_row w1 w.heap.size 2 _ _ hR1
      have d3 := cell_of_row w1 w.heap.size 3 _ _ _ hR1; have fd3 := frozen_of_row w1 w.heap.size 3 _ _ hR1
      simp only [List.getElem?_toArray, List.getElem?_cons_zero, List.getElem?_cons_succ] at d0 d1 d2 d3
      have hlt := (Array.getElem?_eq_some_iff.1 hR1).1
      have hpb : ((lookE b : Int) != 0) = true := by simpa using hlk
      have HX := Lib.hid (And.intro hR1 (And.intro hb (opt_look (n := 0) (b := b) (.inl hlk))))
      generalize (lookE b : Int) = pe at hpb
      clear hR1 hb hlk HLK hb1 HM
      go_wp2
      obtain ⟨hR1, hb, hno⟩ := HX.out
      have hg1 := set4_grown w1 w.heap.size (.int .i64 0) (.int .i64 0) (.int .i64 0) (.int .i64 0)
      have hR2 := set4_heap (.int .i64 0) (.int .i64 0) (.int .i64 0) (.int .i64 0) hR1
      have hb2 := hb.grown hg1 hb.size (fun q e => by cases e; exact Nat.le_refl _)
      refine bodyPost_ret (results_ct rfl _ _ _ _ _ _ rfl ((Below.heap_alloc _ _ _ (Array.getElem?_eq_some_iff.1 hR2).1).trans hR2) Tryd.underlying25 (by kernel_rfl)) rfl ?_
      exact ⟨none, hno, by rw [show optE 0 b none = 160 from HE.out]; rfl, hb2.alloc hb2.size _⟩
    obtain ⟨-, -, -, -, -, -, -, hsz⟩ := look_raw hlk
    have hname := fun hn => opt_name (n := 0) hlk hn (.inl rfl)
    have hlook := fun h => opt_look (n := 0) (b := b) h
    have hb := go_on HB.out.1 hb1
    have hR1 := go_row HB.out.2 hb1
    obtain ⟨k, hk⟩ : ∃ k, atK b = k := ⟨_, rfl⟩
    obtain ⟨t, ht⟩ : ∃ k, wrap64 (atT b) = k := ⟨_, rfl⟩
    obtain ⟨x, hx⟩ : ∃ k, atX b = k := ⟨_, rfl⟩
    obtain ⟨l, hl⟩ : ∃ k, atB b = k := ⟨_, rfl⟩
    obtain ⟨at', hat⟩ : ∃ k, atN b = k := ⟨_, rfl⟩
    obtain ⟨sz, hsze⟩ : ∃ k, atS b = k := ⟨_, rfl⟩
    rw [hk, ht, hx, hat, hsze]
    rw [hl] at hbo hsz
    rw [hsze] at hsz hle
    simp only [ht, hl, hat, hsze] at hname hlook
    have d0 := cell_of_row w1 w.heap.size 0 _ _ _ hR1; have fd0 := frozen_of_row w1 w.heap.size 0 _ _ hR1
    have d1 := cell_of_row w1 w.heap.size 1 _ _ _ hR1; have fd1 := frozen_of_row w1 w.heap.size 1 _ _ hR1
    have d2 := cell_of_row w1 w.heap.size 2 _ _ _ hR1; have fd2 := frozen_of_row w1 w.heap.size 2 _ _ hR1
    have d3 := cell_of_row w1 w.heap.size 3 _ _ _ hR1; have fd3 := frozen_of_row w1 w.heap.size 3 _ _ hR1
    simp only [List.getElem?_toArray, List.getElem?_cons_zero, List.getElem?_cons_succ] at d0 d1 d2 d3
    have hlt := (Array.getElem?_eq_some_iff.1 hR1).1
    have HX := Lib.hid (And.intro hR1 (And.intro hb (And.intro hname (And.intro hlook (And.intro hbo (And.intro hle hb1))))))
    clear hR1 hb hname hlook hbo hle hb1 hk ht hx hl hat hsze hlk HLK
    by_cases hn : (at' : Int) = 0
    case neg =>
      have hnb : ((at' : Int) != 0) = true := by simpa using hn
      have hno := HX.out.2.2.2.1 (.inr (.inl hn))
      have HNO := Lib.hid hno
      clear hno hn
      go_wp2
      obtain ⟨hR1, hb, -⟩ := HX.out
      have hg1 := set4_grown w1 w.heap.size (.int .i64 0) (.int .i64 0) (.int .i64 0) (.int .i64 0)
      have hR2 := set4_heap (.int .i64 0) (.int .i64 0) (.int .i64 0) (.int .i64 0) hR1
      have hb2 := hb.grown hg1 hb.size (fun q e => by cases e; exact Nat.le_refl _)
      refine bodyPost_ret (results_ct rfl _ _ _ _ _ _ rfl ((Below.heap_alloc _ _ _ (Array.getElem?_eq_some_iff.1 hR2).1).trans hR2) Tryd.underlying25 (by kernel_rfl)) rfl ?_
      exact ⟨none, HNO.out, by rw [show optE 0 b none = 160 from HE.out]; rfl, hb2.alloc hb2.size _⟩
    have hnb : ((at' : Int) != 0) = false := by simpa using hn
    by_cases h12 : sz = 12
    case neg =>
      have hzb : ((sz : Int) != 12) = true := by simp; omega
      have hno := HX.out.2.2.2.1 (.inr (.inr h12))
      have HNO := Lib.hid hno
      clear hno hn h12
      go_wp2
      obtain ⟨hR1, hb, -⟩ := HX.out
      have hg1 := set4_grown w1 w.heap.size (.int .i64 0) (.int .i64 0) (.int .i64 0) (.int .i64 0)
      have hR2 := set4_heap (.int .i64 0) (.int .i64 0) (.int .i64 0) (.int .i64 0) hR1
      have hb2 := hb.grown hg1 hb.size (fun q e => by cases e; exact Nat.le_refl _)
      refine bodyPost_ret (results_ct rfl _ _ _ _ _ _ rfl ((Below.heap_alloc _ _ _ (Array.getElem?_eq_some_iff.1 hR2).1).trans hR2) Tryd.underlying25 (by kernel_rfl)) rfl ?_
      exact ⟨none, HNO.out, by rw [show optE 0 b none = 160 from HE.out]; rfl, hb2.alloc hb2.size _⟩
    subst h12
    have hopt := HX.out.2.2.1 hn
    obtain ⟨-, -, -, -, hbo, hle, hb1⟩ := HX.out
    obtain ⟨r0, r1, r2⟩ := rd_takes hsz
    have hokf := fun (h : metaB t (rdN l 0) (rdN l 1) (rdN l 2) = true) => mtOf_ok h
    rw [r0, r1, r2] at hopt hokf
    have hml : mtOf t l = ⟨t.toNat, numOf (l.take 4), numOf ((l.drop 4).take 4), numOf ((l.drop 8).take 4)⟩ := by unfold mtOf; rw [r0, r1, r2]
    have b0 : numOf (l.take 4) < 4294967296 := by have := numOf_lt (l.take 4); rw [List.length_take, hsz] at this; exact this
    have b1 : numOf ((l.drop 4).take 4) < 4294967296 := by have := numOf_lt ((l.drop 4).take 4); rw [List.length_take, List.length_drop, hsz] at this; exact this
    have b2 : numOf ((l.drop 8).take 4) < 4294967296 := by have := numOf_lt ((l.drop 8).take 4); rw [List.length_take, List.length_drop, hsz] at this; exact this
    have hal := (Below.refl w1.heap.size w1).alloc (Nat.le_refl _) (.cells #[.int .i64 k, .int .i64 t, .int .i64 x, .slice ar 12 cr] 55)
    have rd0 := refRead_any ar l cr 4 _ (by decide) _ (hbo.below hal) (by omega)
    have rd1 := refRead_any (slFrom ar cr 4) (l.drop 4) (cr - 4) 4 _ (by decide) _ (rest_at (i := 4) (hbo.below hal) (by omega)) (by rw [List.length_drop]; omega)
    have rd2 := refRead_any (slFrom ar cr 8) (l.drop 8) (cr - 8) 4 _ (by decide) _ (rest_at (i := 8) (hbo.below hal) (by omega)) (by rw [List.length_drop]; omega)
    unfold RefReadPost at rd0 rd1 rd2
    rw [if_neg (by omega), hsz] at rd0
    rw [if_neg (by rw [List.length_drop]; omega), List.length_drop, hsz] at rd1 rd2
    have hs4 : ∀ w', (Instr.sliceAt 22 (.slice ar 12 cr) (some (.int .i64 4)) none none).run Tryd.prog w' = .ok (.slice (slFrom ar cr 4) 8 (cr - 4)) w' := fun w' => sliceFrom w' ar 12 cr 4 (by decide)
    have hs8 : ∀ w', (Instr.sliceAt 22 (.slice ar 12 cr) (some (.int .i64 8)) none none).run Tryd.prog w' = .ok (.slice (slFrom ar cr 8) 4 (cr - 8)) w' := fun w' => sliceFrom w' ar 12 cr 8 (by decide)
    obtain ⟨n0, hn0⟩ : ∃ z, numOf (l.take 4) = z := ⟨_, rfl⟩
    obtain ⟨n1, hn1⟩ : ∃ z, numOf ((l.drop 4).take 4) = z := ⟨_, rfl⟩
    obtain ⟨n2, hn2⟩ : ∃ z, numOf ((l.drop 8).take 4) = z := ⟨_, rfl⟩
    rw [hn0] at rd0 hopt hml hokf b0
    rw [hn1] at rd1 hopt hml hokf b1
    rw [hn2] at rd2 hopt hml hokf b2
    obtain ⟨a4, ha4⟩ : ∃ z, slFrom ar cr 4 = z := ⟨_, rfl⟩
    obtain ⟨a8, ha8⟩ : ∃ z, slFrom ar cr 8 = z := ⟨_, rfl⟩
    rw [ha4] at rd1
    rw [ha8] at rd2
    simp only [ha4] at hs4
    simp only [ha8] at hs8
    have w0 : wrap64 (n0 : Int) = n0 := by unfold wrap64; omega
    have w1' : wrap64 (n1 : Int) = n1 := by unfold wrap64; omega
    have w2' : wrap64 (n2 : Int) = n2 := by unfold wrap64; omega
    have R0 := Lib.hid rd0
    have R1 := Lib.hid rd1
    have R2 := Lib.hid rd2
    have HO := Lib.hid (And.intro hopt (And.intro hml (And.intro hal hokf)))
    clear rd0 rd1 rd2 hopt hml hal hbo hokf hb1 hle r0 r1 r2 b0 b1 b2 hn0 hn1 hn2 ha4 ha8 hn hsz
    go_wp2_with fail
    refine R0.out.mono ?_
    rintro e w2 ⟨rfl, rfl⟩
    go_wp2_with fail
    refine R1.out.mono ?_
    rintro e w2 ⟨rfl, rfl⟩
    go_wp2_with fail
    refine R2.out.mono ?_
    rintro e w2 ⟨rfl, rfl⟩
    go_wp2_with fail
    have hM7 := heap_alloc_two w1 (.cells #[.int .i64 k, .int .i64 t, .int .i64 x, .slice ar 12 cr] 55) (.cells #[.int .i64 t, .int .i64 n0, .int .i64 n1, .int .i64 n2] 25)
    have hb7 : Below w1.heap.size w1 ((w1.alloc (.cells #[.int .i64 k, .int .i64 t, .int .i64 x, .slice ar 12 cr] 55)).alloc (.cells #[.int .i64 t, .int .i64 n0, .int .i64 n1, .int .i64 n2] 25)) := ((Below.refl _ _).alloc (Nat.le_refl _) _).alloc (by simp) _
    revert hM7 hb7
    generalize (w1.alloc (.cells #[.int .i64 k, .int .i64 t, .int .i64 x, .slice ar 12 cr] 55)).alloc (.cells #[.int .i64 t, .int .i64 n0, .int .i64 n1, .int .i64 n2] 25) = W7
    intro hM7 hb7
    have hb := go_on HX.out.2.1 hb7
    have hR7 := go_row HX.out.1 hb7
    have hl7 := (Array.getElem?_eq_some_iff.1 hM7).1
    obtain ⟨hopt, hml, -, hokf⟩ := HO.out
    obtain ⟨mb, hmb⟩ : ∃ mb, metaB t n0 n1 n2 = mb := ⟨_, rfl⟩
    obtain ⟨mt, hmt⟩ : ∃ mt, mtOf t l = mt := ⟨_, rfl⟩
    rw [hmt] at hopt hml hokf
    obtain ⟨sm, hsm⟩ : ∃ sm, (mt.raw == b) = sm := ⟨_, rfl⟩
    rw [hmb, hsm] at hopt
    rw [hmb] at hokf
    have hval : mb = true → mt.ok ∧ mt.val = mtv t n0 n1 n2 := fun e => ⟨(hokf e).1, by have h2 := (hokf e).2; unfold Mt.val; rw [h2, hml]⟩
    have hbb : BytesAt n₁ W7 a b := HM.out.1.below (hb.mono HM.out.2.1)
    have hmr := fun w' => mright_any t n0 n1 n2 w'
    rw [hmb] at hmr
    clear d0 d1 d2 d3 fd0 fd1 fd2 fd3 hlt w0 w1' w2' R0 R1 R2 HO hml hokf hmb hmt hs4 hs8 hnb
    refine wp_region_m (fun _ w' => Below W7.heap.size W7 w') (PdV mb sm (mtv t n0 n1 n2) (.slice a 256 c) mt.raw b) (by kernel_rfl) (by kernel_rfl) (by kernel_rfl) (by kernel_rfl) (Below.refl _ _).drew ?step ?fin
    case step =>
      intro q o ho listed a' w' hI hn' hpre
      have hq : q < 11 := (Array.getElem?_eq_some_iff.1 ho).1
      have hB := hI.inv
      match q, hq with
      | 0, _ =>
        cases ho
        exact wpOp_load rfl rfl rfl (hI.kept (t := 15) (by kernel_rfl)) (load_mtv (go_row hM7 hB)) ⟨_, rfl, hB, fun _ => rfl, fun _ _ _ h => h⟩
      | 1, _ =>
        cases ho
        have e0 : a'.eval (.tmp 77) = mtv t n0 n1 n2 := hI.slot 0 77 rfl (hpre ⟨0, .data⟩ (by simp) rfl) rfl
        refine wpOp_callFn rfl rfl rfl (vs := #[mtv t n0 n1 n2]) (by simp only [List.map_toArray, List.map_cons, List.map_nil, e0]) (fun _ _ => by kernel_rfl) ((hmr w').mono ?_)
        rintro e w'' ⟨rfl, hb2⟩
        exact ⟨_, rfl, _, rfl, hB.trans (hb2.mono hB.size), fun _ => rfl, fun j v _ h => PdV.below hb2 j v h⟩
      | 2, _ =>
        cases ho
        exact wpOp_notB rfl rfl rfl (hI.slot 1 78 rfl (hpre ⟨1, .data⟩ (by simp) rfl) rfl) rfl ⟨_, rfl, hB, fun _ => rfl, fun _ _ _ h => h⟩
      | 3, _ =>
        cases ho
        exact wpOp_move rfl rfl (.inl rfl) (hI.slot 2 79 rfl (hpre ⟨2, .data⟩ (by simp) rfl) rfl) ⟨_, rfl, hB, fun _ => rfl, fun _ _ _ h => h⟩
      | 4, _ =>
        cases ho
        have eg : a'.eval (.tmp 80) = .bool (!mb) := hI.slot 3 80 rfl (hpre ⟨3, .guard⟩ (by simp) rfl) rfl
        by_cases hw : mb = true
        · have eg2 : a'.eval (.tmp 80) = .bool false := by rw [eg, hw]; rfl
          exact wpOp_load rfl (wantedOf (j := 3) (b := false) rfl rfl rfl (by rw [hI.len]; show _ < 90; decide) eg2) rfl (hI.kept (t := 15) (by kernel_rfl)) (load_mtv (go_row hM7 hB)) ⟨_, rfl, hB, fun _ => fun _ => rfl, fun _ _ _ h => h⟩
        · have hw' : mb = false := by simpa using hw
          exact wpOp_off rfl (wantedOff (j := 3) (b := false) (b' := true) rfl rfl rfl (by rw [hI.len]; show _ < 90; decide) (by rw [eg, hw']; rfl) (by decide)) ⟨_, rfl, hB, fun _ => fun h => absurd h hw, fun j u _ h => PdV.below (Below.refl _ _) j u h⟩
      | 5, _ =>
        cases ho
        have eg : a'.eval (.tmp 80) = .bool (!mb) := hI.slot 3 80 rfl (hpre ⟨3, .guard⟩ (by simp) rfl) rfl
        by_cases hw : mb = true
        · have eg2 : a'.eval (.tmp 80) = .bool false := by rw [eg, hw]; rfl
          have e0 : a'.eval (.tmp 81) = mtv t n0 n1 n2 := (hI.slot 4 81 rfl (hpre ⟨4, .data⟩ (by simp) rfl) rfl) hw
          obtain ⟨mok, mvl⟩ := hval hw
          have hrw := mrraw_any mt mok w'
          rw [mvl] at hrw
          refine wpOp_callFn rfl (wantedOf (j := 3) (b := false) rfl rfl rfl (by rw [hI.len]; show _ < 90; decide) eg2) rfl (vs := #[mtv t n0 n1 n2]) (by simp only [List.map_toArray, List.map_cons, List.map_nil, e0]) (fun _ _ => by kernel_rfl) (hrw.mono ?_)
          rintro e w'' ⟨v, rfl, hO, hb2⟩
          exact ⟨_, rfl, _, rfl, hB.trans (hb2.mono hB.size), fun _ => fun _ => hO.isBs, fun j v _ h => PdV.below hb2 j v h⟩
        · have hw' : mb = false := by simpa using hw
          exact wpOp_off rfl (wantedOff (j := 3) (b := false) (b' := true) rfl rfl rfl (by rw [hI.len]; show _ < 90; decide) (by rw [eg, hw']; rfl) (by decide)) ⟨_, rfl, hB, fun _ => fun h => absurd h hw, fun j u _ h => PdV.below (Below.refl _ _) j u h⟩
      | 6, _ =>
        cases ho
        have eg : a'.eval (.tmp 80) = .bool (!mb) := hI.slot 3 80 rfl (hpre ⟨3, .guard⟩ (by simp) rfl) rfl
        by_cases hw : mb = true
        · have eg2 : a'.eval (.tmp 80) = .bool false := by rw [eg, hw]; rfl
          obtain ⟨a9, c9, e9, h9, -⟩ : IsBs w'.heap.size w' (a'.eval (.tmp 82)) mt.raw := (hI.slot 5 82 rfl (hpre ⟨5, .data⟩ (by simp) rfl) rfl) hw
          exact wpOp_conv rfl (wantedOf (j := 3) (b := false) rfl rfl rfl (by rw [hI.len]; show _ < 90; decide) eg2) rfl e9 (conv_at w' a9 mt.raw c9 w'.heap.size h9) ⟨_, rfl, hB, fun _ => fun _ => rfl, fun _ _ _ h => h⟩
        · have hw' : mb = false := by simpa using hw
          exact wpOp_off rfl (wantedOff (j := 3) (b := false) (b' := true) rfl rfl rfl (by rw [hI.len]; show _ < 90; decide) (by rw [eg, hw']; rfl) (by decide)) ⟨_, rfl, hB, fun _ => fun h => absurd h hw, fun j u _ h => PdV.below (Below.refl _ _) j u h⟩
      | 7, _ =>
        cases ho
        have eg : a'.eval (.tmp 80) = .bool (!mb) := hI.slot 3 80 rfl (hpre ⟨3, .guard⟩ (by simp) rfl) rfl
        by_cases hw : mb = true
        · have eg2 : a'.eval (.tmp 80) = .bool false := by rw [eg, hw]; rfl
          exact wpOp_move rfl (wantedOf (j := 3) (b := false) rfl rfl rfl (by rw [hI.len]; show _ < 90; decide) eg2) (.inl rfl) (hI.kept (t := 1) (by kernel_rfl)) ⟨_, rfl, hB, fun _ => fun _ => rfl, fun _ _ _ h => h⟩
        · have hw' : mb = false := by simpa using hw
          exact wpOp_off rfl (wantedOff (j := 3) (b := false) (b' := true) rfl rfl rfl (by rw [hI.len]; show _ < 90; decide) (by rw [eg, hw']; rfl) (by decide)) ⟨_, rfl, hB, fun _ => fun h => absurd h hw, fun j u _ h => PdV.below (Below.refl _ _) j u h⟩
      | 8, _ =>
        cases ho
        have eg : a'.eval (.tmp 80) = .bool (!mb) := hI.slot 3 80 rfl (hpre ⟨3, .guard⟩ (by simp) rfl) rfl
        by_cases hw : mb = true
        · have eg2 : a'.eval (.tmp 80) = .bool false := by rw [eg, hw]; rfl
          have e7 : a'.eval (.tmp 84) = .slice a 256 c := (hI.slot 7 84 rfl (hpre ⟨7, .data⟩ (by simp) rfl) rfl) hw
          have hcv := conv_at w' a b c n₁ (hbb.below (hB.mono (Nat.le_trans HM.out.2.1 hb.size)))
          rw [HM.out.2.2.2.1] at hcv
          exact wpOp_conv rfl (wantedOf (j := 3) (b := false) rfl rfl rfl (by rw [hI.len]; show _ < 90; decide) eg2) rfl e7 hcv ⟨_, rfl, hB, fun _ => fun _ => rfl, fun _ _ _ h => h⟩
        · have hw' : mb = false := by simpa using hw
          exact wpOp_off rfl (wantedOff (j := 3) (b := false) (b' := true) rfl rfl rfl (by rw [hI.len]; show _ < 90; decide) (by rw [eg, hw']; rfl) (by decide)) ⟨_, rfl, hB, fun _ => fun h => absurd h hw, fun j u _ h => PdV.below (Below.refl _ _) j u h⟩
      | 9, _ =>
        cases ho
        have eg : a'.eval (.tmp 80) = .bool (!mb) := hI.slot 3 80 rfl (hpre ⟨3, .guard⟩ (by simp) rfl) rfl
        by_cases hw : mb = true
        · have eg2 : a'.eval (.tmp 80) = .bool false := by rw [eg, hw]; rfl
          have e0 : a'.eval (.tmp 83) = .string ⟨mt.raw.toArray⟩ := (hI.slot 6 83 rfl (hpre ⟨6, .data⟩ (by simp) rfl) rfl) hw
          have e1 : a'.eval (.tmp 85) = .string ⟨b.toArray⟩ := (hI.slot 8 85 rfl (hpre ⟨8, .data⟩ (by simp) rfl) rfl) hw
          refine wpOp_neqS rfl (wantedOf (j := 3) (b := false) rfl rfl rfl (by rw [hI.len]; show _ < 90; decide) eg2) rfl e0 e1 ?_
          rw [ByteArray.toList_eq, ByteArray.toList_eq]
          refine ⟨_, rfl, hB, fun _ => fun _ => ?_, fun _ _ _ h => h⟩
          show Value.bool (mt.raw != b) = _
          rw [bne, hsm]
        · have hw' : mb = false := by simpa using hw
          exact wpOp_off rfl (wantedOff (j := 3) (b := false) (b' := true) rfl rfl rfl (by rw [hI.len]; show _ < 90; decide) (by rw [eg, hw']; rfl) (by decide)) ⟨_, rfl, hB, fun _ => fun h => absurd h hw, fun j u _ h => PdV.below (Below.refl _ _) j u h⟩
      | 10, _ =>
        cases ho
        have e0 : a'.eval (.tmp 80) = .bool (!mb) := hI.slot 3 80 rfl (hpre ⟨3, .data⟩ (by simp) rfl) rfl
        have e1 : mb = true → a'.eval (.tmp 86) = .bool (!sm) := hI.slot 9 86 rfl (hpre ⟨9, .data⟩ (by simp) rfl) rfl
        have p1 : (!mb) = true → Value.bool true = .bool (!(mb && sm)) := fun h => by
          have h2 : mb = false := by simpa using h
          rw [h2]; rfl
        have p2 : (!mb) = false → a'.eval (.tmp 86) = .bool (!(mb && sm)) := fun h => by
          have h2 : mb = true := by simpa using h
          rw [e1 h2, h2]; rfl
        exact wpOp_pick2 rfl rfl rfl e0 (v := .bool (!(mb && sm))) p1 p2 rfl ⟨_, rfl, hB, fun _ => rfl, fun _ _ _ h => h⟩
    case fin =>
      intro listed a' w8 hI hall
      have hB := hI.inv
      have e87 : a'.tmps.getD 87 undef = .bool (!(mb && sm)) := hI.slot 10 87 rfl (hall 10 (by decide)) rfl
      obtain ⟨vs, hvl, hvs, e⟩ := hI.frame 77 11 (Nat.le_of_ble_eq_true (by kernel_rfl)) (by kernel_rfl)
      have v10 := hvs 10 (by decide)
      clear hI hall hvs
      match vs, hvl with
      | [y0, y1, y2, y3, y4, y5, y6, y7, y8, y9, y10], _ =>
      simp only [List.getElem?_cons_zero, List.getElem?_cons_succ, Option.some.injEq] at v10
      rw [show 77 + 10 = 87 from rfl, e87] at v10
      subst v10
      simp only [List.take_succ_cons, List.take_zero, List.drop_succ_cons, List.drop_zero, List.cons_append, List.nil_append, Nat.reduceAdd] at e
      subst e
      have hR1 := go_row hR7 hB
      have hM8 := go_row hM7 hB
      have hb8 := go_on hb hB
      have hlt := (Array.getElem?_eq_some_iff.1 hR1).1
      have d0 := cell_of_row w8 w.heap.size 0 _ _ _ hR1; have fd0 := frozen_of_row w8 w.heap.size 0 _ _ hR1
      have d1 := cell_of_row w8 w.heap.size 1 _ _ _ hR1; have fd1 := frozen_of_row w8 w.heap.size 1 _ _ hR1
      have d2 := cell_of_row w8 w.heap.size 2 _ _ _ hR1; have fd2 := frozen_of_row w8 w.heap.size 2 _ _ hR1
      have d3 := cell_of_row w8 w.heap.size 3 _ _ _ hR1; have fd3 := frozen_of_row w8 w.heap.size 3 _ _ hR1
      simp only [List.getElem?_toArray, List.getElem?_cons_zero, List.getElem?_cons_succ] at d0 d1 d2 d3
      have m0 := cell_of_row w8 (w1.heap.size + 1) 0 _ _ _ hM8
      have m1 := cell_of_row w8 (w1.heap.size + 1) 1 _ _ _ hM8
      have m2 := cell_of_row w8 (w1.heap.size + 1) 2 _ _ _ hM8
      have m3 := cell_of_row w8 (w1.heap.size + 1) 3 _ _ _ hM8
      simp only [List.getElem?_toArray, List.getElem?_cons_zero, List.getElem?_cons_succ] at m0 m1 m2 m3
      have HX8 := Lib.hid (And.intro hR1 (And.intro hb8 (And.intro hopt hval)))
      clear hR1 hM8 hb8 hopt hval hB hM7 hb7 hb hR7 hl7 hbb hmr e87 hsm
      cases mb with
      | false =>
        go_wp2
        obtain ⟨hR1, hb, hopt, -⟩ := HX8.out
        have hg1 := set4_grown w8 w.heap.size (.int .i64 0) (.int .i64 0) (.int .i64 0) (.int .i64 0)
        have hR2 := set4_heap (.int .i64 0) (.int .i64 0) (.int .i64 0) (.int .i64 0) hR1
        have hb2 := hb.grown hg1 hb.size (fun q e => by cases e; exact Nat.le_refl _)
        refine bodyPost_ret (results_ct rfl _ _ _ _ _ _ rfl hR2 Tryd.underlying25 (by kernel_rfl)) rfl ?_
        exact ⟨none, hopt, by rw [show optE 0 b none = 160 from HE.out]; rfl, hb2⟩
      | true =>
        cases sm with
        | false =>
          go_wp2
          obtain ⟨hR1, hb, hopt, -⟩ := HX8.out
          have hg1 := set4_grown w8 w.heap.size (.int .i64 0) (.int .i64 0) (.int .i64 0) (.int .i64 0)
          have hR2 := set4_heap (.int .i64 0) (.int .i64 0) (.int .i64 0) (.int .i64 0) hR1
          have hb2 := hb.grown hg1 hb.size (fun q e => by cases e; exact Nat.le_refl _)
          refine bodyPost_ret (results_ct rfl _ _ _ _ _ _ rfl hR2 Tryd.underlying25 (by kernel_rfl)) rfl ?_
          exact ⟨none, hopt, by rw [show optE 0 b none = 160 from HE.out]; rfl, hb2⟩
        | true =>
          go_wp2
          obtain ⟨hR1, hb, hopt, hval⟩ := HX8.out
          have hg1 := set4_grown w8 w.heap.size (.int .i64 t) (.int .i64 n0) (.int .i64 n1) (.int .i64 n2)
          have hR2 := set4_heap (.int .i64 t) (.int .i64 n0) (.int .i64 n1) (.int .i64 n2) hR1
          have hb2 := hb.grown hg1 hb.size (fun q e => by cases e; exact Nat.le_refl _)
          refine bodyPost_ret (results_ct rfl _ _ _ _ _ _ rfl hR2 Tryd.underlying25 (by kernel_rfl)) rfl ?_
          exact ⟨some mt, hopt, by rw [show optM (some mt) = mtv t n0 n1 n2 from (hval trivial).2]; rfl, hb2⟩
  · skip
    clear g01
    go_enter Tryd.func12, Tryd.ntmps12
    go_wp2_with fail
    refine HLK.out.mono ?_
    rintro e w1 ⟨hb1, ⟨hlk, ar, cr, rfl, hbo, hle⟩ | ⟨hlk, rfl⟩⟩
    case inr =>
      have hb := go_on HB.out.1 hb1
      have hR1 := go_row HB.out.2 hb1
      have d0 := cell_of_row w1 w.heap.size 0 _ _ _ hR1; have fd0 := frozen_of_row w1 w.heap.size 0 _ _ hR1
      have d1 := cell_of_row w1 w.heap.size 1 _ _ _ hR1; have fd1 := frozen_of_row w1 w.heap.size 1 _ _ hR1
      have d2 := cell_of_row w1 w.heap.size 2 _ _ _ hR1; have fd2 := frozen_of_row w1 w.heap.size 2 _ _ hR1
      have d3 := cell_of_row w1 w.heap.size 3 _ _ _ hR1; have fd3 := frozen_of_row w1 w.heap.size 3 _ _ hR1
      simp only [List.getElem?_toArray, List.getElem?_cons_zero, List.getElem?_cons_succ] at d0 d1 d2 d3
      have hlt := (Array.getElem?_eq_some_iff.1 hR1).1
      have hpb : ((lookE b : Int) != 0) = true := by simpa using hlk
      have HX := Lib.hid (And.intro hR1 (And.intro hb (opt_look (n := 1) (b := b) (.inl hlk))))
      generalize (lookE b : Int) = pe at hpb
      clear hR1 hb hlk HLK hb1 HM
      go_wp2
      obtain ⟨hR1, hb, hno⟩ := HX.out
      have hg1 := set4_grown w1 w.heap.size (.int .i64 0) (.int .i64 0) (.int .i64 0) (.int .i64 0)
      have hR2 := set4_heap (.int .i64 0) (.int .i64 0) (.int .i64 0) (.int .i64 0) hR1
      have hb2 := hb.grown hg1 hb.size (fun q e => by cases e; exact Nat.le_refl _)
      refine bodyPost_ret (results_ct rfl _ _ _ _ _ _ rfl ((Below.heap_alloc _ _ _ (Array.getElem?_eq_some_iff.1 hR2).1).trans hR2) Tryd.underlying25 (by kernel_rfl)) rfl ?_
      exact ⟨none, hno, by rw [show optE 1 b none = 160 from HE.out]; rfl, hb2.alloc hb2.size _⟩
    obtain ⟨-, -, -, -, -, -, -, hsz⟩ := look_raw hlk
    have hname := fun hn => opt_name (n := 1) hlk hn (.inr rfl)
    have hlook := fun h => opt_look (n := 1) (b := b) h
    have hb := go_on HB.out.1 hb1
    have hR1 := go_row HB.out.2 hb1
    obtain ⟨k, hk⟩ : ∃ k, atK b = k := ⟨_, rfl⟩
    obtain ⟨t, ht⟩ : ∃ k, wrap64 (atT b) = k := ⟨_, rfl⟩
    obtain ⟨x, hx⟩ : ∃ k, atX b = k := ⟨_, rfl⟩
    obtain ⟨l, hl⟩ : ∃ k, atB b = k := ⟨_, rfl⟩
    obtain ⟨at', hat⟩ : ∃ k, atN b = k := ⟨_, rfl⟩
    obtain ⟨sz, hsze⟩ : ∃ k, atS b = k := ⟨_, rfl⟩
    rw [hk, ht, hx, hat, hsze]
    rw [hl] at hbo hsz
    rw [hsze] at hsz hle
    simp only [ht, hl, hat, hsze] at hname hlook
    have d0 := cell_of_row w1 w.heap.size 0 _ _ _ hR1; have fd0 := frozen_of_row w1 w.heap.size 0 _ _ hR1
    have d1 := cell_of_row w1 w.heap.size 1 _ _ _ hR1; have fd1 := frozen_of_row w1 w.heap.size 1 _ _ hR1
    have d2 := cell_of_row w1 w.heap.size 2 _ _ _ hR1; have fd2 := frozen_of_row w1 w.heap.size 2 _ _ hR1
    have d3 := cell_of_row w1 w.heap.size 3 _ _ _ hR1; have fd3 := frozen_of_row w1 w.heap.size 3 _ _ hR1
    simp only [List.getElem?_toArray, List.getElem?_cons_zero, List.getElem?_cons_succ] at d0 d1 d2 d3
    have hlt := (Array.getElem?_eq_some_iff.1 hR1).1
    have HX := Lib.hid (And.intro hR1 (And.intro hb (And.intro hname (And.intro hlook (And.intro hbo (And.intro hle hb1))))))
    clear hR1 hb hname hlook hbo hle hb1 hk ht hx hl hat hsze hlk HLK
    by_cases hn : (at' : Int) = 1
    case neg =>
      have hnb : ((at' : Int) != 1) = true := by simpa using hn
      have hno := HX.out.2.2.2.1 (.inr (.inl hn))
      have HNO := Lib.hid hno
      clear hno hn
      go_wp2
      obtain ⟨hR1, hb, -⟩ := HX.out
      have hg1 := set4_grown w1 w.heap.size (.int .i64 0) (.int .i64 0) (.int .i64 0) (.int .i64 0)
      have hR2 := set4_heap (.int .i64 0) (.int .i64 0) (.int .i64 0) (.int .i64 0) hR1
      have hb2 := hb.grown hg1 hb.size (fun q e => by cases e; exact Nat.le_refl _)
      refine bodyPost_ret (results_ct rfl _ _ _ _ _ _ rfl ((Below.heap_alloc _ _ _ (Array.getElem?_eq_some_iff.1 hR2).1).trans hR2) Tryd.underlying25 (by kernel_rfl)) rfl ?_
      exact ⟨none, HNO.out, by rw [show optE 1 b none = 160 from HE.out]; rfl, hb2.alloc hb2.size _⟩
    have hnb : ((at' : Int) != 1) = false := by simpa using hn
    by_cases h12 : sz = 12
    case neg =>
      have hzb : ((sz : Int) != 12) = true := by simp; omega
      have hno := HX.out.2.2.2.1 (.inr (.inr h12))
      have HNO := Lib.hid hno
      clear hno hn h12
      go_wp2
      obtain ⟨hR1, hb, -⟩ := HX.out
      have hg1 := set4_grown w1 w.heap.size (.int .i64 0) (.int .i64 0) (.int .i64 0) (.int .i64 0)
      have hR2 := set4_heap (.int .i64 0) (.int .i64 0) (.int .i64 0) (.int .i64 0) hR1
      have hb2 := hb.grown hg1 hb.size (fun q e => by cases e; exact Nat.le_refl _)
      refine bodyPost_ret (results_ct rfl _ _ _ _ _ _ rfl ((Below.heap_alloc _ _ _ (Array.getElem?_eq_some_iff.1 hR2).1).trans hR2) Tryd.underlying25 (by kernel_rfl)) rfl ?_
      exact ⟨none, HNO.out, by rw [show optE 1 b none = 160 from HE.out]; rfl, hb2.alloc hb2.size _⟩
    subst h12
    have hopt := HX.out.2.2.1 hn
    obtain ⟨-, -, -, -, hbo, hle, hb1⟩ := HX.out
    obtain ⟨r0, r1, r2⟩ := rd_takes hsz
    have hokf := fun (h : metaB t (rdN l 0) (rdN l 1) (rdN l 2) = true) => mtOf_ok h
    rw [r0, r1, r2] at hopt hokf
    have hml : mtOf t l = ⟨t.toNat, numOf (l.take 4), numOf ((l.drop 4).take 4), numOf ((l.drop 8).take 4)⟩ := by unfold mtOf; rw [r0, r1, r2]
    have b0 : numOf (l.take 4) < 4294967296 := by have := numOf_lt (l.take 4); rw [List.length_take, hsz] at this; exact this
    have b1 : numOf ((l.drop 4).take 4) < 4294967296 := by have := numOf_lt ((l.drop 4).take 4); rw [List.length_take, List.length_drop, hsz] at this; exact this
    have b2 : numOf ((l.drop 8).take 4) < 4294967296 := by have := numOf_lt ((l.drop 8).take 4); rw [List.length_take, List.length_drop, hsz] at this; exact this
    have hal := (Below.refl w1.heap.size w1).alloc (Nat.le_refl _) (.cells #[.int .i64 k, .int .i64 t, .int .i64 x, .slice ar 12 cr] 55)
    have rd0 := refRead_any ar l cr 4 _ (by decide) _ (hbo.below hal) (by omega)
    have rd1 := refRead_any (slFrom ar cr 4) (l.drop 4) (cr - 4) 4 _ (by decide) _ (rest_at (i := 4) (hbo.below hal) (by omega)) (by rw [List.length_drop]; omega)
    have rd2 := refRead_any (slFrom ar cr 8) (l.drop 8) (cr - 8) 4 _ (by decide) _ (rest_at (i := 8) (hbo.below hal) (by omega)) (by rw [List.length_drop]; omega)
    unfold RefReadPost at rd0 rd1 rd2
    rw [if_neg (by omega), hsz] at rd0
    rw [if_neg (by rw [List.length_drop]; omega), List.length_drop, hsz] at rd1 rd2
    have hs4 : ∀ w', (Instr.sliceAt 22 (.slice ar 12 cr) (some (.int .i64 4)) none none).run Tryd.prog w' = .ok (.slice (slFrom ar cr 4) 8 (cr - 4)) w' := fun w' => sliceFrom w' ar 12 cr 4 (by decide)
    have hs8 : ∀ w', (Instr.sliceAt 22 (.slice ar 12 cr) (some (.int .i64 8)) none none).run Tryd.prog w' = .ok (.slice (slFrom ar cr 8) 4 (cr - 8)) w' := fun w' => sliceFrom w' ar 12 cr 8 (by decide)
    obtain ⟨n0, hn0⟩ : ∃ z, numOf (l.take 4) = z := ⟨_, rfl⟩
    obtain ⟨n1, hn1⟩ : ∃ z, numOf ((l.drop 4).take 4) = z := ⟨_, rfl⟩
    obtain ⟨n2, hn2⟩ : ∃ z, numOf ((l.drop 8).take 4) = z := ⟨_, rfl⟩
    rw [hn0] at rd0 hopt hml hokf b0
    rw [hn1] at rd1 hopt hml hokf b1
    rw [hn2] at rd2 hopt hml hokf b2
    obtain ⟨a4, ha4⟩ : ∃ z, slFrom ar cr 4 = z := ⟨_, rfl⟩
    obtain ⟨a8, ha8⟩ : ∃ z, slFrom ar cr 8 = z := ⟨_, rfl⟩
    rw [ha4] at rd1
    rw [ha8] at rd2
    simp only [ha4] at hs4
    simp only [ha8] at hs8
    have w0 : wrap64 (n0 : Int) = n0 := by unfold wrap64; omega
    have w1' : wrap64 (n1 : Int) = n1 := by unfold wrap64; omega
    have w2' : wrap64 (n2 : Int) = n2 := by unfold wrap64; omega
    have R0 := Lib.hid rd0
    have R1 := Lib.hid rd1
    have R2 := Lib.hid rd2
    have HO := Lib.hid (And.intro hopt (And.intro hml (And.intro hal hokf)))
    clear rd0 rd1 rd2 hopt hml hal hbo hokf hb1 hle r0 r1 r2 b0 b1 b2 hn0 hn1 hn2 ha4 ha8 hn hsz
    go_wp2_with fail
    refine R0.out.mono ?_
    rintro e w2 ⟨rfl, rfl⟩
    go_wp2_with fail
    refine R1.out.mono ?_
    rintro e w2 ⟨rfl, rfl⟩
    go_wp2_with fail
    refine R2.out.mono ?_
    rintro e w2 ⟨rfl, rfl⟩
    go_wp2_with fail
    have hM7 := heap_alloc_two w1 (.cells #[.int .i64 k, .int .i64 t, .int .i64 x, .slice ar 12 cr] 55) (.cells #[.int .i64 t, .int .i64 n0, .int .i64 n1, .int .i64 n2] 25)
    have hb7 : Below w1.heap.size w1 ((w1.alloc (.cells #[.int .i64 k, .int .i64 t, .int .i64 x, .slice ar 12 cr] 55)).alloc (.cells #[.int .i64 t, .int .i64 n0, .int .i64 n1, .int .i64 n2] 25)) := ((Below.refl _ _).alloc (Nat.le_refl _) _).alloc (by simp) _
    revert hM7 hb7
    generalize (w1.alloc (.cells #[.int .i64 k, .int .i64 t, .int .i64 x, .slice ar 12 cr] 55)).alloc (.cells #[.int .i64 t, .int .i64 n0, .int .i64 n1, .int .i64 n2] 25) = W7
    intro hM7 hb7
    have hb := go_on HX.out.2.1 hb7
    have hR7 := go_row HX.out.1 hb7
    have hl7 := (Array.getElem?_eq_some_iff.1 hM7).1
    obtain ⟨hopt, hml, -, hokf⟩ := HO.out
    obtain ⟨mb, hmb⟩ : ∃ mb, metaB t n0 n1 n2 = mb := ⟨_, rfl⟩
    obtain ⟨mt, hmt⟩ : ∃ mt, mtOf t l = mt := ⟨_, rfl⟩
    rw [hmt] at hopt hml hokf
    obtain ⟨sm, hsm⟩ : ∃ sm, (mt.raw == b) = sm := ⟨_, rfl⟩
    rw [hmb, hsm] at hopt
    rw [hmb] at hokf
    have hval : mb = true → mt.ok ∧ mt.val = mtv t n0 n1 n2 := fun e => ⟨(hokf e).1, by have h2 := (hokf e).2; unfold Mt.val; rw [h2, hml]⟩
    have hbb : BytesAt n₁ W7 a b := HM.out.1.below (hb.mono HM.out.2.1)
    have hmr := fun w' => mright_any t n0 n1 n2 w'
    rw [hmb] at hmr
    clear d0 d1 d2 d3 fd0 fd1 fd2 fd3 hlt w0 w1' w2' R0 R1 R2 HO hml hokf hmb hmt hs4 hs8 hnb
    refine wp_region_m (fun _ w' => Below W7.heap.size W7 w') (PdV mb sm (mtv t n0 n1 n2) (.slice a 256 c) mt.raw b) (by kernel_rfl) (by kernel_rfl) (by kernel_rfl) (by kernel_rfl) (Below.refl _ _).drew ?step ?fin
    case step =>
      intro q o ho listed a' w' hI hn' hpre
      have hq : q < 11 := (Array.getElem?_eq_some_iff.1 ho).1
      have hB := hI.inv
      match q, hq with
      | 0, _ =>
        cases ho
        exact wpOp_load rfl rfl rfl (hI.kept (t := 15) (by kernel_rfl)) (load_mtv (go_row hM7 hB)) ⟨_, rfl, hB, fun _ => rfl, fun _ _ _ h => h⟩
      | 1, _ =>
        cases ho
        have e0 : a'.eval (.tmp 77) = mtv t n0 n1 n2 := hI.slot 0 77 rfl (hpre ⟨0, .data⟩ (by simp) rfl) rfl
        refine wpOp_callFn rfl rfl rfl (vs := #[mtv t n0 n1 n2]) (by simp only [List.map_toArray, List.map_cons, List.map_nil, e0]) (fun _ _ => by kernel_rfl) ((hmr w').mono ?_)
        rintro e w'' ⟨rfl, hb2⟩
        exact ⟨_, rfl, _, rfl, hB.trans (hb2.mono hB.size), fun _ => rfl, fun j v _ h => PdV.below hb2 j v h⟩
      | 2, _ =>
        cases ho
        exact wpOp_notB rfl rfl rfl (hI.slot 1 78 rfl (hpre ⟨1, .data⟩ (by simp) rfl) rfl) rfl ⟨_, rfl, hB, fun _ => rfl, fun _ _ _ h => h⟩
      | 3, _ =>
        cases ho
        exact wpOp_move rfl rfl (.inl rfl) (hI.slot 2 79 rfl (hpre ⟨2, .data⟩ (by simp) rfl) rfl) ⟨_, rfl, hB, fun _ => rfl, fun _ _ _ h => h⟩
      | 4, _ =>
        cases ho
        have eg : a'.eval (.tmp 80) = .bool (!mb) := hI.slot 3 80 rfl (hpre ⟨3, .guard⟩ (by simp) rfl) rfl
        by_cases hw : mb = true
        · have eg2 : a'.eval (.tmp 80) = .bool false := by rw [eg, hw]; rfl
          exact wpOp_load rfl (wantedOf (j := 3) (b := false) rfl rfl rfl (by rw [hI.len]; show _ < 90; decide) eg2) rfl (hI.kept (t := 15) (by kernel_rfl)) (load_mtv (go_row hM7 hB)) ⟨_, rfl, hB, fun _ => fun _ => rfl, fun _ _ _ h => h⟩
        · have hw' : mb = false := by simpa using hw
          exact wpOp_off rfl (wantedOff (j := 3) (b := false) (b' := true) rfl rfl rfl (by rw [hI.len]; show _ < 90; decide) (by rw [eg, hw']; rfl) (by decide)) ⟨_, rfl, hB, fun _ => fun h => absurd h hw, fun j u _ h => PdV.below (Below.refl _ _) j u h⟩
      | 5, _ =>
        cases ho
        have eg : a'.eval (.tmp 80) = .bool (!mb) := hI.slot 3 80 rfl (hpre ⟨3, .guard⟩ (by simp) rfl) rfl
        by_cases hw : mb = true
        · have eg2 : a'.eval (.tmp 80) = .bool false := by rw [eg, hw]; rfl
          have e0 : a'.eval (.tmp 81) = mtv t n0 n1 n2 := (hI.slot 4 81 rfl (hpre ⟨4, .data⟩ (by simp) rfl) rfl) hw
          obtain ⟨mok, mvl⟩ := hval hw
          have hrw := mrraw_any mt mok w'
          rw [mvl] at hrw
          refine wpOp_callFn rfl (wantedOf (j := 3) (b := false) rfl rfl rfl (by rw [hI.len]; show _ < 90; decide) eg2) rfl (vs := #[mtv t n0 n1 n2]) (by simp only [List.map_toArray, List.map_cons, List.map_nil, e0]) (fun _ _ => by kernel_rfl) (hrw.mono ?_)
          rintro e w'' ⟨v, rfl, hO, hb2⟩
          exact ⟨_, rfl, _, rfl, hB.trans (hb2.mono hB.size), fun _ => fun _ => hO.isBs, fun j v _ h => PdV.below hb2 j v h⟩
        · have hw' : mb = false := by simpa using hw
          exact wpOp_off rfl (wantedOff (j := 3) (b := false) (b' := true) rfl rfl rfl (by rw [hI.len]; show _ < 90; decide) (by rw [eg, hw']; rfl) (by decide)) ⟨_, rfl, hB, fun _ => fun h => absurd h hw, fun j u _ h => PdV.below (Below.refl _ _) j u h⟩
      | 6, _ =>
        cases ho
        have eg : a'.eval (.tmp 80) = .bool (!mb) := hI.slot 3 80 rfl (hpre ⟨3, .guard⟩ (by simp) rfl) rfl
        by_cases hw : mb = true
        · have eg2 : a'.eval (.tmp 80) = .bool false := by rw [eg, hw]; rfl
          obtain ⟨a9, c9, e9, h9, -⟩ : IsBs w'.heap.size w' (a'.eval (.tmp 82)) mt.raw := (hI.slot 5 82 rfl (hpre ⟨5, .data⟩ (by simp) rfl) rfl) hw
          exact wpOp_conv rfl (wantedOf (j := 3) (b := false) rfl rfl rfl (by rw [hI.len]; show _ < 90; decide) eg2) rfl e9 (conv_at w' a9 mt.raw c9 w'.heap.size h9) ⟨_, rfl, hB, fun _ => fun _ => rfl, fun _ _ _ h => h⟩
        · have hw' : mb = false := by simpa using hw
          exact wpOp_off rfl (wantedOff (j := 3) (b := false) (b' := true) rfl rfl rfl (by rw [hI.len]; show _ < 90; decide) (by rw [eg, hw']; rfl) (by decide)) ⟨_, rfl, hB, fun _ => fun h => absurd h hw, fun j u _ h => PdV.below (Below.refl _ _) j u h⟩
      | 7, _ =>
        cases ho
        have eg : a'.eval (.tmp 80) = .bool (!mb) := hI.slot 3 80 rfl (hpre ⟨3, .guard⟩ (by simp) rfl) rfl
        by_cases hw : mb = true
        · have eg2 : a'.eval (.tmp 80) = .bool false := by rw [eg, hw]; rfl
          exact wpOp_move rfl (wantedOf (j := 3) (b := false) rfl rfl rfl (by rw [hI.len]; show _ < 90; decide) eg2) (.inl rfl) (hI.kept (t := 1) (by kernel_rfl)) ⟨_, rfl, hB, fun _ => fun _ => rfl, fun _ _ _ h => h⟩
        · have hw' : mb = false := by simpa using hw
          exact wpOp_off rfl (wantedOff (j := 3) (b := false) (b' := true) rfl rfl rfl (by rw [hI.len]; show _ < 90; decide) (by rw [eg, hw']; rfl) (by decide)) ⟨_, rfl, hB, fun _ => fun h => absurd h hw, fun j u _ h => PdV.below (Below.refl _ _) j u h⟩
      | 8, _ =>
        cases ho
        have eg : a'.eval (.tmp 80) = .bool (!mb) := hI.slot 3 80 rfl (hpre ⟨3, .guard⟩ (by simp) rfl) rfl
        by_cases hw : mb = true
        · have eg2 : a'.eval (.tmp 80) = .bool false := by rw [eg, hw]; rfl
          have e7 : a'.eval (.tmp 84) = .slice a 256 c := (hI.slot 7 84 rfl (hpre ⟨7, .data⟩ (by simp) rfl) rfl) hw
          have hcv := conv_at w' a b c n₁ (hbb.below (hB.mono (Nat.le_trans HM.out.2.1 hb.size)))
          rw [HM.out.2.2.2.1] at hcv
          exact wpOp_conv rfl (wantedOf (j := 3) (b := false) rfl rfl rfl (by rw [hI.len]; show _ < 90; decide) eg2) rfl e7 hcv ⟨_, rfl, hB, fun _ => fun _ => rfl, fun _ _ _ h => h⟩
        · have hw' : mb = false := by simpa using hw
          exact wpOp_off rfl (wantedOff (j := 3) (b := false) (b' := true) rfl rfl rfl (by rw [hI.len]; show _ < 90; decide) (by rw [eg, hw']; rfl) (by decide)) ⟨_, rfl, hB, fun _ => fun h => absurd h hw, fun j u _ h => PdV.below (Below.refl _ _) j u h⟩
      | 9, _ =>
        cases ho
        have eg : a'.eval (.tmp 80) = .bool (!mb) := hI.slot 3 80 rfl (hpre ⟨3, .guard⟩ (by simp) rfl) rfl
        by_cases hw : mb = true
        · have eg2 : a'.eval (.tmp 80) = .bool false := by rw [eg, hw]; rfl
          have e0 : a'.eval (.tmp 83) = .string ⟨mt.raw.toArray⟩ := (hI.slot 6 83 rfl (hpre ⟨6, .data⟩ (by simp) rfl) rfl) hw
          have e1 : a'.eval (.tmp 85) = .string ⟨b.toArray⟩ := (hI.slot 8 85 rfl (hpre ⟨8, .data⟩ (by simp) rfl) rfl) hw
          refine wpOp_neqS rfl (wantedOf (j := 3) (b := false) rfl rfl rfl (by rw [hI.len]; show _ < 90; decide) eg2) rfl e0 e1 ?_
          rw [ByteArray.toList_eq, ByteArray.toList_eq]
          refine ⟨_, rfl, hB, fun _ => fun _ => ?_, fun _ _ _ h => h⟩
          show Value.bool (mt.raw != b) = _
          rw [bne, hsm]
        · have hw' : mb = false := by simpa using hw
          exact wpOp_off rfl (wantedOff (j := 3) (b := false) (b' := true) rfl rfl rfl (by rw [hI.len]; show _ < 90; decide) (by rw [eg, hw']; rfl) (by decide)) ⟨_, rfl, hB, fun _ => fun h => absurd h hw, fun j u _ h => PdV.below (Below.refl _ _) j u h⟩
      | 10, _ =>
        cases ho
        have e0 : a'.eval (.tmp 80) = .bool (!mb) := hI.slot 3 80 rfl (hpre ⟨3, .data⟩ (by simp) rfl) rfl
        have e1 : mb = true → a'.eval (.tmp 86) = .bool (!sm) := hI.slot 9 86 rfl (hpre ⟨9, .data⟩ (by simp) rfl) rfl
        have p1 : (!mb) = true → Value.bool true = .bool (!(mb && sm)) := fun h => by
          have h2 : mb = false := by simpa using h
          rw [h2]; rfl
        have p2 : (!mb) = false → a'.eval (.tmp 86) = .bool (!(mb && sm)) := fun h => by
          have h2 : mb = true := by simpa using h
          rw [e1 h2, h2]; rfl
        exact wpOp_pick2 rfl rfl rfl e0 (v := .bool (!(mb && sm))) p1 p2 rfl ⟨_, rfl, hB, fun _ => rfl, fun _ _ _ h => h⟩
    case fin =>
      intro listed a' w8 hI hall
      have hB := hI.inv
      have e87 : a'.tmps.getD 87 undef = .bool (!(mb && sm)) := hI.slot 10 87 rfl (hall 10 (by decide)) rfl
      obtain ⟨vs, hvl, hvs, e⟩ := hI.frame 77 11 (Nat.le_of_ble_eq_true (by kernel_rfl)) (by kernel_rfl)
      have v10 := hvs 10 (by decide)
      clear hI hall hvs
      match vs, hvl with
      | [y0, y1, y2, y3, y4, y5, y6, y7, y8, y9, y10], _ =>
      simp only [List.getElem?_cons_zero, List.getElem?_cons_succ, Option.some.injEq] at v10
      rw [show 77 + 10 = 87 from rfl, e87] at v10
      subst v10
      simp only [List.take_succ_cons, List.take_zero, List.drop_succ_cons, List.drop_zero, List.cons_append, List.nil_append, Nat.reduceAdd] at e
      subst e
      have hR1 := go_row hR7 hB
      have hM8 := go_row hM7 hB
      have hb8 := go_on hb hB
      have hlt := (Array.getElem?_eq_some_iff.1 hR1).1
      have d0 := cell_of_row w8 w.heap.size 0 _ _ _ hR1; have fd0 := frozen_of_row w8 w.heap.size 0 _ _ hR1
      have d1 := cell_of_row w8 w.heap.size 1 _ _ _ hR1; have fd1 := frozen_of_row w8 w.heap.size 1 _ _ hR1
      have d2 := cell_of_row w8 w.heap.size 2 _ _ _ hR1; have fd2 := frozen_of_row w8 w.heap.size 2 _ _ hR1
      have d3 := cell_of_row w8 w.heap.size 3 _ _ _ hR1; have fd3 := frozen_of_row w8 w.heap.size 3 _ _ hR1
      simp only [List.getElem?_toArray, List.getElem?_cons_zero, List.getElem?_cons_succ] at d0 d1 d2 d3
      have m0 := cell_of_row w8 (w1.heap.size + 1) 0 _ _ _ hM8
      have m1 := cell_of_row w8 (w1.heap.size + 1) 1 _ _ _ hM8
      have m2 := cell_of_row w8 (w1.heap.size + 1) 2 _ _ _ hM8
      have m3 := cell_of_row w8 (w1.heap.size + 1) 3 _ _ _ hM8
      simp only [List.getElem?_toArray, List.getElem?_cons_zero, List.getElem?_cons_succ] at m0 m1 m2 m3
      have HX8 := Lib.hid (And.intro hR1 (And.intro hb8 (And.intro hopt hval)))
      clear hR1 hM8 hb8 hopt hval hB hM7 hb7 hb hR7 hl7 hbb hmr e87 hsm
      cases mb with
      | false =>
        go_wp2
        obtain ⟨hR1, hb, hopt, -⟩ := HX8.out
        have hg1 := set4_grown w8 w.heap.size (.int .i64 0) (.int .i64 0) (.int .i64 0) (.int .i64 0)
        have hR2 := set4_heap (.int .i64 0) (.int .i64 0) (.int .i64 0) (.int .i64 0) hR1
        have hb2 := hb.grown hg1 hb.size (fun q e => by cases e; exact Nat.le_refl _)
        refine bodyPost_ret (results_ct rfl _ _ _ _ _ _ rfl hR2 Tryd.underlying25 (by kernel_rfl)) rfl ?_
        exact ⟨none, hopt, by rw [show optE 1 b none = 160 from HE.out]; rfl, hb2⟩
      | true =>
        cases sm with
        | false =>
          go_wp2
          obtain ⟨hR1, hb, hopt, -⟩ := HX8.out
          have hg1 := set4_grown w8 w.heap.size (.int .i64 0) (.int .i64 0) (.int .i64 0) (.int .i64 0)
          have hR2 := set4_heap (.int .i64 0) (.int .i64 0) (.int .i64 0) (.int .i64 0) hR1
          have hb2 := hb.grown hg1 hb.size (fun q e => by cases e; exact Nat.le_refl _)
          refine bodyPost_ret (results_ct rfl _ _ _ _ _ _ rfl hR2 Tryd.underlying25 (by kernel_rfl)) rfl ?_
          exact ⟨none, hopt, by rw [show optE 1 b none = 160 from HE.out]; rfl, hb2⟩
        | true =>
          go_wp2
          obtain ⟨hR1, hb, hopt, hval⟩ := HX8.out
          have hg1 := set4_grown w8 w.heap.size (.int .i64 t) (.int .i64 n0) (.int .i64 n1) (.int .i64 n2)
          have hR2 := set4_heap (.int .i64 t) (.int .i64 n0) (.int .i64 n1) (.int .i64 n2) hR1
          have hb2 := hb.grown hg1 hb.size (fun q e => by cases e; exact Nat.le_refl _)
          refine bodyPost_ret (results_ct rfl _ _ _ _ _ _ rfl hR2 Tryd.underlying25 (by kernel_rfl)) rfl ?_
          exact ⟨some mt, hopt, by rw [show optM (some mt) = mtv t n0 n1 n2 from (hval trivial).2]; rfl, hb2⟩
end Go.Proofs.YtaijjlaheoamaaaDoor

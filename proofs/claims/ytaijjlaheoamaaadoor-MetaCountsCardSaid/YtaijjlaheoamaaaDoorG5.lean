/- Texts of the proof in one file, in build order: PageG, PageH, WireP, PageE, PageF, PageM, PageI, PageJ. -/
import Derived.Test.YtaijjlaheoamaaaDoorG3
import Derived.Test.YtaijjlaheoamaaaDoorG4
import Derived.Tactics2
import Derived.Defers
import Derived.Recover
import Derived.Laws.Pointers
import Derived.Laws.ResultCell
import Derived.Test.YtaijjlaheoamaaaDoorG2
/- Layer 4: the document's bytes of a page. -/
namespace Go.Proofs.YtaijjlaheoamaaaDoor
open Go.RowKit

def NumRow (w : World) (n k : Nat) (e : Ending) (w' : World) : Prop := ∃ g, e = .returned (.slice (some ⟨g, 0, none⟩) k k) ∧ OwnB w' w.heap.size (.slice (some ⟨g, 0, none⟩) k k) (laidB n k k) ∧ Below w.heap.size w w'
theorem number4_any (n : Nat) (hn : n < 9223372036854775808) (k : Nat) (h1 : 1 ≤ k) (h8 : k ≤ 8) (w : World) : Calls Tryd.prog 48 #[.int .i64 n, .int .i64 k] w fun e w' => NumRow w n k e w' := by
  have hr := refNum_any n (by omega) (k : Int) w
  have HR := Lib.hid hr
  clear hr
  go_enter Tryd.func48, Tryd.ntmps48
  go_wp2_with fail
  refine HR.out.mono ?_
  rintro e w1 (⟨h, -⟩ | ⟨-, -, g, rfl, hO, hb⟩)
  · exact absurd h (by omega)
  rw [Int.toNat_natCast] at hO ⊢
  have HX := Lib.hid (And.intro hO hb)
  clear hO hb HR
  go_wp2
  go_ret
  exact ⟨g, rfl, HX.out.1, HX.out.2⟩
theorem append_full (w : World) (base ty g n : Nat) (l : List UInt8) (hO : OwnB w base (.slice (some ⟨g, 0, none⟩) n n) l) (hl : l.length = n) (n₀ : Nat) (ao : Addr) (m : List UInt8) (c : Nat) (hm : BytesAt n₀ w (some ao) m) (hpos : 0 < m.length) (hb : n + m.length ≤ 1000000) :
    ∃ v' w', (Builtin.append_ #[22, 22] ty #[.slice (some ⟨g, 0, none⟩) n n, .slice (some ao) m.length c]).run Tryd.prog w = .ok v' w' ∧ OwnB w' w.heap.size v' (l ++ m) ∧ Below w.heap.size w w' := by
  obtain ⟨i0, hi, hz0, hz1, hz2⟩ := info_parts infoU8
  have hnews : ∀ j u, (byteVals m)[j]? = some u → w.cell? (ao.add j) = some u := by
    intro j u hu
    have hj : j < m.length := by
      have := (List.getElem?_eq_some_iff.1 hu).1; simpa [byteVals] using this
    obtain ⟨b, off, e, hb, hc⟩ := hm (by rintro rfl; simp at hj)
    cases e
    rw [addr_add, hc j hj]
    rw [byteVals, List.getElem?_map, List.getElem?_eq_getElem hj] at hu
    simp [hj] at hu ⊢
    exact hu
  have hr := run_append_grow (P := Tryd.prog) w 22 ty 5 i0 _ Tryd.underlying22 hi hz0 ⟨g, 0, none⟩ n n (byteVals l) (by rw [hz1]; simp [byteVals, hl]) (World.ownsRow.cells hO (g := g) rfl) ao m.length c (byteVals m) (by rw [hz1]; simp [byteVals]) hnews (by omega) (by omega) (growslice_fits (by omega) (by rw [hz2]; omega))
  refine ⟨_, _, hr, ?_, ((Below.refl _ _).drew).alloc (by simp) _⟩
  have hge := grownCap_ge w (n + m.length) n 5
  have hG := grownCap_le_maxLen w (n + m.length) n 5 (by unfold maxLen; omega)
  refine ⟨by simp [byteVals], .inr ⟨w.heap.size, grownCap w (n + m.length) n 5, _, by rw [List.length_append, hl], Nat.le_refl _, heap_alloc_new w.drew _, by rw [List.length_append, hl]; exact hge, hG, ?_, ?_⟩⟩
  · rw [zero_cells]; simp [byteVals, hl]; omega
  · rw [zero_cells, List.length_append, hl, Nat.mul_one]
    have h1 : (byteVals l ++ byteVals m).length = n + m.length := by simp [byteVals, hl]
    simp only [List.append_toArray, Array.toList_append, Array.toList_replicate]
    rw [List.take_append_of_le_length (by rw [h1]; omega), List.take_of_length_le (by rw [h1]; omega)]
    simp [byteVals]
end Go.Proofs.YtaijjlaheoamaaaDoor
/- Layer 4: the document's bytes of a page, whole. -/
namespace Go.Proofs.YtaijjlaheoamaaaDoor
open Go.RowKit

def RwSp (A N k bl : Nat) (a : Option Addr) (c : Nat) : Nat → Value → World → Prop
  | 0, v, _ => v = .pointer (some ⟨A, 0, none⟩)
  | 1, v, _ => v = .int .i64 k
  | 2, v, w' => ∃ g, v = .slice (some ⟨g, 0, none⟩) 1 1 ∧ OwnB w' N (.slice (some ⟨g, 0, none⟩) 1 1) (laidB k 1 1)
  | 3, v, _ => v = .pointer (some ⟨A, 3, none⟩)
  | 4, v, _ => v = .slice a bl c
  | 5, v, _ => v = .int .i64 bl
  | 6, v, w' => ∃ g, v = .slice (some ⟨g, 0, none⟩) 1 1 ∧ OwnB w' N (.slice (some ⟨g, 0, none⟩) 1 1) (laidB bl 1 1)
  | 7, v, w' => OwnB w' N v (laidB k 1 1 ++ laidB bl 1 1)
  | 8, v, w' => OwnB w' N v (laidB k 1 1 ++ laidB bl 1 1)
  | _, _, _ => True
theorem RwSp.below {A N k bl : Nat} {a : Option Addr} {c : Nat} {w' w'' : World} (hb : Below w'.heap.size w' w'') (j : Nat) (v : Value) (h : RwSp A N k bl a c j v w') : RwSp A N k bl a c j v w'' := by
  rcases j with _ | _ | _ | _ | _ | _ | _ | _ | _ | j
  · exact h
  · exact h
  · obtain ⟨g, e, hO⟩ := h; exact ⟨g, e, hO.below hb⟩
  · exact h
  · exact h
  · exact h
  · obtain ⟨g, e, hO⟩ := h; exact ⟨g, e, hO.below hb⟩
  · exact OwnB.below h hb
  · exact OwnB.below h hb
  · exact h
theorem field25_0 (A : Nat) (w : World) : (Instr.fieldAt 55 (.pointer (some ⟨A, 0, none⟩)) 0).run Tryd.prog w = .ok (.pointer (some ⟨A, 0, none⟩)) w := by simp [go_sem]
theorem field25_3 (A : Nat) (w : World) : (Instr.fieldAt 55 (.pointer (some ⟨A, 0, none⟩)) 3).run Tryd.prog w = .ok (.pointer (some ⟨A, 3, none⟩)) w := by simp [go_sem]
theorem wpList_append_len {w : World} {ops : Array Oper} {rest : List Oper} {o : Oper} {a : Act} {Q : Exit → Act → World → Prop} (hgd : o.guard = none) (s x : Operand)
    (ho : o.op = .call { callee := .builtin .append, args := #[s, x], argTypes := #[22, 22] }) (w0 : World) (v : Value) (l : List UInt8) (hs : a.eval s = v) (hown : OwnB w w0.heap.size v l) (hB : Below w0.heap.size w0 w)
    (u : Value) (m : List UInt8) (hx : a.eval x = u) (hm : IsBs w.heap.size w u m) (hbound : l.length + m.length ≤ 1000000)
    (h : ∀ v' w', OwnB w' w0.heap.size v' (l ++ m) → Below w0.heap.size w0 w' → wpList Tryd.prog ops Q rest (a.put o.dst v') w') : wpList Tryd.prog ops Q (o :: rest) a w := by
  obtain ⟨ao, c, rfl, hm1, hm2, hm3⟩ := hm
  exact wpList_append_bytes hgd s x ho w0.heap.size w.heap.size v l hs hown ao m c hx hm2 hm3 hm1 (by omega) hB.size fun v' w' hO hg => h v' w' hO (hown.grown hg hB (Nat.le_refl _) hB.size)
theorem num_bs {w w' : World} {n k g : Nat} (hO : OwnB w' w.heap.size (.slice (some ⟨g, 0, none⟩) k k) (laidB n k k)) : IsBs w'.heap.size w' (.slice (some ⟨g, 0, none⟩) k k) (laidB n k k) := by
  have := hO.isBs
  exact this
set_option maxRecDepth 100000 in
set_option maxHeartbeats 1000000 in
theorem rraw_any (n : Nat) (hn : n ≤ 4095) (p : Pg) (hok : p.ok) (a : Option Addr) (c : Nat) (w : World) (n₁ : Nat) (hn₁ : n₁ ≤ w.heap.size) (hm : BytesAt n₁ w a p.b) (hno : a = none → c = 0) (hle : p.b.length ≤ c) :
    Calls Tryd.prog 30 #[.int .i64 n, pgv p.k p.t p.x a p.b.length c] w fun e w' => LaidPost w (p.raw n) e w' := by
  have hb0 : Below w.heap.size w (w.alloc (.cells #[.int .i64 p.k, .int .i64 p.t, .int .i64 p.x, .slice a p.b.length c] 55)) := (Below.refl _ _).alloc (Nat.le_refl _) _
  have HM := Lib.hid (And.intro hm (And.intro hno hle))
  have HK := Lib.hid hok
  obtain ⟨k1, k2, k3, k4, k5⟩ := hok
  obtain ⟨bl, hbl⟩ : ∃ bl, p.b.length = bl := ⟨_, rfl⟩
  rw [hbl] at hb0 k5 ⊢
  have HBL := Lib.hid hbl
  have hr0 := heap_alloc_new w (.cells #[.int .i64 p.k, .int .i64 p.t, .int .i64 p.x, .slice a bl c] 55)
  have HB0 := Lib.hid (And.intro hb0 hr0)
  clear hm hno hle hbl hb0 hr0
  go_enter Tryd.func30, Tryd.ntmps30
  go_wp2_with fail
  obtain ⟨hb0, hr0⟩ := HB0.out
  obtain ⟨A, hA⟩ : ∃ A, w.heap.size = A := ⟨_, rfl⟩
  revert hb0 hr0
  generalize hw0 : w.alloc (.cells #[.int .i64 p.k, .int .i64 p.t, .int .i64 p.x, .slice a bl c] 55) = w0
  rw [hA]
  intro hb0 hr0
  have hA0 : A < w0.heap.size := (Array.getElem?_eq_some_iff.1 hr0).1
  clear HB0 hw0
  refine wp_region_m (fun _ w' => Below w0.heap.size w0 w') (RwSp A w0.heap.size p.k bl a c) (by kernel_rfl) (by kernel_rfl) (by kernel_rfl) (by kernel_rfl) (Below.refl _ _).drew ?step ?fin
  case step =>
    intro q o ho listed a' w' hI hn' hpre
    have hq : q < 9 := (Array.getElem?_eq_some_iff.1 ho).1
    have hB := hI.inv
    have hrow := (hB.block A hA0).trans hr0
    match q, hq with
    | 0, _ =>
      cases ho
      exact wpOp_field rfl rfl rfl (hI.kept (t := 3) (by kernel_rfl)) (field25_0 A w') ⟨_, rfl, hB, fun _ => rfl, fun _ _ _ h => h⟩
    | 1, _ =>
      cases ho
      exact wpOp_load rfl rfl rfl (hI.slot 0 6 rfl (hpre ⟨0, .data⟩ (by simp) rfl) rfl) (load_cellR (Tryd.isAgg53 w') (v := .int .i64 p.k) (cell_of_row w' A 0 _ _ _ hrow)) ⟨_, rfl, hB, fun _ => rfl, fun _ _ _ h => h⟩
    | 2, _ =>
      cases ho
      have e1 : a'.eval (.tmp 7) = .int .i64 p.k := hI.slot 1 7 rfl (hpre ⟨1, .data⟩ (by simp) rfl) rfl
      refine wpOp_callFn rfl rfl rfl (vs := #[.int .i64 p.k, .int .i64 1]) (by simp only [List.map_toArray, List.map_cons, List.map_nil, e1]; rfl) (fun _ _ => by kernel_rfl) ((number4_any p.k (by omega) 1 (by decide) (by decide) w').mono ?_)
      rintro e w'' ⟨g, rfl, hO, hb2⟩
      exact ⟨_, rfl, _, rfl, hB.trans (hb2.mono hB.size), fun _ => ⟨g, rfl, hO.mono hB.size⟩, fun j u _ h => RwSp.below hb2 j u h⟩
    | 3, _ =>
      cases ho
      exact wpOp_field rfl rfl rfl (hI.kept (t := 3) (by kernel_rfl)) (field25_3 A w') ⟨_, rfl, hB, fun _ => rfl, fun _ _ _ h => h⟩
    | 4, _ =>
      cases ho
      exact wpOp_load rfl rfl rfl (hI.slot 3 9 rfl (hpre ⟨3, .data⟩ (by simp) rfl) rfl) (load_cellR (Tryd.isAgg22 w') (v := .slice a bl c) (cell_of_row w' A 3 _ _ _ hrow)) ⟨_, rfl, hB, fun _ => rfl, fun _ _ _ h => h⟩
    | 5, _ =>
      cases ho
      exact wpOp_lenS rfl rfl rfl (hI.slot 4 10 rfl (hpre ⟨4, .data⟩ (by simp) rfl) rfl) ⟨_, rfl, hB, fun _ => rfl, fun _ _ _ h => h⟩
    | 6, _ =>
      cases ho
      have e1 : a'.eval (.tmp 11) = .int .i64 bl := hI.slot 5 11 rfl (hpre ⟨5, .data⟩ (by simp) rfl) rfl
      refine wpOp_callFn rfl rfl rfl (vs := #[.int .i64 bl, .int .i64 1]) (by simp only [List.map_toArray, List.map_cons, List.map_nil, e1]; rfl) (fun _ _ => by kernel_rfl) ((number4_any bl (by omega) 1 (by decide) (by decide) w').mono ?_)
      rintro e w'' ⟨g, rfl, hO, hb2⟩
      exact ⟨_, rfl, _, rfl, hB.trans (hb2.mono hB.size), fun _ => ⟨g, rfl, hO.mono hB.size⟩, fun j u _ h => RwSp.below hb2 j u h⟩
    | 7, _ =>
      cases ho
      obtain ⟨g, e2, hO2⟩ : ∃ g, a'.eval (.tmp 8) = .slice (some ⟨g, 0, none⟩) 1 1 ∧ OwnB w' w0.heap.size (.slice (some ⟨g, 0, none⟩) 1 1) (laidB p.k 1 1) := hI.slot 2 8 rfl (hpre ⟨2, .data⟩ (by simp) rfl) rfl
      obtain ⟨g6, e6, hO6⟩ : ∃ g, a'.eval (.tmp 12) = .slice (some ⟨g, 0, none⟩) 1 1 ∧ OwnB w' w0.heap.size (.slice (some ⟨g, 0, none⟩) 1 1) (laidB bl 1 1) := hI.slot 6 12 rfl (hpre ⟨6, .data⟩ (by simp) rfl) rfl
      obtain ⟨a6, c6, e, hm6, -⟩ := hO6.form
      have hl6 : (laidB bl 1 1).length = 1 := laidB_len _ _ _
      rw [hl6] at e
      cases e
      obtain ⟨v', w'', hr, hO, hb2⟩ := append_full w' w0.heap.size 22 g 1 (laidB p.k 1 1) hO2 (laidB_len _ _ _) w'.heap.size ⟨g6, 0, none⟩ (laidB bl 1 1) 1 hm6 (by rw [hl6]; decide) (by rw [hl6]; decide)
      rw [hl6] at hr
      exact wpOp_append rfl rfl rfl e2 e6 hr ⟨_, rfl, hB.trans (hb2.mono hB.size), fun _ => hO.mono hB.size, fun j u _ h => RwSp.below hb2 j u h⟩
    | 8, _ =>
      cases ho
      have e7 := hI.slot 7 13 rfl (hpre ⟨7, .data⟩ (by simp) rfl) rfl
      exact wpOp_move rfl rfl (.inr rfl) rfl ⟨_, rfl, hB, fun _ => e7, fun _ _ _ h => h⟩
  case fin =>
    intro listed a' w1 hI hall
    have hB := hI.inv
    have e5 : OwnB w1 w0.heap.size (a'.tmps.getD 5 undef) (laidB p.k 1 1 ++ laidB bl 1 1) := hI.slot 8 5 rfl (hall 8 (by decide)) rfl
    obtain ⟨vs, hvl, hvs, e⟩ := hI.frame 5 9 (Nat.le_of_ble_eq_true (by kernel_rfl)) (by kernel_rfl)
    have v0' := hvs 0 (by decide)
    clear hI hall hvs
    match vs, hvl with
    | [t0, t1, t2, t3, t4, t5, t6, t7, t8], _ =>
    simp only [List.getElem?_cons_zero, Option.some.injEq, Nat.add_zero] at v0'
    rw [← v0'] at e5
    simp only [List.take_succ_cons, List.take_zero, List.drop_succ_cons, List.drop_zero, List.cons_append, List.nil_append, Nat.reduceAdd] at e
    subst e
    clear v0'
    have row := fun (w' : World) (h : Below w0.heap.size w0 w') => (h.block A hA0).trans hr0
    have ROW := Lib.hid row
    have hk1 := cell_of_row w1 A 1 _ _ _ (row w1 hB)
    simp only [List.getElem?_toArray, List.getElem?_cons_zero, List.getElem?_cons_succ] at hk1
    have hAl := Nat.lt_of_lt_of_le hA0 hB.size
    have HX := Lib.hid (And.intro hB e5)
    clear hB hr0 e5 row
    go_wp2_with fail
    refine (number4_any p.t (by omega) 8 (by decide) (by decide) w1).mono ?_
    rintro e w2 ⟨g2, rfl, hO2, hb2⟩
    obtain ⟨hB1, hO1⟩ := HX.out
    have hB2 := hB1.trans (hb2.mono hB1.size)
    have hP2 := hO1.below hb2
    clear HX hB1 hO1 hb2 hk1
    have hN2 := num_bs hO2
    have HX := Lib.hid (And.intro hB2 (And.intro hP2 hN2))
    clear hB2 hP2 hN2 hO2
    go_wp2_with (at_builtin; refine stop_here ?_)
    refine wpList_append_len rfl (.tmp 14) (.tmp 17) rfl w0 _ _ rfl HX.out.2.1 HX.out.1 _ _ rfl HX.out.2.2 (by simp [laidB_len]) ?_
    clear HX
    intro v3 w3 hO3 hB3
    have HX := Lib.hid (And.intro hB3 hO3)
    clear hB3 hO3
    clear hAl
    go_wp2_with fail
    refine (number4_any n (by omega) 4 (by decide) (by decide) w3).mono ?_
    rintro e w4 ⟨g4, rfl, hO2, hb2⟩
    obtain ⟨hB1, hO1⟩ := HX.out
    have hB2 := hB1.trans (hb2.mono hB1.size)
    have hP2 := hO1.below hb2
    clear HX hB1 hO1 hb2
    have hN2 := num_bs hO2
    have HX := Lib.hid (And.intro hB2 (And.intro hP2 hN2))
    clear hB2 hP2 hN2 hO2
    go_wp2_with (at_builtin; refine stop_here ?_)
    refine wpList_append_len rfl (.tmp 18) (.tmp 20) rfl w0 _ _ rfl HX.out.2.1 HX.out.1 _ _ rfl HX.out.2.2 (by simp [laidB_len]) ?_
    clear HX
    intro v5 w5 hO3 hB3
    have HX := Lib.hid (And.intro hB3 hO3)
    clear hB3 hO3
    have hk2 := cell_of_row w5 A 2 _ _ _ (ROW.out w5 HX.out.1)
    simp only [List.getElem?_toArray, List.getElem?_cons_zero, List.getElem?_cons_succ] at hk2
    have hAw5 := Nat.lt_of_lt_of_le hA0 HX.out.1.size
    go_wp2_with fail
    clear hk2
    refine (number4_any p.x (by omega) 4 (by decide) (by decide) w5).mono ?_
    rintro e w6 ⟨g6, rfl, hO2, hb2⟩
    obtain ⟨hB1, hO1⟩ := HX.out
    have hB2 := hB1.trans (hb2.mono hB1.size)
    have hP2 := hO1.below hb2
    clear HX hB1 hO1 hb2
    have hN2 := num_bs hO2
    have HX := Lib.hid (And.intro hB2 (And.intro hP2 hN2))
    clear hB2 hP2 hN2 hO2
    go_wp2_with (at_builtin; refine stop_here ?_)
    refine wpList_append_len rfl (.tmp 22) (.tmp 25) rfl w0 _ _ rfl HX.out.2.1 HX.out.1 _ _ rfl HX.out.2.2 (by simp [laidB_len]) ?_
    clear HX
    intro v7 w7 hO3 hB3
    have HX := Lib.hid (And.intro hB3 hO3)
    clear hB3 hO3
    have hz := zeros_bs w7 2
    have hal : Below w7.heap.size w7 (w7.alloc (.cells (byteVals (List.replicate 2 0)).toArray 5)) := (Below.refl _ _).alloc (Nat.le_refl _) _
    have hB7 := HX.out.1.trans (hal.mono HX.out.1.size)
    have hO7 := HX.out.2.below hal
    have HX2 := Lib.hid (And.intro hB7 (And.intro hO7 (hz.mono (n₁ := (w7.alloc (.cells (byteVals (List.replicate 2 0)).toArray 5)).heap.size) (by simp))))
    clear HX hz hal hB7 hO7
    go_wp2_with (at_builtin; refine stop_here ?_)
    refine wpList_append_len rfl (.tmp 26) (.tmp 27) rfl w0 _ _ rfl HX2.out.2.1 HX2.out.1 _ _ rfl HX2.out.2.2 (by simp [laidB_len]) ?_
    clear HX2
    intro v8 w8 hO3 hB3
    have hpre : laidB p.k 1 1 ++ laidB bl 1 1 ++ laidB p.t 8 8 ++ laidB n 4 4 ++ laidB p.x 4 4 ++ List.replicate 2 0 = laidParts (p.parts n) := by
      rw [show List.replicate 2 (0 : UInt8) = laidB 0 2 2 by rfl, Pg.parts, HBL.out]
      simp [laidParts]
    rw [hpre] at hO3
    have HX := Lib.hid (And.intro hB3 hO3)
    clear hB3 hO3 hpre
    have hk3 := cell_of_row w8 A 3 _ _ _ (ROW.out w8 HX.out.1)
    simp only [List.getElem?_toArray, List.getElem?_cons_zero, List.getElem?_cons_succ] at hk3
    have hAw8 := Nat.lt_of_lt_of_le hA0 HX.out.1.size
    go_wp2_with (at_builtin; refine stop_here ?_)
    have hbody : IsBs w8.heap.size w8 (.slice a bl c) p.b := by
      have h1 : IsBs n₁ w (.slice a bl c) p.b := ⟨a, c, by rw [HBL.out], HM.out.1, HM.out.2.1, HM.out.2.2⟩
      have h2 := hb0.trans (HX.out.1.mono (by omega))
      exact (h1.below (h2.mono (by omega))).mono (by omega)
    refine wpList_append_len rfl (.tmp 29) (.tmp 31) rfl w0 _ _ rfl HX.out.2 HX.out.1 _ _ rfl hbody (by rw [Pg.parts_len, HBL.out]; omega) ?_
    clear HX hbody hk3
    intro v9 w9 hO3 hB3
    have hl9 : (laidParts (p.parts n) ++ p.b).length = 20 + bl := by rw [List.length_append, Pg.parts_len, HBL.out]
    obtain ⟨L, hL⟩ : ∃ L, laidParts (p.parts n) ++ p.b = L := ⟨_, rfl⟩
    rw [hL] at hO3 hl9
    have HL := Lib.hid (And.intro hL hl9)
    clear hL hl9
    obtain ⟨a9, d9, rfl, -⟩ := hO3.form
    rw [HL.out.2] at hO3 ⊢
    go_wp2
    go_loopw [5, 33, 34, 35, 36, 37, 38] (fun v _ _ _ _ _ _ wr => ∃ (j : Nat) (ai : Option Addr) (ci : Nat), v = .slice ai (20 + bl + j) ci ∧ j ≤ 232 - bl ∧ OwnB wr w0.heap.size (.slice ai (20 + bl + j) ci) (L ++ List.replicate j 0) ∧ Below w0.heap.size w0 wr)
      (fun v _ _ _ _ _ _ _ => match v with | .slice _ m _ => 252 - m | _ => 0)
    case atStart => exact ⟨0, a9, d9, rfl, Nat.zero_le _, by simpa using hO3, hB3⟩
    case round =>
      obtain ⟨j, ai, ci, rfl, hj, hO, hB⟩ := hrel
      obtain ⟨q, hq⟩ : ∃ q, 20 + bl + j = q := ⟨_, rfl⟩
      rw [hq] at hO ⊢
      by_cases hlt : j < 232 - bl
      · have hqL : (q : Int) < 252 := by omega
        have hal : Below wr.heap.size wr (wr.alloc (.cells (byteVals (List.replicate 1 0)).toArray 5)) := (Below.refl _ _).alloc (Nat.le_refl _) _
        have HX := Lib.hid (And.intro (hB.trans (hal.mono hB.size)) (And.intro (hO.below hal) ((zeros_bs wr 1).mono (n₁ := (wr.alloc (.cells (byteVals (List.replicate 1 0)).toArray 5)).heap.size) (by simp))))
        have HQ := Lib.hid hq
        clear hO hB hal hO3 hB3 hq
        go_wp2_with (at_builtin; refine stop_here ?_)
        refine wpList_append_len rfl (.tmp 36) (.tmp 37) rfl w0 _ _ rfl HX.out.2.1 HX.out.1 _ _ rfl HX.out.2.2 (by rw [List.length_append, HL.out.2, List.length_replicate, List.length_replicate]; omega) ?_
        clear HX
        intro v' w' hO' hB'
        have hrep : L ++ List.replicate j (0 : UInt8) ++ List.replicate 1 0 = L ++ List.replicate (j + 1) 0 := by rw [List.append_assoc, List.replicate_append_replicate]
        rw [hrep] at hO'
        have hlen : (L ++ List.replicate (j + 1) (0 : UInt8)).length = 20 + bl + (j + 1) := by rw [List.length_append, HL.out.2, List.length_replicate]
        obtain ⟨ai', ci', rfl, -⟩ := hO'.form
        rw [hlen] at hO' ⊢
        have HX := Lib.hid (And.intro hO' hB')
        clear hO' hB' hlen hrep
        go_wp2
        exact ⟨⟨j + 1, ai', ci', rfl, hlt, HX.out.1, HX.out.2⟩, by have := HQ.out; dsimp only; omega⟩
      · obtain rfl : j = 232 - bl := by omega
        obtain rfl : q = 252 := by omega
        have hbe : L ++ List.replicate (232 - bl) 0 = p.behind n := by rw [← HL.out.1, Pg.behind, HBL.out]; simp
        rw [hbe] at hO
        have hbs := hO.isBs
        have hrs := refSum_any wr.heap.size ai ci (p.behind n) (by rw [Pg.behind_len HK.out]; decide) wr (by
          obtain ⟨a', c', e, h, -⟩ := hbs
          rw [Pg.behind_len HK.out] at e
          cases e; exact h)
        rw [Pg.behind_len HK.out] at hrs
        have hs := crcSum_lt (p.behind n)
        obtain ⟨sm, hse⟩ : ∃ s, crcSum (p.behind n) = s := ⟨_, rfl⟩
        rw [hse] at hs hrs
        have HS := Lib.hid hse
        have HR := Lib.hid hrs
        have HX := Lib.hid (And.intro hB hO)
        clear hse hrs hB hO hbs hbe hO3 hB3 hq
        go_wp2_with (go_at_call 39; refine HR.out.mono ?_; rintro e wz ⟨rfl, rfl⟩)
        refine (number4_any sm (by omega) 4 (by decide) (by decide) wr).mono ?_
        rintro e w10 ⟨g10, rfl, hO10, hb10⟩
        have hB10 := HX.out.1.trans (hb10.mono HX.out.1.size)
        have hbs := (HX.out.2.below hb10).isBs
        have HY := Lib.hid (And.intro hB10 (And.intro (hO10.mono HX.out.1.size) hbs))
        clear hB10 hbs hO10 hb10 HX
        go_wp2_with (at_builtin; refine stop_here ?_)
        refine wpList_append_len rfl (.tmp 42) (.tmp 43) rfl w0 _ _ rfl HY.out.2.1 HY.out.1 _ _ rfl HY.out.2.2 (by rw [laidB_len, Pg.behind_len HK.out]; decide) ?_
        clear HY
        intro v11 w11 hO11 hB11
        have hraw : laidB sm 4 4 ++ p.behind n = p.raw n := by rw [Pg.raw, HS.out]; simp [laidParts]
        rw [hraw] at hO11
        have HZ := Lib.hid (And.intro hO11 hB11)
        clear hO11 hB11 hraw
        go_wp2
        go_ret
        exact ⟨v11, rfl, HZ.out.1.mono (by omega), by rw [hA]; exact hb0.trans (HZ.out.2.mono (by omega))⟩
end Go.Proofs.YtaijjlaheoamaaaDoor
/- Layer 3: what was written is what is read: numbers and texts, as plain functions. -/
namespace Go.Proofs.YtaijjlaheoamaaaDoor
open Go.RowKit

theorem numOf_laid (n k i : Nat) (hi : i ≤ k) : numOf (laidB n k i) = n / 2 ^ (8 * (k - i)) % 256 ^ i := by
  induction i with
  | zero => simp [laidB, numOf, Nat.mod_one]
  | succ i ih =>
    rw [laidB_succ, numOf_snoc, ih (by omega)]
    have h1 : n / 2 ^ (8 * (k - i)) = n / 2 ^ (8 * (k - 1 - i)) / 256 := by
      rw [Nat.div_div_eq_div_mul, show 8 * (k - i) = 8 * (k - 1 - i) + 8 by omega, Nat.pow_add]
    rw [h1, show k - (i + 1) = k - 1 - i by omega]
    generalize n / 2 ^ (8 * (k - 1 - i)) = m
    rw [Nat.pow_succ, Nat.mul_comm (256 ^ i) 256, Nat.mod_mul, UInt8.toNat_ofNat']
    omega
theorem numOf_whole {n k : Nat} (h : n < 256 ^ k) : numOf (laidB n k k) = n := by
  rw [numOf_laid n k k (Nat.le_refl _), Nat.sub_self, Nat.mul_zero, Nat.pow_zero, Nat.div_one, Nat.mod_eq_of_lt h]
theorem take_laid (n k : Nat) (t : List UInt8) : (laidB n k k ++ t).take k = laidB n k k := by
  have := List.take_left (l₁ := laidB n k k) (l₂ := t)
  rwa [laidB_len] at this
theorem drop_laid (n k : Nat) (t : List UInt8) : (laidB n k k ++ t).drop k = t := by
  have := List.drop_left (l₁ := laidB n k k) (l₂ := t)
  rwa [laidB_len] at this
/-- A text that was written is read; what stands behind it is left. -/
theorem rText_text (s : ByteArray) (hs : s.size ≤ 65535) (t : List UInt8) : rText (laidB s.size 2 2 ++ s.data.toList ++ t) = (s.data.toList, 0, t) := by
  have h1 : numOf ((laidB s.size 2 2 ++ (s.data.toList ++ t)).take 2) = s.size := by rw [take_laid, numOf_whole (by omega)]
  have hl : s.data.toList.length = s.size := data_len s
  unfold rText
  rw [List.append_assoc, h1, if_neg (by simp only [List.length_append, laidB_len]; omega)]
  have h2 := drop_laid s.size 2 (s.data.toList ++ t)
  rw [← List.drop_drop, h2, ← hl, List.take_left, List.drop_left]
theorem rText_short (r : List UInt8) (h : r.length < 2 ∨ r.length < 2 + numOf (r.take 2)) : rText r = ([], 130, r) := by
  unfold rText; rw [if_pos h]
theorem bytes_back (s : ByteArray) : (⟨s.data.toList.toArray⟩ : ByteArray) = s := by
  obtain ⟨⟨d⟩⟩ := s; rfl
end Go.Proofs.YtaijjlaheoamaaaDoor
/- Layer 4: Look: what gives up by a panic is recovered at the face. -/
namespace Go.Proofs.YtaijjlaheoamaaaDoor
open Go.RowKit

theorem assert_yes (n : Int) (w : World) : (Instr.typeAssert (.iface 26 (.int .i64 n)) 20 26 true).run Tryd.prog w = .ok (.tuple #[.int .i64 n, .bool true]) w := by kernel_rfl
theorem assert_no (w : World) : (Instr.typeAssert .nilIface 20 26 true).run Tryd.prog w = .ok (.tuple #[.int .i64 0, .bool false]) w := by kernel_rfl
set_option maxHeartbeats 1000000 in
set_option maxRecDepth 100000 in
theorem catch_panicking (E : Nat) (x n : Int) (older : List PanicEntry) (w : World) (hc : w.cell? ⟨E, 0, none⟩ = some (.int .i64 x)) (hz : w.frozen? ⟨E, 0, none⟩ = false) :
    CallsD Tryd.prog 49 #[.pointer (some ⟨E, 0, none⟩)] (.panicking ({ v := .iface 26 (.int .i64 n), recovered := false } :: older)) w fun e u' w' =>
      e = .returned (.tuple #[]) ∧ u' = .panicking ({ v := .iface 26 (.int .i64 n), recovered := true } :: older) ∧ w' = w.setCell ⟨E, 0, none⟩ (.int .i64 n) := by
  refine callsD_of_wpS Tryd.func49 rfl fun c₀ cs hu => ?_
  apply wpS_seq
  apply wpS_region
  simp [wpOpsS, go_sem, recoverD, hu, Tryd.ntmps49, Exit.thenS, assert_yes]
  apply wpS_seq
  apply wpS_region
  simp [wpOpsS, go_sem, Exit.thenS]
  refine wpS_cond (t := true) (by simp [Act.eval, Array.replicate]) ?_
  simp only [if_true]
  apply wpS_region
  simp [wpOpsS, go_sem, hc, hz, bodyPostS, results, Tryd.results49]
set_option maxHeartbeats 1000000 in
set_option maxRecDepth 100000 in
theorem catch_idle (E : Nat) (w : World) :
    CallsD Tryd.prog 49 #[.pointer (some ⟨E, 0, none⟩)] .returning w fun e u' w' => e = .returned (.tuple #[]) ∧ u' = .returning ∧ w' = w := by
  refine callsD_of_wpS Tryd.func49 rfl fun c₀ cs hu => ?_
  apply wpS_seq
  apply wpS_region
  simp [wpOpsS, go_sem, recoverD, hu, Tryd.ntmps49, Exit.thenS, assert_no]
  apply wpS_seq
  apply wpS_region
  simp [wpOpsS, go_sem, Exit.thenS]
  refine wpS_cond (t := false) (by simp [Act.eval, Array.replicate]) ?_
  simp only [Bool.false_eq_true, if_false]
  refine wpS_of_wp (wp_skip ?_)
  cases c₀
  simp_all [bodyPostS, results, Tryd.results49]
theorem results_look (tmps : Array Value) (w : World) (g E : Nat) (t : TypeId) (cs : Array Value) (fr : Nat × Nat) (v : Value)
    (hp : tmps.getD 3 undef = .pointer (some ⟨g, 0, none⟩)) (hg : w.heap[g]? = some (.cells cs t fr)) (hi : (Tryd.prog.info? 55).map (·.size) = some cs.size)
    (he : tmps.getD 4 undef = .pointer (some ⟨E, 0, none⟩)) (hv : w.cell? ⟨E, 0, none⟩ = some v) :
    (results Tryd.f33 tmps).run Tryd.prog w = .ok (.tuple #[tmps.getD 2 undef, .agg cs, v]) w := by
  have h1 : (results Tryd.f33 tmps).run Tryd.prog w = ((asAddr (tmps.getD 3 undef)).run Tryd.prog w).andThen fun a w => ((loadVar 55 a).run Tryd.prog w).andThen fun u w => ((asAddr (tmps.getD 4 undef)).run Tryd.prog w).andThen fun a w => ((loadVar 26 a).run Tryd.prog w).andThen fun v w => .ok (.tuple #[tmps.getD 2 undef, u, v]) w := by
    simp [results, Tryd.results33]
  rw [h1, hp, he]
  have h2 : (loadVar 26 ⟨E, 0, none⟩).run Tryd.prog w = .ok v w := by
    simp [loadVar, Tryd.isAgg26 w, go_sem, Result.andThen, hv]
  simp [asAddr, run_loadVar_row w g t 55 cs fr _ hg Tryd.underlying55 rfl hi, h2, Result.andThen]
theorem heap_alloc_two (w : World) (A B : Obj) : ((w.alloc A).alloc B).heap[w.heap.size + 1]? = some B := by
  have := heap_alloc_new (w.alloc A) B
  rw [World.size_alloc] at this
  exact this
def lookE (b : List UInt8) : Nat := if b.length ≠ 256 then 2 else if sumOk b then (if restOk b then 0 else 141) else 140
def LookPost (w : World) (b : List UInt8) (e : Ending) (w' : World) : Prop := Below w.heap.size w w' ∧
  ((lookE b = 0 ∧ ∃ ar c, e = .returned (.tuple #[.int .i64 (atN b), pgv (atK b) (wrap64 (atT b)) (atX b) (bodyAt ar (atS b)) (atS b) (atS b), .int .i64 0]) ∧ OwnB w' w.heap.size (.slice ar 234 c) (b.drop 22)) ∨
   (lookE b ≠ 0 ∧ e = .returned (.tuple #[.int .i64 0, pgv 0 0 0 none 0 0, .int .i64 (lookE b)])))
set_option maxHeartbeats 1000000 in
set_option maxRecDepth 100000 in
theorem look_any (b : List UInt8) (a : Option Addr) (c n₁ : Nat) (hc : b.length ≤ c) (w : World) (hm : BytesAt n₁ w a b) (hn₁ : n₁ ≤ w.heap.size) (hno : a = none → c = 0) (hT : Tab w) (hg : 0 + 1 ≤ w.heap.size) :
    Calls Tryd.prog 33 #[.slice a b.length c] w fun e w' => LookPost w b e w' := by
  have hmf : ∀ (fn : Fn) (first cap : Array Value) (w : World), (Instr.makeFunc fn first cap).run Tryd.prog w = .ok (.func fn first cap) w := fun _ _ _ _ => rfl
  by_cases hl : b.length = 256
  case neg =>
    have hd : ((b.length : Int) != 256) = true := by simp; omega
    have HL := Lib.hid hl
    clear hl hm hT hg hno
    go_enter_defers Tryd.func33, Tryd.ntmps33
    go_wp2
    have hr : ((w.alloc (.cells #[.int .i64 0, .int .i64 0, .int .i64 0, .slice none 0 0] 55)).alloc (.cells #[.int .i64 2] 26)).heap[w.heap.size]? = some (.cells #[.int .i64 0, .int .i64 0, .int .i64 0, .slice none 0 0] 55 (0, 0)) := (Below.heap_alloc _ _ _ (by simp)).trans (heap_alloc_new w _)
    have hE := cell_of_row _ _ 0 _ _ _ (heap_alloc_two w (.cells #[.int .i64 0, .int .i64 0, .int .i64 0, .slice none 0 0] 55) (.cells #[.int .i64 2] 26))
    refine ⟨_, results_look _ _ _ _ _ _ _ _ rfl hr (by kernel_rfl) rfl hE, ((Below.refl _ _).alloc (Nat.le_refl _) _).alloc (by simp) _, .inr ⟨?_, ?_⟩⟩
    · unfold lookE; rw [if_pos HL.out]; decide
    · unfold lookE; rw [if_pos HL.out]; rfl
  rw [hl] at hc ⊢
  have hb0 : Below w.heap.size w ((w.alloc (.cells #[.int .i64 0, .int .i64 0, .int .i64 0, .slice none 0 0] 55)).alloc (.cells #[.int .i64 0] 26)) := ((Below.refl _ _).alloc (Nat.le_refl _) _).alloc (by simp) _
  have HRD := Lib.hid (read_any b hl a c n₁ hc _ (hm.below (hb0.mono hn₁)) (Nat.le_trans hn₁ hb0.size) hno (hT.below hg hb0) (Nat.le_trans hg hb0.size))
  have HB0 := Lib.hid hb0
  clear hm hT hg hno hb0
  go_enter_defers Tryd.func33, Tryd.ntmps33
  go_wp2_with fail
  refine HRD.out.mono ?_
  have hz : (w.alloc (.cells #[.int .i64 0, .int .i64 0, .int .i64 0, .slice none 0 0] 55)).heap.size = w.heap.size + 1 := by simp
  have hR0 : ((w.alloc (.cells #[.int .i64 0, .int .i64 0, .int .i64 0, .slice none 0 0] 55)).alloc (.cells #[.int .i64 0] 26)).heap[w.heap.size]? = some (.cells #[.int .i64 0, .int .i64 0, .int .i64 0, .slice none 0 0] 55 (0, 0)) := (Below.heap_alloc _ _ _ (by simp)).trans (heap_alloc_new w _)
  have hE0 := heap_alloc_two w (.cells #[.int .i64 0, .int .i64 0, .int .i64 0, .slice none 0 0] 55) (.cells #[.int .i64 0] 26)
  have hb0 := HB0.out
  clear HRD HB0 hz
  revert hR0 hE0 hb0
  generalize (w.alloc (.cells #[.int .i64 0, .int .i64 0, .int .i64 0, .slice none 0 0] 55)).alloc (.cells #[.int .i64 0] 26) = w0
  intro hR0 hE0 hb0
  rintro e w1 ⟨hb1, ⟨hs, hr, ar, cr, rfl, hO⟩ | ⟨hs, rfl⟩ | ⟨hs, hr, rfl⟩⟩
  · have hE1 := go_row hE0 hb1
    have hR1 := go_row hR0 hb1
    have hb := go_on hb0 hb1
    have d0 := cell_of_row w1 w.heap.size 0 _ _ _ hR1; have f0 := frozen_of_row w1 w.heap.size 0 _ _ hR1
    have d1 := cell_of_row w1 w.heap.size 1 _ _ _ hR1; have f1 := frozen_of_row w1 w.heap.size 1 _ _ hR1
    have d2 := cell_of_row w1 w.heap.size 2 _ _ _ hR1; have f2 := frozen_of_row w1 w.heap.size 2 _ _ hR1
    have d3 := cell_of_row w1 w.heap.size 3 _ _ _ hR1; have f3 := frozen_of_row w1 w.heap.size 3 _ _ hR1
    simp only [List.getElem?_toArray, List.getElem?_cons_zero, List.getElem?_cons_succ] at d0 d1 d2 d3
    have e0 := cell_of_row w1 (w.heap.size + 1) 0 _ _ _ hE1; have g0 := frozen_of_row w1 (w.heap.size + 1) 0 _ _ hE1
    simp only [List.getElem?_toArray, List.getElem?_cons_zero] at e0
    have hb0sz := hb0.size
    have HX := Lib.hid (And.intro hE1 (And.intro hR1 (And.intro hb (And.intro hO (And.intro hs hr)))))
    clear hE1 hR1 hb hO hs hr hR0 hE0 hb0 hb1
    obtain ⟨ab, hab⟩ : ∃ ab, bodyAt ar (atS b) = ab := ⟨_, rfl⟩
    obtain ⟨n, hn⟩ : ∃ n, atN b = n := ⟨_, rfl⟩
    obtain ⟨k, hk⟩ : ∃ n, atK b = n := ⟨_, rfl⟩
    obtain ⟨t, ht⟩ : ∃ n, wrap64 (atT b) = n := ⟨_, rfl⟩
    obtain ⟨x, hx⟩ : ∃ n, atX b = n := ⟨_, rfl⟩
    obtain ⟨sz, hsz⟩ : ∃ n, atS b = n := ⟨_, rfl⟩
    rw [hab, hn, hk, ht, hx, hsz]
    have HAB := Lib.hid (And.intro hab (And.intro hn (And.intro hk (And.intro ht (And.intro hx hsz)))))
    clear hab hn hk ht hx hsz hn₁ hc
    go_wp2
    go_region
    go_wp2
    obtain ⟨hE1, hR1, hb, hO, hs, hr⟩ := HX.out
    obtain ⟨hab, hn, hk, ht, hx, hsz⟩ := HAB.out
    have hg1 := set4_grown w1 w.heap.size (.int .i64 (k : Int)) (.int .i64 t) (.int .i64 (x : Int)) (.slice ab sz sz)
    have hR2 := set4_heap (.int .i64 (k : Int)) (.int .i64 t) (.int .i64 (x : Int)) (.slice ab sz sz) hR1
    have hE2 := (hg1.block (w.heap.size + 1) (Array.getElem?_eq_some_iff.1 hE1).1 (by simp)).trans hE1
    have hO2 := hO.besides hR1 (by decide) hg1
    have hb2 := hb.grown hg1 hb.size (fun q e => by cases e; exact Nat.le_refl _)
    revert hR2 hE2 hO2 hb2
    clear hg1 hE1 hR1 hb hO
    generalize (((w1.setCell ⟨w.heap.size, 0, none⟩ (.int .i64 (k : Int))).setCell ⟨w.heap.size, 1, none⟩ (.int .i64 t)).setCell ⟨w.heap.size, 2, none⟩ (.int .i64 (x : Int))).setCell ⟨w.heap.size, 3, none⟩ (.slice ab sz sz) = w2
    intro hR2 hE2 hO2 hb2
    have hg1 := set4_grown w2 w.heap.size (.int .i64 (k : Int)) (.int .i64 t) (.int .i64 (x : Int)) (.slice ab sz sz)
    have hR3 := set4_heap (.int .i64 (k : Int)) (.int .i64 t) (.int .i64 (x : Int)) (.slice ab sz sz) hR2
    have hE3 := (hg1.block (w.heap.size + 1) (Array.getElem?_eq_some_iff.1 hE2).1 (by simp)).trans hE2
    have hO3 := hO2.besides hR2 (by decide) hg1
    have hb3 := hb2.grown hg1 hb2.size (fun q e => by cases e; exact Nat.le_refl _)
    revert hR3 hE3 hO3 hb3
    clear hg1 hR2 hE2 hb2 hO2
    generalize (((w2.setCell ⟨w.heap.size, 0, none⟩ (.int .i64 (k : Int))).setCell ⟨w.heap.size, 1, none⟩ (.int .i64 t)).setCell ⟨w.heap.size, 2, none⟩ (.int .i64 (x : Int))).setCell ⟨w.heap.size, 3, none⟩ (.slice ab sz sz) = w3
    intro hR3 hE3 hO3 hb3
    have hg4 := set_grown w3 ⟨w.heap.size + 1, 0, none⟩ (.int .i64 0)
    have hE4 := heap_setCell_same w3 (w.heap.size + 1) 0 _ _ (.int .i64 0) hE3
    have hR4 := (hg4.block w.heap.size (Array.getElem?_eq_some_iff.1 hR3).1 (by simp)).trans hR3
    have hO4 := hO3.besides hE3 (by decide) hg4
    have hb4 := hb3.grown hg4 hb3.size (fun q e => by cases e; exact Nat.le_succ _)
    refine leaves_cons (f := 49) (args := #[.pointer (some ⟨w.heap.size + 1, 0, none⟩)]) (by simp) (by simp [go_sem]) ?_
    refine (catch_idle (w.heap.size + 1) _).mono ?_
    rintro e u' w5 ⟨rfl, rfl, rfl⟩
    refine ⟨_, results_look _ _ _ _ _ _ _ _ rfl hR4 (by kernel_rfl) rfl (cell_of_row _ _ 0 _ _ _ hE4), hb4.drew, .inl ⟨?_, ar, cr, ?_, hO4.below (Below.refl _ _).drew |>.mono ?_⟩⟩
    · unfold lookE; rw [if_neg (by rw [hl]; simp), hs, hr]; rfl
    · rw [hn, hk, ht, hx, hsz, ← hsz, hab]; rfl
    · exact hb0sz
  · have hE1 := go_row hE0 hb1
    have hR1 := go_row hR0 hb1
    have hb := go_on hb0 hb1
    refine leaves_cons (f := 49) (args := #[.pointer (some ⟨w.heap.size + 1, 0, none⟩)]) (by simp) (by simp [go_sem]) ?_
    refine (catch_panicking (w.heap.size + 1) 0 140 [] _ (cell_of_row _ _ 0 _ _ _ hE1) (frozen_of_row _ _ 0 _ _ hE1)).mono ?_
    rintro e u' w2 ⟨rfl, rfl, rfl⟩
    have hE2 := heap_setCell_same w1 (w.heap.size + 1) 0 _ _ (.int .i64 140) hE1
    have hg2 := set_grown w1 ⟨w.heap.size + 1, 0, none⟩ (.int .i64 140)
    have hR2 := (hg2.block w.heap.size (Array.getElem?_eq_some_iff.1 hR1).1 (by simp)).trans hR1
    refine ⟨_, results_look _ _ _ _ _ _ _ _ rfl hR2 (by kernel_rfl) rfl (cell_of_row _ _ 0 _ _ _ hE2), hb.setCell (by simp) _, .inr ⟨?_, ?_⟩⟩
    · unfold lookE; rw [if_neg (by rw [hl]; simp), hs]; simp
    · unfold lookE; rw [if_neg (by rw [hl]; simp), hs]; rfl
  · have hE1 := go_row hE0 hb1
    have hR1 := go_row hR0 hb1
    have hb := go_on hb0 hb1
    refine leaves_cons (f := 49) (args := #[.pointer (some ⟨w.heap.size + 1, 0, none⟩)]) (by simp) (by simp [go_sem]) ?_
    refine (catch_panicking (w.heap.size + 1) 0 141 [] _ (cell_of_row _ _ 0 _ _ _ hE1) (frozen_of_row _ _ 0 _ _ hE1)).mono ?_
    rintro e u' w2 ⟨rfl, rfl, rfl⟩
    have hE2 := heap_setCell_same w1 (w.heap.size + 1) 0 _ _ (.int .i64 141) hE1
    have hg2 := set_grown w1 ⟨w.heap.size + 1, 0, none⟩ (.int .i64 141)
    have hR2 := (hg2.block w.heap.size (Array.getElem?_eq_some_iff.1 hR1).1 (by simp)).trans hR1
    refine ⟨_, results_look _ _ _ _ _ _ _ _ rfl hR2 (by kernel_rfl) rfl (cell_of_row _ _ 0 _ _ _ hE2), hb.setCell (by simp) _, .inr ⟨?_, ?_⟩⟩
    · unfold lookE; rw [if_neg (by rw [hl]; simp), hs, hr]; simp
    · unfold lookE; rw [if_neg (by rw [hl]; simp), hs, hr]; rfl
end Go.Proofs.YtaijjlaheoamaaaDoor
/- Layer 4: Parse; kinds told by an array of texts. -/
namespace Go.Proofs.YtaijjlaheoamaaaDoor
open Go.RowKit

def parseE (n : Int) (b : List UInt8) : Nat := if numB n = true then (if lookE b = 0 then (if (atN b : Int) = n then 0 else 141) else lookE b) else 2
def ParsePost (w : World) (n : Int) (b : List UInt8) (e : Ending) (w' : World) : Prop := Below w.heap.size w w' ∧
  ((parseE n b = 0 ∧ ∃ ar c, e = .returned (.tuple #[pgv (atK b) (wrap64 (atT b)) (atX b) (bodyAt ar (atS b)) (atS b) (atS b), .int .i64 0]) ∧ OwnB w' w.heap.size (.slice ar 234 c) (b.drop 22)) ∨
   (parseE n b ≠ 0 ∧ e = .returned (.tuple #[pgv 0 0 0 none 0 0, .int .i64 (parseE n b)])))
theorem results_ct {fn : Func} {p u : Tmp} {ty : TypeId} {fs : Array Field} (h : fn.results = #[.cell p ty, .tmp u]) (tmps : Array Value) (w : World) (g : Nat) (t : TypeId) (cs : Array Value) (fr : Nat × Nat)
    (hp : tmps.getD p undef = .pointer (some ⟨g, 0, none⟩)) (hg : w.heap[g]? = some (.cells cs t fr)) (hu : Tryd.prog.underlying ty = some (.struct fs)) (hi : (Tryd.prog.info? ty).map (·.size) = some cs.size) :
    (results fn tmps).run Tryd.prog w = .ok (.tuple #[.agg cs, tmps.getD u undef]) w := by
  rw [results_cell_tmp h]
  rw [hp]
  simp [asAddr, run_loadVar_row w g t ty cs fr _ hg hu rfl hi, Result.andThen]
set_option maxHeartbeats 1000000 in
set_option maxRecDepth 100000 in
theorem parse_any (n : Int) (b : List UInt8) (a : Option Addr) (c n₁ : Nat) (hc : b.length ≤ c) (w : World) (hm : BytesAt n₁ w a b) (hn₁ : n₁ ≤ w.heap.size) (hno : a = none → c = 0) (hT : Tab w) (hg : 0 + 1 ≤ w.heap.size) :
    Calls Tryd.prog 22 #[.int .i64 n, .slice a b.length c] w fun e w' => ParsePost w n b e w' := by
  have hb0 : Below w.heap.size w (w.alloc (.cells #[.int .i64 0, .int .i64 0, .int .i64 0, .slice none 0 0] 55)) := (Below.refl _ _).alloc (Nat.le_refl _) _
  by_cases hn : numB n = true
  case neg =>
    have hn2 : numB n = false := by simpa using hn
    have HB0 := Lib.hid hb0
    clear hn hm hT hg hno hb0
    go_enter Tryd.func22, Tryd.ntmps22
    go_wp2_with (go_at_call 32; refine (isNumber_any _ _).mono ?_; rintro e w' ⟨rfl, rfl⟩)
    refine bodyPost_ret (results_ct rfl _ _ _ _ _ _ rfl (heap_alloc_new _ _) Tryd.underlying55 (by kernel_rfl)) rfl ?_
    refine ⟨HB0.out, .inr ⟨?_, ?_⟩⟩
    · unfold parseE; rw [hn2]; simp
    · unfold parseE; rw [hn2]; rfl
  have HLK := Lib.hid (look_any b a c n₁ hc _ (hm.below (hb0.mono hn₁)) (Nat.le_trans hn₁ hb0.size) hno (hT.below hg hb0) (Nat.le_trans hg hb0.size))
  have HB0 := Lib.hid hb0
  have hr0 := heap_alloc_new w (.cells #[.int .i64 0, .int .i64 0, .int .i64 0, .slice none 0 0] 55)
  have HR0 := Lib.hid hr0
  clear hm hT hg hno hb0 hr0
  go_enter Tryd.func22, Tryd.ntmps22
  go_wp2_with (go_at_call 32; refine (isNumber_any _ _).mono ?_; rintro e w' ⟨rfl, rfl⟩)
  refine HLK.out.mono ?_
  rintro e w1 ⟨hb1, ⟨hlk, ar, cr, rfl, hO⟩ | ⟨hlk, rfl⟩⟩
  · have hb := go_on HB0.out hb1
    have hR1 := go_row HR0.out hb1
    have hsz := HB0.out.size
    obtain ⟨ab, hab⟩ : ∃ ab, bodyAt ar (atS b) = ab := ⟨_, rfl⟩
    obtain ⟨m, hme⟩ : ∃ n, atN b = n := ⟨_, rfl⟩
    obtain ⟨k, hk⟩ : ∃ n, atK b = n := ⟨_, rfl⟩
    obtain ⟨t, ht⟩ : ∃ n, wrap64 (atT b) = n := ⟨_, rfl⟩
    obtain ⟨x, hx⟩ : ∃ n, atX b = n := ⟨_, rfl⟩
    obtain ⟨sz, hsz2⟩ : ∃ n, atS b = n := ⟨_, rfl⟩
    rw [hab, hme, hk, ht, hx, hsz2]
    have HAB := Lib.hid (And.intro hab (And.intro hme (And.intro hk (And.intro ht (And.intro hx hsz2)))))
    have d0 := cell_of_row w1 w.heap.size 0 _ _ _ hR1; have f0 := frozen_of_row w1 w.heap.size 0 _ _ hR1
    have d1 := cell_of_row w1 w.heap.size 1 _ _ _ hR1; have f1 := frozen_of_row w1 w.heap.size 1 _ _ hR1
    have d2 := cell_of_row w1 w.heap.size 2 _ _ _ hR1; have f2 := frozen_of_row w1 w.heap.size 2 _ _ hR1
    have d3 := cell_of_row w1 w.heap.size 3 _ _ _ hR1; have f3 := frozen_of_row w1 w.heap.size 3 _ _ hR1
    simp only [List.getElem?_toArray, List.getElem?_cons_zero, List.getElem?_cons_succ] at d0 d1 d2 d3
    have hlt := (Array.getElem?_eq_some_iff.1 hR1).1
    have HX := Lib.hid (And.intro hR1 (And.intro hb (And.intro hO hlk)))
    clear hab hme hk ht hx hsz2 hR1 hb hO hlk HB0 hb1 HLK hc hn₁
    by_cases hq : (m : Int) = n
    · have hq1 : ((m : Int) != n) = false := by simpa using hq
      go_wp2
      obtain ⟨hR1, hb, hO, hlk⟩ := HX.out
      obtain ⟨hab, hme, hk, ht, hx, hsz2⟩ := HAB.out
      have hg1 := set4_grown w1 w.heap.size (.int .i64 (k : Int)) (.int .i64 t) (.int .i64 (x : Int)) (.slice ab sz sz)
      have hR2 := set4_heap (.int .i64 (k : Int)) (.int .i64 t) (.int .i64 (x : Int)) (.slice ab sz sz) hR1
      have hO2 := hO.besides hR1 (by decide) hg1
      have hb2 := hb.grown hg1 hb.size (fun q e => by cases e; exact Nat.le_refl _)
      refine bodyPost_ret (results_ct rfl _ _ _ _ _ _ rfl ((Below.heap_alloc _ _ _ (Array.getElem?_eq_some_iff.1 hR2).1).trans hR2) Tryd.underlying55 (by kernel_rfl)) rfl ?_
      refine ⟨hb2.alloc hb2.size _, .inl ⟨?_, ar, cr, ?_, (hO2.alloc _).mono hsz⟩⟩
      · unfold parseE; rw [hn, hlk, hme]; simp [hq]
      · rw [hk, ht, hx, hsz2, ← hsz2, hab]; rfl
    · have hq1 : ((m : Int) != n) = true := by simpa using hq
      go_wp2
      obtain ⟨hR1, hb, hO, hlk⟩ := HX.out
      obtain ⟨hab, hme, hk, ht, hx, hsz2⟩ := HAB.out
      have hg1 := set4_grown w1 w.heap.size (.int .i64 0) (.int .i64 0) (.int .i64 0) (.slice none 0 0)
      have hR2 := set4_heap (.int .i64 0) (.int .i64 0) (.int .i64 0) (.slice none 0 0) hR1
      have hb2 := hb.grown hg1 hb.size (fun q e => by cases e; exact Nat.le_refl _)
      refine bodyPost_ret (results_ct rfl _ _ _ _ _ _ rfl ((Below.heap_alloc _ _ _ (Array.getElem?_eq_some_iff.1 hR2).1).trans hR2) Tryd.underlying55 (by kernel_rfl)) rfl ?_
      refine ⟨hb2.alloc hb2.size _, .inr ⟨?_, ?_⟩⟩
      · unfold parseE; rw [hn, hlk, hme]; simp [hq]
      · unfold parseE; rw [hn, hlk, hme]; simp [hq]
  · have hb := go_on HB0.out hb1
    have hR1 := go_row HR0.out hb1
    obtain ⟨m, hme⟩ : ∃ m, lookE b = m := ⟨_, rfl⟩
    rw [hme] at hlk ⊢
    have hm0 : ((m : Int) == 0) = false := by simpa using hlk
    have d0 := cell_of_row w1 w.heap.size 0 _ _ _ hR1; have f0 := frozen_of_row w1 w.heap.size 0 _ _ hR1
    have d1 := cell_of_row w1 w.heap.size 1 _ _ _ hR1; have f1 := frozen_of_row w1 w.heap.size 1 _ _ hR1
    have d2 := cell_of_row w1 w.heap.size 2 _ _ _ hR1; have f2 := frozen_of_row w1 w.heap.size 2 _ _ hR1
    have d3 := cell_of_row w1 w.heap.size 3 _ _ _ hR1; have f3 := frozen_of_row w1 w.heap.size 3 _ _ hR1
    simp only [List.getElem?_toArray, List.getElem?_cons_zero, List.getElem?_cons_succ] at d0 d1 d2 d3
    have hlt := (Array.getElem?_eq_some_iff.1 hR1).1
    have HX := Lib.hid (And.intro hR1 (And.intro hb (And.intro hme hlk)))
    clear hR1 hb hme hlk HB0 hb1 HLK hc hn₁
    go_wp2
    obtain ⟨hR1, hb, hme, hlk⟩ := HX.out
    have hg1 := set4_grown w1 w.heap.size (.int .i64 0) (.int .i64 0) (.int .i64 0) (.slice none 0 0)
    have hR2 := set4_heap (.int .i64 0) (.int .i64 0) (.int .i64 0) (.slice none 0 0) hR1
    have hb2 := hb.grown hg1 hb.size (fun q e => by cases e; exact Nat.le_refl _)
    refine bodyPost_ret (results_ct rfl _ _ _ _ _ _ rfl ((Below.heap_alloc _ _ _ (Array.getElem?_eq_some_iff.1 hR2).1).trans hR2) Tryd.underlying55 (by kernel_rfl)) rfl ?_
    refine ⟨hb2.alloc hb2.size _, .inr ⟨?_, ?_⟩⟩
    · unfold parseE; rw [hn, hme, if_pos rfl, if_neg hlk]; exact hlk
    · unfold parseE; rw [hn, hme, if_pos rfl, if_neg hlk]; rfl
def textOf (k : Int) : List UInt8 := if k = 1 then [109, 101, 116, 97] else if k = 2 then [108, 101, 97, 102] else if k = 3 then [98, 114, 97, 110, 99, 104] else if k = 4 then [99, 104, 97, 105, 110] else if k = 5 then [102, 114, 101, 101] else []
end Go.Proofs.YtaijjlaheoamaaaDoor
/- Layer 4: pages and their bytes, as plain functions: the bytes of a page tell the page; bytes that tell a page are the page's. -/
namespace Go.Proofs.YtaijjlaheoamaaaDoor
open Go.RowKit

theorem numOf_inj : ∀ (k : Nat) (l m : List UInt8), l.length = k → m.length = k → numOf l = numOf m → l = m
  | 0, l, m, hl, hm, _ => by rw [List.eq_nil_of_length_eq_zero hl, List.eq_nil_of_length_eq_zero hm]
  | k + 1, l, m, hl, hm, h => by
    have hl0 : l ≠ [] := by rintro rfl; simp at hl
    have hm0 : m ≠ [] := by rintro rfl; simp at hm
    rw [← List.dropLast_concat_getLast hl0, ← List.dropLast_concat_getLast hm0, numOf_snoc, numOf_snoc] at h
    have h1 := UInt8.toNat_lt (l.getLast hl0)
    have h2 := UInt8.toNat_lt (m.getLast hm0)
    have e1 := numOf_inj k l.dropLast m.dropLast (by simp [hl]) (by simp [hm]) (by omega)
    have e2 : l.getLast hl0 = m.getLast hm0 := UInt8.toNat_inj.1 (by omega)
    rw [← List.dropLast_concat_getLast hl0, ← List.dropLast_concat_getLast hm0, e1, e2]
theorem laid_numOf {l : List UInt8} {k : Nat} (h : l.length = k) : laidB (numOf l) k k = l :=
  numOf_inj k _ _ (laidB_len _ _ _) h (by
    have := numOf_lt l
    rw [h] at this
    exact numOf_whole this)
theorem noughts {l : List UInt8} (h : l.all (· == 0) = true) : l = List.replicate l.length 0 :=
  List.eq_replicate_iff.2 ⟨rfl, fun b hb => by simpa using List.all_eq_true.1 h b hb⟩
def pgOf (b : List UInt8) : Pg := ⟨atK b, atT b, atX b, atB b⟩
theorem wrap_small {t : Nat} (h : t ≤ 4611686018427387904) : wrap64 (t : Int) = t := by unfold wrap64; omega
theorem wrap_back {t : Nat} (h : t < 18446744073709551616) (h0 : 0 ≤ wrap64 (t : Int)) (h1 : wrap64 (t : Int) ≤ 4611686018427387904) : t ≤ 4611686018427387904 := by
  unfold wrap64 at h0 h1; omega
theorem Pg.ok_right {p : Pg} (h : p.ok) : rightB p.k (wrap64 p.t) p.x p.b.length = true := by
  obtain ⟨h1, h2, h3, h4, h5⟩ := h
  rw [wrap_small h3]
  simp [rightB, kindB, numB]; omega
/-- The bytes of a page, place by place. -/
theorem raw_places (n : Nat) (p : Pg) :
    (p.raw n).take 4 = laidB (crcSum (p.behind n)) 4 4 ∧ (p.raw n).drop 4 = p.behind n ∧ ((p.raw n).drop 4).take 1 = laidB p.k 1 1 ∧ ((p.raw n).drop 5).take 1 = laidB p.b.length 1 1 ∧
    ((p.raw n).drop 6).take 8 = laidB p.t 8 8 ∧ ((p.raw n).drop 14).take 4 = laidB n 4 4 ∧ ((p.raw n).drop 18).take 4 = laidB p.x 4 4 ∧ (p.raw n).drop 22 = laidB 0 2 2 ++ (p.b ++ List.replicate (232 - p.b.length) 0) := by
  have e : p.raw n = laidB (crcSum (p.behind n)) 4 4 ++ (laidB p.k 1 1 ++ (laidB p.b.length 1 1 ++ (laidB p.t 8 8 ++ (laidB n 4 4 ++ (laidB p.x 4 4 ++ (laidB 0 2 2 ++ (p.b ++ List.replicate (232 - p.b.length) 0))))))) := by
    rw [Pg.raw]; simp [laidParts, Pg.behind, Pg.parts]
  have eb : p.behind n = laidB p.k 1 1 ++ (laidB p.b.length 1 1 ++ (laidB p.t 8 8 ++ (laidB n 4 4 ++ (laidB p.x 4 4 ++ (laidB 0 2 2 ++ (p.b ++ List.replicate (232 - p.b.length) 0)))))) := by
    simp [laidParts, Pg.behind, Pg.parts]
  generalize p.raw n = r at e ⊢
  have d4 : r.drop 4 = p.behind n := by rw [e, drop_laid, eb]
  have d5 : r.drop 5 = laidB p.b.length 1 1 ++ (laidB p.t 8 8 ++ (laidB n 4 4 ++ (laidB p.x 4 4 ++ (laidB 0 2 2 ++ (p.b ++ List.replicate (232 - p.b.length) 0))))) := by rw [show 5 = 4 + 1 from rfl, ← List.drop_drop, d4, eb, drop_laid]
  have d6 : r.drop 6 = laidB p.t 8 8 ++ (laidB n 4 4 ++ (laidB p.x 4 4 ++ (laidB 0 2 2 ++ (p.b ++ List.replicate (232 - p.b.length) 0)))) := by rw [show 6 = 5 + 1 from rfl, ← List.drop_drop, d5, drop_laid]
  have d14 : r.drop 14 = laidB n 4 4 ++ (laidB p.x 4 4 ++ (laidB 0 2 2 ++ (p.b ++ List.replicate (232 - p.b.length) 0))) := by rw [show 14 = 6 + 8 from rfl, ← List.drop_drop, d6, drop_laid]
  have d18 : r.drop 18 = laidB p.x 4 4 ++ (laidB 0 2 2 ++ (p.b ++ List.replicate (232 - p.b.length) 0)) := by rw [show 18 = 14 + 4 from rfl, ← List.drop_drop, d14, drop_laid]
  have d22 : r.drop 22 = laidB 0 2 2 ++ (p.b ++ List.replicate (232 - p.b.length) 0) := by rw [show 22 = 18 + 4 from rfl, ← List.drop_drop, d18, drop_laid]
  refine ⟨by rw [e, take_laid], d4, by rw [d4, eb, take_laid], by rw [d5, take_laid], by rw [d6, take_laid], by rw [d14, take_laid], by rw [d18, take_laid], d22⟩
theorem raw_look {n : Nat} {p : Pg} (h : p.ok) (hn : n ≤ 4095) : lookE (p.raw n) = 0 ∧ pgOf (p.raw n) = p ∧ atN (p.raw n) = n := by
  obtain ⟨t4, d4, k1, s1, t8, n4, x4, d22⟩ := raw_places n p
  obtain ⟨h1, h2, h3, h4, h5⟩ := h
  have hl := Pg.raw_len (n := n) ⟨h1, h2, h3, h4, h5⟩
  have eK : atK (p.raw n) = p.k := by unfold atK; rw [k1, numOf_whole (by omega)]
  have eS : atS (p.raw n) = p.b.length := by unfold atS; rw [s1, numOf_whole (by omega)]
  have eT : atT (p.raw n) = p.t := by unfold atT; rw [t8, numOf_whole (by omega)]
  have eN : atN (p.raw n) = n := by unfold atN; rw [n4, numOf_whole (by omega)]
  have eX : atX (p.raw n) = p.x := by unfold atX; rw [x4, numOf_whole (by omega)]
  have eB : atB (p.raw n) = p.b := by
    unfold atB
    rw [eS, show 24 = 22 + 2 from rfl, ← List.drop_drop, d22, drop_laid, List.take_left]
  have hs : sumOk (p.raw n) = true := by
    unfold sumOk
    rw [t4, d4, numOf_whole (by have := crcSum_lt (p.behind n); omega)]; simp
  have hb : bodyOk ((p.raw n).drop 22) (atS (p.raw n)) = true := by
    rw [eS, d22]
    unfold bodyOk
    rw [take_laid, show 2 + p.b.length = 2 + p.b.length from rfl, ← List.drop_drop, drop_laid, List.drop_left]
    simp [laidB_len]
    exact ⟨by omega, by decide⟩
  have hr : restOk (p.raw n) = true := by
    unfold restOk
    rw [hb, eN, eK, eT, eX, eS, Pg.ok_right ⟨h1, h2, h3, h4, h5⟩]
    simp [numB]; omega
  refine ⟨?_, ?_, eN⟩
  · unfold lookE; rw [if_neg (by rw [hl]; simp), hs, hr]; rfl
  · unfold pgOf; rw [eK, eT, eX, eB]
theorem look_raw {b : List UInt8} (h : lookE b = 0) : (pgOf b).ok ∧ atN b ≤ 4095 ∧ (pgOf b).raw (atN b) = b ∧ b.length = 256 ∧ sumOk b = true ∧ restOk b = true ∧ atB b = (b.drop 24).take (atS b) ∧ (atB b).length = atS b := by
  unfold lookE at h
  split at h
  · cases h
  · rename_i hl
    have hl : b.length = 256 := by simpa using hl
    split at h
    · rename_i hs
      split at h
      · rename_i hr
        have hr0 := hr
        unfold restOk at hr
        simp only [Bool.and_eq_true] at hr
        obtain ⟨hbo, hn, hrt⟩ := hr
        have hT : atT b < 18446744073709551616 := num_lt b 6 8 (by omega)
        have hn2 : atN b ≤ 4095 := by simp [numB] at hn; omega
        simp only [rightB, kindB, numB, Bool.and_eq_true, decide_eq_true_eq] at hrt
        obtain ⟨⟨⟨⟨q1, q2⟩, q3⟩, q4⟩, q5⟩ := hrt
        have q6 := wrap_back hT q2 q3
        unfold bodyOk at hbo
        simp only [Bool.and_eq_true, decide_eq_true_eq] at hbo
        obtain ⟨z1, z2, z3⟩ := hbo
        rw [List.drop_drop] at z3
        have lB : (atB b).length = atS b := by unfold atB; rw [List.length_take, List.length_drop]; omega
        have hok : (pgOf b).ok := ⟨by unfold pgOf; dsimp only; omega, by unfold pgOf; dsimp only; omega, by unfold pgOf; dsimp only; omega, by unfold pgOf; dsimp only; omega, by unfold pgOf; dsimp only; omega⟩
        refine ⟨hok, hn2, ?_, hl, hs, hr0, rfl, lB⟩
        have p1 := laid_numOf (l := (b.drop 4).take 1) (k := 1) (by rw [List.length_take, List.length_drop]; omega)
        have p2 := laid_numOf (l := (b.drop 5).take 1) (k := 1) (by rw [List.length_take, List.length_drop]; omega)
        have p3 := laid_numOf (l := (b.drop 6).take 8) (k := 8) (by rw [List.length_take, List.length_drop]; omega)
        have p4 := laid_numOf (l := (b.drop 14).take 4) (k := 4) (by rw [List.length_take, List.length_drop]; omega)
        have p5 := laid_numOf (l := (b.drop 18).take 4) (k := 4) (by rw [List.length_take, List.length_drop]; omega)
        have p0 := laid_numOf (l := b.take 4) (k := 4) (by rw [List.length_take]; omega)
        have w2 := noughts z2
        have w3 := noughts z3
        rw [show ((b.drop 22).take 2).length = 2 by rw [List.length_take, List.length_drop]; omega] at w2
        rw [show (b.drop (22 + (2 + atS b))).length = 232 - atS b by rw [List.length_drop]; omega] at w3
        have cut : ∀ (i k : Nat), b.drop i = (b.drop i).take k ++ b.drop (i + k) := fun i k => by
          rw [← List.drop_drop, List.take_append_drop]
        have hbe : (pgOf b).behind (atN b) = b.drop 4 := by
          have e1 : (pgOf b).behind (atN b) = laidB (atK b) 1 1 ++ (laidB (atB b).length 1 1 ++ (laidB (atT b) 8 8 ++ (laidB (atN b) 4 4 ++ (laidB (atX b) 4 4 ++ (laidB 0 2 2 ++ (atB b ++ List.replicate (232 - (atB b).length) 0)))))) := by
            simp [laidParts, Pg.behind, Pg.parts, pgOf]
          rw [e1, lB]
          unfold atK atS atT atN atX atB at *
          rw [p1, p2, p3, p4, p5, show laidB 0 2 2 = List.replicate 2 0 by rfl, ← w2, ← w3]
          have c24 : (b.drop 24).take (atS b) ++ b.drop (22 + (2 + atS b)) = b.drop 24 := by
            rw [show 22 + (2 + atS b) = 24 + atS b by omega, ← cut 24 (atS b)]
          have c22 : (b.drop 22).take 2 ++ b.drop 24 = b.drop 22 := (cut 22 2).symm
          have c18 : (b.drop 18).take 4 ++ b.drop 22 = b.drop 18 := (cut 18 4).symm
          have c14 : (b.drop 14).take 4 ++ b.drop 18 = b.drop 14 := (cut 14 4).symm
          have c6 : (b.drop 6).take 8 ++ b.drop 14 = b.drop 6 := (cut 6 8).symm
          have c5 : (b.drop 5).take 1 ++ b.drop 6 = b.drop 5 := (cut 5 1).symm
          have c4 : (b.drop 4).take 1 ++ b.drop 5 = b.drop 4 := (cut 4 1).symm
          rw [show numOf (List.take 1 (List.drop 5 b)) = atS b from rfl, c24, c22, c18, c14, c6, c5, c4]
        rw [Pg.raw, hbe]
        unfold sumOk at hs
        rw [show laidParts [(crcSum (b.drop 4), 4)] = laidB (crcSum (b.drop 4)) 4 4 by simp [laidParts], ← (by simpa using hs : numOf (b.take 4) = crcSum (b.drop 4)), p0, List.take_append_drop]
      · cases h
    · cases h
end Go.Proofs.YtaijjlaheoamaaaDoor
/- Layer 4: the document's number at a place of the bytes. -/
namespace Go.Proofs.YtaijjlaheoamaaaDoor
open Go.RowKit

set_option maxRecDepth 100000 in
set_option maxHeartbeats 1000000 in
/-- The document's read. -/
theorem dread_any (a : Option Addr) (b : List UInt8) (c at' many n₁ : Nat) (w : World) (hm : BytesAt n₁ w a b) (hb : b.length = 256) (hc : 256 ≤ c) (h8 : many ≤ 8) (hat : at' + many ≤ 256) :
    Calls Tryd.prog 38 #[.slice a 256 c, .int .i64 at', .int .i64 many] w fun e w' => e = .returned (.int .i64 (wrap64 (numOf ((b.drop at').take many)))) ∧ w = w' := by
  have hsl := sliceFrom w a 256 c at' (by omega)
  have hr := refRead_any (slFrom a c at') (b.drop at') (c - at') many n₁ h8 w (rest_at hm (by omega)) (by rw [List.length_drop]; omega)
  rw [List.length_drop, hb] at hr
  have hP : ∀ e w', RefReadPost w (b.drop at') many e w' → e = .returned (.tuple #[.int .u64 (numOf ((b.drop at').take many) : Nat), .bool true]) ∧ w = w' := fun e w' h => by
    unfold RefReadPost at h
    rw [if_neg (by rw [List.length_drop]; omega)] at h
    exact h
  have hr := hr.mono hP
  obtain ⟨v, hv⟩ : ∃ v, numOf ((b.drop at').take many) = v := ⟨_, rfl⟩
  rw [hv] at hr ⊢
  have hv2 : v < 18446744073709551616 := by
    have h1 := numOf_lt ((b.drop at').take many)
    rw [hv] at h1
    have h2 : 256 ^ ((b.drop at').take many).length ≤ 256 ^ 8 := Nat.pow_le_pow_right (by decide) (by rw [List.length_take]; omega)
    have h3 : (256 : Nat) ^ 8 = 18446744073709551616 := by decide
    omega
  obtain ⟨a2, ha2⟩ : ∃ x, slFrom a c at' = x := ⟨_, rfl⟩
  rw [ha2] at hsl hr
  have HR := Lib.hid hr
  clear hr hP ha2 hm hv
  go_enter Tryd.func38, Tryd.ntmps38
  go_wp2_with fail

  refine HR.out.mono ?_
  rintro e w' ⟨rfl, rfl⟩
  go_wp2
  go_ret
  exact ⟨rfl, rfl⟩
end Go.Proofs.YtaijjlaheoamaaaDoor
/- Layer 4: what the document's Look needs at single operations. -/
namespace Go.Proofs.YtaijjlaheoamaaaDoor
open Go.RowKit

theorem wrapI {z : Int} (h : -9223372036854775808 ≤ z) (h2 : z < 9223372036854775808) : IntKind.i64.wrap z = z := by
  simp [IntKind.wrap, IntKind.bits, IntKind.signed]; omega
section
variable {ops : Array Oper} {o : Oper} {i : Nat} {a : Act} {w : World} {K : Act → World → Prop} {Q : Exit → Act → World → Prop}
theorem wpOp_off (ho : ops[i]? = some o) (hg : Region.wanted o (yielded ops a.tmps) = false) (hK : K (a.put o.dst undef) w) : wpOp Tryd.prog ops Q i K a w := by
  unfold wpOp
  simp only [ho]
  rw [if_neg (by rw [hg]; decide)]
  exact hK
theorem wantedOff {oi : Oper} {b b' : Bool} {d : Tmp} {j : Nat} (hg : o.guard = some (j, b)) (ho : ops[j]? = some oi) (hd : oi.dst = some d) (hsz : d < a.tmps.size) (hv : a.eval (.tmp d) = .bool b') (hb : b' ≠ b) : Region.wanted o (yielded ops a.tmps) = false := by
  have h1 : a.tmps[d]? = some (.bool b') := by
    have : a.tmps.getD d undef = .bool b' := hv
    rw [Array.getD, dif_pos hsz] at this
    rw [Array.getElem?_eq_getElem hsz]; exact congrArg some this
  unfold Region.wanted
  rw [hg]
  simp [yielded, ho, hd, h1, hb]
theorem wpOp_neL {x y : Operand} {n m : Int} {c : Bool} (ho : ops[i]? = some o) (hg : Region.wanted o (yielded ops a.tmps) = true) (hop : o.op = .binOp .neq 2 x y 2) (hx : a.eval x = .int .i64 n) (hy : a.eval y = .int .i64 m) (hc : c = (n != m)) (hK : K (a.put o.dst (.bool c)) w) : wpOp Tryd.prog ops Q i K a w := by
  subst hc
  exact wpOp_val ho hg (by simp only [execOp, hop, hx, hy]; simp [go_sem]) hK
theorem wpOp_ltL {x y : Operand} {n m : Int} {c : Bool} (ho : ops[i]? = some o) (hg : Region.wanted o (yielded ops a.tmps) = true) (hop : o.op = .binOp .lss 2 x y 2) (hx : a.eval x = .int .i64 n) (hy : a.eval y = .int .i64 m) (hc : c = decide (n < m)) (hK : K (a.put o.dst (.bool c)) w) : wpOp Tryd.prog ops Q i K a w := by
  subst hc
  exact wpOp_val ho hg (by simp only [execOp, hop, hx, hy]; simp [go_sem]) hK
theorem wpOp_gtL {x y : Operand} {n m : Int} {c : Bool} (ho : ops[i]? = some o) (hg : Region.wanted o (yielded ops a.tmps) = true) (hop : o.op = .binOp .gtr 2 x y 2) (hx : a.eval x = .int .i64 n) (hy : a.eval y = .int .i64 m) (hc : c = decide (m < n)) (hK : K (a.put o.dst (.bool c)) w) : wpOp Tryd.prog ops Q i K a w := by
  subst hc
  exact wpOp_val ho hg (by simp only [execOp, hop, hx, hy]; simp [go_sem]) hK
theorem wpOp_notB {x : Operand} {b c : Bool} (ho : ops[i]? = some o) (hg : Region.wanted o (yielded ops a.tmps) = true) (hop : o.op = .unOp .not 4 x) (hx : a.eval x = .bool b) (hc : c = !b) (hK : K (a.put o.dst (.bool c)) w) : wpOp Tryd.prog ops Q i K a w := by
  subst hc
  exact wpOp_val ho hg (by simp only [execOp, hop, hx]; simp [go_sem]) hK
theorem wpOp_add24 {x y : Operand} {n : Nat} (ho : ops[i]? = some o) (hg : Region.wanted o (yielded ops a.tmps) = true) (hop : o.op = .binOp .add 3 x y 3) (hx : a.eval x = .int .i64 24) (hy : a.eval y = .int .i64 n) (hn : n ≤ 1000) (hK : K (a.put o.dst (.int .i64 (24 + (n : Int)))) w) : wpOp Tryd.prog ops Q i K a w := by
  have h : IntKind.i64.wrap (24 + (n : Int)) = 24 + (n : Int) := wrapI (by omega) (by omega)
  exact wpOp_val ho hg (by simp only [execOp, hop, hx, hy]; simp [go_sem, h]) hK
end
theorem slice24 (w : World) (a : Option Addr) (n c size : Nat) (hc : 24 + size ≤ c) : (Instr.sliceAt 22 (.slice a n c) (some (.int .i64 24)) (some (.int .i64 (24 + (size : Int)))) none).run Tryd.prog w = .ok (.slice (slFrom a c 24) size (c - 24)) w := by
  have hel : Tryd.prog.elem 22 = 5 := by kernel_rfl
  have hu : Tryd.prog.underlying 22 = some (.slice (Tryd.prog.elem 22)) := by rw [hel]; exact Tryd.underlying22
  have hs : (sizeOf 5).run Tryd.prog w = .ok 1 w := by kernel_rfl
  have h1 := (run_sliceAt_slice (P := Tryd.prog) w 22 (.slice a n c) (some (.int .i64 24)) (some (.int .i64 (24 + (size : Int)))) none hu).trans (run_slice_lh (P := Tryd.prog) w 22 a n c hu .i64 .i64 24 (24 + (size : Int)) (by omega) (by omega) (by omega))
  rw [hel, hs] at h1
  rw [h1]
  simp only [Result.andThen_ok, sliced, show (24 + (size : Int)).toNat = 24 + size by omega, show (24 : Int).toNat = 24 from rfl, show 24 + size - 24 = size by omega]
  rfl
theorem index_b (w : World) (b off n cap i : Nat) (h : i < n) : (Instr.indexAt 22 (.slice (some ⟨b, off, none⟩) n cap) (.int .i64 i)).run Tryd.prog w = .ok (.pointer (some ⟨b, off + i, none⟩)) w := by
  have he : Tryd.prog.elem 22 = 5 := by kernel_rfl
  have hs : (sizeOf 5).run Tryd.prog w = .ok 1 w := by kernel_rfl
  refine (run_indexAt_slice (P := Tryd.prog) (w := w) 22 ⟨b, off, none⟩ n cap .i64 i (by rw [he]; exact Tryd.underlying22)).trans ?_
  rw [if_pos (by omega), he, hs]
  simp [Result.andThen, Addr.add]
theorem conv_i64 (w : World) (n : Nat) (h : n < 4294967296) : (convert 86 2 (.int .u32 n)).run Tryd.prog w = .ok (.int .i64 n) w := by
  have h2 : IntKind.i64.wrap (n : Int) = n := wrapI (by omega) (by omega)
  simp [go_sem, h2]
theorem conv_kind (w : World) (n : Nat) (h : n < 256) : (convert 5 53 (.int .u8 n)).run Tryd.prog w = .ok (.int .i64 n) w := by
  have h2 : IntKind.i64.wrap (n : Int) = n := wrapI (by omega) (by omega)
  simp [go_sem, h2]
theorem sumOk_neL (b : List UInt8) : ((wrap64 ((numOf (b.take 4) : Nat) : Int)) != ((crcSum (b.drop 4) : Nat) : Int)) = !sumOk b := by
  have h1 := numOf_lt (b.take 4)
  have h2 : 256 ^ (b.take 4).length ≤ 256 ^ 4 := Nat.pow_le_pow_right (by decide) (by rw [List.length_take]; omega)
  have h3 : (256 : Nat) ^ 4 = 4294967296 := by decide
  have h4 : wrap64 ((numOf (b.take 4) : Nat) : Int) = (numOf (b.take 4) : Nat) := by unfold wrap64; omega
  rw [h4]
  unfold sumOk
  rw [Bool.eq_iff_iff]; simp; omega
theorem results_tct {fn : Func} {p u v : Tmp} {ty : TypeId} {fs : Array Field} (h : fn.results = #[.tmp u, .cell p ty, .tmp v]) (tmps : Array Value) (w : World) (g : Nat) (t : TypeId) (cs : Array Value) (fr : Nat × Nat)
    (hp : tmps.getD p undef = .pointer (some ⟨g, 0, none⟩)) (hg : w.heap[g]? = some (.cells cs t fr)) (hu : Tryd.prog.underlying ty = some (.struct fs)) (hi : (Tryd.prog.info? ty).map (·.size) = some cs.size) :
    (results fn tmps).run Tryd.prog w = .ok (.tuple #[tmps.getD u undef, .agg cs, tmps.getD v undef]) w := by
  have h1 : (results fn tmps).run Tryd.prog w = ((asAddr (tmps.getD p undef)).run Tryd.prog w).andThen fun a w => ((loadVar ty a).run Tryd.prog w).andThen fun x w => .ok (.tuple #[tmps.getD u undef, x, tmps.getD v undef]) w := by
    simp [results, h]
  rw [h1, hp]
  simp [asAddr, run_loadVar_row w g t ty cs fr _ hg hu rfl hi, Result.andThen]
theorem row_grown (w : World) (g : Nat) (cs : Array Value) : w.grownBy (w.setRow g cs) (some g) :=
  ⟨rfl, rfl, rfl, by simp [World.setRow], fun k _ hk => by
    simp only [World.setRow, Array.getElem?_modify]
    rw [if_neg (fun e => hk (by rw [e]))]⟩
theorem row_set {w : World} {g : Nat} {old : Array Value} {t : TypeId} {fr : Nat × Nat} (cs : Array Value) (h : w.heap[g]? = some (.cells old t fr)) : (w.setRow g cs).heap[g]? = some (.cells cs t fr) := by
  simp only [World.setRow, Array.getElem?_modify, if_true, h, Option.map_some]
/-- A page stored over a page's block. -/
theorem pg_store {w : World} {g : Nat} {old : Array Value} {t : TypeId} (v0 v1 v2 v3 : Value) (h : w.heap[g]? = some (.cells old t (0, 0))) (hs : old.size = 4) (h1 : (#[v0, v1, v2, v3] : Array Value).all (·.oneCell') = true) :
    (Instr.storeAt 55 (.pointer (some ⟨g, 0, none⟩)) (.agg #[v0, v1, v2, v3])).run Tryd.prog w = .ok () (w.setRow g #[v0, v1, v2, v3]) := by
  have := run_storeVar_row (P := Tryd.prog) w g t 55 old #[v0, v1, v2, v3] h (by kernel_rfl) (by rw [hs]; rfl) h1
  simp [Instr.storeAt, Instr.sureAddr, this]
theorem pg_alloc (w : World) : (Instr.alloc 55 true (.tuple #[])).run Tryd.prog w = .ok (.pointer (some ⟨w.heap.size, 0, none⟩)) (w.alloc (.cells #[.int .i64 0, .int .i64 0, .int .i64 0, .slice none 0 0] 55)) := by
  simp [go_sem]
theorem pg_build (w : World) (v0 v1 v2 : Int) (a : Option Addr) (n c : Nat) : (Instr.build 55 #[(0, .int .i64 v0), (1, .int .i64 v1), (2, .int .i64 v2), (3, .slice a n c)]).run Tryd.prog w = .ok (pgv v0 v1 v2 a n c) w := by
  simp [go_sem]
theorem one_at (b : List UInt8) (i : Nat) (h : i < b.length) : numOf ((b.drop i).take 1) = (b[i]?.getD 0).toNat := by
  have := numOf_take (l := b.drop i) (j := 0) (by rw [List.length_drop]; omega)
  rw [this, List.getElem?_drop]
  simp [numOf]
end Go.Proofs.YtaijjlaheoamaaaDoor

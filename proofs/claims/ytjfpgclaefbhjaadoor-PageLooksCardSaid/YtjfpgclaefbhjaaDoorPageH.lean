/- Layer 4: the document's bytes of a page, whole. -/
import Derived.Test.YtjfpgclaefbhjaaDoorPageG
import Derived.Test.YtjfpgclaefbhjaaDoorStops
namespace Go.Proofs.YtjfpgclaefbhjaaDoor
open Go.RowKit

def RwSp (A N k bl : Nat) (a : Option Addr) (c : Nat) : Nat → Value → World → Prop
  | 0, v, _ => v = .pointer (some ⟨A, 0, none⟩)
  | 1, v, _ => v = .int .i64 k
  | 2, v, w' => ∃ g, v = .slice (some ⟨g, 0, none⟩) 1 1 ∧ OwnB w' N (.slice (some ⟨g, 0, none⟩) 1 1) (laidB k 1 1)
  | 3, v, _ => v = .pointer (some ⟨A, 3, none⟩)
  | 4, v, _ => v = .slice a bl c
  | 5, v, _ => v = .int .i64 bl
  | 6, v, w' => ∃ g, v = .slice (some ⟨g, 0, none⟩) 1 1 ∧ OwnB w' N (.slice (some ⟨g, 0, none⟩) 1 1) (laidB bl 1 1)
  | 7, v, w' => OwnB w' N v (laidB k 1 1 ++ laidB bl 1 1)
  | 8, v, w' => OwnB w' N v (laidB k 1 1 ++ laidB bl 1 1)
  | _, _, _ => True
theorem RwSp.below {A N k bl : Nat} {a : Option Addr} {c : Nat} {w' w'' : World} (hb : Below w'.heap.size w' w'') (j : Nat) (v : Value) (h : RwSp A N k bl a c j v w') : RwSp A N k bl a c j v w'' := by
  rcases j with _ | _ | _ | _ | _ | _ | _ | _ | _ | j
  · exact h
  · exact h
  · obtain ⟨g, e, hO⟩ := h; exact ⟨g, e, hO.below hb⟩
  · exact h
  · exact h
  · exact h
  · obtain ⟨g, e, hO⟩ := h; exact ⟨g, e, hO.below hb⟩
  · exact OwnB.below h hb
  · exact OwnB.below h hb
  · exact h
theorem field25_0 (A : Nat) (w : World) : (Instr.fieldAt 25 (.pointer (some ⟨A, 0, none⟩)) 0).run Tryd.prog w = .ok (.pointer (some ⟨A, 0, none⟩)) w := by simp [go_sem]
theorem field25_3 (A : Nat) (w : World) : (Instr.fieldAt 25 (.pointer (some ⟨A, 0, none⟩)) 3).run Tryd.prog w = .ok (.pointer (some ⟨A, 3, none⟩)) w := by simp [go_sem]
theorem wpList_append_len {w : World} {ops : Array Oper} {rest : List Oper} {o : Oper} {a : Act} {Q : Exit → Act → World → Prop} (hgd : o.guard = none) (s x : Operand)
    (ho : o.op = .call { callee := .builtin .append, args := #[s, x], argTypes := #[23, 23] }) (w0 : World) (v : Value) (l : List UInt8) (hs : a.eval s = v) (hown : OwnB w w0.heap.size v l) (hB : Below w0.heap.size w0 w)
    (u : Value) (m : List UInt8) (hx : a.eval x = u) (hm : IsBs w.heap.size w u m) (hbound : l.length + m.length ≤ 1000000)
    (h : ∀ v' w', OwnB w' w0.heap.size v' (l ++ m) → Below w0.heap.size w0 w' → wpList Tryd.prog ops Q rest (a.put o.dst v') w') : wpList Tryd.prog ops Q (o :: rest) a w := by
  obtain ⟨ao, c, rfl, hm1, hm2, hm3⟩ := hm
  exact wpList_append_bytes hgd s x ho w0.heap.size w.heap.size v l hs hown ao m c hx hm2 hm3 hm1 (by omega) hB.size fun v' w' hO hg => h v' w' hO (hown.grown hg hB (Nat.le_refl _) hB.size)
theorem num_bs {w w' : World} {n k g : Nat} (hO : OwnB w' w.heap.size (.slice (some ⟨g, 0, none⟩) k k) (laidB n k k)) : IsBs w'.heap.size w' (.slice (some ⟨g, 0, none⟩) k k) (laidB n k k) := by
  have := hO.isBs
  exact this
set_option maxRecDepth 100000 in
set_option maxHeartbeats 1000000 in
theorem rraw_any (n : Nat) (hn : n ≤ 4095) (p : Pg) (hok : p.ok) (a : Option Addr) (c : Nat) (w : World) (n₁ : Nat) (hn₁ : n₁ ≤ w.heap.size) (hm : BytesAt n₁ w a p.b) (hno : a = none → c = 0) (hle : p.b.length ≤ c) :
    Calls Tryd.prog 14 #[.int .i64 n, pgv p.k p.t p.x a p.b.length c] w fun e w' => LaidPost w (p.raw n) e w' := by
  have hb0 : Below w.heap.size w (w.alloc (.cells #[.int .i64 p.k, .int .i64 p.t, .int .i64 p.x, .slice a p.b.length c] 25)) := (Below.refl _ _).alloc (Nat.le_refl _) _
  have HM := Lib.hid (And.intro hm (And.intro hno hle))
  have HK := Lib.hid hok
  obtain ⟨k1, k2, k3, k4, k5⟩ := hok
  obtain ⟨bl, hbl⟩ : ∃ bl, p.b.length = bl := ⟨_, rfl⟩
  rw [hbl] at hb0 k5 ⊢
  have HBL := Lib.hid hbl
  have hr0 := heap_alloc_new w (.cells #[.int .i64 p.k, .int .i64 p.t, .int .i64 p.x, .slice a bl c] 25)
  have HB0 := Lib.hid (And.intro hb0 hr0)
  clear hm hno hle hbl hb0 hr0
  go_enter Tryd.func14, Tryd.ntmps14
  go_wp2_with fail
  obtain ⟨hb0, hr0⟩ := HB0.out
  obtain ⟨A, hA⟩ : ∃ A, w.heap.size = A := ⟨_, rfl⟩
  revert hb0 hr0
  generalize hw0 : w.alloc (.cells #[.int .i64 p.k, .int .i64 p.t, .int .i64 p.x, .slice a bl c] 25) = w0
  rw [hA]
  intro hb0 hr0
  have hA0 : A < w0.heap.size := (Array.getElem?_eq_some_iff.1 hr0).1
  clear HB0 hw0
  refine wp_region_m (fun _ w' => Below w0.heap.size w0 w') (RwSp A w0.heap.size p.k bl a c) (by kernel_rfl) (by kernel_rfl) (by kernel_rfl) (by kernel_rfl) (Below.refl _ _).drew ?step ?fin
  case step =>
    intro q o ho listed a' w' hI hn' hpre
    have hq : q < 9 := (Array.getElem?_eq_some_iff.1 ho).1
    have hB := hI.inv
    have hrow := (hB.block A hA0).trans hr0
    match q, hq with
    | 0, _ =>
      cases ho
      exact wpOp_field rfl rfl rfl (hI.kept (t := 3) (by kernel_rfl)) (field25_0 A w') ⟨_, rfl, hB, fun _ => rfl, fun _ _ _ h => h⟩
    | 1, _ =>
      cases ho
      exact wpOp_load rfl rfl rfl (hI.slot 0 6 rfl (hpre ⟨0, .data⟩ (by simp) rfl) rfl) (load_cellR (Tryd.isAgg22 w') (v := .int .i64 p.k) (cell_of_row w' A 0 _ _ _ hrow)) ⟨_, rfl, hB, fun _ => rfl, fun _ _ _ h => h⟩
    | 2, _ =>
      cases ho
      have e1 : a'.eval (.tmp 7) = .int .i64 p.k := hI.slot 1 7 rfl (hpre ⟨1, .data⟩ (by simp) rfl) rfl
      refine wpOp_callFn rfl rfl rfl (vs := #[.int .i64 p.k, .int .i64 1]) (by simp only [List.map_toArray, List.map_cons, List.map_nil, e1]; rfl) (fun _ _ => by kernel_rfl) ((number4_any p.k (by omega) 1 (by decide) (by decide) w').mono ?_)
      rintro e w'' ⟨g, rfl, hO, hb2⟩
      exact ⟨_, rfl, _, rfl, hB.trans (hb2.mono hB.size), fun _ => ⟨g, rfl, hO.mono hB.size⟩, fun j u _ h => RwSp.below hb2 j u h⟩
    | 3, _ =>
      cases ho
      exact wpOp_field rfl rfl rfl (hI.kept (t := 3) (by kernel_rfl)) (field25_3 A w') ⟨_, rfl, hB, fun _ => rfl, fun _ _ _ h => h⟩
    | 4, _ =>
      cases ho
      exact wpOp_load rfl rfl rfl (hI.slot 3 9 rfl (hpre ⟨3, .data⟩ (by simp) rfl) rfl) (load_cellR (Tryd.isAgg23 w') (v := .slice a bl c) (cell_of_row w' A 3 _ _ _ hrow)) ⟨_, rfl, hB, fun _ => rfl, fun _ _ _ h => h⟩
    | 5, _ =>
      cases ho
      exact wpOp_lenS rfl rfl rfl (hI.slot 4 10 rfl (hpre ⟨4, .data⟩ (by simp) rfl) rfl) ⟨_, rfl, hB, fun _ => rfl, fun _ _ _ h => h⟩
    | 6, _ =>
      cases ho
      have e1 : a'.eval (.tmp 11) = .int .i64 bl := hI.slot 5 11 rfl (hpre ⟨5, .data⟩ (by simp) rfl) rfl
      refine wpOp_callFn rfl rfl rfl (vs := #[.int .i64 bl, .int .i64 1]) (by simp only [List.map_toArray, List.map_cons, List.map_nil, e1]; rfl) (fun _ _ => by kernel_rfl) ((number4_any bl (by omega) 1 (by decide) (by decide) w').mono ?_)
      rintro e w'' ⟨g, rfl, hO, hb2⟩
      exact ⟨_, rfl, _, rfl, hB.trans (hb2.mono hB.size), fun _ => ⟨g, rfl, hO.mono hB.size⟩, fun j u _ h => RwSp.below hb2 j u h⟩
    | 7, _ =>
      cases ho
      obtain ⟨g, e2, hO2⟩ : ∃ g, a'.eval (.tmp 8) = .slice (some ⟨g, 0, none⟩) 1 1 ∧ OwnB w' w0.heap.size (.slice (some ⟨g, 0, none⟩) 1 1) (laidB p.k 1 1) := hI.slot 2 8 rfl (hpre ⟨2, .data⟩ (by simp) rfl) rfl
      obtain ⟨g6, e6, hO6⟩ : ∃ g, a'.eval (.tmp 12) = .slice (some ⟨g, 0, none⟩) 1 1 ∧ OwnB w' w0.heap.size (.slice (some ⟨g, 0, none⟩) 1 1) (laidB bl 1 1) := hI.slot 6 12 rfl (hpre ⟨6, .data⟩ (by simp) rfl) rfl
      obtain ⟨a6, c6, e, hm6, -⟩ := hO6.form
      have hl6 : (laidB bl 1 1).length = 1 := laidB_len _ _ _
      rw [hl6] at e
      cases e
      obtain ⟨v', w'', hr, hO, hb2⟩ := append_full w' w0.heap.size 23 g 1 (laidB p.k 1 1) hO2 (laidB_len _ _ _) w'.heap.size ⟨g6, 0, none⟩ (laidB bl 1 1) 1 hm6 (by rw [hl6]; decide) (by rw [hl6]; decide)
      rw [hl6] at hr
      exact wpOp_append rfl rfl rfl e2 e6 hr ⟨_, rfl, hB.trans (hb2.mono hB.size), fun _ => hO.mono hB.size, fun j u _ h => RwSp.below hb2 j u h⟩
    | 8, _ =>
      cases ho
      have e7 := hI.slot 7 13 rfl (hpre ⟨7, .data⟩ (by simp) rfl) rfl
      exact wpOp_move rfl rfl (.inr rfl) rfl ⟨_, rfl, hB, fun _ => e7, fun _ _ _ h => h⟩
  case fin =>
    intro listed a' w1 hI hall
    have hB := hI.inv
    have e5 : OwnB w1 w0.heap.size (a'.tmps.getD 5 undef) (laidB p.k 1 1 ++ laidB bl 1 1) := hI.slot 8 5 rfl (hall 8 (by decide)) rfl
    obtain ⟨vs, hvl, hvs, e⟩ := hI.frame 5 9 (Nat.le_of_ble_eq_true (by kernel_rfl)) (by kernel_rfl)
    have v0' := hvs 0 (by decide)
    clear hI hall hvs
    match vs, hvl with
    | [t0, t1, t2, t3, t4, t5, t6, t7, t8], _ =>
    simp only [List.getElem?_cons_zero, Option.some.injEq, Nat.add_zero] at v0'
    rw [← v0'] at e5
    simp only [List.take_succ_cons, List.take_zero, List.drop_succ_cons, List.drop_zero, List.cons_append, List.nil_append, Nat.reduceAdd] at e
    subst e
    clear v0'
    have row := fun (w' : World) (h : Below w0.heap.size w0 w') => (h.block A hA0).trans hr0
    have ROW := Lib.hid row
    have hk1 := cell_of_row w1 A 1 _ _ _ (row w1 hB)
    simp only [List.getElem?_toArray, List.getElem?_cons_zero, List.getElem?_cons_succ] at hk1
    have hAl := Nat.lt_of_lt_of_le hA0 hB.size
    have HX := Lib.hid (And.intro hB e5)
    clear hB hr0 e5 row
    go_wp2_with fail
    refine (number4_any p.t (by omega) 8 (by decide) (by decide) w1).mono ?_
    rintro e w2 ⟨g2, rfl, hO2, hb2⟩
    obtain ⟨hB1, hO1⟩ := HX.out
    have hB2 := hB1.trans (hb2.mono hB1.size)
    have hP2 := hO1.below hb2
    clear HX hB1 hO1 hb2 hk1
    have hN2 := num_bs hO2
    have HX := Lib.hid (And.intro hB2 (And.intro hP2 hN2))
    clear hB2 hP2 hN2 hO2
    go_wp2_with (at_builtin; refine stop_here ?_)
    refine wpList_append_len rfl (.tmp 14) (.tmp 17) rfl w0 _ _ rfl HX.out.2.1 HX.out.1 _ _ rfl HX.out.2.2 (by simp [laidB_len]) ?_
    clear HX
    intro v3 w3 hO3 hB3
    have HX := Lib.hid (And.intro hB3 hO3)
    clear hB3 hO3
    clear hAl
    go_wp2_with fail
    refine (number4_any n (by omega) 4 (by decide) (by decide) w3).mono ?_
    rintro e w4 ⟨g4, rfl, hO2, hb2⟩
    obtain ⟨hB1, hO1⟩ := HX.out
    have hB2 := hB1.trans (hb2.mono hB1.size)
    have hP2 := hO1.below hb2
    clear HX hB1 hO1 hb2
    have hN2 := num_bs hO2
    have HX := Lib.hid (And.intro hB2 (And.intro hP2 hN2))
    clear hB2 hP2 hN2 hO2
    go_wp2_with (at_builtin; refine stop_here ?_)
    refine wpList_append_len rfl (.tmp 18) (.tmp 20) rfl w0 _ _ rfl HX.out.2.1 HX.out.1 _ _ rfl HX.out.2.2 (by simp [laidB_len]) ?_
    clear HX
    intro v5 w5 hO3 hB3
    have HX := Lib.hid (And.intro hB3 hO3)
    clear hB3 hO3
    have hk2 := cell_of_row w5 A 2 _ _ _ (ROW.out w5 HX.out.1)
    simp only [List.getElem?_toArray, List.getElem?_cons_zero, List.getElem?_cons_succ] at hk2
    have hAw5 := Nat.lt_of_lt_of_le hA0 HX.out.1.size
    go_wp2_with fail
    clear hk2
    refine (number4_any p.x (by omega) 4 (by decide) (by decide) w5).mono ?_
    rintro e w6 ⟨g6, rfl, hO2, hb2⟩
    obtain ⟨hB1, hO1⟩ := HX.out
    have hB2 := hB1.trans (hb2.mono hB1.size)
    have hP2 := hO1.below hb2
    clear HX hB1 hO1 hb2
    have hN2 := num_bs hO2
    have HX := Lib.hid (And.intro hB2 (And.intro hP2 hN2))
    clear hB2 hP2 hN2 hO2
    go_wp2_with (at_builtin; refine stop_here ?_)
    refine wpList_append_len rfl (.tmp 22) (.tmp 25) rfl w0 _ _ rfl HX.out.2.1 HX.out.1 _ _ rfl HX.out.2.2 (by simp [laidB_len]) ?_
    clear HX
    intro v7 w7 hO3 hB3
    have HX := Lib.hid (And.intro hB3 hO3)
    clear hB3 hO3
    have hz := zeros_bs w7 2
    have hal : Below w7.heap.size w7 (w7.alloc (.cells (byteVals (List.replicate 2 0)).toArray 5)) := (Below.refl _ _).alloc (Nat.le_refl _) _
    have hB7 := HX.out.1.trans (hal.mono HX.out.1.size)
    have hO7 := HX.out.2.below hal
    have HX2 := Lib.hid (And.intro hB7 (And.intro hO7 (hz.mono (n₁ := (w7.alloc (.cells (byteVals (List.replicate 2 0)).toArray 5)).heap.size) (by simp))))
    clear HX hz hal hB7 hO7
    go_wp2_with (at_builtin; refine stop_here ?_)
    refine wpList_append_len rfl (.tmp 26) (.tmp 27) rfl w0 _ _ rfl HX2.out.2.1 HX2.out.1 _ _ rfl HX2.out.2.2 (by simp [laidB_len]) ?_
    clear HX2
    intro v8 w8 hO3 hB3
    have hpre : laidB p.k 1 1 ++ laidB bl 1 1 ++ laidB p.t 8 8 ++ laidB n 4 4 ++ laidB p.x 4 4 ++ List.replicate 2 0 = laidParts (p.parts n) := by
      rw [show List.replicate 2 (0 : UInt8) = laidB 0 2 2 by rfl, Pg.parts, HBL.out]
      simp [laidParts]
    rw [hpre] at hO3
    have HX := Lib.hid (And.intro hB3 hO3)
    clear hB3 hO3 hpre
    have hk3 := cell_of_row w8 A 3 _ _ _ (ROW.out w8 HX.out.1)
    simp only [List.getElem?_toArray, List.getElem?_cons_zero, List.getElem?_cons_succ] at hk3
    have hAw8 := Nat.lt_of_lt_of_le hA0 HX.out.1.size
    go_wp2_with (at_builtin; refine stop_here ?_)
    have hbody : IsBs w8.heap.size w8 (.slice a bl c) p.b := by
      have h1 : IsBs n₁ w (.slice a bl c) p.b := ⟨a, c, by rw [HBL.out], HM.out.1, HM.out.2.1, HM.out.2.2⟩
      have h2 := hb0.trans (HX.out.1.mono (by omega))
      exact (h1.below (h2.mono (by omega))).mono (by omega)
    refine wpList_append_len rfl (.tmp 29) (.tmp 31) rfl w0 _ _ rfl HX.out.2 HX.out.1 _ _ rfl hbody (by rw [Pg.parts_len, HBL.out]; omega) ?_
    clear HX hbody hk3
    intro v9 w9 hO3 hB3
    have hl9 : (laidParts (p.parts n) ++ p.b).length = 20 + bl := by rw [List.length_append, Pg.parts_len, HBL.out]
    obtain ⟨L, hL⟩ : ∃ L, laidParts (p.parts n) ++ p.b = L := ⟨_, rfl⟩
    rw [hL] at hO3 hl9
    have HL := Lib.hid (And.intro hL hl9)
    clear hL hl9
    obtain ⟨a9, d9, rfl, -⟩ := hO3.form
    rw [HL.out.2] at hO3 ⊢
    go_wp2
    go_loopw [5, 33, 34, 35, 36, 37, 38] (fun v _ _ _ _ _ _ wr => ∃ (j : Nat) (ai : Option Addr) (ci : Nat), v = .slice ai (20 + bl + j) ci ∧ j ≤ 232 - bl ∧ OwnB wr w0.heap.size (.slice ai (20 + bl + j) ci) (L ++ List.replicate j 0) ∧ Below w0.heap.size w0 wr)
      (fun v _ _ _ _ _ _ _ => match v with | .slice _ m _ => 252 - m | _ => 0)
    case atStart => exact ⟨0, a9, d9, rfl, Nat.zero_le _, by simpa using hO3, hB3⟩
    case round =>
      obtain ⟨j, ai, ci, rfl, hj, hO, hB⟩ := hrel
      obtain ⟨q, hq⟩ : ∃ q, 20 + bl + j = q := ⟨_, rfl⟩
      rw [hq] at hO ⊢
      by_cases hlt : j < 232 - bl
      · have hqL : (q : Int) < 252 := by omega
        have hal : Below wr.heap.size wr (wr.alloc (.cells (byteVals (List.replicate 1 0)).toArray 5)) := (Below.refl _ _).alloc (Nat.le_refl _) _
        have HX := Lib.hid (And.intro (hB.trans (hal.mono hB.size)) (And.intro (hO.below hal) ((zeros_bs wr 1).mono (n₁ := (wr.alloc (.cells (byteVals (List.replicate 1 0)).toArray 5)).heap.size) (by simp))))
        have HQ := Lib.hid hq
        clear hO hB hal hO3 hB3 hq
        go_wp2_with (at_builtin; refine stop_here ?_)
        refine wpList_append_len rfl (.tmp 36) (.tmp 37) rfl w0 _ _ rfl HX.out.2.1 HX.out.1 _ _ rfl HX.out.2.2 (by rw [List.length_append, HL.out.2, List.length_replicate, List.length_replicate]; omega) ?_
        clear HX
        intro v' w' hO' hB'
        have hrep : L ++ List.replicate j (0 : UInt8) ++ List.replicate 1 0 = L ++ List.replicate (j + 1) 0 := by rw [List.append_assoc, List.replicate_append_replicate]
        rw [hrep] at hO'
        have hlen : (L ++ List.replicate (j + 1) (0 : UInt8)).length = 20 + bl + (j + 1) := by rw [List.length_append, HL.out.2, List.length_replicate]
        obtain ⟨ai', ci', rfl, -⟩ := hO'.form
        rw [hlen] at hO' ⊢
        have HX := Lib.hid (And.intro hO' hB')
        clear hO' hB' hlen hrep
        go_wp2
        exact ⟨⟨j + 1, ai', ci', rfl, hlt, HX.out.1, HX.out.2⟩, by have := HQ.out; dsimp only; omega⟩
      · obtain rfl : j = 232 - bl := by omega
        obtain rfl : q = 252 := by omega
        have hbe : L ++ List.replicate (232 - bl) 0 = p.behind n := by rw [← HL.out.1, Pg.behind, HBL.out]; simp
        rw [hbe] at hO
        have hbs := hO.isBs
        have hrs := refSum_any wr.heap.size ai ci (p.behind n) (by rw [Pg.behind_len HK.out]; decide) wr (by
          obtain ⟨a', c', e, h, -⟩ := hbs
          rw [Pg.behind_len HK.out] at e
          cases e; exact h)
        rw [Pg.behind_len HK.out] at hrs
        have hs := crcSum_lt (p.behind n)
        obtain ⟨sm, hse⟩ : ∃ s, crcSum (p.behind n) = s := ⟨_, rfl⟩
        rw [hse] at hs hrs
        have HS := Lib.hid hse
        have HR := Lib.hid hrs
        have HX := Lib.hid (And.intro hB hO)
        clear hse hrs hB hO hbs hbe hO3 hB3 hq
        go_wp2_with (go_at_call 27; refine HR.out.mono ?_; rintro e wz ⟨rfl, rfl⟩)
        refine (number4_any sm (by omega) 4 (by decide) (by decide) wr).mono ?_
        rintro e w10 ⟨g10, rfl, hO10, hb10⟩
        have hB10 := HX.out.1.trans (hb10.mono HX.out.1.size)
        have hbs := (HX.out.2.below hb10).isBs
        have HY := Lib.hid (And.intro hB10 (And.intro (hO10.mono HX.out.1.size) hbs))
        clear hB10 hbs hO10 hb10 HX
        go_wp2_with (at_builtin; refine stop_here ?_)
        refine wpList_append_len rfl (.tmp 42) (.tmp 43) rfl w0 _ _ rfl HY.out.2.1 HY.out.1 _ _ rfl HY.out.2.2 (by rw [laidB_len, Pg.behind_len HK.out]; decide) ?_
        clear HY
        intro v11 w11 hO11 hB11
        have hraw : laidB sm 4 4 ++ p.behind n = p.raw n := by rw [Pg.raw, HS.out]; simp [laidParts]
        rw [hraw] at hO11
        have HZ := Lib.hid (And.intro hO11 hB11)
        clear hO11 hB11 hraw
        go_wp2
        go_ret
        exact ⟨v11, rfl, HZ.out.1.mono (by omega), by rw [hA]; exact hb0.trans (HZ.out.2.mono (by omega))⟩
end Go.Proofs.YtjfpgclaefbhjaaDoor

/- Layer 4: the law on Same and Text. -/
import Derived.Deep.MidRow
import Derived.Test.YtjfpgclaefbhjaaDoorPageK
namespace Go.Proofs.YtjfpgclaefbhjaaDoor
open Go.RowKit

theorem load_page {w : World} {A : Nat} {cs : List Value} {fr : Nat × Nat} (h : w.heap[A]? = some (.cells cs.toArray 25 fr)) (hl : cs.length = 4) : (Instr.loadAt 25 (.pointer (some ⟨A, 0, none⟩))).run Tryd.prog w = .ok (.agg cs.toArray) w :=
  run_loadAt_mid w A 0 _ cs _ (fun j v hv => by rw [cell_of_row w A (0 + j) _ _ _ h, Nat.zero_add, List.getElem?_toArray]; exact hv) Tryd.underlying25 rfl (by rw [hl]; kernel_rfl)
section
variable {ops : Array Oper} {o : Oper} {i : Nat} {a : Act} {w : World} {K : Act → World → Prop} {Q : Exit → Act → World → Prop}
theorem wpOp_eqB {x y : Operand} {n : Bool} (ho : ops[i]? = some o) (hg : Region.wanted o (yielded ops a.tmps) = true) (hop : o.op = .binOp .eql 4 x y 4) (hx : a.eval x = .bool n) (hy : a.eval y = .bool n) (hK : K (a.put o.dst (.bool true)) w) : wpOp Tryd.prog ops Q i K a w :=
  wpOp_val ho hg (by simp only [execOp, hop, hx, hy]; simp [go_sem]) hK
end
/-- What each operation of the last statement leaves. -/
def SmV (va vb : Value) (s : Bool) : Nat → Value → Prop
  | 0, v => v = va
  | 1, v => v = vb
  | 2, v => v = .bool s
  | 3, v => v = va
  | 4, v => v = vb
  | 5, v => v = .bool s
  | 8, v => v = va
  | 9, v => v = va
  | _, v => v = .bool true
theorem sameB_self (k t x : Int) (l : List UInt8) : sameB k t x l k t x l = true := by simp [sameB]
set_option maxHeartbeats 2000000 in
set_option maxRecDepth 100000 in
theorem pageSame_any (k t x : Int) (a : Option Addr) (l : List UInt8) (c : Nat) (k' t' x' : Int) (b : Option Addr) (m : List UInt8) (d : Nat) (q : Int) (hl : l.length ≤ 9223372036854775807) (hml : m.length ≤ 9223372036854775807) (w : World) (ha : BytesAt w.heap.size w a l) (hb : BytesAt w.heap.size w b m) (hG : Given w) :
    Calls Tryd.prog 6 #[pgv k t x a l.length c, pgv k' t' x' b m.length d, .int .i64 q] w fun e w' => e = .returned (.bool true) ∧ Below w.heap.size w w' := by
  have hb0 : Below w.heap.size w ((w.alloc (.cells #[.int .i64 k, .int .i64 t, .int .i64 x, .slice a l.length c] 25)).alloc (.cells #[.int .i64 k', .int .i64 t', .int .i64 x', .slice b m.length d] 25)) := ((Below.refl _ _).alloc (Nat.le_refl _) _).alloc (by simp) _
  have HK := Lib.hid (pknown_any _ (hG.below hb0))
  by_cases h1 : 300 < l.length
  · have hd : decide ((300 : Int) < (l.length : Int)) = true := by simp; omega
    have HB := Lib.hid hb0
    clear ha hb hG hb0
    go_enter Tryd.func6, Tryd.ntmps6
    go_wp2_with (go_at_call 8; refine HK.out.mono ?_; rintro e w' ⟨rfl, hb'⟩)
    go_ret
    exact ⟨rfl, go_on HB.out hb'⟩
  have hd : decide ((300 : Int) < (l.length : Int)) = false := by simp; omega
  by_cases h2 : 300 < m.length
  · have hd2 : decide ((300 : Int) < (m.length : Int)) = true := by simp; omega
    have HB := Lib.hid hb0
    clear ha hb hG hb0
    go_enter Tryd.func6, Tryd.ntmps6
    go_wp2_with (go_at_call 8; refine HK.out.mono ?_; rintro e w' ⟨rfl, hb'⟩)
    go_ret
    exact ⟨rfl, go_on HB.out hb'⟩
  have hd2 : decide ((300 : Int) < (m.length : Int)) = false := by simp; omega
  have hr0 : ((w.alloc (.cells #[.int .i64 k, .int .i64 t, .int .i64 x, .slice a l.length c] 25)).alloc (.cells #[.int .i64 k', .int .i64 t', .int .i64 x', .slice b m.length d] 25)).heap[w.heap.size]? = some (.cells #[.int .i64 k, .int .i64 t, .int .i64 x, .slice a l.length c] 25 (0, 0)) := (Below.heap_alloc _ _ _ (by simp)).trans (heap_alloc_new w _)
  have hr1 := heap_alloc_two w (.cells #[.int .i64 k, .int .i64 t, .int .i64 x, .slice a l.length c] 25) (.cells #[.int .i64 k', .int .i64 t', .int .i64 x', .slice b m.length d] 25)
  have hT := text_any q _ (hG.below hb0).texts
  have HB := Lib.hid (And.intro hb0 (And.intro hr0 (And.intro hr1 (And.intro (ha.below hb0) (And.intro (hb.below hb0) (hG.below hb0))))))
  clear ha hb hG hb0 hr0 hr1
  have hor : (1 ≤ q ∧ q ≤ 5 ∧ ∃ s : ByteArray, s.toList.isEmpty = false ∧ (if kindB q = true then textOf q else []).toArray = s.data ∧ kindB q = true) ∨ (q < 1 ∧ kindB q = false) ∨ (1 ≤ q ∧ 5 < q ∧ kindB q = false) := by
    by_cases hq : kindB q = true
    · obtain ⟨hq3, hq4⟩ : 1 ≤ q ∧ q ≤ 5 := by simpa [kindB] using hq
      refine .inl ⟨hq3, hq4, ⟨(textOf q).toArray⟩, ?_, by rw [if_pos hq], hq⟩
      rw [ByteArray.toList_eq]
      have : q = 1 ∨ q = 2 ∨ q = 3 ∨ q = 4 ∨ q = 5 := by omega
      rcases this with rfl | rfl | rfl | rfl | rfl <;> rfl
    · have hq1 : kindB q = false := by simpa using hq
      have hq2 : q < 1 ∨ (1 ≤ q ∧ 5 < q) := by simp [kindB] at hq1; omega
      rcases hq2 with h | ⟨h, h'⟩
      · exact .inr (.inl ⟨h, hq1⟩)
      · exact .inr (.inr ⟨h, h', hq1⟩)
  have hT1 : ∀ (s : ByteArray) (n : Int), (if kindB q = true then textOf q else []).toArray = s.data → (if kindB q = true then (0 : Int) else 2) = n → Calls Tryd.prog 18 #[.int .i64 q] ((w.alloc (.cells #[.int .i64 k, .int .i64 t, .int .i64 x, .slice a l.length c] 25)).alloc (.cells #[.int .i64 k', .int .i64 t', .int .i64 x', .slice b m.length d] 25)) fun e w' => e = .returned (.tuple #[.string s, .int .i64 n]) ∧ ((w.alloc (.cells #[.int .i64 k, .int .i64 t, .int .i64 x, .slice a l.length c] 25)).alloc (.cells #[.int .i64 k', .int .i64 t', .int .i64 x', .slice b m.length d] 25)) = w' := by
    rintro ⟨s⟩ n h1 h2
    rw [h1, h2] at hT
    exact hT
  rcases hor with ⟨hq3, hq4, s, hs2, hs, hkq⟩ | ⟨hq3, hkq⟩ | ⟨hq3, hq4, hkq⟩
  all_goals first
    | have HT := Lib.hid (hT1 s 0 hs (by rw [hkq]; rfl))
    | have HT := Lib.hid (hT1 ⟨#[]⟩ 2 (by rw [hkq]; rfl) (by rw [hkq]; rfl))
  all_goals clear hT hT1 hkq
  all_goals try clear hs
  all_goals
    go_enter Tryd.func6, Tryd.ntmps6
    go_wp2_with (go_at_call 18; refine HT.out.mono ?_; rintro e w' ⟨rfl, rfl⟩)
    obtain ⟨hb0, hr0, hr1, ha, hb, hG⟩ := HB.out
    clear HT HK HB
    revert hb0 hr0 hr1 ha hb hG
    generalize (w.alloc (.cells #[.int .i64 k, .int .i64 t, .int .i64 x, .slice a l.length c] 25)).alloc (.cells #[.int .i64 k', .int .i64 t', .int .i64 x', .slice b m.length d] 25) = w0
    intro hb0 hr0 hr1 ha hb hG
    have hsz0 := hb0.size
    refine wp_region_m (fun _ w' => Below w0.heap.size w0 w') (fun j v _ => SmV (pgv k t x a l.length c) (pgv k' t' x' b m.length d) (sameB k t x l k' t' x' m) j v) (by kernel_rfl) (by kernel_rfl) (by kernel_rfl) (by kernel_rfl) (Below.refl _ _).drew ?step ?fin
    case step =>
      intro i o ho listed a' w' hI hn' hpre
      have hi : i < 16 := (Array.getElem?_eq_some_iff.1 ho).1
      have hB := hI.inv
      have hrow0 := go_row hr0 hB
      have hrow1 := go_row hr1 hB
      have hsz := hB.size
      match i, hi with
      | 0, _ =>
        cases ho
        exact wpOp_load rfl rfl rfl (hI.kept (t := 3) (by kernel_rfl)) (load_page hrow0 rfl) ⟨_, rfl, hB, fun _ => rfl, fun _ _ _ h => h⟩
      | 1, _ =>
        cases ho
        exact wpOp_load rfl rfl rfl (hI.kept (t := 4) (by kernel_rfl)) (load_page hrow1 rfl) ⟨_, rfl, hB, fun _ => rfl, fun _ _ _ h => h⟩
      | 2, _ =>
        cases ho
        have e0 : a'.eval (.tmp 41) = pgv k t x a l.length c := hI.slot 0 41 rfl (hpre ⟨0, .data⟩ (by simp) rfl) rfl
        have e1 : a'.eval (.tmp 42) = pgv k' t' x' b m.length d := hI.slot 1 42 rfl (hpre ⟨1, .data⟩ (by simp) rfl) rfl
        refine wpOp_callFn rfl rfl rfl (vs := #[pgv k t x a l.length c, pgv k' t' x' b m.length d]) (by simp only [List.map_toArray, List.map_cons, List.map_nil, e0, e1]) (fun _ _ => by kernel_rfl) ((psame_any w' w.heap.size (by omega) k t x a l c k' t' x' b m d (ha.below (hB.mono hsz0)) (hb.below (hB.mono hsz0))).mono ?_)
        rintro e w'' ⟨rfl, hb2⟩
        exact ⟨_, rfl, _, rfl, hB.trans (hb2.mono hsz), fun _ => rfl, fun _ _ _ h => h⟩
      | 3, _ =>
        cases ho
        exact wpOp_load rfl rfl rfl (hI.kept (t := 3) (by kernel_rfl)) (load_page hrow0 rfl) ⟨_, rfl, hB, fun _ => rfl, fun _ _ _ h => h⟩
      | 4, _ =>
        cases ho
        exact wpOp_load rfl rfl rfl (hI.kept (t := 4) (by kernel_rfl)) (load_page hrow1 rfl) ⟨_, rfl, hB, fun _ => rfl, fun _ _ _ h => h⟩
      | 5, _ =>
        cases ho
        have e0 : a'.eval (.tmp 44) = pgv k t x a l.length c := hI.slot 3 44 rfl (hpre ⟨3, .data⟩ (by simp) rfl) rfl
        have e1 : a'.eval (.tmp 45) = pgv k' t' x' b m.length d := hI.slot 4 45 rfl (hpre ⟨4, .data⟩ (by simp) rfl) rfl
        refine wpOp_callFn rfl rfl rfl (vs := #[pgv k t x a l.length c, pgv k' t' x' b m.length d]) (by simp only [List.map_toArray, List.map_cons, List.map_nil, e0, e1]) (fun _ _ => by kernel_rfl) ((rsame_any w' w.heap.size (by omega) k t x a l c k' t' x' b m d (ha.below (hB.mono hsz0)) (hb.below (hB.mono hsz0))).mono ?_)
        rintro e w'' ⟨rfl, hb2⟩
        exact ⟨_, rfl, _, rfl, hB.trans (hb2.mono hsz), fun _ => rfl, fun _ _ _ h => h⟩
      | 6, _ =>
        cases ho
        have e0 : a'.eval (.tmp 43) = .bool (sameB k t x l k' t' x' m) := hI.slot 2 43 rfl (hpre ⟨2, .data⟩ (by simp) rfl) rfl
        have e1 : a'.eval (.tmp 46) = .bool (sameB k t x l k' t' x' m) := hI.slot 5 46 rfl (hpre ⟨5, .data⟩ (by simp) rfl) rfl
        exact wpOp_eqB rfl rfl rfl e0 e1 ⟨_, rfl, hB, fun _ => rfl, fun _ _ _ h => h⟩
      | 7, _ =>
        cases ho
        exact wpOp_move rfl rfl (.inl rfl) (hI.slot 6 47 rfl (hpre ⟨6, .data⟩ (by simp) rfl) rfl) ⟨_, rfl, hB, fun _ => rfl, fun _ _ _ h => h⟩
      | 8, _ =>
        cases ho
        exact wpOp_load rfl (wantedOf (j := 7) rfl rfl rfl (by rw [hI.len]; show _ < 56; decide) (hI.slot 7 48 rfl (hpre ⟨7, .guard⟩ (by simp) rfl) rfl)) rfl (hI.kept (t := 3) (by kernel_rfl)) (load_page hrow0 rfl) ⟨_, rfl, hB, fun _ => rfl, fun _ _ _ h => h⟩
      | 9, _ =>
        cases ho
        exact wpOp_load rfl (wantedOf (j := 7) rfl rfl rfl (by rw [hI.len]; show _ < 56; decide) (hI.slot 7 48 rfl (hpre ⟨7, .guard⟩ (by simp) rfl) rfl)) rfl (hI.kept (t := 3) (by kernel_rfl)) (load_page hrow0 rfl) ⟨_, rfl, hB, fun _ => rfl, fun _ _ _ h => h⟩
      | 10, _ =>
        cases ho
        have e0 : a'.eval (.tmp 49) = pgv k t x a l.length c := hI.slot 8 49 rfl (hpre ⟨8, .data⟩ (by simp) rfl) rfl
        have e1 : a'.eval (.tmp 50) = pgv k t x a l.length c := hI.slot 9 50 rfl (hpre ⟨9, .data⟩ (by simp) rfl) rfl
        refine wpOp_callFn rfl (wantedOf (j := 7) rfl rfl rfl (by rw [hI.len]; show _ < 56; decide) (hI.slot 7 48 rfl (hpre ⟨7, .guard⟩ (by simp) rfl) rfl)) rfl (vs := #[pgv k t x a l.length c, pgv k t x a l.length c]) (by simp only [List.map_toArray, List.map_cons, List.map_nil, e0, e1]) (fun _ _ => by kernel_rfl) ((psame_any w' w.heap.size (by omega) k t x a l c k t x a l c (ha.below (hB.mono hsz0)) (ha.below (hB.mono hsz0))).mono ?_)
        rw [sameB_self]
        rintro e w'' ⟨rfl, hb2⟩
        exact ⟨_, rfl, _, rfl, hB.trans (hb2.mono hsz), fun _ => rfl, fun _ _ _ h => h⟩
      | 11, _ =>
        cases ho
        have e0 : a'.eval (.tmp 48) = .bool true := hI.slot 7 48 rfl (hpre ⟨7, .data⟩ (by simp) rfl) rfl
        have e1 : a'.eval (.tmp 51) = .bool true := hI.slot 10 51 rfl (hpre ⟨10, .data⟩ (by simp) rfl) rfl
        exact wpOp_pick2 rfl rfl rfl e0 (fun _ => e1) (fun h => by cases h) rfl ⟨_, rfl, hB, fun _ => rfl, fun _ _ _ h => h⟩
      | 12, _ =>
        cases ho
        exact wpOp_move rfl rfl (.inl rfl) (hI.slot 11 52 rfl (hpre ⟨11, .data⟩ (by simp) rfl) rfl) ⟨_, rfl, hB, fun _ => rfl, fun _ _ _ h => h⟩
      | 13, _ =>
        cases ho
        refine wpOp_callFn rfl (wantedOf (j := 12) rfl rfl rfl (by rw [hI.len]; show _ < 56; decide) (hI.slot 12 53 rfl (hpre ⟨12, .guard⟩ (by simp) rfl) rfl)) rfl (vs := #[]) (by simp) (fun _ _ => by kernel_rfl) ((pknown_any w' (hG.below hB)).mono ?_)
        rintro e w'' ⟨rfl, hb2⟩
        exact ⟨_, rfl, _, rfl, hB.trans (hb2.mono hsz), fun _ => rfl, fun _ _ _ h => h⟩
      | 14, _ =>
        cases ho
        have e0 : a'.eval (.tmp 53) = .bool true := hI.slot 12 53 rfl (hpre ⟨12, .data⟩ (by simp) rfl) rfl
        have e1 : a'.eval (.tmp 54) = .bool true := hI.slot 13 54 rfl (hpre ⟨13, .data⟩ (by simp) rfl) rfl
        exact wpOp_pick2 rfl rfl rfl e0 (fun _ => e1) (fun h => by cases h) rfl ⟨_, rfl, hB, fun _ => rfl, fun _ _ _ h => h⟩
      | 15, _ =>
        cases ho
        exact wpOp_move rfl rfl (.inr rfl) (hI.slot 14 55 rfl (hpre ⟨14, .data⟩ (by simp) rfl) rfl) ⟨_, rfl, hB, fun _ => rfl, fun _ _ _ h => h⟩
    case fin =>
      intro listed a' w1 hI hall
      have hB := hI.inv
      have e6 : a'.tmps.getD 6 undef = .bool true := hI.slot 15 6 rfl (hall 15 (by decide)) rfl
      obtain ⟨vs, us, hvl, hul, hvs, -, e⟩ := hI.frame2 6 1 41 15 (by decide) (Nat.le_of_ble_eq_true (by kernel_rfl)) (by kernel_rfl)
      have v0' := hvs 0 (by decide)
      have hfin := hb0.trans (hB.mono hsz0)
      clear hI hall hvs hB
      match vs, us, hvl, hul with
      | [v0], [u0, u1, u2, u3, u4, u5, u6, u7, u8, u9, u10, u11, u12, u13, u14], _, _ =>
      simp only [List.getElem?_cons_zero, Option.some.injEq] at v0'
      rw [Nat.add_zero, e6] at v0'
      subst v0'
      simp only [List.take_succ_cons, List.take_zero, List.drop_succ_cons, List.drop_zero, List.cons_append, List.nil_append, Nat.reduceAdd, Nat.reduceSub] at e
      subst e
      have HF := Lib.hid hfin
      clear hfin hb0 hr0 hr1 ha hb hG e6
      go_wp2
      go_ret
      exact ⟨rfl, HF.out⟩
end Go.Proofs.YtjfpgclaefbhjaaDoor

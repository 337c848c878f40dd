/- Layer 4: the law on the bytes of any page at any number. -/
import Derived.Test.YtjfpgclaefbhjaaDoorPageSame
import Derived.Test.YtjfpgclaefbhjaaDoorPageH
namespace Go.Proofs.YtjfpgclaefbhjaaDoor
open Go.RowKit

theorem right_pg2 {k t x : Int} {l : List UInt8} (h : rightB k t x l.length = true) : ∃ p : Pg, p.ok ∧ k = p.k ∧ t = p.t ∧ x = p.x ∧ l = p.b := by
  simp only [rightB, kindB, numB, Bool.and_eq_true, decide_eq_true_eq] at h
  obtain ⟨⟨⟨⟨h1, h2⟩, h3⟩, h4⟩, h5⟩ := h
  refine ⟨⟨k.toNat, t.toNat, x.toNat, l⟩, ⟨?_, ?_, ?_, ?_, ?_⟩, ?_, ?_, ?_, rfl⟩ <;> dsimp only <;> omega
theorem num_nat2 {n : Int} (h : numB n = true) : ∃ m : Nat, m ≤ 4095 ∧ n = m := by
  simp only [numB, decide_eq_true_eq] at h
  exact ⟨n.toNat, by omega, by omega⟩
theorem parse_raw2 {n : Nat} {p : Pg} (h : p.ok) (hn : n ≤ 4095) (m : Nat) (hm : m ≤ 4095) : parseE (m : Int) (p.raw n) = if n = m then 0 else 141 := by
  obtain ⟨h1, -, h3⟩ := raw_look h hn
  unfold parseE
  rw [if_pos (by simp [numB]; omega), if_pos h1, h3]
  by_cases e : n = m
  · rw [if_pos e, if_pos (by omega)]
  · rw [if_neg e, if_neg (by omega)]
section
variable {ops : Array Oper} {o : Oper} {i : Nat} {a : Act} {w : World} {K : Act → World → Prop} {Q : Exit → Act → World → Prop}
theorem wpOp_eqErr {x y : Operand} {n m : Int} {c : Bool} (ho : ops[i]? = some o) (hg : Region.wanted o (yielded ops a.tmps) = true) (hop : o.op = .binOp .eql 27 x y 27) (hx : a.eval x = .int .i64 n) (hy : a.eval y = .int .i64 m) (hc : c = (n == m)) (hK : K (a.put o.dst (.bool c)) w) : wpOp Tryd.prog ops Q i K a w := by
  subst hc
  exact wpOp_val ho hg (by simp only [execOp, hop, hx, hy]; simp [go_sem]) hK
theorem wpOp_eqL {x y : Operand} {n m : Int} {c : Bool} (ho : ops[i]? = some o) (hg : Region.wanted o (yielded ops a.tmps) = true) (hop : o.op = .binOp .eql 2 x y 2) (hx : a.eval x = .int .i64 n) (hy : a.eval y = .int .i64 m) (hc : c = (n == m)) (hK : K (a.put o.dst (.bool c)) w) : wpOp Tryd.prog ops Q i K a w := by
  subst hc
  exact wpOp_val ho hg (by simp only [execOp, hop, hx, hy]; simp [go_sem]) hK
theorem wpOp_neB {x y : Operand} {n : Bool} (ho : ops[i]? = some o) (hg : Region.wanted o (yielded ops a.tmps) = true) (hop : o.op = .binOp .neq 4 x y 4) (hx : a.eval x = .bool n) (hy : a.eval y = .bool n) (hK : K (a.put o.dst (.bool false)) w) : wpOp Tryd.prog ops Q i K a w :=
  wpOp_val ho hg (by simp only [execOp, hop, hx, hy]; simp [go_sem]) hK
end
/-- What each operation of the statement that asks both checks leaves. -/
def CkV (p : Value) (r : Bool) : Nat → Value → Prop
  | 0, v => v = p
  | 1, v => v = .int .i64 (if r then 0 else 2)
  | 2, v => v = .bool r
  | 3, v => v = p
  | 4, v => v = .bool r
  | _, v => v = .bool false
/-- What each operation of the last statement leaves. -/
def RaV (P O Q : Value) (i : Nat) (r : List UInt8) (b : Value) : Nat → Value → World → Prop
  | 0, v, _ => v = .int .i64 0
  | 3, v, _ => v = b
  | 4, v, _ => v = .string ⟨r.toArray⟩
  | 5, v, _ => v = .int .i64 i
  | 6, v, _ => v = P
  | 7, v, w => IsBs w.heap.size w v r
  | 8, v, _ => v = .string ⟨r.toArray⟩
  | 12, v, _ => v = .int .i64 0
  | 16, v, _ => v = O
  | 17, v, _ => v = P
  | 21, v, _ => v = .int .i64 0
  | 25, v, _ => v = .int .i64 i
  | 26, v, _ => v = .int .i64 i
  | 30, v, _ => v = Q
  | 31, v, _ => v = P
  | 35, v, _ => v = P
  | 36, v, _ => v = O
  | _, v, _ => v = .bool true
theorem RaV.below {P O Q : Value} {i : Nat} {r : List UInt8} {b : Value} {w' w'' : World} (hb : Below w'.heap.size w' w'') (j : Nat) (v : Value) (h : RaV P O Q i r b j v w') : RaV P O Q i r b j v w'' := by
  rcases j with _ | _ | _ | _ | _ | _ | _ | _ | _ | _ | _ | _ | _ | _ | _ | _ | _ | _ | _ | _ | _ | _ | _ | _ | _ | _ | _ | _ | _ | _ | _ | _ | _ | _ | _ | _ | _ | j
  all_goals first | exact h | exact (IsBs.below h hb).mono hb.size
theorem cons_of {us : List Value} {n : Nat} (h : us.length = n + 1) : ∃ u t, us = u :: t ∧ t.length = n := by
  cases us with
  | nil => cases h
  | cons u t => exact ⟨u, t, rfl, by simpa using h⟩
theorem split42 {us : List Value} (h : us.length = 42) : ∃ f : Nat → Value, us = [f 0, f 1, f 2, f 3, f 4, f 5, f 6, f 7, f 8, f 9, f 10, f 11, f 12, f 13, f 14, f 15, f 16, f 17, f 18, f 19, f 20, f 21, f 22, f 23, f 24, f 25, f 26, f 27, f 28, f 29, f 30, f 31, f 32, f 33, f 34, f 35, f 36, f 37, f 38, f 39, f 40, f 41] := by
  obtain ⟨u0, us, rfl, h0⟩ := cons_of (n := 41) h
  obtain ⟨u1, us, rfl, h1⟩ := cons_of (n := 40) h0
  obtain ⟨u2, us, rfl, h2⟩ := cons_of (n := 39) h1
  obtain ⟨u3, us, rfl, h3⟩ := cons_of (n := 38) h2
  obtain ⟨u4, us, rfl, h4⟩ := cons_of (n := 37) h3
  obtain ⟨u5, us, rfl, h5⟩ := cons_of (n := 36) h4
  obtain ⟨u6, us, rfl, h6⟩ := cons_of (n := 35) h5
  obtain ⟨u7, us, rfl, h7⟩ := cons_of (n := 34) h6
  obtain ⟨u8, us, rfl, h8⟩ := cons_of (n := 33) h7
  obtain ⟨u9, us, rfl, h9⟩ := cons_of (n := 32) h8
  obtain ⟨u10, us, rfl, h10⟩ := cons_of (n := 31) h9
  obtain ⟨u11, us, rfl, h11⟩ := cons_of (n := 30) h10
  obtain ⟨u12, us, rfl, h12⟩ := cons_of (n := 29) h11
  obtain ⟨u13, us, rfl, h13⟩ := cons_of (n := 28) h12
  obtain ⟨u14, us, rfl, h14⟩ := cons_of (n := 27) h13
  obtain ⟨u15, us, rfl, h15⟩ := cons_of (n := 26) h14
  obtain ⟨u16, us, rfl, h16⟩ := cons_of (n := 25) h15
  obtain ⟨u17, us, rfl, h17⟩ := cons_of (n := 24) h16
  obtain ⟨u18, us, rfl, h18⟩ := cons_of (n := 23) h17
  obtain ⟨u19, us, rfl, h19⟩ := cons_of (n := 22) h18
  obtain ⟨u20, us, rfl, h20⟩ := cons_of (n := 21) h19
  obtain ⟨u21, us, rfl, h21⟩ := cons_of (n := 20) h20
  obtain ⟨u22, us, rfl, h22⟩ := cons_of (n := 19) h21
  obtain ⟨u23, us, rfl, h23⟩ := cons_of (n := 18) h22
  obtain ⟨u24, us, rfl, h24⟩ := cons_of (n := 17) h23
  obtain ⟨u25, us, rfl, h25⟩ := cons_of (n := 16) h24
  obtain ⟨u26, us, rfl, h26⟩ := cons_of (n := 15) h25
  obtain ⟨u27, us, rfl, h27⟩ := cons_of (n := 14) h26
  obtain ⟨u28, us, rfl, h28⟩ := cons_of (n := 13) h27
  obtain ⟨u29, us, rfl, h29⟩ := cons_of (n := 12) h28
  obtain ⟨u30, us, rfl, h30⟩ := cons_of (n := 11) h29
  obtain ⟨u31, us, rfl, h31⟩ := cons_of (n := 10) h30
  obtain ⟨u32, us, rfl, h32⟩ := cons_of (n := 9) h31
  obtain ⟨u33, us, rfl, h33⟩ := cons_of (n := 8) h32
  obtain ⟨u34, us, rfl, h34⟩ := cons_of (n := 7) h33
  obtain ⟨u35, us, rfl, h35⟩ := cons_of (n := 6) h34
  obtain ⟨u36, us, rfl, h36⟩ := cons_of (n := 5) h35
  obtain ⟨u37, us, rfl, h37⟩ := cons_of (n := 4) h36
  obtain ⟨u38, us, rfl, h38⟩ := cons_of (n := 3) h37
  obtain ⟨u39, us, rfl, h39⟩ := cons_of (n := 2) h38
  obtain ⟨u40, us, rfl, h40⟩ := cons_of (n := 1) h39
  obtain ⟨u41, us, rfl, h41⟩ := cons_of (n := 0) h40
  obtain rfl := List.eq_nil_of_length_eq_zero h41
  exact ⟨fun j => [u0, u1, u2, u3, u4, u5, u6, u7, u8, u9, u10, u11, u12, u13, u14, u15, u16, u17, u18, u19, u20, u21, u22, u23, u24, u25, u26, u27, u28, u29, u30, u31, u32, u33, u34, u35, u36, u37, u38, u39, u40, u41].getD j undef, rfl⟩
theorem same_self (k t x : Int) (l : List UInt8) : sameB k t x l k t x l = true := by simp [sameB]
/-- What the bytes of a page are, or that there are none. -/
def RawBoth (w : World) (n k t x : Int) (l : List UInt8) (e : Ending) (w' : World) : Prop := ∃ (aa : Option Addr) (nn cc : Nat) (ev : Int), e = .returned (.tuple #[.slice aa nn cc, .int .i64 ev]) ∧ Below w.heap.size w w' ∧
  ((∃ (i : Nat) (p : Pg), i ≤ 4095 ∧ p.ok ∧ n = i ∧ k = p.k ∧ t = p.t ∧ x = p.x ∧ l = p.b ∧ ev = 0 ∧ nn = 256 ∧ BytesAt w'.heap.size w' aa (p.raw i) ∧ (aa = none → cc = 0) ∧ 256 ≤ cc) ∨
   ((numB n = false ∨ rightB k t x l.length = false) ∧ aa = none ∧ nn = 0 ∧ cc = 0 ∧ ev = 2))
theorem raw_both (n k t x : Int) (a : Option Addr) (l : List UInt8) (c : Nat) (w : World) (n₁ : Nat) (hn₁ : n₁ ≤ w.heap.size) (hm : BytesAt n₁ w a l) (hno : a = none → c = 0) (hle : l.length ≤ c) (hl : l.length ≤ 9223372036854775807) (hG : Given w) :
    Calls Tryd.prog 9 #[.int .i64 n, pgv k t x a l.length c] w fun e w' => RawBoth w n k t x l e w' := by
  by_cases h1 : numB n = true
  · by_cases h2 : rightB k t x l.length = true
    · obtain ⟨p, hpo, rfl, rfl, rfl, rfl⟩ := right_pg2 h2
      obtain ⟨m, hm', rfl⟩ := num_nat2 h1
      refine (raw_yes m hm' p hpo a c w n₁ hn₁ hm hno hle hG.tab hG.tabs).mono ?_
      rintro e w' ⟨v, rfl, hO, hb⟩
      obtain ⟨aa, cc, rfl, h3, h4, -, h5, -⟩ := hO.form
      exact ⟨aa, _, cc, 0, rfl, hb, .inl ⟨m, p, hm', hpo, rfl, rfl, rfl, rfl, rfl, rfl, Pg.raw_len hpo, h3, h5, by rw [← Pg.raw_len (n := m) hpo]; exact h4⟩⟩
    · have h3 : rightB k t x l.length = false := by simpa using h2
      refine (raw_no n k t x a l.length c w hl (.inr h3)).mono ?_
      rintro e w' ⟨rfl, hb⟩
      exact ⟨none, 0, 0, 2, rfl, hb, .inr ⟨.inr h3, rfl, rfl, rfl, rfl⟩⟩
  · have h3 : numB n = false := by simpa using h1
    refine (raw_no n k t x a l.length c w hl (.inl h3)).mono ?_
    rintro e w' ⟨rfl, hb⟩
    exact ⟨none, 0, 0, 2, rfl, hb, .inr ⟨.inl h3, rfl, rfl, rfl, rfl⟩⟩
set_option maxHeartbeats 4000000 in
set_option maxRecDepth 100000 in
theorem pageRaws_any (n k t x : Int) (a : Option Addr) (l : List UInt8) (c : Nat) (hno : a = none → c = 0) (hlc : l.length ≤ c) (hl : l.length ≤ 9223372036854775807) (w : World) (ha : BytesAt w.heap.size w a l) (hG : Given w) :
    Calls Tryd.prog 3 #[.int .i64 n, pgv k t x a l.length c] w fun e w' => e = .returned (.bool true) ∧ Below w.heap.size w w' := by
  obtain ⟨W1, hW1⟩ : ∃ W1, w.alloc (.cells #[.int .i64 k, .int .i64 t, .int .i64 x, .slice a l.length c] 25) = W1 := ⟨_, rfl⟩
  have hB1 : Below w.heap.size w W1 := hW1 ▸ (Below.refl _ _).alloc (Nat.le_refl _) _
  have hrow : W1.heap[w.heap.size]? = some (.cells #[.int .i64 k, .int .i64 t, .int .i64 x, .slice a l.length c] 25 (0, 0)) := by
    rw [← hW1]; exact heap_alloc_new w _
  have hs1 := (Array.getElem?_eq_some_iff.1 hrow).1
  have r0 := cell_of_row W1 w.heap.size 0 _ _ _ hrow
  have r1 := cell_of_row W1 w.heap.size 1 _ _ _ hrow
  have r2 := cell_of_row W1 w.heap.size 2 _ _ _ hrow
  have r3 := cell_of_row W1 w.heap.size 3 _ _ _ hrow
  simp only [List.getElem?_toArray, List.getElem?_cons_zero, List.getElem?_cons_succ] at r0 r1 r2 r3
  have HROW := Lib.hid hrow
  have hG1 := hG.below hB1
  have HK := Lib.hid (fun W (h : Below W1.heap.size W1 W) => pknown_any W (hG1.below h))
  have HB1 := Lib.hid hB1
  clear hrow
  by_cases h1 : 300 < l.length
  · have hd : decide ((300 : Int) < (l.length : Int)) = true := by simp; omega
    clear ha hG hG1 hB1
    go_enter Tryd.func3, Tryd.ntmps3
    go_wp2_with fail
    refine (HK.out W1 (Below.refl _ _)).mono ?_
    rintro e w' ⟨rfl, hb'⟩
    have HB := Lib.hid (go_on HB1.out hb')
    clear hb'
    go_wp2
    go_ret
    exact ⟨rfl, HB.out⟩
  have hd : decide ((300 : Int) < (l.length : Int)) = false := by simp; omega
  have HRW := Lib.hid (raw_both n k t x a l c W1 w.heap.size (Nat.le_of_lt hs1) (ha.below hB1) hno hlc hl hG1)
  have HA := Lib.hid (And.intro (ha.below hB1) (And.intro hno (And.intro hlc hG1)))
  clear ha hG hG1 hB1 hno
  go_enter Tryd.func3, Tryd.ntmps3
  go_wp2_with fail
  refine HRW.out.mono ?_
  rintro e w2 ⟨aa, nn, cc, ev, rfl, hb2, hboth⟩
  have HB2 := Lib.hid (And.intro hb2 hboth)
  clear hb2 hboth HRW r0 r1 r2 r3 hW1
  go_wp2_with fail
  obtain ⟨hb2, hboth⟩ := HB2.out
  clear HB2
  refine wp_region_m (fun _ w' => Below w2.heap.size w2 w') (fun j v _ => CkV (pgv k t x a l.length c) (rightB k t x l.length) j v) (by kernel_rfl) (by kernel_rfl) (by kernel_rfl) (by kernel_rfl) (Below.refl _ _).drew ?step ?fin
  case step =>
    intro i o ho listed a' w' hI hn' hpre
    have hi : i < 6 := (Array.getElem?_eq_some_iff.1 ho).1
    have hB := hI.inv
    have hrow2 := go_row HROW.out (go_on hb2 hB)
    have hsz := hB.size
    match i, hi with
    | 0, _ =>
      cases ho
      exact wpOp_load rfl rfl rfl (hI.kept (t := 3) (by kernel_rfl)) (load_page hrow2 rfl) ⟨_, rfl, hB, fun _ => rfl, fun _ _ _ h => h⟩
    | 1, _ =>
      cases ho
      have e0 : a'.eval (.tmp 23) = pgv k t x a l.length c := hI.slot 0 23 rfl (hpre ⟨0, .data⟩ (by simp) rfl) rfl
      refine wpOp_callFn rfl rfl rfl (vs := #[pgv k t x a l.length c]) (by simp only [List.map_toArray, List.map_cons, List.map_nil, e0]) (fun _ _ => by kernel_rfl) ((check_any k t x a l.length c w' hl).mono ?_)
      rintro e w'' ⟨rfl, hb3⟩
      exact ⟨_, rfl, _, rfl, hB.trans (hb3.mono hsz), fun _ => rfl, fun _ _ _ h => h⟩
    | 2, _ =>
      cases ho
      have e0 : a'.eval (.tmp 24) = .int .i64 (if rightB k t x l.length then 0 else 2) := hI.slot 1 24 rfl (hpre ⟨1, .data⟩ (by simp) rfl) rfl
      exact wpOp_eqErr rfl rfl rfl e0 (m := 0) rfl (c := rightB k t x l.length) (by cases rightB k t x l.length <;> rfl) ⟨_, rfl, hB, fun _ => rfl, fun _ _ _ h => h⟩
    | 3, _ =>
      cases ho
      exact wpOp_load rfl rfl rfl (hI.kept (t := 3) (by kernel_rfl)) (load_page hrow2 rfl) ⟨_, rfl, hB, fun _ => rfl, fun _ _ _ h => h⟩
    | 4, _ =>
      cases ho
      have e0 : a'.eval (.tmp 26) = pgv k t x a l.length c := hI.slot 3 26 rfl (hpre ⟨3, .data⟩ (by simp) rfl) rfl
      refine wpOp_callFn rfl rfl rfl (vs := #[pgv k t x a l.length c]) (by simp only [List.map_toArray, List.map_cons, List.map_nil, e0]) (fun _ _ => by kernel_rfl) ((right_any k t x a l.length c w' hl).mono ?_)
      rintro e w'' ⟨rfl, hb3⟩
      exact ⟨_, rfl, _, rfl, hB.trans (hb3.mono hsz), fun _ => rfl, fun _ _ _ h => h⟩
    | 5, _ =>
      cases ho
      have e0 : a'.eval (.tmp 25) = .bool (rightB k t x l.length) := hI.slot 2 25 rfl (hpre ⟨2, .data⟩ (by simp) rfl) rfl
      have e1 : a'.eval (.tmp 27) = .bool (rightB k t x l.length) := hI.slot 4 27 rfl (hpre ⟨4, .data⟩ (by simp) rfl) rfl
      exact wpOp_neB rfl rfl rfl e0 e1 ⟨_, rfl, hB, fun _ => rfl, fun _ _ _ h => h⟩
  case fin =>
    intro listed a' w3 hI hall
    have hB := hI.inv
    have e5 : a'.tmps.getD 28 undef = .bool false := hI.slot 5 28 rfl (hall 5 (by decide)) rfl
    obtain ⟨vs, hvl, hvs, e⟩ := hI.frame 23 6 (Nat.le_of_ble_eq_true (by kernel_rfl)) (by kernel_rfl)
    have v5' := hvs 5 (by decide)
    have HB3 := Lib.hid (And.intro (go_on hb2 hB) (And.intro hB hboth))
    clear hI hall hvs hB hb2 hboth
    match vs, hvl with
    | [u0, u1, u2, u3, u4, u5], _ =>
    simp only [List.getElem?_cons_zero, List.getElem?_cons_succ, Option.some.injEq] at v5'
    rw [show 23 + 5 = 28 from rfl, e5] at v5'
    subst v5'
    simp only [List.take_succ_cons, List.take_zero, List.drop_succ_cons, List.drop_zero, List.cons_append, List.nil_append, Nat.reduceAdd] at e
    subst e
    clear e5
    have hrow3 := go_row HROW.out HB3.out.1
    have q0 := cell_of_row w3 w.heap.size 0 _ _ _ hrow3
    have q1 := cell_of_row w3 w.heap.size 1 _ _ _ hrow3
    have q2 := cell_of_row w3 w.heap.size 2 _ _ _ hrow3
    have q3 := cell_of_row w3 w.heap.size 3 _ _ _ hrow3
    simp only [List.getElem?_toArray, List.getElem?_cons_zero, List.getElem?_cons_succ] at q0 q1 q2 q3
    clear hrow3
    go_wp2_with fail
    refine (right_any k t x a l.length c w3 hl).mono ?_
    rintro e w4 ⟨rfl, hb4⟩
    have hrow4 := go_row HROW.out (go_on HB3.out.1 hb4)
    clear q0 q1 q2 q3
    obtain ⟨hb13, hb23, hboth⟩ := HB3.out
    have HB4 := Lib.hid (And.intro (go_on hb13 hb4) (go_on hb23 hb4))
    clear HB3 hb13 hb23 hb4
    have HROW4 := Lib.hid hrow4
    clear hrow4
    rcases hboth with ⟨i, p, hi, hpo, rfl, rfl, rfl, rfl, rfl, rfl, rfl, hya, hyn, hyc⟩ | ⟨hnot, rfl, rfl, rfl, rfl⟩
    case inr =>
      by_cases hr : rightB k t x l.length = true
      · rw [hr]
        have hn : n < 0 ∨ (¬ n < 0 ∧ 4095 < n) := by
          rcases hnot with h | h
          · simp only [numB, decide_eq_false_iff_not] at h; omega
          · rw [hr] at h; cases h
        clear hnot hr
        rcases hn with h1' | ⟨h1', h2'⟩
        · go_wp2_with fail
          refine (HK.out w4 HB4.out.1).mono ?_
          rintro e w' ⟨rfl, hb'⟩
          have HB := Lib.hid (go_on HB1.out (go_on HB4.out.1 hb'))
          clear hb'
          go_wp2
          go_ret
          exact ⟨rfl, HB.out⟩
        · go_wp2_with fail
          refine (HK.out w4 HB4.out.1).mono ?_
          rintro e w' ⟨rfl, hb'⟩
          have HB := Lib.hid (go_on HB1.out (go_on HB4.out.1 hb'))
          clear hb'
          go_wp2
          go_ret
          exact ⟨rfl, HB.out⟩
      · rw [show rightB k t x l.length = false by simpa using hr]
        clear hnot hr
        go_wp2_with fail
        refine (HK.out w4 HB4.out.1).mono ?_
        rintro e w' ⟨rfl, hb'⟩
        have HB := Lib.hid (go_on HB1.out (go_on HB4.out.1 hb'))
        clear hb'
        go_wp2
        go_ret
        exact ⟨rfl, HB.out⟩
    have hr : rightB (p.k : Int) (p.t : Int) (p.x : Int) p.b.length = true := by
      have := Pg.ok_right hpo
      rwa [wrap_small hpo.2.2.1] at this
    rw [hr]
    have hn1 : ¬ ((i : Int) < 0) := by omega
    have hn2 : ¬ (4095 < (i : Int)) := by omega
    have hlen := Pg.raw_len (n := i) hpo
    have hpa := fun W (h : Below w4.heap.size w4 W) => parse_any i (p.raw i) aa cc w2.heap.size (by rw [hlen]; exact hyc) W (hya.below (go_on HB4.out.2 h)) (Nat.le_trans HB4.out.2.size h.size) hyn ((HA.out.2.2.2.below (go_on HB4.out.1 h))).tab ((HA.out.2.2.2.below (go_on HB4.out.1 h))).tabs
    have hla := fun W (h : Below w4.heap.size w4 W) => look_any (p.raw i) aa cc w2.heap.size (by rw [hlen]; exact hyc) W (hya.below (go_on HB4.out.2 h)) (Nat.le_trans HB4.out.2.size h.size) hyn ((HA.out.2.2.2.below (go_on HB4.out.1 h))).tab ((HA.out.2.2.2.below (go_on HB4.out.1 h))).tabs
    have hpe := parse_raw2 hpo hi i hi
    rw [if_pos rfl] at hpe
    obtain ⟨hlk, hpg, hat⟩ := raw_look hpo hi
    have eK : atK (p.raw i) = p.k := congrArg Pg.k hpg
    have eT : wrap64 (atT (p.raw i) : Int) = p.t := by rw [show atT (p.raw i) = p.t from congrArg Pg.t hpg]; exact wrap_small hpo.2.2.1
    have eX : atX (p.raw i) = p.x := congrArg Pg.x hpg
    have eB : atB (p.raw i) = p.b := congrArg Pg.b hpg
    have eS : atS (p.raw i) = p.b.length := by rw [← eB]; exact (look_raw hlk).2.2.2.2.2.2.2.symm
    have hbo : ∀ w6 base ar c6, OwnB w6 base (.slice ar 234 c6) ((p.raw i).drop 22) → BytesAt w6.heap.size w6 (bodyAt ar p.b.length) p.b := fun w6 base ar c6 hO => by
      obtain ⟨a', c', e, h, -⟩ := hO.isBs
      injection e with e1 e2 e3
      subst e1
      have h2 := body_at (size := p.b.length) h (by rw [List.length_drop, hlen]; have := hpo.2.2.2.2; omega)
      rwa [List.drop_drop, ← eS, show ((p.raw i).drop (22 + 2)).take (atS (p.raw i)) = p.b from eB, eS] at h2
    unfold ParsePost at hpa
    unfold LookPost at hla
    rw [eK, eT, eX, eS, hpe, hlen] at hpa
    rw [eK, eT, eX, eS, hlk, hat, hlen] at hla
    have HPA := Lib.hid hpa
    have HLA := Lib.hid hla
    have HBO := Lib.hid hbo
    have HPO := Lib.hid hpo
    have HY := Lib.hid (And.intro hya (And.intro hyn (And.intro hyc hlen)))
    clear hpa hla hbo hpo hya hyn hyc hlen hpe hlk hpg hat eK eT eX eB eS hr
    go_wp2_with fail
    refine (HPA.out w4 (Below.refl _ _)).mono ?_
    rintro e w5 ⟨hb5, ⟨-, ar, c5, rfl, hO5⟩ | ⟨h, -⟩⟩
    case inr => exact absurd rfl h
    have hav := HBO.out _ _ _ _ hO5
    obtain ⟨av, hav'⟩ : ∃ v, bodyAt ar p.b.length = v := ⟨_, rfl⟩
    rw [hav'] at hav ⊢
    clear hav' hO5 ar c5
    obtain ⟨w6, hw6⟩ : ∃ W, w5.alloc (.cells #[.int .i64 p.k, .int .i64 p.t, .int .i64 p.x, .slice av p.b.length p.b.length] 25) = W := ⟨_, rfl⟩
    have hb6 : Below w4.heap.size w4 w6 := hw6 ▸ go_new hb5 _
    have hro := heap_alloc_new w5 (.cells #[.int .i64 p.k, .int .i64 p.t, .int .i64 p.x, .slice av p.b.length p.b.length] 25)
    rw [hw6] at hro
    have hav6 : BytesAt w6.heap.size w6 av p.b := by
      have hb : Below w5.heap.size w5 w6 := hw6 ▸ (Below.refl _ _).alloc (Nat.le_refl _) _
      exact (hav.below hb).mono hb.size
    have H6 := Lib.hid (And.intro hb6 (And.intro hro hav6))
    clear hb6 hro hav6 hav hb5
    go_wp2_with fail
    refine (HLA.out w6 H6.out.1).mono ?_
    rintro e w7 ⟨hb7, ⟨-, ar, c7, rfl, hO7⟩ | ⟨h, -⟩⟩
    case inr => exact absurd rfl h
    have haq := HBO.out _ _ _ _ hO7
    obtain ⟨aq, haq'⟩ : ∃ v, bodyAt ar p.b.length = v := ⟨_, rfl⟩
    rw [haq'] at haq ⊢
    clear haq' hO7 ar c7
    obtain ⟨w8, hw8⟩ : ∃ W, w7.alloc (.cells #[.int .i64 p.k, .int .i64 p.t, .int .i64 p.x, .slice aq p.b.length p.b.length] 25) = W := ⟨_, rfl⟩
    have hb68 : Below w6.heap.size w6 w8 := hw8 ▸ go_new hb7 _
    have hrq := heap_alloc_new w7 (.cells #[.int .i64 p.k, .int .i64 p.t, .int .i64 p.x, .slice aq p.b.length p.b.length] 25)
    rw [hw8] at hrq
    have haq8 : BytesAt w8.heap.size w8 aq p.b := by
      have hb : Below w7.heap.size w7 w8 := hw8 ▸ (Below.refl _ _).alloc (Nat.le_refl _) _
      exact (haq.below hb).mono hb.size
    have hb48 := go_on H6.out.1 hb68
    have hb18 := go_on HB4.out.1 hb48
    have hb28 := go_on HB4.out.2 hb48
    have hrp := go_row HROW4.out hb48
    have hro := go_row H6.out.2.1 hb68
    have hav8 : BytesAt w8.heap.size w8 av p.b := (H6.out.2.2.below hb68).mono hb68.size
    have hap8 : BytesAt w8.heap.size w8 a p.b := (HA.out.1.below (hb18.mono (Nat.le_of_lt hs1))).mono (go_on HB1.out hb18).size
    have hra8 : BytesAt w8.heap.size w8 aa (p.raw i) := (HY.out.1.below hb28).mono hb28.size
    have hG8 := HA.out.2.2.2.below hb18
    have H8 := Lib.hid (And.intro hrp (And.intro hro (And.intro hrq (And.intro hap8 (And.intro hav8 (And.intro haq8 (And.intro hra8 (And.intro hG8 hb18))))))))
    clear hb68 hrq haq8 hb48 hb18 hb28 hrp hro hav8 hap8 hra8 hG8 haq hb7 H6 HBO HPA HLA HB4 HROW4
    go_wp2_with fail
    obtain ⟨hrp, hro, hrq, hap8, hav8, haq8, hra8, hG8, hb18⟩ := H8.out
    clear H8
    have hlen := HY.out.2.2.2
    refine wp_region_m (fun _ w' => Below w8.heap.size w8 w') (RaV (pgv p.k p.t p.x a p.b.length c) (pgv p.k p.t p.x av p.b.length p.b.length) (pgv p.k p.t p.x aq p.b.length p.b.length) i (p.raw i) (.slice aa 256 cc)) (by kernel_rfl) (by kernel_rfl) (by kernel_rfl) (by kernel_rfl) (Below.refl _ _).drew ?step2 ?fin2
    case step2 =>
      intro o' o ho listed a' w' hI hn' hpre
      have hi' : o' < 43 := (Array.getElem?_eq_some_iff.1 ho).1
      have hB := hI.inv
      have hsz := hB.size
      match o', hi' with
      | 0, _ =>
        cases ho
        exact wpOp_move rfl rfl (.inl rfl) (hI.kept (t := 6) (by kernel_rfl)) ⟨_, rfl, hB, fun _ => rfl, fun _ _ _ h => h⟩
      | 1, _ =>
        cases ho
        have e0 : a'.eval (.tmp 62) = .int .i64 0 := hI.slot 0 62 rfl (hpre ⟨0, .data⟩ (by simp) rfl) rfl
        exact wpOp_eqErr rfl rfl rfl e0 (m := 0) rfl (c := true) rfl ⟨_, rfl, hB, fun _ => rfl, fun _ _ _ h => h⟩
      | 2, _ =>
        cases ho
        exact wpOp_move rfl rfl (.inl rfl) (hI.slot 1 63 rfl (hpre ⟨1, .data⟩ (by simp) rfl) rfl) ⟨_, rfl, hB, fun _ => rfl, fun _ _ _ h => h⟩
      | 3, _ =>
        cases ho
        exact wpOp_move rfl (wantedOf (j := 2) rfl rfl rfl (by rw [hI.len]; show _ < 104; decide) (hI.slot 2 64 rfl (hpre ⟨2, .guard⟩ (by simp) rfl) rfl)) (.inl rfl) (hI.kept (t := 5) (by kernel_rfl)) ⟨_, rfl, hB, fun _ => rfl, fun _ _ _ h => h⟩
      | 4, _ =>
        cases ho
        have e0 : a'.eval (.tmp 65) = .slice aa 256 cc := hI.slot 3 65 rfl (hpre ⟨3, .data⟩ (by simp) rfl) rfl
        have hc := conv_at w' aa (p.raw i) cc w8.heap.size (hra8.below hB)
        rw [hlen] at hc
        exact wpOp_conv rfl (wantedOf (j := 2) rfl rfl rfl (by rw [hI.len]; show _ < 104; decide) (hI.slot 2 64 rfl (hpre ⟨2, .guard⟩ (by simp) rfl) rfl)) rfl e0 hc ⟨_, rfl, hB, fun _ => rfl, fun _ _ _ h => h⟩
      | 5, _ =>
        cases ho
        exact wpOp_move rfl (wantedOf (j := 2) rfl rfl rfl (by rw [hI.len]; show _ < 104; decide) (hI.slot 2 64 rfl (hpre ⟨2, .guard⟩ (by simp) rfl) rfl)) (.inl rfl) (hI.kept (t := 0) (by kernel_rfl)) ⟨_, rfl, hB, fun _ => rfl, fun _ _ _ h => h⟩
      | 6, _ =>
        cases ho
        exact wpOp_load rfl (wantedOf (j := 2) rfl rfl rfl (by rw [hI.len]; show _ < 104; decide) (hI.slot 2 64 rfl (hpre ⟨2, .guard⟩ (by simp) rfl) rfl)) rfl (hI.kept (t := 3) (by kernel_rfl)) (load_page (go_row hrp hB) rfl) ⟨_, rfl, hB, fun _ => rfl, fun _ _ _ h => h⟩
      | 7, _ =>
        cases ho
        have e0 : a'.eval (.tmp 67) = .int .i64 i := hI.slot 5 67 rfl (hpre ⟨5, .data⟩ (by simp) rfl) rfl
        have e1 : a'.eval (.tmp 68) = pgv p.k p.t p.x a p.b.length c := hI.slot 6 68 rfl (hpre ⟨6, .data⟩ (by simp) rfl) rfl
        refine wpOp_callFn rfl (wantedOf (j := 2) rfl rfl rfl (by rw [hI.len]; show _ < 104; decide) (hI.slot 2 64 rfl (hpre ⟨2, .guard⟩ (by simp) rfl) rfl)) rfl (vs := #[.int .i64 i, pgv p.k p.t p.x a p.b.length c]) (by simp only [List.map_toArray, List.map_cons, List.map_nil, e0, e1]) (fun _ _ => by kernel_rfl) ((rraw_any i hi p HPO.out a c w' w8.heap.size hsz (hap8.below hB) HA.out.2.1 HA.out.2.2.1).mono ?_)
        rintro e w'' ⟨v, rfl, hO, hb2⟩
        exact ⟨_, rfl, _, rfl, hB.trans (hb2.mono hsz), fun _ => hO.isBs, fun j v _ h => RaV.below hb2 j v h⟩
      | 8, _ =>
        cases ho
        obtain ⟨a9, c9, e9, h9, -⟩ : IsBs w'.heap.size w' (a'.eval (.tmp 69)) (p.raw i) := hI.slot 7 69 rfl (hpre ⟨7, .data⟩ (by simp) rfl) rfl
        exact wpOp_conv rfl (wantedOf (j := 2) rfl rfl rfl (by rw [hI.len]; show _ < 104; decide) (hI.slot 2 64 rfl (hpre ⟨2, .guard⟩ (by simp) rfl) rfl)) rfl e9 (conv_at w' a9 (p.raw i) c9 w'.heap.size h9) ⟨_, rfl, hB, fun _ => rfl, fun _ _ _ h => h⟩
      | 9, _ =>
        cases ho
        have e0 : a'.eval (.tmp 66) = .string ⟨(p.raw i).toArray⟩ := hI.slot 4 66 rfl (hpre ⟨4, .data⟩ (by simp) rfl) rfl
        have e1 : a'.eval (.tmp 70) = .string ⟨(p.raw i).toArray⟩ := hI.slot 8 70 rfl (hpre ⟨8, .data⟩ (by simp) rfl) rfl
        refine wpOp_eqS rfl (wantedOf (j := 2) rfl rfl rfl (by rw [hI.len]; show _ < 104; decide) (hI.slot 2 64 rfl (hpre ⟨2, .guard⟩ (by simp) rfl) rfl)) rfl e0 e1 ?_
        rw [beq_self_eq_true]
        exact ⟨_, rfl, hB, fun _ => rfl, fun _ _ _ h => h⟩
      | 10, _ =>
        cases ho
        have e0 : a'.eval (.tmp 64) = .bool true := hI.slot 2 64 rfl (hpre ⟨2, .data⟩ (by simp) rfl) rfl
        have e1 : a'.eval (.tmp 71) = .bool true := hI.slot 9 71 rfl (hpre ⟨9, .data⟩ (by simp) rfl) rfl
        exact wpOp_pick2 rfl rfl rfl e0 (fun _ => e1) (fun h => by cases h) rfl ⟨_, rfl, hB, fun _ => rfl, fun _ _ _ h => h⟩
      | 11, _ =>
        cases ho
        exact wpOp_move rfl rfl (.inl rfl) (hI.slot 10 72 rfl (hpre ⟨10, .data⟩ (by simp) rfl) rfl) ⟨_, rfl, hB, fun _ => rfl, fun _ _ _ h => h⟩
      | 12, _ =>
        cases ho
        exact wpOp_move rfl (wantedOf (j := 11) rfl rfl rfl (by rw [hI.len]; show _ < 104; decide) (hI.slot 11 73 rfl (hpre ⟨11, .guard⟩ (by simp) rfl) rfl)) (.inl rfl) (hI.kept (t := 8) (by kernel_rfl)) ⟨_, rfl, hB, fun _ => rfl, fun _ _ _ h => h⟩
      | 13, _ =>
        cases ho
        have e0 : a'.eval (.tmp 74) = .int .i64 0 := hI.slot 12 74 rfl (hpre ⟨12, .data⟩ (by simp) rfl) rfl
        exact wpOp_eqErr rfl (wantedOf (j := 11) rfl rfl rfl (by rw [hI.len]; show _ < 104; decide) (hI.slot 11 73 rfl (hpre ⟨11, .guard⟩ (by simp) rfl) rfl)) rfl e0 (m := 0) rfl (c := true) rfl ⟨_, rfl, hB, fun _ => rfl, fun _ _ _ h => h⟩
      | 14, _ =>
        cases ho
        have e0 : a'.eval (.tmp 73) = .bool true := hI.slot 11 73 rfl (hpre ⟨11, .data⟩ (by simp) rfl) rfl
        have e1 : a'.eval (.tmp 75) = .bool true := hI.slot 13 75 rfl (hpre ⟨13, .data⟩ (by simp) rfl) rfl
        exact wpOp_pick2 rfl rfl rfl e0 (fun _ => e1) (fun h => by cases h) rfl ⟨_, rfl, hB, fun _ => rfl, fun _ _ _ h => h⟩
      | 15, _ =>
        cases ho
        exact wpOp_move rfl rfl (.inl rfl) (hI.slot 14 76 rfl (hpre ⟨14, .data⟩ (by simp) rfl) rfl) ⟨_, rfl, hB, fun _ => rfl, fun _ _ _ h => h⟩
      | 16, _ =>
        cases ho
        exact wpOp_load rfl (wantedOf (j := 15) rfl rfl rfl (by rw [hI.len]; show _ < 104; decide) (hI.slot 15 77 rfl (hpre ⟨15, .guard⟩ (by simp) rfl) rfl)) rfl (hI.kept (t := 7) (by kernel_rfl)) (load_page (go_row hro hB) rfl) ⟨_, rfl, hB, fun _ => rfl, fun _ _ _ h => h⟩
      | 17, _ =>
        cases ho
        exact wpOp_load rfl (wantedOf (j := 15) rfl rfl rfl (by rw [hI.len]; show _ < 104; decide) (hI.slot 15 77 rfl (hpre ⟨15, .guard⟩ (by simp) rfl) rfl)) rfl (hI.kept (t := 3) (by kernel_rfl)) (load_page (go_row hrp hB) rfl) ⟨_, rfl, hB, fun _ => rfl, fun _ _ _ h => h⟩
      | 18, _ =>
        cases ho
        have e0 : a'.eval (.tmp 78) = pgv p.k p.t p.x av p.b.length p.b.length := hI.slot 16 78 rfl (hpre ⟨16, .data⟩ (by simp) rfl) rfl
        have e1 : a'.eval (.tmp 79) = pgv p.k p.t p.x a p.b.length c := hI.slot 17 79 rfl (hpre ⟨17, .data⟩ (by simp) rfl) rfl
        have hC := rsame_any w' w8.heap.size hsz p.k p.t p.x av p.b p.b.length p.k p.t p.x a p.b c (hav8.below hB) (hap8.below hB)
        rw [same_self] at hC
        refine wpOp_callFn rfl (wantedOf (j := 15) rfl rfl rfl (by rw [hI.len]; show _ < 104; decide) (hI.slot 15 77 rfl (hpre ⟨15, .guard⟩ (by simp) rfl) rfl)) rfl (vs := #[pgv p.k p.t p.x av p.b.length p.b.length, pgv p.k p.t p.x a p.b.length c]) (by simp only [List.map_toArray, List.map_cons, List.map_nil, e0, e1]) (fun _ _ => by kernel_rfl) (hC.mono ?_)
        rintro e w'' ⟨rfl, hb2⟩
        exact ⟨_, rfl, _, rfl, hB.trans (hb2.mono hsz), fun _ => rfl, fun j v _ h => RaV.below hb2 j v h⟩
      | 19, _ =>
        cases ho
        have e0 : a'.eval (.tmp 77) = .bool true := hI.slot 15 77 rfl (hpre ⟨15, .data⟩ (by simp) rfl) rfl
        have e1 : a'.eval (.tmp 80) = .bool true := hI.slot 18 80 rfl (hpre ⟨18, .data⟩ (by simp) rfl) rfl
        exact wpOp_pick2 rfl rfl rfl e0 (fun _ => e1) (fun h => by cases h) rfl ⟨_, rfl, hB, fun _ => rfl, fun _ _ _ h => h⟩
      | 20, _ =>
        cases ho
        exact wpOp_move rfl rfl (.inl rfl) (hI.slot 19 81 rfl (hpre ⟨19, .data⟩ (by simp) rfl) rfl) ⟨_, rfl, hB, fun _ => rfl, fun _ _ _ h => h⟩
      | 21, _ =>
        cases ho
        exact wpOp_move rfl (wantedOf (j := 20) rfl rfl rfl (by rw [hI.len]; show _ < 104; decide) (hI.slot 20 82 rfl (hpre ⟨20, .guard⟩ (by simp) rfl) rfl)) (.inl rfl) (hI.kept (t := 11) (by kernel_rfl)) ⟨_, rfl, hB, fun _ => rfl, fun _ _ _ h => h⟩
      | 22, _ =>
        cases ho
        have e0 : a'.eval (.tmp 83) = .int .i64 0 := hI.slot 21 83 rfl (hpre ⟨21, .data⟩ (by simp) rfl) rfl
        exact wpOp_eqErr rfl (wantedOf (j := 20) rfl rfl rfl (by rw [hI.len]; show _ < 104; decide) (hI.slot 20 82 rfl (hpre ⟨20, .guard⟩ (by simp) rfl) rfl)) rfl e0 (m := 0) rfl (c := true) rfl ⟨_, rfl, hB, fun _ => rfl, fun _ _ _ h => h⟩
      | 23, _ =>
        cases ho
        have e0 : a'.eval (.tmp 82) = .bool true := hI.slot 20 82 rfl (hpre ⟨20, .data⟩ (by simp) rfl) rfl
        have e1 : a'.eval (.tmp 84) = .bool true := hI.slot 22 84 rfl (hpre ⟨22, .data⟩ (by simp) rfl) rfl
        exact wpOp_pick2 rfl rfl rfl e0 (fun _ => e1) (fun h => by cases h) rfl ⟨_, rfl, hB, fun _ => rfl, fun _ _ _ h => h⟩
      | 24, _ =>
        cases ho
        exact wpOp_move rfl rfl (.inl rfl) (hI.slot 23 85 rfl (hpre ⟨23, .data⟩ (by simp) rfl) rfl) ⟨_, rfl, hB, fun _ => rfl, fun _ _ _ h => h⟩
      | 25, _ =>
        cases ho
        exact wpOp_move rfl (wantedOf (j := 24) rfl rfl rfl (by rw [hI.len]; show _ < 104; decide) (hI.slot 24 86 rfl (hpre ⟨24, .guard⟩ (by simp) rfl) rfl)) (.inl rfl) (hI.kept (t := 9) (by kernel_rfl)) ⟨_, rfl, hB, fun _ => rfl, fun _ _ _ h => h⟩
      | 26, _ =>
        cases ho
        exact wpOp_move rfl (wantedOf (j := 24) rfl rfl rfl (by rw [hI.len]; show _ < 104; decide) (hI.slot 24 86 rfl (hpre ⟨24, .guard⟩ (by simp) rfl) rfl)) (.inl rfl) (hI.kept (t := 0) (by kernel_rfl)) ⟨_, rfl, hB, fun _ => rfl, fun _ _ _ h => h⟩
      | 27, _ =>
        cases ho
        have e0 : a'.eval (.tmp 87) = .int .i64 i := hI.slot 25 87 rfl (hpre ⟨25, .data⟩ (by simp) rfl) rfl
        have e1 : a'.eval (.tmp 88) = .int .i64 i := hI.slot 26 88 rfl (hpre ⟨26, .data⟩ (by simp) rfl) rfl
        exact wpOp_eqL rfl (wantedOf (j := 24) rfl rfl rfl (by rw [hI.len]; show _ < 104; decide) (hI.slot 24 86 rfl (hpre ⟨24, .guard⟩ (by simp) rfl) rfl)) rfl e0 e1 (c := true) (by simp) ⟨_, rfl, hB, fun _ => rfl, fun _ _ _ h => h⟩
      | 28, _ =>
        cases ho
        have e0 : a'.eval (.tmp 86) = .bool true := hI.slot 24 86 rfl (hpre ⟨24, .data⟩ (by simp) rfl) rfl
        have e1 : a'.eval (.tmp 89) = .bool true := hI.slot 27 89 rfl (hpre ⟨27, .data⟩ (by simp) rfl) rfl
        exact wpOp_pick2 rfl rfl rfl e0 (fun _ => e1) (fun h => by cases h) rfl ⟨_, rfl, hB, fun _ => rfl, fun _ _ _ h => h⟩
      | 29, _ =>
        cases ho
        exact wpOp_move rfl rfl (.inl rfl) (hI.slot 28 90 rfl (hpre ⟨28, .data⟩ (by simp) rfl) rfl) ⟨_, rfl, hB, fun _ => rfl, fun _ _ _ h => h⟩
      | 30, _ =>
        cases ho
        exact wpOp_load rfl (wantedOf (j := 29) rfl rfl rfl (by rw [hI.len]; show _ < 104; decide) (hI.slot 29 91 rfl (hpre ⟨29, .guard⟩ (by simp) rfl) rfl)) rfl (hI.kept (t := 10) (by kernel_rfl)) (load_page (go_row hrq hB) rfl) ⟨_, rfl, hB, fun _ => rfl, fun _ _ _ h => h⟩
      | 31, _ =>
        cases ho
        exact wpOp_load rfl (wantedOf (j := 29) rfl rfl rfl (by rw [hI.len]; show _ < 104; decide) (hI.slot 29 91 rfl (hpre ⟨29, .guard⟩ (by simp) rfl) rfl)) rfl (hI.kept (t := 3) (by kernel_rfl)) (load_page (go_row hrp hB) rfl) ⟨_, rfl, hB, fun _ => rfl, fun _ _ _ h => h⟩
      | 32, _ =>
        cases ho
        have e0 : a'.eval (.tmp 92) = pgv p.k p.t p.x aq p.b.length p.b.length := hI.slot 30 92 rfl (hpre ⟨30, .data⟩ (by simp) rfl) rfl
        have e1 : a'.eval (.tmp 93) = pgv p.k p.t p.x a p.b.length c := hI.slot 31 93 rfl (hpre ⟨31, .data⟩ (by simp) rfl) rfl
        have hC := rsame_any w' w8.heap.size hsz p.k p.t p.x aq p.b p.b.length p.k p.t p.x a p.b c (haq8.below hB) (hap8.below hB)
        rw [same_self] at hC
        refine wpOp_callFn rfl (wantedOf (j := 29) rfl rfl rfl (by rw [hI.len]; show _ < 104; decide) (hI.slot 29 91 rfl (hpre ⟨29, .guard⟩ (by simp) rfl) rfl)) rfl (vs := #[pgv p.k p.t p.x aq p.b.length p.b.length, pgv p.k p.t p.x a p.b.length c]) (by simp only [List.map_toArray, List.map_cons, List.map_nil, e0, e1]) (fun _ _ => by kernel_rfl) (hC.mono ?_)
        rintro e w'' ⟨rfl, hb2⟩
        exact ⟨_, rfl, _, rfl, hB.trans (hb2.mono hsz), fun _ => rfl, fun j v _ h => RaV.below hb2 j v h⟩
      | 33, _ =>
        cases ho
        have e0 : a'.eval (.tmp 91) = .bool true := hI.slot 29 91 rfl (hpre ⟨29, .data⟩ (by simp) rfl) rfl
        have e1 : a'.eval (.tmp 94) = .bool true := hI.slot 32 94 rfl (hpre ⟨32, .data⟩ (by simp) rfl) rfl
        exact wpOp_pick2 rfl rfl rfl e0 (fun _ => e1) (fun h => by cases h) rfl ⟨_, rfl, hB, fun _ => rfl, fun _ _ _ h => h⟩
      | 34, _ =>
        cases ho
        exact wpOp_move rfl rfl (.inl rfl) (hI.slot 33 95 rfl (hpre ⟨33, .data⟩ (by simp) rfl) rfl) ⟨_, rfl, hB, fun _ => rfl, fun _ _ _ h => h⟩
      | 35, _ =>
        cases ho
        exact wpOp_load rfl (wantedOf (j := 34) rfl rfl rfl (by rw [hI.len]; show _ < 104; decide) (hI.slot 34 96 rfl (hpre ⟨34, .guard⟩ (by simp) rfl) rfl)) rfl (hI.kept (t := 3) (by kernel_rfl)) (load_page (go_row hrp hB) rfl) ⟨_, rfl, hB, fun _ => rfl, fun _ _ _ h => h⟩
      | 36, _ =>
        cases ho
        exact wpOp_load rfl (wantedOf (j := 34) rfl rfl rfl (by rw [hI.len]; show _ < 104; decide) (hI.slot 34 96 rfl (hpre ⟨34, .guard⟩ (by simp) rfl) rfl)) rfl (hI.kept (t := 7) (by kernel_rfl)) (load_page (go_row hro hB) rfl) ⟨_, rfl, hB, fun _ => rfl, fun _ _ _ h => h⟩
      | 37, _ =>
        cases ho
        have e0 : a'.eval (.tmp 97) = pgv p.k p.t p.x a p.b.length c := hI.slot 35 97 rfl (hpre ⟨35, .data⟩ (by simp) rfl) rfl
        have e1 : a'.eval (.tmp 98) = pgv p.k p.t p.x av p.b.length p.b.length := hI.slot 36 98 rfl (hpre ⟨36, .data⟩ (by simp) rfl) rfl
        have hC := psame_any w' w8.heap.size hsz p.k p.t p.x a p.b c p.k p.t p.x av p.b p.b.length (hap8.below hB) (hav8.below hB)
        rw [same_self] at hC
        refine wpOp_callFn rfl (wantedOf (j := 34) rfl rfl rfl (by rw [hI.len]; show _ < 104; decide) (hI.slot 34 96 rfl (hpre ⟨34, .guard⟩ (by simp) rfl) rfl)) rfl (vs := #[pgv p.k p.t p.x a p.b.length c, pgv p.k p.t p.x av p.b.length p.b.length]) (by simp only [List.map_toArray, List.map_cons, List.map_nil, e0, e1]) (fun _ _ => by kernel_rfl) (hC.mono ?_)
        rintro e w'' ⟨rfl, hb2⟩
        exact ⟨_, rfl, _, rfl, hB.trans (hb2.mono hsz), fun _ => rfl, fun j v _ h => RaV.below hb2 j v h⟩
      | 38, _ =>
        cases ho
        have e0 : a'.eval (.tmp 96) = .bool true := hI.slot 34 96 rfl (hpre ⟨34, .data⟩ (by simp) rfl) rfl
        have e1 : a'.eval (.tmp 99) = .bool true := hI.slot 37 99 rfl (hpre ⟨37, .data⟩ (by simp) rfl) rfl
        exact wpOp_pick2 rfl rfl rfl e0 (fun _ => e1) (fun h => by cases h) rfl ⟨_, rfl, hB, fun _ => rfl, fun _ _ _ h => h⟩
      | 39, _ =>
        cases ho
        exact wpOp_move rfl rfl (.inl rfl) (hI.slot 38 100 rfl (hpre ⟨38, .data⟩ (by simp) rfl) rfl) ⟨_, rfl, hB, fun _ => rfl, fun _ _ _ h => h⟩
      | 40, _ =>
        cases ho
        refine wpOp_callFn rfl (wantedOf (j := 39) rfl rfl rfl (by rw [hI.len]; show _ < 104; decide) (hI.slot 39 101 rfl (hpre ⟨39, .guard⟩ (by simp) rfl) rfl)) rfl (vs := #[]) (by simp) (fun _ _ => by kernel_rfl) ((pknown_any w' (hG8.below hB)).mono ?_)
        rintro e w'' ⟨rfl, hb2⟩
        exact ⟨_, rfl, _, rfl, hB.trans (hb2.mono hsz), fun _ => rfl, fun j v _ h => RaV.below hb2 j v h⟩
      | 41, _ =>
        cases ho
        have e0 : a'.eval (.tmp 101) = .bool true := hI.slot 39 101 rfl (hpre ⟨39, .data⟩ (by simp) rfl) rfl
        have e1 : a'.eval (.tmp 102) = .bool true := hI.slot 40 102 rfl (hpre ⟨40, .data⟩ (by simp) rfl) rfl
        exact wpOp_pick2 rfl rfl rfl e0 (fun _ => e1) (fun h => by cases h) rfl ⟨_, rfl, hB, fun _ => rfl, fun _ _ _ h => h⟩
      | 42, _ =>
        cases ho
        exact wpOp_move rfl rfl (.inr rfl) (hI.slot 41 103 rfl (hpre ⟨41, .data⟩ (by simp) rfl) rfl) ⟨_, rfl, hB, fun _ => rfl, fun _ _ _ h => h⟩
    case fin2 =>
      intro listed a' w9 hI hall
      have hB := hI.inv
      have e4 : a'.tmps.getD 4 undef = .bool true := hI.slot 42 4 rfl (hall 42 (by decide)) rfl
      obtain ⟨vs', us, hvl', hul, hvs, -, e⟩ := hI.frame2 4 1 62 42 (by decide) (Nat.le_of_ble_eq_true (by kernel_rfl)) (by kernel_rfl)
      have v0' := hvs 0 (by decide)
      have HF := Lib.hid (go_on HB1.out (go_on hb18 hB))
      clear hI hall hvs hB hrp hro hrq hap8 hav8 haq8 hra8 hG8 hb18
      obtain ⟨f, rfl⟩ := split42 hul
      clear hul
      match vs', hvl' with
      | [v0], _ =>
      simp only [List.getElem?_cons_zero, Option.some.injEq] at v0'
      rw [Nat.add_zero, e4] at v0'
      subst v0'
      simp only [List.take_succ_cons, List.take_zero, List.drop_succ_cons, List.drop_zero, List.cons_append, List.nil_append, Nat.reduceAdd, Nat.reduceSub] at e
      subst e
      clear e4
      go_wp2
      go_ret
      exact ⟨rfl, HF.out⟩
end Go.Proofs.YtjfpgclaefbhjaaDoor

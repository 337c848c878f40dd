/- Texts of the proof in one file, in build order: MetaNewer. -/
import Derived.Test.YtaijjlaheoamaaaDoorG7
/- Layer 6: the law on two metas. -/
namespace Go.Proofs.YtaijjlaheoamaaaDoor
open Go.RowKit

def RawAny (w : World) (t r f h : Int) (e : Ending) (w' : World) : Prop := Below w.heap.size w w' ∧ ∃ (a : Option Addr) (n c : Nat) (e1 : Int), e = .returned (.tuple #[.slice a n c, .int .i64 e1]) ∧
  ((e1 = 0 ∧ n = 256 ∧ ∃ m : Mt, m.ok ∧ (m.t : Int) = t ∧ (m.r : Int) = r ∧ (m.f : Int) = f ∧ (m.h : Int) = h ∧ OwnB w' w.heap.size (.slice a 256 c) m.raw) ∨ (e1 = 2 ∧ a = none ∧ n = 0 ∧ c = 0 ∧ metaB t r f h = false))
theorem mraw_any (t r f h : Int) (w : World) (hT : Tab w) (hg : 0 + 1 ≤ w.heap.size) : Calls Tryd.prog 13 #[mtv t r f h] w fun e w' => RawAny w t r f h e w' := by
  by_cases hm : metaB t r f h = true
  · obtain ⟨m, hok, rfl, rfl, rfl, rfl⟩ := Mt.ok_iff.1 hm
    refine (mraw_yes m hok w hT hg).mono ?_
    rintro e w' ⟨v, rfl, hO, hb⟩
    obtain ⟨a, c, rfl, -⟩ := own256 hok hO
    exact ⟨hb, a, 256, c, 0, rfl, .inl ⟨rfl, rfl, m, hok, rfl, rfl, rfl, rfl, hO⟩⟩
  · have hm' : metaB t r f h = false := by simpa using hm
    refine (mraw_no t r f h hm' w).mono ?_
    rintro e w' ⟨rfl, hb⟩
    exact ⟨hb, none, 0, 0, 2, rfl, .inr ⟨rfl, rfl, rfl, rfl, hm'⟩⟩
abbrev mrow (m : Mt) : Array Value := #[.int .i64 m.t, .int .i64 m.r, .int .i64 m.f, .int .i64 m.h]
/-- Both metas' bytes, and where they stand. -/
structure NwS (w : World) (S n bW : Nat) (mE mO mW : Mt) (aE aO : Option Addr) (cE cO : Nat) (Y : World) : Prop where
  tab : Tab w
  tabs : 0 + 1 ≤ w.heap.size
  okE : mE.ok
  okO : mO.ok
  even : mE.t % 2 = 0
  odd : mO.t % 2 = 1
  want : mW = if mE.t < mO.t then mO else mE
  below : Below w.heap.size w Y
  rS : Y.heap[S]? = some (.cells (mrow mE) 25 (0, 0))
  rS1 : Y.heap[S + 1]? = some (.cells (mrow mO) 25 (0, 0))
  rW : Y.heap[bW]? = some (.cells (mrow mW) 25 (0, 0))
  bE : BytesAt n Y aE mE.raw
  bO : BytesAt n Y aO mO.raw
  nE : (aE = none → cE = 0) ∧ 256 ≤ cE
  nO : (aO = none → cO = 0) ∧ 256 ≤ cO
  le : n ≤ Y.heap.size
section
variable {w : World} {S n bW : Nat} {mE mO mW : Mt} {aE aO : Option Addr} {cE cO : Nat} {Y Y' : World}
theorem NwS.next (h : NwS w S n bW mE mO mW aE aO cE cO Y) (hb : Below Y.heap.size Y Y') : NwS w S n bW mE mO mW aE aO cE cO Y' :=
  ⟨h.tab, h.tabs, h.okE, h.okO, h.even, h.odd, h.want, go_on h.below hb, go_row h.rS hb, go_row h.rS1 hb, go_row h.rW hb, h.bE.below (hb.mono h.le), h.bO.below (hb.mono h.le), h.nE, h.nO, Nat.le_trans h.le hb.size⟩
theorem NwS.isE (h : NwS w S n bW mE mO mW aE aO cE cO Y) : Opt 0 mE.raw (some mE) := by
  have := isMt_self h.okE
  rw [h.even] at this; exact this
theorem NwS.isO (h : NwS w S n bW mE mO mW aE aO cE cO Y) : Opt 1 mO.raw (some mO) := by
  have := isMt_self h.okO
  rw [h.odd] at this; exact this
theorem opt_nil (n : Int) : Opt n [] none := fun m h => by have := h.look.2.1; cases this
theorem NwS.count (h : NwS w S n bW mE mO mW aE aO cE cO Y) (a1 a2 : Option Addr) (la lb : List UInt8) (c1 c2 : Nat) (oa ob : Option Mt) (hoa : Opt 0 la oa) (hob : Opt 1 lb ob) (hA : BsAt n Y a1 la c1) (hB : BsAt n Y a2 lb c2) :
    Calls Tryd.prog 9 #[.slice a1 la.length c1, .slice a2 lb.length c2] Y fun e w' => e = .returned (.tuple #[optM (cnt oa ob), .int .i64 (cntE (cnt oa ob))]) ∧ Below Y.heap.size Y w' :=
  counts_any a1 a2 la lb c1 c2 oa ob hoa hob Y n h.le hA hB (h.tab.below h.tabs h.below) (Nat.le_trans h.tabs h.below.size)
theorem NwS.c1 (h : NwS w S n bW mE mO mW aE aO cE cO Y) : Calls Tryd.prog 9 #[.slice aE 256 cE, .slice aO 256 cO] Y fun e w' => e = .returned (.tuple #[mW.val, .int .i64 0]) ∧ Below Y.heap.size Y w' := by
  have := h.count aE aO mE.raw mO.raw cE cO _ _ h.isE h.isO (BsAt.raw h.okE h.bE h.nE.1 h.nE.2) (BsAt.raw h.okO h.bO h.nO.1 h.nO.2)
  rw [Mt.raw_len h.okE, Mt.raw_len h.okO] at this
  have e : cnt (some mE) (some mO) = some mW := by
    rw [h.want]
    show gstep (some mE) mO = _
    simp only [gstep]
    split <;> rfl
  rw [e] at this
  exact this
theorem NwS.c2 (h : NwS w S n bW mE mO mW aE aO cE cO Y) : Calls Tryd.prog 9 #[.slice aE 256 cE, .slice none 0 0] Y fun e w' => e = .returned (.tuple #[mE.val, .int .i64 0]) ∧ Below Y.heap.size Y w' := by
  have := h.count aE none mE.raw [] cE 0 _ _ h.isE (opt_nil 1) (BsAt.raw h.okE h.bE h.nE.1 h.nE.2) ⟨.nil, fun _ => rfl, Nat.le_refl _, by decide⟩
  rw [Mt.raw_len h.okE] at this
  exact this
theorem NwS.c3 (h : NwS w S n bW mE mO mW aE aO cE cO Y) : Calls Tryd.prog 9 #[.slice none 0 0, .slice aO 256 cO] Y fun e w' => e = .returned (.tuple #[mO.val, .int .i64 0]) ∧ Below Y.heap.size Y w' := by
  have := h.count none aO [] mO.raw 0 cO _ _ (opt_nil 0) h.isO ⟨.nil, fun _ => rfl, Nat.le_refl _, by decide⟩ (BsAt.raw h.okO h.bO h.nO.1 h.nO.2)
  rw [Mt.raw_len h.okO] at this
  exact this
theorem NwS.c4 (h : NwS w S n bW mE mO mW aE aO cE cO Y) : Calls Tryd.prog 9 #[.slice aO 256 cO, .slice aE 256 cE] Y fun e w' => e = .returned (.tuple #[mtv 0 0 0 0, .int .i64 160]) ∧ Below Y.heap.size Y w' := by
  have := h.count aO aE mO.raw mE.raw cO cE none none (no_other h.okO (by rw [h.odd]; decide)) (no_other h.okE (by rw [h.even]; decide)) (BsAt.raw h.okO h.bO h.nO.1 h.nO.2) (BsAt.raw h.okE h.bE h.nE.1 h.nE.2)
  rw [Mt.raw_len h.okE, Mt.raw_len h.okO] at this
  exact this
end
def NwV (S : Nat) (e1 e2 ta tb : Int) (b1 b2 we : Bool) : Nat → Value → World → Prop
  | 0, v, _ => v = .int .i64 e1
  | 1, v, _ => v = .bool b1
  | 2, v, _ => v = .bool b1
  | 3, v, _ => b1 = false → v = .int .i64 e2
  | 4, v, _ => b1 = false → v = .bool b2
  | 5, v, _ => v = .bool (b1 || b2)
  | 6, v, _ => v = .bool (b1 || b2)
  | 7, v, _ => (b1 || b2) = false → v = mpt S 0
  | 8, v, _ => (b1 || b2) = false → v = .int .i64 ta
  | 9, v, _ => (b1 || b2) = false → v = .int .i64 (whereI ta)
  | 10, v, _ => (b1 || b2) = false → v = mpt (S + 1) 0
  | 11, v, _ => (b1 || b2) = false → v = .int .i64 tb
  | 12, v, _ => (b1 || b2) = false → v = .int .i64 (whereI tb)
  | 13, v, _ => (b1 || b2) = false → v = .bool we
  | 14, v, _ => v = .bool (b1 || b2 || we)
  | _, _, _ => True
section
variable {ops : Array Oper} {Q : Exit → Act → World → Prop} {i : Nat} {o : Oper} {a : Act} {w : World} {K : Act → World → Prop}
theorem wpOp_eqI6 {x y : Operand} {n m : Int} {c : Bool} (ho : ops[i]? = some o) (hg : Region.wanted o (yielded ops a.tmps) = true) (hop : o.op = .binOp .eql 2 x y 2) (hx : a.eval x = .int .i64 n) (hy : a.eval y = .int .i64 m) (hc : c = (n == m)) (hK : K (a.put o.dst (.bool c)) w) : wpOp Tryd.prog ops Q i K a w := by
  subst hc
  exact wpOp_val ho hg (by simp only [execOp, hop, hx, hy]; simp [go_sem]) hK
end
theorem NwV.any {S : Nat} {e1 e2 ta tb : Int} {b1 b2 we : Bool} {w' w'' : World} : ∀ j v, NwV S e1 e2 ta tb b1 b2 we j v w' → NwV S e1 e2 ta tb b1 b2 we j v w'' := fun j _ k => match j, k with
  | 0, k => k
  | 1, k => k
  | 2, k => k
  | 3, k => k
  | 4, k => k
  | 5, k => k
  | 6, k => k
  | 7, k => k
  | 8, k => k
  | 9, k => k
  | 10, k => k
  | 11, k => k
  | 12, k => k
  | 13, k => k
  | 14, k => k
  | _ + 15, _ => trivial
set_option maxRecDepth 100000 in
set_option maxHeartbeats 16000000 in
theorem metaNewer_any (ta ra fa ha tb rb fb hb : Int) (w : World) (hT : Tab w) (hg : 0 + 1 ≤ w.heap.size) :
    Calls Tryd.prog 6 #[mtv ta ra fa ha, mtv tb rb fb hb] w fun e w' => e = .returned (.bool true) ∧ Below w.heap.size w w' := by
  have hb0 : Below w.heap.size w ((w.alloc (.cells #[.int .i64 ta, .int .i64 ra, .int .i64 fa, .int .i64 ha] 25)).alloc (.cells #[.int .i64 tb, .int .i64 rb, .int .i64 fb, .int .i64 hb] 25)) := ((Below.refl _ _).alloc (Nat.le_refl _) _).alloc (by simp) _
  have hr0 : ((w.alloc (.cells #[.int .i64 ta, .int .i64 ra, .int .i64 fa, .int .i64 ha] 25)).alloc (.cells #[.int .i64 tb, .int .i64 rb, .int .i64 fb, .int .i64 hb] 25)).heap[w.heap.size]? = some (.cells #[.int .i64 ta, .int .i64 ra, .int .i64 fa, .int .i64 ha] 25 (0, 0)) := (Below.heap_alloc _ _ _ (by simp)).trans (heap_alloc_new w _)
  have hr1 := heap_alloc_two w (.cells #[.int .i64 ta, .int .i64 ra, .int .i64 fa, .int .i64 ha] 25) (.cells #[.int .i64 tb, .int .i64 rb, .int .i64 fb, .int .i64 hb] 25)
  have hsz : ((w.alloc (.cells #[.int .i64 ta, .int .i64 ra, .int .i64 fa, .int .i64 ha] 25)).alloc (.cells #[.int .i64 tb, .int .i64 rb, .int .i64 fb, .int .i64 hb] 25)).heap.size = w.heap.size + 2 := by simp
  have hT0 := hT.below hg hb0
  have HT := Lib.hid (And.intro hT hg)
  have HB := Lib.hid (And.intro hb0 (And.intro hr0 (And.intro hr1 hsz)))
  have H0 := Lib.hid (mraw_any ta ra fa ha _ hT0 (Nat.le_trans hg hb0.size))
  clear hT hg hb0 hr0 hr1 hT0 hsz
  go_enter Tryd.func6, Tryd.ntmps6
  go_wp2_with fail
  refine H0.out.mono ?_
  rintro e w1 ⟨hb1, a1, n1, c1, e1, rfl, hc1⟩
  obtain ⟨hb0, hr0, hr1, hsz⟩ := HB.out
  have hbw := go_on hb0 hb1
  have hR0 := go_row hr0 hb1
  have hR1 := go_row hr1 hb1
  have d0 := cell_of_row w1 (w.heap.size + 1) 0 _ _ _ hR1
  have d1 := cell_of_row w1 (w.heap.size + 1) 1 _ _ _ hR1
  have d2 := cell_of_row w1 (w.heap.size + 1) 2 _ _ _ hR1
  have d3 := cell_of_row w1 (w.heap.size + 1) 3 _ _ _ hR1
  simp only [List.getElem?_toArray, List.getElem?_cons_zero, List.getElem?_cons_succ] at d0 d1 d2 d3
  rw [hsz] at hc1
  have H1 := Lib.hid (mraw_any tb rb fb hb w1 (HT.out.1.below HT.out.2 hbw) (Nat.le_trans HT.out.2 hbw.size))
  have hs1 := hb1.size
  rw [hsz] at hs1
  have HX := Lib.hid (And.intro hbw (And.intro hR0 (And.intro hR1 (And.intro hs1 hc1))))
  clear hb1 hc1 hb0 hr0 hr1 hbw hR0 hR1 HB H0 hsz hs1
  go_wp2_with fail
  refine H1.out.mono ?_
  rintro e w2 ⟨hb2, a2, n2, c2, e2, rfl, hc2⟩
  obtain ⟨hbw, hR0, hR1, hs1, hc1⟩ := HX.out
  have hbw2 := go_on hbw hb2
  have hR0' := go_row hR0 hb2
  have hR1' := go_row hR1 hb2
  have hs2 := hb2.size
  have hc1' : (e1 = 0 ∧ n1 = 256 ∧ ∃ m : Mt, m.ok ∧ (m.t : Int) = ta ∧ (m.r : Int) = ra ∧ (m.f : Int) = fa ∧ (m.h : Int) = ha ∧ OwnB w2 (w.heap.size + 2) (.slice a1 256 c1) m.raw) ∨ (e1 = 2 ∧ a1 = none ∧ n1 = 0 ∧ c1 = 0 ∧ metaB ta ra fa ha = false) := by
    rcases hc1 with ⟨q1, q2, m, q3, q4, q5, q6, q7, q8⟩ | q
    · exact .inl ⟨q1, q2, m, q3, q4, q5, q6, q7, q8.below hb2⟩
    · exact .inr q
  have HX2 := Lib.hid (And.intro hbw2 (And.intro hR0' (And.intro hR1' (And.intro (show w.heap.size + 2 ≤ w2.heap.size by omega) (And.intro hs1 (And.intro hc1' hc2))))))
  clear hb2 hc1 hc2 hc1' hbw hR0 hR1 hbw2 hR0' hR1' hs1 hs2 HX H1 d0 d1 d2 d3
  go_wp2_with fail
  obtain ⟨hbw2, hR0', hR1', hs2, hs1, hc1, hc2⟩ := HX2.out
  have hlS := (Array.getElem?_eq_some_iff.1 hR0').1
  have hlS1 := (Array.getElem?_eq_some_iff.1 hR1').1
  refine wp_region_m (fun _ w' => Below w2.heap.size w2 w') (NwV w.heap.size e1 e2 ta tb (e1 != 0) (e2 != 0) (whereI ta == whereI tb)) (by kernel_rfl) (by kernel_rfl) (by kernel_rfl) (by kernel_rfl) (Below.refl _ _).drew ?step ?fin
  case step =>
    intro q o ho listed a' w' hI hn' hpre
    have hq : q < 15 := (Array.getElem?_eq_some_iff.1 ho).1
    have hB := hI.inv
    match q, hq with
    | 0, _ =>
      cases ho
      exact wpOp_move rfl rfl (.inl rfl) (hI.kept (t := 6) (by kernel_rfl)) ⟨_, rfl, hB, fun _ => rfl, fun _ _ _ h => h⟩
    | 1, _ =>
      cases ho
      have e0 : a'.eval (.tmp 28) = .int .i64 e1 := hI.slot 0 28 rfl (hpre ⟨0, .data⟩ (by simp) rfl) rfl
      exact wpOp_neqE rfl rfl rfl e0 rfl ⟨_, rfl, hB, fun _ => rfl, fun _ _ _ h => h⟩
    | 2, _ =>
      cases ho
      exact wpOp_move rfl rfl (.inl rfl) (hI.slot 1 29 rfl (hpre ⟨1, .data⟩ (by simp) rfl) rfl) ⟨_, rfl, hB, fun _ => rfl, fun _ _ _ h => h⟩
    | 3, _ =>
      cases ho
      have eg : a'.eval (.tmp 30) = .bool (e1 != 0) := hI.slot 2 30 rfl (hpre ⟨2, .guard⟩ (by simp) rfl) rfl
      by_cases hw : (e1 != 0) = false
      · have eg2 : a'.eval (.tmp 30) = .bool false := by rw [eg, hw]
        exact wpOp_move rfl (wantedOf (j := 2) (b := false) rfl rfl rfl (by rw [hI.len]; show _ < 113; decide) eg2) (.inl rfl) (hI.kept (t := 8) (by kernel_rfl)) ⟨_, rfl, hB, fun _ => fun _ => rfl, fun _ _ _ h => h⟩
      · have hw' : (e1 != 0) = true := (Bool.not_eq_false _).mp hw
        exact wpOp_off rfl (wantedOff (j := 2) (b := false) (b' := true) rfl rfl rfl (by rw [hI.len]; show _ < 113; decide) (by rw [eg, hw']) (by decide)) ⟨_, rfl, hB, fun _ => fun h => absurd h hw, fun j u _ h => NwV.any j u h⟩
    | 4, _ =>
      cases ho
      have eg : a'.eval (.tmp 30) = .bool (e1 != 0) := hI.slot 2 30 rfl (hpre ⟨2, .guard⟩ (by simp) rfl) rfl
      by_cases hw : (e1 != 0) = false
      · have eg2 : a'.eval (.tmp 30) = .bool false := by rw [eg, hw]
        have e0 : a'.eval (.tmp 31) = .int .i64 e2 := (hI.slot 3 31 rfl (hpre ⟨3, .data⟩ (by simp) rfl) rfl) hw
        exact wpOp_neqE rfl (wantedOf (j := 2) (b := false) rfl rfl rfl (by rw [hI.len]; show _ < 113; decide) eg2) rfl e0 rfl ⟨_, rfl, hB, fun _ => fun _ => rfl, fun _ _ _ h => h⟩
      · have hw' : (e1 != 0) = true := (Bool.not_eq_false _).mp hw
        exact wpOp_off rfl (wantedOff (j := 2) (b := false) (b' := true) rfl rfl rfl (by rw [hI.len]; show _ < 113; decide) (by rw [eg, hw']) (by decide)) ⟨_, rfl, hB, fun _ => fun h => absurd h hw, fun j u _ h => NwV.any j u h⟩
    | 5, _ =>
      cases ho
      have e0 : a'.eval (.tmp 30) = .bool (e1 != 0) := hI.slot 2 30 rfl (hpre ⟨2, .data⟩ (by simp) rfl) rfl
      have e4 : (e1 != 0) = false → a'.eval (.tmp 32) = .bool (e2 != 0) := hI.slot 4 32 rfl (hpre ⟨4, .data⟩ (by simp) rfl) rfl
      exact wpOp_pick2 rfl rfl rfl e0 (v := .bool (e1 != 0 || e2 != 0)) (fun h => by rw [h]; rfl) (fun h => by rw [e4 h, h]; rfl) rfl ⟨_, rfl, hB, fun _ => rfl, fun _ _ _ h => h⟩
    | 6, _ =>
      cases ho
      exact wpOp_move rfl rfl (.inl rfl) (hI.slot 5 33 rfl (hpre ⟨5, .data⟩ (by simp) rfl) rfl) ⟨_, rfl, hB, fun _ => rfl, fun _ _ _ h => h⟩
    | 7, _ =>
      cases ho
      have eg : a'.eval (.tmp 34) = .bool (e1 != 0 || e2 != 0) := hI.slot 6 34 rfl (hpre ⟨6, .guard⟩ (by simp) rfl) rfl
      by_cases hw : (e1 != 0 || e2 != 0) = false
      · have eg2 : a'.eval (.tmp 34) = .bool false := by rw [eg, hw]
        exact wpOp_field rfl (wantedOf (j := 6) (b := false) rfl rfl rfl (by rw [hI.len]; show _ < 113; decide) eg2) rfl (hI.kept (t := 2) (by kernel_rfl)) (v := mpt w.heap.size 0) (w' := w') (by simp [go_sem]) ⟨_, rfl, hB, fun _ => fun _ => rfl, fun _ _ _ h => h⟩
      · have hw' : (e1 != 0 || e2 != 0) = true := (Bool.not_eq_false _).mp hw
        exact wpOp_off rfl (wantedOff (j := 6) (b := false) (b' := true) rfl rfl rfl (by rw [hI.len]; show _ < 113; decide) (by rw [eg, hw']) (by decide)) ⟨_, rfl, hB, fun _ => fun h => absurd h hw, fun j u _ h => NwV.any j u h⟩
    | 8, _ =>
      cases ho
      have eg : a'.eval (.tmp 34) = .bool (e1 != 0 || e2 != 0) := hI.slot 6 34 rfl (hpre ⟨6, .guard⟩ (by simp) rfl) rfl
      by_cases hw : (e1 != 0 || e2 != 0) = false
      · have eg2 : a'.eval (.tmp 34) = .bool false := by rw [eg, hw]
        exact wpOp_load rfl (wantedOf (j := 6) (b := false) rfl rfl rfl (by rw [hI.len]; show _ < 113; decide) eg2) rfl ((hI.slot 7 35 rfl (hpre ⟨7, .data⟩ (by simp) rfl) rfl) hw) (load_cellR (Tryd.isAgg2 w') (v := .int .i64 ta) (cell_of_row w' w.heap.size 0 _ _ _ ((hB.block _ hlS).trans hR0'))) ⟨_, rfl, hB, fun _ => fun _ => rfl, fun _ _ _ h => h⟩
      · have hw' : (e1 != 0 || e2 != 0) = true := (Bool.not_eq_false _).mp hw
        exact wpOp_off rfl (wantedOff (j := 6) (b := false) (b' := true) rfl rfl rfl (by rw [hI.len]; show _ < 113; decide) (by rw [eg, hw']) (by decide)) ⟨_, rfl, hB, fun _ => fun h => absurd h hw, fun j u _ h => NwV.any j u h⟩
    | 9, _ =>
      cases ho
      have eg : a'.eval (.tmp 34) = .bool (e1 != 0 || e2 != 0) := hI.slot 6 34 rfl (hpre ⟨6, .guard⟩ (by simp) rfl) rfl
      by_cases hw : (e1 != 0 || e2 != 0) = false
      · have eg2 : a'.eval (.tmp 34) = .bool false := by rw [eg, hw]
        have e0 : a'.eval (.tmp 36) = .int .i64 ta := (hI.slot 8 36 rfl (hpre ⟨8, .data⟩ (by simp) rfl) rfl) hw
        refine wpOp_callFn rfl (wantedOf (j := 6) (b := false) rfl rfl rfl (by rw [hI.len]; show _ < 113; decide) eg2) rfl (vs := #[.int .i64 ta]) (by simp only [List.map_toArray, List.map_cons, List.map_nil, e0]) (fun _ _ => by kernel_rfl) ((where_any ta w').mono ?_)
        rintro e w'' ⟨rfl, rfl⟩
        exact ⟨_, rfl, _, rfl, hB, fun _ => fun _ => rfl, fun _ _ _ h => h⟩
      · have hw' : (e1 != 0 || e2 != 0) = true := (Bool.not_eq_false _).mp hw
        exact wpOp_off rfl (wantedOff (j := 6) (b := false) (b' := true) rfl rfl rfl (by rw [hI.len]; show _ < 113; decide) (by rw [eg, hw']) (by decide)) ⟨_, rfl, hB, fun _ => fun h => absurd h hw, fun j u _ h => NwV.any j u h⟩
    | 10, _ =>
      cases ho
      have eg : a'.eval (.tmp 34) = .bool (e1 != 0 || e2 != 0) := hI.slot 6 34 rfl (hpre ⟨6, .guard⟩ (by simp) rfl) rfl
      by_cases hw : (e1 != 0 || e2 != 0) = false
      · have eg2 : a'.eval (.tmp 34) = .bool false := by rw [eg, hw]
        exact wpOp_field rfl (wantedOf (j := 6) (b := false) rfl rfl rfl (by rw [hI.len]; show _ < 113; decide) eg2) rfl (hI.kept (t := 3) (by kernel_rfl)) (v := mpt (w.heap.size + 1) 0) (w' := w') (by simp [go_sem]) ⟨_, rfl, hB, fun _ => fun _ => rfl, fun _ _ _ h => h⟩
      · have hw' : (e1 != 0 || e2 != 0) = true := (Bool.not_eq_false _).mp hw
        exact wpOp_off rfl (wantedOff (j := 6) (b := false) (b' := true) rfl rfl rfl (by rw [hI.len]; show _ < 113; decide) (by rw [eg, hw']) (by decide)) ⟨_, rfl, hB, fun _ => fun h => absurd h hw, fun j u _ h => NwV.any j u h⟩
    | 11, _ =>
      cases ho
      have eg : a'.eval (.tmp 34) = .bool (e1 != 0 || e2 != 0) := hI.slot 6 34 rfl (hpre ⟨6, .guard⟩ (by simp) rfl) rfl
      by_cases hw : (e1 != 0 || e2 != 0) = false
      · have eg2 : a'.eval (.tmp 34) = .bool false := by rw [eg, hw]
        exact wpOp_load rfl (wantedOf (j := 6) (b := false) rfl rfl rfl (by rw [hI.len]; show _ < 113; decide) eg2) rfl ((hI.slot 10 38 rfl (hpre ⟨10, .data⟩ (by simp) rfl) rfl) hw) (load_cellR (Tryd.isAgg2 w') (v := .int .i64 tb) (cell_of_row w' (w.heap.size + 1) 0 _ _ _ ((hB.block _ hlS1).trans hR1'))) ⟨_, rfl, hB, fun _ => fun _ => rfl, fun _ _ _ h => h⟩
      · have hw' : (e1 != 0 || e2 != 0) = true := (Bool.not_eq_false _).mp hw
        exact wpOp_off rfl (wantedOff (j := 6) (b := false) (b' := true) rfl rfl rfl (by rw [hI.len]; show _ < 113; decide) (by rw [eg, hw']) (by decide)) ⟨_, rfl, hB, fun _ => fun h => absurd h hw, fun j u _ h => NwV.any j u h⟩
    | 12, _ =>
      cases ho
      have eg : a'.eval (.tmp 34) = .bool (e1 != 0 || e2 != 0) := hI.slot 6 34 rfl (hpre ⟨6, .guard⟩ (by simp) rfl) rfl
      by_cases hw : (e1 != 0 || e2 != 0) = false
      · have eg2 : a'.eval (.tmp 34) = .bool false := by rw [eg, hw]
        have e0 : a'.eval (.tmp 39) = .int .i64 tb := (hI.slot 11 39 rfl (hpre ⟨11, .data⟩ (by simp) rfl) rfl) hw
        refine wpOp_callFn rfl (wantedOf (j := 6) (b := false) rfl rfl rfl (by rw [hI.len]; show _ < 113; decide) eg2) rfl (vs := #[.int .i64 tb]) (by simp only [List.map_toArray, List.map_cons, List.map_nil, e0]) (fun _ _ => by kernel_rfl) ((where_any tb w').mono ?_)
        rintro e w'' ⟨rfl, rfl⟩
        exact ⟨_, rfl, _, rfl, hB, fun _ => fun _ => rfl, fun _ _ _ h => h⟩
      · have hw' : (e1 != 0 || e2 != 0) = true := (Bool.not_eq_false _).mp hw
        exact wpOp_off rfl (wantedOff (j := 6) (b := false) (b' := true) rfl rfl rfl (by rw [hI.len]; show _ < 113; decide) (by rw [eg, hw']) (by decide)) ⟨_, rfl, hB, fun _ => fun h => absurd h hw, fun j u _ h => NwV.any j u h⟩
    | 13, _ =>
      cases ho
      have eg : a'.eval (.tmp 34) = .bool (e1 != 0 || e2 != 0) := hI.slot 6 34 rfl (hpre ⟨6, .guard⟩ (by simp) rfl) rfl
      by_cases hw : (e1 != 0 || e2 != 0) = false
      · have eg2 : a'.eval (.tmp 34) = .bool false := by rw [eg, hw]
        have e0 : a'.eval (.tmp 37) = .int .i64 (whereI ta) := (hI.slot 9 37 rfl (hpre ⟨9, .data⟩ (by simp) rfl) rfl) hw
        have e4 : a'.eval (.tmp 40) = .int .i64 (whereI tb) := (hI.slot 12 40 rfl (hpre ⟨12, .data⟩ (by simp) rfl) rfl) hw
        exact wpOp_eqI6 rfl (wantedOf (j := 6) (b := false) rfl rfl rfl (by rw [hI.len]; show _ < 113; decide) eg2) rfl e0 e4 rfl ⟨_, rfl, hB, fun _ => fun _ => rfl, fun _ _ _ h => h⟩
      · have hw' : (e1 != 0 || e2 != 0) = true := (Bool.not_eq_false _).mp hw
        exact wpOp_off rfl (wantedOff (j := 6) (b := false) (b' := true) rfl rfl rfl (by rw [hI.len]; show _ < 113; decide) (by rw [eg, hw']) (by decide)) ⟨_, rfl, hB, fun _ => fun h => absurd h hw, fun j u _ h => NwV.any j u h⟩
    | 14, _ =>
      cases ho
      have e0 : a'.eval (.tmp 34) = .bool (e1 != 0 || e2 != 0) := hI.slot 6 34 rfl (hpre ⟨6, .data⟩ (by simp) rfl) rfl
      have e4 : (e1 != 0 || e2 != 0) = false → a'.eval (.tmp 41) = .bool (whereI ta == whereI tb) := hI.slot 13 41 rfl (hpre ⟨13, .data⟩ (by simp) rfl) rfl
      exact wpOp_pick2 rfl rfl rfl e0 (v := .bool (e1 != 0 || e2 != 0 || whereI ta == whereI tb)) (fun h => by rw [h]; rfl) (fun h => by rw [e4 h, h]; rfl) rfl ⟨_, rfl, hB, fun _ => rfl, fun _ _ _ h => h⟩
  case fin =>
    intro listed a' w3 hI hall
    have hB := hI.inv
    have e42 : a'.tmps.getD 42 undef = .bool (e1 != 0 || e2 != 0 || whereI ta == whereI tb) := hI.slot 14 42 rfl (hall 14 (by decide)) rfl
    obtain ⟨vs, hvl, hvs, e⟩ := hI.frame 28 15 (Nat.le_of_ble_eq_true (by kernel_rfl)) (by kernel_rfl)
    have v14 := hvs 14 (by decide)
    clear hI hall hvs
    match vs, hvl with
    | [t0, t1, t2, t3, t4, t5, t6, t7, t8, t9, t10, t11, t12, t13, t14], _ =>
    simp only [List.getElem?_cons_zero, List.getElem?_cons_succ, Option.some.injEq] at v14
    rw [show 28 + 14 = 42 from rfl, e42] at v14
    subst v14
    simp only [List.take_succ_cons, List.take_zero, List.drop_succ_cons, List.drop_zero, List.cons_append, List.nil_append, Nat.reduceAdd] at e
    subst e
    have hb3 := hbw2.trans (hB.mono hbw2.size)
    have hR0 := (hB.block _ hlS).trans hR0'
    have hR1 := (hB.block _ hlS1).trans hR1'
    generalize hbb : (e1 != 0 || e2 != 0 || whereI ta == whereI tb) = bb
    have HX3 := Lib.hid (And.intro hb3 (And.intro hR0 (And.intro hR1 (And.intro hB hbb))))
    clear e42 hB hb3 hR0 hR1 hbb hbw2 hR0' hR1' hlS hlS1
    cases bb with
    | true =>
      have HK := Lib.hid (mknown_any w3 (HT.out.1.below HT.out.2 HX3.out.1) (Nat.le_trans HT.out.2 HX3.out.1.size))
      go_wp2_with (go_at_call 8; refine HK.out.mono ?_; rintro e w' ⟨rfl, hb'⟩)
      go_ret
      exact ⟨rfl, go_on HX3.out.1 hb'⟩
    | false =>
      obtain ⟨hb3, hR0, hR1, hB, hbb⟩ := HX3.out
      have hz1 : e1 = 0 := by
        rcases hc1 with ⟨q, -⟩ | ⟨q, -⟩
        · exact q
        · rw [q] at hbb; cases hbb
      have hz2 : e2 = 0 := by
        rcases hc2 with ⟨q, -⟩ | ⟨q, -⟩
        · exact q
        · rw [q] at hbb; simp at hbb
      subst hz1 hz2
      rcases hc1 with ⟨-, q2, m, hok, rfl, rfl, rfl, rfl, hOx⟩ | ⟨q, -⟩
      case inr => cases q
      rcases hc2 with ⟨-, q3, m', hok', rfl, rfl, rfl, rfl, hOy⟩ | ⟨q, -⟩
      case inr => cases q
      subst q2 q3
      have hwm : ∀ k : Nat, whereI (k : Int) = ((k % 2 : Nat) : Int) := fun k => by unfold whereI; rw [if_neg (by omega)]; rfl
      have hpar : m.t % 2 ≠ m'.t % 2 := fun e => by rw [hwm, hwm, e] at hbb; simp at hbb
      have hOx := hOx.below hB
      have hOy := hOy.below hB
      have rc0 := cell_of_row w3 w.heap.size 0 _ _ _ hR0; have frc0 := frozen_of_row w3 w.heap.size 0 _ _ hR0
      have rc1 := cell_of_row w3 w.heap.size 1 _ _ _ hR0; have frc1 := frozen_of_row w3 w.heap.size 1 _ _ hR0
      have rc2 := cell_of_row w3 w.heap.size 2 _ _ _ hR0; have frc2 := frozen_of_row w3 w.heap.size 2 _ _ hR0
      have rc3 := cell_of_row w3 w.heap.size 3 _ _ _ hR0; have frc3 := frozen_of_row w3 w.heap.size 3 _ _ hR0
      simp only [List.getElem?_toArray, List.getElem?_cons_zero, List.getElem?_cons_succ] at rc0 rc1 rc2 rc3
      have rd0 := cell_of_row w3 (w.heap.size + 1) 0 _ _ _ hR1; have frd0 := frozen_of_row w3 (w.heap.size + 1) 0 _ _ hR1
      have rd1 := cell_of_row w3 (w.heap.size + 1) 1 _ _ _ hR1; have frd1 := frozen_of_row w3 (w.heap.size + 1) 1 _ _ hR1
      have rd2 := cell_of_row w3 (w.heap.size + 1) 2 _ _ _ hR1; have frd2 := frozen_of_row w3 (w.heap.size + 1) 2 _ _ hR1
      have rd3 := cell_of_row w3 (w.heap.size + 1) 3 _ _ _ hR1; have frd3 := frozen_of_row w3 (w.heap.size + 1) 3 _ _ hR1
      simp only [List.getElem?_toArray, List.getElem?_cons_zero, List.getElem?_cons_succ] at rd0 rd1 rd2 rd3
      have hlS := (Array.getElem?_eq_some_iff.1 hR0).1
      have hlS1 := (Array.getElem?_eq_some_iff.1 hR1).1
      obtain ⟨ax, cx, ev, hmx, hnx, hlx⟩ := own256 hok hOx
      cases ev
      obtain ⟨ay, cy, ev, hmy, hny, hly⟩ := own256 hok' hOy
      cases ev
      by_cases hev : m.t % 2 = 0
      · have hod : m'.t % 2 = 1 := by omega
        have tokw : (whereI (m.t : Int) == 1) = false := by rw [hwm, hev]; rfl
        have HX4 := Lib.hid (And.intro hR0 (And.intro hR1 (And.intro hmx (And.intro hmy (And.intro hb3 (And.intro hev hod))))))
        clear hbb hR0 hR1 hOx hOy hmx hmy hwm hpar HX2 hs1 hs2 hB hb3 hev hod
        by_cases hlt : (m.t : Int) < (m'.t : Int)
        · have HN := Lib.hid (show NwS w w.heap.size w3.heap.size w3.heap.size m m' m' a1 a2 c1 c2 (w3.alloc (.cells #[.int .i64 m'.t, .int .i64 m'.r, .int .i64 m'.f, .int .i64 m'.h] 25)) from
            have hal := (Below.refl w3.heap.size w3).alloc (Nat.le_refl _) (.cells #[.int .i64 m'.t, .int .i64 m'.r, .int .i64 m'.f, .int .i64 m'.h] 25)
            have q := HX4.out
            ⟨HT.out.1, HT.out.2, hok, hok', q.2.2.2.2.2.1, q.2.2.2.2.2.2, by rw [if_pos (by omega)], go_on q.2.2.2.2.1 hal, go_row q.1 hal, go_row q.2.1 hal, heap_alloc_new _ _, q.2.2.1.below hal, q.2.2.2.1.below hal, ⟨hnx, hlx⟩, ⟨hny, hly⟩, hal.size⟩)
          clear HX4 hok hok' hnx hlx hny hly
          go_wp2_with (go_at_call 16; refine (where_any _ _).mono ?_; rintro e w' ⟨rfl, rfl⟩)
          clear hlt tokw hlS hlS1 rc0 frc0 rc1 frc1 rc2 frc2 rc3 frc3 rd0 frd0 rd1 frd1 rd2 frd2 rd3 frd3
          refine HN.out.c1.mono ?_
          rintro e w4 ⟨rfl, hb4⟩
          have hal4 := (Below.refl w4.heap.size w4).alloc (Nat.le_refl _) (.cells #[.int .i64 m'.t, .int .i64 m'.r, .int .i64 m'.f, .int .i64 m'.h] 25)
          have HN4 := Lib.hid ((HN.out.next hb4).next hal4)
          have HR4 := Lib.hid (heap_alloc_new w4 (.cells #[.int .i64 m'.t, .int .i64 m'.r, .int .i64 m'.f, .int .i64 m'.h] 25))
          clear hal4 hb4
          go_wp2_with fail
          refine HN4.out.c2.mono ?_
          rintro e w5 ⟨rfl, hb5⟩
          have hal5 := (Below.refl w5.heap.size w5).alloc (Nat.le_refl _) (.cells #[.int .i64 m.t, .int .i64 m.r, .int .i64 m.f, .int .i64 m.h] 25)
          have HN5 := Lib.hid ((HN4.out.next hb5).next hal5)
          have HR4' := Lib.hid (go_row (go_row HR4.out hb5) hal5)
          have HR5 := Lib.hid (heap_alloc_new w5 (.cells #[.int .i64 m.t, .int .i64 m.r, .int .i64 m.f, .int .i64 m.h] 25))
          clear hal5 hb5 HR4
          go_wp2_with fail
          refine HN5.out.c3.mono ?_
          rintro e w6 ⟨rfl, hb6⟩
          have hal6 := (Below.refl w6.heap.size w6).alloc (Nat.le_refl _) (.cells #[.int .i64 m'.t, .int .i64 m'.r, .int .i64 m'.f, .int .i64 m'.h] 25)
          have HN6 := Lib.hid ((HN5.out.next hb6).next hal6)
          have HR4 := Lib.hid (go_row (go_row HR4'.out hb6) hal6)
          have HR5' := Lib.hid (go_row (go_row HR5.out hb6) hal6)
          have HR6 := Lib.hid (heap_alloc_new w6 (.cells #[.int .i64 m'.t, .int .i64 m'.r, .int .i64 m'.f, .int .i64 m'.h] 25))
          clear hal6 hb6 HR4' HR5
          go_wp2_with fail
          refine HN6.out.c4.mono ?_
          rintro e w7 ⟨rfl, hb7⟩
          have HN7 := Lib.hid (HN6.out.next hb7)
          have hq := HN7.out
          have hR4 := go_row HR4.out hb7
          have hR5 := go_row HR5'.out hb7
          have hR6 := go_row HR6.out hb7
          have hal7 := (Below.refl w7.heap.size w7).alloc (Nat.le_refl _) (.cells #[.int .i64 0, .int .i64 0, .int .i64 0, .int .i64 0] 25)
          have hbf := (hq.next hal7).below
          have HK := Lib.hid (And.intro hbf (mknown_any _ (HT.out.1.below HT.out.2 hbf) (Nat.le_trans HT.out.2 hbf.size)))
          have lra := (Array.getElem?_eq_some_iff.1 hq.rS).1
          have ra0 := cell_of_row w7 _ 0 _ _ _ hq.rS
          have ra1 := cell_of_row w7 _ 1 _ _ _ hq.rS
          have ra2 := cell_of_row w7 _ 2 _ _ _ hq.rS
          have ra3 := cell_of_row w7 _ 3 _ _ _ hq.rS
          simp only [mrow, List.getElem?_toArray, List.getElem?_cons_zero, List.getElem?_cons_succ] at ra0 ra1 ra2 ra3
          have lrb := (Array.getElem?_eq_some_iff.1 hq.rS1).1
          have rb0 := cell_of_row w7 _ 0 _ _ _ hq.rS1
          have rb1 := cell_of_row w7 _ 1 _ _ _ hq.rS1
          have rb2 := cell_of_row w7 _ 2 _ _ _ hq.rS1
          have rb3 := cell_of_row w7 _ 3 _ _ _ hq.rS1
          simp only [mrow, List.getElem?_toArray, List.getElem?_cons_zero, List.getElem?_cons_succ] at rb0 rb1 rb2 rb3
          have lrc := (Array.getElem?_eq_some_iff.1 hq.rW).1
          have rc0 := cell_of_row w7 _ 0 _ _ _ hq.rW
          have rc1 := cell_of_row w7 _ 1 _ _ _ hq.rW
          have rc2 := cell_of_row w7 _ 2 _ _ _ hq.rW
          have rc3 := cell_of_row w7 _ 3 _ _ _ hq.rW
          simp only [mrow, List.getElem?_toArray, List.getElem?_cons_zero, List.getElem?_cons_succ] at rc0 rc1 rc2 rc3
          have lrd := (Array.getElem?_eq_some_iff.1 hR4).1
          have rd0 := cell_of_row w7 _ 0 _ _ _ hR4
          have rd1 := cell_of_row w7 _ 1 _ _ _ hR4
          have rd2 := cell_of_row w7 _ 2 _ _ _ hR4
          have rd3 := cell_of_row w7 _ 3 _ _ _ hR4
          simp only [List.getElem?_toArray, List.getElem?_cons_zero, List.getElem?_cons_succ] at rd0 rd1 rd2 rd3
          have lre := (Array.getElem?_eq_some_iff.1 hR5).1
          have re0 := cell_of_row w7 _ 0 _ _ _ hR5
          have re1 := cell_of_row w7 _ 1 _ _ _ hR5
          have re2 := cell_of_row w7 _ 2 _ _ _ hR5
          have re3 := cell_of_row w7 _ 3 _ _ _ hR5
          simp only [List.getElem?_toArray, List.getElem?_cons_zero, List.getElem?_cons_succ] at re0 re1 re2 re3
          have lrf := (Array.getElem?_eq_some_iff.1 hR6).1
          have rf0 := cell_of_row w7 _ 0 _ _ _ hR6
          have rf1 := cell_of_row w7 _ 1 _ _ _ hR6
          have rf2 := cell_of_row w7 _ 2 _ _ _ hR6
          have rf3 := cell_of_row w7 _ 3 _ _ _ hR6
          simp only [List.getElem?_toArray, List.getElem?_cons_zero, List.getElem?_cons_succ] at rf0 rf1 rf2 rf3
          clear hq hR4 hR5 hR6 hal7 hbf hb7 HN HN4 HN5 HN6 HN7 HR4 HR5' HR6
          go_wp2_with (go_at_call 8; refine HK.out.2.mono ?_; rintro e w8 ⟨rfl, hb8⟩; have HB8 := Lib.hid hb8; clear hb8)
          go_ret
          exact ⟨rfl, go_on HK.out.1 HB8.out⟩
        · have HN := Lib.hid (show NwS w w.heap.size w3.heap.size w3.heap.size m m' m a1 a2 c1 c2 (w3.alloc (.cells #[.int .i64 m.t, .int .i64 m.r, .int .i64 m.f, .int .i64 m.h] 25)) from
            have hal := (Below.refl w3.heap.size w3).alloc (Nat.le_refl _) (.cells #[.int .i64 m.t, .int .i64 m.r, .int .i64 m.f, .int .i64 m.h] 25)
            have q := HX4.out
            ⟨HT.out.1, HT.out.2, hok, hok', q.2.2.2.2.2.1, q.2.2.2.2.2.2, by rw [if_neg (by omega)], go_on q.2.2.2.2.1 hal, go_row q.1 hal, go_row q.2.1 hal, heap_alloc_new _ _, q.2.2.1.below hal, q.2.2.2.1.below hal, ⟨hnx, hlx⟩, ⟨hny, hly⟩, hal.size⟩)
          clear HX4 hok hok' hnx hlx hny hly
          go_wp2_with (go_at_call 16; refine (where_any _ _).mono ?_; rintro e w' ⟨rfl, rfl⟩)
          clear hlt tokw hlS hlS1 rc0 frc0 rc1 frc1 rc2 frc2 rc3 frc3 rd0 frd0 rd1 frd1 rd2 frd2 rd3 frd3
          refine HN.out.c1.mono ?_
          rintro e w4 ⟨rfl, hb4⟩
          have hal4 := (Below.refl w4.heap.size w4).alloc (Nat.le_refl _) (.cells #[.int .i64 m.t, .int .i64 m.r, .int .i64 m.f, .int .i64 m.h] 25)
          have HN4 := Lib.hid ((HN.out.next hb4).next hal4)
          have HR4 := Lib.hid (heap_alloc_new w4 (.cells #[.int .i64 m.t, .int .i64 m.r, .int .i64 m.f, .int .i64 m.h] 25))
          clear hal4 hb4
          go_wp2_with fail
          refine HN4.out.c2.mono ?_
          rintro e w5 ⟨rfl, hb5⟩
          have hal5 := (Below.refl w5.heap.size w5).alloc (Nat.le_refl _) (.cells #[.int .i64 m.t, .int .i64 m.r, .int .i64 m.f, .int .i64 m.h] 25)
          have HN5 := Lib.hid ((HN4.out.next hb5).next hal5)
          have HR4' := Lib.hid (go_row (go_row HR4.out hb5) hal5)
          have HR5 := Lib.hid (heap_alloc_new w5 (.cells #[.int .i64 m.t, .int .i64 m.r, .int .i64 m.f, .int .i64 m.h] 25))
          clear hal5 hb5 HR4
          go_wp2_with fail
          refine HN5.out.c3.mono ?_
          rintro e w6 ⟨rfl, hb6⟩
          have hal6 := (Below.refl w6.heap.size w6).alloc (Nat.le_refl _) (.cells #[.int .i64 m'.t, .int .i64 m'.r, .int .i64 m'.f, .int .i64 m'.h] 25)
          have HN6 := Lib.hid ((HN5.out.next hb6).next hal6)
          have HR4 := Lib.hid (go_row (go_row HR4'.out hb6) hal6)
          have HR5' := Lib.hid (go_row (go_row HR5.out hb6) hal6)
          have HR6 := Lib.hid (heap_alloc_new w6 (.cells #[.int .i64 m'.t, .int .i64 m'.r, .int .i64 m'.f, .int .i64 m'.h] 25))
          clear hal6 hb6 HR4' HR5
          go_wp2_with fail
          refine HN6.out.c4.mono ?_
          rintro e w7 ⟨rfl, hb7⟩
          have HN7 := Lib.hid (HN6.out.next hb7)
          have hq := HN7.out
          have hR4 := go_row HR4.out hb7
          have hR5 := go_row HR5'.out hb7
          have hR6 := go_row HR6.out hb7
          have hal7 := (Below.refl w7.heap.size w7).alloc (Nat.le_refl _) (.cells #[.int .i64 0, .int .i64 0, .int .i64 0, .int .i64 0] 25)
          have hbf := (hq.next hal7).below
          have HK := Lib.hid (And.intro hbf (mknown_any _ (HT.out.1.below HT.out.2 hbf) (Nat.le_trans HT.out.2 hbf.size)))
          have lra := (Array.getElem?_eq_some_iff.1 hq.rS).1
          have ra0 := cell_of_row w7 _ 0 _ _ _ hq.rS
          have ra1 := cell_of_row w7 _ 1 _ _ _ hq.rS
          have ra2 := cell_of_row w7 _ 2 _ _ _ hq.rS
          have ra3 := cell_of_row w7 _ 3 _ _ _ hq.rS
          simp only [mrow, List.getElem?_toArray, List.getElem?_cons_zero, List.getElem?_cons_succ] at ra0 ra1 ra2 ra3
          have lrb := (Array.getElem?_eq_some_iff.1 hq.rS1).1
          have rb0 := cell_of_row w7 _ 0 _ _ _ hq.rS1
          have rb1 := cell_of_row w7 _ 1 _ _ _ hq.rS1
          have rb2 := cell_of_row w7 _ 2 _ _ _ hq.rS1
          have rb3 := cell_of_row w7 _ 3 _ _ _ hq.rS1
          simp only [mrow, List.getElem?_toArray, List.getElem?_cons_zero, List.getElem?_cons_succ] at rb0 rb1 rb2 rb3
          have lrc := (Array.getElem?_eq_some_iff.1 hq.rW).1
          have rc0 := cell_of_row w7 _ 0 _ _ _ hq.rW
          have rc1 := cell_of_row w7 _ 1 _ _ _ hq.rW
          have rc2 := cell_of_row w7 _ 2 _ _ _ hq.rW
          have rc3 := cell_of_row w7 _ 3 _ _ _ hq.rW
          simp only [mrow, List.getElem?_toArray, List.getElem?_cons_zero, List.getElem?_cons_succ] at rc0 rc1 rc2 rc3
          have lrd := (Array.getElem?_eq_some_iff.1 hR4).1
          have rd0 := cell_of_row w7 _ 0 _ _ _ hR4
          have rd1 := cell_of_row w7 _ 1 _ _ _ hR4
          have rd2 := cell_of_row w7 _ 2 _ _ _ hR4
          have rd3 := cell_of_row w7 _ 3 _ _ _ hR4
          simp only [List.getElem?_toArray, List.getElem?_cons_zero, List.getElem?_cons_succ] at rd0 rd1 rd2 rd3
          have lre := (Array.getElem?_eq_some_iff.1 hR5).1
          have re0 := cell_of_row w7 _ 0 _ _ _ hR5
          have re1 := cell_of_row w7 _ 1 _ _ _ hR5
          have re2 := cell_of_row w7 _ 2 _ _ _ hR5
          have re3 := cell_of_row w7 _ 3 _ _ _ hR5
          simp only [List.getElem?_toArray, List.getElem?_cons_zero, List.getElem?_cons_succ] at re0 re1 re2 re3
          have lrf := (Array.getElem?_eq_some_iff.1 hR6).1
          have rf0 := cell_of_row w7 _ 0 _ _ _ hR6
          have rf1 := cell_of_row w7 _ 1 _ _ _ hR6
          have rf2 := cell_of_row w7 _ 2 _ _ _ hR6
          have rf3 := cell_of_row w7 _ 3 _ _ _ hR6
          simp only [List.getElem?_toArray, List.getElem?_cons_zero, List.getElem?_cons_succ] at rf0 rf1 rf2 rf3
          clear hq hR4 hR5 hR6 hal7 hbf hb7 HN HN4 HN5 HN6 HN7 HR4 HR5' HR6
          go_wp2_with (go_at_call 8; refine HK.out.2.mono ?_; rintro e w8 ⟨rfl, hb8⟩; have HB8 := Lib.hid hb8; clear hb8)
          go_ret
          exact ⟨rfl, go_on HK.out.1 HB8.out⟩
      · have hod : m.t % 2 = 1 := by omega
        have hev2 : m'.t % 2 = 0 := by omega
        have tokw : (whereI (m.t : Int) == 1) = true := by rw [hwm, hod]; rfl
        have g1 := set4_grown w3 w.heap.size (.int .i64 m'.t) (.int .i64 m'.r) (.int .i64 m'.f) (.int .i64 m'.h)
        have h1 := set4_heap (.int .i64 m'.t) (.int .i64 m'.r) (.int .i64 m'.f) (.int .i64 m'.h) hR0
        have hR1b := (g1.block (w.heap.size + 1) hlS1 (fun e => by have := Option.some.inj e; omega)).trans hR1
        have g2 := set4_grown ((((w3.setCell ⟨w.heap.size, 0, none⟩ (.int .i64 m'.t)).setCell ⟨w.heap.size, 1, none⟩ (.int .i64 m'.r)).setCell ⟨w.heap.size, 2, none⟩ (.int .i64 m'.f)).setCell ⟨w.heap.size, 3, none⟩ (.int .i64 m'.h)) (w.heap.size + 1) (.int .i64 m.t) (.int .i64 m.r) (.int .i64 m.f) (.int .i64 m.h)
        have h2 := set4_heap (.int .i64 m.t) (.int .i64 m.r) (.int .i64 m.f) (.int .i64 m.h) hR1b
        have h1b := (g2.block w.heap.size (Nat.lt_of_lt_of_le hlS g1.size) (fun e => by have := Option.some.inj e; omega)).trans h1
        have far1 : ∀ b off s, a1 = some ⟨b, off, s⟩ → w.heap.size + 1 < b := fun b off s e => by
          obtain ⟨q1, q2, q3, -, -, -, -, q4⟩ := hOx.form
          cases q3
          have := q4 b off s e
          omega
        have far2 : ∀ b off s, a2 = some ⟨b, off, s⟩ → w.heap.size + 1 < b := fun b off s e => by
          obtain ⟨q1, q2, q3, -, -, -, -, q4⟩ := hOy.form
          cases q3
          have := q4 b off s e
          omega
        have hmx2 := (hmx.aside (Nat.le_refl _) g1 (fun b off s e => by have := far1 b off s e; omega)).aside g1.size g2 far1
        have hmy2 := (hmy.aside (Nat.le_refl _) g1 (fun b off s e => by have := far2 b off s e; omega)).aside g1.size g2 far2
        have hbx := (hb3.grown g1 hb3.size (fun q e => by cases e; exact Nat.le_refl _)).grown g2 (Nat.le_trans hb3.size g1.size) (fun q e => by cases e; exact Nat.le_succ _)
        have HX4 := Lib.hid (And.intro h1b (And.intro h2 (And.intro hmx2 (And.intro hmy2 (And.intro hbx (And.intro hod (And.intro hev2 (Nat.le_trans g1.size g2.size))))))))
        clear hbb hR0 hR1 hOx hOy hmx hmy hwm hpar HX2 hs1 hs2 hB hb3 hev hod hev2 g1 g2 h1 h2 hR1b h1b far1 far2 hmx2 hmy2 hbx
        by_cases hlt : (m'.t : Int) < (m.t : Int)
        · have HN := Lib.hid (show NwS w w.heap.size w3.heap.size w3.heap.size m' m m a2 a1 c2 c1 (((((((((w3.setCell ⟨w.heap.size, 0, none⟩ (.int .i64 m'.t)).setCell ⟨w.heap.size, 1, none⟩ (.int .i64 m'.r)).setCell ⟨w.heap.size, 2, none⟩ (.int .i64 m'.f)).setCell ⟨w.heap.size, 3, none⟩ (.int .i64 m'.h)).setCell ⟨w.heap.size + 1, 0, none⟩ (.int .i64 m.t)).setCell ⟨w.heap.size + 1, 1, none⟩ (.int .i64 m.r)).setCell ⟨w.heap.size + 1, 2, none⟩ (.int .i64 m.f)).setCell ⟨w.heap.size + 1, 3, none⟩ (.int .i64 m.h)).alloc (.cells #[.int .i64 m.t, .int .i64 m.r, .int .i64 m.f, .int .i64 m.h] 25)) from
            have q := HX4.out
            have hal := (Below.refl ((((((((w3.setCell ⟨w.heap.size, 0, none⟩ (.int .i64 m'.t)).setCell ⟨w.heap.size, 1, none⟩ (.int .i64 m'.r)).setCell ⟨w.heap.size, 2, none⟩ (.int .i64 m'.f)).setCell ⟨w.heap.size, 3, none⟩ (.int .i64 m'.h)).setCell ⟨w.heap.size + 1, 0, none⟩ (.int .i64 m.t)).setCell ⟨w.heap.size + 1, 1, none⟩ (.int .i64 m.r)).setCell ⟨w.heap.size + 1, 2, none⟩ (.int .i64 m.f)).setCell ⟨w.heap.size + 1, 3, none⟩ (.int .i64 m.h)).heap.size ((((((((w3.setCell ⟨w.heap.size, 0, none⟩ (.int .i64 m'.t)).setCell ⟨w.heap.size, 1, none⟩ (.int .i64 m'.r)).setCell ⟨w.heap.size, 2, none⟩ (.int .i64 m'.f)).setCell ⟨w.heap.size, 3, none⟩ (.int .i64 m'.h)).setCell ⟨w.heap.size + 1, 0, none⟩ (.int .i64 m.t)).setCell ⟨w.heap.size + 1, 1, none⟩ (.int .i64 m.r)).setCell ⟨w.heap.size + 1, 2, none⟩ (.int .i64 m.f)).setCell ⟨w.heap.size + 1, 3, none⟩ (.int .i64 m.h))).alloc (Nat.le_refl _) (.cells #[.int .i64 m.t, .int .i64 m.r, .int .i64 m.f, .int .i64 m.h] 25)
            have hnew : (((((((((w3.setCell ⟨w.heap.size, 0, none⟩ (.int .i64 m'.t)).setCell ⟨w.heap.size, 1, none⟩ (.int .i64 m'.r)).setCell ⟨w.heap.size, 2, none⟩ (.int .i64 m'.f)).setCell ⟨w.heap.size, 3, none⟩ (.int .i64 m'.h)).setCell ⟨w.heap.size + 1, 0, none⟩ (.int .i64 m.t)).setCell ⟨w.heap.size + 1, 1, none⟩ (.int .i64 m.r)).setCell ⟨w.heap.size + 1, 2, none⟩ (.int .i64 m.f)).setCell ⟨w.heap.size + 1, 3, none⟩ (.int .i64 m.h)).alloc (.cells (mrow m) 25)).heap[w3.heap.size]? = some (.cells (mrow m) 25 (0, 0)) := by
              have h := heap_alloc_new ((((((((w3.setCell ⟨w.heap.size, 0, none⟩ (.int .i64 m'.t)).setCell ⟨w.heap.size, 1, none⟩ (.int .i64 m'.r)).setCell ⟨w.heap.size, 2, none⟩ (.int .i64 m'.f)).setCell ⟨w.heap.size, 3, none⟩ (.int .i64 m'.h)).setCell ⟨w.heap.size + 1, 0, none⟩ (.int .i64 m.t)).setCell ⟨w.heap.size + 1, 1, none⟩ (.int .i64 m.r)).setCell ⟨w.heap.size + 1, 2, none⟩ (.int .i64 m.f)).setCell ⟨w.heap.size + 1, 3, none⟩ (.int .i64 m.h)) (.cells (mrow m) 25)
              rwa [show ((((((((w3.setCell ⟨w.heap.size, 0, none⟩ (.int .i64 m'.t)).setCell ⟨w.heap.size, 1, none⟩ (.int .i64 m'.r)).setCell ⟨w.heap.size, 2, none⟩ (.int .i64 m'.f)).setCell ⟨w.heap.size, 3, none⟩ (.int .i64 m'.h)).setCell ⟨w.heap.size + 1, 0, none⟩ (.int .i64 m.t)).setCell ⟨w.heap.size + 1, 1, none⟩ (.int .i64 m.r)).setCell ⟨w.heap.size + 1, 2, none⟩ (.int .i64 m.f)).setCell ⟨w.heap.size + 1, 3, none⟩ (.int .i64 m.h)).heap.size = w3.heap.size by simp] at h
            ⟨HT.out.1, HT.out.2, hok', hok, q.2.2.2.2.2.2.1, q.2.2.2.2.2.1, by rw [if_pos (by omega)], go_on q.2.2.2.2.1 hal, go_row q.1 hal, go_row q.2.1 hal, hnew, q.2.2.2.1.below (hal.mono q.2.2.2.2.2.2.2), q.2.2.1.below (hal.mono q.2.2.2.2.2.2.2), ⟨hny, hly⟩, ⟨hnx, hlx⟩, Nat.le_trans q.2.2.2.2.2.2.2 hal.size⟩)
          clear HX4 hok hok' hnx hlx hny hly
          go_wp2_with (go_at_call 16; refine (where_any _ _).mono ?_; rintro e w' ⟨rfl, rfl⟩)
          clear hlt tokw hlS hlS1 rc0 frc0 rc1 frc1 rc2 frc2 rc3 frc3 rd0 frd0 rd1 frd1 rd2 frd2 rd3 frd3
          refine HN.out.c1.mono ?_
          rintro e w4 ⟨rfl, hb4⟩
          have hal4 := (Below.refl w4.heap.size w4).alloc (Nat.le_refl _) (.cells #[.int .i64 m.t, .int .i64 m.r, .int .i64 m.f, .int .i64 m.h] 25)
          have HN4 := Lib.hid ((HN.out.next hb4).next hal4)
          have HR4 := Lib.hid (heap_alloc_new w4 (.cells #[.int .i64 m.t, .int .i64 m.r, .int .i64 m.f, .int .i64 m.h] 25))
          clear hal4 hb4
          go_wp2_with fail
          refine HN4.out.c2.mono ?_
          rintro e w5 ⟨rfl, hb5⟩
          have hal5 := (Below.refl w5.heap.size w5).alloc (Nat.le_refl _) (.cells #[.int .i64 m'.t, .int .i64 m'.r, .int .i64 m'.f, .int .i64 m'.h] 25)
          have HN5 := Lib.hid ((HN4.out.next hb5).next hal5)
          have HR4' := Lib.hid (go_row (go_row HR4.out hb5) hal5)
          have HR5 := Lib.hid (heap_alloc_new w5 (.cells #[.int .i64 m'.t, .int .i64 m'.r, .int .i64 m'.f, .int .i64 m'.h] 25))
          clear hal5 hb5 HR4
          go_wp2_with fail
          refine HN5.out.c3.mono ?_
          rintro e w6 ⟨rfl, hb6⟩
          have hal6 := (Below.refl w6.heap.size w6).alloc (Nat.le_refl _) (.cells #[.int .i64 m.t, .int .i64 m.r, .int .i64 m.f, .int .i64 m.h] 25)
          have HN6 := Lib.hid ((HN5.out.next hb6).next hal6)
          have HR4 := Lib.hid (go_row (go_row HR4'.out hb6) hal6)
          have HR5' := Lib.hid (go_row (go_row HR5.out hb6) hal6)
          have HR6 := Lib.hid (heap_alloc_new w6 (.cells #[.int .i64 m.t, .int .i64 m.r, .int .i64 m.f, .int .i64 m.h] 25))
          clear hal6 hb6 HR4' HR5
          go_wp2_with fail
          refine HN6.out.c4.mono ?_
          rintro e w7 ⟨rfl, hb7⟩
          have HN7 := Lib.hid (HN6.out.next hb7)
          have hq := HN7.out
          have hR4 := go_row HR4.out hb7
          have hR5 := go_row HR5'.out hb7
          have hR6 := go_row HR6.out hb7
          have hal7 := (Below.refl w7.heap.size w7).alloc (Nat.le_refl _) (.cells #[.int .i64 0, .int .i64 0, .int .i64 0, .int .i64 0] 25)
          have hbf := (hq.next hal7).below
          have HK := Lib.hid (And.intro hbf (mknown_any _ (HT.out.1.below HT.out.2 hbf) (Nat.le_trans HT.out.2 hbf.size)))
          have lra := (Array.getElem?_eq_some_iff.1 hq.rS).1
          have ra0 := cell_of_row w7 _ 0 _ _ _ hq.rS
          have ra1 := cell_of_row w7 _ 1 _ _ _ hq.rS
          have ra2 := cell_of_row w7 _ 2 _ _ _ hq.rS
          have ra3 := cell_of_row w7 _ 3 _ _ _ hq.rS
          simp only [mrow, List.getElem?_toArray, List.getElem?_cons_zero, List.getElem?_cons_succ] at ra0 ra1 ra2 ra3
          have lrb := (Array.getElem?_eq_some_iff.1 hq.rS1).1
          have rb0 := cell_of_row w7 _ 0 _ _ _ hq.rS1
          have rb1 := cell_of_row w7 _ 1 _ _ _ hq.rS1
          have rb2 := cell_of_row w7 _ 2 _ _ _ hq.rS1
          have rb3 := cell_of_row w7 _ 3 _ _ _ hq.rS1
          simp only [mrow, List.getElem?_toArray, List.getElem?_cons_zero, List.getElem?_cons_succ] at rb0 rb1 rb2 rb3
          have lrc := (Array.getElem?_eq_some_iff.1 hq.rW).1
          have rc0 := cell_of_row w7 _ 0 _ _ _ hq.rW
          have rc1 := cell_of_row w7 _ 1 _ _ _ hq.rW
          have rc2 := cell_of_row w7 _ 2 _ _ _ hq.rW
          have rc3 := cell_of_row w7 _ 3 _ _ _ hq.rW
          simp only [mrow, List.getElem?_toArray, List.getElem?_cons_zero, List.getElem?_cons_succ] at rc0 rc1 rc2 rc3
          have lrd := (Array.getElem?_eq_some_iff.1 hR4).1
          have rd0 := cell_of_row w7 _ 0 _ _ _ hR4
          have rd1 := cell_of_row w7 _ 1 _ _ _ hR4
          have rd2 := cell_of_row w7 _ 2 _ _ _ hR4
          have rd3 := cell_of_row w7 _ 3 _ _ _ hR4
          simp only [List.getElem?_toArray, List.getElem?_cons_zero, List.getElem?_cons_succ] at rd0 rd1 rd2 rd3
          have lre := (Array.getElem?_eq_some_iff.1 hR5).1
          have re0 := cell_of_row w7 _ 0 _ _ _ hR5
          have re1 := cell_of_row w7 _ 1 _ _ _ hR5
          have re2 := cell_of_row w7 _ 2 _ _ _ hR5
          have re3 := cell_of_row w7 _ 3 _ _ _ hR5
          simp only [List.getElem?_toArray, List.getElem?_cons_zero, List.getElem?_cons_succ] at re0 re1 re2 re3
          have lrf := (Array.getElem?_eq_some_iff.1 hR6).1
          have rf0 := cell_of_row w7 _ 0 _ _ _ hR6
          have rf1 := cell_of_row w7 _ 1 _ _ _ hR6
          have rf2 := cell_of_row w7 _ 2 _ _ _ hR6
          have rf3 := cell_of_row w7 _ 3 _ _ _ hR6
          simp only [List.getElem?_toArray, List.getElem?_cons_zero, List.getElem?_cons_succ] at rf0 rf1 rf2 rf3
          clear hq hR4 hR5 hR6 hal7 hbf hb7 HN HN4 HN5 HN6 HN7 HR4 HR5' HR6
          go_wp2_with (go_at_call 8; refine HK.out.2.mono ?_; rintro e w8 ⟨rfl, hb8⟩; have HB8 := Lib.hid hb8; clear hb8)
          go_ret
          exact ⟨rfl, go_on HK.out.1 HB8.out⟩
        · have HN := Lib.hid (show NwS w w.heap.size w3.heap.size w3.heap.size m' m m' a2 a1 c2 c1 (((((((((w3.setCell ⟨w.heap.size, 0, none⟩ (.int .i64 m'.t)).setCell ⟨w.heap.size, 1, none⟩ (.int .i64 m'.r)).setCell ⟨w.heap.size, 2, none⟩ (.int .i64 m'.f)).setCell ⟨w.heap.size, 3, none⟩ (.int .i64 m'.h)).setCell ⟨w.heap.size + 1, 0, none⟩ (.int .i64 m.t)).setCell ⟨w.heap.size + 1, 1, none⟩ (.int .i64 m.r)).setCell ⟨w.heap.size + 1, 2, none⟩ (.int .i64 m.f)).setCell ⟨w.heap.size + 1, 3, none⟩ (.int .i64 m.h)).alloc (.cells #[.int .i64 m'.t, .int .i64 m'.r, .int .i64 m'.f, .int .i64 m'.h] 25)) from
            have q := HX4.out
            have hal := (Below.refl ((((((((w3.setCell ⟨w.heap.size, 0, none⟩ (.int .i64 m'.t)).setCell ⟨w.heap.size, 1, none⟩ (.int .i64 m'.r)).setCell ⟨w.heap.size, 2, none⟩ (.int .i64 m'.f)).setCell ⟨w.heap.size, 3, none⟩ (.int .i64 m'.h)).setCell ⟨w.heap.size + 1, 0, none⟩ (.int .i64 m.t)).setCell ⟨w.heap.size + 1, 1, none⟩ (.int .i64 m.r)).setCell ⟨w.heap.size + 1, 2, none⟩ (.int .i64 m.f)).setCell ⟨w.heap.size + 1, 3, none⟩ (.int .i64 m.h)).heap.size ((((((((w3.setCell ⟨w.heap.size, 0, none⟩ (.int .i64 m'.t)).setCell ⟨w.heap.size, 1, none⟩ (.int .i64 m'.r)).setCell ⟨w.heap.size, 2, none⟩ (.int .i64 m'.f)).setCell ⟨w.heap.size, 3, none⟩ (.int .i64 m'.h)).setCell ⟨w.heap.size + 1, 0, none⟩ (.int .i64 m.t)).setCell ⟨w.heap.size + 1, 1, none⟩ (.int .i64 m.r)).setCell ⟨w.heap.size + 1, 2, none⟩ (.int .i64 m.f)).setCell ⟨w.heap.size + 1, 3, none⟩ (.int .i64 m.h))).alloc (Nat.le_refl _) (.cells #[.int .i64 m'.t, .int .i64 m'.r, .int .i64 m'.f, .int .i64 m'.h] 25)
            have hnew : (((((((((w3.setCell ⟨w.heap.size, 0, none⟩ (.int .i64 m'.t)).setCell ⟨w.heap.size, 1, none⟩ (.int .i64 m'.r)).setCell ⟨w.heap.size, 2, none⟩ (.int .i64 m'.f)).setCell ⟨w.heap.size, 3, none⟩ (.int .i64 m'.h)).setCell ⟨w.heap.size + 1, 0, none⟩ (.int .i64 m.t)).setCell ⟨w.heap.size + 1, 1, none⟩ (.int .i64 m.r)).setCell ⟨w.heap.size + 1, 2, none⟩ (.int .i64 m.f)).setCell ⟨w.heap.size + 1, 3, none⟩ (.int .i64 m.h)).alloc (.cells (mrow m') 25)).heap[w3.heap.size]? = some (.cells (mrow m') 25 (0, 0)) := by
              have h := heap_alloc_new ((((((((w3.setCell ⟨w.heap.size, 0, none⟩ (.int .i64 m'.t)).setCell ⟨w.heap.size, 1, none⟩ (.int .i64 m'.r)).setCell ⟨w.heap.size, 2, none⟩ (.int .i64 m'.f)).setCell ⟨w.heap.size, 3, none⟩ (.int .i64 m'.h)).setCell ⟨w.heap.size + 1, 0, none⟩ (.int .i64 m.t)).setCell ⟨w.heap.size + 1, 1, none⟩ (.int .i64 m.r)).setCell ⟨w.heap.size + 1, 2, none⟩ (.int .i64 m.f)).setCell ⟨w.heap.size + 1, 3, none⟩ (.int .i64 m.h)) (.cells (mrow m') 25)
              rwa [show ((((((((w3.setCell ⟨w.heap.size, 0, none⟩ (.int .i64 m'.t)).setCell ⟨w.heap.size, 1, none⟩ (.int .i64 m'.r)).setCell ⟨w.heap.size, 2, none⟩ (.int .i64 m'.f)).setCell ⟨w.heap.size, 3, none⟩ (.int .i64 m'.h)).setCell ⟨w.heap.size + 1, 0, none⟩ (.int .i64 m.t)).setCell ⟨w.heap.size + 1, 1, none⟩ (.int .i64 m.r)).setCell ⟨w.heap.size + 1, 2, none⟩ (.int .i64 m.f)).setCell ⟨w.heap.size + 1, 3, none⟩ (.int .i64 m.h)).heap.size = w3.heap.size by simp] at h
            ⟨HT.out.1, HT.out.2, hok', hok, q.2.2.2.2.2.2.1, q.2.2.2.2.2.1, by rw [if_neg (by omega)], go_on q.2.2.2.2.1 hal, go_row q.1 hal, go_row q.2.1 hal, hnew, q.2.2.2.1.below (hal.mono q.2.2.2.2.2.2.2), q.2.2.1.below (hal.mono q.2.2.2.2.2.2.2), ⟨hny, hly⟩, ⟨hnx, hlx⟩, Nat.le_trans q.2.2.2.2.2.2.2 hal.size⟩)
          clear HX4 hok hok' hnx hlx hny hly
          go_wp2_with (go_at_call 16; refine (where_any _ _).mono ?_; rintro e w' ⟨rfl, rfl⟩)
          clear hlt tokw hlS hlS1 rc0 frc0 rc1 frc1 rc2 frc2 rc3 frc3 rd0 frd0 rd1 frd1 rd2 frd2 rd3 frd3
          refine HN.out.c1.mono ?_
          rintro e w4 ⟨rfl, hb4⟩
          have hal4 := (Below.refl w4.heap.size w4).alloc (Nat.le_refl _) (.cells #[.int .i64 m'.t, .int .i64 m'.r, .int .i64 m'.f, .int .i64 m'.h] 25)
          have HN4 := Lib.hid ((HN.out.next hb4).next hal4)
          have HR4 := Lib.hid (heap_alloc_new w4 (.cells #[.int .i64 m'.t, .int .i64 m'.r, .int .i64 m'.f, .int .i64 m'.h] 25))
          clear hal4 hb4
          go_wp2_with fail
          refine HN4.out.c2.mono ?_
          rintro e w5 ⟨rfl, hb5⟩
          have hal5 := (Below.refl w5.heap.size w5).alloc (Nat.le_refl _) (.cells #[.int .i64 m'.t, .int .i64 m'.r, .int .i64 m'.f, .int .i64 m'.h] 25)
          have HN5 := Lib.hid ((HN4.out.next hb5).next hal5)
          have HR4' := Lib.hid (go_row (go_row HR4.out hb5) hal5)
          have HR5 := Lib.hid (heap_alloc_new w5 (.cells #[.int .i64 m'.t, .int .i64 m'.r, .int .i64 m'.f, .int .i64 m'.h] 25))
          clear hal5 hb5 HR4
          go_wp2_with fail
          refine HN5.out.c3.mono ?_
          rintro e w6 ⟨rfl, hb6⟩
          have hal6 := (Below.refl w6.heap.size w6).alloc (Nat.le_refl _) (.cells #[.int .i64 m.t, .int .i64 m.r, .int .i64 m.f, .int .i64 m.h] 25)
          have HN6 := Lib.hid ((HN5.out.next hb6).next hal6)
          have HR4 := Lib.hid (go_row (go_row HR4'.out hb6) hal6)
          have HR5' := Lib.hid (go_row (go_row HR5.out hb6) hal6)
          have HR6 := Lib.hid (heap_alloc_new w6 (.cells #[.int .i64 m.t, .int .i64 m.r, .int .i64 m.f, .int .i64 m.h] 25))
          clear hal6 hb6 HR4' HR5
          go_wp2_with fail
          refine HN6.out.c4.mono ?_
          rintro e w7 ⟨rfl, hb7⟩
          have HN7 := Lib.hid (HN6.out.next hb7)
          have hq := HN7.out
          have hR4 := go_row HR4.out hb7
          have hR5 := go_row HR5'.out hb7
          have hR6 := go_row HR6.out hb7
          have hal7 := (Below.refl w7.heap.size w7).alloc (Nat.le_refl _) (.cells #[.int .i64 0, .int .i64 0, .int .i64 0, .int .i64 0] 25)
          have hbf := (hq.next hal7).below
          have HK := Lib.hid (And.intro hbf (mknown_any _ (HT.out.1.below HT.out.2 hbf) (Nat.le_trans HT.out.2 hbf.size)))
          have lra := (Array.getElem?_eq_some_iff.1 hq.rS).1
          have ra0 := cell_of_row w7 _ 0 _ _ _ hq.rS
          have ra1 := cell_of_row w7 _ 1 _ _ _ hq.rS
          have ra2 := cell_of_row w7 _ 2 _ _ _ hq.rS
          have ra3 := cell_of_row w7 _ 3 _ _ _ hq.rS
          simp only [mrow, List.getElem?_toArray, List.getElem?_cons_zero, List.getElem?_cons_succ] at ra0 ra1 ra2 ra3
          have lrb := (Array.getElem?_eq_some_iff.1 hq.rS1).1
          have rb0 := cell_of_row w7 _ 0 _ _ _ hq.rS1
          have rb1 := cell_of_row w7 _ 1 _ _ _ hq.rS1
          have rb2 := cell_of_row w7 _ 2 _ _ _ hq.rS1
          have rb3 := cell_of_row w7 _ 3 _ _ _ hq.rS1
          simp only [mrow, List.getElem?_toArray, List.getElem?_cons_zero, List.getElem?_cons_succ] at rb0 rb1 rb2 rb3
          have lrc := (Array.getElem?_eq_some_iff.1 hq.rW).1
          have rc0 := cell_of_row w7 _ 0 _ _ _ hq.rW
          have rc1 := cell_of_row w7 _ 1 _ _ _ hq.rW
          have rc2 := cell_of_row w7 _ 2 _ _ _ hq.rW
          have rc3 := cell_of_row w7 _ 3 _ _ _ hq.rW
          simp only [mrow, List.getElem?_toArray, List.getElem?_cons_zero, List.getElem?_cons_succ] at rc0 rc1 rc2 rc3
          have lrd := (Array.getElem?_eq_some_iff.1 hR4).1
          have rd0 := cell_of_row w7 _ 0 _ _ _ hR4
          have rd1 := cell_of_row w7 _ 1 _ _ _ hR4
          have rd2 := cell_of_row w7 _ 2 _ _ _ hR4
          have rd3 := cell_of_row w7 _ 3 _ _ _ hR4
          simp only [List.getElem?_toArray, List.getElem?_cons_zero, List.getElem?_cons_succ] at rd0 rd1 rd2 rd3
          have lre := (Array.getElem?_eq_some_iff.1 hR5).1
          have re0 := cell_of_row w7 _ 0 _ _ _ hR5
          have re1 := cell_of_row w7 _ 1 _ _ _ hR5
          have re2 := cell_of_row w7 _ 2 _ _ _ hR5
          have re3 := cell_of_row w7 _ 3 _ _ _ hR5
          simp only [List.getElem?_toArray, List.getElem?_cons_zero, List.getElem?_cons_succ] at re0 re1 re2 re3
          have lrf := (Array.getElem?_eq_some_iff.1 hR6).1
          have rf0 := cell_of_row w7 _ 0 _ _ _ hR6
          have rf1 := cell_of_row w7 _ 1 _ _ _ hR6
          have rf2 := cell_of_row w7 _ 2 _ _ _ hR6
          have rf3 := cell_of_row w7 _ 3 _ _ _ hR6
          simp only [List.getElem?_toArray, List.getElem?_cons_zero, List.getElem?_cons_succ] at rf0 rf1 rf2 rf3
          clear hq hR4 hR5 hR6 hal7 hbf hb7 HN HN4 HN5 HN6 HN7 HR4 HR5' HR6
          go_wp2_with (go_at_call 8; refine HK.out.2.mono ?_; rintro e w8 ⟨rfl, hb8⟩; have HB8 := Lib.hid hb8; clear hb8)
          go_ret
          exact ⟨rfl, go_on HK.out.1 HB8.out⟩
end Go.Proofs.YtaijjlaheoamaaaDoor

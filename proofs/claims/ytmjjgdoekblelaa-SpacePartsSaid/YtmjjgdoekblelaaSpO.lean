/- Layer 7: Same. -/
import Derived.Test.YtmjjgdoekblelaaSpN
import Derived.Test.YtmjjgdoekblelaaROp
namespace Go.Proofs.Ytmjjgdoekblelaa
open Go.RowKit Go.Maps

theorem equal_is {w : World} {b1 b2 : Nat} {f g : Pl} (h1 : IntMap Try.prog 2 w b1 (plV f)) (h2 : IntMap Try.prog 2 w b2 (plV g)) (r : Bool) (hr : r = true ↔ f = g) :
    Calls Try.prog 35 #[.map (some b1), .map (some b2)] w fun e w' => e = .returned (.bool r) ∧ Below w.heap.size w w' := by
  refine (equal_pl h1 h2).mono ?_
  rintro e w' ⟨q, rfl, hq, hb⟩
  have : q = r := by
    cases q <;> cases r
    · rfl
    · exact absurd (hq.2 (hr.1 rfl)) (by decide)
    · exact absurd (hr.2 (hq.1 rfl)) (by decide)
    · rfl
  subst this
  exact ⟨rfl, hb⟩
def Spc.like (s t : Spc) : Prop := s.most = t.most ∧ s.high = t.high ∧ s.lhigh = t.lhigh ∧ s.now = t.now ∧ s.last = t.last
def SamePost (w : World) (s t : Spc) (e : Ending) (w' : World) : Prop := ∃ r : Bool, e = .returned (.bool r) ∧ (r = true ↔ s.like t) ∧ Below w.heap.size w w'
theorem SamePost.no {w w' : World} {s t : Spc} (h : ¬ s.like t) (hb : Below w.heap.size w w') : SamePost w s t (.returned (.bool false)) w' := ⟨false, rfl, ⟨(fun q => by cases q), fun q => absurd q h⟩, hb⟩
def SamA (A ap B bp : Nat) (r1 : Bool) : Nat → Value → World → Prop
  | 0, v, _ => v = ptr A
  | 1, v, _ => v = ptr A
  | 2, v, _ => v = .pointer (some ⟨A, 4, none⟩)
  | 3, v, _ => v = .map (some ap)
  | 4, v, _ => v = ptr B
  | 5, v, _ => v = ptr B
  | 6, v, _ => v = .pointer (some ⟨B, 4, none⟩)
  | 7, v, _ => v = .map (some bp)
  | 8, v, _ => v = .bool r1
  | 9, v, _ => v = .bool r1
  | 21, v, _ => v = .bool false
  | 22, v, _ => v = .bool false
  | _, _, _ => True
theorem SamA.below {A ap B bp : Nat} {r1 : Bool} {w w' : World} (_hb : Below w.heap.size w w') : ∀ j u, SamA A ap B bp r1 j u w → SamA A ap B bp r1 j u w' := by
  intro j u h
  unfold SamA at h ⊢
  split at h
  · exact h
  · exact h
  · exact h
  · exact h
  · exact h
  · exact h
  · exact h
  · exact h
  · exact h
  · exact h
  · exact h
  · exact h
  · exact trivial
def SamB (A al ap B bl bp : Nat) (r1 r2 : Bool) : Nat → Value → World → Prop
  | 0, v, _ => v = ptr A
  | 1, v, _ => v = ptr A
  | 2, v, _ => v = .pointer (some ⟨A, 4, none⟩)
  | 3, v, _ => v = .map (some ap)
  | 4, v, _ => v = ptr B
  | 5, v, _ => v = ptr B
  | 6, v, _ => v = .pointer (some ⟨B, 4, none⟩)
  | 7, v, _ => v = .map (some bp)
  | 8, v, _ => v = .bool r1
  | 9, v, _ => v = .bool r1
  | 10, v, _ => v = ptr A
  | 11, v, _ => v = ptr A
  | 12, v, _ => v = ptr A
  | 13, v, _ => v = .pointer (some ⟨A, 1, none⟩)
  | 14, v, _ => v = .map (some al)
  | 15, v, _ => v = ptr B
  | 16, v, _ => v = ptr B
  | 17, v, _ => v = ptr B
  | 18, v, _ => v = .pointer (some ⟨B, 1, none⟩)
  | 19, v, _ => v = .map (some bl)
  | 20, v, _ => v = .bool r2
  | 21, v, _ => v = .bool r2
  | 22, v, _ => v = .bool r2
  | _, _, _ => True
theorem SamB.below {A al ap B bl bp : Nat} {r1 r2 : Bool} {w w' : World} (_hb : Below w.heap.size w w') : ∀ j u, SamB A al ap B bl bp r1 r2 j u w → SamB A al ap B bl bp r1 r2 j u w' := by
  intro j u h
  unfold SamB at h ⊢
  split at h
  · exact h
  · exact h
  · exact h
  · exact h
  · exact h
  · exact h
  · exact h
  · exact h
  · exact h
  · exact h
  · exact h
  · exact h
  · exact h
  · exact h
  · exact h
  · exact h
  · exact h
  · exact h
  · exact h
  · exact h
  · exact h
  · exact h
  · exact h
  · exact trivial
theorem load_cell {P : Program} {T : TypeId} {w : World} {a : Addr} {v : Value} (hT : (isAgg T).run P w = .ok false w) (h : w.cell? a = some v) : (Instr.loadAt T (.pointer (some a))).run P w = .ok v w := by
  simp [Instr.loadAt, Instr.sureAddr, loadVar, hT, go_sem, Result.andThen, h]
set_option maxRecDepth 100000 in
set_option maxHeartbeats 8000000 in
theorem same_any {w : World} {A al ap B bl bp : Nat} {s t : Spc} (hA : SpAt w A al ap s) (hB : SpAt w B bl bp t) :
    Calls Try.prog 19 #[ptr A, ptr B] w fun e w' => SamePost w s t e w' := by
  have ht1 := there_yes hA.row hA.pos
  have ht2 := there_yes hB.row hB.pos
  obtain ⟨a0, a1, a2, a3, a4, -⟩ := hA.row.all
  obtain ⟨b0, b1, b2, b3, b4, -⟩ := hB.row.all
  have k1 : True := trivial
  have HA := Lib.hid hA
  have HB := Lib.hid hB
  clear hA hB
  by_cases hm : ¬ (s.most = t.most)
  · have q : ((s.most : Int) != (t.most : Int)) = true := by simp; omega
    have HN := Lib.hid (fun h : s.like t => hm h.1)
    clear hm
    go_enter Try.func19, Try.ntmps19
    go_wp2_with (first
      | (have _t := k1; go_at_call 25; refine ht1.mono ?_; rintro e w' ⟨rfl, rfl⟩; clear k1 _t; have k2 : True := trivial)
      | (have _t := k2; go_at_call 25; refine ht2.mono ?_; rintro e w' ⟨rfl, rfl⟩; clear k2 _t))
    go_quiet (fail)
    go_wp2
    go_ret
    exact SamePost.no HN.out ⟨rfl, rfl, rfl, Nat.le_refl _, fun _ _ => rfl⟩
  replace hm := Decidable.of_not_not hm
  rw [hm] at a2
  by_cases hh : ¬ (s.high = t.high)
  · have q : ((s.high : Int) != (t.high : Int)) = true := by simp; omega
    have HN := Lib.hid (fun h : s.like t => hh h.2.1)
    clear hh
    go_enter Try.func19, Try.ntmps19
    go_wp2_with (first
      | (have _t := k1; go_at_call 25; refine ht1.mono ?_; rintro e w' ⟨rfl, rfl⟩; clear k1 _t; have k2 : True := trivial)
      | (have _t := k2; go_at_call 25; refine ht2.mono ?_; rintro e w' ⟨rfl, rfl⟩; clear k2 _t))
    go_quiet (fail)
    go_wp2
    go_ret
    exact SamePost.no HN.out ⟨rfl, rfl, rfl, Nat.le_refl _, fun _ _ => rfl⟩
  replace hh := Decidable.of_not_not hh
  rw [hh] at a3
  by_cases hl : ¬ (s.lhigh = t.lhigh)
  · have q : ((s.lhigh : Int) != (t.lhigh : Int)) = true := by simp; omega
    have HN := Lib.hid (fun h : s.like t => hl h.2.2.1)
    clear hl
    go_enter Try.func19, Try.ntmps19
    go_wp2_with (first
      | (have _t := k1; go_at_call 25; refine ht1.mono ?_; rintro e w' ⟨rfl, rfl⟩; clear k1 _t; have k2 : True := trivial)
      | (have _t := k2; go_at_call 25; refine ht2.mono ?_; rintro e w' ⟨rfl, rfl⟩; clear k2 _t))
    go_quiet (fail)
    go_wp2
    go_ret
    exact SamePost.no HN.out ⟨rfl, rfl, rfl, Nat.le_refl _, fun _ _ => rfl⟩
  replace hl := Decidable.of_not_not hl
  rw [hl] at a0
  have HE := Lib.hid (And.intro hm (And.intro hh hl))
  clear hm hh hl
  by_cases hn : s.now = t.now
  · obtain ⟨r2, hr2⟩ : ∃ r2 : Bool, r2 = true ↔ s.last = t.last := by
      by_cases hlst : s.last = t.last
      · exact ⟨true, by simp [hlst]⟩
      · exact ⟨false, by simp [hlst]⟩
    have HN := Lib.hid (show r2 = true ↔ s.like t from ⟨fun h => ⟨HE.out.1, HE.out.2.1, HE.out.2.2, hn, hr2.1 h⟩, fun h => hr2.2 h.2.2.2.2⟩)
    go_enter Try.func19, Try.ntmps19
    go_wp2_with (first
      | (have _t := k1; go_at_call 25; refine ht1.mono ?_; rintro e w' ⟨rfl, rfl⟩; clear k1 _t; have k2 : True := trivial)
      | (have _t := k2; go_at_call 25; refine ht2.mono ?_; rintro e w' ⟨rfl, rfl⟩; clear k2 _t))
    go_quiet (fail)
    go_wp2
    generalize hq5 : World.drewN w _ = w5
    have hb5 : Below w.heap.size w w5 := by rw [← hq5]; exact ⟨rfl, rfl, rfl, Nat.le_refl _, fun _ _ => rfl⟩
    have hs5 : w5.heap.size = w.heap.size := by rw [← hq5]; rfl
    have hA5 := HA.out.below hb5
    have hB5 := HB.out.below hb5
    obtain ⟨-, e1, -, -, e4, -⟩ := hA5.row.all
    obtain ⟨-, f1, -, -, f4, -⟩ := hB5.row.all
    have HLT := Lib.hid (And.intro hA5.row.lt hB5.row.lt)
    clear hq5 a0 a1 a2 a3 a4 b0 b1 b2 b3 b4
    have HC1 := Lib.hid (fun W (hb : Below w5.heap.size w5 W) => equal_is (hA5.now.below hb hA5.now.lt) (hB5.now.below hb hB5.now.lt) true ⟨fun _ => hn, fun _ => rfl⟩)
    have HC2 := Lib.hid (fun W (hb : Below w5.heap.size w5 W) => equal_is (hA5.last.below hb hA5.last.lt) (hB5.last.below hb hB5.last.lt) r2 hr2)
    clear hn hr2 hA5 hB5
    refine wp_region_m (fun _ W => Below w5.heap.size w5 W) (SamB A al ap B bl bp true r2) (by kernel_rfl) (by kernel_rfl) (by kernel_rfl) (by kernel_rfl) (Below.refl _ _).drew ?step ?fin
    case step =>
      intro i o ho listed a w' hI hn' hpre
      have hJ := hI.inv
      have hi : i < 23 := (Array.getElem?_eq_some_iff.1 ho).1
      match i, hi with
      | 0, _ =>
        cases ho
        exact wpOp_move rfl rfl (.inl rfl) (hI.kept (t := 0) (by kernel_rfl)) ⟨_, rfl, hJ, fun _ => rfl, fun _ _ _ h => h⟩
      | 1, _ =>
        cases ho
        exact wpOp_nilCheck rfl rfl rfl (hI.slot 0 51 rfl (hpre ⟨0, .data⟩ (by simp) rfl) rfl) ⟨_, rfl, hJ, fun _ => rfl, fun _ _ _ h => h⟩
      | 2, _ =>
        cases ho
        exact wpOp_field rfl rfl rfl (hI.slot 1 52 rfl (hpre ⟨1, .data⟩ (by simp) rfl) rfl) (fieldS_3 _ w') ⟨_, rfl, hJ, fun _ => rfl, fun _ _ _ h => h⟩
      | 3, _ =>
        cases ho
        exact wpOp_load rfl rfl rfl (hI.slot 2 53 rfl (hpre ⟨2, .data⟩ (by simp) rfl) rfl) (load_cell (Try.isAgg55 w') ((hJ.cell (p := ⟨A, 4, none⟩) HLT.out.1).trans e4)) ⟨_, rfl, hJ, fun _ => rfl, fun _ _ _ h => h⟩
      | 4, _ =>
        cases ho
        exact wpOp_move rfl rfl (.inl rfl) (hI.kept (t := 1) (by kernel_rfl)) ⟨_, rfl, hJ, fun _ => rfl, fun _ _ _ h => h⟩
      | 5, _ =>
        cases ho
        exact wpOp_nilCheck rfl rfl rfl (hI.slot 4 55 rfl (hpre ⟨4, .data⟩ (by simp) rfl) rfl) ⟨_, rfl, hJ, fun _ => rfl, fun _ _ _ h => h⟩
      | 6, _ =>
        cases ho
        exact wpOp_field rfl rfl rfl (hI.slot 5 56 rfl (hpre ⟨5, .data⟩ (by simp) rfl) rfl) (fieldS_3 _ w') ⟨_, rfl, hJ, fun _ => rfl, fun _ _ _ h => h⟩
      | 7, _ =>
        cases ho
        exact wpOp_load rfl rfl rfl (hI.slot 6 57 rfl (hpre ⟨6, .data⟩ (by simp) rfl) rfl) (load_cell (Try.isAgg55 w') ((hJ.cell (p := ⟨B, 4, none⟩) HLT.out.2).trans f4)) ⟨_, rfl, hJ, fun _ => rfl, fun _ _ _ h => h⟩
      | 8, _ =>
        cases ho
        refine wpOp_callFn rfl rfl rfl (vs := #[.map (some ap), .map (some bp)]) (by simp only [List.map_toArray, List.map_cons, List.map_nil, (show a.eval (.tmp 54) = .map (some ap) from (hI.slot 3 54 rfl (hpre ⟨3, .data⟩ (by simp) rfl) rfl)), (show a.eval (.tmp 58) = .map (some bp) from (hI.slot 7 58 rfl (hpre ⟨7, .data⟩ (by simp) rfl) rfl))]) (fun _ _ => by kernel_rfl) ((HC1.out w' hJ).mono ?_)
        rintro e w2 ⟨rfl, hb2⟩
        exact ⟨_, rfl, _, rfl, hJ.trans (hb2.mono hJ.size), fun _ => rfl, fun j u _ h => SamB.below hb2 j u h⟩
      | 9, _ =>
        cases ho
        exact wpOp_move rfl rfl (.inl rfl) (hI.slot 8 59 rfl (hpre ⟨8, .data⟩ (by simp) rfl) rfl) ⟨_, rfl, hJ, fun _ => rfl, fun _ _ _ h => h⟩
      | 10, _ =>
        cases ho
        exact wpOp_move rfl (wantedOf (j := 9) (b := true) rfl rfl rfl (by rw [hI.len]; show _ < 73; decide) (hI.slot 9 60 rfl (hpre ⟨9, .guard⟩ (by simp) rfl) rfl)) (.inl rfl) (hI.kept (t := 0) (by kernel_rfl)) ⟨_, rfl, hJ, fun _ => rfl, fun _ _ _ h => h⟩
      | 11, _ =>
        cases ho
        exact wpOp_nilCheck rfl (wantedOf (j := 9) (b := true) rfl rfl rfl (by rw [hI.len]; show _ < 73; decide) (hI.slot 9 60 rfl (hpre ⟨9, .guard⟩ (by simp) rfl) rfl)) rfl (hI.slot 10 61 rfl (hpre ⟨10, .data⟩ (by simp) rfl) rfl) ⟨_, rfl, hJ, fun _ => rfl, fun _ _ _ h => h⟩
      | 12, _ =>
        cases ho
        exact wpOp_field rfl (wantedOf (j := 9) (b := true) rfl rfl rfl (by rw [hI.len]; show _ < 73; decide) (hI.slot 9 60 rfl (hpre ⟨9, .guard⟩ (by simp) rfl) rfl)) rfl (hI.slot 11 62 rfl (hpre ⟨11, .data⟩ (by simp) rfl) rfl) (fieldS_0 _ w') ⟨_, rfl, hJ, fun _ => rfl, fun _ _ _ h => h⟩
      | 13, _ =>
        cases ho
        exact wpOp_field rfl (wantedOf (j := 9) (b := true) rfl rfl rfl (by rw [hI.len]; show _ < 73; decide) (hI.slot 9 60 rfl (hpre ⟨9, .guard⟩ (by simp) rfl) rfl)) rfl (hI.slot 12 63 rfl (hpre ⟨12, .data⟩ (by simp) rfl) rfl) (fieldW_1 _ w') ⟨_, rfl, hJ, fun _ => rfl, fun _ _ _ h => h⟩
      | 14, _ =>
        cases ho
        exact wpOp_load rfl (wantedOf (j := 9) (b := true) rfl rfl rfl (by rw [hI.len]; show _ < 73; decide) (hI.slot 9 60 rfl (hpre ⟨9, .guard⟩ (by simp) rfl) rfl)) rfl (hI.slot 13 64 rfl (hpre ⟨13, .data⟩ (by simp) rfl) rfl) (load_cell (Try.isAgg55 w') ((hJ.cell (p := ⟨A, 1, none⟩) HLT.out.1).trans e1)) ⟨_, rfl, hJ, fun _ => rfl, fun _ _ _ h => h⟩
      | 15, _ =>
        cases ho
        exact wpOp_move rfl (wantedOf (j := 9) (b := true) rfl rfl rfl (by rw [hI.len]; show _ < 73; decide) (hI.slot 9 60 rfl (hpre ⟨9, .guard⟩ (by simp) rfl) rfl)) (.inl rfl) (hI.kept (t := 1) (by kernel_rfl)) ⟨_, rfl, hJ, fun _ => rfl, fun _ _ _ h => h⟩
      | 16, _ =>
        cases ho
        exact wpOp_nilCheck rfl (wantedOf (j := 9) (b := true) rfl rfl rfl (by rw [hI.len]; show _ < 73; decide) (hI.slot 9 60 rfl (hpre ⟨9, .guard⟩ (by simp) rfl) rfl)) rfl (hI.slot 15 66 rfl (hpre ⟨15, .data⟩ (by simp) rfl) rfl) ⟨_, rfl, hJ, fun _ => rfl, fun _ _ _ h => h⟩
      | 17, _ =>
        cases ho
        exact wpOp_field rfl (wantedOf (j := 9) (b := true) rfl rfl rfl (by rw [hI.len]; show _ < 73; decide) (hI.slot 9 60 rfl (hpre ⟨9, .guard⟩ (by simp) rfl) rfl)) rfl (hI.slot 16 67 rfl (hpre ⟨16, .data⟩ (by simp) rfl) rfl) (fieldS_0 _ w') ⟨_, rfl, hJ, fun _ => rfl, fun _ _ _ h => h⟩
      | 18, _ =>
        cases ho
        exact wpOp_field rfl (wantedOf (j := 9) (b := true) rfl rfl rfl (by rw [hI.len]; show _ < 73; decide) (hI.slot 9 60 rfl (hpre ⟨9, .guard⟩ (by simp) rfl) rfl)) rfl (hI.slot 17 68 rfl (hpre ⟨17, .data⟩ (by simp) rfl) rfl) (fieldW_1 _ w') ⟨_, rfl, hJ, fun _ => rfl, fun _ _ _ h => h⟩
      | 19, _ =>
        cases ho
        exact wpOp_load rfl (wantedOf (j := 9) (b := true) rfl rfl rfl (by rw [hI.len]; show _ < 73; decide) (hI.slot 9 60 rfl (hpre ⟨9, .guard⟩ (by simp) rfl) rfl)) rfl (hI.slot 18 69 rfl (hpre ⟨18, .data⟩ (by simp) rfl) rfl) (load_cell (Try.isAgg55 w') ((hJ.cell (p := ⟨B, 1, none⟩) HLT.out.2).trans f1)) ⟨_, rfl, hJ, fun _ => rfl, fun _ _ _ h => h⟩
      | 20, _ =>
        cases ho
        refine wpOp_callFn rfl (wantedOf (j := 9) (b := true) rfl rfl rfl (by rw [hI.len]; show _ < 73; decide) (hI.slot 9 60 rfl (hpre ⟨9, .chain⟩ (by simp) rfl) rfl)) rfl (vs := #[.map (some al), .map (some bl)]) (by simp only [List.map_toArray, List.map_cons, List.map_nil, (show a.eval (.tmp 65) = .map (some al) from (hI.slot 14 65 rfl (hpre ⟨14, .data⟩ (by simp) rfl) rfl)), (show a.eval (.tmp 70) = .map (some bl) from (hI.slot 19 70 rfl (hpre ⟨19, .data⟩ (by simp) rfl) rfl))]) (fun _ _ => by kernel_rfl) ((HC2.out w' hJ).mono ?_)
        rintro e w2 ⟨rfl, hb2⟩
        exact ⟨_, rfl, _, rfl, hJ.trans (hb2.mono hJ.size), fun _ => rfl, fun j u _ h => SamB.below hb2 j u h⟩
      | 21, _ =>
        cases ho
        exact wpOp_pick2   rfl rfl rfl (hI.slot 9 60 rfl (hpre ⟨9, .data⟩ (by simp) rfl) rfl) (fun _ => (hI.slot 20 71 rfl (hpre ⟨20, .data⟩ (by simp) rfl) rfl)) (fun _ => rfl) ⟨_, rfl, hJ, fun _ => rfl, fun _ _ _ h => h⟩
      | 22, _ =>
        cases ho
        exact wpOp_move rfl rfl (.inr rfl) (hI.slot 21 72 rfl (hpre ⟨21, .data⟩ (by simp) rfl) rfl) ⟨_, rfl, hJ, fun _ => rfl, fun _ _ _ h => h⟩
    case fin =>
      intro listed a w' hI hall
      go_wp2
      have hW := hI.inv
      have e4' : a.tmps.getD 4 undef = .bool r2 := hI.slot 22 4 rfl (hall 22 (by decide)) rfl
      refine bodyPost_ret (results_tmp rfl _ _ _) hI.defers ?_
      rw [e4']
      exact ⟨r2, rfl, HN.out, hb5.trans (hW.mono (by omega))⟩
  · have HN := Lib.hid (fun h : s.like t => hn h.2.2.2.1)
    go_enter Try.func19, Try.ntmps19
    go_wp2_with (first
      | (have _t := k1; go_at_call 25; refine ht1.mono ?_; rintro e w' ⟨rfl, rfl⟩; clear k1 _t; have k2 : True := trivial)
      | (have _t := k2; go_at_call 25; refine ht2.mono ?_; rintro e w' ⟨rfl, rfl⟩; clear k2 _t))
    go_quiet (fail)
    go_wp2
    generalize hq5 : World.drewN w _ = w5
    have hb5 : Below w.heap.size w w5 := by rw [← hq5]; exact ⟨rfl, rfl, rfl, Nat.le_refl _, fun _ _ => rfl⟩
    have hs5 : w5.heap.size = w.heap.size := by rw [← hq5]; rfl
    have hA5 := HA.out.below hb5
    have hB5 := HB.out.below hb5
    obtain ⟨-, e1, -, -, e4, -⟩ := hA5.row.all
    obtain ⟨-, f1, -, -, f4, -⟩ := hB5.row.all
    have HLT := Lib.hid (And.intro hA5.row.lt hB5.row.lt)
    clear hq5 a0 a1 a2 a3 a4 b0 b1 b2 b3 b4
    have HC1 := Lib.hid (fun W (hb : Below w5.heap.size w5 W) => equal_is (hA5.now.below hb hA5.now.lt) (hB5.now.below hb hB5.now.lt) false (by simpa using hn))
    have HC2 : Hid True := Lib.hid trivial
    clear hn hA5 hB5
    refine wp_region_m (fun _ W => Below w5.heap.size w5 W) (SamA A ap B bp false) (by kernel_rfl) (by kernel_rfl) (by kernel_rfl) (by kernel_rfl) (Below.refl _ _).drew ?step ?fin
    case step =>
      intro i o ho listed a w' hI hn' hpre
      have hJ := hI.inv
      have hi : i < 23 := (Array.getElem?_eq_some_iff.1 ho).1
      match i, hi with
      | 0, _ =>
        cases ho
        exact wpOp_move rfl rfl (.inl rfl) (hI.kept (t := 0) (by kernel_rfl)) ⟨_, rfl, hJ, fun _ => rfl, fun _ _ _ h => h⟩
      | 1, _ =>
        cases ho
        exact wpOp_nilCheck rfl rfl rfl (hI.slot 0 51 rfl (hpre ⟨0, .data⟩ (by simp) rfl) rfl) ⟨_, rfl, hJ, fun _ => rfl, fun _ _ _ h => h⟩
      | 2, _ =>
        cases ho
        exact wpOp_field rfl rfl rfl (hI.slot 1 52 rfl (hpre ⟨1, .data⟩ (by simp) rfl) rfl) (fieldS_3 _ w') ⟨_, rfl, hJ, fun _ => rfl, fun _ _ _ h => h⟩
      | 3, _ =>
        cases ho
        exact wpOp_load rfl rfl rfl (hI.slot 2 53 rfl (hpre ⟨2, .data⟩ (by simp) rfl) rfl) (load_cell (Try.isAgg55 w') ((hJ.cell (p := ⟨A, 4, none⟩) HLT.out.1).trans e4)) ⟨_, rfl, hJ, fun _ => rfl, fun _ _ _ h => h⟩
      | 4, _ =>
        cases ho
        exact wpOp_move rfl rfl (.inl rfl) (hI.kept (t := 1) (by kernel_rfl)) ⟨_, rfl, hJ, fun _ => rfl, fun _ _ _ h => h⟩
      | 5, _ =>
        cases ho
        exact wpOp_nilCheck rfl rfl rfl (hI.slot 4 55 rfl (hpre ⟨4, .data⟩ (by simp) rfl) rfl) ⟨_, rfl, hJ, fun _ => rfl, fun _ _ _ h => h⟩
      | 6, _ =>
        cases ho
        exact wpOp_field rfl rfl rfl (hI.slot 5 56 rfl (hpre ⟨5, .data⟩ (by simp) rfl) rfl) (fieldS_3 _ w') ⟨_, rfl, hJ, fun _ => rfl, fun _ _ _ h => h⟩
      | 7, _ =>
        cases ho
        exact wpOp_load rfl rfl rfl (hI.slot 6 57 rfl (hpre ⟨6, .data⟩ (by simp) rfl) rfl) (load_cell (Try.isAgg55 w') ((hJ.cell (p := ⟨B, 4, none⟩) HLT.out.2).trans f4)) ⟨_, rfl, hJ, fun _ => rfl, fun _ _ _ h => h⟩
      | 8, _ =>
        cases ho
        refine wpOp_callFn rfl rfl rfl (vs := #[.map (some ap), .map (some bp)]) (by simp only [List.map_toArray, List.map_cons, List.map_nil, (show a.eval (.tmp 54) = .map (some ap) from (hI.slot 3 54 rfl (hpre ⟨3, .data⟩ (by simp) rfl) rfl)), (show a.eval (.tmp 58) = .map (some bp) from (hI.slot 7 58 rfl (hpre ⟨7, .data⟩ (by simp) rfl) rfl))]) (fun _ _ => by kernel_rfl) ((HC1.out w' hJ).mono ?_)
        rintro e w2 ⟨rfl, hb2⟩
        exact ⟨_, rfl, _, rfl, hJ.trans (hb2.mono hJ.size), fun _ => rfl, fun j u _ h => SamA.below hb2 j u h⟩
      | 9, _ =>
        cases ho
        exact wpOp_move rfl rfl (.inl rfl) (hI.slot 8 59 rfl (hpre ⟨8, .data⟩ (by simp) rfl) rfl) ⟨_, rfl, hJ, fun _ => rfl, fun _ _ _ h => h⟩
      | 10, _ =>
        cases ho
        exact wpOp_off rfl (wantedOff (j := 9) (b := true) (b' := false) rfl rfl rfl (by rw [hI.len]; show _ < 73; decide) (hI.slot 9 60 rfl (hpre ⟨9, .guard⟩ (by simp) rfl) rfl) (by decide)) ⟨_, rfl, hJ, fun _ => trivial, fun _ _ _ h => h⟩
      | 11, _ =>
        cases ho
        exact wpOp_off rfl (wantedOff (j := 9) (b := true) (b' := false) rfl rfl rfl (by rw [hI.len]; show _ < 73; decide) (hI.slot 9 60 rfl (hpre ⟨9, .guard⟩ (by simp) rfl) rfl) (by decide)) ⟨_, rfl, hJ, fun _ => trivial, fun _ _ _ h => h⟩
      | 12, _ =>
        cases ho
        exact wpOp_off rfl (wantedOff (j := 9) (b := true) (b' := false) rfl rfl rfl (by rw [hI.len]; show _ < 73; decide) (hI.slot 9 60 rfl (hpre ⟨9, .guard⟩ (by simp) rfl) rfl) (by decide)) ⟨_, rfl, hJ, fun _ => trivial, fun _ _ _ h => h⟩
      | 13, _ =>
        cases ho
        exact wpOp_off rfl (wantedOff (j := 9) (b := true) (b' := false) rfl rfl rfl (by rw [hI.len]; show _ < 73; decide) (hI.slot 9 60 rfl (hpre ⟨9, .guard⟩ (by simp) rfl) rfl) (by decide)) ⟨_, rfl, hJ, fun _ => trivial, fun _ _ _ h => h⟩
      | 14, _ =>
        cases ho
        exact wpOp_off rfl (wantedOff (j := 9) (b := true) (b' := false) rfl rfl rfl (by rw [hI.len]; show _ < 73; decide) (hI.slot 9 60 rfl (hpre ⟨9, .guard⟩ (by simp) rfl) rfl) (by decide)) ⟨_, rfl, hJ, fun _ => trivial, fun _ _ _ h => h⟩
      | 15, _ =>
        cases ho
        exact wpOp_off rfl (wantedOff (j := 9) (b := true) (b' := false) rfl rfl rfl (by rw [hI.len]; show _ < 73; decide) (hI.slot 9 60 rfl (hpre ⟨9, .guard⟩ (by simp) rfl) rfl) (by decide)) ⟨_, rfl, hJ, fun _ => trivial, fun _ _ _ h => h⟩
      | 16, _ =>
        cases ho
        exact wpOp_off rfl (wantedOff (j := 9) (b := true) (b' := false) rfl rfl rfl (by rw [hI.len]; show _ < 73; decide) (hI.slot 9 60 rfl (hpre ⟨9, .guard⟩ (by simp) rfl) rfl) (by decide)) ⟨_, rfl, hJ, fun _ => trivial, fun _ _ _ h => h⟩
      | 17, _ =>
        cases ho
        exact wpOp_off rfl (wantedOff (j := 9) (b := true) (b' := false) rfl rfl rfl (by rw [hI.len]; show _ < 73; decide) (hI.slot 9 60 rfl (hpre ⟨9, .guard⟩ (by simp) rfl) rfl) (by decide)) ⟨_, rfl, hJ, fun _ => trivial, fun _ _ _ h => h⟩
      | 18, _ =>
        cases ho
        exact wpOp_off rfl (wantedOff (j := 9) (b := true) (b' := false) rfl rfl rfl (by rw [hI.len]; show _ < 73; decide) (hI.slot 9 60 rfl (hpre ⟨9, .guard⟩ (by simp) rfl) rfl) (by decide)) ⟨_, rfl, hJ, fun _ => trivial, fun _ _ _ h => h⟩
      | 19, _ =>
        cases ho
        exact wpOp_off rfl (wantedOff (j := 9) (b := true) (b' := false) rfl rfl rfl (by rw [hI.len]; show _ < 73; decide) (hI.slot 9 60 rfl (hpre ⟨9, .guard⟩ (by simp) rfl) rfl) (by decide)) ⟨_, rfl, hJ, fun _ => trivial, fun _ _ _ h => h⟩
      | 20, _ =>
        cases ho
        exact wpOp_off rfl (wantedOff (j := 9) (b := true) (b' := false) rfl rfl rfl (by rw [hI.len]; show _ < 73; decide) (hI.slot 9 60 rfl (hpre ⟨9, .chain⟩ (by simp) rfl) rfl) (by decide)) ⟨_, rfl, hJ, fun _ => trivial, fun _ _ _ h => h⟩
      | 21, _ =>
        cases ho
        exact wpOp_pick2 (v := undef)  rfl rfl rfl (hI.slot 9 60 rfl (hpre ⟨9, .data⟩ (by simp) rfl) rfl) (fun h => by cases h) (fun _ => rfl) ⟨_, rfl, hJ, fun _ => rfl, fun _ _ _ h => h⟩
      | 22, _ =>
        cases ho
        exact wpOp_move rfl rfl (.inr rfl) (hI.slot 21 72 rfl (hpre ⟨21, .data⟩ (by simp) rfl) rfl) ⟨_, rfl, hJ, fun _ => rfl, fun _ _ _ h => h⟩
    case fin =>
      intro listed a w' hI hall
      go_wp2
      have hW := hI.inv
      have e4' : a.tmps.getD 4 undef = .bool false := hI.slot 22 4 rfl (hall 22 (by decide)) rfl
      refine bodyPost_ret (results_tmp rfl _ _ _) hI.defers ?_
      rw [e4']
      exact SamePost.no HN.out (hb5.trans (hW.mono (by omega)))
end Go.Proofs.Ytmjjgdoekblelaa

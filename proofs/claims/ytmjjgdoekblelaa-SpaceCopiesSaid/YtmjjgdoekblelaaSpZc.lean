/- Layer 7: the law's same. -/
import Derived.Test.YtmjjgdoekblelaaSpZa
import Derived.Test.YtmjjgdoekblelaaSpZb
namespace Go.Proofs.Ytmjjgdoekblelaa
open Go.RowKit

theorem field32_1 (B : Nat) (w : World) : (Instr.fieldAt 40 (ptr B) 1).run Try.prog w = .ok (.pointer (some ⟨B, 1, none⟩)) w := by simp [go_sem]
theorem load_g {w : World} {A : Nat} {x0 x1 x2 : Value} {fr : Nat × Nat} (h : w.heap[A]? = some (.cells #[x0, x1, x2] 40 fr)) : (Instr.loadAt 40 (.pointer (some ⟨A, 0, none⟩))).run Try.prog w = .ok (.agg #[x0, x1, x2]) w := by
  have k0 := cell_of_row w A 0 _ _ _ h
  have k1 := cell_of_row w A 1 _ _ _ h
  have k2 := cell_of_row w A 2 _ _ _ h
  simp only [List.getElem?_toArray, List.getElem?_cons_zero, List.getElem?_cons_succ] at k0 k1 k2
  simp [Instr.loadAt, Instr.sureAddr, go_sem, Result.andThen, k0, k1, k2]
theorem eval_const (a : Act) (v : Value) : a.eval (.const v) = v := rfl
section
variable {ops : Array Oper} {Q : Exit → Act → World → Prop} {i : Nat} {o : Oper} {a : Act} {w : World} {K : Act → World → Prop}
theorem wpOp_lenI {x : Operand} {ao : Option Addr} {n c : Nat} (ho : ops[i]? = some o) (hg : Region.wanted o (yielded ops a.tmps) = true) (hop : o.op = .call { callee := .builtin .len, args := #[x], argTypes := #[38] }) (hx : a.eval x = .slice ao n c) (hK : K (a.put o.dst (.int .i64 n)) w) : wpOp Try.prog ops Q i K a w :=
  wpOp_val (v := .int .i64 n) (w' := w) ho hg (by simp only [execOp, hop, resolve, invoke, Go.builtin, List.map_toArray, List.map_cons, List.map_nil, hx, Sem.run_bind, Sem.run_pure, Result.andThen_ok]; rw [run_len_slice w 38 o.type ao n c (by rw [show Try.prog.elem 38 = 3 by kernel_rfl]; exact Try.underlying38)]; rfl) hK
end
/-- These pages, in a row that a call made. -/
def IsL (l : List Nat) (w : World) (v : Value) : Prop := ∃ b a c, v = .slice a l.length c ∧ OwnP w b (.slice a l.length c) l
theorem IsL.below {l : List Nat} {w w' : World} {v : Value} (h : IsL l w v) (hb : Below w.heap.size w w') : IsL l w' v := by
  obtain ⟨b, a, c, rfl, h⟩ := h; exact ⟨b, a, c, rfl, ownP_below h hb⟩
def IslPost (w : World) (l : List Nat) (e : Ending) (w' : World) : Prop := ∃ v, e = .returned v ∧ IsL l w' v ∧ Below w.heap.size w w'
theorem isl_of {w : World} {l : List Nat} {f : FuncId} {args : Array Value} (h : Calls Try.prog f args w fun e w' => NumsPost w l e w') : Calls Try.prog f args w fun e w' => IslPost w l e w' := by
  refine h.mono ?_
  rintro e w' ⟨v, rfl, hv, hb⟩
  obtain ⟨a, c, rfl⟩ := row_slice hv
  exact ⟨_, rfl, ⟨_, a, c, rfl, hv⟩, hb⟩
theorem isl_nums {n₀ : Nat} {w : World} {B : Nat} {s : Spc} {f : FuncId} {args : Array Value} {l : List Nat} (h : IsSp n₀ w B s) (hc : ∀ bl bp, SpAt w B bl bp s → Calls Try.prog f args w fun en w' => NumsPost w l en w') : Calls Try.prog f args w fun e w' => IslPost w l e w' := by
  obtain ⟨bl, bp, h, -⟩ := h
  exact isl_of (hc bl bp h)
theorem sameL_any {b1 b2 : Nat} {a1 a2 : Option Addr} {c1 c2 : Nat} {l : List Nat} {w : World} (h1 : OwnP w b1 (.slice a1 l.length c1) l) (h2 : OwnP w b2 (.slice a2 l.length c2) l) (hs : l.length ≤ 5000) :
    Calls Try.prog 33 #[.slice a1 l.length c1, .slice a2 l.length c2] w fun e w' => e = .returned (.bool true) ∧ Below w.heap.size w w' := by
  refine (gsame_any b1 b2 a1 a2 c1 c2 l l w h1 h2 hs hs).mono ?_
  rintro e w' ⟨rfl, hb⟩
  exact ⟨by simp, hb⟩
def SamL (B S : Nat) (g : GSp) (a1 a2 : Option Addr) (c1 c2 : Nat) : Nat → Value → World → Prop
  | 0, v, _ => v = ptr B
  | 1, v, _ => v = .int .i64 g.now.length
  | 2, v, _ => v = .pointer (some ⟨S, 1, none⟩)
  | 3, v, _ => v = .slice a1 g.now.length c1
  | 4, v, _ => v = .int .i64 g.now.length
  | 5, v, _ => v = .bool true
  | 6, v, _ => v = .bool true
  | 7, v, _ => v = ptr B
  | 8, v, w => IsL (g.of 4 4) w v
  | 9, v, _ => v = .agg #[.int .i64 g.most, .slice a1 g.now.length c1, .slice a2 g.last.length c2]
  | 10, v, w => IsL (g.of 4 4) w v
  | 11, v, _ => v = .bool true
  | 12, v, _ => v = .bool true
  | 13, v, _ => v = .bool true
  | 14, v, _ => v = ptr B
  | 15, v, w => IsL (g.of 2 2) w v
  | 16, v, _ => v = .agg #[.int .i64 g.most, .slice a1 g.now.length c1, .slice a2 g.last.length c2]
  | 17, v, w => IsL (g.of 2 2) w v
  | 18, v, _ => v = .bool true
  | 19, v, _ => v = .bool true
  | 20, v, _ => v = .bool true
  | 21, v, _ => v = ptr B
  | 22, v, w => IsL (g.of 3 3) w v
  | 23, v, _ => v = .agg #[.int .i64 g.most, .slice a1 g.now.length c1, .slice a2 g.last.length c2]
  | 24, v, w => IsL (g.of 3 3) w v
  | 25, v, _ => v = .bool true
  | 26, v, _ => v = .bool true
  | 27, v, _ => v = .bool true
  | 28, v, _ => v = ptr B
  | 29, v, w => IsL (g.of 3 4) w v
  | 30, v, _ => v = .agg #[.int .i64 g.most, .slice a1 g.now.length c1, .slice a2 g.last.length c2]
  | 31, v, w => IsL (g.of 3 4) w v
  | 32, v, _ => v = .bool true
  | 33, v, _ => v = .bool true
  | 34, v, _ => v = .bool true
  | _, _, _ => True
theorem SamL.below {B S : Nat} {g : GSp} {a1 a2 : Option Addr} {c1 c2 : Nat} {w w' : World} (hb : Below w.heap.size w w') : ∀ j u, SamL B S g a1 a2 c1 c2 j u w → SamL B S g a1 a2 c1 c2 j u w' := by
  intro j u h
  unfold SamL at h ⊢
  split at h
  · exact h
  · exact h
  · exact h
  · exact h
  · exact h
  · exact h
  · exact h
  · exact h
  · exact IsL.below h hb
  · exact h
  · exact IsL.below h hb
  · exact h
  · exact h
  · exact h
  · exact h
  · exact IsL.below h hb
  · exact h
  · exact IsL.below h hb
  · exact h
  · exact h
  · exact h
  · exact h
  · exact IsL.below h hb
  · exact h
  · exact IsL.below h hb
  · exact h
  · exact h
  · exact h
  · exact h
  · exact IsL.below h hb
  · exact h
  · exact IsL.below h hb
  · exact h
  · exact h
  · exact h
  · exact trivial
set_option maxRecDepth 100000 in
set_option maxHeartbeats 8000000 in
theorem lawsame_any {n₀ : Nat} {w : World} {B : Nat} {s : Spc} (h : IsSp n₀ w B s) (g : GSp) (a1 a2 : Option Addr) (c1 c2 : Nat) (hg : IsG w a1 c1 a2 c2 g) (ha : Agr s g) :
    Calls Try.prog 18 #[ptr B, gval g.most a1 g.now.length c1 a2 g.last.length c2] w fun e w' => e = .returned (.bool true) ∧ Below w.heap.size w w' := by
  obtain ⟨S, hS⟩ : ∃ S, w.heap.size = S := ⟨_, rfl⟩
  obtain ⟨w1, hw1⟩ : ∃ w1, w.alloc (.cells #[.int .i64 g.most, .slice a1 g.now.length c1, .slice a2 g.last.length c2] 40) = w1 := ⟨_, rfl⟩
  have hb1 : Below S w w1 := by rw [← hw1, ← hS]; exact (Below.refl _ w).alloc (Nat.le_refl _) _
  have hr1 : w1.heap[S]? = some (.cells #[.int .i64 g.most, .slice a1 g.now.length c1, .slice a2 g.last.length c2] 40 (0, 0)) := by rw [← hw1, ← hS]; exact (MapKept.heap_alloc w _).1
  have HA := Lib.hid ha
  have HS0 := Lib.hid hS
  have HW := Lib.hid hw1
  have HB1 := Lib.hid hb1
  have HR1 := Lib.hid hr1
  have HP1 := Lib.hid (h.below (by rw [hS]; exact hb1))
  have HG1 := Lib.hid (hg.below (by rw [hS]; exact hb1))
  have HH : Hid ((s.high : Int) = g.now.length) := Lib.hid (by rw [ha.len])
  have HL : Hid (∀ x y, (g.of x y).length ≤ 5000) := Lib.hid (fun x y => by have := ofUpto_len g.now x y g.now.length; have := hg.few1; unfold GSp.of; omega)
  have hfew := hg.few1
  clear h hg hS hw1 hb1 hr1 ha
  unfold gval
  go_enter Try.func18, Try.ntmps18
  go_wp2_with fail
  rw [HS0.out, HW.out]
  go_loopw [5, 6, 7, 8, 9, 10, 11, 12, 13, 14, 15, 16, 17, 18, 19] (fun x _ _ _ _ _ _ _ _ _ _ _ _ _ _ wr => ∃ z : Int, x = .int .i64 z ∧ -1 ≤ z ∧ z ≤ g.now.length + 1 ∧ Hid (Below w1.heap.size w1 wr))
    (fun x _ _ _ _ _ _ _ _ _ _ _ _ _ _ _ => ((g.now.length : Int) + 1 - intOf x).toNat)
  case atStart => exact ⟨-1, rfl, by omega, by omega, Lib.hid (Below.refl _ _)⟩
  case round =>
    obtain ⟨z, rfl, hz1, hz2, HB⟩ := hrel
    have hSl : S < w1.heap.size := (Array.getElem?_eq_some_iff.1 HR1.out).1
    have hrow := (HB.out.block S hSl).trans HR1.out
    have hC := cell_of_row wr S 1 _ _ _ hrow
    simp only [List.getElem?_toArray, List.getElem?_cons_zero, List.getElem?_cons_succ] at hC
    have HP := Lib.hid (HP1.out.below HB.out)
    have HG := Lib.hid (HG1.out.below HB.out)
    have HBX := Lib.hid hrow
    have HS := Lib.hid (show S < wr.heap.size by have := HB.out.size; omega)
    by_cases hlt : z ≤ g.now.length
    · have HPd : Hid (IsSp n₀ wr.drew B s) := Lib.hid (by obtain ⟨x, y, hx, hy⟩ := HP.out; exact ⟨x, y, hx.drew, hy⟩)
      have HGd : Hid (IsG wr.drew a1 c1 a2 c2 g) := Lib.hid ⟨HG.out.now_, HG.out.last_, HG.out.no1, HG.out.no2, HG.out.le1, HG.out.le2, HG.out.few1, HG.out.few2⟩
      have HQ : Hid (((s.is z : Nat) : Int) = g.is z) := Lib.hid (by rw [HA.out.is z])
      have HGI := Lib.hid (gis_any g a1 a2 c1 c2 wr.drew HGd.out z)
      have k0 := cell_of_row wr S 0 _ _ _ hrow
      have k2 := cell_of_row wr S 2 _ _ _ hrow
      simp only [List.getElem?_toArray, List.getElem?_cons_zero, List.getElem?_cons_succ] at k0 k2
      generalize g.is z = q at HQ HGI
      unfold gval at HGI
      clear hrow hSl
      go_wp2
      go_region_with (first
        | (go_at_call 9; refine (is_own HPd.out z q HQ.out).mono ?_; rintro e w' ⟨rfl, rfl⟩)
        | (go_at_call 32; refine HGI.out.mono ?_; rintro e w5 ⟨rfl, hb5⟩; have HB5 := Lib.hid hb5; clear hb5))
      all_goals go_wp2
      all_goals go_roundw
      all_goals try (simp [intOf]; omega; done)
      all_goals exact ⟨z + 1, by go_num, by omega, by omega, Lib.hid (HB.out.trans ((⟨HB5.out.os, HB5.out.tape, HB5.out.output, HB5.out.size, HB5.out.block⟩ : Below wr.heap.size wr w5).mono HB.out.size))⟩
    · have HC := Lib.hid hC
      clear hrow hSl hz1 hz2
      have HF0 := Lib.hid (fun W (hb : Below wr.heap.size wr W) => isl_nums (l := g.of 4 4) (HP.out.below hb) (fun _ _ h => by rw [HA.out.of [4] 4 4 (fun q => by simp only [List.contains_cons, List.contains_nil, Bool.or_false, Bool.or_self])]; exact free_any h))
      have HO0 := Lib.hid (fun W (hb : Below wr.heap.size wr W) => isl_of (gof_any g a1 a2 c1 c2 W (HG.out.below hb) 4 4))
      have HF1 := Lib.hid (fun W (hb : Below wr.heap.size wr W) => isl_nums (l := g.of 2 2) (HP.out.below hb) (fun _ _ h => by rw [HA.out.of [2] 2 2 (fun q => by simp only [List.contains_cons, List.contains_nil, Bool.or_false, Bool.or_self])]; exact new_pages h))
      have HO1 := Lib.hid (fun W (hb : Below wr.heap.size wr W) => isl_of (gof_any g a1 a2 c1 c2 W (HG.out.below hb) 2 2))
      have HF2 := Lib.hid (fun W (hb : Below wr.heap.size wr W) => isl_nums (l := g.of 3 3) (HP.out.below hb) (fun _ _ h => by rw [HA.out.of [3] 3 3 (fun q => by simp only [List.contains_cons, List.contains_nil, Bool.or_false, Bool.or_self])]; exact held_any h))
      have HO2 := Lib.hid (fun W (hb : Below wr.heap.size wr W) => isl_of (gof_any g a1 a2 c1 c2 W (HG.out.below hb) 3 3))
      have HF3 := Lib.hid (fun W (hb : Below wr.heap.size wr W) => isl_nums (l := g.of 3 4) (HP.out.below hb) (fun _ _ h => by rw [HA.out.of [4, 3] 3 4 (fun q => by simp only [List.contains_cons, List.contains_nil, Bool.or_false]; exact Bool.or_comm _ _)]; exact will_any h))
      have HO3 := Lib.hid (fun W (hb : Below wr.heap.size wr W) => isl_of (gof_any g a1 a2 c1 c2 W (HG.out.below hb) 3 4))
      go_wp2
      refine wp_region_m (fun _ W => Below wr.heap.size wr W) (SamL B S g a1 a2 c1 c2) (by kernel_rfl) (by kernel_rfl) (by kernel_rfl) (by kernel_rfl) (Below.refl _ _).drew ?step ?fin
      case step =>
        intro i o ho listed a w' hI hn' hpre
        have hJ := hI.inv
        have hi : i < 35 := (Array.getElem?_eq_some_iff.1 ho).1
        match i, hi with
        | 0, _ =>
          cases ho
          exact wpOp_move rfl rfl (.inl rfl) (hI.kept (t := 0) (by kernel_rfl)) ⟨_, rfl, hJ, fun _ => rfl, fun _ _ _ h => h⟩
        | 1, _ =>
          cases ho
          refine wpOp_callFn rfl rfl rfl (vs := #[ptr B]) (by simp only [List.map_toArray, List.map_cons, List.map_nil, (show a.eval (.tmp 20) = ptr B from (hI.slot 0 20 rfl (hpre ⟨0, .data⟩ (by simp) rfl) rfl))]) (fun _ _ => by kernel_rfl) ((high_own (HP.out.below hJ) g.now.length HH.out).mono ?_)
          rintro e w2 ⟨rfl, rfl⟩
          exact ⟨_, rfl, _, rfl, hJ, fun _ => rfl, fun _ _ _ h => h⟩
        | 2, _ =>
          cases ho
          exact wpOp_field rfl rfl rfl (hI.kept (t := 3) (by kernel_rfl)) (field32_1 _ w') ⟨_, rfl, hJ, fun _ => rfl, fun _ _ _ h => h⟩
        | 3, _ =>
          cases ho
          exact wpOp_load rfl rfl rfl (hI.slot 2 22 rfl (hpre ⟨2, .data⟩ (by simp) rfl) rfl) (load_cell (Try.isAgg38 w') ((hJ.cell (p := ⟨S, 1, none⟩) HS.out).trans HC.out)) ⟨_, rfl, hJ, fun _ => rfl, fun _ _ _ h => h⟩
        | 4, _ =>
          cases ho
          exact wpOp_lenI rfl rfl rfl (hI.slot 3 23 rfl (hpre ⟨3, .data⟩ (by simp) rfl) rfl) ⟨_, rfl, hJ, fun _ => rfl, fun _ _ _ h => h⟩
        | 5, _ =>
          cases ho
          exact wpOp_bin rfl rfl rfl (hI.slot 1 21 rfl (hpre ⟨1, .data⟩ (by simp) rfl) rfl) (hI.slot 4 24 rfl (hpre ⟨4, .data⟩ (by simp) rfl) rfl) (by simp [go_sem]) (by simp [go_sem]) ⟨_, rfl, hJ, fun _ => rfl, fun _ _ _ h => h⟩
        | 6, _ =>
          cases ho
          exact wpOp_move rfl rfl (.inl rfl) (hI.slot 5 25 rfl (hpre ⟨5, .data⟩ (by simp) rfl) rfl) ⟨_, rfl, hJ, fun _ => rfl, fun _ _ _ h => h⟩
        | 7, _ =>
          cases ho
          exact wpOp_move rfl (wantedOf (j := 6) (b := true) rfl rfl rfl (by rw [hI.len]; show _ < 54; decide) (hI.slot 6 26 rfl (hpre ⟨6, .guard⟩ (by simp) rfl) rfl)) (.inl rfl) (hI.kept (t := 0) (by kernel_rfl)) ⟨_, rfl, hJ, fun _ => rfl, fun _ _ _ h => h⟩
        | 8, _ =>
          cases ho
          refine wpOp_callFn rfl (wantedOf (j := 6) (b := true) rfl rfl rfl (by rw [hI.len]; show _ < 54; decide) (hI.slot 6 26 rfl (hpre ⟨6, .chain⟩ (by simp) rfl) rfl)) rfl (vs := #[ptr B]) (by simp only [List.map_toArray, List.map_cons, List.map_nil, (show a.eval (.tmp 27) = ptr B from (hI.slot 7 27 rfl (hpre ⟨7, .data⟩ (by simp) rfl) rfl))]) (fun _ _ => by kernel_rfl) ((HF0.out w' hJ).mono ?_)
          rintro e w2 ⟨v, rfl, hv, hb2⟩
          exact ⟨_, rfl, _, rfl, hJ.trans (hb2.mono hJ.size), fun _ => hv, fun j u _ h => SamL.below hb2 j u h⟩
        | 9, _ =>
          cases ho
          exact wpOp_load rfl (wantedOf (j := 6) (b := true) rfl rfl rfl (by rw [hI.len]; show _ < 54; decide) (hI.slot 6 26 rfl (hpre ⟨6, .guard⟩ (by simp) rfl) rfl)) rfl (hI.kept (t := 3) (by kernel_rfl)) (load_g ((hJ.block S HS.out).trans HBX.out)) ⟨_, rfl, hJ, fun _ => rfl, fun _ _ _ h => h⟩
        | 10, _ =>
          cases ho
          refine wpOp_callFn rfl (wantedOf (j := 6) (b := true) rfl rfl rfl (by rw [hI.len]; show _ < 54; decide) (hI.slot 6 26 rfl (hpre ⟨6, .guard⟩ (by simp) rfl) rfl)) rfl (vs := #[.agg #[.int .i64 g.most, .slice a1 g.now.length c1, .slice a2 g.last.length c2], .int .i64 4, .int .i64 4]) (by simp only [List.map_toArray, List.map_cons, List.map_nil, (show a.eval (.tmp 29) = .agg #[.int .i64 g.most, .slice a1 g.now.length c1, .slice a2 g.last.length c2] from (hI.slot 9 29 rfl (hpre ⟨9, .data⟩ (by simp) rfl) rfl)), eval_const]) (fun _ _ => by kernel_rfl) ((HO0.out w' hJ).mono ?_)
          rintro e w2 ⟨v, rfl, hv, hb2⟩
          exact ⟨_, rfl, _, rfl, hJ.trans (hb2.mono hJ.size), fun _ => hv, fun j u _ h => SamL.below hb2 j u h⟩
        | 11, _ =>
          cases ho
          obtain ⟨x1, y1, z1, e1, o1⟩ := (show IsL (g.of 4 4) w' (a.eval (.tmp 28)) from (hI.slot 8 28 rfl (hpre ⟨8, .data⟩ (by simp) rfl) rfl))
          obtain ⟨x2, y2, z2, e2, o2⟩ := (show IsL (g.of 4 4) w' (a.eval (.tmp 30)) from (hI.slot 10 30 rfl (hpre ⟨10, .data⟩ (by simp) rfl) rfl))
          refine wpOp_callFn rfl (wantedOf (j := 6) (b := true) rfl rfl rfl (by rw [hI.len]; show _ < 54; decide) (hI.slot 6 26 rfl (hpre ⟨6, .guard⟩ (by simp) rfl) rfl)) rfl (vs := #[.slice y1 (g.of 4 4).length z1, .slice y2 (g.of 4 4).length z2]) (by simp only [List.map_toArray, List.map_cons, List.map_nil, e1, e2]) (fun _ _ => by kernel_rfl) ((sameL_any o1 o2 (HL.out 4 4)).mono ?_)
          rintro e w2 ⟨rfl, hb2⟩
          exact ⟨_, rfl, _, rfl, hJ.trans (hb2.mono hJ.size), fun _ => rfl, fun j u _ h => SamL.below hb2 j u h⟩
        | 12, _ =>
          cases ho
          exact wpOp_pick2   rfl rfl rfl (hI.slot 6 26 rfl (hpre ⟨6, .data⟩ (by simp) rfl) rfl) (fun _ => (hI.slot 11 31 rfl (hpre ⟨11, .data⟩ (by simp) rfl) rfl)) (fun _ => rfl) ⟨_, rfl, hJ, fun _ => rfl, fun _ _ _ h => h⟩
        | 13, _ =>
          cases ho
          exact wpOp_move rfl rfl (.inl rfl) (hI.slot 12 32 rfl (hpre ⟨12, .data⟩ (by simp) rfl) rfl) ⟨_, rfl, hJ, fun _ => rfl, fun _ _ _ h => h⟩
        | 14, _ =>
          cases ho
          exact wpOp_move rfl (wantedOf (j := 13) (b := true) rfl rfl rfl (by rw [hI.len]; show _ < 54; decide) (hI.slot 13 33 rfl (hpre ⟨13, .guard⟩ (by simp) rfl) rfl)) (.inl rfl) (hI.kept (t := 0) (by kernel_rfl)) ⟨_, rfl, hJ, fun _ => rfl, fun _ _ _ h => h⟩
        | 15, _ =>
          cases ho
          refine wpOp_callFn rfl (wantedOf (j := 13) (b := true) rfl rfl rfl (by rw [hI.len]; show _ < 54; decide) (hI.slot 13 33 rfl (hpre ⟨13, .chain⟩ (by simp) rfl) rfl)) rfl (vs := #[ptr B]) (by simp only [List.map_toArray, List.map_cons, List.map_nil, (show a.eval (.tmp 34) = ptr B from (hI.slot 14 34 rfl (hpre ⟨14, .data⟩ (by simp) rfl) rfl))]) (fun _ _ => by kernel_rfl) ((HF1.out w' hJ).mono ?_)
          rintro e w2 ⟨v, rfl, hv, hb2⟩
          exact ⟨_, rfl, _, rfl, hJ.trans (hb2.mono hJ.size), fun _ => hv, fun j u _ h => SamL.below hb2 j u h⟩
        | 16, _ =>
          cases ho
          exact wpOp_load rfl (wantedOf (j := 13) (b := true) rfl rfl rfl (by rw [hI.len]; show _ < 54; decide) (hI.slot 13 33 rfl (hpre ⟨13, .guard⟩ (by simp) rfl) rfl)) rfl (hI.kept (t := 3) (by kernel_rfl)) (load_g ((hJ.block S HS.out).trans HBX.out)) ⟨_, rfl, hJ, fun _ => rfl, fun _ _ _ h => h⟩
        | 17, _ =>
          cases ho
          refine wpOp_callFn rfl (wantedOf (j := 13) (b := true) rfl rfl rfl (by rw [hI.len]; show _ < 54; decide) (hI.slot 13 33 rfl (hpre ⟨13, .guard⟩ (by simp) rfl) rfl)) rfl (vs := #[.agg #[.int .i64 g.most, .slice a1 g.now.length c1, .slice a2 g.last.length c2], .int .i64 2, .int .i64 2]) (by simp only [List.map_toArray, List.map_cons, List.map_nil, (show a.eval (.tmp 36) = .agg #[.int .i64 g.most, .slice a1 g.now.length c1, .slice a2 g.last.length c2] from (hI.slot 16 36 rfl (hpre ⟨16, .data⟩ (by simp) rfl) rfl)), eval_const]) (fun _ _ => by kernel_rfl) ((HO1.out w' hJ).mono ?_)
          rintro e w2 ⟨v, rfl, hv, hb2⟩
          exact ⟨_, rfl, _, rfl, hJ.trans (hb2.mono hJ.size), fun _ => hv, fun j u _ h => SamL.below hb2 j u h⟩
        | 18, _ =>
          cases ho
          obtain ⟨x1, y1, z1, e1, o1⟩ := (show IsL (g.of 2 2) w' (a.eval (.tmp 35)) from (hI.slot 15 35 rfl (hpre ⟨15, .data⟩ (by simp) rfl) rfl))
          obtain ⟨x2, y2, z2, e2, o2⟩ := (show IsL (g.of 2 2) w' (a.eval (.tmp 37)) from (hI.slot 17 37 rfl (hpre ⟨17, .data⟩ (by simp) rfl) rfl))
          refine wpOp_callFn rfl (wantedOf (j := 13) (b := true) rfl rfl rfl (by rw [hI.len]; show _ < 54; decide) (hI.slot 13 33 rfl (hpre ⟨13, .guard⟩ (by simp) rfl) rfl)) rfl (vs := #[.slice y1 (g.of 2 2).length z1, .slice y2 (g.of 2 2).length z2]) (by simp only [List.map_toArray, List.map_cons, List.map_nil, e1, e2]) (fun _ _ => by kernel_rfl) ((sameL_any o1 o2 (HL.out 2 2)).mono ?_)
          rintro e w2 ⟨rfl, hb2⟩
          exact ⟨_, rfl, _, rfl, hJ.trans (hb2.mono hJ.size), fun _ => rfl, fun j u _ h => SamL.below hb2 j u h⟩
        | 19, _ =>
          cases ho
          exact wpOp_pick2   rfl rfl rfl (hI.slot 13 33 rfl (hpre ⟨13, .data⟩ (by simp) rfl) rfl) (fun _ => (hI.slot 18 38 rfl (hpre ⟨18, .data⟩ (by simp) rfl) rfl)) (fun _ => rfl) ⟨_, rfl, hJ, fun _ => rfl, fun _ _ _ h => h⟩
        | 20, _ =>
          cases ho
          exact wpOp_move rfl rfl (.inl rfl) (hI.slot 19 39 rfl (hpre ⟨19, .data⟩ (by simp) rfl) rfl) ⟨_, rfl, hJ, fun _ => rfl, fun _ _ _ h => h⟩
        | 21, _ =>
          cases ho
          exact wpOp_move rfl (wantedOf (j := 20) (b := true) rfl rfl rfl (by rw [hI.len]; show _ < 54; decide) (hI.slot 20 40 rfl (hpre ⟨20, .guard⟩ (by simp) rfl) rfl)) (.inl rfl) (hI.kept (t := 0) (by kernel_rfl)) ⟨_, rfl, hJ, fun _ => rfl, fun _ _ _ h => h⟩
        | 22, _ =>
          cases ho
          refine wpOp_callFn rfl (wantedOf (j := 20) (b := true) rfl rfl rfl (by rw [hI.len]; show _ < 54; decide) (hI.slot 20 40 rfl (hpre ⟨20, .chain⟩ (by simp) rfl) rfl)) rfl (vs := #[ptr B]) (by simp only [List.map_toArray, List.map_cons, List.map_nil, (show a.eval (.tmp 41) = ptr B from (hI.slot 21 41 rfl (hpre ⟨21, .data⟩ (by simp) rfl) rfl))]) (fun _ _ => by kernel_rfl) ((HF2.out w' hJ).mono ?_)
          rintro e w2 ⟨v, rfl, hv, hb2⟩
          exact ⟨_, rfl, _, rfl, hJ.trans (hb2.mono hJ.size), fun _ => hv, fun j u _ h => SamL.below hb2 j u h⟩
        | 23, _ =>
          cases ho
          exact wpOp_load rfl (wantedOf (j := 20) (b := true) rfl rfl rfl (by rw [hI.len]; show _ < 54; decide) (hI.slot 20 40 rfl (hpre ⟨20, .guard⟩ (by simp) rfl) rfl)) rfl (hI.kept (t := 3) (by kernel_rfl)) (load_g ((hJ.block S HS.out).trans HBX.out)) ⟨_, rfl, hJ, fun _ => rfl, fun _ _ _ h => h⟩
        | 24, _ =>
          cases ho
          refine wpOp_callFn rfl (wantedOf (j := 20) (b := true) rfl rfl rfl (by rw [hI.len]; show _ < 54; decide) (hI.slot 20 40 rfl (hpre ⟨20, .guard⟩ (by simp) rfl) rfl)) rfl (vs := #[.agg #[.int .i64 g.most, .slice a1 g.now.length c1, .slice a2 g.last.length c2], .int .i64 3, .int .i64 3]) (by simp only [List.map_toArray, List.map_cons, List.map_nil, (show a.eval (.tmp 43) = .agg #[.int .i64 g.most, .slice a1 g.now.length c1, .slice a2 g.last.length c2] from (hI.slot 23 43 rfl (hpre ⟨23, .data⟩ (by simp) rfl) rfl)), eval_const]) (fun _ _ => by kernel_rfl) ((HO2.out w' hJ).mono ?_)
          rintro e w2 ⟨v, rfl, hv, hb2⟩
          exact ⟨_, rfl, _, rfl, hJ.trans (hb2.mono hJ.size), fun _ => hv, fun j u _ h => SamL.below hb2 j u h⟩
        | 25, _ =>
          cases ho
          obtain ⟨x1, y1, z1, e1, o1⟩ := (show IsL (g.of 3 3) w' (a.eval (.tmp 42)) from (hI.slot 22 42 rfl (hpre ⟨22, .data⟩ (by simp) rfl) rfl))
          obtain ⟨x2, y2, z2, e2, o2⟩ := (show IsL (g.of 3 3) w' (a.eval (.tmp 44)) from (hI.slot 24 44 rfl (hpre ⟨24, .data⟩ (by simp) rfl) rfl))
          refine wpOp_callFn rfl (wantedOf (j := 20) (b := true) rfl rfl rfl (by rw [hI.len]; show _ < 54; decide) (hI.slot 20 40 rfl (hpre ⟨20, .guard⟩ (by simp) rfl) rfl)) rfl (vs := #[.slice y1 (g.of 3 3).length z1, .slice y2 (g.of 3 3).length z2]) (by simp only [List.map_toArray, List.map_cons, List.map_nil, e1, e2]) (fun _ _ => by kernel_rfl) ((sameL_any o1 o2 (HL.out 3 3)).mono ?_)
          rintro e w2 ⟨rfl, hb2⟩
          exact ⟨_, rfl, _, rfl, hJ.trans (hb2.mono hJ.size), fun _ => rfl, fun j u _ h => SamL.below hb2 j u h⟩
        | 26, _ =>
          cases ho
          exact wpOp_pick2   rfl rfl rfl (hI.slot 20 40 rfl (hpre ⟨20, .data⟩ (by simp) rfl) rfl) (fun _ => (hI.slot 25 45 rfl (hpre ⟨25, .data⟩ (by simp) rfl) rfl)) (fun _ => rfl) ⟨_, rfl, hJ, fun _ => rfl, fun _ _ _ h => h⟩
        | 27, _ =>
          cases ho
          exact wpOp_move rfl rfl (.inl rfl) (hI.slot 26 46 rfl (hpre ⟨26, .data⟩ (by simp) rfl) rfl) ⟨_, rfl, hJ, fun _ => rfl, fun _ _ _ h => h⟩
        | 28, _ =>
          cases ho
          exact wpOp_move rfl (wantedOf (j := 27) (b := true) rfl rfl rfl (by rw [hI.len]; show _ < 54; decide) (hI.slot 27 47 rfl (hpre ⟨27, .guard⟩ (by simp) rfl) rfl)) (.inl rfl) (hI.kept (t := 0) (by kernel_rfl)) ⟨_, rfl, hJ, fun _ => rfl, fun _ _ _ h => h⟩
        | 29, _ =>
          cases ho
          refine wpOp_callFn rfl (wantedOf (j := 27) (b := true) rfl rfl rfl (by rw [hI.len]; show _ < 54; decide) (hI.slot 27 47 rfl (hpre ⟨27, .chain⟩ (by simp) rfl) rfl)) rfl (vs := #[ptr B]) (by simp only [List.map_toArray, List.map_cons, List.map_nil, (show a.eval (.tmp 48) = ptr B from (hI.slot 28 48 rfl (hpre ⟨28, .data⟩ (by simp) rfl) rfl))]) (fun _ _ => by kernel_rfl) ((HF3.out w' hJ).mono ?_)
          rintro e w2 ⟨v, rfl, hv, hb2⟩
          exact ⟨_, rfl, _, rfl, hJ.trans (hb2.mono hJ.size), fun _ => hv, fun j u _ h => SamL.below hb2 j u h⟩
        | 30, _ =>
          cases ho
          exact wpOp_load rfl (wantedOf (j := 27) (b := true) rfl rfl rfl (by rw [hI.len]; show _ < 54; decide) (hI.slot 27 47 rfl (hpre ⟨27, .guard⟩ (by simp) rfl) rfl)) rfl (hI.kept (t := 3) (by kernel_rfl)) (load_g ((hJ.block S HS.out).trans HBX.out)) ⟨_, rfl, hJ, fun _ => rfl, fun _ _ _ h => h⟩
        | 31, _ =>
          cases ho
          refine wpOp_callFn rfl (wantedOf (j := 27) (b := true) rfl rfl rfl (by rw [hI.len]; show _ < 54; decide) (hI.slot 27 47 rfl (hpre ⟨27, .guard⟩ (by simp) rfl) rfl)) rfl (vs := #[.agg #[.int .i64 g.most, .slice a1 g.now.length c1, .slice a2 g.last.length c2], .int .i64 3, .int .i64 4]) (by simp only [List.map_toArray, List.map_cons, List.map_nil, (show a.eval (.tmp 50) = .agg #[.int .i64 g.most, .slice a1 g.now.length c1, .slice a2 g.last.length c2] from (hI.slot 30 50 rfl (hpre ⟨30, .data⟩ (by simp) rfl) rfl)), eval_const]) (fun _ _ => by kernel_rfl) ((HO3.out w' hJ).mono ?_)
          rintro e w2 ⟨v, rfl, hv, hb2⟩
          exact ⟨_, rfl, _, rfl, hJ.trans (hb2.mono hJ.size), fun _ => hv, fun j u _ h => SamL.below hb2 j u h⟩
        | 32, _ =>
          cases ho
          obtain ⟨x1, y1, z1, e1, o1⟩ := (show IsL (g.of 3 4) w' (a.eval (.tmp 49)) from (hI.slot 29 49 rfl (hpre ⟨29, .data⟩ (by simp) rfl) rfl))
          obtain ⟨x2, y2, z2, e2, o2⟩ := (show IsL (g.of 3 4) w' (a.eval (.tmp 51)) from (hI.slot 31 51 rfl (hpre ⟨31, .data⟩ (by simp) rfl) rfl))
          refine wpOp_callFn rfl (wantedOf (j := 27) (b := true) rfl rfl rfl (by rw [hI.len]; show _ < 54; decide) (hI.slot 27 47 rfl (hpre ⟨27, .guard⟩ (by simp) rfl) rfl)) rfl (vs := #[.slice y1 (g.of 3 4).length z1, .slice y2 (g.of 3 4).length z2]) (by simp only [List.map_toArray, List.map_cons, List.map_nil, e1, e2]) (fun _ _ => by kernel_rfl) ((sameL_any o1 o2 (HL.out 3 4)).mono ?_)
          rintro e w2 ⟨rfl, hb2⟩
          exact ⟨_, rfl, _, rfl, hJ.trans (hb2.mono hJ.size), fun _ => rfl, fun j u _ h => SamL.below hb2 j u h⟩
        | 33, _ =>
          cases ho
          exact wpOp_pick2   rfl rfl rfl (hI.slot 27 47 rfl (hpre ⟨27, .data⟩ (by simp) rfl) rfl) (fun _ => (hI.slot 32 52 rfl (hpre ⟨32, .data⟩ (by simp) rfl) rfl)) (fun _ => rfl) ⟨_, rfl, hJ, fun _ => rfl, fun _ _ _ h => h⟩
        | 34, _ =>
          cases ho
          exact wpOp_move rfl rfl (.inr rfl) (hI.slot 33 53 rfl (hpre ⟨33, .data⟩ (by simp) rfl) rfl) ⟨_, rfl, hJ, fun _ => rfl, fun _ _ _ h => h⟩
      case fin =>
        intro listed a w' hI hall
        go_wp2
        have hW := hI.inv
        have e4' : a.tmps.getD 4 undef = .bool true := hI.slot 34 4 rfl (hall 34 (by decide)) rfl
        refine bodyPost_ret (results_tmp rfl _ _ _) hI.defers ?_
        rw [e4']
        refine ⟨rfl, ?_⟩
        rw [HS0.out]
        have hz : S ≤ w1.heap.size := by have := HB1.out.size; rw [HS0.out] at this; exact this
        exact HB1.out.trans ((HB.out.mono hz).trans (hW.mono (Nat.le_trans hz HB.out.size)))
end Go.Proofs.Ytmjjgdoekblelaa

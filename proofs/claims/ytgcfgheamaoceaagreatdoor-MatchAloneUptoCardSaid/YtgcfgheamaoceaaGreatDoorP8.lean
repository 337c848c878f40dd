/- Texts of the proof in one file, in build order: MatQQ, MatRR, MatSS, MatTT, MatUU, MatVV, MatWW, MatXX, MatYA, MatYB. -/
import Derived.Test.YtgcfgheamaoceaaGreatDoorP7
import Derived.Test.YtgcfgheamaoceaaGreatDoorStops
import Derived.Test.YtgcfgheamaoceaaGreatDoorP6
import Derived.Test.YtgcfgheamaoceaaGreatDoorTopW
/- Layer 14: the document's Drop (its drawn region's text: wip/tools/mkmatqq.py). -/
namespace Go.Proofs.YtgcfgheamaoceaaGreatDoor
open Go.RowKit Go.MapKept Go.ChangeMaps Go.Maps

theorem delG_off {s : Sb} {r : List Sb} (h : ∀ y ∈ r, ¬ sameK y s) : delG s r = r := by
  unfold delG
  rw [List.filter_eq_self]
  intro y hy
  simp [h y hy]
/-- What is left is what stands before it and behind it. -/
theorem delG_fnd (s : Sb) : ∀ g : List Sb, Rise g → delG s g = g.take (fnd s g).1 ++ g.drop ((fnd s g).1 + if (fnd s g).2 then 1 else 0)
  | [], _ => rfl
  | x :: r, h => by
    have hx := (List.pairwise_cons.1 h).1
    have hno : ¬ ahd x s → ∀ y ∈ r, ¬ sameK y s := fun ha y hy k => ha (ahd_same (hx y hy) k)
    by_cases ha : ahd x s
    · have hk : ¬ sameK x s := fun k => ahd_irr k ha
      have e : delG s (x :: r) = x :: delG s r := by unfold delG; rw [List.filter_cons]; simp [hk]
      rw [e, delG_fnd s r (List.pairwise_cons.1 h).2, show fnd s (x :: r) = ((fnd s r).1 + 1, (fnd s r).2) from if_pos ha]
      show x :: (_ ++ _) = x :: (_ ++ _)
      rw [show (fnd s r).1 + 1 + (if (fnd s r).2 then 1 else 0) = ((fnd s r).1 + if (fnd s r).2 then 1 else 0) + 1 by omega]
      rfl
    · unfold fnd
      rw [if_neg ha]
      by_cases k : sameK x s
      · have e : delG s (x :: r) = delG s r := by unfold delG; rw [List.filter_cons]; simp [k]
        rw [e, delG_off (hno ha)]
        simp [k]
      · have e : delG s (x :: r) = x :: delG s r := by unfold delG; rw [List.filter_cons]; simp [k]
        rw [e, delG_off (hno ha)]
        simp [k]
def DrV (ao : Option Addr) (n cap k m base : Nat) (g : List Sb) : Nat → Value → World → Prop
  | 0, v, _ => v = .slice ao n cap
  | 1, v, _ => v = .int .i64 (k : Int)
  | 2, v, _ => v = .slice ao k cap
  | 3, v, w => (OwnS w base v (g.take k))
  | 4, v, _ => v = .slice ao n cap
  | 5, v, _ => v = .int .i64 (k : Int)
  | 6, v, _ => v = .int .i64 (m : Int)
  | 7, v, _ => v = .slice (if cap = m then ao else ao.map (·.add (m * 3))) (n - m) (cap - m)
  | 8, v, w => (OwnS w base v (g.take k ++ g.drop m))
  | 9, v, w => (OwnS w base v (g.take k ++ g.drop m))
  | 10, v, _ => v = .bool true
  | 11, v, _ => v = .int .i64 0
  | _, _, _ => True
theorem DrV.keep {ao : Option Addr} {n cap k m base : Nat} {g : List Sb} {w w' : World} (hk : ∀ u N, N.length ≤ k → OwnS w base u N → OwnS w' base u N) : ∀ j u, j ≠ 8 → j ≠ 9 → DrV ao n cap k m base g j u w → DrV ao n cap k m base g j u w' := by
  intro j u n8 n9 h
  unfold DrV at h ⊢
  split at h
  · exact h
  · exact h
  · exact h
  · exact hk _ _ (by rw [List.length_take]; omega) h
  · exact h
  · exact h
  · exact h
  · exact h
  · exact absurd rfl n8
  · exact absurd rfl n9
  · exact h
  · exact h
  · exact trivial
set_option maxRecDepth 100000 in
set_option maxHeartbeats 8000000 in
/-- The document's Drop. -/
theorem rdrop_any (w : World) (base : Nat) (v : Value) (g : List Sb) (h : OwnS w base v g) (hbase : base ≤ w.heap.size) (hr : Rise g) (hg : g.length ≤ 4096) (f c : ByteArray) (hf : f.size ≤ 1000) (hc : c.size ≤ 1000000) :
    Calls Tryz.prog 31 #[v, .string f, .string c] w fun e w' => ∃ v', e = .returned (.tuple #[v', .bool (dropP g f.data.toList c.data.toList).2.1, .int .i64 ((dropP g f.data.toList c.data.toList).2.2 : Int)]) ∧ OwnS w' base v' (dropP g f.data.toList c.data.toList).1 ∧ Below w.heap.size w w' := by
  obtain ⟨ao, cap, rfl, hcap, hSb0⟩ := ownS_lies h
  obtain ⟨n, hgn⟩ : ∃ n, g.length = n := ⟨_, rfl⟩
  have hac : ao = none → cap = 0 := fun e => by
    rcases h.2 with ⟨e2, -⟩ | ⟨b, cp, cur, e2, -⟩
    · injection e2
    · rw [e] at e2; cases e2
  have HF := Lib.hid (rfilter_any f hf w)
  have HC := Lib.hid (fun W => rclient_any W c hc)
  have HI := Lib.hid (And.intro hSb0 (And.intro h (And.intro hr (And.intro hac hbase))))
  rw [hgn] at hcap ⊢
  clear hSb0 h hr hac hbase
  obtain ⟨r, hr0⟩ : ∃ r, dropP g f.data.toList c.data.toList = r := ⟨_, rfl⟩
  rw [hr0]
  unfold dropP at hr0
  cases hfl : filtL f.data.toList with
  | false =>
    have e1 : subE f.data.toList c.data.toList 0 = 230 := by unfold subE subZ; rw [if_pos hfl]
    rw [e1, if_pos (by decide)] at hr0
    rw [hfl] at HF
    rw [← hr0]
    clear hr0 e1
    go_enter Tryz.func31, Tryz.ntmps31
    go_wp2_with fail
    refine HF.out.mono ?_
    rintro e w1 ⟨rfl, hb1⟩
    have HB := Lib.hid hb1
    clear hb1 HF
    go_wp2
    refine bodyPost_ret (results_tmp3 rfl _ _ _) rfl ?_
    exact ⟨_, rfl, hgn ▸ HI.out.2.1.below HB.out, HB.out⟩
  | true =>
    rw [hfl] at HF
    cases hcl : cliL c.data.toList with
    | false =>
      have e1 : subE f.data.toList c.data.toList 0 = 2 := by unfold subE subZ; rw [if_neg (by rw [hfl]; decide), if_pos (.inl hcl)]
      rw [e1, if_pos (by decide)] at hr0
      rw [hcl] at HC
      rw [← hr0]
      clear hr0 e1
      go_enter Tryz.func31, Tryz.ntmps31
      go_wp2_with fail
      refine HF.out.mono ?_
      rintro e w1 ⟨rfl, hb1⟩
      have HB := Lib.hid hb1
      clear hb1 HF
      go_wp2_with fail
      refine (HC.out _).mono ?_
      rintro e w2 ⟨rfl, rfl⟩
      go_wp2
      refine bodyPost_ret (results_tmp3 rfl _ _ _) rfl ?_
      exact ⟨_, rfl, hgn ▸ HI.out.2.1.below HB.out, HB.out⟩
    | true =>
      rw [hcl] at HC
      have e1 : subE f.data.toList c.data.toList 0 = 0 := by unfold subE; rw [hfl, hcl]; exact subZ_no (by decide) (by decide)
      rw [e1, if_neg (by decide)] at hr0
      obtain ⟨s, hs⟩ : ∃ s : Sb, s = ⟨f.data.toList, c.data.toList, 0⟩ := ⟨_, rfl⟩
      have hes : entry f.data.toList c.data.toList 0 = s := by rw [hs]; rfl
      rw [hes] at hr0
      have hhk := hasK_fnd s g HI.out.2.2.1
      have hdel := delG_fnd s g HI.out.2.2.1
      have hkg := fnd_le s g
      have hfe := fnd_end s g
      have hac := HI.out.2.2.2.1
      have hbase := HI.out.2.2.2.2
      obtain ⟨k, hk⟩ : ∃ k, (fnd s g).1 = k := ⟨_, rfl⟩
      obtain ⟨is, his⟩ : ∃ is, (fnd s g).2 = is := ⟨_, rfl⟩
      rw [his] at hhk hdel hfe
      rw [hk] at hdel hkg hfe
      rw [hhk] at hr0
      cases is with
      | true =>
        obtain ⟨m, hm⟩ : ∃ m, k + 1 = m := ⟨_, rfl⟩
        have hmn : m ≤ n := by
          rcases Nat.lt_or_ge k n with h | h
          · omega
          · have := hfe (List.getElem?_eq_none_iff.2 (by omega))
            cases this
        have hwi : IntKind.i64.wrap ((k : Int) + 1) = (m : Int) := by rw [IntKind.wrap_i64]; omega
        have hdm : delG s g = g.take k ++ g.drop m := by rw [hdel, ← hm]; simp
        rw [← hr0]
        clear hfe hdel hr0 hhk hm
        go_enter Tryz.func31, Tryz.ntmps31
        go_wp2_with fail
        refine HF.out.mono ?_
        rintro e wa ⟨rfl, hb1⟩
        have HN := Lib.hid (find_any wa ao g cap (ensAt_of (HI.out.1.below hb1)) f c (by omega))
        have HSa := Lib.hid (HI.out.1.below hb1)
        have HB := Lib.hid hb1
        clear hb1 HF
        rw [hgn, ← hs, hk, his] at HN
        go_wp2_with fail
        refine (HC.out _).mono ?_
        rintro e wc ⟨rfl, rfl⟩
        go_wp2_with fail
        refine HN.out.mono ?_
        rintro e w1 ⟨rfl, hb2⟩
        have hSb := HSa.out.below hb2
        have HB1 := Lib.hid (HB.out.trans (hb2.mono HB.out.size))
        have HFI := Lib.hid (show ∀ x W, OwnS W w1.heap.size x (g.take k ++ g.drop m) → OwnS W base x (delG s g) from fun x W h => by rw [hdm]; exact h.mono (Nat.le_trans hbase HB1.out.size))
        clear hb2 HN HB HSa hdm
        go_wp2
        refine wp_region_m (fun _ W => Below w1.heap.size w1 W) (DrV ao n cap k m w1.heap.size g) (by kernel_rfl) (by kernel_rfl) (by kernel_rfl) (by kernel_rfl) (Below.refl _ _).drew ?step ?fin
        case step =>
          intro i o ho listed a w' hI hn' hpre
          have hJ := hI.inv
          have hi : i < 12 := (Array.getElem?_eq_some_iff.1 ho).1
          match i, hi with
          | 0, _ =>
            cases ho
            exact wpOp_move rfl rfl (.inl rfl) (hI.kept (t := 0) (by kernel_rfl)) ⟨_, rfl, hJ, fun _ => rfl, fun _ _ _ h => h⟩
          | 1, _ =>
            cases ho
            exact wpOp_move rfl rfl (.inl rfl) (hI.kept (t := 9) (by kernel_rfl)) ⟨_, rfl, hJ, fun _ => rfl, fun _ _ _ h => h⟩
          | 2, _ =>
            cases ho
            exact wpOp_slice rfl rfl rfl (hI.slot 0 29 rfl (hpre ⟨0, .data⟩ (by simp) rfl) rfl) rfl (h2 := by simp only [Option.map, (show a.eval (.tmp 30) = .int .i64 (k : Int) from (hI.slot 1 30 rfl (hpre ⟨1, .data⟩ (by simp) rfl) rfl))]) rfl (slice_sb w' ao n cap k (by omega)) ⟨_, rfl, hJ, fun _ => rfl, fun _ _ _ h => h⟩
          | 3, _ =>
            cases ho
            obtain ⟨v2, w2, h1, h2, h3, h4, h5⟩ := run_append_subs w' w1.heap.size 27 (.slice none 0 0) [] (OwnS.nil w' _) ao (g.take k) cap hac ((hSb.below hJ).take k) (by rw [List.length_take]; simp; omega) hJ.size
            rw [List.length_take, Nat.min_eq_left hkg] at h1
            exact wpOp_append rfl rfl rfl rfl (hI.slot 2 31 rfl (hpre ⟨2, .data⟩ (by simp) rfl) rfl) h1 ⟨_, rfl, hJ.grown h3 hJ.size (fun _ e => by cases e), fun _ => h2, fun j u hl h => DrV.keep (fun u N _ hu => h5 u N hu fun e => by rw [ownS_none hu e]; exact Nat.zero_le _) j u (by rintro rfl; rw [hI.notyet hn' 8 (by kernel_rfl)] at hl; cases hl) (by rintro rfl; rw [hI.notyet (hI.notyet hn' 8 (by kernel_rfl)) 9 (by kernel_rfl)] at hl; cases hl) h⟩
          | 4, _ =>
            cases ho
            exact wpOp_move rfl rfl (.inl rfl) (hI.kept (t := 0) (by kernel_rfl)) ⟨_, rfl, hJ, fun _ => rfl, fun _ _ _ h => h⟩
          | 5, _ =>
            cases ho
            exact wpOp_move rfl rfl (.inl rfl) (hI.kept (t := 9) (by kernel_rfl)) ⟨_, rfl, hJ, fun _ => rfl, fun _ _ _ h => h⟩
          | 6, _ =>
            cases ho
            exact wpOp_bin rfl rfl rfl (hI.slot 5 34 rfl (hpre ⟨5, .data⟩ (by simp) rfl) rfl) rfl (by simp [go_sem]) (by simp [go_sem, hwi]) ⟨_, rfl, hJ, fun _ => rfl, fun _ _ _ h => h⟩
          | 7, _ =>
            cases ho
            exact wpOp_slice rfl rfl rfl (hI.slot 4 33 rfl (hpre ⟨4, .data⟩ (by simp) rfl) rfl) (h1 := by simp only [Option.map, (show a.eval (.tmp 35) = .int .i64 (m : Int) from (hI.slot 6 35 rfl (hpre ⟨6, .data⟩ (by simp) rfl) rfl))]) rfl rfl (slice_sb2 w' ao n cap m hmn) ⟨_, rfl, hJ, fun _ => rfl, fun _ _ _ h => h⟩
          | 8, _ =>
            cases ho
            have h32 : OwnS w' w1.heap.size (a.eval (.tmp 32)) (g.take k) := (hI.slot 3 32 rfl (hpre ⟨3, .data⟩ (by simp) rfl) rfl)
            have hld : (g.drop m).length = n - m := by rw [List.length_drop, hgn]
            have hlk : (g.take k).length = k := by rw [List.length_take, Nat.min_eq_left hkg]
            obtain ⟨v2, w2, h1, h2, h3, h4, h5⟩ := run_append_subs w' w1.heap.size 27 _ (g.take k) h32 (if cap = m then ao else ao.map (·.add (m * 3))) (g.drop m) (cap - m) (fun e => by
              by_cases hcm : cap = m
              · omega
              · rw [if_neg hcm] at e
                have h0 := hac (by cases ao with | none => rfl | some p => cases e)
                omega) ((hSb.below hJ).drop m cap (by omega) (by omega)) (by rw [hld, hlk]; omega) hJ.size
            rw [hld] at h1
            exact wpOp_append rfl rfl rfl rfl (hI.slot 7 36 rfl (hpre ⟨7, .data⟩ (by simp) rfl) rfl) h1 ⟨_, rfl, hJ.grown h3 hJ.size (fun b e => (ownS_lt h32 b e).1), fun _ => h2, fun j u hl h => DrV.keep (fun u N hN hu => h5 u N hu fun _ => by rw [hlk]; exact hN) j u (by rintro rfl; rw [hn'] at hl; cases hl) (by rintro rfl; rw [hI.notyet hn' 9 (by kernel_rfl)] at hl; cases hl) h⟩
          | 9, _ =>
            cases ho
            have hM : OwnS w' w1.heap.size (a.eval (.tmp 37)) (g.take k ++ g.drop m) := (hI.slot 8 37 rfl (hpre ⟨8, .data⟩ (by simp) rfl) rfl)
            exact wpOp_move rfl rfl (.inr rfl) rfl ⟨_, rfl, hJ, fun _ => hM, fun _ _ _ h => h⟩
          | 10, _ =>
            cases ho
            exact wpOp_move rfl rfl (.inr rfl) rfl ⟨_, rfl, hJ, fun _ => rfl, fun _ _ _ h => h⟩
          | 11, _ =>
            cases ho
            exact wpOp_move rfl rfl (.inr rfl) rfl ⟨_, rfl, hJ, fun _ => rfl, fun _ _ _ h => h⟩
        case fin =>
          intro listed a w' hI hall
          have hJ := hI.inv
          have hM : OwnS w' w1.heap.size (a.tmps.getD 6 undef) (g.take k ++ g.drop m) := hI.slot 9 6 rfl (hall 9 (by decide)) rfl
          have eS7 : a.tmps.getD 7 undef = .bool true := hI.slot 10 7 rfl (hall 10 (by decide)) rfl
          have eS8 : a.tmps.getD 8 undef = .int .i64 0 := hI.slot 11 8 rfl (hall 11 (by decide)) rfl
          obtain ⟨vs, us, hvl, hul, hvs, hus, e⟩ := hI.frame2 6 3 29 9 (by decide) (Nat.le_of_ble_eq_true (by kernel_rfl)) (by kernel_rfl)
          have vS6 := hvs 0 (by decide)
          have vS7 := hvs 1 (by decide)
          have vS8 := hvs 2 (by decide)
          clear hI hall hvs hus
          match vs, us, hvl, hul with
          | [e0, e1, e2], [y0, y1, y2, y3, y4, y5, y6, y7, y8], _, _ =>
            simp only [List.getElem?_cons_zero, List.getElem?_cons_succ, Option.some.injEq] at vS6 vS7 vS8
            rw [show 6 + 0 = 6 from rfl] at vS6
            rw [show 6 + 1 = 7 from rfl, eS7] at vS7
            rw [show 6 + 2 = 8 from rfl, eS8] at vS8
            subst vS7
            subst vS8
            rw [← vS6] at hM
            simp only [List.take_succ_cons, List.take_zero, List.drop_succ_cons, List.drop_zero, List.cons_append, List.nil_append, Nat.reduceAdd, Nat.reduceSub] at e
            subst e
            have HM := Lib.hid hM
            have HJ := Lib.hid hJ
            clear hM hJ vS6
            go_wp2
            refine bodyPost_ret (results_tmp3 rfl _ _ _) rfl ?_
            exact ⟨e0, rfl, by have h := HFI.out e0 _ HM.out; rw [hs] at h; exact h, HB1.out.trans (HJ.out.mono HB1.out.size)⟩

      | false =>
        have hdm : delG s g = g := by rw [hdel]; simp
        rw [hdm] at hr0
        rw [← hr0]
        clear hfe hdel hr0 hhk hdm
        go_enter Tryz.func31, Tryz.ntmps31
        go_wp2_with fail
        refine HF.out.mono ?_
        rintro e wa ⟨rfl, hb1⟩
        have HN := Lib.hid (find_any wa ao g cap (ensAt_of (HI.out.1.below hb1)) f c (by omega))
        have HB := Lib.hid hb1
        clear hb1 HF
        rw [hgn, ← hs, hk, his] at HN
        go_wp2_with fail
        refine (HC.out _).mono ?_
        rintro e wc ⟨rfl, rfl⟩
        go_wp2_with fail
        refine HN.out.mono ?_
        rintro e w1 ⟨rfl, hb2⟩
        have HB1 := Lib.hid (HB.out.trans (hb2.mono HB.out.size))
        clear hb2 HN HB
        go_wp2
        refine bodyPost_ret (results_tmp3 rfl _ _ _) rfl ?_
        exact ⟨_, rfl, hgn ▸ HI.out.2.1.below HB1.out, HB1.out⟩
end Go.Proofs.YtgcfgheamaoceaaGreatDoor
/- Layer 14: the document's Of and Leave (wip/tools/mkmatrr.py). -/
namespace Go.Proofs.YtgcfgheamaoceaaGreatDoor
open Go.RowKit Go.MapKept Go.ChangeMaps Go.Maps

/-- Those of a Client, those of others. -/
def ofC (c : List UInt8) (g : List Sb) : List Sb := g.filter fun s => decide (s.c = c)
def leaveC (c : List UInt8) (g : List Sb) : List Sb := g.filter fun s => !decide (s.c = c)
theorem rise_leaveC {c : List UInt8} {g : List Sb} (h : Rise g) : Rise (leaveC c g) := List.Pairwise.filter _ h
theorem len_leaveC (c : List UInt8) (g : List Sb) : (leaveC c g).length ≤ g.length := List.length_filter_le _ _
set_option maxRecDepth 100000 in
set_option maxHeartbeats 4000000 in
/-- A Client's entries. -/
theorem rof_any (w : World) (base : Nat) (v : Value) (g : List Sb) (h : OwnS w base v g) (hg : g.length ≤ 5000) (c : ByteArray) :
    Calls Tryz.prog 15 #[v, .string c] w fun e w' => ∃ v', e = .returned v' ∧ OwnS w' w.heap.size v' (ofC c.data.toList g) ∧ Below w.heap.size w w' := by
  obtain ⟨ao, cap, rfl, hcap, hSb0⟩ := ownS_lies h
  obtain ⟨n, hgn⟩ : ∃ n, g.length = n := ⟨_, rfl⟩
  have hn5 : n ≤ 5000 := by omega
  obtain ⟨p, hp⟩ : ∃ p : Sb → Bool, p = fun s => decide (s.c = c.data.toList) := ⟨_, rfl⟩
  have hp1 : ∀ x : Sb, x.c = c.data.toList → p x = true := fun x hx => by rw [hp]; exact decide_eq_true hx
  have hp2 : ∀ x : Sb, ¬ x.c = c.data.toList → p x = false := fun x hx => by rw [hp]; exact decide_eq_false hx
  have e : ofC c.data.toList g = g.filter p := by rw [hp]; rfl
  have HA := Lib.hid hSb0
  rw [hgn, e]
  clear h hSb0 hg hcap e hp
  go_enter Tryz.func15, Tryz.ntmps15
  go_wp2
  go_loopw [5, 6, 7, 8, 9, 10, 11, 12, 13, 14, 15, 16, 17, 18, 19, 20, 21, 22, 23, 24, 25, 26] (fun xo xi _ _ _ _ _ _ _ _ _ _ _ _ _ _ _ _ _ _ _ _ wr => ∃ i : Nat, xi = .int .i64 i ∧ i ≤ n ∧ OwnS wr w.heap.size xo ((g.take i).filter p) ∧ Below w.heap.size w wr) (fun _ xi _ _ _ _ _ _ _ _ _ _ _ _ _ _ _ _ _ _ _ _ _ => n - (intOf xi).toNat)
  case atStart => exact ⟨0, rfl, Nat.zero_le _, OwnS.nil _ _, Below.refl _ _⟩
  case round =>
    obtain ⟨i, rfl, hi, hO, hb⟩ := hrel
    rcases Nat.lt_or_ge i n with hin | hin
    · have hlt : (i : Int) < (n : Int) := by omega
      have hwi : IntKind.i64.wrap ((i : Int) + 1) = (i : Int) + 1 := by rw [IntKind.wrap_i64]; omega
      obtain ⟨x, hx⟩ : ∃ x, g[i]? = some x := ⟨_, List.getElem?_eq_getElem (by omega)⟩
      obtain ⟨B, o, rfl, hB, k0, k1, k2⟩ := (ensAt_of (HA.out.below hb)) i (enOf x) (by rw [List.getElem?_map, hx]; rfl)
      have hix := index_en wr B o n cap i hin
      have c0 : wr.cell? ⟨B, o + i * 3, none⟩ = some (.string (str x.f)) := k0
      have c1 : wr.cell? ⟨B, o + i * 3 + 1, none⟩ = some (.string (str x.c)) := k1
      have c2 : wr.cell? ⟨B, o + i * 3 + 2, none⟩ = some (.int .i64 (x.q : Int)) := k2
      have hlen : ((g.take i).filter p).length ≤ 5000 := Nat.le_trans (List.length_filter_le _ _) (by rw [List.length_take]; omega)
      have hnx : (g.take (i + 1)).filter p = (g.take i).filter p ++ (if p x then [x] else []) := by
        rw [List.take_add_one, hx, List.filter_append]
        cases hpx : p x <;> simp [hpx]
      clear k0 k1 k2
      by_cases hc : x.c = c.data.toList
      · have hpx : p x = true := hp1 x hc
        have hce : (str x.c).toList = c.toList := by rw [ByteArray.toList_eq, ByteArray.toList_eq, str_toList]; exact hc
        have hce2 : ((str x.c).toList == c.toList) = true := by rw [hce]; simp
        rw [hpx] at hnx
        obtain ⟨v2, w2, hr, ho2, hg2, -⟩ := run_append_sub (wr.alloc (.cells #[.string (str x.f), .string (str x.c), .int .i64 (x.q : Int)] 31)) w.heap.size 27 _ _ (hO.below ((Below.refl _ wr).alloc (Nat.le_refl _) _)) wr.heap.size x (World.alloc_heap_new wr _) (by omega) (by have := hb.size; simp; omega)
        have hb2 : Below w.heap.size w w2 := (hb.alloc hb.size _).grown hg2 (by have := hb.size; simp; omega) (fun b e => (ownS_lt hO b e).1)
        have HZ := Lib.hid (And.intro ho2 (And.intro hb2 hnx))
        clear ho2 hg2 hb2 hnx hO hb hlen hx hB hc hpx
        go_wp2_with (at_builtin; refine wpList_append_val rfl rfl rfl rfl hr ?_)
        exact ⟨⟨i + 1, rfl, hin, by rw [HZ.out.2.2]; exact HZ.out.1, HZ.out.2.1⟩, by show n - ((i : Int) + 1).toNat < n - (i : Int).toNat; omega⟩
      · have hpx : p x = false := hp2 x hc
        have hce : ¬ (str x.c).toList = c.toList := by rw [ByteArray.toList_eq, ByteArray.toList_eq, str_toList]; exact hc
        have hce2 : ((str x.c).toList == c.toList) = false := by simp [hce]
        rw [hpx] at hnx
        rw [if_neg (by decide), List.append_nil] at hnx
        have HZ := Lib.hid (And.intro hO (And.intro hb hnx))
        clear hnx hO hb hlen hx hB hc hpx
        go_wp2
        exact ⟨⟨i + 1, rfl, hin, by rw [HZ.out.2.2]; exact HZ.out.1, HZ.out.2.1⟩, by show n - ((i : Int) + 1).toNat < n - (i : Int).toNat; omega⟩
    · have hlt : ¬ (i : Int) < (n : Int) := by omega
      have hall : (g.take i).filter p = g.filter p := by rw [List.take_of_length_le (by omega)]
      rw [hall] at hO
      have HZ := Lib.hid (And.intro hO hb)
      clear hO hb hall
      go_wp2
      go_ret
      exact ⟨_, rfl, HZ.out⟩
set_option maxRecDepth 100000 in
set_option maxHeartbeats 4000000 in
/-- The document's Leave. -/
theorem rleave_any (w : World) (base : Nat) (v : Value) (g : List Sb) (h : OwnS w base v g) (hbase : base ≤ w.heap.size) (hg : g.length ≤ 5000) (c : ByteArray) (hcs : c.size ≤ 1000000) :
    Calls Tryz.prog 32 #[v, .string c] w fun e w' => ∃ v', e = .returned (.tuple #[v', .int .i64 ((if cliL c.data.toList then g.length - (leaveC c.data.toList g).length else 0 : Nat) : Int), .int .i64 ((if cliL c.data.toList then 0 else 2 : Nat) : Int)]) ∧ OwnS w' base v' (if cliL c.data.toList then leaveC c.data.toList g else g) ∧ Below w.heap.size w w' := by
  obtain ⟨ao, cap, rfl, hcap, hSb0⟩ := ownS_lies h
  obtain ⟨n, hgn⟩ : ∃ n, g.length = n := ⟨_, rfl⟩
  have hn5 : n ≤ 5000 := by omega
  have HC := Lib.hid (rclient_any w c hcs)
  have HH := Lib.hid h
  rw [hgn]
  cases hcl : cliL c.data.toList with
  | false =>
    rw [hcl] at HC
    rw [if_neg (by decide), if_neg (by decide), if_neg (by decide)]
    clear h hSb0 hcap
    go_enter Tryz.func32, Tryz.ntmps32
    go_wp2_with fail
    refine HC.out.mono ?_
    rintro e w2 ⟨rfl, rfl⟩
    go_wp2
    refine bodyPost_ret (results_tmp3 rfl _ _ _) rfl ?_
    exact ⟨_, rfl, hgn ▸ HH.out, Below.refl _ _⟩
  | true =>
    rw [hcl] at HC
    rw [if_pos rfl, if_pos rfl, if_pos rfl]
    obtain ⟨p, hp⟩ : ∃ p : Sb → Bool, p = fun s => !decide (s.c = c.data.toList) := ⟨_, rfl⟩
    have hp1 : ∀ x : Sb, x.c = c.data.toList → p x = false := fun x hx => by rw [hp]; simp [hx]
    have hp2 : ∀ x : Sb, ¬ x.c = c.data.toList → p x = true := fun x hx => by rw [hp]; simp [hx]
    have e : leaveC c.data.toList g = g.filter p := by rw [hp]; rfl
    have hlf : (g.filter p).length ≤ n := by rw [← hgn]; exact List.length_filter_le _ _
    have HA := Lib.hid hSb0
    rw [e]
    clear h hSb0 hcap e hp
    go_enter Tryz.func32, Tryz.ntmps32
    go_wp2_with fail
    refine HC.out.mono ?_
    rintro e w2 ⟨rfl, rfl⟩
    go_wp2
    go_loopw [7, 8, 13, 14, 15, 16, 17, 18, 19, 20, 21, 22, 23, 24, 25, 26, 27, 28, 29, 30, 31, 32] (fun xo xi _ _ _ _ _ _ _ _ _ _ _ _ _ _ _ _ _ _ _ _ wr => ∃ i : Nat, xi = .int .i64 i ∧ i ≤ n ∧ OwnS wr w.heap.size xo ((g.take i).filter p) ∧ Below w.heap.size w wr) (fun _ xi _ _ _ _ _ _ _ _ _ _ _ _ _ _ _ _ _ _ _ _ _ => n - (intOf xi).toNat)
    case atStart => exact ⟨0, rfl, Nat.zero_le _, OwnS.nil _ _, Below.refl _ _⟩
    case round =>
      obtain ⟨i, rfl, hi, hO, hb⟩ := hrel
      rcases Nat.lt_or_ge i n with hin | hin
      · have hlt : (i : Int) < (n : Int) := by omega
        have hwi : IntKind.i64.wrap ((i : Int) + 1) = (i : Int) + 1 := by rw [IntKind.wrap_i64]; omega
        obtain ⟨x, hx⟩ : ∃ x, g[i]? = some x := ⟨_, List.getElem?_eq_getElem (by omega)⟩
        obtain ⟨B, o, rfl, hB, k0, k1, k2⟩ := (ensAt_of (HA.out.below hb)) i (enOf x) (by rw [List.getElem?_map, hx]; rfl)
        have hix := index_en wr B o n cap i hin
        have c0 : wr.cell? ⟨B, o + i * 3, none⟩ = some (.string (str x.f)) := k0
        have c1 : wr.cell? ⟨B, o + i * 3 + 1, none⟩ = some (.string (str x.c)) := k1
        have c2 : wr.cell? ⟨B, o + i * 3 + 2, none⟩ = some (.int .i64 (x.q : Int)) := k2
        have hlen : ((g.take i).filter p).length ≤ 5000 := Nat.le_trans (List.length_filter_le _ _) (by rw [List.length_take]; omega)
        have hnx : (g.take (i + 1)).filter p = (g.take i).filter p ++ (if p x then [x] else []) := by
          rw [List.take_add_one, hx, List.filter_append]
          cases hpx : p x <;> simp [hpx]
        clear k0 k1 k2
        by_cases hc : x.c = c.data.toList
        · have hpx : p x = false := hp1 x hc
          have hce : (str x.c).toList = c.toList := by rw [ByteArray.toList_eq, ByteArray.toList_eq, str_toList]; exact hc
          have hce2 : ((str x.c).toList == c.toList) = true := by rw [hce]; simp
          rw [hpx] at hnx
          rw [if_neg (by decide), List.append_nil] at hnx
          have HZ := Lib.hid (And.intro hO (And.intro hb hnx))
          clear hnx hO hb hlen hx hB hc hpx
          go_wp2
          exact ⟨⟨i + 1, rfl, hin, by rw [HZ.out.2.2]; exact HZ.out.1, HZ.out.2.1⟩, by show n - ((i : Int) + 1).toNat < n - (i : Int).toNat; omega⟩
        · have hpx : p x = true := hp2 x hc
          have hce : ¬ (str x.c).toList = c.toList := by rw [ByteArray.toList_eq, ByteArray.toList_eq, str_toList]; exact hc
          have hce2 : ((str x.c).toList == c.toList) = false := by simp [hce]
          rw [hpx] at hnx
          obtain ⟨v2, w2, hr, ho2, hg2, -⟩ := run_append_sub (wr.alloc (.cells #[.string (str x.f), .string (str x.c), .int .i64 (x.q : Int)] 31)) w.heap.size 27 _ _ (hO.below ((Below.refl _ wr).alloc (Nat.le_refl _) _)) wr.heap.size x (World.alloc_heap_new wr _) (by omega) (by have := hb.size; simp; omega)
          have hb2 : Below w.heap.size w w2 := (hb.alloc hb.size _).grown hg2 (by have := hb.size; simp; omega) (fun b e => (ownS_lt hO b e).1)
          have HZ := Lib.hid (And.intro ho2 (And.intro hb2 hnx))
          clear ho2 hg2 hb2 hnx hO hb hlen hx hB hc hpx
          go_wp2_with (at_builtin; refine wpList_append_val rfl rfl rfl rfl hr ?_)
          exact ⟨⟨i + 1, rfl, hin, by rw [HZ.out.2.2]; exact HZ.out.1, HZ.out.2.1⟩, by show n - ((i : Int) + 1).toNat < n - (i : Int).toNat; omega⟩
      · have hlt : ¬ (i : Int) < (n : Int) := by omega
        have hall : (g.take i).filter p = g.filter p := by rw [List.take_of_length_le (by omega)]
        rw [hall] at hO
        obtain ⟨vo, co, rfl⟩ := ownS_slice hO
        have hws : IntKind.i64.wrap ((n : Int) - (((g.filter p).length : Nat) : Int)) = ((n - (g.filter p).length : Nat) : Int) := by rw [IntKind.wrap_i64]; omega
        have HZ := Lib.hid (And.intro (hO.mono hbase) hb)
        clear hO hb hall hlf
        go_wp2
        refine bodyPost_ret (results_tmp3 rfl _ _ _) rfl ?_
        exact ⟨_, rfl, HZ.out⟩
end Go.Proofs.YtgcfgheamaoceaaGreatDoor
/- Layer 14: the document's Same, of entries (its drawn region's text: wip/tools/mkmatss.py). -/
namespace Go.Proofs.YtgcfgheamaoceaaGreatDoor
open Go.RowKit Go.MapKept Go.ChangeMaps Go.Maps

theorem eq_sb (x y : Sb) (w : World) : (Op.equalIn 10000 31 (.agg #[.string (str x.f), .string (str x.c), .int .i64 (x.q : Int)]) (.agg #[.string (str y.f), .string (str y.c), .int .i64 (y.q : Int)])).run Tryz.prog w = .ok (x == y) w := by
  rw [show (10000 : Nat) = 9999 + 1 from rfl, run_equalIn_agg _ _ _ _ _ (by kernel_rfl) (by kernel_rfl)]
  obtain ⟨a, b, p⟩ := x
  obtain ⟨a', b', q⟩ := y
  have h1 : (str a).toList = (str a').toList ↔ a = a' := by rw [ByteArray.toList_eq, ByteArray.toList_eq, str_toList, str_toList]
  have h2 : (str b).toList = (str b').toList ↔ b = b' := by rw [ByteArray.toList_eq, ByteArray.toList_eq, str_toList, str_toList]
  have h3 : ((p : Int) = (q : Int)) ↔ p = q := by omega
  simp [go_sem, Op.eqFields, h1, h2, h3]
  by_cases ha : a = a' <;> by_cases hb : b = b' <;> by_cases hq : p = q <;> simp [ha, hb, hq]
theorem neq_sb (x y : Sb) (w : World) : (binOp .neq 31 (.agg #[.string (str x.f), .string (str x.c), .int .i64 (x.q : Int)]) (.agg #[.string (str y.f), .string (str y.c), .int .i64 (y.q : Int)])).run Tryz.prog w = .ok (.bool (!(x == y))) w := by
  rw [run_neq_struct, eq_sb, Result.andThen_ok]
theorem guard_sb (x y : Sb) (p q : Operand) (w : World) : (eqGuard .neq 31 p q (.agg #[.string (str x.f), .string (str x.c), .int .i64 (x.q : Int)]) (.agg #[.string (str y.f), .string (str y.c), .int .i64 (y.q : Int)])).run Tryz.prog w = .ok () w := run_eqGuard_agg w .neq _ _ _ _ _ (by kernel_rfl)
theorem sb_at {w : World} {a : Option Addr} {L : List Sb} (h : SbAt w a L) {i : Nat} {s : Sb} (hs : L[i]? = some s) : ∃ B o, a = some ⟨B, o, none⟩ ∧ w.cell? ⟨B, o + i * 3, none⟩ = some (.string (str s.f)) ∧ w.cell? ⟨B, o + i * 3 + 1, none⟩ = some (.string (str s.c)) ∧ w.cell? ⟨B, o + i * 3 + 2, none⟩ = some (.int .i64 (s.q : Int)) := by
  obtain ⟨B, o, e, -, k0, k1, k2⟩ := ensAt_of h i (enOf s) (by rw [List.getElem?_map, hs]; rfl)
  exact ⟨B, o, e, k0, k1, k2⟩
def SaV (B o D u n c1 c2 m : Nat) (x y : Sb) : Nat → Value → World → Prop
  | 0, v, _ => v = .slice (some ⟨B, o, none⟩) n c1
  | 1, v, _ => v = .int .i64 (m : Int)
  | 2, v, _ => v = .pointer (some ⟨B, o + m * 3, none⟩)
  | 3, v, _ => v = .agg #[.string (str x.f), .string (str x.c), .int .i64 (x.q : Int)]
  | 4, v, _ => v = .slice (some ⟨D, u, none⟩) n c2
  | 5, v, _ => v = .int .i64 (m : Int)
  | 6, v, _ => v = .pointer (some ⟨D, u + m * 3, none⟩)
  | 7, v, _ => v = .agg #[.string (str y.f), .string (str y.c), .int .i64 (y.q : Int)]
  | 8, v, _ => v = .bool (!(x == y))
  | _, _, _ => True
set_option maxRecDepth 100000 in
set_option maxHeartbeats 4000000 in
/-- The same in memory, entry by entry. -/
theorem rsame_any (w : World) (b1 b2 : Nat) (x1 x2 : Value) (L1 L2 : List Sb) (h1 : OwnS w b1 x1 L1) (h2 : OwnS w b2 x2 L2) (hle : L1.length ≤ 5000) :
    Calls Tryz.prog 13 #[x1, x2] w fun e w' => e = .returned (.bool (L1 == L2)) ∧ Below w.heap.size w w' := by
  obtain ⟨v1, c1, rfl, -, s1⟩ := ownS_lies h1
  obtain ⟨v2, c2, rfl, -, s2⟩ := ownS_lies h2
  clear h1 h2
  by_cases hl : L1.length = L2.length
  case neg =>
    have hE : (L1 == L2) = false := by
      rw [Bool.eq_false_iff]
      intro e
      exact hl (by rw [eq_of_beq e])
    rw [hE]
    have hne : ((L1.length : Int) != (L2.length : Int)) = true := by simp; omega
    have hne2 : ¬ (L1.length : Int) = (L2.length : Int) := by omega
    have hne3 := hl
    clear s1 s2 hE hl
    go_enter Tryz.func13, Tryz.ntmps13
    go_wp2
    go_ret
    exact ⟨rfl, Below.refl _ _⟩
  case pos =>
    rw [← hl]
    obtain ⟨n, hn⟩ : ∃ n, L1.length = n := ⟨_, rfl⟩
    have hl2 : L2.length = n := by rw [← hl, hn]
    rw [hn]
    have HL := Lib.hid (And.intro s1 (And.intro s2 (And.intro hl2 hn)))
    rw [hn] at hle
    clear s1 s2 hl hn hl2
    go_enter Tryz.func13, Tryz.ntmps13
    go_wp2
    refine wp_loop_ghost (σ := Nat) (fun m a wr => ∃ u2 u3 u6 u7 u8 u9 u10 u11 u12 u13 u14 u15 u16 u17 u18 u19 u20 u21 u22 u23 u24 u25 : Value, a = { tmps := #[.slice v1 n c1, .slice v2 n c2, u2, u3, .bool false, .int .i64 (m : Int), u6, u7, u8, u9, u10, u11, u12, u13, u14, u15, u16, u17, u18, u19, u20, u21, u22, u23, u24, u25], defers := [] } ∧ m ≤ n ∧ L1.take m = L2.take m ∧ Below w.heap.size w wr) (fun m => n + 1 - m) (s0 := 0) ⟨_, _, _, _, _, _, _, _, _, _, _, _, _, _, _, _, _, _, _, _, _, _, rfl, Nat.zero_le _, rfl, Below.refl _ _⟩ ?_
    rintro m a wr ⟨u2, u3, u6, u7, u8, u9, u10, u11, u12, u13, u14, u15, u16, u17, u18, u19, u20, u21, u22, u23, u24, u25, rfl, hi, htk, hb⟩
    obtain ⟨s1, s2, hl, hn⟩ := HL.out
    rcases Nat.lt_or_ge m n with hin | hin
    · obtain ⟨x, hx⟩ : ∃ x, L1[m]? = some x := ⟨_, List.getElem?_eq_getElem (by omega)⟩
      obtain ⟨y, hy⟩ : ∃ y, L2[m]? = some y := ⟨_, List.getElem?_eq_getElem (by omega)⟩
      obtain ⟨B, o, e1, cx0, cx1, cx2⟩ := sb_at (s1.below hb) hx
      obtain ⟨D, u, e2, cy0, cy1, cy2⟩ := sb_at (s2.below hb) hy
      subst e1
      subst e2
      have hlt : (m : Int) < (n : Int) := by omega
      have hinc : IntKind.i64.wrap ((m : Int) + 1) = (m : Int) + 1 := by rw [IntKind.wrap_i64]; omega
      have HH := Lib.hid (And.intro htk (And.intro hb (And.intro hx (And.intro hy (And.intro hl (And.intro hn hi))))))
      clear htk hb hx hy hl hn hi s1 s2 HL
      go_wp2
      refine wp_region_m (fun _ W => W = wr.drew) (SaV B o D u n c1 c2 m x y) (by kernel_rfl) (by kernel_rfl) (by kernel_rfl) (by kernel_rfl) rfl ?step ?fin
      case step =>
        intro i o ho listed a w' hI hn' hpre
        have hJ := hI.inv
        have hi : i < 9 := (Array.getElem?_eq_some_iff.1 ho).1
        match i, hi with
        | 0, _ =>
          cases ho
          exact wpOp_move rfl rfl (.inl rfl) (hI.kept (t := 0) (by kernel_rfl)) ⟨_, rfl, hJ, fun _ => rfl, fun _ _ _ h => h⟩
        | 1, _ =>
          cases ho
          exact wpOp_move rfl rfl (.inl rfl) (hI.kept (t := 5) (by kernel_rfl)) ⟨_, rfl, hJ, fun _ => rfl, fun _ _ _ h => h⟩
        | 2, _ =>
          cases ho
          exact wpOp_index rfl rfl rfl (hI.slot 0 17 rfl (hpre ⟨0, .data⟩ (by simp) rfl) rfl) (hI.slot 1 18 rfl (hpre ⟨1, .data⟩ (by simp) rfl) rfl) (index_en w' B o n c1 m hin) ⟨_, rfl, hJ, fun _ => rfl, fun _ _ _ h => h⟩
        | 3, _ =>
          cases ho
          exact wpOp_load rfl rfl rfl (hI.slot 2 19 rfl (hpre ⟨2, .data⟩ (by simp) rfl) rfl) (load_en (s := enOf x) (show w'.cell? _ = _ from by rw [hJ]; exact cx0) (show w'.cell? _ = _ from by rw [hJ]; exact cx1) (show w'.cell? _ = _ from by rw [hJ]; exact cx2)) ⟨_, rfl, hJ, fun _ => rfl, fun _ _ _ h => h⟩
        | 4, _ =>
          cases ho
          exact wpOp_move rfl rfl (.inl rfl) (hI.kept (t := 1) (by kernel_rfl)) ⟨_, rfl, hJ, fun _ => rfl, fun _ _ _ h => h⟩
        | 5, _ =>
          cases ho
          exact wpOp_move rfl rfl (.inl rfl) (hI.kept (t := 5) (by kernel_rfl)) ⟨_, rfl, hJ, fun _ => rfl, fun _ _ _ h => h⟩
        | 6, _ =>
          cases ho
          exact wpOp_index rfl rfl rfl (hI.slot 4 21 rfl (hpre ⟨4, .data⟩ (by simp) rfl) rfl) (hI.slot 5 22 rfl (hpre ⟨5, .data⟩ (by simp) rfl) rfl) (index_en w' D u n c2 m hin) ⟨_, rfl, hJ, fun _ => rfl, fun _ _ _ h => h⟩
        | 7, _ =>
          cases ho
          exact wpOp_load rfl rfl rfl (hI.slot 6 23 rfl (hpre ⟨6, .data⟩ (by simp) rfl) rfl) (load_en (s := enOf y) (show w'.cell? _ = _ from by rw [hJ]; exact cy0) (show w'.cell? _ = _ from by rw [hJ]; exact cy1) (show w'.cell? _ = _ from by rw [hJ]; exact cy2)) ⟨_, rfl, hJ, fun _ => rfl, fun _ _ _ h => h⟩
        | 8, _ =>
          cases ho
          exact wpOp_bin rfl rfl rfl (hI.slot 3 20 rfl (hpre ⟨3, .data⟩ (by simp) rfl) rfl) (hI.slot 7 24 rfl (hpre ⟨7, .data⟩ (by simp) rfl) rfl) (guard_sb _ _ _ _ _) (neq_sb _ _ _) ⟨_, rfl, hJ, fun _ => rfl, fun _ _ _ h => h⟩
      case fin =>
        intro listed a w' hI hall
        have hJ := hI.inv
        have eS25 : a.tmps.getD 25 undef = .bool (!(x == y)) := hI.slot 8 25 rfl (hall 8 (by decide)) rfl
        obtain ⟨vs, hvl, hvs, e⟩ := hI.frame 17 9 (Nat.le_of_ble_eq_true (by kernel_rfl)) (by kernel_rfl)
        have vS25 := hvs 8 (by decide)
        clear hI hall hvs
        match vs, hvl with
        | [x0, x1, x2, x3, x4, x5, x6, x7, x8], _ =>
        simp only [List.getElem?_cons_zero, List.getElem?_cons_succ, Option.some.injEq] at vS25
        rw [show 17 + 8 = 25 from rfl, eS25] at vS25
        subst vS25
        simp only [List.take_succ_cons, List.take_zero, List.drop_succ_cons, List.drop_zero, List.cons_append, List.nil_append, Nat.reduceAdd] at e
        subst e
        clear eS25
        subst hJ
        obtain ⟨htk, hb, hx, hy, hl, hn, hi⟩ := HH.out
        by_cases hxy : x = y
        · have hbe : (x == y) = true := by simp [hxy]
          rw [hbe]
          have hnx : L1.take (m + 1) = L2.take (m + 1) := by rw [List.take_add_one, List.take_add_one, htk, hx, hy, hxy]
          have hb' : Below w.heap.size w wr.drew := hb.drew
          have HZ := Lib.hid (And.intro hnx hb')
          have hm : n + 1 - (m + 1) < n + 1 - m := by omega
          clear htk hb hx hy hl hn hi hxy hbe hnx hb' HH cx0 cx1 cx2 cy0 cy1 cy2
          go_wp2
          change ∃ s' : Nat, _ ∧ _
          exact ⟨m + 1, hm, _, _, _, _, _, _, _, _, _, _, _, _, _, _, _, _, _, _, _, _, _, _, rfl, hin, HZ.out.1, HZ.out.2⟩
        · have hbe : (x == y) = false := by simp [hxy]
          have hE : (L1 == L2) = false := by
            rw [Bool.eq_false_iff]
            intro e
            rw [eq_of_beq e] at hx
            rw [hx] at hy
            injection hy with hy
            exact hxy hy
          rw [hbe]
          have HZ := Lib.hid (And.intro hE hb.drew)
          clear htk hb hx hy hl hn hi hxy hbe hE HH cx0 cx1 cx2 cy0 cy1 cy2
          go_wp2
          go_ret
          exact ⟨(congrArg (fun b => Ending.returned (Value.bool b)) HZ.out.1).symm, HZ.out.2⟩
    · have hge : ¬ (m : Int) < (n : Int) := by omega
      have hE : (L1 == L2) = true := by
        rw [beq_iff_eq]
        rwa [List.take_of_length_le (by omega), List.take_of_length_le (by omega)] at htk
      have HZ := Lib.hid (And.intro hE hb)
      clear htk hb hl hn hi s1 s2 HL hE hin
      go_wp2
      go_ret
      exact ⟨(congrArg (fun b => Ending.returned (Value.bool b)) HZ.out.1).symm, HZ.out.2⟩
end Go.Proofs.YtgcfgheamaoceaaGreatDoor
/- Layer 14, pure: what MatchAlone compares: who is told of one entry, of all; which entries stand behind several sets. -/
namespace Go.Proofs.YtgcfgheamaoceaaGreatDoor

/-- Who is told, as it is laid. -/
noncomputable def toldL (ks : List Txt) (Mp : Txt → Option Nat) : List (Txt × Nat) := (ks.mergeSort fun x y => decide (x ≤ y)).map fun c => (c, (Mp c).getD 0)
theorem told_mem {ks : List Txt} {Mp : Txt → Option Nat} {p : Txt × Nat} : p ∈ toldL ks Mp ↔ p.1 ∈ ks ∧ p.2 = (Mp p.1).getD 0 := by
  unfold toldL
  simp only [List.mem_map, List.mem_mergeSort]
  constructor
  · rintro ⟨c, hc, rfl⟩
    exact ⟨hc, rfl⟩
  · rintro ⟨hc, h2⟩
    exact ⟨p.1, hc, by rw [← h2]⟩
theorem told_len (ks : List Txt) (Mp : Txt → Option Nat) : (toldL ks Mp).length = ks.length := by unfold toldL; simp
/-- Of no entry: nobody. -/
theorem told_nil {ks : List Txt} {Mp : Txt → Option Nat} (hm : ∀ c, c ∈ ks ↔ (Mp c).isSome = true) (hG : GreatOf [] Mp) : toldL ks Mp = [] := by
  have h0 : ks = [] := by
    rw [List.eq_nil_iff_forall_not_mem]
    intro c hc
    have h1 := (hG c).1.2 (fun s hs => by cases hs)
    rw [hm c, h1] at hc
    cases hc
  rw [h0]
  simp [toldL]
/-- Of one: its Client, its Qos. -/
theorem told_one {ks : List Txt} {Mp : Txt → Option Nat} {s : Sb} (hn : ks.Nodup) (hm : ∀ c, c ∈ ks ↔ (Mp c).isSome = true) (hG : GreatOf [s] Mp) : toldL ks Mp = [(s.c, s.q)] := by
  have hs : Mp s.c = some s.q := by
    obtain ⟨h1, h2⟩ := hG s.c
    cases hM : Mp s.c with
    | none => exact absurd rfl (h1.1 hM s (by simp))
    | some q =>
      obtain ⟨⟨x, hx, -, hq⟩, -⟩ := h2 q hM
      rw [List.mem_singleton] at hx
      rw [← hq, hx]
  have hk : ∀ c, c ∈ ks ↔ c = s.c := fun c => by
    rw [hm c]
    constructor
    · intro h
      obtain ⟨q, hq⟩ := Option.isSome_iff_exists.1 h
      obtain ⟨⟨x, hx, hc, -⟩, -⟩ := (hG c).2 q hq
      rw [List.mem_singleton] at hx
      rw [← hc, hx]
    · rintro rfl
      rw [hs]
      rfl
  have h1 : ks = [s.c] := by
    match ks, hn, hk with
    | [], _, hk => exact absurd ((hk s.c).2 rfl) (by simp)
    | [a], _, hk => rw [(hk a).1 (by simp)]
    | a :: b :: r, hn, hk =>
      have e1 := (hk a).1 (by simp)
      have e2 := (hk b).1 (by simp)
      rw [e1, e2] at hn
      simp at hn
  rw [h1]
  unfold toldL
  simp [hs]
/-- Whoever has an entry among them is told of no less. -/
theorem told_has {ks : List Txt} {Mp : Txt → Option Nat} {L : List Sb} {s : Sb} (hm : ∀ c, c ∈ ks ↔ (Mp c).isSome = true) (hG : GreatOf L Mp) (hs : s ∈ L) : ∃ q, (s.c, q) ∈ toldL ks Mp ∧ s.q ≤ q := by
  cases hM : Mp s.c with
  | none => exact absurd rfl ((hG s.c).1.1 hM s hs)
  | some q => exact ⟨q, told_mem.2 ⟨(hm _).2 (by rw [hM]; rfl), by rw [hM]; rfl⟩, ((hG s.c).2 q hM).2 s hs rfl⟩
/-- An entry as the law gives it; may it be; what is left of a list when it is set. -/
def enS (e : En) : Sb := entry e.f.data.toList e.c.data.toList e.q
def okE (e : En) : Prop := subE e.f.data.toList e.c.data.toList e.q = 0
noncomputable def setE (g : List Sb) (e : En) : List Sb := (setP g e.f.data.toList e.c.data.toList e.q).1
theorem setE_no {g : List Sb} {e : En} (h : ¬ okE e) : setE g e = g := by
  have h' : subE e.f.data.toList e.c.data.toList e.q ≠ 0 := h
  unfold setE setP
  rw [if_pos h']
theorem setE_ok {g : List Sb} {e : En} (h : okE e) (hg : g.length < 4096) : setE g e = insG (enS e) g := by
  unfold setE setP
  rw [if_neg (fun k => k h), if_neg (by simp; intro _; omega)]
  rfl
theorem setE_all {g : List Sb} (e : En) (hr : Rise g) (hg : g.length < 4096) : Rise (setE g e) ∧ (setE g e).length ≤ g.length + 1 := by
  by_cases h : okE e
  · rw [setE_ok h hg]
    refine ⟨rise_insG hr, ?_⟩
    rw [len_insG hr]
    split <;> omega
  · rw [setE_no h]
    exact ⟨hr, Nat.le_succ _⟩
/-- The entries behind the first i. -/
noncomputable def setsE (L : List En) (i : Nat) : List Sb := (L.take i).foldl setE []
theorem setsE_succ {L : List En} {i : Nat} {e : En} (h : L[i]? = some e) : setsE L (i + 1) = setE (setsE L i) e := by
  unfold setsE
  rw [List.take_add_one, h]
  simp
theorem setsE_all (L : List En) (hL : L.length ≤ 4000) : ∀ i, i ≤ L.length → Rise (setsE L i) ∧ (setsE L i).length ≤ i
  | 0, _ => ⟨List.Pairwise.nil, Nat.le_refl _⟩
  | i + 1, hi => by
    obtain ⟨h1, h2⟩ := setsE_all L hL i (by omega)
    obtain ⟨e, he⟩ : ∃ e, L[i]? = some e := ⟨_, List.getElem?_eq_getElem (by omega)⟩
    rw [setsE_succ he]
    obtain ⟨h3, h4⟩ := setE_all e h1 (by omega)
    exact ⟨h3, by omega⟩
/-- One that no later one replaces is there. -/
theorem setsE_has {L : List En} (hL : L.length ≤ 4000) {i : Nat} {e : En} (he : L[i]? = some e) (hok : okE e) : ∀ j, i < j → j ≤ L.length → (∀ k x, i < k → k < j → L[k]? = some x → okE x → ¬ sameK (enS e) (enS x)) → enS e ∈ setsE L j
  | 0, hij, _, _ => absurd hij (Nat.not_lt_zero _)
  | j + 1, hij, hj, hno => by
    obtain ⟨h1, h2⟩ := setsE_all L hL j (by omega)
    obtain ⟨x, hx⟩ : ∃ x, L[j]? = some x := ⟨_, List.getElem?_eq_getElem (by omega)⟩
    rw [setsE_succ hx]
    by_cases hji : j = i
    · subst hji
      rw [he] at hx
      cases hx
      rw [setE_ok hok (by omega), mem_insG h1]
      exact .inl rfl
    · have ih := setsE_has hL he hok j (by omega) (by omega) fun k y h3 h4 => hno k y h3 (by omega)
      by_cases hx2 : okE x
      · rw [setE_ok hx2 (by omega), mem_insG h1]
        exact .inr ⟨ih, hno j x (by omega) (by omega) hx hx2⟩
      · rw [setE_no hx2]
        exact ih
/-- All that are there were set. -/
theorem setsE_from {L : List En} (hL : L.length ≤ 4000) : ∀ j, j ≤ L.length → ∀ s ∈ setsE L j, ∃ k x, k < j ∧ L[k]? = some x ∧ okE x ∧ s = enS x
  | 0, _, s, hs => by cases hs
  | j + 1, hj, s, hs => by
    obtain ⟨h1, h2⟩ := setsE_all L hL j (by omega)
    obtain ⟨x, hx⟩ : ∃ x, L[j]? = some x := ⟨_, List.getElem?_eq_getElem (by omega)⟩
    rw [setsE_succ hx] at hs
    by_cases hx2 : okE x
    · rw [setE_ok hx2 (by omega), mem_insG h1] at hs
      rcases hs with rfl | ⟨hs, -⟩
      · exact ⟨j, x, by omega, hx, hx2, rfl⟩
      · obtain ⟨k, y, h3, h4⟩ := setsE_from hL j (by omega) s hs
        exact ⟨k, y, by omega, h4⟩
    · rw [setE_no hx2] at hs
      obtain ⟨k, y, h3, h4⟩ := setsE_from hL j (by omega) s hs
      exact ⟨k, y, by omega, h4⟩
end Go.Proofs.YtgcfgheamaoceaaGreatDoor
/- Layer 14: two books that are new, side by side: a call on one leaves the other; a name's answer, as toldL. -/
namespace Go.Proofs.YtgcfgheamaoceaaGreatDoor
open Go.RowKit Go.MapKept Go.ChangeMaps Go.Maps

section
variable {w W W' : World} {BkA BkB : Nat} {gA gB : List Sb} {tA tB : Tr}
/-- They share no block. -/
def Aside2 (BkA : Nat) (tA : Tr) (BkB : Nat) (tB : Tr) : Prop := ∀ k, BkF BkA tA k → ¬ BkF BkB tB k
theorem Aside2.symm (h : Aside2 BkA tA BkB tB) : Aside2 BkB tB BkA tA := fun k hk hk2 => h k hk2 hk
/-- One that is made later shares none with one that stands. -/
theorem aside_new (hA : Fresh w BkA gA tA W) (hn : ∀ k, BkF BkB tB k → W.heap.size ≤ k) : Aside2 BkA tA BkB tB := fun k hk hk2 => by
  have h1 := hA.book.lt hk
  have h2 := hn k hk2
  omega
/-- Set on the one. -/
theorem set_aside (hA : Fresh w BkA gA tA W) (hB : Fresh w BkB gB tB W) (hd : Aside2 BkA tA BkB tB) (ht : Tabs w) (e : En) (hf : e.f.size ≤ 1000) (hc : e.c.size ≤ 1000000) :
    Calls Tryz.prog 16 #[.pointer (some ⟨BkA, 0, none⟩), .agg #[.string e.f, .string e.c, .int .i64 e.q]] W fun en W' =>
      en = .returned (.tuple #[.bool (setP gA e.f.data.toList e.c.data.toList e.q).2.1, .int .i64 ((setP gA e.f.data.toList e.c.data.toList e.q).2.2 : Int)]) ∧ ∃ tA', Fresh w BkA (setE gA e) tA' W' ∧ Fresh w BkB gB tB W' ∧ Aside2 BkA tA' BkB tB ∧
        (∀ k, k < W.heap.size → ¬ BkF BkA tA k → W'.heap[k]? = W.heap[k]?) ∧ (∀ k, BkF BkA tA' k → BkF BkA tA k ∨ W.heap.size ≤ k) ∧ W.heap.size ≤ W'.heap.size := by
  refine (set_any hA.book (hA.tabs ht) e.f e.c hf hc e.q).mono ?_
  rintro en W' ⟨rfl, t', hl⟩
  have hb : ∀ k, BkF BkB tB k → W'.heap[k]? = W.heap[k]? := fun k hk => hl.kp.block k (hB.book.lt hk) (hd.symm k hk)
  refine ⟨rfl, t', hA.lay hl, ⟨hB.book.keeps hb, hB.new, (hA.lay hl).low⟩, fun k hk hk2 => ?_, hl.kp.block, hl.foot, hl.kp.size⟩
  rcases hl.foot k hk with h1 | h1
  · exact hd k h1 hk2
  · have := hB.book.lt hk2
    omega
/-- Meets of the one. -/
theorem meets_aside (hA : Fresh w BkA gA tA W) (ht : Tabs w) (n : ByteArray) (hn : n.size ≤ 1000) (hN : nameL n.data.toList = true) :
    Calls Tryz.prog 17 #[.pointer (some ⟨BkA, 0, none⟩), .string n] W fun e W' => ∃ (v : Value) (ks : List Txt) (Mp : Txt → Option Nat), e = .returned (.tuple #[v, .int .i64 0]) ∧ ks.Nodup ∧ (∀ c, c ∈ ks ↔ (Mp c).isSome = true) ∧ GreatOf (gA.filter fun s => meetsL s.f n.data.toList) Mp ∧ OwnTd W' W.heap.size v (toldL ks Mp) ∧ Below W.heap.size W W' := by
  refine (bmeets_yes hA.book (hA.tabs ht) n hn hN).mono ?_
  rintro e W' ⟨v, ks, Mp, h1, h2, h3, h4, h5, h6⟩
  exact ⟨v, ks, Mp, h1, h2, h3, h4, h5, h6⟩
end
/-- Of a book of one entry: the entry's Client, if it meets. -/
theorem told_single {ks : List Txt} {Mp : Txt → Option Nat} {s : Sb} {n : List UInt8} (hn : ks.Nodup) (hm : ∀ c, c ∈ ks ↔ (Mp c).isSome = true) (hG : GreatOf ([s].filter fun s => meetsL s.f n) Mp) : toldL ks Mp = if meetsL s.f n then [(s.c, s.q)] else [] := by
  cases h : meetsL s.f n with
  | true =>
    rw [show ([s].filter fun s => meetsL s.f n) = [s] by simp [h]] at hG
    rw [told_one hn hm hG]
    rfl
  | false =>
    rw [show ([s].filter fun s => meetsL s.f n) = [] by simp [h]] at hG
    rw [told_nil hm hG]
    rfl
/-- An error of Set is the entry's alone, while there is room. -/
theorem setP_err {g : List Sb} {f c : List UInt8} {q : Int} (hg : g.length < 4096) : (setP g f c q).2.2 = subE f c q := by
  unfold setP
  by_cases h : subE f c q = 0
  · rw [if_neg (fun k => k h), if_neg (by simp; intro _; omega), h]
  · rw [if_pos h]
end Go.Proofs.YtgcfgheamaoceaaGreatDoor
/- Layer 14: rows of rows of what is told, as MatchAlone gathers them beside its books. -/
namespace Go.Proofs.YtgcfgheamaoceaaGreatDoor
open Go.RowKit Go.MapKept Go.ChangeMaps Go.Maps

theorem ownTd_kept {w w' : World} {base : Nat} {v : Value} {L : List (Txt × Nat)} (h : OwnTd w base v L) (hg : ∀ g, v.ownBlock = some g → w'.heap[g]? = w.heap[g]?) : OwnTd w' base v L := by
  rcases h with ⟨hl, e | ⟨g, cp, cur, rfl, hb, hh, r⟩⟩
  · exact ⟨hl, .inl e⟩
  · exact ⟨hl, .inr ⟨g, cp, cur, rfl, hb, (hg g rfl).trans hh, r⟩⟩
theorem ownTd_one {w : World} {base : Nat} {v : Value} {L : List (Txt × Nat)} (h : OwnTd w base v L) : v.oneCell' = true := by
  rcases h.2 with ⟨rfl, _⟩ | ⟨g', cap, cur, rfl, _⟩ <;> rfl
/-- Rows of what is told, none in the blocks N. -/
def OnesAt (w : World) (base : Nat) (N : Nat → Prop) (v : Value) (X : List (List (Txt × Nat))) : Prop :=
  ∃ vs : List Value, w.ownsRow base 42 1 v X.length vs ∧ (∀ g, v.ownBlock = some g → ¬ N g) ∧ (∀ u ∈ vs, u.oneCell' = true) ∧ ∀ (i : Nat) (x : List (Txt × Nat)), X[i]? = some x → ∃ u, vs[i]? = some u ∧ OwnTd w base u x ∧ ∀ g, u.ownBlock = some g → ¬ N g
section
variable {w w' : World} {base : Nat} {N N' : Nat → Prop} {v : Value} {X : List (List (Txt × Nat))}
theorem OnesAt.nil (w : World) (base : Nat) (N : Nat → Prop) : OnesAt w base N (.slice none 0 0) [] :=
  ⟨[], World.ownsRow_nil w base _ _, fun g e => (by cases e), fun u hu => (by cases hu), fun i x h => (by cases h)⟩
theorem row_lt {vs : List Value} {n : Nat} (h : w.ownsRow base 42 1 v n vs) (g : Nat) (hg : v.ownBlock = some g) : base ≤ g ∧ g < w.heap.size := by
  rcases h.2 with ⟨rfl, _⟩ | ⟨g', cap, cur, rfl, hb, hh, _⟩
  · cases hg
  · cases hg; exact ⟨hb, (Array.getElem?_eq_some_iff.1 hh).1⟩
theorem row_kept {vs : List Value} {n : Nat} (h : w.ownsRow base 42 1 v n vs) (hg : ∀ g, v.ownBlock = some g → w'.heap[g]? = w.heap[g]?) : w'.ownsRow base 42 1 v n vs := by
  rcases h with ⟨hl, e | ⟨g, cp, cur, rfl, hb, hh, r⟩⟩
  · exact ⟨hl, .inl e⟩
  · exact ⟨hl, .inr ⟨g, cp, cur, rfl, hb, (hg g rfl).trans hh, r⟩⟩
/-- What leaves all blocks but N leaves them. -/
theorem OnesAt.kept (h : OnesAt w base N v X) (hk : ∀ k, k < w.heap.size → ¬ N k → w'.heap[k]? = w.heap[k]?) : OnesAt w' base N v X := by
  obtain ⟨vs, h1, h2, h3, h4⟩ := h
  refine ⟨vs, row_kept h1 fun g hg => hk g (row_lt h1 g hg).2 (h2 g hg), h2, h3, fun i x hx => ?_⟩
  obtain ⟨u, e1, e2, e3⟩ := h4 i x hx
  exact ⟨u, e1, ownTd_kept e2 fun g hg => hk g (ownTd_lt e2 g hg).2 (e3 g hg), e3⟩
theorem OnesAt.below (h : OnesAt w base N v X) (hb : Below w.heap.size w w') : OnesAt w' base N v X := h.kept fun k hk _ => hb.block k hk
/-- The books may grow by blocks that are new. -/
theorem OnesAt.move (h : OnesAt w base N v X) (hN : ∀ k, N' k → N k ∨ w.heap.size ≤ k) : OnesAt w base N' v X := by
  obtain ⟨vs, h1, h2, h3, h4⟩ := h
  have key : ∀ g, g < w.heap.size → ¬ N g → ¬ N' g := fun g hg hn hn2 => (hN g hn2).elim hn fun hge => by omega
  refine ⟨vs, h1, fun g hg => key g (row_lt h1 g hg).2 (h2 g hg), h3, fun i x hx => ?_⟩
  obtain ⟨u, e1, e2, e3⟩ := h4 i x hx
  exact ⟨u, e1, e2, fun g hg => key g (ownTd_lt e2 g hg).2 (e3 g hg)⟩
theorem OnesAt.slice (h : OnesAt w base N v X) : ∃ a cap, v = .slice a X.length cap := by
  obtain ⟨vs, h1, -⟩ := h
  rcases h1.2 with ⟨rfl, h0⟩ | ⟨g', cap, cur, rfl, _⟩
  · exact ⟨none, 0, by rw [h0]⟩
  · exact ⟨_, cap, rfl⟩
/-- Where one lies, and it. -/
theorem OnesAt.at_ (h : OnesAt w base N v X) {i : Nat} {x : List (Txt × Nat)} (hx : X[i]? = some x) : ∃ g cap u, v = .slice (some ⟨g, 0, none⟩) X.length cap ∧ w.cell? ⟨g, 0 + i * 1, none⟩ = some u ∧ OwnTd w base u x := by
  obtain ⟨vs, h1, -, -, h4⟩ := h
  obtain ⟨u, e1, e2, -⟩ := h4 i x hx
  have hi := (List.getElem?_eq_some_iff.1 hx).1
  rcases h1.2 with ⟨-, h0⟩ | ⟨g, cap, cur, rfl, hb, hh, hn, hcap, hcs, htk⟩
  · omega
  · refine ⟨g, cap, u, rfl, ?_, e2⟩
    rw [cell_of_row w g (0 + i * 1) _ _ _ hh, Nat.mul_one, Nat.zero_add]
    rw [← htk, List.getElem?_take] at e1
    split at e1
    · simpa using e1
    · cases e1
theorem infoTds : (Tryz.prog.info? 42).map (fun i => (i.zero, i.size, i.bytes)) = some (some (.slice none 0 0), 1, 24) := by kernel_rfl
/-- append of one more, that lies in a box. -/
theorem OnesAt.snoc (h : OnesAt w base N v X) (ty B : Nat) (u : Value) (x : List (Txt × Nat)) (hu : OwnTd w base u x) (hun : ∀ g, u.ownBlock = some g → ¬ N g) (hB : w.heap[B]? = some (.cells #[u] 42 (0, 0))) (hN : ∀ k, N k → k < w.heap.size) (hX : X.length ≤ 1000000) (hbase : base ≤ w.heap.size) :
    ∃ v' w', (Builtin.append_ #[62, 62] ty #[v, .slice (some ⟨B, 0, none⟩) 1 1]).run Tryz.prog w = .ok v' w' ∧ OnesAt w' base N v' (X ++ [x]) ∧ w.grownBy w' v.ownBlock ∧ (∀ g, v.ownBlock = some g → ¬ N g ∧ base ≤ g) := by
  obtain ⟨vs, h1, h2, h3, h4⟩ := h
  obtain ⟨i0, hi, hz0, hz1, hz2⟩ := info_parts infoTds
  obtain ⟨v', w', r1, r2, r3, -, r5⟩ := run_append_own_at (P := Tryz.prog) (w := w) base 62 ty 42 i0 _ 1 24 Tryz.underlying62 hi hz0 hz1 hz2 rfl (by decide) v X.length vs h1 ⟨B, 0, none⟩ 1 1 [u] rfl (fun j y hy => by
      match j, hy with
      | 0, hy => cases hy; rw [addr_add, cell_of_row w B (0 + 0) _ _ _ hB]; rfl
      | j + 1, hy => cases hy) (fun y hy => by rw [List.mem_singleton] at hy; rw [hy]; exact ownTd_one hu) (by unfold maxLen; omega) (by omega) hbase
  have hne : ∀ (u2 : Value) (x2 : List (Txt × Nat)), OwnTd w base u2 x2 → ∀ g, u2.ownBlock = some g → w'.heap[g]? = w.heap[g]? := fun u2 x2 ho g hg => r3.block g (ownTd_lt ho g hg).2 fun e => by
    obtain ⟨cs, hcs⟩ := ownTd_block ho g hg
    rcases h1.2 with ⟨rfl, _⟩ | ⟨g', cap, cur, rfl, hb, hh, _⟩
    · cases e
    · cases e
      rw [hh] at hcs
      injection hcs with hcs
      injection hcs with _ e2
      exact absurd e2 (by decide)
  refine ⟨v', w', r1, ⟨vs ++ [u], by rw [List.length_append]; exact r2, fun g hg => ?_, ?_, fun i y hy => ?_⟩, r3, fun g hg => ⟨h2 g hg, (row_lt h1 g hg).1⟩⟩
  · rcases r5 with e | e
    · exact h2 g (e ▸ hg)
    · rw [e] at hg
      cases hg
      intro hn
      exact Nat.lt_irrefl _ (hN _ hn)
  · intro y hy
    rcases List.mem_append.1 hy with hy | hy
    · exact h3 y hy
    · rw [List.mem_singleton] at hy; rw [hy]; exact ownTd_one hu
  · have hvl : vs.length = X.length := by have := h1.1; omega
    rcases Nat.lt_or_ge i X.length with hil | hil
    · rw [List.getElem?_append_left hil] at hy
      obtain ⟨u2, e1, e2, e3⟩ := h4 i y hy
      exact ⟨u2, by rw [List.getElem?_append_left (by omega)]; exact e1, ownTd_kept e2 (hne u2 y e2), e3⟩
    · rw [List.getElem?_append_right hil] at hy
      have hi0 : i - X.length = 0 := by
        have := (List.getElem?_eq_some_iff.1 hy).1
        simp at this
        omega
      rw [hi0] at hy
      cases hy
      exact ⟨u, by rw [List.getElem?_append_right (by omega), hvl, hi0]; rfl, ownTd_kept hu (hne u x hu), hun⟩
end
end Go.Proofs.YtgcfgheamaoceaaGreatDoor
/- Layer 14: MatchAlone, where no more is asked than what is known (wip/tools/mkmatww.py). -/
namespace Go.Proofs.YtgcfgheamaoceaaGreatDoor
open Go.RowKit Go.MapKept Go.ChangeMaps Go.Maps

/-- The call that sets an entry. -/
def actOf (e : En) : Do := ⟨1, e.f, e.c, e.q⟩
def shortE (e : En) : Bool := decide (e.f.size ≤ 300) && decide (e.c.size ≤ 300)
theorem few_acts (L : List En) (m : Nat) : fewL (L.map actOf) m = (decide (L.length ≤ m) && L.all shortE) := by
  unfold fewL
  rw [List.length_map, List.all_map]
  rfl
def AlonePost (w : World) (e : Ending) (w' : World) : Prop := e = .returned (.bool true) ∧ Below w.heap.size w w'
set_option maxRecDepth 100000 in
set_option maxHeartbeats 4000000 in
/-- Of more, of longer texts, of what is no name: what is known. -/
theorem alone_out (w : World) (ao : Option Addr) (L : List En) (cap : Nat) (hE : EnsAt w ao L) (hL : L.length ≤ 1048576) (hs : ∀ e ∈ L, e.f.size ≤ maxLen ∧ e.c.size ≤ maxLen) (name : ByteArray) (hnm : name.size ≤ maxLen) (ht : Tabs w)
    (h : (decide (L.length ≤ 20) && L.all shortE) = false ∨ ((decide (L.length ≤ 20) && L.all shortE) = true ∧ (300 < name.size ∨ (name.size ≤ 300 ∧ nameL name.data.toList = false)))) :
    Calls Tryz.prog 7 #[.slice ao L.length cap, .string name] w fun e w' => AlonePost w e w' := by
  obtain ⟨n, hn⟩ : ∃ n, L.length = n := ⟨_, rfl⟩
  have hn5 : n ≤ 1048576 := by omega
  have hwn : IntKind.i64.wrap ((name.size : Nat) : Int) = name.size := by rw [IntKind.wrap_i64]; unfold maxLen at hnm; omega
  have HA := Lib.hid hE
  have HT := Lib.hid ht
  have HS := Lib.hid (And.intro hs h)
  rw [hn]
  clear hE ht hs h hL
  go_enter Tryz.func7, Tryz.ntmps7
  go_wp2
  go_loopw [5, 6, 28, 29, 30, 31, 32, 33, 34, 35, 36, 37, 38, 39, 40, 41] (fun xo xi _ _ _ _ _ _ _ _ _ _ _ _ _ _ wr => ∃ i : Nat, xi = .int .i64 i ∧ i ≤ n ∧ OwnA wr w.heap.size xo ((L.take i).map actOf) ∧ Below w.heap.size w wr) (fun _ xi _ _ _ _ _ _ _ _ _ _ _ _ _ _ _ => n - (intOf xi).toNat)
  case atStart => exact ⟨0, rfl, Nat.zero_le _, OwnA.nil _ _, Below.refl _ _⟩
  case round =>
    obtain ⟨i, rfl, hi, hO, hb⟩ := hrel
    rcases Nat.lt_or_ge i n with hin | hin
    · have hlt : (i : Int) < (n : Int) := by omega
      have hwi : IntKind.i64.wrap ((i : Int) + 1) = (i : Int) + 1 := by rw [IntKind.wrap_i64]; omega
      obtain ⟨x, hx⟩ : ∃ x, L[i]? = some x := ⟨_, List.getElem?_eq_getElem (by omega)⟩
      obtain ⟨B, o, rfl, hB, c0, c1, c2⟩ := (HA.out.below hb) i x hx
      have hix := index_en wr B o n cap i hin
      have hlen : ((L.take i).map actOf).length = i := by rw [List.length_map, List.length_take]; omega
      have hnx : (L.take (i + 1)).map actOf = (L.take i).map actOf ++ [actOf x] := by rw [List.take_add_one, hx]; simp
      have hblk := World.alloc_heap_new wr (.cells #[.int .i64 1, .string x.f, .string x.c, .int .i64 x.q] 33)
      obtain ⟨v2, w2, hr, ho2, hg2, -⟩ := run_append_acts (wr.alloc (.cells #[.int .i64 1, .string x.f, .string x.c, .int .i64 x.q] 33)) w.heap.size 22 _ _ [actOf x] (hO.below ((Below.refl _ wr).alloc (Nat.le_refl _) _)) wr.heap.size 0 1 (fun j u hu => by
        rw [cell_of_row _ _ _ _ _ _ hblk, Nat.zero_add]
        match j, hu with
        | 0, hu => cases hu; rfl
        | 1, hu => cases hu; rfl
        | 2, hu => cases hu; rfl
        | 3, hu => cases hu; rfl
        | j + 4, hu => cases hu) (by rw [hlen]; show i + 1 ≤ 2000000; omega) (by have := hb.size; simp; omega)
      have hb2 : Below w.heap.size w w2 := (hb.alloc hb.size _).grown hg2 (by have := hb.size; simp; omega) (fun b e => (ownA_lt hO b e).1)
      have HZ := Lib.hid (And.intro ho2 (And.intro hb2 hnx))
      clear ho2 hg2 hb2 hnx hO hb hlen hx hB hblk
      go_wp2_with (at_builtin; refine wpList_append_val rfl rfl rfl rfl hr ?_)
      exact ⟨⟨i + 1, rfl, hin, by rw [HZ.out.2.2]; exact HZ.out.1, HZ.out.2.1⟩, by show n - ((i : Int) + 1).toNat < n - (i : Int).toNat; omega⟩
    · have hlt : ¬ (i : Int) < (n : Int) := by omega
      rw [List.take_of_length_le (by omega)] at hO
      obtain ⟨aa, ca, e, hat⟩ := ownA_at hO
      rw [List.length_map, hn] at e
      have hfew := few_any wr aa (L.map actOf) ca 20 (by decide) hat (fun s hs => by
        obtain ⟨x, hx, rfl⟩ := List.mem_map.1 hs
        exact HS.out.1 x hx)
      rw [few_acts, List.length_map, hn] at hfew
      have HF := Lib.hid hfew
      have HB := Lib.hid hb
      subst e
      clear hO hb hat hfew
      obtain ⟨hs, h⟩ := HS.out
      rw [hn] at h
      rcases h with h | ⟨h, h2⟩
      · rw [h] at HF
        clear hs h
        go_wp2_with (first
          | (go_at_call 8; refine HF.out.mono ?_; rintro e w2 ⟨rfl, rfl⟩)
          | (go_at_call 9; refine (knownM_any _ (HT.out.below HB.out HT.out.two)).mono ?_; rintro e w3 ⟨rfl, hb3⟩; have HB3 := Lib.hid hb3; clear hb3))
        go_ret
        exact ⟨rfl, HB.out.trans (HB3.out.mono HB.out.size)⟩
      · rw [h] at HF
        clear hs h
        rcases h2 with h2 | ⟨h2, h3⟩
        · have hgt : (300 : Int) < (name.size : Int) := by omega
          go_wp2_with (first
            | (go_at_call 8; refine HF.out.mono ?_; rintro e w2 ⟨rfl, rfl⟩)
            | (go_at_call 9; refine (knownM_any _ (HT.out.below HB.out HT.out.two)).mono ?_; rintro e w3 ⟨rfl, hb3⟩; have HB3 := Lib.hid hb3; clear hb3))
          go_ret
          exact ⟨rfl, HB.out.trans (HB3.out.mono HB.out.size)⟩
        · have hgt : ¬ (300 : Int) < (name.size : Int) := by omega
          have hN := rname_any name (by omega) wr
          rw [h3] at hN
          have HN := Lib.hid hN
          clear hN h3
          go_wp2_with (first
            | (go_at_call 8; refine HF.out.mono ?_; rintro e w2 ⟨rfl, rfl⟩)
            | (go_at_call 27; refine HN.out.mono ?_; rintro e w4 ⟨rfl, hb4⟩; have HB4 := Lib.hid (HB.out.trans (hb4.mono HB.out.size)); clear hb4)
            | (go_at_call 9; refine (knownM_any _ (HT.out.below HB4.out HT.out.two)).mono ?_; rintro e w3 ⟨rfl, hb3⟩; have HB3 := Lib.hid hb3; clear hb3))
          go_ret
          exact ⟨rfl, HB4.out.trans (HB3.out.mono HB4.out.size)⟩
end Go.Proofs.YtgcfgheamaoceaaGreatDoor
/- Layer 14: the document's Meets of an entry that may be and a name; the document's Set of nothing. -/
namespace Go.Proofs.YtgcfgheamaoceaaGreatDoor
open Go.RowKit Go.MapKept Go.ChangeMaps Go.Maps

theorem okE_filt {e : En} (h : okE e) : filtL e.f.data.toList = true ∧ cliL e.c.data.toList = true ∧ 0 ≤ e.q ∧ e.q ≤ 2 := by
  unfold okE subE subZ at h
  split at h
  · cases h
  · rename_i h1
    split at h
    · cases h
    · rename_i h2
      refine ⟨?_, ?_, ?_, ?_⟩
      · cases hb : filtL e.f.data.toList with
        | true => rfl
        | false => exact absurd hb h1
      · cases hb : cliL e.c.data.toList with
        | true => rfl
        | false => exact absurd (.inl hb) h2
      · exact Int.not_lt.1 fun k => h2 (.inr (.inl k))
      · exact Int.not_lt.1 fun k => h2 (.inr (.inr k))
/-- The document's Meets. -/
theorem rmeets_ok (e : En) (h : okE e) (n : ByteArray) (hn : n.size ≤ 1000) (hN : nameL n.data.toList = true) (w : World) :
    Calls Tryz.prog 28 #[.string e.f, .string n] w fun en w' => BPost w (meetsL e.f.data.toList n.data.toList) en w' := by
  obtain ⟨hf, -⟩ := okE_filt h
  unfold filtL at hf
  unfold nameL at hN
  rw [Bool.and_eq_true] at hf hN
  have hfl := fitL_iff.1 hf.1
  have hnl := fitL_iff.1 hN.1
  cases hb : e.f.data.toList with
  | nil => exact absurd hb hfl.1
  | cons b t =>
    cases hd : n.data.toList with
    | nil => exact absurd hd hnl.1
    | cons d u =>
      have hfs : e.f.size ≤ 1000 := by
        have h1 := hfl.2.1
        rw [Lib.size_eq]
        omega
      have := rmeets_any e.f n hfs hn b d t u hb hd (by rw [← hb]; exact hf.2) w
      rw [hb, hd] at this
      exact this
/-- The document's Set of nothing: is there one, and no error. -/
theorem rset_nil (e : En) (hf : e.f.size ≤ 1000) (hc : e.c.size ≤ 1000000) (w : World) :
    Calls Tryz.prog 29 #[.slice none 0 0, .agg #[.string e.f, .string e.c, .int .i64 e.q]] w fun en w' => ∃ v' n, en = .returned (.tuple #[v', .bool (decide (n = 0)), .int .i64 ((n : Nat) : Int)]) ∧ n = subE e.f.data.toList e.c.data.toList e.q ∧ Below w.heap.size w w' := by
  refine (rset_any w w.heap.size (.slice none 0 0) [] (OwnS.nil w _) (Nat.le_refl _) List.Pairwise.nil (Nat.zero_le _) e.f e.c hf hc e.q).mono ?_
  rintro en w' ⟨v', rfl, -, hb⟩
  refine ⟨v', subE e.f.data.toList e.c.data.toList e.q, ?_, rfl, hb⟩
  rw [setP_err (by decide)]
  have e1 : (setP [] e.f.data.toList e.c.data.toList e.q).2.1 = decide (subE e.f.data.toList e.c.data.toList e.q = 0) := by
    unfold setP
    by_cases h : subE e.f.data.toList e.c.data.toList e.q = 0
    · rw [if_neg (fun k => k h), if_neg (by simp), h]
      rfl
    · rw [if_pos h]
      simp [h]
  rw [e1]
end Go.Proofs.YtgcfgheamaoceaaGreatDoor
/- Layer 14: what MatchAlone gathers: which entries no later one replaces; lengths of rows of what is told in an open order. -/
namespace Go.Proofs.YtgcfgheamaoceaaGreatDoor
open Go.RowKit Go.MapKept Go.ChangeMaps Go.Maps

/-- What one of the rows is: nobody, or the Client of an entry that no later one replaces. -/
def OneOf (L : List En) (nm : List UInt8) (j : Nat) (x : List (Txt × Nat)) : Prop := x = [] ∨ ∃ i e, i < j ∧ L[i]? = some e ∧ okE e ∧ meetsL (enS e).f nm = true ∧ x = [((enS e).c, (enS e).q)] ∧ ∀ k y, i < k → L[k]? = some y → okE y → ¬ sameK (enS e) (enS y)
/-- The books went on: blocks that were none of theirs read as they did, what is theirs now was so or is new. -/
theorem OnesAt.step {w w' : World} {base : Nat} {N N' : Nat → Prop} {v : Value} {X : List (List (Txt × Nat))} (h : OnesAt w base N v X) (hk : ∀ k, k < w.heap.size → ¬ N k → w'.heap[k]? = w.heap[k]?) (hN : ∀ k, N' k → N k ∨ w.heap.size ≤ k) : OnesAt w' base N' v X := by
  obtain ⟨vs, h1, h2, h3, h4⟩ := h
  have key : ∀ g, g < w.heap.size → ¬ N g → ¬ N' g := fun g hg hn hn2 => (hN g hn2).elim hn fun hge => by omega
  refine ⟨vs, row_kept h1 fun g hg => hk g (row_lt h1 g hg).2 (h2 g hg), fun g hg => key g (row_lt h1 g hg).2 (h2 g hg), h3, fun i x hx => ?_⟩
  obtain ⟨u, e1, e2, e3⟩ := h4 i x hx
  exact ⟨u, e1, ownTd_kept e2 fun g hg => hk g (ownTd_lt e2 g hg).2 (e3 g hg), fun g hg => key g (ownTd_lt e2 g hg).2 (e3 g hg)⟩
theorem OneOf.mono {L : List En} {nm : List UInt8} {j j' : Nat} {x : List (Txt × Nat)} (h : OneOf L nm j x) (hj : j ≤ j') : OneOf L nm j' x := by
  rcases h with h | ⟨i, e, h1, h2⟩
  · exact .inl h
  · exact .inr ⟨i, e, by omega, h2⟩
theorem setE_nil_ok {e : En} (h : okE e) : setE [] e = [enS e] := by
  rw [setE_ok h (by decide)]
  rfl
theorem short_le {e : En} (h : shortE e = true) : e.f.size ≤ 1000 ∧ e.c.size ≤ 1000000 := by
  unfold shortE at h
  rw [Bool.and_eq_true] at h
  have h1 := of_decide_eq_true h.1
  have h2 := of_decide_eq_true h.2
  omega
open Classical in
/-- Does none behind entry i, ahead of k, replace it? -/
noncomputable def lastB (L : List En) (x : En) (i k : Nat) : Bool := decide (∀ j y, i < j → j < k → L[j]? = some y → okE y → ¬ sameK (enS x) (enS y))
section
open Classical
variable {L : List En} {x y : En} {i k : Nat}
theorem lastB_zero : lastB L x i (i + 1) = true := decide_eq_true fun j y h1 h2 => absurd h1 (by omega)
theorem lastB_no (h : lastB L x i k = false) : lastB L x i (k + 1) = false := by
  have h1 := of_decide_eq_false h
  exact decide_eq_false fun h2 => h1 fun j y a b => h2 j y a (by omega)
theorem lastB_off (h : lastB L x i k = true) (hy : L[k]? = some y) (hn : okE y → ¬ sameK (enS x) (enS y)) : lastB L x i (k + 1) = true := by
  have h1 := of_decide_eq_true h
  refine decide_eq_true fun j z a b c d => ?_
  by_cases e : j = k
  · subst e
    rw [hy] at c
    cases c
    exact hn d
  · exact h1 j z a (by omega) c d
theorem lastB_on (hi : i < k) (hy : L[k]? = some y) (ho : okE y) (hs : sameK (enS x) (enS y)) : lastB L x i (k + 1) = false :=
  decide_eq_false fun h => h k y hi (by omega) hy ho hs
theorem lastB_end (h : lastB L x i L.length = true) : ∀ k y, i < k → L[k]? = some y → okE y → ¬ sameK (enS x) (enS y) := fun k y a b =>
  of_decide_eq_true h k y a (List.getElem?_eq_some_iff.1 b).1 b
theorem sameE : sameK (enS x) (enS y) ↔ x.f.toList = y.f.toList ∧ x.c.toList = y.c.toList := by
  unfold sameK
  rw [ByteArray.toList_eq, ByteArray.toList_eq, ByteArray.toList_eq, ByteArray.toList_eq]
  exact Iff.rfl
theorem okE_q (h : okE x) : x.q = ((enS x).q : Int) := by
  obtain ⟨-, -, h1, -⟩ := okE_filt h
  show x.q = ((x.q.toNat : Nat) : Int)
  omega
end
section
variable {ops : Array Oper} {Q : Exit → Act → World → Prop} {i : Nat} {o : Oper} {a : Act} {w : World} {K : Act → World → Prop}
theorem wpOp_lenTd {x : Operand} {ao : Option Addr} {n c : Nat} (ho : ops[i]? = some o) (hg : Region.wanted o (yielded ops a.tmps) = true) (hop : o.op = .call { callee := .builtin .len, args := #[x], argTypes := #[42] }) (hx : a.eval x = .slice ao n c) (hK : K (a.put o.dst (.int .i64 n)) w) : wpOp Tryz.prog ops Q i K a w :=
  wpOp_val (v := .int .i64 n) (w' := w) ho hg (by simp only [execOp, hop, resolve, invoke, Go.builtin, List.map_toArray, List.map_cons, List.map_nil, hx, Sem.run_bind, Sem.run_pure, Result.andThen_ok]; rw [run_len_slice w 42 o.type ao n c (by rw [show Tryz.prog.elem 42 = 65 by kernel_rfl]; exact Tryz.underlying42)]; rfl) hK
end
theorem index_tds (w : World) (b o n cap i : Nat) (hi : i < n) : (Instr.indexAt 62 (.slice (some ⟨b, o, none⟩) n cap) (.int .i64 i)).run Tryz.prog w = .ok (.pointer (some ⟨b, o + i * 1, none⟩)) w := by
  have he : Tryz.prog.elem 62 = 42 := by kernel_rfl
  have hs : (sizeOf 42).run Tryz.prog w = .ok 1 w := by kernel_rfl
  refine (run_indexAt_slice (P := Tryz.prog) (w := w) 62 ⟨b, o, none⟩ n cap .i64 i (by rw [he]; exact Tryz.underlying62)).trans ?_
  rw [if_pos (by omega), he, hs]
  simp only [Result.andThen_ok, addr_add, Int.toNat_natCast]
end Go.Proofs.YtgcfgheamaoceaaGreatDoor
/- Layer 14, pure: who MatchAlone finds among all that are told. -/
namespace Go.Proofs.YtgcfgheamaoceaaGreatDoor

theorem told_le {ks : List Txt} {Mp : Txt → Option Nat} {g : List Sb} {P : Sb → Bool} (hn : ks.Nodup) (hm : ∀ c, c ∈ ks ↔ (Mp c).isSome = true) (hG : GreatOf (g.filter P) Mp) : (toldL ks Mp).length ≤ g.length := by
  rw [told_len]
  have h1 : ks.length ≤ (g.map (·.c)).length := nodup_le _ _ hn fun c hc => by
    obtain ⟨q, hq⟩ := Option.isSome_iff_exists.1 ((hm c).1 hc)
    obtain ⟨⟨x, hx, e, -⟩, -⟩ := (hG c).2 q hq
    exact List.mem_map.2 ⟨x, (List.mem_filter.1 hx).1, e⟩
  rw [List.length_map] at h1
  exact h1
/-- Each of the rows is found. -/
theorem ones_found {L : List En} {nm : List UInt8} {n : Nat} (hn : L.length = n) (hL : n ≤ 4000) {ks : List Txt} {Mp : Txt → Option Nat} (hm : ∀ c, c ∈ ks ↔ (Mp c).isSome = true) (hG : GreatOf ((setsE L n).filter fun s => meetsL s.f nm) Mp) {x : List (Txt × Nat)} (h : OneOf L nm n x) :
    x = [] ∨ ∃ e0 : Txt × Nat, x = [e0] ∧ ∃ (m : Nat) (p : Txt × Nat), (toldL ks Mp)[m]? = some p ∧ p.1 = e0.1 ∧ e0.2 ≤ p.2 := by
  rcases h with h | ⟨i, e, hi, he, hok, hmt, rfl, hl⟩
  · exact .inl h
  · refine .inr ⟨_, rfl, ?_⟩
    have hs : enS e ∈ setsE L n := setsE_has (by omega) he hok n hi (by omega) fun k x h1 _ h3 h4 => hl k x h1 h3 h4
    obtain ⟨q, hq, hle⟩ := told_has hm hG (List.mem_filter.2 ⟨hs, hmt⟩)
    obtain ⟨m, hm2⟩ := List.getElem?_of_mem hq
    exact ⟨m, _, hm2, rfl, hle⟩
theorem str_eq {a b : Txt} : ((str a).toList == (str b).toList) = decide (a = b) := by
  rw [ByteArray.toList_eq, ByteArray.toList_eq, str_toList, str_toList, Bool.eq_iff_iff, decide_eq_true_iff, beq_iff_eq]
end Go.Proofs.YtgcfgheamaoceaaGreatDoor

/- Texts of the proof in one file, in build order: MatW, MatX, MatY, MatZ, MatAA. -/
import Derived.Test.YtgcfgheamaoceaaGreatDoorP3
import Derived.LoopNIn
/- Layer 14: Set (its drawn region by one look at each operation; the region's text: wip/tools/mkmatw.py). -/
namespace Go.Proofs.YtgcfgheamaoceaaGreatDoor
open Go.RowKit Go.MapKept Go.ChangeMaps Go.Maps

/-- A new entry's own block. -/
def NewSb (w : World) (base : Nat) (v : Value) : Prop := ∃ k x y z, v = .pointer (some ⟨k, 0, none⟩) ∧ base ≤ k ∧ w.heap[k]? = some (.cells #[x, y, z] 31 (0, 0))
theorem zeroSub : (Tryz.prog.info? 31).map (fun i => (i.zero, i.size)) = some (some (.agg #[.string ⟨#[]⟩, .string ⟨#[]⟩, .int .i64 0]), 3) := by kernel_rfl
theorem alloc_sb (w : World) : (Instr.alloc 31 true (.tuple #[])).run Tryz.prog w = .ok (.pointer (some ⟨w.heap.size, 0, none⟩)) (w.alloc (.cells #[.string ⟨#[]⟩, .string ⟨#[]⟩, .int .i64 0] 31)) := by
  have hz := (zero_of_info (P := Tryz.prog) zeroSub).1
  simp [Instr.alloc, go_sem, hz, Result.andThen, Value.cells]
theorem store_sb {w : World} {k : Nat} {x y z : Value} (h : w.heap[k]? = some (.cells #[x, y, z] 31 (0, 0))) (a b : ByteArray) (q : Int) :
    ∃ w', (Instr.storeAt 31 (.pointer (some ⟨k, 0, none⟩)) (.agg #[.string a, .string b, .int .i64 q])).run Tryz.prog w = .ok () w' ∧ w.grownBy w' (some k) ∧ ∃ x y z, w'.heap[k]? = some (.cells #[x, y, z] 31 (0, 0)) := by
  obtain ⟨-, h0, h1, h2, f0, f1, f2⟩ := box3 h
  refine ⟨_, run_storeAt_mid w k 0 _ #[.string a, .string b, .int .i64 q] (fun j hj => ?_) (by kernel_rfl) (by simp [Value.oneCell']), ?_, ?_⟩
  · match j, hj with
    | 0, _ => exact ⟨by rw [h0]; rfl, f0⟩
    | 1, _ => exact ⟨by rw [h1]; rfl, f1⟩
    | 2, _ => exact ⟨by rw [h2]; rfl, f2⟩
  · show w.grownBy (((w.setCell ⟨k, 0, none⟩ _).setCell ⟨k, 1, none⟩ _).setCell ⟨k, 2, none⟩ _) (some k)
    refine ⟨rfl, rfl, rfl, by simp, fun i _ hi => ?_⟩
    have hne : i ≠ k := fun e => hi (by rw [e])
    rw [heap_setCell_other _ ⟨k, 2, none⟩ i _ hne, heap_setCell_other _ ⟨k, 1, none⟩ i _ hne, heap_setCell_other _ ⟨k, 0, none⟩ i _ hne]
  · exact ⟨_, _, _, set3_row h _ _ _⟩
theorem wpOp_ext {P : Program} {ops : Array Oper} {Q : Exit → Act → World → Prop} {i : Nat} {o : Oper} {a : Act} {w : World} {K : Act → World → Prop} {x : Operand} {n : Nat} {vs : Array Value} {v : Value} (ho : ops[i]? = some o) (hg : Region.wanted o (yielded ops a.tmps) = true) (hop : o.op = .extract x n) (hx : a.eval x = .tuple vs) (hn : vs[n]? = some v) (hK : K (a.put o.dst v) w) : wpOp P ops Q i K a w :=
  wpOp_val (v := v) (w' := w) ho hg (by simp only [execOp, hop, hx]; simp [hn, go_sem]) hK
theorem ownT_store {w w' : World} {base : Nat} {v : Value} {L : List (List UInt8)} {k : Nat} {p q r : Value} (hg : w.grownBy w' (some k)) (hrow : w.heap[k]? = some (.cells #[p, q, r] 31 (0, 0))) (h : OwnT w base v L) : OwnT w' base v L := by
  rcases h with ⟨hl, e | ⟨g, cp, cur, rfl, hb, hh, r⟩⟩
  · exact ⟨hl, .inl e⟩
  · exact ⟨hl, .inr ⟨g, cp, cur, rfl, hb, (hg.block g (Array.getElem?_eq_some_iff.1 hh).1 (fun e => by
      injection e with e
      subst e
      rw [hrow] at hh
      injection hh with hh
      injection hh with _ e2
      exact absurd e2 (by decide))).trans hh, r⟩⟩
theorem newSb_store {w w' : World} {base : Nat} {v : Value} {k : Nat} (hg : w.grownBy w' (some k)) (hr2 : ∃ x y z, w'.heap[k]? = some (.cells #[x, y, z] 31 (0, 0))) (h : NewSb w base v) : NewSb w' base v := by
  obtain ⟨m, x, y, z, e, hb, hr⟩ := h
  by_cases hm : m = k
  · subst hm
    obtain ⟨x', y', z', hr3⟩ := hr2
    exact ⟨m, x', y', z', e, hb, hr3⟩
  · exact ⟨m, x, y, z, e, hb, (hg.block m (Array.getElem?_eq_some_iff.1 hr).1 (fun e => hm (by injection e))).trans hr⟩
def SetV (Bk b A base : Nat) (f c : ByteArray) (L : List (List UInt8)) (x y : ByteArray) (z : Int) (i : Bool) : Nat → Value → World → Prop
  | 0, v, _ => v = .pointer (some ⟨Bk, 0, none⟩)
  | 1, v, _ => v = .pointer (some ⟨Bk, 0, none⟩)
  | 2, v, _ => v = .pointer (some ⟨Bk, 0, none⟩)
  | 3, v, _ => v = .pointer (some ⟨b, 0, none⟩)
  | 4, v, _ => v = .pointer (some ⟨A, 0, none⟩)
  | 5, v, _ => v = .string f
  | 6, v, w => OwnT w base v L
  | 7, v, _ => v = .pointer (some ⟨A, 1, none⟩)
  | 8, v, _ => v = .string c
  | 9, v, _ => v = .tuple #[.agg #[.string x, .string y, .int .i64 z], .bool i]
  | 10, v, _ => v = .tuple #[.agg #[.string x, .string y, .int .i64 z], .bool i]
  | 11, v, _ => v = .agg #[.string x, .string y, .int .i64 z]
  | 12, v, _ => v = .bool i
  | 13, v, w => NewSb w base v
  | 15, v, _ => v = .bool i
  | _, _, _ => True
theorem SetV.keep {Bk b A base : Nat} {f c : ByteArray} {L : List (List UInt8)} {x y : ByteArray} {z : Int} {i : Bool} {w w' : World} (hk : ∀ k, base ≤ k → k < w.heap.size → w'.heap[k]? = w.heap[k]?) : ∀ j u, SetV Bk b A base f c L x y z i j u w → SetV Bk b A base f c L x y z i j u w' := by
  intro j u h
  unfold SetV at h ⊢
  split at h
  all_goals first
    | exact h
    | exact ownT_keep h hk
    | exact (by obtain ⟨k, x, y, z, e, hb, hr⟩ := h; exact ⟨k, x, y, z, e, hb, (hk k hb (Array.getElem?_eq_some_iff.1 hr).1).trans hr⟩)
theorem SetV.store {Bk b A base : Nat} {f c : ByteArray} {L : List (List UInt8)} {x y : ByteArray} {z : Int} {i : Bool} {w w' : World} {k : Nat} {p q r : Value} (hg : w.grownBy w' (some k)) (hrow : w.heap[k]? = some (.cells #[p, q, r] 31 (0, 0))) (hr2 : ∃ x y z, w'.heap[k]? = some (.cells #[x, y, z] 31 (0, 0))) : ∀ j u, SetV Bk b A base f c L x y z i j u w → SetV Bk b A base f c L x y z i j u w' := by
  intro j u h
  unfold SetV at h ⊢
  split at h
  all_goals first
    | exact h
    | exact ownT_store hg hrow h
    | exact newSb_store hg hr2 h
section
variable {w : World} {Bk : Nat} {g : List Sb} {t : Tr}
def SetQ (no : Nat) (full is : Bool) (r : Bool) (Same Post : World → Prop) (e : Ending) (w' : World) : Prop :=
  if no ≠ 0 then e = .returned (.tuple #[.bool false, .int .i64 (no : Int)]) ∧ Same w'
  else if (!is && full) = true then e = .returned (.tuple #[.bool false, .int .i64 3]) ∧ Same w'
  else e = .returned (.tuple #[.bool r, .int .i64 0]) ∧ Post w'
set_option maxRecDepth 100000 in
set_option maxHeartbeats 8000000 in
theorem set_walk (w : World) (Bk b : Nat) (f c : ByteArray) (q : Int) (L : List (List UInt8)) (no : Nat) (x y : ByteArray) (z : Int) (i : Bool) (n : Nat) (r : Bool) (Post : World → Prop) (hBl : Bk < w.heap.size) (c0 : w.cell? ⟨Bk, 0, none⟩ = some (.pointer (some ⟨b, 0, none⟩)))
    (hbl : b < w.heap.size) (c2 : w.cell? ⟨b, 2, none⟩ = some (.int .i64 (n : Int))) (hno : no = 0 ∨ no = 2 ∨ no = 230)
    (HM : Hid (∀ W, Below w.heap.size w W → Calls Tryz.prog 37 #[.pointer (some ⟨Bk, 0, none⟩), .agg #[.string f, .string c, .int .i64 q]] W fun e w' => SubPost W no e w'))
    (HL : Hid (∀ W, no = 0 → Calls Tryz.prog 39 #[.string f] W fun e w' => LvPost W L e w'))
    (HG : Hid (no = 0 → ∀ base, w.heap.size ≤ base → ∀ W, Below w.heap.size w W → ∀ v, OwnT W base v L → Calls Tryz.prog 38 #[.pointer (some ⟨b, 0, none⟩), v, .string c] W fun e w' => e = .returned (.tuple #[.agg #[.string x, .string y, .int .i64 z], .bool i]) ∧ Below W.heap.size W w'))
    (HP : Hid (no = 0 → (i = true ∨ n ≠ 4096) → ∀ W, Below w.heap.size w W → Calls Tryz.prog 40 #[.pointer (some ⟨Bk, 0, none⟩), .agg #[.string f, .string c, .int .i64 q]] W fun e w' => e = .returned (.bool r) ∧ Post w')) :
    Calls Tryz.prog 16 #[.pointer (some ⟨Bk, 0, none⟩), .agg #[.string f, .string c, .int .i64 q]] w fun e w' => SetQ no (decide (n = 4096)) i r (Below w.heap.size w) Post e w' := by
  unfold LvPost at HL
  unfold SetQ
  go_enter Tryz.func16, Tryz.ntmps16
  obtain ⟨wq, hwq⟩ : ∃ wq, w.alloc (.cells #[.string f, .string c, .int .i64 q] 31) = wq := ⟨_, rfl⟩
  have hbq : Below w.heap.size w wq := by rw [← hwq]; exact (Below.refl _ w).alloc (Nat.le_refl _) _
  obtain ⟨A, hA⟩ : ∃ A, w.heap.size = A := ⟨_, rfl⟩
  have rA : wq.heap[A]? = some (.cells #[.string f, .string c, .int .i64 q] 31 (0, 0)) := by
    rw [← hwq, ← hA]; exact (MapKept.heap_alloc w _).1
  have hsz : wq.heap.size = w.heap.size + 1 := by rw [← hwq]; simp
  rcases hno with rfl | rfl | rfl
  case inr.inl | inr.inr =>
    obtain ⟨hAl, hA0, hA1, hA2, -, -, -⟩ := box3 rA
    have HB := Lib.hid hbq
    clear HL HG HP c0 c2 rA hbq hsz
    go_wp2_with (go_at_call 37; refine (HM.out _ HB.out).mono ?_; rintro e w1 ⟨rfl, hb1⟩; have HB1 := Lib.hid (HB.out.trans (hb1.mono HB.out.size)); clear hb1)
    refine bodyPost_ret (results_tmp2 rfl _ _ _) rfl ?_
    exact ⟨rfl, hA ▸ HB1.out⟩
  case inl =>
    have HL0 := Lib.hid fun W => HL.out W rfl
    have HG0 := Lib.hid (HG.out rfl)
    have HP0 := Lib.hid (HP.out rfl)
    clear HL HG HP
    obtain ⟨hAl, hA0, hA1, hA2, -, -, -⟩ := box3 rA
    have HB := Lib.hid hbq
    have HRA := Lib.hid rA
    clear rA hbq
    go_wp2_with (go_at_call 37; refine (HM.out _ HB.out).mono ?_; rintro e w1 ⟨rfl, hb1⟩; have HB1 := Lib.hid (HB.out.trans (hb1.mono HB.out.size)); have HA1 := Lib.hid ((hb1.block A hAl).trans HRA.out); clear hb1)
    obtain ⟨-, hA0, hA1, hA2, -, -, -⟩ := box3 HA1.out
    have hAl : A < w1.heap.size := (Array.getElem?_eq_some_iff.1 HA1.out).1
    have hB0 := (HB1.out.cell (p := ⟨Bk, 0, none⟩) hBl).trans c0
    have hBl : Bk < w1.heap.size := Nat.lt_of_lt_of_le hBl HB1.out.size
    have HG := Lib.hid (fun W (hb : Below w1.heap.size w1 W) v hO => HG0.out w1.heap.size HB1.out.size W (HB1.out.trans (hb.mono HB1.out.size)) v hO)
    have c2' := (HB1.out.cell (p := ⟨b, 2, none⟩) hbl).trans c2
    have hb1 : b < w1.heap.size := Nat.lt_of_lt_of_le hbl HB1.out.size
    clear HG0 HRA HB hwq hsz HM
    refine wp_region_m (fun _ W => Below w1.heap.size w1 W) (SetV Bk b A w1.heap.size f c L x y z i) (by kernel_rfl) (by kernel_rfl) (by kernel_rfl) (by kernel_rfl) (Below.refl _ _).drew ?step ?fin
    case step =>
      intro i o ho listed a w' hI hn' hpre
      have hJ := hI.inv
      have hi : i < 16 := (Array.getElem?_eq_some_iff.1 ho).1
      match i, hi with
      | 0, _ =>
        cases ho
        exact wpOp_move rfl rfl (.inl rfl) (hI.kept (t := 0) (by kernel_rfl)) ⟨_, rfl, hJ, fun _ => rfl, fun _ _ _ h => h⟩
      | 1, _ =>
        cases ho
        exact wpOp_nilCheck rfl rfl rfl (hI.slot 0 16 rfl (hpre ⟨0, .data⟩ (by simp) rfl) rfl) ⟨_, rfl, hJ, fun _ => rfl, fun _ _ _ h => h⟩
      | 2, _ =>
        cases ho
        exact wpOp_field rfl rfl rfl (hI.slot 1 17 rfl (hpre ⟨1, .data⟩ (by simp) rfl) rfl) (by simp [go_sem]) ⟨_, rfl, hJ, fun _ => rfl, fun _ _ _ h => h⟩
      | 3, _ =>
        cases ho
        exact wpOp_load rfl rfl rfl (hI.slot 2 18 rfl (hpre ⟨2, .data⟩ (by simp) rfl) rfl) (load_c (Tryz.isAgg54 w') ((hJ.cell (p := ⟨Bk, 0, none⟩) hBl).trans hB0)) ⟨_, rfl, hJ, fun _ => rfl, fun _ _ _ h => h⟩
      | 4, _ =>
        cases ho
        exact wpOp_field rfl rfl rfl (hI.kept (t := 3) (by kernel_rfl)) (by simp [go_sem]) ⟨_, rfl, hJ, fun _ => rfl, fun _ _ _ h => h⟩
      | 5, _ =>
        cases ho
        exact wpOp_load rfl rfl rfl (hI.slot 4 20 rfl (hpre ⟨4, .data⟩ (by simp) rfl) rfl) (load_c (Tryz.isAgg9 w') ((hJ.cell (p := ⟨A, 0, none⟩) hAl).trans hA0)) ⟨_, rfl, hJ, fun _ => rfl, fun _ _ _ h => h⟩
      | 6, _ =>
        cases ho
        refine wpOp_callFn rfl rfl rfl (vs := #[.string f]) (by simp only [List.map_toArray, List.map_cons, List.map_nil, (show a.eval (.tmp 21) = .string f from (hI.slot 5 21 rfl (hpre ⟨5, .data⟩ (by simp) rfl) rfl))]) (fun _ _ => by kernel_rfl) ((HL0.out w').mono ?_)
        rintro e' w2 ⟨v2, rfl, hO, hb2⟩
        exact ⟨_, rfl, _, rfl, hJ.trans (hb2.mono hJ.size), fun _ => ownT_mono hO hJ.size, fun j u _ h => SetV.keep (fun k hk hk2 => hb2.block k hk2) j u h⟩
      | 7, _ =>
        cases ho
        exact wpOp_field rfl rfl rfl (hI.kept (t := 3) (by kernel_rfl)) (by simp [go_sem]) ⟨_, rfl, hJ, fun _ => rfl, fun _ _ _ h => h⟩
      | 8, _ =>
        cases ho
        exact wpOp_load rfl rfl rfl (hI.slot 7 23 rfl (hpre ⟨7, .data⟩ (by simp) rfl) rfl) (load_c (Tryz.isAgg9 w') ((hJ.cell (p := ⟨A, 1, none⟩) hAl).trans hA1)) ⟨_, rfl, hJ, fun _ => rfl, fun _ _ _ h => h⟩
      | 9, _ =>
        cases ho
        have hO : OwnT w' w1.heap.size (a.eval (.tmp 22)) L := (hI.slot 6 22 rfl (hpre ⟨6, .data⟩ (by simp) rfl) rfl)
        refine wpOp_callFn rfl rfl rfl (vs := #[.pointer (some ⟨b, 0, none⟩), a.eval (.tmp 22), .string c]) (by simp only [List.map_toArray, List.map_cons, List.map_nil, (show a.eval (.tmp 19) = .pointer (some ⟨b, 0, none⟩) from (hI.slot 3 19 rfl (hpre ⟨3, .data⟩ (by simp) rfl) rfl)), (show a.eval (.tmp 24) = .string c from (hI.slot 8 24 rfl (hpre ⟨8, .data⟩ (by simp) rfl) rfl))]) (fun _ _ => by kernel_rfl) ((HG.out w' hJ _ hO).mono ?_)
        rintro e' w2 ⟨rfl, hb2⟩
        exact ⟨_, rfl, _, rfl, hJ.trans (hb2.mono hJ.size), fun _ => rfl, fun j u _ h => SetV.keep (fun k hk hk2 => hb2.block k hk2) j u h⟩
      | 10, _ =>
        cases ho
        exact wpOp_move rfl rfl (.inl rfl) (hI.slot 9 25 rfl (hpre ⟨9, .data⟩ (by simp) rfl) rfl) ⟨_, rfl, hJ, fun _ => rfl, fun _ _ _ h => h⟩
      | 11, _ =>
        cases ho
        exact wpOp_ext rfl rfl rfl (hI.slot 10 15 rfl (hpre ⟨10, .data⟩ (by simp) rfl) rfl) rfl ⟨_, rfl, hJ, fun _ => rfl, fun _ _ _ h => h⟩
      | 12, _ =>
        cases ho
        exact wpOp_ext rfl rfl rfl (hI.slot 10 15 rfl (hpre ⟨10, .data⟩ (by simp) rfl) rfl) rfl ⟨_, rfl, hJ, fun _ => rfl, fun _ _ _ h => h⟩
      | 13, _ =>
        cases ho
        exact wpOp_alloc rfl rfl rfl (alloc_sb w') ⟨_, rfl, hJ.alloc hJ.size _, fun _ => ⟨_, _, _, _, rfl, hJ.size, (MapKept.heap_alloc w' _).1⟩, fun j u _ h => SetV.keep (fun k hk hk2 => (World.grownBy_alloc w' _ none).block k hk2 (by simp)) j u h⟩
      | 14, _ =>
        cases ho
        have hN : NewSb w' w1.heap.size (a.eval (.tmp 7)) := (hI.slot 13 7 rfl (hpre ⟨13, .data⟩ (by simp) rfl) rfl)
        obtain ⟨k, x0, y0, z0, ek, hbk, hrow⟩ := hN
        obtain ⟨w2, hrun, hg2, hr2⟩ := store_sb hrow x y z
        exact wpOp_store rfl rfl rfl ek (hI.slot 11 26 rfl (hpre ⟨11, .data⟩ (by simp) rfl) rfl) hrun ⟨_, rfl, hJ.trans ⟨hg2.os, hg2.tape, hg2.output, hg2.size, fun i hi => hg2.block i (Nat.lt_of_lt_of_le hi hJ.size) (fun e => by injection e with e; omega)⟩, fun _ => trivial, fun j u _ h => SetV.store hg2 hrow hr2 j u h⟩
      | 15, _ =>
        cases ho
        exact wpOp_move rfl rfl (.inr rfl) (hI.slot 12 27 rfl (hpre ⟨12, .data⟩ (by simp) rfl) rfl) ⟨_, rfl, hJ, fun _ => rfl, fun _ _ _ h => h⟩
    case fin =>
      intro listed a w' hI hall
      have hJ := hI.inv
      have eS8 : a.tmps.getD 8 undef = .bool i := hI.slot 15 8 rfl (hall 15 (by decide)) rfl
      obtain ⟨vs, us, hvl, hul, hvs, hus, e⟩ := hI.frame2 7 2 15 13 (by decide) (Nat.le_of_ble_eq_true (by kernel_rfl)) (by kernel_rfl)
      have vS8 := hvs 1 (by decide)
      clear hI hall hvs hus
      match vs, us, hvl, hul with
      | [x0, x1], [y0, y1, y2, y3, y4, y5, y6, y7, y8, y9, y10, y11, y12], _, _ =>
      simp only [List.getElem?_cons_zero, List.getElem?_cons_succ, Option.some.injEq] at vS8
      rw [show 7 + 1 = 8 from rfl, eS8] at vS8
      subst vS8
      simp only [List.take_succ_cons, List.take_zero, List.drop_succ_cons, List.drop_zero, List.cons_append, List.nil_append, Nat.reduceAdd, Nat.reduceSub] at e
      subst e
      clear eS8
      have HB2 := Lib.hid (HB1.out.trans (hJ.mono HB1.out.size))
      have c2'' := (hJ.cell (p := ⟨b, 2, none⟩) hb1).trans c2'
      have cB0 := (hJ.cell (p := ⟨Bk, 0, none⟩) hBl).trans hB0
      have HA2 := Lib.hid ((hJ.block A hAl).trans HA1.out)
      obtain ⟨-, d0, d1, d2, -, -, -⟩ := box3 HA2.out
      clear hJ hA0 hA1 hA2 hB0 c2'
      have arm := HP0.out
      clear HG HL0 HA1 HA2
      cases i with
      | true =>
        have HP1 := Lib.hid (arm (.inl rfl) w' HB2.out)
        clear arm HP0
        go_wp2_with (go_at_call 40; refine HP1.out.mono ?_; rintro e w4 ⟨rfl, hp4⟩; have HQ := Lib.hid hp4; clear hp4)
        refine bodyPost_ret (results_tmp2 rfl _ _ _) rfl ?_
        exact ⟨rfl, HQ.out⟩
      | false =>
        by_cases hn : n = 4096
        · subst hn
          clear arm HP0
          go_wp2
          refine bodyPost_ret (results_tmp2 rfl _ _ _) rfl ?_
          exact ⟨rfl, hA ▸ HB2.out⟩
        · have HP1 := Lib.hid (arm (.inr hn) w' HB2.out)
          have hne : ((n : Int) == 4096) = false := by simp; omega
          have hdn : decide (n = 4096) = false := by simp [hn]
          clear arm HP0
          go_wp2_with (go_at_call 40; refine HP1.out.mono ?_; rintro e w4 ⟨rfl, hp4⟩; have HQ := Lib.hid hp4; clear hp4)
          refine bodyPost_ret (results_tmp2 rfl _ _ _) rfl ?_
          exact ⟨rfl, HQ.out⟩
theorem subZ_zero {a b : Bool} {q : Int} (h : subZ a b q = 0) : a = true ∧ b = true ∧ 0 ≤ q ∧ q ≤ 2 := by
  unfold subZ at h
  split at h
  · cases h
  · rename_i ha
    split at h
    · cases h
    · rename_i hb
      refine ⟨by simpa using ha, by simpa using fun e => hb (.inl e), ?_, ?_⟩
      · exact Int.not_lt.1 fun e => hb (.inr (.inl e))
      · exact Int.not_lt.1 fun e => hb (.inr (.inr e))
theorem subE_cases (f c : List UInt8) (q : Int) : subE f c q = 0 ∨ subE f c q = 2 ∨ subE f c q = 230 := by
  unfold subE subZ
  split
  · exact .inr (.inr rfl)
  · split
    · exact .inr (.inl rfl)
    · exact .inl rfl
theorem LayTree.later {w1 w' : World} {g' : List Sb} {t' : Tr} (hb : Below w.heap.size w w1) (hl : LayTree w1 Bk g' t t' w') : LayTree w Bk g' t t' w' :=
  ⟨hl.book, fun k hk => (hl.foot k hk).imp_right (Nat.le_trans hb.size), (Kp.of_below hb).trans hl.kp⟩
theorem LayTree.same {w' : World} {g0 : List Sb} (h : BookAt w Bk g0 t) (hb : Below w.heap.size w w') : LayTree w Bk g0 t t w' := ⟨h.below hb, fun _ hk => .inl hk, Kp.of_below hb⟩
def entry (f c : List UInt8) (q : Int) : Sb := ⟨f, c, q.toNat⟩
/-- What Set does to the entries, what it tells. -/
noncomputable def setP (g : List Sb) (f c : List UInt8) (q : Int) : List Sb × Bool × Nat :=
  if subE f c q ≠ 0 then (g, false, subE f c q) else if (!hasK (entry f c q) g && decide (g.length = 4096)) = true then (g, false, 3) else (insG (entry f c q) g, !hasK (entry f c q) g, 0)
def CallPost (w : World) (Bk : Nat) (t : Tr) (g' : List Sb) (v : Value) (no : Nat) (e : Ending) (w' : World) : Prop := e = .returned (.tuple #[v, .int .i64 (no : Int)]) ∧ ∃ t', LayTree w Bk g' t t' w'
theorem set_any (h : BookAt w Bk g t) (ht : Tabs w) (f c : ByteArray) (hf : f.size ≤ 1000) (hc : c.size ≤ 1000000) (q : Int) :
    Calls Tryz.prog 16 #[.pointer (some ⟨Bk, 0, none⟩), .agg #[.string f, .string c, .int .i64 q]] w fun e w' =>
      CallPost w Bk t (setP g f.data.toList c.data.toList q).1 (.bool (setP g f.data.toList c.data.toList q).2.1) (setP g f.data.toList c.data.toList q).2.2 e w' := by
  obtain ⟨x, hx, c0⟩ := h.cell
  obtain ⟨-, -, c2⟩ := h.tree.cells hx
  rw [cnt_nil] at c2
  have hbl := h.lt (.inl rfl)
  have hxl := h.tree.lt ⟨[], x, hx, .inl rfl⟩
  obtain ⟨sa, sb, sq, hs⟩ := sbO_form (look g (lv f.data.toList) c.data.toList)
  have hk := look_has h.good.rise (entry f.data.toList c.data.toList q)
  refine (set_walk w Bk x.b f c q (lv f.data.toList) (subE f.data.toList c.data.toList q) sa sb sq (hasK (entry f.data.toList c.data.toList q) g) g.length (!hasK (entry f.data.toList c.data.toList q) g)
    (fun w' => ∃ t', LayTree w Bk (insG (entry f.data.toList c.data.toList q) g) t t' w') hbl c0 hxl c2 (subE_cases _ _ _)
    (Lib.hid fun W hb => may_any W (ht.below hb ht.two) Bk x.b ((hb.cell (p := ⟨Bk, 0, none⟩) hbl).trans c0) f c hf hc q)
    (Lib.hid fun W _ => levelsF_any f hf W) (Lib.hid fun hz base hbase W hb v hO => ?_) (Lib.hid fun hz hl W hb => ?_)).mono ?_
  · obtain ⟨B, k, rfl, hk1, hk2, hBb, hBl, hlv⟩ := lvl_of hO (lv_ne _)
    have hlen : f.data.toList.length ≤ 1000 := by simpa using hf
    have hgt := get_any (lv f.data.toList) [] W B 0 k c.data.toList (h.tree.below hb) (by have : c.data.toList.length ≤ 1000000 := (by simpa using hc); unfold maxLen; omega)
      (fun l hl => by have := lv_short' hlen l hl; unfold maxLen; omega) hBl hk1 hk2 hlv
    rw [hx, List.nil_append] at hgt
    refine hgt.mono ?_
    rintro e w' ⟨rfl, hb'⟩
    refine ⟨?_, hb'⟩
    rw [hs]
    rw [show (look g (lv f.data.toList) c.data.toList).isSome = hasK (entry f.data.toList c.data.toList q) g from hk]
  · obtain ⟨hff, hcc, hq0, hq2⟩ := subZ_zero hz
    have hl2 := blay_any (h.below hb) (entry f.data.toList c.data.toList q) hff hcc (by unfold entry; simp; omega) (hl.imp_right fun e => by have := h.good.len; omega)
    have e1 : sbV (entry f.data.toList c.data.toList q) = .agg #[.string f, .string c, .int .i64 q] := by
      unfold sbV entry
      rw [str_of, str_of]
      simp only [Int.toNat_of_nonneg hq0]
    rw [e1] at hl2
    refine hl2.mono ?_
    rintro e w' ⟨rfl, t', ht'⟩
    exact ⟨rfl, t', .later hb ht'⟩
  · rintro e w' hQ
    unfold SetQ at hQ
    unfold CallPost setP
    split at hQ
    · rename_i h1
      rw [if_pos h1]
      exact ⟨hQ.1, t, .same h hQ.2⟩
    · rename_i h1
      rw [if_neg h1]
      split at hQ
      · rename_i h2
        rw [if_pos h2]
        exact ⟨hQ.1, t, .same h hQ.2⟩
      · rename_i h2
        rw [if_neg h2]
        exact hQ
end
end Go.Proofs.YtgcfgheamaoceaaGreatDoor
/- Layer 14: Drop (its drawn region by one look at each operation; the region's text: wip/tools/mkmatx.py). -/
namespace Go.Proofs.YtgcfgheamaoceaaGreatDoor
open Go.RowKit Go.MapKept Go.ChangeMaps Go.Maps

def DropV (Bk b base : Nat) (f c : ByteArray) (L : List (List UInt8)) (r : Bool) : Nat → Value → World → Prop
  | 0, v, _ => v = .pointer (some ⟨Bk, 0, none⟩)
  | 1, v, _ => v = .pointer (some ⟨Bk, 0, none⟩)
  | 2, v, _ => v = .pointer (some ⟨Bk, 0, none⟩)
  | 3, v, _ => v = .pointer (some ⟨b, 0, none⟩)
  | 4, v, _ => v = .string f
  | 5, v, w => OwnT w base v L
  | 6, v, _ => v = .string c
  | 7, v, _ => v = .bool r
  | 8, v, _ => v = .bool r
  | 9, v, _ => v = .int .i64 0
  | _, _, _ => True
theorem DropV.keep {Bk b base : Nat} {f c : ByteArray} {L : List (List UInt8)} {r : Bool} {w w' : World} (hk : ∀ k, base ≤ k → k < w.heap.size → w'.heap[k]? = w.heap[k]?) : ∀ j u, DropV Bk b base f c L r j u w → DropV Bk b base f c L r j u w' := by
  intro j u h
  unfold DropV at h ⊢
  split at h <;> first | exact h | exact ownT_keep h hk | trivial
section
variable {w : World} {Bk : Nat} {g : List Sb} {t : Tr}
def DropQ (no : Nat) (r : Bool) (Same Post : World → Prop) (e : Ending) (w' : World) : Prop :=
  if no ≠ 0 then e = .returned (.tuple #[.bool false, .int .i64 (no : Int)]) ∧ Same w'
  else e = .returned (.tuple #[.bool r, .int .i64 0]) ∧ Post w'
set_option maxRecDepth 100000 in
set_option maxHeartbeats 8000000 in
theorem drop_walk (w : World) (Bk b : Nat) (f c : ByteArray) (L : List (List UInt8)) (no : Nat) (r : Bool) (Post : World → Prop) (hBl : Bk < w.heap.size) (c0 : w.cell? ⟨Bk, 0, none⟩ = some (.pointer (some ⟨b, 0, none⟩))) (hno : no = 0 ∨ no = 2 ∨ no = 230)
    (HM : Hid (Calls Tryz.prog 37 #[.pointer (some ⟨Bk, 0, none⟩), .agg #[.string f, .string c, .int .i64 0]] w fun e w' => SubPost w no e w'))
    (HL : Hid (∀ W, no = 0 → Calls Tryz.prog 39 #[.string f] W fun e w' => LvPost W L e w'))
    (HP : Hid (no = 0 → ∀ base, w.heap.size ≤ base → ∀ W, Below w.heap.size w W → ∀ v, OwnT W base v L → Calls Tryz.prog 50 #[.pointer (some ⟨b, 0, none⟩), v, .string c] W fun e w' => e = .returned (.bool r) ∧ Post w' ∧ ∀ k, w.heap.size ≤ k → k < W.heap.size → w'.heap[k]? = W.heap[k]?)) :
    Calls Tryz.prog 21 #[.pointer (some ⟨Bk, 0, none⟩), .string f, .string c] w fun e w' => DropQ no r (Below w.heap.size w) Post e w' := by
  unfold LvPost at HL
  unfold DropQ
  go_enter Tryz.func21, Tryz.ntmps21
  rcases hno with rfl | rfl | rfl
  case inr.inl | inr.inr =>
    clear HL HP c0
    go_wp2_with (go_at_call 37; refine HM.out.mono ?_; rintro e w1 ⟨rfl, hb1⟩; have HB1 := Lib.hid hb1; clear hb1)
    refine bodyPost_ret (results_tmp2 rfl _ _ _) rfl ?_
    exact ⟨rfl, HB1.out⟩
  case inl =>
    have HL0 := Lib.hid fun W => HL.out W rfl
    have HP0 := Lib.hid (HP.out rfl)
    clear HL HP
    go_wp2_with (go_at_call 37; refine HM.out.mono ?_; rintro e w1 ⟨rfl, hb1⟩; have HB1 := Lib.hid hb1; clear hb1)
    have hB0 := (HB1.out.cell (p := ⟨Bk, 0, none⟩) hBl).trans c0
    have hBl : Bk < w1.heap.size := Nat.lt_of_lt_of_le hBl HB1.out.size
    have HP1 := Lib.hid (fun W (hb : Below w1.heap.size w1 W) v hO => (HP0.out w1.heap.size HB1.out.size W (HB1.out.trans (hb.mono HB1.out.size)) v hO).mono (fun e w' (h : _ ∧ _ ∧ _) => (⟨h.1, h.2.1, fun k hk hk2 => h.2.2 k (Nat.le_trans HB1.out.size hk) hk2⟩ : e = .returned (.bool r) ∧ Post w' ∧ ∀ k, w1.heap.size ≤ k → k < W.heap.size → w'.heap[k]? = W.heap[k]?)))
    clear HP0 HM
    refine wp_region_m (LayI 7 w1 Post) (DropV Bk b w1.heap.size f c L r) (by kernel_rfl) (by kernel_rfl) (by kernel_rfl) (by kernel_rfl) ⟨fun _ => (Below.refl _ _).drew, fun h => by cases h⟩ ?step ?fin
    case step =>
      intro i o ho listed a w' hI hn' hpre
      have hJ := hI.inv
      have hi : i < 10 := (Array.getElem?_eq_some_iff.1 ho).1
      match i, hi with
      | 0, _ =>
        cases ho
        exact wpOp_move rfl rfl (.inl rfl) (hI.kept (t := 0) (by kernel_rfl)) ⟨_, rfl, (hJ.still (by decide)), fun _ => rfl, fun _ _ _ h => h⟩
      | 1, _ =>
        cases ho
        exact wpOp_nilCheck rfl rfl rfl (hI.slot 0 17 rfl (hpre ⟨0, .data⟩ (by simp) rfl) rfl) ⟨_, rfl, (hJ.still (by decide)), fun _ => rfl, fun _ _ _ h => h⟩
      | 2, _ =>
        cases ho
        exact wpOp_field rfl rfl rfl (hI.slot 1 18 rfl (hpre ⟨1, .data⟩ (by simp) rfl) rfl) (by simp [go_sem]) ⟨_, rfl, (hJ.still (by decide)), fun _ => rfl, fun _ _ _ h => h⟩
      | 3, _ =>
        cases ho
        exact wpOp_load rfl rfl rfl (hI.slot 2 19 rfl (hpre ⟨2, .data⟩ (by simp) rfl) rfl) (load_c (Tryz.isAgg54 w') (((hJ.1 (hI.notyet hn' 7 (by kernel_rfl))).cell (p := ⟨Bk, 0, none⟩) hBl).trans hB0)) ⟨_, rfl, (hJ.still (by decide)), fun _ => rfl, fun _ _ _ h => h⟩
      | 4, _ =>
        cases ho
        exact wpOp_move rfl rfl (.inl rfl) (hI.kept (t := 1) (by kernel_rfl)) ⟨_, rfl, (hJ.still (by decide)), fun _ => rfl, fun _ _ _ h => h⟩
      | 5, _ =>
        cases ho
        have hb0 := hJ.1 (hI.notyet hn' 7 (by kernel_rfl))
        refine wpOp_callFn rfl rfl rfl (vs := #[.string f]) (by simp only [List.map_toArray, List.map_cons, List.map_nil, (show a.eval (.tmp 21) = .string f from (hI.slot 4 21 rfl (hpre ⟨4, .data⟩ (by simp) rfl) rfl))]) (fun _ _ => by kernel_rfl) ((HL0.out w').mono ?_)
        rintro e' w2 ⟨v2, rfl, hO, hb2⟩
        exact ⟨_, rfl, _, rfl, hJ.go (by decide) (hI.notyet hn' 7 (by kernel_rfl)) hb2, fun _ => ownT_mono hO hb0.size, fun j u _ h => DropV.keep (fun k hk hk2 => hb2.block k hk2) j u h⟩
      | 6, _ =>
        cases ho
        exact wpOp_move rfl rfl (.inl rfl) (hI.kept (t := 2) (by kernel_rfl)) ⟨_, rfl, (hJ.still (by decide)), fun _ => rfl, fun _ _ _ h => h⟩
      | 7, _ =>
        cases ho
        have hb0 := hJ.1 hn'
        have hO : OwnT w' w1.heap.size (a.eval (.tmp 22)) L := (hI.slot 5 22 rfl (hpre ⟨5, .data⟩ (by simp) rfl) rfl)
        refine wpOp_callFn rfl rfl rfl (vs := #[.pointer (some ⟨b, 0, none⟩), a.eval (.tmp 22), .string c]) (by simp only [List.map_toArray, List.map_cons, List.map_nil, (show a.eval (.tmp 20) = .pointer (some ⟨b, 0, none⟩) from (hI.slot 3 20 rfl (hpre ⟨3, .data⟩ (by simp) rfl) rfl)), (show a.eval (.tmp 23) = .string c from (hI.slot 6 23 rfl (hpre ⟨6, .data⟩ (by simp) rfl) rfl))]) (fun _ _ => by kernel_rfl) ((HP1.out w' hb0 _ hO).mono ?_)
        rintro e' w2 ⟨rfl, hp, hk2⟩
        exact ⟨_, rfl, _, rfl, LayI.post (by rw [hI.size]; decide) hp, fun _ => rfl, fun j u _ h => DropV.keep (fun k hk hk3 => hk2 k hk hk3) j u h⟩
      | 8, _ =>
        cases ho
        exact wpOp_move rfl rfl (.inr rfl) (hI.slot 7 24 rfl (hpre ⟨7, .data⟩ (by simp) rfl) rfl) ⟨_, rfl, (hJ.still (by decide)), fun _ => rfl, fun _ _ _ h => h⟩
      | 9, _ =>
        cases ho
        exact wpOp_move rfl rfl (.inr rfl) rfl ⟨_, rfl, (hJ.still (by decide)), fun _ => rfl, fun _ _ _ h => h⟩
    case fin =>
      intro listed a w' hI hall
      have hJ := hI.inv
      have eS6 : a.tmps.getD 6 undef = .bool r := hI.slot 8 6 rfl (hall 8 (by decide)) rfl
      have eS7 : a.tmps.getD 7 undef = .int .i64 0 := hI.slot 9 7 rfl (hall 9 (by decide)) rfl
      obtain ⟨vs, us, hvl, hul, hvs, hus, e⟩ := hI.frame2 6 2 17 8 (by decide) (Nat.le_of_ble_eq_true (by kernel_rfl)) (by kernel_rfl)
      have vS6 := hvs 0 (by decide)
      have vS7 := hvs 1 (by decide)
      clear hI hvs hus
      match vs, us, hvl, hul with
      | [x0, x1], [y0, y1, y2, y3, y4, y5, y6, y7], _, _ =>
      simp only [List.getElem?_cons_zero, List.getElem?_cons_succ, Option.some.injEq] at vS6 vS7
      rw [show 6 + 0 = 6 from rfl, eS6] at vS6
      subst vS6
      rw [show 6 + 1 = 7 from rfl, eS7] at vS7
      subst vS7
      simp only [List.take_succ_cons, List.take_zero, List.drop_succ_cons, List.drop_zero, List.cons_append, List.nil_append, Nat.reduceAdd, Nat.reduceSub] at e
      subst e
      clear eS6 eS7
      have HQ := Lib.hid (hJ.2 (hall 7 (by decide)))
      clear hJ
      go_wp2
      refine bodyPost_ret (results_tmp2 rfl _ _ _) rfl ?_
      exact ⟨rfl, HQ.out⟩
/-- What Drop does to the entries, what it tells. -/
noncomputable def dropP (g : List Sb) (f c : List UInt8) : List Sb × Bool × Nat := if subE f c 0 ≠ 0 then (g, false, subE f c 0) else (delG (entry f c 0) g, hasK (entry f c 0) g, 0)
theorem bdrop_any (h : BookAt w Bk g t) (ht : Tabs w) (f c : ByteArray) (hf : f.size ≤ 1000) (hc : c.size ≤ 1000000) :
    Calls Tryz.prog 21 #[.pointer (some ⟨Bk, 0, none⟩), .string f, .string c] w fun e w' =>
      CallPost w Bk t (dropP g f.data.toList c.data.toList).1 (.bool (dropP g f.data.toList c.data.toList).2.1) (dropP g f.data.toList c.data.toList).2.2 e w' := by
  obtain ⟨x, hx, c0⟩ := h.cell
  have hbl := h.lt (.inl rfl)
  refine (drop_walk w Bk x.b f c (lv f.data.toList) (subE f.data.toList c.data.toList 0) (hasK (entry f.data.toList c.data.toList 0) g) (fun w' => ∃ t', LayTree w Bk (delG (entry f.data.toList c.data.toList 0) g) t t' w') hbl c0 (subE_cases _ _ _)
    (Lib.hid (may_any w ht Bk x.b c0 f c hf hc 0)) (Lib.hid fun W _ => levelsF_any f hf W) (Lib.hid fun hz base hbase W hb v hO => ?_)).mono ?_
  · obtain ⟨hff, hcc, -, -⟩ := subZ_zero hz
    have hd := book_drop h (s := entry f.data.toList c.data.toList 0) hff hcc hx W hb v base hbase hO
    refine hd.mono ?_
    rintro e w' ⟨⟨rfl, t', ht'⟩, hk⟩
    exact ⟨rfl, ⟨t', ht'⟩, hk⟩
  · rintro e w' hQ
    unfold DropQ at hQ
    unfold CallPost dropP
    split at hQ
    · rename_i h1
      rw [if_pos h1]
      exact ⟨hQ.1, t, .same h hQ.2⟩
    · rename_i h1
      rw [if_neg h1]
      exact hQ
end
end Go.Proofs.YtgcfgheamaoceaaGreatDoor
/- Layer 14: going over all branches, purely: what has been gone over, what still lies on the stack; a loop with a ghost; the stack in memory. -/
namespace Go.Proofs.YtgcfgheamaoceaaGreatDoor
open Go.RowKit Go.MapKept Go.ChangeMaps Go.Maps

/-- A loop whose rounds are counted by what is not in the frame. -/
theorem wpIn_loop_ghost {F : Fence} {n : Nat} {P : Program} {Q : Exit → Act → World → Prop} {c : Code} {σ : Type} (I : σ → Act → World → Prop) (μ : σ → Nat) {s0 : σ} {a : Act} {w : World} (h0 : I s0 a w)
    (step : ∀ s a w, I s a w → c.wpIn F n P (Exit.then (fun a' w' => ∃ s', μ s' < μ s ∧ I s' a' w') Q) a w) : (Code.loop c).wpIn F n P Q a w := by
  have key : ∀ m s a w, μ s < m → I s a w → Code.roundsIn F n P c Q m a w := by
    intro m
    induction m with
    | zero => intro s a w h; omega
    | succ m ih =>
      intro s a w h hI
      rw [roundsIn_succ]
      refine wpIn_mono (step s a w hI) ?_
      rintro e a' w' he
      cases e with
      | normal => obtain ⟨s', h1, h2⟩ := he; exact ih s' a' w' (by omega) h2
      | _ => exact he
  exact wpIn_loop_rounds _ (key _ s0 a w (Nat.lt_succ_self _) h0)

variable {t : Tr}
def blk (t : Tr) (p : Pth) : Nat := match t p with | some x => x.b | none => 0
theorem blk_of {p : Pth} {x : Nd} (h : t p = some x) : blk t p = x.b := by unfold blk; rw [h]
structure Walk (t : Tr) (vis st : List Pth) : Prop where
  nd : vis.Nodup
  v : ∀ p ∈ vis, (t p).isSome = true
  s : ∀ p ∈ st, (t p).isSome = true
  cov : ∀ q, (t q).isSome = true → q ∈ vis ∨ ∃ p ∈ st, p <+: q
  no : ∀ p ∈ st, ∀ q ∈ vis, ¬ p <+: q
  ap : st.Pairwise fun a b => ¬ a <+: b ∧ ¬ b <+: a
theorem Walk.start (h : (t []).isSome = true) : Walk t [] [[]] :=
  ⟨List.nodup_nil, fun p hp => by (cases hp), fun p hp => by rw [List.mem_singleton.1 hp]; exact h, fun q _ => .inr ⟨[], by simp, List.nil_prefix⟩, fun p _ q hq => (by cases hq), by simp⟩
theorem Walk.fresh {vis rs : List Pth} {p : Pth} (h : Walk t vis (rs ++ [p])) : p ∉ vis := fun hp => h.no p (by simp) p hp (List.prefix_refl p)
theorem Walk.next {vis rs : List Pth} {p : Pth} (h : Walk t vis (rs ++ [p])) (up : ∀ r q : Pth, (t (q ++ r)).isSome = true → (t q).isSome = true) {ks : List Txt} (hn : ks.Nodup) (hk : ∀ k, k ∈ ks ↔ (t (p ++ [k])).isSome = true) :
    Walk t (vis ++ [p]) (rs ++ ks.map fun k => p ++ [k]) := by
  have hap := List.pairwise_append.1 h.ap
  have hrp : ∀ s ∈ rs, ¬ s <+: p ∧ ¬ p <+: s := fun s hs => hap.2.2 s hs p (by simp)
  refine ⟨?_, ?_, ?_, ?_, ?_, ?_⟩
  · rw [List.nodup_append]
    refine ⟨h.nd, by simp, ?_⟩
    intro a ha b hb e
    rw [List.mem_singleton.1 hb] at e
    exact h.fresh (e ▸ ha)
  · intro q hq
    rcases List.mem_append.1 hq with hq | hq
    · exact h.v q hq
    · rw [List.mem_singleton.1 hq]; exact h.s p (by simp)
  · intro q hq
    rcases List.mem_append.1 hq with hq | hq
    · exact h.s q (List.mem_append_left _ hq)
    · obtain ⟨k, hk', rfl⟩ := List.mem_map.1 hq
      exact (hk k).1 hk'
  · intro q hq
    rcases h.cov q hq with h1 | ⟨s, hs, hsq⟩
    · exact .inl (List.mem_append_left _ h1)
    · rcases List.mem_append.1 hs with hs | hs
      · exact .inr ⟨s, List.mem_append_left _ hs, hsq⟩
      · rw [List.mem_singleton.1 hs] at hsq
        obtain ⟨r, rfl⟩ := hsq
        cases r with
        | nil => exact .inl (by simp)
        | cons k r =>
          have e : p ++ k :: r = p ++ [k] ++ r := by simp
          rw [e] at hq ⊢
          exact .inr ⟨p ++ [k], List.mem_append_right _ (List.mem_map.2 ⟨k, (hk k).2 (up r _ hq), rfl⟩), List.prefix_append _ _⟩
  · intro s hs q hq hsq
    rcases List.mem_append.1 hs with hs | hs
    · rcases List.mem_append.1 hq with hq | hq
      · exact h.no s (List.mem_append_left _ hs) q hq hsq
      · rw [List.mem_singleton.1 hq] at hsq
        exact (hrp s hs).1 hsq
    · obtain ⟨k, -, rfl⟩ := List.mem_map.1 hs
      rcases List.mem_append.1 hq with hq | hq
      · exact h.no p (by simp) q hq ((List.prefix_append p [k]).trans hsq)
      · rw [List.mem_singleton.1 hq] at hsq
        have := List.IsPrefix.length_le hsq
        rw [List.length_append] at this
        simp only [List.length_cons, List.length_nil] at this
        omega
  · rw [List.pairwise_append]
    refine ⟨hap.1, ?_, ?_⟩
    · rw [List.pairwise_map]
      refine (List.nodup_iff_pairwise_ne.1 hn).imp ?_
      intro a b hab
      have one : ∀ {a b : Txt}, p ++ [a] <+: p ++ [b] → a = b := fun {a b} h => by
        have := List.IsPrefix.eq_of_length h (by simp)
        simpa using this
      exact ⟨fun h => hab (one h), fun h => hab (one h).symm⟩
    · intro s hs q hq
      obtain ⟨k, -, rfl⟩ := List.mem_map.1 hq
      refine ⟨fun h1 => ?_, fun h1 => (hrp s hs).2 ((List.prefix_append p [k]).trans h1)⟩
      rcases List.prefix_or_prefix_of_prefix h1 (List.prefix_append p [k]) with h2 | h2
      · exact (hrp s hs).1 h2
      · exact (hrp s hs).2 h2
theorem Walk.done {vis : List Pth} (h : Walk t vis []) : vis.Nodup ∧ ∀ q, q ∈ vis ↔ (t q).isSome = true :=
  ⟨h.nd, fun q => ⟨h.v q, fun hq => (h.cov q hq).resolve_right (by rintro ⟨p, hp, -⟩; cases hp)⟩⟩
theorem Walk.few {vis st : List Pth} (h : Walk t vis st) {N : Nat} (hN : ∀ ps : List Pth, ps.Nodup → (∀ p ∈ ps, (t p).isSome = true) → ps.length ≤ N) : vis.length + st.length ≤ N := by
  rw [← List.length_append]
  refine hN _ ?_ fun p hp => (List.mem_append.1 hp).elim (h.v p) (h.s p)
  rw [List.nodup_append]
  refine ⟨h.nd, ?_, fun a ha b hb e => h.no b hb a ha (e ▸ List.prefix_refl b)⟩
  rw [List.nodup_iff_pairwise_ne]
  exact h.ap.imp fun {a b} hab (e : a = b) => hab.1 (by rw [e]; exact List.prefix_refl _)

/-- A stack's last one, and the rest. -/
theorem ownN9_last {w : World} {base : Nat} {v : Value} {L : List Nat} {x : Nat} (h : OwnN9 w base v (L ++ [x])) :
    ∃ B cap, v = .slice (some ⟨B, 0, none⟩) (L.length + 1) cap ∧ L.length + 1 ≤ cap ∧ cap ≤ 9223372036854775807 ∧ base ≤ B ∧ B < w.heap.size ∧ (∃ cs, w.heap[B]? = some (.cells cs 54 (0, 0))) ∧ w.cell? ⟨B, L.length, none⟩ = some (.pointer (some ⟨x, 0, none⟩)) ∧
      OwnN9 w base (.slice (some ⟨B, 0, none⟩) L.length cap) L := by
  obtain ⟨hl, ⟨-, h0⟩ | ⟨g, cap, cur, rfl, hb, hh, hn, hcap, hcs, htk⟩⟩ := h
  · simp at h0
  · simp only [List.length_append, List.length_cons, List.length_nil, Nat.zero_add, Nat.mul_one] at *
    refine ⟨g, cap, rfl, hn, hcap, hb, (Array.getElem?_eq_some_iff.1 hh).1, ⟨cur, hh⟩, ?_, ?_⟩
    · rw [cell_of_row w g L.length _ _ _ hh]
      have h1 : (cur.toList.take (L.length + 1))[L.length]? = some (.pointer (some ⟨x, 0, none⟩)) := by
        rw [htk, brsL_app, List.getElem?_append_right (by rw [brsL_len]; omega), brsL_len]
        simp [brsL, brL]
      rw [List.getElem?_take, if_pos (by omega), Array.getElem?_toList] at h1
      exact h1
    · refine ⟨by rw [brsL_len], .inr ⟨g, cap, cur, rfl, hb, hh, by omega, hcap, by simpa using hcs, ?_⟩⟩
      rw [Nat.mul_one]
      have h2 : (cur.toList.take (L.length + 1)).take L.length = brsL L := by
        rw [htk, brsL_app, List.take_append_of_le_length (by rw [brsL_len]; omega), List.take_of_length_le (by rw [brsL_len]; omega)]
      rw [List.take_take, Nat.min_eq_left (by omega)] at h2
      exact h2
theorem slice_br (w : World) (b N c n : Nat) (h : n ≤ c) : (Instr.sliceAt 117 (.slice (some ⟨b, 0, none⟩) N c) none (some (.int .i64 n)) none).run Tryz.prog w = .ok (.slice (some ⟨b, 0, none⟩) n c) w := by
  have h1 : (0 : Int) ≤ n := by omega
  have h2 : (n : Int) ≤ c := by omega
  simp [go_sem, h1, h2]
end Go.Proofs.YtgcfgheamaoceaaGreatDoor
/- Layer 14: the iterator over all branches (its drawn region's text: wip/tools/mkmatz.py). -/
namespace Go.Proofs.YtgcfgheamaoceaaGreatDoor
open Go.RowKit Go.MapKept Go.ChangeMaps Go.Maps

/-- What a round must keep for the iterator: the tree, iterators' rows and walks. -/
structure KpT (Fp : Nat → Prop) (w w' : World) : Prop where
  size : w.heap.size ≤ w'.heap.size
  foot : ∀ k, k < w.heap.size → Fp k → w'.heap[k]? = w.heap[k]?
  mine : ∀ (k : Nat) (o : Obj), w.heap[k]? = some o → (o.isWalk = true ∨ ∃ cs, o = .cells cs 54 (0, 0)) → w'.heap[k]? = some o
theorem KpT.refl (Fp : Nat → Prop) (w : World) : KpT Fp w w := ⟨Nat.le_refl _, fun _ _ _ => rfl, fun _ _ h _ => h⟩
theorem KpT.trans {Fp : Nat → Prop} {a b c : World} (h : KpT Fp a b) (g : KpT Fp b c) : KpT Fp a c :=
  ⟨Nat.le_trans h.size g.size, fun k hk hF => (g.foot k (Nat.lt_of_lt_of_le hk h.size) hF).trans (h.foot k hk hF), fun k o ho hc => g.mine k o (h.mine k o ho hc) hc⟩
theorem KpT.putObj {Fp : Nat → Prop} {n : Nat} (hF : ∀ k, Fp k → k < n) (W : World) (l : Nat) (o o' : Obj) (hl : n ≤ l) (ho : W.heap[l]? = some o) (hc : o.isCells = false) (hw : o.isWalk = false) : KpT Fp W (W.putObj l o') :=
  ⟨by simp, fun k _ hk => World.putObj_heap_other (fun e => by have := hF k hk; omega), fun k o2 ho2 hcw => (World.putObj_heap_other (fun e => by
    rw [e, ho] at ho2
    injection ho2 with ho2
    subst ho2
    rcases hcw with h | ⟨cs, rfl⟩
    · rw [hw] at h; cases h
    · cases hc)).trans ho2⟩
structure BrRel (base : Nat) (t : Tr) (En : Pth → Txt → Option Sb) (C : Pth → Nat) (gs : List (Pth × Txt)) (J : List Pth → World → Prop) (vis st : List Pth) (v : Value) (wr : World) : Prop where
  j : J vis wr
  tree : TreeAt wr t En C gs
  own : OwnN9 wr base v (st.map (blk t))
  walk : Walk t vis st
  size : base ≤ wr.heap.size
/-- A func value that gives what is next at a branch. -/
def ValsV (b0 xn : Nat) (w : World) (v : Value) : Prop := ∃ Bm, v = .func (.func 99) #[] #[.pointer (some ⟨Bm, 0, none⟩)] ∧ b0 ≤ Bm ∧ Bm < w.heap.size ∧ w.cell? ⟨Bm, 0, none⟩ = some (.map (some xn))
def MoreV (base : Nat) (L : List Nat) (M : List Nat → Prop) (w : World) (v : Value) : Prop := ∃ K, M K ∧ OwnN9 w base v (L ++ K)
def KidsOf (t : Tr) (p : Pth) (K : List Nat) : Prop := ∃ ks, AllOf (kidV t p) ks ∧ K = ks.map fun k => blk t (p ++ [k])
structure BrG (base : Nat) (t : Tr) (En : Pth → Txt → Option Sb) (C : Pth → Nat) (gs : List (Pth × Txt)) (J : List Pth → World → Prop) (vis : List Pth) (n0 : Nat) (W : World) : Prop where
  j : J vis W
  tree : TreeAt W t En C gs
  base : base ≤ W.heap.size
  size : n0 ≤ W.heap.size
theorem BrG.grown {base n0 : Nat} {t : Tr} {En : Pth → Txt → Option Sb} {C : Pth → Nat} {gs : List (Pth × Txt)} {J : List Pth → World → Prop} {vis : List Pth} {W W' : World} {v : Value} {L : List Nat} (h : BrG base t En C gs J vis n0 W) (hA : Aside 54 base J) (hfoot : ∀ k, Foot t k → k < base) (hO : OwnN9 W base v L) (hg : W.grownBy W' v.ownBlock) : BrG base t En C gs J vis n0 W' :=
  ⟨hA vis W W' _ h.j hg fun r e => ⟨(ownN9_lt hO r e).1, by obtain ⟨cs, hcs⟩ := ownN9_block hO r e; exact ⟨_, hcs, .inr ⟨cs, rfl⟩⟩⟩,
   h.tree.keeps fun k hk => hg.block k (h.tree.lt hk) fun e => by have := (ownN9_lt hO k e.symm).1; have := hfoot k hk; omega,
   Nat.le_trans h.base hg.size, Nat.le_trans h.size hg.size⟩
def BrI (base : Nat) (t : Tr) (En : Pth → Txt → Option Sb) (C : Pth → Nat) (gs : List (Pth × Txt)) (J : List Pth → World → Prop) (vis : List Pth) (n0 : Nat) (v : Value) (L : List Nat) (l : Array Bool) (W : World) : Prop :=
  BrG base t En C gs J vis n0 W ∧ (l.getD 8 false = false → OwnN9 W base v L)
section
variable {base n0 : Nat} {t : Tr} {En : Pth → Txt → Option Sb} {C : Pth → Nat} {gs : List (Pth × Txt)} {J : List Pth → World → Prop} {vis : List Pth} {v : Value} {L : List Nat} {l : Array Bool} {W W' : World}
theorem BrI.still (h : BrI base t En C gs J vis n0 v L l W) {i : Nat} (hi : i ≠ 8) : BrI base t En C gs J vis n0 v L (l.setIfInBounds i true) W := by
  unfold BrI at h ⊢
  rwa [getD_set_ne hi]
theorem BrI.alloc (h : BrI base t En C gs J vis n0 v L l W) (hA : Aside 54 base J) (o : Obj) {i : Nat} (hi : i ≠ 8) : BrI base t En C gs J vis n0 v L (l.setIfInBounds i true) (W.alloc o) := by
  unfold BrI at h ⊢
  rw [getD_set_ne hi]
  have hb : Below W.heap.size W (W.alloc o) := (Below.refl _ W).alloc (Nat.le_refl _) _
  exact ⟨⟨hA vis W _ none h.1.j (World.grownBy_alloc W o none) (fun r e => by cases e), h.1.tree.below hb, Nat.le_trans h.1.base hb.size, Nat.le_trans h.1.size hb.size⟩, fun e => (h.2 e).below hb⟩
theorem BrI.grow (h8 : 8 < l.size) (h : BrG base t En C gs J vis n0 W') : BrI base t En C gs J vis n0 v L (l.setIfInBounds 8 true) W' := ⟨h, fun e => by simp [h8] at e⟩
theorem app_kids {w : World} (h : TreeAt w t En C gs) {p : Pth} {x : Nd} (hx : t p = some x) (Bm : Nat) (base : Nat) (v : Value) (L : List Nat) (hBl : Bm < w.heap.size) (hBc : w.cell? ⟨Bm, 0, none⟩ = some (.map (some x.n))) (hO : OwnN9 w base v L) (hL : L.length ≤ 890000) (hbase : base ≤ w.heap.size) :
    Calls Tryz.prog 81 #[v, .func (.func 99) #[] #[.pointer (some ⟨Bm, 0, none⟩)]] w fun e w' =>
      ∃ v2 ks, e = .returned v2 ∧ AllOf (kidV t p) ks ∧ OwnN9 w' base v2 (L ++ ks.map fun k => blk t (p ++ [k])) ∧ w.grownBy w' v.ownBlock := by
  refine (callsIn_wide.1 (appN_in Fence.wide 4 trivial rfl (by decide) _ _ trivial (enters_of Tryz.func99 (by kernel_rfl) rfl) _ _ _
    (valsB_stops Fence.wide 3 trivial rfl (by decide) Bm x.n (kidV t p) (fun k => blk t (p ++ [k])) (fun k u hk => by
      unfold kidV at hk
      cases hE : t (p ++ [k]) with
      | none => rw [hE] at hk; cases hk
      | some y => rw [hE] at hk; injection hk with hk; rw [← hk, blk_of hE]) _ hBl hBc (h.kids p x hx)) base v L hO (by omega) hbase)).mono ?_
  rintro e w' ⟨v', xs, rfl, ⟨ks, hks, rfl⟩, hO2, hg⟩
  exact ⟨_, ks, rfl, hks, hO2, hg⟩
theorem cell_alloc_new (w : World) (v : Value) (T : TypeId) : (w.alloc (.cells #[v] T)).cell? ⟨w.heap.size, 0, none⟩ = some v := by
  rw [cell_of_row _ _ _ _ _ _ (MapKept.heap_alloc w (.cells #[v] T)).1]; rfl
end
def BrV (B k cap xb xn base b0 : Nat) (L : List Nat) (M : List Nat → Prop) : Nat → Value → World → Prop
  | 0, v, _ => v = .slice (some ⟨B, 0, none⟩) (k + 1) cap
  | 1, v, _ => v = .int .i64 (k : Int)
  | 2, v, _ => v = .slice (some ⟨B, 0, none⟩) k cap
  | 3, v, _ => v = .pointer (some ⟨xb, 0, none⟩)
  | 4, v, _ => v = .pointer (some ⟨xb, 0, none⟩)
  | 5, v, _ => v = .pointer (some ⟨xb, 0, none⟩)
  | 6, v, _ => v = .map (some xn)
  | 7, v, w => ValsV b0 xn w v
  | 8, v, w => MoreV base L M w v
  | 9, v, w => MoreV base L M w v
  | _, _, _ => True
theorem BrV.keep {B k cap xb xn base b0 : Nat} {L : List Nat} {M : List Nat → Prop} {w w1 : World} (hk : ∀ k, k < w.heap.size → w1.heap[k]? = w.heap[k]?) (hs : w.heap.size ≤ w1.heap.size) : ∀ j u, BrV B k cap xb xn base b0 L M j u w → BrV B k cap xb xn base b0 L M j u w1 := by
  intro j u h
  unfold BrV at h ⊢
  split at h
  all_goals first
    | exact h
    | exact (by obtain ⟨Bm, e, h1, h2, h3⟩ := h; exact ⟨Bm, e, h1, Nat.lt_of_lt_of_le h2 hs, (World.cell?_of_block (a := ⟨Bm, 0, none⟩) (hk Bm h2)).trans h3⟩)
    | exact (by obtain ⟨K, hK, hO⟩ := h; exact ⟨K, hK, hO.kept fun g hg => hk g (ownN9_lt hO g hg).2⟩)
theorem BrV.grow {B k cap xb xn base b0 : Nat} {L : List Nat} {M : List Nat → Prop} {w w1 : World} {n c : Nat} (hg : w.grownBy w1 (Value.slice (some ⟨B, 0, none⟩) n c).ownBlock) (hB : B < b0) : ∀ j, j ≠ 8 → j ≠ 9 → ∀ u, BrV B k cap xb xn base b0 L M j u w → BrV B k cap xb xn base b0 L M j u w1 := by
  intro j h8 h9 u h
  unfold BrV at h ⊢
  split at h
  all_goals first
    | exact h
    | exact absurd rfl h8
    | exact absurd rfl h9
    | exact (by obtain ⟨Bm, e, h1, h2, h3⟩ := h; exact ⟨Bm, e, h1, Nat.lt_of_lt_of_le h2 hg.size, (World.cell?_of_block (a := ⟨Bm, 0, none⟩) (hg.block Bm h2 (fun e => by injection e with e; have : Bm = B := e; omega))).trans h3⟩)
variable {t : Tr} {En : Pth → Txt → Option Sb} {C : Pth → Nat} {gs : List (Pth × Txt)}
attribute [local go_sem] Oper.semAt_some
set_option maxRecDepth 100000 in
set_option maxHeartbeats 8000000 in
theorem branches_hands (n : Nat) {w : World} (h : TreeAt w t En C gs) {x : Nd} (hx : t [] = some x) (N : Nat) (hN : ∀ ps : List Pth, ps.Nodup → (∀ p ∈ ps, (t p).isSome = true) → ps.length ≤ N) (hN2 : N ≤ 890000) (Bb : Nat) (hBb : w.cell? ⟨Bb, 0, none⟩ = some (.pointer (some ⟨x.b, 0, none⟩))) :
    HandsT Fence.wide n Tryz.prog 54 80 #[.pointer (some ⟨Bb, 0, none⟩)] (fun p => #[.pointer (some ⟨blk t p, 0, none⟩)]) (KpT (Foot t))
      (fun pre p => (t p).isSome = true ∧ p ∉ pre ∧ pre.length < N) (fun ps => ps.Nodup ∧ ∀ q, q ∈ ps ↔ (t q).isSome = true) (fun ps => ps.Nodup ∧ ∀ q ∈ ps, (t q).isSome = true) w := by
  intro l J Jx W hW hA hJx hY h0
  have hT := h.below hW
  have hbl := cell_lt hBb
  have hc0 := (hW.cell (p := ⟨Bb, 0, none⟩) hbl).trans hBb
  have hfoot : ∀ k, Foot t k → k < W.heap.size := fun k hk => hT.lt hk
  obtain ⟨base, hbase⟩ : ∃ b, W.heap.size = b := ⟨_, rfl⟩
  rw [hbase] at hfoot
  have HY := Lib.hid hY
  refine callsIn_of_wp Tryz.func80 rfl trivial ?_ rfl
  simp only [Tryz.ntmps80, List.size_toArray, List.length_cons, List.length_nil, Nat.reduceAdd, Nat.reduceSub, Array.replicate_succ, Array.replicate_zero, List.push_toArray, List.append_toArray, List.nil_append, List.cons_append]
  clear hY
  gi_wp2
  obtain ⟨w1, hw1⟩ : ∃ w1, W.alloc (.cells #[.pointer (some ⟨x.b, 0, none⟩)] 54) = w1 := ⟨_, rfl⟩
  have hg1 : W.grownBy w1 none := by rw [← hw1]; exact World.grownBy_alloc W _ none
  have hr1 : w1.heap[base]? = some (.cells #[.pointer (some ⟨x.b, 0, none⟩)] 54 (0, 0)) := by rw [← hw1, ← hbase]; exact (MapKept.heap_alloc W _).1
  have R0 : BrRel base t En C gs J [] [[]] (.slice (some ⟨base, 0, none⟩) 1 1) w1 := by
    refine ⟨hA [] W w1 none h0 hg1 (fun r e => by cases e), hT.keeps fun k hk => hg1.block k (hT.lt hk) (by simp), ?_, Walk.start (by rw [hx]; rfl), by rw [← hbase]; exact hg1.size⟩
    refine ⟨rfl, .inr ⟨base, 1, _, rfl, Nat.le_refl _, hr1, by simp, by decide, rfl, ?_⟩⟩
    simp [brsL, brL, blk_of hx]
  rw [hw1]
  rw [hbase] at hA hJx
  clear hg1 hr1 hw1 hc0 hBb hT h h0 hbase hW
  refine wpIn_loop_ghost (σ := List Pth × List Pth) (fun s a wr => ∃ v u2 u4 u5 u6 u7 u8 u9 u10 u11 u12 u13 u14 u15 u16 u17 u18 u19 u20 u21 u22 u23 u24 u25 u26 u27 u28 u29 u30 : Value, a = { tmps := #[.func (.yield l) #[] #[], .pointer (some ⟨Bb, 0, none⟩), u2, v, u4, u5, u6, u7, u8, u9, u10, u11, u12, u13, u14, u15, u16, u17, u18, u19, u20, u21, u22, u23, u24, u25, u26, u27, u28, u29, u30], defers := [] } ∧ BrRel base t En C gs J s.1 s.2 v wr) (fun s => N + 1 - s.1.length) (s0 := ([], [[]])) ⟨_, _, _, _, _, _, _, _, _, _, _, _, _, _, _, _, _, _, _, _, _, _, _, _, _, _, _, _, _, rfl, R0⟩ ?_
  rintro ⟨vis, st⟩ a wr ⟨v, u2, u4, u5, u6, u7, u8, u9, u10, u11, u12, u13, u14, u15, u16, u17, u18, u19, u20, u21, u22, u23, u24, u25, u26, u27, u28, u29, u30, rfl, hR⟩
  clear R0
  dsimp only at hR ⊢
  rcases List.eq_nil_or_concat st with rfl | ⟨rs, p, rfl⟩
  · obtain ⟨va, vc, rfl⟩ := ownN9_slice hR.own
    have HR := Lib.hid hR
    clear hR
    gi_wp2
    go_end0
    exact ⟨⟨_, rfl⟩, .inl ⟨vis, HR.out.walk.done, HR.out.j⟩⟩
  · rw [List.concat_eq_append] at hR
    have hO := hR.own
    rw [List.map_append] at hO
    obtain ⟨B, cap, rfl, hc1, hc2, hBb, hBw, ⟨cs, hcs⟩, hcell, hO'⟩ := ownN9_last hO
    obtain ⟨k, hk⟩ : ∃ k, (rs.map (blk t)).length = k := ⟨_, rfl⟩
    rw [hk] at hcell hc1 hO'
    rw [hk]
    have hns := hR.walk.few hN
    have hlk : k = rs.length := by rw [← hk]; simp
    have hps : (t p).isSome = true := hR.walk.s p (by simp)
    obtain ⟨xx, hxx⟩ := Option.isSome_iff_exists.1 hps
    obtain ⟨fn', tmps', as', bd', hy, hRd⟩ := HY.out vis p wr hR.j ⟨hps, hR.walk.fresh, by simp at hns; omega⟩
    have HR := Lib.hid (And.intro hR (And.intro hO' (And.intro hcs (And.intro hns hlk))))
    have HRd := Lib.hid hRd
    rw [blk_of hxx] at hy hcell
    have hsub : ((k + 1 : Nat) : Int) - 1 = k := by omega
    have hkp : ((k + 1 : Nat) : Int) > 0 := by omega
    clear hR hO hO' hcs hns hk hRd HY hlk
    gi_wp2
    refine ⟨fun h => (by cases h), HRd.out.mono ?_⟩
    rintro e w3 (⟨rfl, hJ4, hk3⟩ | ⟨rfl, hJx4⟩)
    · obtain ⟨hR, hO', hcs, hns, hlk⟩ := HR.out
      have hT3 : TreeAt w3 t En C gs := hR.tree.keeps fun k hk => hk3.foot k (hR.tree.lt hk) hk
      have hO3 : OwnN9 w3 base (.slice (some ⟨B, 0, none⟩) k cap) (rs.map (blk t)) := hO'.kept fun g hg => by
        obtain rfl : B = g := by injection hg
        rw [hcs]; exact hk3.mine B _ hcs (.inr ⟨cs, rfl⟩)
      have hBw : B < w3.heap.size := Nat.lt_of_lt_of_le hBw hk3.size
      have hd0 : w3.grownBy w3.drew none := ⟨rfl, rfl, rfl, Nat.le_refl _, fun _ _ _ => rfl⟩
      have G0 : BrG base t En C gs J (vis ++ [p]) w3.heap.size w3.drew := ⟨hA _ _ _ none hJ4 hd0 (fun r e => by cases e), hT3.drew, Nat.le_trans hR.size hk3.size, Nat.le_refl _⟩
      have hO3 : OwnN9 w3.drew base (.slice (some ⟨B, 0, none⟩) k cap) (rs.map (blk t)) := hO3.kept fun _ _ => rfl
      have hLk : (rs.map (blk t)).length ≤ 890000 := by rw [List.length_map]; simp at hns; omega
      have hvN : vis.length < N := by simp at hns; omega
      have hwk := hR.walk
      have hup := hR.tree.up
      clear hR hO' hcs hns hlk HR HRd hJ4 hk3 hd0 hT3 hy hcell
      gi_wp2
      refine wpIn_wide.2 ?_
      refine wp_region_n (BrI base t En C gs J (vis ++ [p]) w3.heap.size (.slice (some ⟨B, 0, none⟩) k cap) (rs.map (blk t))) (BrV B k cap xx.b xx.n base w3.heap.size (rs.map (blk t)) (KidsOf t p)) (by kernel_rfl) (by kernel_rfl) (by kernel_rfl) (by kernel_rfl) ⟨G0, fun _ => hO3⟩ ?step ?fin
      case step =>
        intro i o ho listed a w' hIn hn' hpre
        have hI := hIn.toL
        have hJ := hI.inv
        have hi : i < 10 := (Array.getElem?_eq_some_iff.1 ho).1
        match i, hi with
        | 0, _ =>
          cases ho
          exact wpOp_move rfl rfl (.inl rfl) (hIn.later 9 (t := 3) (by kernel_rfl) (hI.notyet hn' 9 (by kernel_rfl))) ⟨_, rfl, (hJ.still (by decide)), fun _ => rfl, fun _ _ _ h => h⟩
        | 1, _ =>
          cases ho
          exact wpOp_move rfl rfl (.inl rfl) (hI.kept (t := 4) (by kernel_rfl)) ⟨_, rfl, (hJ.still (by decide)), fun _ => rfl, fun _ _ _ h => h⟩
        | 2, _ =>
          cases ho
          exact wpOp_slice rfl rfl rfl (hI.slot 0 22 rfl (hpre ⟨0, .data⟩ (by simp) rfl) rfl) rfl (h2 := by simp only [Option.map, (show a.eval (.tmp 23) = .int .i64 (k : Int) from (hI.slot 1 23 rfl (hpre ⟨1, .data⟩ (by simp) rfl) rfl))]) rfl (slice_br w' B (k + 1) cap k (by omega)) ⟨_, rfl, (hJ.still (by decide)), fun _ => rfl, fun _ _ _ h => h⟩
        | 3, _ =>
          cases ho
          exact wpOp_move rfl rfl (.inl rfl) (hI.kept (t := 5) (by kernel_rfl)) ⟨_, rfl, (hJ.still (by decide)), fun _ => rfl, fun _ _ _ h => h⟩
        | 4, _ =>
          cases ho
          exact wpOp_nilCheck rfl rfl rfl (hI.slot 3 25 rfl (hpre ⟨3, .data⟩ (by simp) rfl) rfl) ⟨_, rfl, (hJ.still (by decide)), fun _ => rfl, fun _ _ _ h => h⟩
        | 5, _ =>
          cases ho
          exact wpOp_field rfl rfl rfl (hI.slot 4 26 rfl (hpre ⟨4, .data⟩ (by simp) rfl) rfl) (by simp [go_sem]) ⟨_, rfl, (hJ.still (by decide)), fun _ => rfl, fun _ _ _ h => h⟩
        | 6, _ =>
          cases ho
          exact wpOp_load rfl rfl rfl (hI.slot 5 27 rfl (hpre ⟨5, .data⟩ (by simp) rfl) rfl) (load_c (Tryz.isAgg81 w') (hJ.1.tree.cells hxx).1) ⟨_, rfl, (hJ.still (by decide)), fun _ => rfl, fun _ _ _ h => h⟩
        | 7, _ =>
          cases ho
          refine wpOp_callFn rfl rfl rfl (vs := #[.map (some xx.n)]) (by simp only [List.map_toArray, List.map_cons, List.map_nil, (show a.eval (.tmp 28) = .map (some xx.n) from (hI.slot 6 28 rfl (hpre ⟨6, .data⟩ (by simp) rfl) rfl))]) (fun _ _ => by kernel_rfl) ((valsB_any w' xx.n).mono ?_)
          rintro e' w2 ⟨rfl, rfl⟩
          exact ⟨_, rfl, _, rfl, hJ.alloc hA _ (by decide), fun _ => ⟨_, rfl, hJ.1.size, by simp, cell_alloc_new _ _ _⟩, fun j u _ h => BrV.keep (fun k hk => (World.grownBy_alloc w' _ none).block k hk (by simp)) (by simp) j u h⟩
        | 8, _ =>
          cases ho
          obtain ⟨Bm, eBm, hBm, hBl, hBc⟩ : ValsV w3.heap.size xx.n w' (a.eval (.tmp 29)) := (hI.slot 7 29 rfl (hpre ⟨7, .data⟩ (by simp) rfl) rfl)
          have hO := hJ.2 hn'
          refine wpOp_callFn rfl rfl rfl (vs := #[.slice (some ⟨B, 0, none⟩) k cap, .func (.func 99) #[] #[.pointer (some ⟨Bm, 0, none⟩)]]) (by simp only [List.map_toArray, List.map_cons, List.map_nil, (show a.eval (.tmp 24) = .slice (some ⟨B, 0, none⟩) k cap from (hI.slot 2 24 rfl (hpre ⟨2, .data⟩ (by simp) rfl) rfl)), eBm]) (fun _ _ => by kernel_rfl) ((app_kids hJ.1.tree hxx Bm base _ _ hBl hBc hO hLk hJ.1.base).mono ?_)
          rintro e' w2 ⟨v2, ks, rfl, hks, hO2, hg2⟩
          exact ⟨_, rfl, _, rfl, BrI.grow (by rw [hI.size]; decide) (hJ.1.grown hA hfoot hO hg2), fun _ => ⟨ks.map fun k => blk t (p ++ [k]), ⟨ks, hks, rfl⟩, hO2⟩, fun j u hl h => BrV.grow hg2 hBw j (by rintro rfl; rw [hn'] at hl; cases hl) (by rintro rfl; rw [hI.notyet hn' 9 (by kernel_rfl)] at hl; cases hl) u h⟩
        | 9, _ =>
          cases ho
          have hM : MoreV base (rs.map (blk t)) (KidsOf t p) w' (a.eval (.tmp 30)) := (hI.slot 8 30 rfl (hpre ⟨8, .data⟩ (by simp) rfl) rfl)
          exact wpOp_move rfl rfl (.inr rfl) rfl ⟨_, rfl, (hJ.still (by decide)), fun _ => hM, fun _ _ _ h => h⟩
      case fin =>
        intro listed a w' hIn hall
        have hI := hIn.toL
        clear hIn
        have hJ := hI.inv
        have hM : MoreV base (rs.map (blk t)) (KidsOf t p) w' (a.tmps.getD 3 undef) := hI.slot 9 3 rfl (hall 9 (by decide)) rfl
        obtain ⟨vs, ys, hvl, hul, hvs, hus, e⟩ := hI.frame2 3 1 22 9 (by decide) (Nat.le_of_ble_eq_true (by kernel_rfl)) (by kernel_rfl)
        have vS3 := hvs 0 (by decide)
        clear hI hall hvs hus
        match vs, ys, hvl, hul with
        | [x0], [y0, y1, y2, y3, y4, y5, y6, y7, y8], _, _ =>
          simp only [List.getElem?_cons_zero, Option.some.injEq] at vS3
          rw [show 3 + 0 = 3 from rfl] at vS3
          rw [← vS3] at hM
          simp only [List.take_succ_cons, List.take_zero, List.drop_succ_cons, List.drop_zero, List.cons_append, List.nil_append, Nat.reduceAdd, Nat.reduceSub] at e
          subst e
          obtain ⟨K, ⟨ks, hks, rfl⟩, hO2⟩ := hM
          change ∃ s' : List Pth × List Pth, _ ∧ _
          refine ⟨(vis ++ [p], rs ++ ks.map fun k => p ++ [k]), ?_, x0, _, _, _, _, _, _, _, _, _, _, _, _, _, _, _, _, _, _, _, _, _, _, _, _, _, _, _, _, rfl, ⟨hJ.1.j, hJ.1.tree, ?_, hwk.next hup hks.1 fun k => (hks.2 k).trans (by unfold kidV; rw [Option.isSome_map]), hJ.1.base⟩⟩
          · have := hvN
            show N + 1 - (vis ++ [p]).length < N + 1 - vis.length
            rw [List.length_append, List.length_singleton]
            omega
          · show OwnN9 w' base x0 ((rs ++ ks.map fun k => p ++ [k]).map (blk t))
            rw [List.map_append, List.map_map]
            exact hO2
    · obtain ⟨hR, -, -, -, -⟩ := HR.out
      clear HRd hy
      gi_wp2
      refine bodyPost_ret (results_none rfl _ _ _) rfl ?_
      refine ⟨⟨_, rfl⟩, .inr ⟨vis ++ [p], ⟨?_, fun q hq => ?_⟩, hJx4⟩⟩
      · rw [List.nodup_append]
        exact ⟨hR.walk.nd, by simp, fun a ha b hb e => hR.walk.fresh (by rw [List.mem_singleton.1 hb] at e; exact e ▸ ha)⟩
      · rcases List.mem_append.1 hq with hq | hq
        · exact hR.walk.v q hq
        · rw [List.mem_singleton.1 hq]; exact hps
end Go.Proofs.YtgcfgheamaoceaaGreatDoor
/- Layer 14: branches, Nodes. -/
namespace Go.Proofs.YtgcfgheamaoceaaGreatDoor
open Go.RowKit Go.MapKept Go.ChangeMaps Go.Maps

theorem branches_any (w : World) (b : Nat) : Calls Tryz.prog 49 #[.pointer (some ⟨b, 0, none⟩)] w fun e w' =>
    e = .returned (.func (.func 80) #[] #[.pointer (some ⟨w.heap.size, 0, none⟩)]) ∧ w' = w.alloc (.cells #[.pointer (some ⟨b, 0, none⟩)] 54) := by
  go_enter Tryz.func49, Tryz.ntmps49
  go_wp2
  go_ret
  exact ⟨rfl, rfl⟩
section
variable {w : World} {Bk : Nat} {g : List Sb} {t : Tr}
theorem pres_len (g : List Sb) : (g.flatMap fun s => (List.range 202).map fun i => (lv s.f).take i).length = g.length * 202 := by
  induction g with
  | nil => rfl
  | cons s g ih => rw [List.flatMap_cons, List.length_append, ih, List.length_map, List.length_range, List.length_cons]; omega
/-- How many branches there can be. -/
theorem BookAt.nodes (h : BookAt w Bk g t) : ∀ ps : List Pth, ps.Nodup → (∀ p ∈ ps, (t p).isSome = true) → ps.length ≤ 890000 := by
  intro ps hn hp
  have hl : ∀ s ∈ g, (lv s.f).length ≤ 201 := fun s hs => by
    have := lv_len_le s.f
    have := fitL_len (filtL_fit (h.good.each s hs).1).1
    omega
  refine Nat.le_trans (nodup_le ps ([] :: g.flatMap fun s => (List.range 202).map fun i => (lv s.f).take i) hn fun p hpp => ?_) ?_
  · rcases (h.dom p).1 (hp p hpp) with rfl | ⟨s, hs, hu⟩
    · simp
    · refine List.mem_cons_of_mem _ (List.mem_flatMap.2 ⟨s, hs, List.mem_map.2 ⟨p.length, ?_, ?_⟩⟩)
      · unfold under at hu
        have hpre : p <+: lv s.f := by simpa using hu
        have := List.IsPrefix.length_le hpre
        have := hl s hs
        rw [List.mem_range]; omega
      · unfold under at hu
        have hpre : p <+: lv s.f := by simpa using hu
        exact (List.prefix_iff_eq_take.1 hpre).symm
  · rw [List.length_cons, pres_len g]
    have := h.good.len
    omega
def NodesPost (w : World) (t : Tr) (e : Ending) (w' : World) : Prop := ∃ ps : List Pth, (ps.Nodup ∧ ∀ q, q ∈ ps ↔ (t q).isSome = true) ∧ e = .returned (.int .i64 ((ps.length : Int) - 1)) ∧ Below w.heap.size w w'
attribute [local go_sem] Oper.semAt_some
set_option maxRecDepth 100000 in
set_option maxHeartbeats 4000000 in
theorem nodes_any (h : BookAt w Bk g t) : Calls Tryz.prog 20 #[.pointer (some ⟨Bk, 0, none⟩)] w fun e w' => NodesPost w t e w' := by
  obtain ⟨x, hx, hc⟩ := h.cell
  have hBk := cell_lt hc
  obtain ⟨w1, hw1⟩ : ∃ w1, w.alloc (.cells #[.int .i64 (-1)] 3) = w1 := ⟨_, rfl⟩
  obtain ⟨w2, hw2⟩ : ∃ w2, w1.alloc (.cells #[.pointer (some ⟨x.b, 0, none⟩)] 54) = w2 := ⟨_, rfl⟩
  have hb1 : Below w.heap.size w w1 := by rw [← hw1]; exact (Below.refl _ w).alloc (Nat.le_refl _) _
  have hs1 : w1.heap.size = w.heap.size + 1 := by rw [← hw1]; simp
  have hs2 : w2.heap.size = w.heap.size + 2 := by rw [← hw2]; simp; omega
  have hb2 : Below w.heap.size w w2 := by rw [← hw2]; exact hb1.alloc (by omega) _
  have hr1 : w1.heap[w.heap.size]? = some (.cells #[.int .i64 (-1)] 3 (0, 0)) := by rw [← hw1]; exact (MapKept.heap_alloc w _).1
  have hr2 : w2.heap[w.heap.size]? = some (.cells #[.int .i64 (-1)] 3 (0, 0)) := by rw [← hw2]; exact ((World.grownBy_alloc w1 _ none).block _ (by omega) (by simp)).trans hr1
  have hBb : w2.cell? ⟨w1.heap.size, 0, none⟩ = some (.pointer (some ⟨x.b, 0, none⟩)) := by rw [← hw2]; exact cell_alloc_new _ _ _
  have HS := branches_hands 8 (h.tree.below hb2) hx 890000 h.nodes (Nat.le_refl _) w1.heap.size hBb
  have hfoot : ∀ k, Foot t k → k < w.heap.size := fun k hk => h.tree.lt hk
  have HT := Lib.hid (there_yes w Bk x.b hc)
  have HB := Lib.hid (branches_any w1 x.b)
  have HF := Lib.hid (And.intro hr2 (And.intro hb2 (And.intro hfoot (And.intro hs2 HS))))
  have hc1 : w1.cell? ⟨Bk, 0, none⟩ = some (.pointer (some ⟨x.b, 0, none⟩)) := (hb1.cell (p := ⟨Bk, 0, none⟩) hBk).trans hc
  refine (callsIn_wide (n := 9)).1 ?_
  refine callsIn_of_wp_marks Tryz.func20 rfl trivial ?_ rfl
  simp only [Tryz.ntmps20, List.size_toArray, List.length_cons, List.length_nil, Nat.reduceAdd, Nat.reduceSub, Array.replicate_succ, Array.replicate_zero, List.push_toArray, List.append_toArray, List.nil_append, List.cons_append]
  clear hb1 hs1 hs2 hb2 hr1 hr2 hBb HS hfoot h
  gi_wp2_with (refine ⟨trivial, ?_⟩; gi_at_call 41; refine (callsIn_wide.2 HT.out).mono ?_; rintro en w' ⟨rfl, rfl⟩)
  refine ⟨trivial, (callsIn_wide.2 HB.out).mono ?_⟩
  rintro en w' ⟨rfl, rfl⟩
  rw [hw2]
  obtain ⟨hr2, hb2, hfoot, hs2, HS⟩ := HF.out
  clear HT HB HF hw1 hw2
  gi_wp2
  refine wpIn_range_handsT (T := 54) rfl (fun h => (by cases h)) (gf := 80) (lb := #[.pointer (some ⟨w1.heap.size, 0, none⟩)]) rfl trivial (enters_of Tryz.func80 (by kernel_rfl) rfl) HS KpT.trans (fun W l o o' hl ho hc hw => KpT.putObj hfoot W l o o' (by omega) ho hc hw) (KpT.refl _) (fun _ => rfl)
    (fun pre W => Below w.heap.size w W ∧ W.heap[w.heap.size]? = some (.cells #[.int .i64 ((pre.length : Int) - 1)] 3 (0, 0))) (fun _ _ _ => False)
    (fun pre A B row hs hg hr => ⟨hs.1.trans ⟨hg.os, hg.tape, hg.output, hg.size, fun i hi => hg.block i (Nat.lt_of_lt_of_le hi hs.1.size) fun e => by have := (hr _ e.symm).1; omega⟩,
      (hg.block _ (Array.getElem?_eq_some_iff.1 hs.2).1 fun e => by have := (hr _ e.symm).1; omega).trans hs.2⟩) (fun _ _ _ _ _ hs _ _ => hs) ⟨hb2, hr2⟩
    (fun p => { tmps := #[.pointer (some ⟨Bk, 0, none⟩), undef, .int .i64 0, .pointer (some ⟨w.heap.size, 0, none⟩), .pointer (some ⟨Bk, 0, none⟩), .bool true, .bool false, .pointer (some ⟨Bk, 0, none⟩), .pointer (some ⟨Bk, 0, none⟩), .pointer (some ⟨Bk, 0, none⟩), .pointer (some ⟨x.b, 0, none⟩), .func (.func 80) #[] #[.pointer (some ⟨w1.heap.size, 0, none⟩)], .pointer (some ⟨blk t p, 0, none⟩), undef, undef, undef], defers := [] }) ?assign ?body ?done ?stop
  case assign =>
    intro l p W K hK
    gi_wp2
    simpa using hK
  case body =>
    rintro l pre p W hl - ⟨hbW, hrW⟩ ⟨-, -, hlen⟩
    have hcW : W.cell? ⟨w.heap.size, 0, none⟩ = some (.int .i64 ((pre.length : Int) - 1)) := by rw [cell_of_row _ _ _ _ _ _ hrW]; rfl
    have hfW : W.frozen? ⟨w.heap.size, 0, none⟩ = false := by simp [World.frozen?, hrW]
    have hlW : w.heap.size < W.heap.size := (Array.getElem?_eq_some_iff.1 hrW).1
    have HW := Lib.hid (And.intro hbW hrW)
    obtain ⟨k, hk⟩ : ∃ k, pre.length = k := ⟨_, rfl⟩
    rw [hk] at hcW hlen
    have hadd : (k : Int) - 1 + 1 = k := by omega
    clear hbW hrW hr2 hb2
    gi_wp2
    obtain ⟨hbW, hrW⟩ := HW.out
    have hg := grownBy_setCell' W w.heap.size (.int .i64 (k : Int))
    refine ⟨(KeepsOthers.setCell _ _ _).from _, ⟨by simp, fun i hi hF => heap_setCell_other W ⟨w.heap.size, 0, none⟩ i _ (fun e => by have e : i = w.heap.size := e; have := hfoot i hF; omega), fun i o ho hc => ?_⟩, hbW.setCell (p := ⟨w.heap.size, 0, none⟩) (Nat.le_refl _) _, ?_⟩
    · refine (heap_setCell_other W ⟨w.heap.size, 0, none⟩ i _ (fun e => ?_)).trans ho
      have e : i = w.heap.size := e
      subst e
      rw [hrW] at ho
      injection ho with ho
      subst ho
      rcases hc with hc | ⟨cs, hc⟩
      · cases hc
      · injection hc with _ e2
        exact absurd e2 (by decide)
    · rw [heap_setCell_same W w.heap.size 0 _ _ _ hrW, List.length_append, hk]
      simp
  case done =>
    rintro D ps W hD hA ⟨hbW, hrW⟩ hK
    have hcW : W.cell? ⟨w.heap.size, 0, none⟩ = some (.int .i64 ((ps.length : Int) - 1)) := by rw [cell_of_row _ _ _ _ _ _ hrW]; rfl
    have HW := Lib.hid (And.intro hbW hA)
    clear hbW hrW hr2 hb2 hA
    gi_wp2
    refine ⟨by simp, .inl ⟨_, _, rfl, run_takeDeferred hK, ?_⟩⟩
    refine ⟨_, results_tmp rfl _ _ _, ?_⟩
    obtain ⟨hbW, hA⟩ := HW.out
    exact ⟨ps, hA, rfl, hbW.grown (grownBy_putObj' W D _) hbW.size (fun k e => by cases e; omega)⟩
  case stop =>
    rintro D c ps W _ _ h _
    exact h.elim
end
end Go.Proofs.YtgcfgheamaoceaaGreatDoor

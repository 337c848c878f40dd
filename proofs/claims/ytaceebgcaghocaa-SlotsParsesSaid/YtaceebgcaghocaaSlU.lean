/- Layer 5: may cells of a kind be, in the document's words. -/
import Derived.Deep.DeepCutAuto
import Derived.WalkSmall
import Derived.Test.YtaceebgcaghocaaRegOps
import Derived.Test.YtaceebgcaghocaaReg3
import Derived.Test.YtaceebgcaghocaaSlJ
import Derived.Test.YtaceebgcaghocaaSlM
namespace Go.Proofs.Ytaceebgcaghocaa
open Go.RowKit

section
variable {ops : Array Oper} {o : Oper} {i : Nat} {a : Act} {w : World} {K : Act → World → Prop} {Q : Exit → Act → World → Prop}
theorem wpOp_off (ho : ops[i]? = some o) (hg : Region.wanted o (yielded ops a.tmps) = false) (hK : K (a.put o.dst undef) w) : wpOp Try.prog ops Q i K a w := by
  unfold wpOp
  simp only [ho]
  rw [if_neg (by rw [hg]; decide)]
  exact hK
theorem wantedOff {oi : Oper} {b : Bool} {v : Value} {d : Tmp} {j : Nat} (hg : o.guard = some (j, b)) (ho : ops[j]? = some oi) (hd : oi.dst = some d) (hsz : d < a.tmps.size) (hv : a.eval (.tmp d) = v) (hb : v ≠ .bool b) : Region.wanted o (yielded ops a.tmps) = false := by
  have h1 : a.tmps[d]? = some v := by
    have : a.tmps.getD d undef = v := hv
    rw [Array.getD, dif_pos hsz] at this
    rw [Array.getElem?_eq_getElem hsz]; exact congrArg some this
  unfold Region.wanted
  rw [hg]
  simp only [yielded, ho, hd, h1, Option.bind_some]
  cases v <;> simp_all
theorem wpOp_gtI {x y : Operand} {n m : Int} {c : Bool} (ho : ops[i]? = some o) (hg : Region.wanted o (yielded ops a.tmps) = true) (hop : o.op = .binOp .gtr 3 x y 3) (hx : a.eval x = .int .i64 n) (hy : a.eval y = .int .i64 m) (hc : c = decide (m < n)) (hK : K (a.put o.dst (.bool c)) w) : wpOp Try.prog ops Q i K a w := by
  subst hc
  exact wpOp_val ho hg (by simp only [execOp, hop, hx, hy]; simp [go_sem]) hK
theorem wpOp_subI {x y : Operand} {n m r : Int} (ho : ops[i]? = some o) (hg : Region.wanted o (yielded ops a.tmps) = true) (hop : o.op = .binOp .sub 3 x y 3) (hx : a.eval x = .int .i64 n) (hy : a.eval y = .int .i64 m) (hr : IntKind.i64.wrap (n - m) = r) (hK : K (a.put o.dst (.int .i64 r)) w) : wpOp Try.prog ops Q i K a w :=
  wpOp_val ho hg (by simp only [execOp, hop, hx, hy]; simp [go_sem, hr]) hK
theorem wpOp_geS {x y : Operand} {s t : ByteArray} (ho : ops[i]? = some o) (hg : Region.wanted o (yielded ops a.tmps) = true) (hop : o.op = .binOp .geq 9 x y 9) (hx : a.eval x = .string s) (hy : a.eval y = .string t) (hK : K (a.put o.dst (.bool (!Op.bytesLess s.toList t.toList))) w) : wpOp Try.prog ops Q i K a w :=
  wpOp_val ho hg (by simp only [execOp, hop, hx, hy]; simp [go_sem]) hK
theorem wpOp_notB {x : Operand} {b c : Bool} (ho : ops[i]? = some o) (hg : Region.wanted o (yielded ops a.tmps) = true) (hop : o.op = .unOp .not 4 x) (hx : a.eval x = .bool b) (hc : c = !b) (hK : K (a.put o.dst (.bool c)) w) : wpOp Try.prog ops Q i K a w := by
  subst hc
  exact wpOp_val ho hg (by simp only [execOp, hop, hx]; simp [go_sem]) hK
end
theorem index_cell (w : World) (b off n cap i : Nat) (h : i < n) : (Instr.indexAt 25 (.slice (some ⟨b, off, none⟩) n cap) (.int .i64 i)).run Try.prog w = .ok (.pointer (some ⟨b, off + i * 5, none⟩)) w := by
  have he : Try.prog.elem 25 = 36 := by kernel_rfl
  have hs : (sizeOf 36).run Try.prog w = .ok 5 w := by kernel_rfl
  refine (run_indexAt_slice (P := Try.prog) (w := w) 25 ⟨b, off, none⟩ n cap .i64 i (by rw [he]; exact Try.underlying25)).trans ?_
  rw [if_pos (by omega), he, hs]
  simp [Result.andThen, Addr.add]
theorem load_cell {w : World} {b o : Nat} {c : Cv} (h : CellAt w b o c) : (Instr.loadAt 36 (.pointer (some ⟨b, o, none⟩))).run Try.prog w = .ok (cellv c) w := by
  obtain ⟨h0, h1, h2, h3, h4⟩ := h
  simp [go_sem, h0, h1, h2, h3, h4]
theorem field_cell (w : World) (b o : Nat) : (Instr.fieldAt 36 (.pointer (some ⟨b, o, none⟩)) 0).run Try.prog w = .ok (.pointer (some ⟨b, o, none⟩)) w := by simp [go_sem]
theorem load_str {w : World} {b o : Nat} {s : ByteArray} (h : w.cell? ⟨b, o, none⟩ = some (.string s)) : (Instr.loadAt 9 (.pointer (some ⟨b, o, none⟩))).run Try.prog w = .ok (.string s) w := load_cellR (Try.isAgg9 w) h
/-- What the operations of Right's test yield. -/
def RtV (K : Int) (lf M Z ls : Bool) (sl : Value) (b off i j : Nat) (c p : Cv) : Nat → Value → Prop
  | 0, v => v = .int .i64 K
  | 1, v => v = .bool lf
  | 2, v => v = sl
  | 3, v => v = .int .i64 i
  | 4, v => v = .pointer (some ⟨b, off + i * 5, none⟩)
  | 5, v => v = cellv c
  | 6, v => v = .bool M
  | 7, v => v = .bool (!M)
  | 8, v => v = .bool (!M)
  | 9, v => M = true → v = .int .i64 i
  | 10, v => M = true → v = .bool Z
  | 11, v => (M = true → v = .bool Z) ∧ (M = false → v = undef)
  | 12, v => M = true → Z = true → v = sl
  | 13, v => M = true → Z = true → v = .int .i64 i
  | 14, v => M = true → Z = true → v = .int .i64 j
  | 15, v => M = true → Z = true → v = .pointer (some ⟨b, off + j * 5, none⟩)
  | 16, v => M = true → Z = true → v = .pointer (some ⟨b, off + j * 5, none⟩)
  | 17, v => M = true → Z = true → v = .string p.key
  | 18, v => M = true → Z = true → v = sl
  | 19, v => M = true → Z = true → v = .int .i64 i
  | 20, v => M = true → Z = true → v = .pointer (some ⟨b, off + i * 5, none⟩)
  | 21, v => M = true → Z = true → v = .pointer (some ⟨b, off + i * 5, none⟩)
  | 22, v => M = true → Z = true → v = .string c.key
  | 23, v => M = true → Z = true → v = .bool (!ls)
  | 24, v => M = true → v = .bool (Z && !ls)
  | 25, v => v = .bool (!M || (Z && !ls))
  | _, _ => True
def RightPost (w : World) (k : Int) (L : List Cv) (e : Ending) (w' : World) : Prop := Below w.heap.size w w' ∧ ((RightC k L ∧ e = .returned (.bool true)) ∨ (¬ RightC k L ∧ e = .returned (.bool false)))
def Sized (L : List Cv) : Prop := ∀ j, j < L.length → (L.getD j default).key.size ≤ 9223372036854775807 ∧ (L.getD j default).text.size ≤ 9223372036854775807
set_option maxRecDepth 100000 in
set_option maxHeartbeats 1000000 in
theorem right_none (k : Int) (hk2 : k ≠ 2) (hk3 : k ≠ 3) (w : World) (a : Option Addr) (L : List Cv) (cap : Nat) :
    Calls Try.prog 16 #[.int .i64 k, .slice a L.length cap] w fun e w' => RightPost w k L e w' := by
  have HN := Lib.hid (show ¬ RightC k L from fun h => by rcases h.1 with h | h; exact hk2 h; exact hk3 h)
  have h2 : (k == 2) = false := by simpa using hk2
  have h3 : (k == 3) = false := by simpa using hk3
  have h2' : (k != 2) = true := by simpa using hk2
  have h3' : (k != 3) = true := by simpa using hk3
  go_enter Try.func16, Try.ntmps16
  go_wp2
  go_ret
  exact ⟨Below.refl _ _, .inr ⟨HN.out, rfl⟩⟩
set_option maxRecDepth 100000 in
set_option maxHeartbeats 1000000 in
theorem right_empty (w : World) (a : Option Addr) (cap : Nat) :
    Calls Try.prog 16 #[.int .i64 3, .slice a 0 cap] w fun e w' => RightPost w 3 [] e w' := by
  have HN := Lib.hid (show ¬ RightC 3 [] from fun h => h.2.1 rfl rfl)
  go_enter Try.func16, Try.ntmps16
  go_wp2
  go_ret
  exact ⟨Below.refl _ _, .inr ⟨HN.out, rfl⟩⟩
set_option maxRecDepth 100000 in
set_option maxHeartbeats 4000000 in
theorem right_leaf (w : World) (a : Option Addr) (L : List Cv) (cap : Nat) (hcap : L.length ≤ 1000) (hm0 : CellsAt w.heap.size w a L) (hs : Sized L) :
    Calls Try.prog 16 #[.int .i64 2, .slice a L.length cap] w fun e w' => RightPost w 2 L e w' := by
  have HM := Lib.hid (And.intro hm0 hs)
  clear hm0 hs
  go_enter Try.func16, Try.ntmps16
  go_wp2
  go_loopw [5, 21, 22, 23, 24, 25, 26, 27, 28, 29, 30, 31, 32, 33, 34, 35, 36, 37, 38, 39, 40, 41, 42, 43, 44, 45, 46, 47, 48, 49, 50, 51, 52] (fun y _ _ _ _ _ _ _ _ _ _ _ _ _ _ _ _ _ _ _ _ _ _ _ _ _ _ _ _ _ _ _ _ wr => Below w.heap.size w wr ∧ ∃ i : Nat, y = .int .i64 i ∧ i ≤ L.length ∧ OkUpto true L i) (fun y _ _ _ _ _ _ _ _ _ _ _ _ _ _ _ _ _ _ _ _ _ _ _ _ _ _ _ _ _ _ _ _ _ => L.length - (intOf y).toNat)
  case atStart => exact ⟨Below.refl _ _, 0, rfl, Nat.zero_le _, fun j hj => by omega⟩
  case round =>
    obtain ⟨hb, i, rfl, hi, hok⟩ := hrel
    by_cases hlt : i < L.length
    · have hiL : (i : Int) < (L.length : Int) := by omega
      obtain ⟨b, off, rfl, hbs, hcs⟩ := (HM.out.1.below hb) (by rintro rfl; simp at hlt)
      have hblt : b < wr.heap.size := Nat.lt_of_lt_of_le hbs hb.size
      obtain ⟨c, hcd⟩ : ∃ c, L.getD i default = c := ⟨_, rfl⟩
      have hcc := hcs i hlt
      have hsz := HM.out.2 i hlt
      rw [hcd] at hcc hsz
      have HMAY := Lib.hid (fun w => may_any true c w hsz.1 hsz.2)
      obtain ⟨M, hmb⟩ : ∃ m, mayB true c = m := ⟨_, rfl⟩
      have hmok : M = true ↔ CellOk true c := by rw [← hmb]; exact (cellOk_may true c).symm
      rw [hmb] at HMAY
      have HX := Lib.hid (And.intro hb (And.intro hok (And.intro hcs (And.intro hcd hmok))))
      have HCC := Lib.hid hcc
      clear hb hok hcs hmb hmok hsz hcc
      go_wp2_with fail
      go_cut [52] (fun x wx => Below wr.heap.size wr wx ∧ ∃ nb : Bool, x = .bool nb ∧ (nb = false → CellOk true c ∧ Rises L i) ∧ (nb = true → ¬ (CellOk true c ∧ Rises L i)))
      case first =>
        obtain ⟨Z, hzd⟩ : ∃ Z, Z = decide ((0 : Int) < (i : Int)) := ⟨_, rfl⟩
        obtain ⟨j, hj⟩ : ∃ j, j = i - 1 := ⟨_, rfl⟩
        have hZ : Z = true → IntKind.i64.wrap ((i : Int) - 1) = (j : Int) ∧ j < L.length := fun h => by
          rw [hzd, decide_eq_true_eq] at h
          exact ⟨by rw [wrapEq]; unfold wrap64; omega, by omega⟩
        obtain ⟨p, hpd⟩ : ∃ p, L.getD j default = p := ⟨_, rfl⟩
        have hpc : Z = true → CellAt wr b (off + j * 5) p := fun h => by
          have := HX.out.2.2.1 j (hZ h).2
          rwa [hpd] at this
        obtain ⟨ls, hls⟩ : ∃ ls, Op.bytesLess p.key.toList c.key.toList = ls := ⟨_, rfl⟩
        have HLS := Lib.hid hls
        have HZD := Lib.hid hzd
        have hcc := HCC.out
        refine wp_region_m (fun _ w' => Below wr.heap.size wr w') (fun q v _ => RtV 2 true M Z ls (.slice (some ⟨b, off, none⟩) L.length cap) b off i j c p q v) (by kernel_rfl) (by kernel_rfl) (by kernel_rfl) (by kernel_rfl) (Below.refl _ _).drew ?step6 ?fin6
        case step6 =>
         intro i0 o ho listed a' w' hI hn' hpre
         have hi0 : i0 < 26 := (Array.getElem?_eq_some_iff.1 ho).1
         have hB := hI.inv
         match i0, hi0 with
        | 0, _ =>
          cases ho
          exact wpOp_move rfl rfl (.inl rfl) (hI.kept (t := 0) (by kernel_rfl)) ⟨_, rfl, hB, fun _ => rfl, fun _ _ _ h => h⟩
        | 1, _ =>
          cases ho
          exact wpOp_eqI rfl rfl rfl (hI.slot 0 27 rfl (hpre ⟨0, .data⟩ (by simp) rfl) rfl) (m := 2) rfl ⟨_, rfl, hB, fun _ => rfl, fun _ _ _ h => h⟩
        | 2, _ =>
          cases ho
          exact wpOp_move rfl rfl (.inl rfl) (hI.kept (t := 1) (by kernel_rfl)) ⟨_, rfl, hB, fun _ => rfl, fun _ _ _ h => h⟩
        | 3, _ =>
          cases ho
          exact wpOp_move rfl rfl (.inl rfl) (hI.kept (t := 5) (by kernel_rfl)) ⟨_, rfl, hB, fun _ => rfl, fun _ _ _ h => h⟩
        | 4, _ =>
          cases ho
          exact wpOp_index rfl rfl rfl ((hI.slot 2 29 rfl (hpre ⟨2, .data⟩ (by simp) rfl) rfl)) ((hI.slot 3 30 rfl (hpre ⟨3, .data⟩ (by simp) rfl) rfl)) (index_cell w' b off L.length cap i hlt) ⟨_, rfl, hB, fun _ => rfl, fun _ _ _ h => h⟩
        | 5, _ =>
          cases ho
          exact wpOp_load rfl rfl rfl (hI.slot 4 31 rfl (hpre ⟨4, .data⟩ (by simp) rfl) rfl) (load_cell (hcc.below hB hblt)) ⟨_, rfl, hB, fun _ => rfl, fun _ _ _ h => h⟩
        | 6, _ =>
          cases ho
          have e0 : a'.eval (.tmp 28) = .bool true := (hI.slot 1 28 rfl (hpre ⟨1, .data⟩ (by simp) rfl) rfl)
          have e1 : a'.eval (.tmp 32) = cellv c := (hI.slot 5 32 rfl (hpre ⟨5, .data⟩ (by simp) rfl) rfl)
          refine wpOp_callFn rfl rfl rfl (vs := #[.bool true, cellv c]) (by simp only [List.map_toArray, List.map_cons, List.map_nil, e0, e1]) (fun _ _ => by kernel_rfl) ((HMAY.out w').mono ?_)
          rintro e w'' ⟨rfl, hb2⟩
          exact ⟨_, rfl, _, rfl, hB.trans (hb2.mono hB.size), fun _ => rfl, fun _ _ _ h => h⟩
        | 7, _ =>
          cases ho
          exact wpOp_notB rfl rfl rfl (hI.slot 6 33 rfl (hpre ⟨6, .data⟩ (by simp) rfl) rfl) rfl ⟨_, rfl, hB, fun _ => rfl, fun _ _ _ h => h⟩
        | 8, _ =>
          cases ho
          exact wpOp_move rfl rfl (.inl rfl) ((hI.slot 7 34 rfl (hpre ⟨7, .data⟩ (by simp) rfl) rfl)) ⟨_, rfl, hB, fun _ => rfl, fun _ _ _ h => h⟩
        | 9, _ =>
          cases ho
          have eg : a'.eval (.tmp 35) = .bool (!M) := hI.slot 8 35 rfl (hpre ⟨8, .guard⟩ (by simp) rfl) rfl
          by_cases hM : M = true
          · exact wpOp_move rfl (wantedOf (j := 8) (b := false) rfl rfl rfl (by rw [hI.len]; show _ < 53; decide) (by rw [eg, hM]; rfl)) (.inl rfl) (hI.kept (t := 5) (by kernel_rfl)) ⟨_, rfl, hB, fun _ => fun _ => rfl, fun _ _ _ h => h⟩
          · exact wpOp_off rfl (wantedOff (j := 8) (b := false) rfl rfl rfl (by rw [hI.len]; show _ < 53; decide) eg (by cases M <;> simp at hM ⊢)) ⟨_, rfl, hB, fun _ => fun h => absurd h hM, fun _ _ _ h => h⟩
        | 10, _ =>
          cases ho
          have eg : a'.eval (.tmp 35) = .bool (!M) := hI.slot 8 35 rfl (hpre ⟨8, .guard⟩ (by simp) rfl) rfl
          by_cases hM : M = true
          · exact wpOp_gtI rfl (wantedOf (j := 8) (b := false) rfl rfl rfl (by rw [hI.len]; show _ < 53; decide) (by rw [eg, hM]; rfl)) rfl ((hI.slot 9 36 rfl (hpre ⟨9, .data⟩ (by simp) rfl) rfl) hM) (m := 0) rfl HZD.out ⟨_, rfl, hB, fun _ => fun _ => rfl, fun _ _ _ h => h⟩
          · exact wpOp_off rfl (wantedOff (j := 8) (b := false) rfl rfl rfl (by rw [hI.len]; show _ < 53; decide) eg (by cases M <;> simp at hM ⊢)) ⟨_, rfl, hB, fun _ => fun h => absurd h hM, fun _ _ _ h => h⟩
        | 11, _ =>
          cases ho
          have eg : a'.eval (.tmp 35) = .bool (!M) := hI.slot 8 35 rfl (hpre ⟨8, .guard⟩ (by simp) rfl) rfl
          by_cases hM : M = true
          · exact wpOp_move rfl (wantedOf (j := 8) (b := false) rfl rfl rfl (by rw [hI.len]; show _ < 53; decide) (by rw [eg, hM]; rfl)) (.inl rfl) ((hI.slot 10 37 rfl (hpre ⟨10, .data⟩ (by simp) rfl) rfl) hM) ⟨_, rfl, hB, fun _ => ⟨fun _ => rfl, fun h => by rw [hM] at h; cases h⟩, fun _ _ _ h => h⟩
          · exact wpOp_off rfl (wantedOff (j := 8) (b := false) rfl rfl rfl (by rw [hI.len]; show _ < 53; decide) eg (by cases M <;> simp at hM ⊢)) ⟨_, rfl, hB, fun _ => ⟨fun h => absurd h hM, fun _ => rfl⟩, fun _ _ _ h => h⟩
        | 12, _ =>
          cases ho
          have eg := hI.slot 11 38 rfl (hpre ⟨11, .guard⟩ (by simp) rfl) rfl
          by_cases hMZ : M = true ∧ Z = true
          · exact wpOp_move rfl (wantedOf (j := 11) (b := true) rfl rfl rfl (by rw [hI.len]; show _ < 53; decide) ((eg.1 hMZ.1).trans (by rw [hMZ.2]))) (.inl rfl) (hI.kept (t := 1) (by kernel_rfl)) ⟨_, rfl, hB, fun _ => fun _ _ => rfl, fun _ _ _ h => h⟩
          · refine wpOp_off rfl (wantedOff (j := 11) (b := true) (d := 38) rfl rfl rfl (by rw [hI.len]; show _ < 53; decide) rfl (fun h => ?_)) ⟨_, rfl, hB, fun _ => fun h1 h2 => absurd ⟨h1, h2⟩ hMZ, fun _ _ _ h => h⟩
            cases hm : M
            · rw [eg.2 hm] at h; cases h
            · rw [eg.1 hm] at h; cases h; exact hMZ ⟨hm, rfl⟩
        | 13, _ =>
          cases ho
          have eg := hI.slot 11 38 rfl (hpre ⟨11, .guard⟩ (by simp) rfl) rfl
          by_cases hMZ : M = true ∧ Z = true
          · exact wpOp_move rfl (wantedOf (j := 11) (b := true) rfl rfl rfl (by rw [hI.len]; show _ < 53; decide) ((eg.1 hMZ.1).trans (by rw [hMZ.2]))) (.inl rfl) (hI.kept (t := 5) (by kernel_rfl)) ⟨_, rfl, hB, fun _ => fun _ _ => rfl, fun _ _ _ h => h⟩
          · refine wpOp_off rfl (wantedOff (j := 11) (b := true) (d := 38) rfl rfl rfl (by rw [hI.len]; show _ < 53; decide) rfl (fun h => ?_)) ⟨_, rfl, hB, fun _ => fun h1 h2 => absurd ⟨h1, h2⟩ hMZ, fun _ _ _ h => h⟩
            cases hm : M
            · rw [eg.2 hm] at h; cases h
            · rw [eg.1 hm] at h; cases h; exact hMZ ⟨hm, rfl⟩
        | 14, _ =>
          cases ho
          have eg := hI.slot 11 38 rfl (hpre ⟨11, .guard⟩ (by simp) rfl) rfl
          by_cases hMZ : M = true ∧ Z = true
          · exact wpOp_subI rfl (wantedOf (j := 11) (b := true) rfl rfl rfl (by rw [hI.len]; show _ < 53; decide) ((eg.1 hMZ.1).trans (by rw [hMZ.2]))) rfl ((hI.slot 13 40 rfl (hpre ⟨13, .data⟩ (by simp) rfl) rfl) hMZ.1 hMZ.2) (m := 1) rfl (hZ hMZ.2).1 ⟨_, rfl, hB, fun _ => fun _ _ => rfl, fun _ _ _ h => h⟩
          · refine wpOp_off rfl (wantedOff (j := 11) (b := true) (d := 38) rfl rfl rfl (by rw [hI.len]; show _ < 53; decide) rfl (fun h => ?_)) ⟨_, rfl, hB, fun _ => fun h1 h2 => absurd ⟨h1, h2⟩ hMZ, fun _ _ _ h => h⟩
            cases hm : M
            · rw [eg.2 hm] at h; cases h
            · rw [eg.1 hm] at h; cases h; exact hMZ ⟨hm, rfl⟩
        | 15, _ =>
          cases ho
          have eg := hI.slot 11 38 rfl (hpre ⟨11, .guard⟩ (by simp) rfl) rfl
          by_cases hMZ : M = true ∧ Z = true
          · exact wpOp_index rfl (wantedOf (j := 11) (b := true) rfl rfl rfl (by rw [hI.len]; show _ < 53; decide) ((eg.1 hMZ.1).trans (by rw [hMZ.2]))) rfl ((hI.slot 12 39 rfl (hpre ⟨12, .data⟩ (by simp) rfl) rfl) hMZ.1 hMZ.2) ((hI.slot 14 41 rfl (hpre ⟨14, .data⟩ (by simp) rfl) rfl) hMZ.1 hMZ.2) (index_cell w' b off L.length cap j (hZ hMZ.2).2) ⟨_, rfl, hB, fun _ => fun _ _ => rfl, fun _ _ _ h => h⟩
          · refine wpOp_off rfl (wantedOff (j := 11) (b := true) (d := 38) rfl rfl rfl (by rw [hI.len]; show _ < 53; decide) rfl (fun h => ?_)) ⟨_, rfl, hB, fun _ => fun h1 h2 => absurd ⟨h1, h2⟩ hMZ, fun _ _ _ h => h⟩
            cases hm : M
            · rw [eg.2 hm] at h; cases h
            · rw [eg.1 hm] at h; cases h; exact hMZ ⟨hm, rfl⟩
        | 16, _ =>
          cases ho
          have eg := hI.slot 11 38 rfl (hpre ⟨11, .guard⟩ (by simp) rfl) rfl
          by_cases hMZ : M = true ∧ Z = true
          · exact wpOp_field rfl (wantedOf (j := 11) (b := true) rfl rfl rfl (by rw [hI.len]; show _ < 53; decide) ((eg.1 hMZ.1).trans (by rw [hMZ.2]))) rfl ((hI.slot 15 42 rfl (hpre ⟨15, .data⟩ (by simp) rfl) rfl) hMZ.1 hMZ.2) (field_cell w' b _) ⟨_, rfl, hB, fun _ => fun _ _ => rfl, fun _ _ _ h => h⟩
          · refine wpOp_off rfl (wantedOff (j := 11) (b := true) (d := 38) rfl rfl rfl (by rw [hI.len]; show _ < 53; decide) rfl (fun h => ?_)) ⟨_, rfl, hB, fun _ => fun h1 h2 => absurd ⟨h1, h2⟩ hMZ, fun _ _ _ h => h⟩
            cases hm : M
            · rw [eg.2 hm] at h; cases h
            · rw [eg.1 hm] at h; cases h; exact hMZ ⟨hm, rfl⟩
        | 17, _ =>
          cases ho
          have eg := hI.slot 11 38 rfl (hpre ⟨11, .guard⟩ (by simp) rfl) rfl
          by_cases hMZ : M = true ∧ Z = true
          · exact wpOp_load rfl (wantedOf (j := 11) (b := true) rfl rfl rfl (by rw [hI.len]; show _ < 53; decide) ((eg.1 hMZ.1).trans (by rw [hMZ.2]))) rfl ((hI.slot 16 43 rfl (hpre ⟨16, .data⟩ (by simp) rfl) rfl) hMZ.1 hMZ.2) (load_str (((hpc hMZ.2).below hB hblt).key)) ⟨_, rfl, hB, fun _ => fun _ _ => rfl, fun _ _ _ h => h⟩
          · refine wpOp_off rfl (wantedOff (j := 11) (b := true) (d := 38) rfl rfl rfl (by rw [hI.len]; show _ < 53; decide) rfl (fun h => ?_)) ⟨_, rfl, hB, fun _ => fun h1 h2 => absurd ⟨h1, h2⟩ hMZ, fun _ _ _ h => h⟩
            cases hm : M
            · rw [eg.2 hm] at h; cases h
            · rw [eg.1 hm] at h; cases h; exact hMZ ⟨hm, rfl⟩
        | 18, _ =>
          cases ho
          have eg := hI.slot 11 38 rfl (hpre ⟨11, .guard⟩ (by simp) rfl) rfl
          by_cases hMZ : M = true ∧ Z = true
          · exact wpOp_move rfl (wantedOf (j := 11) (b := true) rfl rfl rfl (by rw [hI.len]; show _ < 53; decide) ((eg.1 hMZ.1).trans (by rw [hMZ.2]))) (.inl rfl) (hI.kept (t := 1) (by kernel_rfl)) ⟨_, rfl, hB, fun _ => fun _ _ => rfl, fun _ _ _ h => h⟩
          · refine wpOp_off rfl (wantedOff (j := 11) (b := true) (d := 38) rfl rfl rfl (by rw [hI.len]; show _ < 53; decide) rfl (fun h => ?_)) ⟨_, rfl, hB, fun _ => fun h1 h2 => absurd ⟨h1, h2⟩ hMZ, fun _ _ _ h => h⟩
            cases hm : M
            · rw [eg.2 hm] at h; cases h
            · rw [eg.1 hm] at h; cases h; exact hMZ ⟨hm, rfl⟩
        | 19, _ =>
          cases ho
          have eg := hI.slot 11 38 rfl (hpre ⟨11, .guard⟩ (by simp) rfl) rfl
          by_cases hMZ : M = true ∧ Z = true
          · exact wpOp_move rfl (wantedOf (j := 11) (b := true) rfl rfl rfl (by rw [hI.len]; show _ < 53; decide) ((eg.1 hMZ.1).trans (by rw [hMZ.2]))) (.inl rfl) (hI.kept (t := 5) (by kernel_rfl)) ⟨_, rfl, hB, fun _ => fun _ _ => rfl, fun _ _ _ h => h⟩
          · refine wpOp_off rfl (wantedOff (j := 11) (b := true) (d := 38) rfl rfl rfl (by rw [hI.len]; show _ < 53; decide) rfl (fun h => ?_)) ⟨_, rfl, hB, fun _ => fun h1 h2 => absurd ⟨h1, h2⟩ hMZ, fun _ _ _ h => h⟩
            cases hm : M
            · rw [eg.2 hm] at h; cases h
            · rw [eg.1 hm] at h; cases h; exact hMZ ⟨hm, rfl⟩
        | 20, _ =>
          cases ho
          have eg := hI.slot 11 38 rfl (hpre ⟨11, .guard⟩ (by simp) rfl) rfl
          by_cases hMZ : M = true ∧ Z = true
          · exact wpOp_index rfl (wantedOf (j := 11) (b := true) rfl rfl rfl (by rw [hI.len]; show _ < 53; decide) ((eg.1 hMZ.1).trans (by rw [hMZ.2]))) rfl ((hI.slot 18 45 rfl (hpre ⟨18, .data⟩ (by simp) rfl) rfl) hMZ.1 hMZ.2) ((hI.slot 19 46 rfl (hpre ⟨19, .data⟩ (by simp) rfl) rfl) hMZ.1 hMZ.2) (index_cell w' b off L.length cap i hlt) ⟨_, rfl, hB, fun _ => fun _ _ => rfl, fun _ _ _ h => h⟩
          · refine wpOp_off rfl (wantedOff (j := 11) (b := true) (d := 38) rfl rfl rfl (by rw [hI.len]; show _ < 53; decide) rfl (fun h => ?_)) ⟨_, rfl, hB, fun _ => fun h1 h2 => absurd ⟨h1, h2⟩ hMZ, fun _ _ _ h => h⟩
            cases hm : M
            · rw [eg.2 hm] at h; cases h
            · rw [eg.1 hm] at h; cases h; exact hMZ ⟨hm, rfl⟩
        | 21, _ =>
          cases ho
          have eg := hI.slot 11 38 rfl (hpre ⟨11, .guard⟩ (by simp) rfl) rfl
          by_cases hMZ : M = true ∧ Z = true
          · exact wpOp_field rfl (wantedOf (j := 11) (b := true) rfl rfl rfl (by rw [hI.len]; show _ < 53; decide) ((eg.1 hMZ.1).trans (by rw [hMZ.2]))) rfl ((hI.slot 20 47 rfl (hpre ⟨20, .data⟩ (by simp) rfl) rfl) hMZ.1 hMZ.2) (field_cell w' b _) ⟨_, rfl, hB, fun _ => fun _ _ => rfl, fun _ _ _ h => h⟩
          · refine wpOp_off rfl (wantedOff (j := 11) (b := true) (d := 38) rfl rfl rfl (by rw [hI.len]; show _ < 53; decide) rfl (fun h => ?_)) ⟨_, rfl, hB, fun _ => fun h1 h2 => absurd ⟨h1, h2⟩ hMZ, fun _ _ _ h => h⟩
            cases hm : M
            · rw [eg.2 hm] at h; cases h
            · rw [eg.1 hm] at h; cases h; exact hMZ ⟨hm, rfl⟩
        | 22, _ =>
          cases ho
          have eg := hI.slot 11 38 rfl (hpre ⟨11, .guard⟩ (by simp) rfl) rfl
          by_cases hMZ : M = true ∧ Z = true
          · exact wpOp_load rfl (wantedOf (j := 11) (b := true) rfl rfl rfl (by rw [hI.len]; show _ < 53; decide) ((eg.1 hMZ.1).trans (by rw [hMZ.2]))) rfl ((hI.slot 21 48 rfl (hpre ⟨21, .data⟩ (by simp) rfl) rfl) hMZ.1 hMZ.2) (load_str ((hcc.below hB hblt).key)) ⟨_, rfl, hB, fun _ => fun _ _ => rfl, fun _ _ _ h => h⟩
          · refine wpOp_off rfl (wantedOff (j := 11) (b := true) (d := 38) rfl rfl rfl (by rw [hI.len]; show _ < 53; decide) rfl (fun h => ?_)) ⟨_, rfl, hB, fun _ => fun h1 h2 => absurd ⟨h1, h2⟩ hMZ, fun _ _ _ h => h⟩
            cases hm : M
            · rw [eg.2 hm] at h; cases h
            · rw [eg.1 hm] at h; cases h; exact hMZ ⟨hm, rfl⟩
        | 23, _ =>
          cases ho
          have eg := hI.slot 11 38 rfl (hpre ⟨11, .guard⟩ (by simp) rfl) rfl
          by_cases hMZ : M = true ∧ Z = true
          · exact wpOp_geS rfl (wantedOf (j := 11) (b := true) rfl rfl rfl (by rw [hI.len]; show _ < 53; decide) ((eg.1 hMZ.1).trans (by rw [hMZ.2]))) rfl ((hI.slot 17 44 rfl (hpre ⟨17, .data⟩ (by simp) rfl) rfl) hMZ.1 hMZ.2) ((hI.slot 22 49 rfl (hpre ⟨22, .data⟩ (by simp) rfl) rfl) hMZ.1 hMZ.2) ⟨_, rfl, hB, fun _ => fun _ _ => by rw [HLS.out], fun _ _ _ h => h⟩
          · refine wpOp_off rfl (wantedOff (j := 11) (b := true) (d := 38) rfl rfl rfl (by rw [hI.len]; show _ < 53; decide) rfl (fun h => ?_)) ⟨_, rfl, hB, fun _ => fun h1 h2 => absurd ⟨h1, h2⟩ hMZ, fun _ _ _ h => h⟩
            cases hm : M
            · rw [eg.2 hm] at h; cases h
            · rw [eg.1 hm] at h; cases h; exact hMZ ⟨hm, rfl⟩
        | 24, _ =>
          cases ho
          have eg : a'.eval (.tmp 35) = .bool (!M) := hI.slot 8 35 rfl (hpre ⟨8, .guard⟩ (by simp) rfl) rfl
          by_cases hM : M = true
          · have e1 := hI.slot 11 38 rfl (hpre ⟨11, .data⟩ (by simp) rfl) rfl
            have e2 := hI.slot 23 50 rfl (hpre ⟨23, .data⟩ (by simp) rfl) rfl
            exact wpOp_pick2 rfl (wantedOf (j := 8) (b := false) rfl rfl rfl (by rw [hI.len]; show _ < 53; decide) (by rw [eg, hM]; rfl)) rfl (e1.1 hM) (v := .bool (Z && !ls)) (fun h => by rw [e2 hM h, h]; rfl) (fun h => by rw [h]; rfl) rfl ⟨_, rfl, hB, fun _ => fun _ => rfl, fun _ _ _ h => h⟩
          · exact wpOp_off rfl (wantedOff (j := 8) (b := false) rfl rfl rfl (by rw [hI.len]; show _ < 53; decide) eg (by cases M <;> simp at hM ⊢)) ⟨_, rfl, hB, fun _ => fun h => absurd h hM, fun _ _ _ h => h⟩
        | 25, _ =>
          cases ho
          have e2 := hI.slot 24 51 rfl (hpre ⟨24, .data⟩ (by simp) rfl) rfl
          exact wpOp_pick2 rfl rfl rfl (hI.slot 8 35 rfl (hpre ⟨8, .data⟩ (by simp) rfl) rfl) (v := .bool (!M || (Z && !ls))) (fun h => by rw [h]; rfl) (fun h => by rw [e2 (by simpa using h), h]; rfl) rfl ⟨_, rfl, hB, fun _ => rfl, fun _ _ _ h => h⟩
        case fin6 =>
          intro listed a' w' hI hall
          have hB := hI.inv
          have e52 : a'.tmps.getD 52 undef = .bool (!M || (Z && !ls)) := hI.slot 25 52 rfl (hall 25 (by decide)) rfl
          obtain ⟨vs, hvl, hvs, e⟩ := hI.frame 27 26 (Nat.le_of_ble_eq_true (by kernel_rfl)) (by kernel_rfl)
          have v25 := hvs 25 (by decide)
          have HBX := Lib.hid hB
          have HFIN := Lib.hid (show Below wr.heap.size wr w' ∧ ∃ nb : Bool, Value.bool (!M || (Z && !ls)) = .bool nb ∧ (nb = false → CellOk true c ∧ Rises L i) ∧ (nb = true → ¬ (CellOk true c ∧ Rises L i)) from by
            refine ⟨hB, _, rfl, fun h => ?_, fun h hx => ?_⟩
            · rw [Bool.or_eq_false_iff, Bool.and_eq_false_iff] at h
              refine ⟨HX.out.2.2.2.2.1 (by simpa using h.1), fun h0 => ?_⟩
              have hz1 : Z = true := by rw [hzd]; simp; omega
              rw [← hj, hpd, HX.out.2.2.2.1, hls]
              rcases h.2 with h2 | h2
              · rw [hz1] at h2; cases h2
              · simpa using h2
            · rw [HX.out.2.2.2.2.2 hx.1] at h
              simp only [Bool.not_true, Bool.false_or, Bool.and_eq_true] at h
              have h0 : 0 < i := by have := h.1; rw [hzd] at this; simp at this; omega
              have := hx.2 h0
              rw [← hj, hpd, HX.out.2.2.2.1, hls] at this
              rw [this] at h; simp at h)
          clear hI hall hvs hB hls hzd hpc hZ hcc hcd hpd hj
          match vs, hvl with
          | [x0, x1, x2, x3, x4, x5, x6, x7, x8, x9, x10, x11, x12, x13, x14, x15, x16, x17, x18, x19, x20, x21, x22, x23, x24, x25], _ =>
          simp only [List.getElem?_cons_zero, List.getElem?_cons_succ, Option.some.injEq] at v25
          rw [show 27 + 25 = 52 from rfl, e52] at v25
          subst v25
          simp only [List.take_succ_cons, List.take_zero, List.drop_succ_cons, List.drop_zero, List.cons_append, List.nil_append, Nat.reduceAdd] at e
          subst e
          clear e52
          go_wp2_with fail
          go_meet
          case rel => exact HFIN.out
      case rest =>
        obtain ⟨hbx, nb, rfl, hn0, hn1⟩ := hcut
        cases nb
        case true =>
          have HJ := Lib.hid (And.intro (go_on HX.out.1 hbx) (show ¬ RightC 2 L from fun h => hn1 rfl (by have := h.2.2 i hlt; rw [HX.out.2.2.2.1] at this; exact this)))
          clear hcd hn0 hn1 hbx hlt
          go_wp2
          go_ret
          exact ⟨HJ.out.1, .inr ⟨HJ.out.2, rfl⟩⟩
        case false =>
          have HJ := Lib.hid (And.intro (go_on HX.out.1 hbx) (And.intro hlt (show OkUpto true L (i + 1) from fun j hj => by
            by_cases hji : j < i
            · exact HX.out.2.1 j hji
            · obtain rfl : j = i := by omega
              have := hn0 rfl
              rw [HX.out.2.2.2.1]
              exact this)))
          clear hcd hn0 hn1 hbx hlt
          go_wp2
          exact ⟨⟨HJ.out.1, i + 1, by go_num, HJ.out.2⟩, by have := HJ.out.2.1; simp only [intOf]; omega⟩
    · obtain rfl : i = L.length := by omega
      have hkL : ¬ ((L.length : Int) < (L.length : Int)) := by omega
      have HX := Lib.hid (And.intro hb hok)
      clear hb hok
      go_wp2
      go_ret
      exact ⟨HX.out.1, .inl ⟨⟨.inl rfl, fun h => absurd h (by decide), HX.out.2⟩, rfl⟩⟩
set_option maxRecDepth 100000 in
set_option maxHeartbeats 4000000 in
theorem right_branch (w : World) (a : Option Addr) (L : List Cv) (cap : Nat) (hne : L ≠ []) (hcap : L.length ≤ 1000) (hm0 : CellsAt w.heap.size w a L) (hs : Sized L) :
    Calls Try.prog 16 #[.int .i64 3, .slice a L.length cap] w fun e w' => RightPost w 3 L e w' := by
  have HM := Lib.hid (And.intro hm0 hs)
  clear hm0 hs
  have hne1 : L.length ≠ 0 := fun e => hne (List.eq_nil_of_length_eq_zero e)
  have hne2 : ((L.length : Int) == 0) = false := by simp; exact hne
  have HNE := Lib.hid hne
  clear hne
  go_enter Try.func16, Try.ntmps16
  go_wp2
  go_loopw [5, 21, 22, 23, 24, 25, 26, 27, 28, 29, 30, 31, 32, 33, 34, 35, 36, 37, 38, 39, 40, 41, 42, 43, 44, 45, 46, 47, 48, 49, 50, 51, 52] (fun y _ _ _ _ _ _ _ _ _ _ _ _ _ _ _ _ _ _ _ _ _ _ _ _ _ _ _ _ _ _ _ _ wr => Below w.heap.size w wr ∧ ∃ i : Nat, y = .int .i64 i ∧ i ≤ L.length ∧ OkUpto false L i) (fun y _ _ _ _ _ _ _ _ _ _ _ _ _ _ _ _ _ _ _ _ _ _ _ _ _ _ _ _ _ _ _ _ _ => L.length - (intOf y).toNat)
  case atStart => exact ⟨Below.refl _ _, 0, rfl, Nat.zero_le _, fun j hj => by omega⟩
  case round =>
    obtain ⟨hb, i, rfl, hi, hok⟩ := hrel
    by_cases hlt : i < L.length
    · have hiL : (i : Int) < (L.length : Int) := by omega
      obtain ⟨b, off, rfl, hbs, hcs⟩ := (HM.out.1.below hb) (by rintro rfl; simp at hlt)
      have hblt : b < wr.heap.size := Nat.lt_of_lt_of_le hbs hb.size
      obtain ⟨c, hcd⟩ : ∃ c, L.getD i default = c := ⟨_, rfl⟩
      have hcc := hcs i hlt
      have hsz := HM.out.2 i hlt
      rw [hcd] at hcc hsz
      have HMAY := Lib.hid (fun w => may_any false c w hsz.1 hsz.2)
      obtain ⟨M, hmb⟩ : ∃ m, mayB false c = m := ⟨_, rfl⟩
      have hmok : M = true ↔ CellOk false c := by rw [← hmb]; exact (cellOk_may false c).symm
      rw [hmb] at HMAY
      have HX := Lib.hid (And.intro hb (And.intro hok (And.intro hcs (And.intro hcd hmok))))
      have HCC := Lib.hid hcc
      clear hb hok hcs hmb hmok hsz hcc
      go_wp2_with fail
      go_cut [52] (fun x wx => Below wr.heap.size wr wx ∧ ∃ nb : Bool, x = .bool nb ∧ (nb = false → CellOk false c ∧ Rises L i) ∧ (nb = true → ¬ (CellOk false c ∧ Rises L i)))
      case first =>
        obtain ⟨Z, hzd⟩ : ∃ Z, Z = decide ((0 : Int) < (i : Int)) := ⟨_, rfl⟩
        obtain ⟨j, hj⟩ : ∃ j, j = i - 1 := ⟨_, rfl⟩
        have hZ : Z = true → IntKind.i64.wrap ((i : Int) - 1) = (j : Int) ∧ j < L.length := fun h => by
          rw [hzd, decide_eq_true_eq] at h
          exact ⟨by rw [wrapEq]; unfold wrap64; omega, by omega⟩
        obtain ⟨p, hpd⟩ : ∃ p, L.getD j default = p := ⟨_, rfl⟩
        have hpc : Z = true → CellAt wr b (off + j * 5) p := fun h => by
          have := HX.out.2.2.1 j (hZ h).2
          rwa [hpd] at this
        obtain ⟨ls, hls⟩ : ∃ ls, Op.bytesLess p.key.toList c.key.toList = ls := ⟨_, rfl⟩
        have HLS := Lib.hid hls
        have HZD := Lib.hid hzd
        have hcc := HCC.out
        refine wp_region_m (fun _ w' => Below wr.heap.size wr w') (fun q v _ => RtV 3 false M Z ls (.slice (some ⟨b, off, none⟩) L.length cap) b off i j c p q v) (by kernel_rfl) (by kernel_rfl) (by kernel_rfl) (by kernel_rfl) (Below.refl _ _).drew ?step6 ?fin6
        case step6 =>
         intro i0 o ho listed a' w' hI hn' hpre
         have hi0 : i0 < 26 := (Array.getElem?_eq_some_iff.1 ho).1
         have hB := hI.inv
         match i0, hi0 with
        | 0, _ =>
          cases ho
          exact wpOp_move rfl rfl (.inl rfl) (hI.kept (t := 0) (by kernel_rfl)) ⟨_, rfl, hB, fun _ => rfl, fun _ _ _ h => h⟩
        | 1, _ =>
          cases ho
          exact wpOp_eqI rfl rfl rfl (hI.slot 0 27 rfl (hpre ⟨0, .data⟩ (by simp) rfl) rfl) (m := 2) rfl ⟨_, rfl, hB, fun _ => rfl, fun _ _ _ h => h⟩
        | 2, _ =>
          cases ho
          exact wpOp_move rfl rfl (.inl rfl) (hI.kept (t := 1) (by kernel_rfl)) ⟨_, rfl, hB, fun _ => rfl, fun _ _ _ h => h⟩
        | 3, _ =>
          cases ho
          exact wpOp_move rfl rfl (.inl rfl) (hI.kept (t := 5) (by kernel_rfl)) ⟨_, rfl, hB, fun _ => rfl, fun _ _ _ h => h⟩
        | 4, _ =>
          cases ho
          exact wpOp_index rfl rfl rfl ((hI.slot 2 29 rfl (hpre ⟨2, .data⟩ (by simp) rfl) rfl)) ((hI.slot 3 30 rfl (hpre ⟨3, .data⟩ (by simp) rfl) rfl)) (index_cell w' b off L.length cap i hlt) ⟨_, rfl, hB, fun _ => rfl, fun _ _ _ h => h⟩
        | 5, _ =>
          cases ho
          exact wpOp_load rfl rfl rfl (hI.slot 4 31 rfl (hpre ⟨4, .data⟩ (by simp) rfl) rfl) (load_cell (hcc.below hB hblt)) ⟨_, rfl, hB, fun _ => rfl, fun _ _ _ h => h⟩
        | 6, _ =>
          cases ho
          have e0 : a'.eval (.tmp 28) = .bool false := (hI.slot 1 28 rfl (hpre ⟨1, .data⟩ (by simp) rfl) rfl)
          have e1 : a'.eval (.tmp 32) = cellv c := (hI.slot 5 32 rfl (hpre ⟨5, .data⟩ (by simp) rfl) rfl)
          refine wpOp_callFn rfl rfl rfl (vs := #[.bool false, cellv c]) (by simp only [List.map_toArray, List.map_cons, List.map_nil, e0, e1]) (fun _ _ => by kernel_rfl) ((HMAY.out w').mono ?_)
          rintro e w'' ⟨rfl, hb2⟩
          exact ⟨_, rfl, _, rfl, hB.trans (hb2.mono hB.size), fun _ => rfl, fun _ _ _ h => h⟩
        | 7, _ =>
          cases ho
          exact wpOp_notB rfl rfl rfl (hI.slot 6 33 rfl (hpre ⟨6, .data⟩ (by simp) rfl) rfl) rfl ⟨_, rfl, hB, fun _ => rfl, fun _ _ _ h => h⟩
        | 8, _ =>
          cases ho
          exact wpOp_move rfl rfl (.inl rfl) ((hI.slot 7 34 rfl (hpre ⟨7, .data⟩ (by simp) rfl) rfl)) ⟨_, rfl, hB, fun _ => rfl, fun _ _ _ h => h⟩
        | 9, _ =>
          cases ho
          have eg : a'.eval (.tmp 35) = .bool (!M) := hI.slot 8 35 rfl (hpre ⟨8, .guard⟩ (by simp) rfl) rfl
          by_cases hM : M = true
          · exact wpOp_move rfl (wantedOf (j := 8) (b := false) rfl rfl rfl (by rw [hI.len]; show _ < 53; decide) (by rw [eg, hM]; rfl)) (.inl rfl) (hI.kept (t := 5) (by kernel_rfl)) ⟨_, rfl, hB, fun _ => fun _ => rfl, fun _ _ _ h => h⟩
          · exact wpOp_off rfl (wantedOff (j := 8) (b := false) rfl rfl rfl (by rw [hI.len]; show _ < 53; decide) eg (by cases M <;> simp at hM ⊢)) ⟨_, rfl, hB, fun _ => fun h => absurd h hM, fun _ _ _ h => h⟩
        | 10, _ =>
          cases ho
          have eg : a'.eval (.tmp 35) = .bool (!M) := hI.slot 8 35 rfl (hpre ⟨8, .guard⟩ (by simp) rfl) rfl
          by_cases hM : M = true
          · exact wpOp_gtI rfl (wantedOf (j := 8) (b := false) rfl rfl rfl (by rw [hI.len]; show _ < 53; decide) (by rw [eg, hM]; rfl)) rfl ((hI.slot 9 36 rfl (hpre ⟨9, .data⟩ (by simp) rfl) rfl) hM) (m := 0) rfl HZD.out ⟨_, rfl, hB, fun _ => fun _ => rfl, fun _ _ _ h => h⟩
          · exact wpOp_off rfl (wantedOff (j := 8) (b := false) rfl rfl rfl (by rw [hI.len]; show _ < 53; decide) eg (by cases M <;> simp at hM ⊢)) ⟨_, rfl, hB, fun _ => fun h => absurd h hM, fun _ _ _ h => h⟩
        | 11, _ =>
          cases ho
          have eg : a'.eval (.tmp 35) = .bool (!M) := hI.slot 8 35 rfl (hpre ⟨8, .guard⟩ (by simp) rfl) rfl
          by_cases hM : M = true
          · exact wpOp_move rfl (wantedOf (j := 8) (b := false) rfl rfl rfl (by rw [hI.len]; show _ < 53; decide) (by rw [eg, hM]; rfl)) (.inl rfl) ((hI.slot 10 37 rfl (hpre ⟨10, .data⟩ (by simp) rfl) rfl) hM) ⟨_, rfl, hB, fun _ => ⟨fun _ => rfl, fun h => by rw [hM] at h; cases h⟩, fun _ _ _ h => h⟩
          · exact wpOp_off rfl (wantedOff (j := 8) (b := false) rfl rfl rfl (by rw [hI.len]; show _ < 53; decide) eg (by cases M <;> simp at hM ⊢)) ⟨_, rfl, hB, fun _ => ⟨fun h => absurd h hM, fun _ => rfl⟩, fun _ _ _ h => h⟩
        | 12, _ =>
          cases ho
          have eg := hI.slot 11 38 rfl (hpre ⟨11, .guard⟩ (by simp) rfl) rfl
          by_cases hMZ : M = true ∧ Z = true
          · exact wpOp_move rfl (wantedOf (j := 11) (b := true) rfl rfl rfl (by rw [hI.len]; show _ < 53; decide) ((eg.1 hMZ.1).trans (by rw [hMZ.2]))) (.inl rfl) (hI.kept (t := 1) (by kernel_rfl)) ⟨_, rfl, hB, fun _ => fun _ _ => rfl, fun _ _ _ h => h⟩
          · refine wpOp_off rfl (wantedOff (j := 11) (b := true) (d := 38) rfl rfl rfl (by rw [hI.len]; show _ < 53; decide) rfl (fun h => ?_)) ⟨_, rfl, hB, fun _ => fun h1 h2 => absurd ⟨h1, h2⟩ hMZ, fun _ _ _ h => h⟩
            cases hm : M
            · rw [eg.2 hm] at h; cases h
            · rw [eg.1 hm] at h; cases h; exact hMZ ⟨hm, rfl⟩
        | 13, _ =>
          cases ho
          have eg := hI.slot 11 38 rfl (hpre ⟨11, .guard⟩ (by simp) rfl) rfl
          by_cases hMZ : M = true ∧ Z = true
          · exact wpOp_move rfl (wantedOf (j := 11) (b := true) rfl rfl rfl (by rw [hI.len]; show _ < 53; decide) ((eg.1 hMZ.1).trans (by rw [hMZ.2]))) (.inl rfl) (hI.kept (t := 5) (by kernel_rfl)) ⟨_, rfl, hB, fun _ => fun _ _ => rfl, fun _ _ _ h => h⟩
          · refine wpOp_off rfl (wantedOff (j := 11) (b := true) (d := 38) rfl rfl rfl (by rw [hI.len]; show _ < 53; decide) rfl (fun h => ?_)) ⟨_, rfl, hB, fun _ => fun h1 h2 => absurd ⟨h1, h2⟩ hMZ, fun _ _ _ h => h⟩
            cases hm : M
            · rw [eg.2 hm] at h; cases h
            · rw [eg.1 hm] at h; cases h; exact hMZ ⟨hm, rfl⟩
        | 14, _ =>
          cases ho
          have eg := hI.slot 11 38 rfl (hpre ⟨11, .guard⟩ (by simp) rfl) rfl
          by_cases hMZ : M = true ∧ Z = true
          · exact wpOp_subI rfl (wantedOf (j := 11) (b := true) rfl rfl rfl (by rw [hI.len]; show _ < 53; decide) ((eg.1 hMZ.1).trans (by rw [hMZ.2]))) rfl ((hI.slot 13 40 rfl (hpre ⟨13, .data⟩ (by simp) rfl) rfl) hMZ.1 hMZ.2) (m := 1) rfl (hZ hMZ.2).1 ⟨_, rfl, hB, fun _ => fun _ _ => rfl, fun _ _ _ h => h⟩
          · refine wpOp_off rfl (wantedOff (j := 11) (b := true) (d := 38) rfl rfl rfl (by rw [hI.len]; show _ < 53; decide) rfl (fun h => ?_)) ⟨_, rfl, hB, fun _ => fun h1 h2 => absurd ⟨h1, h2⟩ hMZ, fun _ _ _ h => h⟩
            cases hm : M
            · rw [eg.2 hm] at h; cases h
            · rw [eg.1 hm] at h; cases h; exact hMZ ⟨hm, rfl⟩
        | 15, _ =>
          cases ho
          have eg := hI.slot 11 38 rfl (hpre ⟨11, .guard⟩ (by simp) rfl) rfl
          by_cases hMZ : M = true ∧ Z = true
          · exact wpOp_index rfl (wantedOf (j := 11) (b := true) rfl rfl rfl (by rw [hI.len]; show _ < 53; decide) ((eg.1 hMZ.1).trans (by rw [hMZ.2]))) rfl ((hI.slot 12 39 rfl (hpre ⟨12, .data⟩ (by simp) rfl) rfl) hMZ.1 hMZ.2) ((hI.slot 14 41 rfl (hpre ⟨14, .data⟩ (by simp) rfl) rfl) hMZ.1 hMZ.2) (index_cell w' b off L.length cap j (hZ hMZ.2).2) ⟨_, rfl, hB, fun _ => fun _ _ => rfl, fun _ _ _ h => h⟩
          · refine wpOp_off rfl (wantedOff (j := 11) (b := true) (d := 38) rfl rfl rfl (by rw [hI.len]; show _ < 53; decide) rfl (fun h => ?_)) ⟨_, rfl, hB, fun _ => fun h1 h2 => absurd ⟨h1, h2⟩ hMZ, fun _ _ _ h => h⟩
            cases hm : M
            · rw [eg.2 hm] at h; cases h
            · rw [eg.1 hm] at h; cases h; exact hMZ ⟨hm, rfl⟩
        | 16, _ =>
          cases ho
          have eg := hI.slot 11 38 rfl (hpre ⟨11, .guard⟩ (by simp) rfl) rfl
          by_cases hMZ : M = true ∧ Z = true
          · exact wpOp_field rfl (wantedOf (j := 11) (b := true) rfl rfl rfl (by rw [hI.len]; show _ < 53; decide) ((eg.1 hMZ.1).trans (by rw [hMZ.2]))) rfl ((hI.slot 15 42 rfl (hpre ⟨15, .data⟩ (by simp) rfl) rfl) hMZ.1 hMZ.2) (field_cell w' b _) ⟨_, rfl, hB, fun _ => fun _ _ => rfl, fun _ _ _ h => h⟩
          · refine wpOp_off rfl (wantedOff (j := 11) (b := true) (d := 38) rfl rfl rfl (by rw [hI.len]; show _ < 53; decide) rfl (fun h => ?_)) ⟨_, rfl, hB, fun _ => fun h1 h2 => absurd ⟨h1, h2⟩ hMZ, fun _ _ _ h => h⟩
            cases hm : M
            · rw [eg.2 hm] at h; cases h
            · rw [eg.1 hm] at h; cases h; exact hMZ ⟨hm, rfl⟩
        | 17, _ =>
          cases ho
          have eg := hI.slot 11 38 rfl (hpre ⟨11, .guard⟩ (by simp) rfl) rfl
          by_cases hMZ : M = true ∧ Z = true
          · exact wpOp_load rfl (wantedOf (j := 11) (b := true) rfl rfl rfl (by rw [hI.len]; show _ < 53; decide) ((eg.1 hMZ.1).trans (by rw [hMZ.2]))) rfl ((hI.slot 16 43 rfl (hpre ⟨16, .data⟩ (by simp) rfl) rfl) hMZ.1 hMZ.2) (load_str (((hpc hMZ.2).below hB hblt).key)) ⟨_, rfl, hB, fun _ => fun _ _ => rfl, fun _ _ _ h => h⟩
          · refine wpOp_off rfl (wantedOff (j := 11) (b := true) (d := 38) rfl rfl rfl (by rw [hI.len]; show _ < 53; decide) rfl (fun h => ?_)) ⟨_, rfl, hB, fun _ => fun h1 h2 => absurd ⟨h1, h2⟩ hMZ, fun _ _ _ h => h⟩
            cases hm : M
            · rw [eg.2 hm] at h; cases h
            · rw [eg.1 hm] at h; cases h; exact hMZ ⟨hm, rfl⟩
        | 18, _ =>
          cases ho
          have eg := hI.slot 11 38 rfl (hpre ⟨11, .guard⟩ (by simp) rfl) rfl
          by_cases hMZ : M = true ∧ Z = true
          · exact wpOp_move rfl (wantedOf (j := 11) (b := true) rfl rfl rfl (by rw [hI.len]; show _ < 53; decide) ((eg.1 hMZ.1).trans (by rw [hMZ.2]))) (.inl rfl) (hI.kept (t := 1) (by kernel_rfl)) ⟨_, rfl, hB, fun _ => fun _ _ => rfl, fun _ _ _ h => h⟩
          · refine wpOp_off rfl (wantedOff (j := 11) (b := true) (d := 38) rfl rfl rfl (by rw [hI.len]; show _ < 53; decide) rfl (fun h => ?_)) ⟨_, rfl, hB, fun _ => fun h1 h2 => absurd ⟨h1, h2⟩ hMZ, fun _ _ _ h => h⟩
            cases hm : M
            · rw [eg.2 hm] at h; cases h
            · rw [eg.1 hm] at h; cases h; exact hMZ ⟨hm, rfl⟩
        | 19, _ =>
          cases ho
          have eg := hI.slot 11 38 rfl (hpre ⟨11, .guard⟩ (by simp) rfl) rfl
          by_cases hMZ : M = true ∧ Z = true
          · exact wpOp_move rfl (wantedOf (j := 11) (b := true) rfl rfl rfl (by rw [hI.len]; show _ < 53; decide) ((eg.1 hMZ.1).trans (by rw [hMZ.2]))) (.inl rfl) (hI.kept (t := 5) (by kernel_rfl)) ⟨_, rfl, hB, fun _ => fun _ _ => rfl, fun _ _ _ h => h⟩
          · refine wpOp_off rfl (wantedOff (j := 11) (b := true) (d := 38) rfl rfl rfl (by rw [hI.len]; show _ < 53; decide) rfl (fun h => ?_)) ⟨_, rfl, hB, fun _ => fun h1 h2 => absurd ⟨h1, h2⟩ hMZ, fun _ _ _ h => h⟩
            cases hm : M
            · rw [eg.2 hm] at h; cases h
            · rw [eg.1 hm] at h; cases h; exact hMZ ⟨hm, rfl⟩
        | 20, _ =>
          cases ho
          have eg := hI.slot 11 38 rfl (hpre ⟨11, .guard⟩ (by simp) rfl) rfl
          by_cases hMZ : M = true ∧ Z = true
          · exact wpOp_index rfl (wantedOf (j := 11) (b := true) rfl rfl rfl (by rw [hI.len]; show _ < 53; decide) ((eg.1 hMZ.1).trans (by rw [hMZ.2]))) rfl ((hI.slot 18 45 rfl (hpre ⟨18, .data⟩ (by simp) rfl) rfl) hMZ.1 hMZ.2) ((hI.slot 19 46 rfl (hpre ⟨19, .data⟩ (by simp) rfl) rfl) hMZ.1 hMZ.2) (index_cell w' b off L.length cap i hlt) ⟨_, rfl, hB, fun _ => fun _ _ => rfl, fun _ _ _ h => h⟩
          · refine wpOp_off rfl (wantedOff (j := 11) (b := true) (d := 38) rfl rfl rfl (by rw [hI.len]; show _ < 53; decide) rfl (fun h => ?_)) ⟨_, rfl, hB, fun _ => fun h1 h2 => absurd ⟨h1, h2⟩ hMZ, fun _ _ _ h => h⟩
            cases hm : M
            · rw [eg.2 hm] at h; cases h
            · rw [eg.1 hm] at h; cases h; exact hMZ ⟨hm, rfl⟩
        | 21, _ =>
          cases ho
          have eg := hI.slot 11 38 rfl (hpre ⟨11, .guard⟩ (by simp) rfl) rfl
          by_cases hMZ : M = true ∧ Z = true
          · exact wpOp_field rfl (wantedOf (j := 11) (b := true) rfl rfl rfl (by rw [hI.len]; show _ < 53; decide) ((eg.1 hMZ.1).trans (by rw [hMZ.2]))) rfl ((hI.slot 20 47 rfl (hpre ⟨20, .data⟩ (by simp) rfl) rfl) hMZ.1 hMZ.2) (field_cell w' b _) ⟨_, rfl, hB, fun _ => fun _ _ => rfl, fun _ _ _ h => h⟩
          · refine wpOp_off rfl (wantedOff (j := 11) (b := true) (d := 38) rfl rfl rfl (by rw [hI.len]; show _ < 53; decide) rfl (fun h => ?_)) ⟨_, rfl, hB, fun _ => fun h1 h2 => absurd ⟨h1, h2⟩ hMZ, fun _ _ _ h => h⟩
            cases hm : M
            · rw [eg.2 hm] at h; cases h
            · rw [eg.1 hm] at h; cases h; exact hMZ ⟨hm, rfl⟩
        | 22, _ =>
          cases ho
          have eg := hI.slot 11 38 rfl (hpre ⟨11, .guard⟩ (by simp) rfl) rfl
          by_cases hMZ : M = true ∧ Z = true
          · exact wpOp_load rfl (wantedOf (j := 11) (b := true) rfl rfl rfl (by rw [hI.len]; show _ < 53; decide) ((eg.1 hMZ.1).trans (by rw [hMZ.2]))) rfl ((hI.slot 21 48 rfl (hpre ⟨21, .data⟩ (by simp) rfl) rfl) hMZ.1 hMZ.2) (load_str ((hcc.below hB hblt).key)) ⟨_, rfl, hB, fun _ => fun _ _ => rfl, fun _ _ _ h => h⟩
          · refine wpOp_off rfl (wantedOff (j := 11) (b := true) (d := 38) rfl rfl rfl (by rw [hI.len]; show _ < 53; decide) rfl (fun h => ?_)) ⟨_, rfl, hB, fun _ => fun h1 h2 => absurd ⟨h1, h2⟩ hMZ, fun _ _ _ h => h⟩
            cases hm : M
            · rw [eg.2 hm] at h; cases h
            · rw [eg.1 hm] at h; cases h; exact hMZ ⟨hm, rfl⟩
        | 23, _ =>
          cases ho
          have eg := hI.slot 11 38 rfl (hpre ⟨11, .guard⟩ (by simp) rfl) rfl
          by_cases hMZ : M = true ∧ Z = true
          · exact wpOp_geS rfl (wantedOf (j := 11) (b := true) rfl rfl rfl (by rw [hI.len]; show _ < 53; decide) ((eg.1 hMZ.1).trans (by rw [hMZ.2]))) rfl ((hI.slot 17 44 rfl (hpre ⟨17, .data⟩ (by simp) rfl) rfl) hMZ.1 hMZ.2) ((hI.slot 22 49 rfl (hpre ⟨22, .data⟩ (by simp) rfl) rfl) hMZ.1 hMZ.2) ⟨_, rfl, hB, fun _ => fun _ _ => by rw [HLS.out], fun _ _ _ h => h⟩
          · refine wpOp_off rfl (wantedOff (j := 11) (b := true) (d := 38) rfl rfl rfl (by rw [hI.len]; show _ < 53; decide) rfl (fun h => ?_)) ⟨_, rfl, hB, fun _ => fun h1 h2 => absurd ⟨h1, h2⟩ hMZ, fun _ _ _ h => h⟩
            cases hm : M
            · rw [eg.2 hm] at h; cases h
            · rw [eg.1 hm] at h; cases h; exact hMZ ⟨hm, rfl⟩
        | 24, _ =>
          cases ho
          have eg : a'.eval (.tmp 35) = .bool (!M) := hI.slot 8 35 rfl (hpre ⟨8, .guard⟩ (by simp) rfl) rfl
          by_cases hM : M = true
          · have e1 := hI.slot 11 38 rfl (hpre ⟨11, .data⟩ (by simp) rfl) rfl
            have e2 := hI.slot 23 50 rfl (hpre ⟨23, .data⟩ (by simp) rfl) rfl
            exact wpOp_pick2 rfl (wantedOf (j := 8) (b := false) rfl rfl rfl (by rw [hI.len]; show _ < 53; decide) (by rw [eg, hM]; rfl)) rfl (e1.1 hM) (v := .bool (Z && !ls)) (fun h => by rw [e2 hM h, h]; rfl) (fun h => by rw [h]; rfl) rfl ⟨_, rfl, hB, fun _ => fun _ => rfl, fun _ _ _ h => h⟩
          · exact wpOp_off rfl (wantedOff (j := 8) (b := false) rfl rfl rfl (by rw [hI.len]; show _ < 53; decide) eg (by cases M <;> simp at hM ⊢)) ⟨_, rfl, hB, fun _ => fun h => absurd h hM, fun _ _ _ h => h⟩
        | 25, _ =>
          cases ho
          have e2 := hI.slot 24 51 rfl (hpre ⟨24, .data⟩ (by simp) rfl) rfl
          exact wpOp_pick2 rfl rfl rfl (hI.slot 8 35 rfl (hpre ⟨8, .data⟩ (by simp) rfl) rfl) (v := .bool (!M || (Z && !ls))) (fun h => by rw [h]; rfl) (fun h => by rw [e2 (by simpa using h), h]; rfl) rfl ⟨_, rfl, hB, fun _ => rfl, fun _ _ _ h => h⟩
        case fin6 =>
          intro listed a' w' hI hall
          have hB := hI.inv
          have e52 : a'.tmps.getD 52 undef = .bool (!M || (Z && !ls)) := hI.slot 25 52 rfl (hall 25 (by decide)) rfl
          obtain ⟨vs, hvl, hvs, e⟩ := hI.frame 27 26 (Nat.le_of_ble_eq_true (by kernel_rfl)) (by kernel_rfl)
          have v25 := hvs 25 (by decide)
          have HBX := Lib.hid hB
          have HFIN := Lib.hid (show Below wr.heap.size wr w' ∧ ∃ nb : Bool, Value.bool (!M || (Z && !ls)) = .bool nb ∧ (nb = false → CellOk false c ∧ Rises L i) ∧ (nb = true → ¬ (CellOk false c ∧ Rises L i)) from by
            refine ⟨hB, _, rfl, fun h => ?_, fun h hx => ?_⟩
            · rw [Bool.or_eq_false_iff, Bool.and_eq_false_iff] at h
              refine ⟨HX.out.2.2.2.2.1 (by simpa using h.1), fun h0 => ?_⟩
              have hz1 : Z = true := by rw [hzd]; simp; omega
              rw [← hj, hpd, HX.out.2.2.2.1, hls]
              rcases h.2 with h2 | h2
              · rw [hz1] at h2; cases h2
              · simpa using h2
            · rw [HX.out.2.2.2.2.2 hx.1] at h
              simp only [Bool.not_true, Bool.false_or, Bool.and_eq_true] at h
              have h0 : 0 < i := by have := h.1; rw [hzd] at this; simp at this; omega
              have := hx.2 h0
              rw [← hj, hpd, HX.out.2.2.2.1, hls] at this
              rw [this] at h; simp at h)
          clear hI hall hvs hB hls hzd hpc hZ hcc hcd hpd hj
          match vs, hvl with
          | [x0, x1, x2, x3, x4, x5, x6, x7, x8, x9, x10, x11, x12, x13, x14, x15, x16, x17, x18, x19, x20, x21, x22, x23, x24, x25], _ =>
          simp only [List.getElem?_cons_zero, List.getElem?_cons_succ, Option.some.injEq] at v25
          rw [show 27 + 25 = 52 from rfl, e52] at v25
          subst v25
          simp only [List.take_succ_cons, List.take_zero, List.drop_succ_cons, List.drop_zero, List.cons_append, List.nil_append, Nat.reduceAdd] at e
          subst e
          clear e52
          go_wp2_with fail
          go_meet
          case rel => exact HFIN.out
      case rest =>
        obtain ⟨hbx, nb, rfl, hn0, hn1⟩ := hcut
        cases nb
        case true =>
          have HJ := Lib.hid (And.intro (go_on HX.out.1 hbx) (show ¬ RightC 3 L from fun h => hn1 rfl (by have := h.2.2 i hlt; rw [HX.out.2.2.2.1] at this; exact this)))
          clear hcd hn0 hn1 hbx hlt
          go_wp2
          go_ret
          exact ⟨HJ.out.1, .inr ⟨HJ.out.2, rfl⟩⟩
        case false =>
          have HJ := Lib.hid (And.intro (go_on HX.out.1 hbx) (And.intro hlt (show OkUpto false L (i + 1) from fun j hj => by
            by_cases hji : j < i
            · exact HX.out.2.1 j hji
            · obtain rfl : j = i := by omega
              have := hn0 rfl
              rw [HX.out.2.2.2.1]
              exact this)))
          clear hcd hn0 hn1 hbx hlt
          go_wp2
          exact ⟨⟨HJ.out.1, i + 1, by go_num, HJ.out.2⟩, by have := HJ.out.2.1; simp only [intOf]; omega⟩
    · obtain rfl : i = L.length := by omega
      have hkL : ¬ ((L.length : Int) < (L.length : Int)) := by omega
      have HX := Lib.hid (And.intro hb hok)
      clear hb hok
      go_wp2
      go_ret
      exact ⟨HX.out.1, .inl ⟨⟨.inr rfl, fun _ => HNE.out, HX.out.2⟩, rfl⟩⟩
theorem right_any (k : Int) (w : World) (a : Option Addr) (L : List Cv) (cap : Nat) (hcap : L.length ≤ 1000) (hm : CellsAt w.heap.size w a L) (hs : Sized L) :
    Calls Try.prog 16 #[.int .i64 k, .slice a L.length cap] w fun e w' => RightPost w k L e w' := by
  by_cases h2 : k = 2
  · subst h2; exact right_leaf w a L cap hcap hm hs
  by_cases h3 : k = 3
  · subst h3
    by_cases hn : L = []
    · subst hn; exact right_empty w a cap
    · exact right_branch w a L cap hn hcap hm hs
  · exact right_none k h2 h3 w a L cap
end Go.Proofs.Ytaceebgcaghocaa

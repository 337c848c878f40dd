/- Texts of the proof in one file, in build order: DoesWr, DoesNo, RefPage, Agree, RefAct, RefNew, RefNw, OpD, DskCopy, DskEq, DskSm, DskAbsent, DskSame, DcA, DcB, DfA, DfB, DfC, Reg4, DlA, DlB, DlC, DlD. -/
import Derived.Test.YtkophpipehdkmaaDoesArm
import Derived.Test.YtkophpipehdkmaaRefD6
import Derived.Test.YtkophpipehdkmaaDskPure
import Derived.Test.YtkophpipehdkmaaRefD5
import Derived.Test.YtkophpipehdkmaaFours
import Derived.Deep.DeepCutAuto
import Derived.Test.YtkophpipehdkmaaDskAll
import Derived.WalkKit
import Derived.Deep.Slices
import Derived.Test.YtkophpipehdkmaaReg3
import Derived.Test.YtkophpipehdkmaaRegOps
import Derived.Test.YtkophpipehdkmaaDskRead
import Derived.Test.YtkophpipehdkmaaStops
import Derived.Stop.BytesEq
import Derived.Test.YtkophpipehdkmaaDskTornA
import Derived.Test.YtkophpipehdkmaaDskWrite1
import Derived.Deep.MidRow
import Derived.Test.YtkophpipehdkmaaDskKnown
import Derived.Deep.OwnRows
/- Layer 2: the law's 'does': a write. -/
namespace Go.Proofs.Ytkophpipehdkmaa
open Go.ChangeShapes Go.WideShapes Go.RowKit

section
variable {ops : Array Oper} {o : Oper} {i : Nat} {a : Act} {w : World} {K : Act → World → Prop} {Q : Exit → Act → World → Prop}
theorem wpOp_ext0 {x : Operand} {u v : Value} (ho : ops[i]? = some o) (hg : Region.wanted o (yielded ops a.tmps) = true) (hop : o.op = .extract x 0) (hx : a.eval x = .tuple #[u, v]) (hK : K (a.put o.dst u) w) : wpOp Try.prog ops Q i K a w :=
  wpOp_val (v := u) (w' := w) ho hg (by simp only [execOp, hop, hx]; simp [go_sem]) hK
theorem wpOp_ext1 {x : Operand} {u v : Value} (ho : ops[i]? = some o) (hg : Region.wanted o (yielded ops a.tmps) = true) (hop : o.op = .extract x 1) (hx : a.eval x = .tuple #[u, v]) (hK : K (a.put o.dst v) w) : wpOp Try.prog ops Q i K a w :=
  wpOp_val (v := v) (w' := w) ho hg (by simp only [execOp, hop, hx]; simp [go_sem]) hK
end
theorem load_row32 {w : World} {A : Nat} {cs : List Value} {fr : Nat × Nat} (h : w.heap[A]? = some (.cells cs.toArray 34 fr)) (hl : cs.length = 6) : (Instr.loadAt 34 (.pointer (some ⟨A, 0, none⟩))).run Try.prog w = .ok (.agg cs.toArray) w :=
  run_loadAt_mid w A 0 _ cs _ (fun j v hv => by rw [cell_of_row w A (0 + j) _ _ _ h, Nat.zero_add, List.getElem?_toArray]; exact hv) Try.underlying34 rfl (by rw [hl]; kernel_rfl)
theorem load_row38 {w : World} {A : Nat} {cs : List Value} {fr : Nat × Nat} (h : w.heap[A]? = some (.cells cs.toArray 39 fr)) (hl : cs.length = 4) : (Instr.loadAt 39 (.pointer (some ⟨A, 0, none⟩))).run Try.prog w = .ok (.agg cs.toArray) w :=
  run_loadAt_mid w A 0 _ cs _ (fun j v hv => by rw [cell_of_row w A (0 + j) _ _ _ h, Nat.zero_add, List.getElem?_toArray]; exact hv) Try.underlying39 rfl (by rw [hl]; kernel_rfl)
theorem store_row32 {w : World} {A : Nat} {cs : Array Value} (h : w.heap[A]? = some (.cells cs 34 (0, 0))) (hl : cs.size = 6) (a b : Option Addr) (m n c e : Nat) (k l : Int) (q : Bool) (s : Int) :
    (Instr.storeAt 34 (.pointer (some ⟨A, 0, none⟩)) (.agg #[.slice a m c, .slice b n e, .int .i64 k, .int .i64 l, .bool q, .int .i64 s])).run Try.prog w = .ok () ((((((w.setCell ⟨A, 0, none⟩ (.slice a m c)).setCell ⟨A, 1, none⟩ (.slice b n e)).setCell ⟨A, 2, none⟩ (.int .i64 k)).setCell ⟨A, 3, none⟩ (.int .i64 l)).setCell ⟨A, 4, none⟩ (.bool q)).setCell ⟨A, 5, none⟩ (.int .i64 s)) :=
  run_storeAt_mid w A 0 34 #[.slice a m c, .slice b n e, .int .i64 k, .int .i64 l, .bool q, .int .i64 s] (fun j hj => ⟨by rw [cell_of_row w A (0 + j) _ _ _ h, Nat.zero_add, Array.getElem?_eq_getElem (by rw [hl]; exact hj)]; rfl, frozen_of_row w A (0 + j) _ _ h⟩) (by kernel_rfl) (by simp [Value.oneCell'])
/-- What each operation of the first region leaves: the act lies in block A + 1, the document's disk in block A. -/
def DwSp (A N : Nat) (v0 v3 : Value) (p : Int) (l : List UInt8) (gw : GD × Int) : Nat → Value → World → Prop
  | 0, v, _ => v = v0
  | 1, v, _ => v = .pointer (some ⟨A + 1, 1, none⟩)
  | 2, v, _ => v = .int .i64 p
  | 3, v, _ => v = v3
  | 4, v, w' => ∃ gb, v = .slice (some ⟨gb, 0, none⟩) l.length l.length ∧ RowAt w' gb l ∧ N ≤ gb
  | 5, v, w' => ∃ la lc wa wc, v = .tuple #[gv la lc wa wc gw.1, .int .i64 gw.2] ∧ IsG w'.heap.size w' la lc wa wc gw.1
  | 6, v, w' => ∃ la lc wa wc, v = .tuple #[gv la lc wa wc gw.1, .int .i64 gw.2] ∧ IsG w'.heap.size w' la lc wa wc gw.1
  | 7, v, w' => ∃ la lc wa wc, v = gv la lc wa wc gw.1 ∧ IsG w'.heap.size w' la lc wa wc gw.1
  | 8, v, _ => v = .int .i64 gw.2
  | 10, v, _ => v = .int .i64 gw.2
  | _, _, _ => True
theorem DwSp.any {A N : Nat} {v0 v3 : Value} {p : Int} {l : List UInt8} {gw : GD × Int} {w' w'' : World}
    (h4 : ∀ gb, N ≤ gb → RowAt w' gb l → RowAt w'' gb l) (h5 : ∀ la lc wa wc, IsG w'.heap.size w' la lc wa wc gw.1 → IsG w''.heap.size w'' la lc wa wc gw.1) (k : Nat) (v : Value) (h : DwSp A N v0 v3 p l gw k v w') : DwSp A N v0 v3 p l gw k v w'' := by
  rcases k with _ | _ | _ | _ | _ | _ | _ | _ | _ | _ | _ | k
  · exact h
  · exact h
  · exact h
  · exact h
  · obtain ⟨gb, e, hr, hn⟩ := h; exact ⟨gb, e, h4 gb hn hr, hn⟩
  · obtain ⟨la, lc, wa, wc, e, hI⟩ := h; exact ⟨la, lc, wa, wc, e, h5 _ _ _ _ hI⟩
  · obtain ⟨la, lc, wa, wc, e, hI⟩ := h; exact ⟨la, lc, wa, wc, e, h5 _ _ _ _ hI⟩
  · obtain ⟨la, lc, wa, wc, e, hI⟩ := h; exact ⟨la, lc, wa, wc, e, h5 _ _ _ _ hI⟩
  · exact h
  · exact h
  · exact h
  · exact h
theorem DwSp.below {A N : Nat} {v0 v3 : Value} {p : Int} {l : List UInt8} {gw : GD × Int} {w' w'' : World} (hb : Below w'.heap.size w' w'') : ∀ k v, DwSp A N v0 v3 p l gw k v w' → DwSp A N v0 v3 p l gw k v w'' :=
  DwSp.any (fun gb _ h => (hb.block gb (Array.getElem?_eq_some_iff.1 h).1).trans h) (fun _ _ _ _ h => (h.below hb).mono hb.size)
def DwInv (A : Nat) (W1 : World) (gw : GD × Int) (listed : Array Bool) (w' : World) : Prop := if listed.getD 9 false = true then ∃ w1 la4 lc4 wa4 wc4, Below W1.heap.size W1 w1 ∧ IsG w1.heap.size w1 la4 lc4 wa4 wc4 gw.1 ∧ w' = (((((w1.setCell ⟨A, 0, none⟩ (.slice la4 gw.1.lasts.length lc4)).setCell ⟨A, 1, none⟩ (.slice wa4 gw.1.waits.length wc4)).setCell ⟨A, 2, none⟩ (.int .i64 gw.1.k)).setCell ⟨A, 3, none⟩ (.int .i64 gw.1.l)).setCell ⟨A, 4, none⟩ (.bool gw.1.b)).setCell ⟨A, 5, none⟩ (.int .i64 gw.1.s) else Below W1.heap.size W1 w'
/-- What each operation of the second region leaves. -/
def DvSp (A B : Nat) (v3 : Value) (p : Int) (l : List UInt8) (no : Nat) : Nat → Value → World → Prop
  | 0, v, _ => v = ptr B
  | 1, v, _ => v = .pointer (some ⟨A + 1, 1, none⟩)
  | 2, v, _ => v = .int .i64 p
  | 3, v, _ => v = v3
  | 4, v, w' => ∃ gb, v = .slice (some ⟨gb, 0, none⟩) l.length l.length ∧ RowAt w' gb l
  | 5, v, _ => v = .int .i64 no
  | 6, v, _ => v = .int .i64 no
  | _, _, _ => True
theorem DvSp.any {A B : Nat} {v3 : Value} {p : Int} {l : List UInt8} {no : Nat} {w' w'' : World} (h4 : ∀ gb, RowAt w' gb l → RowAt w'' gb l) (k : Nat) (v : Value) (h : DvSp A B v3 p l no k v w') : DvSp A B v3 p l no k v w'' := by
  rcases k with _ | _ | _ | _ | _ | _ | _ | k
  · exact h
  · exact h
  · exact h
  · exact h
  · obtain ⟨gb, e, hr⟩ := h; exact ⟨gb, e, h4 gb hr⟩
  · exact h
  · exact h
  · exact h
def DvInv (n₀ B : Nat) (dw : Dsk) (w2 : World) (listed : Array Bool) (w' : World) : Prop := if listed.getD 5 false = true then ∃ w3, Below w2.heap.size w2 w3 ∧ IsDisk n₀ w' B dw ∧ Keeps n₀ w3 w' else Below w2.heap.size w2 w'
set_option maxRecDepth 100000 in
set_option maxHeartbeats 1000000 in
theorem does_write {n₀ : Nat} {w : World} {B : Nat} {d : Dsk} {la wa : Option Addr} {lc wc : Nat} {g : GD} (hD : IsDisk n₀ w B d) (hG : IsG w.heap.size w la lc wa wc g) (hfd : d.Few 2147483648) (hf : g.waits.length ≤ 1000000) (p : Int) (x : UInt8) (r : Int) :
    Calls Try.prog 8 #[ptr B, gv la lc wa wc g, actV 1 p x r] w fun e w' => DoesPost n₀ w B (d.write p (actL p x)) (g.write p (actL p x)) e w' := by
  have hn0 := hD.n_le
  have HDF := Lib.hid (fun w' (hb : Below w.heap.size w w') => hD.below hb)
  have HGF := Lib.hid (fun w' (hb : Below w.heap.size w w') => (hG.below hb).mono hb.size)
  have HFd := Lib.hid (And.intro hfd hf)
  clear hD hG hfd hf
  obtain ⟨W1, hW1⟩ : ∃ W1, ((w.alloc (.cells #[.slice la g.lasts.length lc, .slice wa g.waits.length wc, .int .i64 g.k, .int .i64 g.l, .bool g.b, .int .i64 g.s] 34)).alloc (.cells #[.int .i64 1, .int .i64 p, .int .u8 (x.toNat : Int), .int .i64 r] 39)).alloc (.cells #[.slice none 0 0, .slice none 0 0, .int .i64 0, .int .i64 0, .bool false, .int .i64 0] 34) = W1 := ⟨_, rfl⟩
  have hb1 : Below w.heap.size w W1 := by subst hW1; exact (((Below.refl _ _).alloc (Nat.le_refl _) _).alloc (by simp) _).alloc (by simp; omega) _
  have hrA1 : W1.heap[w.heap.size]? = some (.cells #[.slice la g.lasts.length lc, .slice wa g.waits.length wc, .int .i64 g.k, .int .i64 g.l, .bool g.b, .int .i64 g.s] 34 (0, 0)) := by
    subst hW1
    exact (Below.heap_alloc _ _ _ (by simp; omega)).trans ((Below.heap_alloc _ _ _ (by simp)).trans (heap_alloc_new w _))
  have hrC1 : W1.heap[w.heap.size + 1 + 1]? = some (.cells #[.slice none 0 0, .slice none 0 0, .int .i64 0, .int .i64 0, .bool false, .int .i64 0] 34 (0, 0)) := by
    subst hW1
    have := heap_alloc_new' (w.alloc (.cells #[.slice la g.lasts.length lc, .slice wa g.waits.length wc, .int .i64 g.k, .int .i64 g.l, .bool g.b, .int .i64 g.s] 34)) (.cells #[.int .i64 1, .int .i64 p, .int .u8 (x.toNat : Int), .int .i64 r] 39) (.cells #[.slice none 0 0, .slice none 0 0, .int .i64 0, .int .i64 0, .bool false, .int .i64 0] 34)
    rw [World.size_alloc] at this
    exact this
  have hrB1 : W1.heap[w.heap.size + 1]? = some (.cells #[.int .i64 1, .int .i64 p, .int .u8 (x.toNat : Int), .int .i64 r] 39 (0, 0)) := by
    subst hW1
    exact (Below.heap_alloc _ _ _ (by simp)).trans (heap_alloc_new' w _ _)
  have hs1 : W1.heap.size = w.heap.size + 3 := by subst hW1; simp
  obtain ⟨gw, hgw⟩ : ∃ gw, g.write p (actL p x) = gw := ⟨_, rfl⟩
  rw [hgw]
  have HGW := Lib.hid hgw
  clear hgw
  obtain ⟨dw, hdw⟩ : ∃ dw, d.write p (actL p x) = dw := ⟨_, rfl⟩
  rw [hdw]
  have HDW := Lib.hid hdw
  clear hdw
  go_enter Try.func8, Try.ntmps8
  unfold gv rv actV
  have HB1 := Lib.hid (And.intro hb1 (And.intro hrA1 (And.intro hrC1 (And.intro hs1 hrB1))))
  have HW := Lib.hid hW1
  clear hb1 hrA1 hrC1 hs1 hW1 hrB1
  go_wp2_with fail
  rw [HW.out]
  obtain ⟨hb1, hrA1, hrC1, hs1, hrB1⟩ := HB1.out
  refine wp_region_m (DwInv w.heap.size W1 gw)
    (DwSp w.heap.size W1.heap.size (.agg #[.slice la g.lasts.length lc, .slice wa g.waits.length wc, .int .i64 g.k, .int .i64 g.l, .bool g.b, .int .i64 g.s]) (.agg #[.int .i64 1, .int .i64 p, .int .u8 (x.toNat : Int), .int .i64 r]) p (actL p x) gw) (by kernel_rfl) (by kernel_rfl) (by kernel_rfl) (by kernel_rfl) (by unfold DwInv; rw [if_neg (by simp)]; exact (Below.refl _ _).drew) ?step ?fin
  case step =>
    as_aux_lemma =>
      intro q o ho listed a w' hI hn hpre
      have hq : q < 11 := (Array.getElem?_eq_some_iff.1 ho).1
      have hin : listed.getD 9 false = false → Below W1.heap.size W1 w' := fun h => by
        have := hI.inv
        unfold DwInv at this
        rwa [if_neg (by rw [h]; simp)] at this
      have hnx : ∀ k, k ≠ 9 → listed.getD 9 false = false → ∀ w'', Below W1.heap.size W1 w'' → DwInv w.heap.size W1 gw (listed.setIfInBounds k true) w'' := fun k hk h10 w'' h => by
        unfold DwInv
        rw [listed_other (Ne.symm hk), if_neg (by rw [h10]; simp)]; exact h
      have hsame : ∀ k, k ≠ 9 → DwInv w.heap.size W1 gw (listed.setIfInBounds k true) w' := fun k hk => by
        have := hI.inv
        unfold DwInv at this ⊢
        rw [listed_other (Ne.symm hk)]; exact this
      match q, hq with
      | 0, _ =>
        have h9 := hI.notyet hn 9 (by kernel_rfl)
        have hinv := hin h9
        cases ho
        exact wpOp_load rfl rfl rfl (hI.kept (t := 4) (by kernel_rfl)) (load_row32 ((hinv.block w.heap.size (by omega)).trans hrA1) rfl) ⟨_, rfl, hsame _ (by decide), fun _ => rfl, fun _ _ _ h => h⟩
      | 1, _ =>
        cases ho
        exact wpOp_field rfl rfl rfl (hI.kept (t := 5) (by kernel_rfl)) (v := .pointer (some ⟨w.heap.size + 1, 1, none⟩)) (w' := w') (by simp [go_sem]) ⟨_, rfl, hsame _ (by decide), fun _ => rfl, fun _ _ _ h => h⟩
      | 2, _ =>
        have h9 := hI.notyet hn 9 (by kernel_rfl)
        have hinv := hin h9
        cases ho
        have hB' := (hinv.block (w.heap.size + 1) (by omega)).trans hrB1
        exact wpOp_load rfl rfl rfl (hI.slot 1 16 rfl (hpre ⟨1, .data⟩ (by simp) rfl) rfl) (load_cell (Try.isAgg3 _) (v := .int .i64 p) (by rw [cell_of_row w' (w.heap.size + 1) 1 _ _ _ hB']; rfl)) ⟨_, rfl, hsame _ (by decide), fun _ => rfl, fun _ _ _ h => h⟩
      | 3, _ =>
        have h9 := hI.notyet hn 9 (by kernel_rfl)
        have hinv := hin h9
        cases ho
        exact wpOp_load rfl rfl rfl (hI.kept (t := 5) (by kernel_rfl)) (load_row38 ((hinv.block (w.heap.size + 1) (by omega)).trans hrB1) rfl) ⟨_, rfl, hsame _ (by decide), fun _ => rfl, fun _ _ _ h => h⟩
      | 4, _ =>
        have h9 := hI.notyet hn 9 (by kernel_rfl)
        have hinv := hin h9
        cases ho
        have e3 : a.eval (.tmp 18) = actV 1 p x r := hI.slot 3 18 rfl (hpre ⟨3, .data⟩ (by simp) rfl) rfl
        refine wpOp_callFn rfl rfl rfl (vs := #[actV 1 p x r]) (by rw [Array.map_singleton]; show #[a.eval (.tmp 18)] = _; rw [e3]) (fun _ _ => by kernel_rfl) ((actBytes_any 1 p x r w').mono ?_)
        rintro e w'' ⟨gb, rfl, hr, hgb, hb2⟩
        exact ⟨_, rfl, _, rfl, hnx _ (by decide) h9 _ (hinv.trans (hb2.mono hinv.size)), fun _ => ⟨gb, rfl, hr, Nat.le_trans hinv.size hgb⟩, fun j u _ h => DwSp.below hb2 j u h⟩
      | 5, _ =>
        have h9 := hI.notyet hn 9 (by kernel_rfl)
        have hinv := hin h9
        cases ho
        have e0 : a.eval (.tmp 15) = gv la lc wa wc g := hI.slot 0 15 rfl (hpre ⟨0, .data⟩ (by simp) rfl) rfl
        have e2 : a.eval (.tmp 17) = .int .i64 p := hI.slot 2 17 rfl (hpre ⟨2, .data⟩ (by simp) rfl) rfl
        obtain ⟨gb, e4, hr, hgb⟩ : ∃ gb, a.eval (.tmp 19) = .slice (some ⟨gb, 0, none⟩) (actL p x).length (actL p x).length ∧ RowAt w' gb (actL p x) ∧ W1.heap.size ≤ gb := hI.slot 4 19 rfl (hpre ⟨4, .data⟩ (by simp) rfl) rfl
        refine wpOp_callFn rfl rfl rfl (vs := #[gv la lc wa wc g, .int .i64 p, .slice (some ⟨gb, 0, none⟩) (actL p x).length (actL p x).length]) (by simp only [List.map_toArray, List.map_cons, List.map_nil, e0, e2, e4]) (fun _ _ => by kernel_rfl) ((gwrite_any ((HGF.out w' (hb1.trans (hinv.mono hb1.size)))) p (some ⟨gb, 0, none⟩) (actL p x) (actL p x).length HFd.out.2 (fun hne => ⟨gb, 0, rfl, (Array.getElem?_eq_some_iff.1 hr).1, fun i hi => by rw [cell_of_row w' gb (0 + i) _ _ _ hr, Nat.zero_add, List.getElem?_toArray]; simp [byteVals, hi]⟩)).mono ?_)
        rw [HGW.out]
        rintro e w'' ⟨la5, lc5, wa5, wc5, rfl, hI5, hb2⟩
        exact ⟨_, rfl, _, rfl, hnx _ (by decide) h9 _ (hinv.trans (hb2.mono hinv.size)), fun _ => ⟨la5, lc5, wa5, wc5, rfl, hI5⟩, fun j u _ h => DwSp.below hb2 j u h⟩
      | 6, _ =>
        cases ho
        obtain ⟨la5, lc5, wa5, wc5, e5, hI5⟩ : ∃ la lc wa wc, a.eval (.tmp 20) = .tuple #[gv la lc wa wc gw.1, .int .i64 gw.2] ∧ IsG w'.heap.size w' la lc wa wc gw.1 := hI.slot 5 20 rfl (hpre ⟨5, .data⟩ (by simp) rfl) rfl
        exact wpOp_move rfl rfl (.inl rfl) e5 ⟨_, rfl, hsame _ (by decide), fun _ => ⟨la5, lc5, wa5, wc5, rfl, hI5⟩, fun _ _ _ h => h⟩
      | 7, _ =>
        cases ho
        obtain ⟨la5, lc5, wa5, wc5, e6, hI5⟩ : ∃ la lc wa wc, a.eval (.tmp 14) = .tuple #[gv la lc wa wc gw.1, .int .i64 gw.2] ∧ IsG w'.heap.size w' la lc wa wc gw.1 := hI.slot 6 14 rfl (hpre ⟨6, .data⟩ (by simp) rfl) rfl
        exact wpOp_ext0 rfl rfl rfl e6 ⟨_, rfl, hsame _ (by decide), fun _ => ⟨la5, lc5, wa5, wc5, rfl, hI5⟩, fun _ _ _ h => h⟩
      | 8, _ =>
        cases ho
        obtain ⟨la5, lc5, wa5, wc5, e6, hI5⟩ : ∃ la lc wa wc, a.eval (.tmp 14) = .tuple #[gv la lc wa wc gw.1, .int .i64 gw.2] ∧ IsG w'.heap.size w' la lc wa wc gw.1 := hI.slot 6 14 rfl (hpre ⟨6, .data⟩ (by simp) rfl) rfl
        exact wpOp_ext1 rfl rfl rfl e6 ⟨_, rfl, hsame _ (by decide), fun _ => rfl, fun _ _ _ h => h⟩
      | 9, _ =>
        have hinv := hin hn
        cases ho
        obtain ⟨la5, lc5, wa5, wc5, e7, hI5⟩ : ∃ la lc wa wc, a.eval (.tmp 21) = gv la lc wa wc gw.1 ∧ IsG w'.heap.size w' la lc wa wc gw.1 := hI.slot 7 21 rfl (hpre ⟨7, .data⟩ (by simp) rfl) rfl
        have hA' := (hinv.block w.heap.size (by omega)).trans hrA1
        have gA := set6_grown w' w.heap.size (.slice la5 gw.1.lasts.length lc5) (.slice wa5 gw.1.waits.length wc5) (.int .i64 gw.1.k) (.int .i64 gw.1.l) (.bool gw.1.b) (.int .i64 gw.1.s)
        refine wpOp_store rfl rfl rfl (hI.kept (t := 4) (by kernel_rfl)) e7 (store_row32 hA' rfl _ _ _ _ _ _ _ _ _ _) ⟨_, rfl, ?_, (fun e => by cases e), ?_⟩
        · unfold DwInv
          rw [if_pos (listed_same (by rw [hI.size]; decide))]
          exact ⟨w', la5, lc5, wa5, wc5, hinv, hI5, rfl⟩
        · intro j u _ h
          exact DwSp.any (fun gb hgb hr => (gA.block gb (Array.getElem?_eq_some_iff.1 hr).1 (fun e => by have := Option.some.inj e; have := hinv.size; omega)).trans hr) (fun _ _ _ _ h => (h.besides gA hA').mono gA.size) j u h
      | 10, _ =>
        cases ho
        exact wpOp_move rfl rfl (.inr rfl) (hI.slot 8 22 rfl (hpre ⟨8, .data⟩ (by simp) rfl) rfl) ⟨_, rfl, hsame _ (by decide), fun _ => rfl, fun _ _ _ h => h⟩
  case fin =>
    intro listed a w' hI hall
    have hinv := hI.inv
    unfold DwInv at hinv
    rw [if_pos (hall 9 (by decide))] at hinv
    obtain ⟨w1, la4, lc4, wa4, wc4, hbw1, hI4, rfl⟩ := hinv
    have e8 : a.tmps.getD 8 undef = .int .i64 gw.2 := hI.slot 10 8 rfl (hall 10 (by decide)) rfl
    obtain ⟨vs, us, hvl, hul, hvs, -, e⟩ := hI.frame2 8 1 14 9 (by decide) (Nat.le_of_ble_eq_true (by kernel_rfl)) (by kernel_rfl)
    have v0' := hvs 0 (by decide)
    clear hI hall hvs
    have hA1 := (hbw1.block w.heap.size (by omega)).trans hrA1
    have hA2 := set6_heap (.slice la4 gw.1.lasts.length lc4) (.slice wa4 gw.1.waits.length wc4) (.int .i64 gw.1.k) (.int .i64 gw.1.l) (.bool gw.1.b) (.int .i64 gw.1.s) hA1
    have gA := set6_grown w1 w.heap.size (.slice la4 gw.1.lasts.length lc4) (.slice wa4 gw.1.waits.length wc4) (.int .i64 gw.1.k) (.int .i64 gw.1.l) (.bool gw.1.b) (.int .i64 gw.1.s)
    have hI2 := (hI4.besides gA hA1).mono gA.size
    have hsz := hbw1.size
    have hB2 := (gA.block (w.heap.size + 1) (by omega) (by simp)).trans ((hbw1.block (w.heap.size + 1) (by omega)).trans hrB1)
    have hC2 := (gA.block (w.heap.size + 1 + 1) (by omega) (by simp; omega)).trans ((hbw1.block (w.heap.size + 1 + 1) (by omega)).trans hrC1)
    have hb2 := (hb1.trans (hbw1.mono hb1.size)).grown gA (Nat.le_trans hb1.size hsz) (fun k e => by cases e; exact Nat.le_refl _)
    clear gA hA1 hbw1 hI4 hrA1 hrB1 hrC1 hb1 hsz
    revert hA2 hI2 hB2 hC2 hb2
    generalize ((((((w1.setCell ⟨w.heap.size, 0, none⟩ (.slice la4 gw.1.lasts.length lc4)).setCell ⟨w.heap.size, 1, none⟩ (.slice wa4 gw.1.waits.length wc4)).setCell ⟨w.heap.size, 2, none⟩ (.int .i64 gw.1.k)).setCell ⟨w.heap.size, 3, none⟩ (.int .i64 gw.1.l)).setCell ⟨w.heap.size, 4, none⟩ (.bool gw.1.b)).setCell ⟨w.heap.size, 5, none⟩ (.int .i64 gw.1.s)) = w2
    intro hA2 hI2 hB2 hC2 hb2
    match vs, us, hvl, hul with
    | [v0], [t0, t1, t2, t3, t4, t5, t6, t7, t8], _, _ =>
    simp only [List.getElem?_cons_zero, Option.some.injEq] at v0'
    rw [Nat.add_zero, e8] at v0'
    subst v0'
    clear e8
    simp only [List.take_succ_cons, List.take_zero, List.drop_succ_cons, List.drop_zero, List.cons_append, List.nil_append, Nat.reduceAdd, Nat.reduceSub] at e
    subst e
    have HE := Lib.hid (And.intro hI2 (And.intro hb2 (And.intro hA2 (And.intro hC2 hB2))))
    clear hI2 hb2 hA2 hC2 hB2
    go_wp2_with fail
    obtain ⟨hI2, hb2, hA2, hC2, hB2⟩ := HE.out
    refine wp_region_m (DvInv n₀ B dw.1 w2) (DvSp w.heap.size B (actV 1 p x r) p (actL p x) dw.2) (by kernel_rfl) (by kernel_rfl) (by kernel_rfl) (by kernel_rfl) (by unfold DvInv; rw [if_neg (by simp)]; exact (Below.refl _ _).drew) ?step2 ?fin2
    case step2 =>
      as_aux_lemma =>
        intro q o ho listed a w' hI hn hpre
        have hq : q < 7 := (Array.getElem?_eq_some_iff.1 ho).1
        have hBl := (Array.getElem?_eq_some_iff.1 hB2).1
        have hin : listed.getD 5 false = false → Below w2.heap.size w2 w' := fun h => by
          have := hI.inv
          unfold DvInv at this
          rwa [if_neg (by rw [h]; simp)] at this
        have hnx : ∀ k, k ≠ 5 → listed.getD 5 false = false → ∀ w'', Below w2.heap.size w2 w'' → DvInv n₀ B dw.1 w2 (listed.setIfInBounds k true) w'' := fun k hk h10 w'' h => by
          unfold DvInv
          rw [listed_other (Ne.symm hk), if_neg (by rw [h10]; simp)]; exact h
        have hsame : ∀ k, k ≠ 5 → DvInv n₀ B dw.1 w2 (listed.setIfInBounds k true) w' := fun k hk => by
          have := hI.inv
          unfold DvInv at this ⊢
          rw [listed_other (Ne.symm hk)]; exact this
        match q, hq with
        | 0, _ =>
          cases ho
          exact wpOp_move rfl rfl (.inl rfl) (hI.kept (t := 0) (by kernel_rfl)) ⟨_, rfl, hsame _ (by decide), fun _ => rfl, fun _ _ _ h => h⟩
        | 1, _ =>
          cases ho
          exact wpOp_field rfl rfl rfl (hI.kept (t := 5) (by kernel_rfl)) (v := .pointer (some ⟨w.heap.size + 1, 1, none⟩)) (w' := w') (by simp [go_sem]) ⟨_, rfl, hsame _ (by decide), fun _ => rfl, fun _ _ _ h => h⟩
        | 2, _ =>
          have hinv := hin (hI.notyet hn 5 (by kernel_rfl))
          cases ho
          have hB' := (hinv.block (w.heap.size + 1) hBl).trans hB2
          exact wpOp_load rfl rfl rfl (hI.slot 1 24 rfl (hpre ⟨1, .data⟩ (by simp) rfl) rfl) (load_cell (Try.isAgg3 _) (v := .int .i64 p) (by rw [cell_of_row w' (w.heap.size + 1) 1 _ _ _ hB']; rfl)) ⟨_, rfl, hsame _ (by decide), fun _ => rfl, fun _ _ _ h => h⟩
        | 3, _ =>
          have hinv := hin (hI.notyet (hI.notyet hn 4 (by kernel_rfl)) 5 (by kernel_rfl))
          cases ho
          exact wpOp_load rfl rfl rfl (hI.kept (t := 5) (by kernel_rfl)) (load_row38 ((hinv.block (w.heap.size + 1) hBl).trans hB2) rfl) ⟨_, rfl, hsame _ (by decide), fun _ => rfl, fun _ _ _ h => h⟩
        | 4, _ =>
          have h5 := hI.notyet hn 5 (by kernel_rfl)
          have hinv := hin h5
          cases ho
          have e3 : a.eval (.tmp 26) = actV 1 p x r := hI.slot 3 26 rfl (hpre ⟨3, .data⟩ (by simp) rfl) rfl
          refine wpOp_callFn rfl rfl rfl (vs := #[actV 1 p x r]) (by rw [Array.map_singleton]; show #[a.eval (.tmp 26)] = _; rw [e3]) (fun _ _ => by kernel_rfl) ((actBytes_any 1 p x r w').mono ?_)
          rintro e w'' ⟨gb, rfl, hr, hgb, hb3⟩
          exact ⟨_, rfl, _, rfl, hnx _ (by decide) h5 _ (hinv.trans (hb3.mono hinv.size)), fun _ => ⟨gb, rfl, hr⟩, fun j u _ h => DvSp.any (fun gb h => (hb3.block gb (Array.getElem?_eq_some_iff.1 h).1).trans h) j u h⟩
        | 5, _ =>
          have hinv := hin hn
          cases ho
          have e0 : a.eval (.tmp 23) = ptr B := hI.slot 0 23 rfl (hpre ⟨0, .data⟩ (by simp) rfl) rfl
          have e2 : a.eval (.tmp 25) = .int .i64 p := hI.slot 2 25 rfl (hpre ⟨2, .data⟩ (by simp) rfl) rfl
          obtain ⟨gb, e4, hr⟩ : ∃ gb, a.eval (.tmp 27) = .slice (some ⟨gb, 0, none⟩) (actL p x).length (actL p x).length ∧ RowAt w' gb (actL p x) := hI.slot 4 27 rfl (hpre ⟨4, .data⟩ (by simp) rfl) rfl
          refine wpOp_callFn rfl rfl rfl (vs := #[ptr B, .int .i64 p, .slice (some ⟨gb, 0, none⟩) (actL p x).length (actL p x).length]) (by simp only [List.map_toArray, List.map_cons, List.map_nil, e0, e2, e4]) (fun _ _ => by kernel_rfl) ((write_disk (HDF.out w' (hb2.trans (hinv.mono hb2.size))) HFd.out.1 p (some ⟨gb, 0, none⟩) (actL p x).length (actL p x).length (actL p x) ⟨rfl, fun h256 => ⟨gb, 0, rfl, ⟨h256, fun j v hv => by rw [Nat.zero_add, cell_of_row w' gb j _ _ _ hr]; simpa using hv, _, _, _, hr, by decide, by decide⟩⟩⟩).mono ?_)
          rw [HDW.out]
          rintro e w'' ⟨rfl, hD5, hK5⟩
          refine ⟨_, rfl, _, rfl, ?_, fun _ => rfl, fun j u _ h => DvSp.any (fun gb h => hK5.cells _ _ _ _ h (by decide) (by decide)) j u h⟩
          unfold DvInv
          rw [if_pos (listed_same (by rw [hI.size]; decide))]
          exact ⟨w', hinv, hD5, hK5⟩
        | 6, _ =>
          cases ho
          exact wpOp_move rfl rfl (.inr rfl) (hI.slot 5 28 rfl (hpre ⟨5, .data⟩ (by simp) rfl) rfl) ⟨_, rfl, hsame _ (by decide), fun _ => rfl, fun _ _ _ h => h⟩
    case fin2 =>
      intro listed a w' hI hall
      have hinv := hI.inv
      unfold DvInv at hinv
      rw [if_pos (hall 5 (by decide))] at hinv
      obtain ⟨w3, hb3, hD3, hK3⟩ := hinv
      have e9 : a.tmps.getD 9 undef = .int .i64 dw.2 := hI.slot 6 9 rfl (hall 6 (by decide)) rfl
      obtain ⟨vs, us, hvl, hul, hvs, -, e⟩ := hI.frame2 9 1 23 6 (by decide) (Nat.le_of_ble_eq_true (by kernel_rfl)) (by kernel_rfl)
      have v0' := hvs 0 (by decide)
      clear hI hall hvs
      match vs, us, hvl, hul with
      | [v0], [s0, s1, s2, s3, s4, s5], _, _ =>
      simp only [List.getElem?_cons_zero, Option.some.injEq] at v0'
      rw [Nat.add_zero, e9] at v0'
      subst v0'
      clear e9
      simp only [List.take_succ_cons, List.take_zero, List.drop_succ_cons, List.drop_zero, List.cons_append, List.nil_append, Nat.reduceAdd, Nat.reduceSub] at e
      subst e
      have hA3 := hK3.cells _ _ _ _ ((hb3.block w.heap.size (Array.getElem?_eq_some_iff.1 hA2).1).trans hA2) (by decide) (by decide)
      have hC3 := hK3.cells _ _ _ _ ((hb3.block (w.heap.size + 1 + 1) (Array.getElem?_eq_some_iff.1 hC2).1).trans hC2) (by decide) (by decide)
      have c00 := cell_of_row w' w.heap.size 0 _ _ _ hA3; have f00 := frozen_of_row w' w.heap.size 0 _ _ hA3
      have c01 := cell_of_row w' w.heap.size 1 _ _ _ hA3; have f01 := frozen_of_row w' w.heap.size 1 _ _ hA3
      have c02 := cell_of_row w' w.heap.size 2 _ _ _ hA3; have f02 := frozen_of_row w' w.heap.size 2 _ _ hA3
      have c03 := cell_of_row w' w.heap.size 3 _ _ _ hA3; have f03 := frozen_of_row w' w.heap.size 3 _ _ hA3
      have c04 := cell_of_row w' w.heap.size 4 _ _ _ hA3; have f04 := frozen_of_row w' w.heap.size 4 _ _ hA3
      have c05 := cell_of_row w' w.heap.size 5 _ _ _ hA3; have f05 := frozen_of_row w' w.heap.size 5 _ _ hA3
      simp only [List.getElem?_toArray, List.getElem?_cons_zero, List.getElem?_cons_succ] at c00 c01 c02 c03 c04 c05
      have c10 := cell_of_row w' (w.heap.size + 1 + 1) 0 _ _ _ hC3; have f10 := frozen_of_row w' (w.heap.size + 1 + 1) 0 _ _ hC3
      have c11 := cell_of_row w' (w.heap.size + 1 + 1) 1 _ _ _ hC3; have f11 := frozen_of_row w' (w.heap.size + 1 + 1) 1 _ _ hC3
      have c12 := cell_of_row w' (w.heap.size + 1 + 1) 2 _ _ _ hC3; have f12 := frozen_of_row w' (w.heap.size + 1 + 1) 2 _ _ hC3
      have c13 := cell_of_row w' (w.heap.size + 1 + 1) 3 _ _ _ hC3; have f13 := frozen_of_row w' (w.heap.size + 1 + 1) 3 _ _ hC3
      have c14 := cell_of_row w' (w.heap.size + 1 + 1) 4 _ _ _ hC3; have f14 := frozen_of_row w' (w.heap.size + 1 + 1) 4 _ _ hC3
      have c15 := cell_of_row w' (w.heap.size + 1 + 1) 5 _ _ _ hC3; have f15 := frozen_of_row w' (w.heap.size + 1 + 1) 5 _ _ hC3
      simp only [List.getElem?_toArray, List.getElem?_cons_zero, List.getElem?_cons_succ] at c10 c11 c12 c13 c14 c15
      have HF := Lib.hid (And.intro hI2 (And.intro hb2 (And.intro hb3 (And.intro hD3 (And.intro hK3 hC3)))))
      clear hI2 hb2 hb3 hD3 hK3 hC3 hA3 hA2 hB2 hC2
      go_wp2
      obtain ⟨hI2, hb2, hb3, hD3, hK3, hC3⟩ := HF.out
      refine bodyPost_ret (results_ref rfl _ _ _ _ _ _ rfl (set6_heap _ _ _ _ _ _ hC3) Try.underlying34 (by kernel_rfl)) rfl ?_
      have hfin := set6_grown w' (w.heap.size + 1 + 1) (.slice la4 gw.1.lasts.length lc4) (.slice wa4 gw.1.waits.length wc4) (.int .i64 gw.1.k) (.int .i64 gw.1.l) (.bool gw.1.b) (.int .i64 gw.1.s)
      have hgG := ((hI2.below hb3).keeps hK3).besides hfin hC3
      have hb13 := hb2.trans (hb3.mono hb2.size)
      refine ⟨la4, lc4, wa4, wc4, rfl, hgG.mono (Nat.le_trans hb3.size (Nat.le_trans hK3.below.size hfin.size)), hD3.besides hfin hC3 (by decide) (by decide), ⟨((hb13.mono hn0).trans hK3.below).grown hfin (Nat.le_trans hn0 (Nat.le_trans hb13.size hK3.below.size)) (fun k e => by cases e; omega), fun k cs T fr hk h1 h2 => ?_⟩⟩
      have hlt := (Array.getElem?_eq_some_iff.1 hk).1
      have h6 := hK3.cells k cs T fr ((hb13.block k hlt).trans hk) h1 h2
      exact (hfin.block k (Array.getElem?_eq_some_iff.1 h6).1 (fun e => by have := Option.some.inj e; omega)).trans h6
end Go.Proofs.Ytkophpipehdkmaa
/- Layer 2: the law's 'does' of a call that is none. -/
namespace Go.Proofs.Ytkophpipehdkmaa
open Go.ChangeShapes Go.WideShapes Go.RowKit

theorem alloc3_new (w : World) (a b c : Obj) : (((w.alloc a).alloc b).alloc c).heap[w.heap.size + 1 + 1]? = some c := by
  have := heap_alloc_new' (w.alloc a) b c
  rw [World.size_alloc] at this
  exact this
set_option maxRecDepth 100000 in
set_option maxHeartbeats 4000000 in
theorem does_none {n₀ : Nat} {w : World} {B : Nat} {d : Dsk} {la wa : Option Addr} {lc wc : Nat} {g : GD} (hD : IsDisk n₀ w B d) (hG : IsG w.heap.size w la lc wa wc g) (k p : Int) (x : UInt8) (r : Int) (h1 : k ≠ 1) (h2 : k ≠ 2) (h3 : k ≠ 3) :
    Calls Try.prog 8 #[ptr B, gv la lc wa wc g, actV k p x r] w fun e w' => DoesPost n₀ w B (d, 0) (g, 0) e w' := by
  have hn0 := hD.n_le
  have HP := Lib.hid (show ∀ a b c, DoesPost n₀ w B (d, 0) (g, 0) (.returned (.tuple #[.agg #[.slice la g.lasts.length lc, .slice wa g.waits.length wc, .int .i64 g.k, .int .i64 g.l, .bool g.b, .int .i64 g.s], .bool true])) (((w.alloc a).alloc b).alloc c) from fun a b c => by
    have hb : Below w.heap.size w (((w.alloc a).alloc b).alloc c) := (((Below.refl _ _).alloc (Nat.le_refl _) _).alloc (by simp) _).alloc (by simp; omega) _
    exact ⟨la, lc, wa, wc, rfl, (hG.below hb).mono hb.size, hD.below hb, Keeps.of_below hb hn0⟩)
  clear hD hG
  have e1 : (k == 1) = false := by simpa using h1
  have e2 : (k == 2) = false := by simpa using h2
  have e3 : (k == 3) = false := by simpa using h3
  go_enter Try.func8, Try.ntmps8
  unfold gv rv actV
  go_wp2
  refine bodyPost_ret (results_ref rfl _ _ _ _ _ _ rfl (alloc3_new _ _ _ _) Try.underlying34 (by kernel_rfl)) rfl ?_
  exact HP.out _ _ _
end Go.Proofs.Ytkophpipehdkmaa
/- Layer 2: the document's disk in memory; a page as it was written last. -/
namespace Go.Proofs.Ytkophpipehdkmaa
open Go.RowKit

/-- What page i is behind these writes. -/
def pageOf (s : ByteArray) (i : Int) (ws : List (Int × ByteArray)) : ByteArray := ws.foldl (fun o x => if x.1 = i then x.2 else o) s
theorem pageOf_snoc (s : ByteArray) (i : Int) (ws : List (Int × ByteArray)) (x : Int × ByteArray) : pageOf s i (ws ++ [x]) = if x.1 = i then x.2 else pageOf s i ws := by simp [pageOf]
def GD.page (g : GD) (i : Nat) : ByteArray := pageOf (g.lasts[i]?.getD ⟨#[]⟩) i g.waits
set_option maxRecDepth 100000 in
set_option maxHeartbeats 2000000 in
theorem gpage_any {w : World} {la wa : Option Addr} {lc wc : Nat} {g : GD} (n₀ : Nat) (hn₀ : n₀ ≤ w.heap.size) (h : IsG n₀ w la lc wa wc g) (hf : g.waits.length ≤ 1000000) (i : Nat) (hi : i < g.lasts.length) :
    Calls Try.prog 35 #[gv la lc wa wc g, .int .i64 i] w fun e w' => e = .returned (.string (g.page i)) ∧ Below w.heap.size w w' := by
  obtain ⟨L, hL⟩ : ∃ L, g.lasts.length = L := ⟨_, rfl⟩
  obtain ⟨n, hn⟩ : ∃ n, g.waits.length = n := ⟨_, rfl⟩
  have hgv : gv la lc wa wc g = .agg #[.slice la L lc, .slice wa n wc, .int .i64 g.k, .int .i64 g.l, .bool g.b, .int .i64 g.s] := by unfold gv rv; rw [hL, hn]
  rw [hgv]
  rw [hL] at hi
  rw [hn] at hf
  obtain ⟨W, hW⟩ : ∃ W, w.alloc (.cells #[.slice la L lc, .slice wa n wc, .int .i64 g.k, .int .i64 g.l, .bool g.b, .int .i64 g.s] 34) = W := ⟨_, rfl⟩
  have hrow := heap_alloc_new w (.cells #[.slice la L lc, .slice wa n wc, .int .i64 g.k, .int .i64 g.l, .bool g.b, .int .i64 g.s] 34)
  rw [hW] at hrow
  have hb : Below w.heap.size w W := hW ▸ (Below.refl _ _).alloc (Nat.le_refl _) _
  have q0 := cell_of_row W w.heap.size 0 _ _ _ hrow
  have q1 := cell_of_row W w.heap.size 1 _ _ _ hrow
  simp only [List.getElem?_toArray, List.getElem?_cons_zero, List.getElem?_cons_succ] at q0 q1
  have hI := h.below (hb.mono hn₀)
  obtain ⟨s0, hs0⟩ : ∃ s, g.lasts[i]? = some s := ⟨g.lasts[i]'(by omega), List.getElem?_eq_getElem _⟩
  obtain ⟨b, off, rfl, hlt, -, hc⟩ := hI.lasts (by intro h; have := congrArg List.length h; simp at this; rw [this] at hL; simp at hL; omega)
  have c0 := hc i (.string s0) (by rw [List.getElem?_map, hs0]; rfl)
  have c0' : W.cell? ⟨b, off + i * 1, none⟩ = some (.string s0) := by rw [Nat.mul_one]; exact c0
  have hiL : (i : Int) < (L : Int) := by omega
  have hgp : g.page i = pageOf s0 i g.waits := by unfold GD.page; rw [hs0]; rfl
  rw [hgp]
  have HI := Lib.hid (And.intro hI (And.intro hn hb))
  clear h hrow hc hgp hgv hs0 hI hn hb
  go_enter Try.func35, Try.ntmps35
  go_wp2
  go_loopw [5, 6, 12, 13, 14, 15, 16, 17, 18, 19, 20, 21, 22, 23, 24, 25, 26, 27, 28, 29, 30, 31, 32] (fun x y _ _ _ _ _ _ _ _ _ _ _ _ _ _ _ _ _ _ _ _ _ wr => wr = W ∧ ∃ j : Nat, j ≤ n ∧ y = .int .i64 j ∧ x = .string (pageOf s0 i (g.waits.take j))) (fun _ y _ _ _ _ _ _ _ _ _ _ _ _ _ _ _ _ _ _ _ _ _ _ => n - (intOf y).toNat)
  case atStart => exact ⟨rfl, 0, Nat.zero_le _, rfl, by simp [pageOf]⟩
  case round =>
    obtain ⟨rfl, j, hj, rfl, rfl⟩ := hrel
    by_cases hlt2 : j < n
    · have hjn : (j : Int) < (n : Int) := by omega
      obtain ⟨hI, hn, -⟩ := HI.out
      obtain ⟨x, hx⟩ : ∃ x, g.waits[j]? = some x := ⟨g.waits[j]'(by omega), List.getElem?_eq_getElem _⟩
      obtain ⟨w1, w2⟩ := wtsCells_get hx
      obtain ⟨b2, off2, rfl, hlt3, -, hc2⟩ := hI.waits (by intro e; rw [e] at w1; simp at w1)
      have d0 := hc2 _ _ w1
      have d1 := hc2 _ _ w2
      rw [← Nat.add_assoc] at d1
      have htk : pageOf s0 i (g.waits.take (j + 1)) = if x.1 = i then x.2 else pageOf s0 i (g.waits.take j) := by
        rw [List.take_add_one, hx, Option.toList_some]; exact pageOf_snoc _ _ _ _
      have HT := Lib.hid htk
      clear hI hn w1 w2 htk hc2 hx
      by_cases hxi : x.1 = (i : Int)
      · have hxi2 : (x.1 == (i : Int)) = true := by simpa using hxi
        go_wp2
        exact ⟨⟨trivial, j + 1, hlt2, by rw [show ((j + 1 : Nat) : Int) = (j : Int) + 1 by omega], by rw [HT.out, if_pos hxi]⟩, by simp only [intOf]; omega⟩
      · have hxi2 : (x.1 == (i : Int)) = false := by simpa using hxi
        go_wp2
        exact ⟨⟨trivial, j + 1, hlt2, by rw [show ((j + 1 : Nat) : Int) = (j : Int) + 1 by omega], by rw [HT.out, if_neg hxi]⟩, by simp only [intOf]; omega⟩
    · obtain rfl : j = n := by omega
      have hjn : ¬ ((j : Int) < (j : Int)) := by omega
      go_wp2
      go_ret
      exact ⟨by rw [List.take_of_length_le (by rw [HI.out.2.1]; exact Nat.le_refl _)]; rfl, HI.out.2.2⟩
end Go.Proofs.Ytkophpipehdkmaa
/- Layer 2: the disk and the document's disk, side by side; in plain words. -/
namespace Go.Proofs.Ytkophpipehdkmaa
open Go.RowKit

def pgStr (p : Page) : ByteArray := ⟨p.toArray⟩
def wtStr (x : Nat × Page) : Int × ByteArray := ((x.1 : Int), pgStr x.2)
/-- The document's disk g is what the disk d is. -/
structure Agree (d : Dsk) (g : GD) : Prop where
  lasts : g.lasts = d.lasts.map pgStr
  waits : g.waits = d.waits.map wtStr
  k : g.k = d.kind
  l : d.kind ≠ 0 → g.l = d.left
  b : g.b = d.dead
  s : g.s = d.steps
theorem pageOf_newest (s : Page) (i : Nat) (ws : List (Nat × Page)) : pageOf (pgStr s) i (ws.map wtStr) = pgStr ((newest ws i).getD s) := by
  induction ws using snoc_ind with
  | h0 => rfl
  | h1 l x ih =>
    rw [List.map_append, List.map_cons, List.map_nil, pageOf_snoc, newest_snoc']
    by_cases h : x.1 = i
    · subst h; simp [wtStr]
    · have h2 : ¬ ((wtStr x).1 = (i : Int)) := by simp [wtStr]; omega
      rw [if_neg h2, ih]
      show _ = pgStr ((if i = x.fst then some x.snd else newest l i).getD s)
      rw [if_neg (fun e => h e.symm)]
theorem Agree.page {d : Dsk} {g : GD} (h : Agree d g) (i : Nat) (hi : i < d.room) : g.page i = pgStr (d.page i) := by
  unfold GD.page Dsk.page
  rw [h.waits, h.lasts, List.getElem?_map, List.getElem?_eq_getElem hi, Option.map_some, Option.getD_some, pageOf_newest]
  congr 2
  simp only [List.getD, List.getElem?_eq_getElem (show i < d.lasts.length from hi), Option.getD_some]
  rfl
theorem Agree.step {d : Dsk} {g : GD} (h : Agree d g) (ok : d.Ok) (hf : d.steps ≤ 4611686018427387904) : Agree d.step.1 g.stepped.1 ∧ (d.step.2 : Int) = g.stepped.2 := by
  obtain ⟨h1, h2, h3, h4, h5, h6⟩ := h
  have hl := ok.left_
  unfold GD.stepped rstep Dsk.step
  rw [h5]
  by_cases hd : d.dead = true
  · simp only [hd, if_true]
    exact ⟨⟨h1, h2, h3, h4, hd.symm, h6⟩, rfl⟩
  · have hd2 : d.dead = false := by simpa using hd
    simp only [hd2, Bool.false_eq_true, if_false]
    by_cases hk : d.kind ≠ 0 ∧ d.left = 0
    · have hk2 : g.k ≠ 0 ∧ g.l = 0 := ⟨by rw [h3]; omega, by rw [h4 hk.1]; omega⟩
      simp only [hk, hk2, and_self, ne_eq, not_false_eq_true, if_true]
      by_cases h1k : d.kind = 1
      · have : g.k = 1 := by rw [h3]; omega
        simp only [h1k, this, if_true]
        exact ⟨⟨h1, h2, rfl, fun e => absurd rfl e, rfl, h6⟩, rfl⟩
      · have : ¬ g.k = 1 := by rw [h3]; omega
        simp only [h1k, this, if_false]
        exact ⟨⟨h1, h2, rfl, fun e => absurd rfl e, rfl, h6⟩, rfl⟩
    · have hk2 : ¬ (g.k ≠ 0 ∧ g.l = 0) := by
        rintro ⟨e0, e2⟩
        have e1 : d.kind ≠ 0 := by rw [h3] at e0; omega
        rw [h4 e1] at e2
        exact hk ⟨e1, by omega⟩
      rw [if_neg hk, if_neg hk2]
      have e6 : wrap64 (g.s + 1) = ((d.steps + 1 : Nat) : Int) := by rw [h6]; unfold wrap64; omega
      refine ⟨⟨h1, h2, h3, fun e => ?_, rfl, e6⟩, rfl⟩
      have e : d.kind ≠ 0 := e
      have hne : g.k ≠ 0 := by rw [h3]; omega
      have hl0 : d.left ≠ 0 := fun z => hk ⟨e, z⟩
      show (if g.k ≠ 0 then wrap64 (g.l - 1) else g.l) = ((d.left - (if d.kind = 0 then 0 else 1) : Nat) : Int)
      rw [if_pos hne, if_neg e, h4 e]
      unfold wrap64; omega
theorem flushed_applied (ls : List Page) (ws : List (Nat × Page)) : flushed (ls.map pgStr) (ws.map wtStr) = (applied ls ws).map pgStr := by
  induction ws using snoc_ind with
  | h0 =>
    unfold applied
    apply List.ext_getElem?
    intro i
    by_cases hi : i < ls.length
    · simp [flushed, newest_nil, hi, List.getD]
    · simp [flushed, hi]
  | h1 l x ih =>
    rw [List.map_append, List.map_cons, List.map_nil, flushed_snoc, ih]
    unfold applied
    rw [newest_snoc']
    apply List.ext_getElem?
    intro i
    rw [List.getElem?_set]
    by_cases hi : i < ls.length
    · by_cases hx : x.1 = i
      · subst hx; simp [wtStr, hi]
      · have hx2 : ¬ i = x.1 := fun e => hx e.symm
        simp [wtStr, hi, hx, hx2]
    · have : ¬ (x.1 = i ∧ i < ls.length) := fun e => hi e.2
      by_cases hx : x.1 = i
      · subst hx; simp [wtStr, hi]
      · simp [wtStr, hi, hx]
theorem Agree.flush {d : Dsk} {g : GD} (h : Agree d g) (ok : d.Ok) (hf : d.steps ≤ 4611686018427387904) : Agree d.flush.1 g.flush.1 ∧ (d.flush.2 : Int) = g.flush.2 := by
  obtain ⟨hs, he⟩ := h.step ok hf
  unfold Dsk.flush GD.flush
  by_cases h0 : d.step.2 = 0
  · have h0' : g.stepped.2 = 0 := by rw [← he, h0]; rfl
    rw [if_pos h0, if_pos h0']
    refine ⟨⟨?_, rfl, hs.k, hs.l, hs.b, hs.s⟩, rfl⟩
    show flushed g.lasts g.waits = _
    rw [h.lasts, h.waits]; exact flushed_applied _ _
  · have h0' : ¬ g.stepped.2 = 0 := by rw [← he]; omega
    rw [if_neg h0, if_neg h0']
    exact ⟨hs, he⟩
theorem Agree.write {d : Dsk} {g : GD} (h : Agree d g) (ok : d.Ok) (hf : d.steps ≤ 4611686018427387904) (p : Int) (l : List UInt8) : Agree (d.write p l).1 (g.write p l).1 ∧ ((d.write p l).2 : Int) = (g.write p l).2 := by
  obtain ⟨hs, he⟩ := h.step ok hf
  have hL : g.lasts.length = d.room := by rw [h.lasts, List.length_map]; rfl
  unfold Dsk.write GD.write
  by_cases h1 : l.length ≠ 256
  · rw [if_pos h1, if_pos h1]; exact ⟨h, rfl⟩
  rw [if_neg h1, if_neg h1, hL]
  by_cases h2 : 0 ≤ p ∧ p < (d.room : Int)
  · rw [if_neg (not_not_intro h2), if_neg (show ¬ (p < 0 ∨ (d.room : Int) ≤ p) by omega)]
    by_cases h0 : d.step.2 = 0
    · have h0' : g.stepped.2 = 0 := by rw [← he, h0]; rfl
      rw [if_pos h0, if_pos h0']
      refine ⟨⟨hs.lasts, ?_, hs.k, hs.l, hs.b, hs.s⟩, rfl⟩
      show g.waits ++ [(p, ⟨l.toArray⟩)] = (d.waits ++ [(p.toNat, l)]).map wtStr
      rw [List.map_append, h.waits]
      congr 1
      show [(p, (⟨l.toArray⟩ : ByteArray))] = [((p.toNat : Int), pgStr l)]
      rw [Int.toNat_of_nonneg h2.1]; rfl
    · have h0' : ¬ g.stepped.2 = 0 := by rw [← he]; omega
      rw [if_neg h0, if_neg h0']
      exact ⟨hs, he⟩
  · rw [if_pos h2, if_pos (show p < 0 ∨ (d.room : Int) ≤ p by omega)]; exact ⟨h, rfl⟩
theorem Agree.arm {d : Dsk} {g : GD} (h : Agree d g) (r p : Int) : Agree (d.arm r p).1 (g.arm r p).1 ∧ ((d.arm r p).2 : Int) = (g.arm r p).2 := by
  unfold Dsk.arm GD.arm
  by_cases h1 : ¬(r = 1 ∨ r = 2) ∧ (r ≠ 0 ∨ 0 ≤ p)
  · rw [if_pos h1, if_pos (show r < 0 ∨ 2 < r ∨ (r = 0 ∧ 0 ≤ p) by omega)]; exact ⟨h, rfl⟩
  rw [if_neg h1, if_neg (show ¬ (r < 0 ∨ 2 < r ∨ (r = 0 ∧ 0 ≤ p)) by omega), h.b]
  by_cases h2 : d.dead = true
  · rw [if_pos h2, if_pos h2]; exact ⟨h, rfl⟩
  rw [if_neg h2, if_neg h2]
  have hd2 : d.dead = false := by simpa using h2
  by_cases h3 : 0 ≤ p
  · rw [if_pos h3, if_neg (by omega)]
    exact ⟨⟨h.lasts, h.waits, by show r = (r.toNat : Int); omega, fun _ => by show p = (p.toNat : Int); omega, by show d.dead = false; exact hd2, h.s⟩, rfl⟩
  · rw [if_neg h3, if_pos (by omega)]
    exact ⟨⟨h.lasts, h.waits, rfl, fun e => absurd rfl e, by show d.dead = false; exact hd2, h.s⟩, rfl⟩
end Go.Proofs.Ytkophpipehdkmaa
/- Layer 2: any call of the law, on the disk and on the document's disk; a run of calls that came in. -/
namespace Go.Proofs.Ytkophpipehdkmaa
open Go.ChangeShapes Go.WideShapes Go.RowKit

/-- A call: Kind, Page, Byte, Arm. -/
structure ActD where
  k : Int
  p : Int
  x : UInt8
  r : Int
instance : Inhabited ActD := ⟨⟨0, 0, 0, 0⟩⟩
def ActD.v (a : ActD) : Value := actV a.k a.p a.x a.r
structure ActD.Ok (a : ActD) : Prop where
  arm : (Lit.int .i64 a.r).wf = true
  page : a.p ≤ 9223372036854775807
def stepD (d : Dsk) (a : ActD) : Dsk × Nat := if a.k = 1 then d.write a.p (actL a.p a.x) else if a.k = 2 then d.flush else if a.k = 3 then d.arm a.r a.p else (d, 0)
def stepG (g : GD) (a : ActD) : GD × Int := if a.k = 1 then g.write a.p (actL a.p a.x) else if a.k = 2 then g.flush else if a.k = 3 then g.arm a.r a.p else (g, 0)
theorem Agree.act {d : Dsk} {g : GD} (h : Agree d g) (ok : d.Ok) (hf : d.steps ≤ 4611686018427387904) (a : ActD) : Agree (stepD d a).1 (stepG g a).1 ∧ ((stepD d a).2 : Int) = (stepG g a).2 := by
  unfold stepD stepG
  by_cases h1 : a.k = 1
  · rw [if_pos h1, if_pos h1]; exact h.write ok hf a.p _
  rw [if_neg h1, if_neg h1]
  by_cases h2 : a.k = 2
  · rw [if_pos h2, if_pos h2]; exact h.flush ok hf
  rw [if_neg h2, if_neg h2]
  by_cases h3 : a.k = 3
  · rw [if_pos h3, if_pos h3]; exact h.arm a.r a.p
  rw [if_neg h3, if_neg h3]
  exact ⟨h, rfl⟩
theorem Dsk.Few.act {d : Dsk} {m : Nat} (h : d.Few m) (ok : d.Ok) (a : ActD) : (stepD d a).1.Few (m + 1) := by
  unfold stepD
  by_cases h1 : a.k = 1
  · rw [if_pos h1]; exact h.write ok a.p _
  rw [if_neg h1]
  by_cases h2 : a.k = 2
  · rw [if_pos h2]; exact h.flush ok
  rw [if_neg h2]
  by_cases h3 : a.k = 3
  · rw [if_pos h3]; exact (h.arm a.r a.p).mono (Nat.le_succ _)
  rw [if_neg h3]
  exact h.mono (Nat.le_succ _)
def ActsPost (n₀ : Nat) (w : World) (B : Nat) (d : Dsk) (g : GD) (e : Ending) (w' : World) : Prop :=
  ∃ la lc wa wc, e = .returned (.tuple #[gv la lc wa wc g, .bool true]) ∧ IsG w'.heap.size w' la lc wa wc g ∧ IsDisk n₀ w' B d ∧ Keeps n₀ w w'
theorem does_act {n₀ : Nat} {w : World} {B : Nat} {d : Dsk} {la wa : Option Addr} {lc wc : Nat} {g : GD} (hD : IsDisk n₀ w B d) (hG : IsG w.heap.size w la lc wa wc g) (hA : Agree d g) (hfd : d.Few 1000000) (a : ActD) (ha : a.Ok) :
    Calls Try.prog 8 #[ptr B, gv la lc wa wc g, a.v] w fun e w' => ActsPost n₀ w B (stepD d a).1 (stepG g a).1 e w' := by
  have ok := hD.ok
  have hag := (hA.act ok (Nat.le_trans hfd.2 (by decide)) a).2
  have hf : g.waits.length ≤ 1000000 := by rw [hA.waits, List.length_map]; exact hfd.1
  have hfd2 := hfd.mono (show 1000000 ≤ 2147483648 by decide)
  have hpg : ∀ x ∈ g.waits, 0 ≤ x.1 ∧ x.1 < (g.lasts.length : Int) := by
    intro x hx
    rw [hA.waits] at hx
    obtain ⟨y, hy, rfl⟩ := List.mem_map.1 hx
    have := (ok.wait y hy).1
    rw [hA.lasts, List.length_map]
    have e1 : (wtStr y).1 = (y.1 : Int) := rfl
    have e2 : d.room = d.lasts.length := rfl
    omega
  have key : ∀ e w', DoesPost n₀ w B (stepD d a) (stepG g a) e w' → ActsPost n₀ w B (stepD d a).1 (stepG g a).1 e w' := by
    rintro e w' ⟨a1, a2, a3, a4, rfl, h1, h2, h3⟩
    exact ⟨a1, a2, a3, a4, by rw [hag]; simp, h1, h2, h3⟩
  unfold ActD.v
  by_cases h1 : a.k = 1
  · have e1 : stepD d a = d.write a.p (actL a.p a.x) := if_pos h1
    have e2 : stepG g a = g.write a.p (actL a.p a.x) := if_pos h1
    refine Calls.mono ?_ (fun e w' h => key e w' h)
    rw [e1, e2, h1]
    exact does_write hD hG hfd2 hf a.p a.x a.r
  by_cases h2 : a.k = 2
  · have e1 : stepD d a = d.flush := by unfold stepD; rw [if_neg h1, if_pos h2]
    have e2 : stepG g a = g.flush := by unfold stepG; rw [if_neg h1, if_pos h2]
    refine Calls.mono ?_ (fun e w' h => key e w' h)
    rw [e1, e2, h2]
    exact does_flush hD hG hfd2 hf hpg a.p a.x a.r
  by_cases h3 : a.k = 3
  · have e1 : stepD d a = d.arm a.r a.p := by unfold stepD; rw [if_neg h1, if_neg h2, if_pos h3]
    have e2 : stepG g a = g.arm a.r a.p := by unfold stepG; rw [if_neg h1, if_neg h2, if_pos h3]
    refine Calls.mono ?_ (fun e w' h => key e w' h)
    rw [e1, e2, h3]
    exact does_arm hD hG a.p a.x a.r ha.arm ha.page
  · have e1 : stepD d a = (d, 0) := by unfold stepD; rw [if_neg h1, if_neg h2, if_neg h3]
    have e2 : stepG g a = (g, 0) := by unfold stepG; rw [if_neg h1, if_neg h2, if_neg h3]
    refine Calls.mono ?_ (fun e w' h => key e w' h)
    rw [e1, e2]
    exact does_none hD hG a.k a.p a.x a.r h1 h2 h3
/-- From the slice's address on lie these calls. -/
structure ActAt (W : World) (b o : Nat) (a : ActD) : Prop where
  k : W.cell? ⟨b, o, none⟩ = some (.int .i64 a.k)
  p : W.cell? ⟨b, o + 1, none⟩ = some (.int .i64 a.p)
  x : W.cell? ⟨b, o + 2, none⟩ = some (.int .u8 (a.x.toNat : Int))
  r : W.cell? ⟨b, o + 3, none⟩ = some (.int .i64 a.r)
theorem ActAt.below {n₀ b o : Nat} {W W' : World} {a : ActD} (h : ActAt W b o a) (hb : Below n₀ W W') (hlt : b < n₀) : ActAt W' b o a :=
  ⟨(hb.cell (p := ⟨b, o, none⟩) hlt).trans h.k, (hb.cell (p := ⟨b, o + 1, none⟩) hlt).trans h.p, (hb.cell (p := ⟨b, o + 2, none⟩) hlt).trans h.x, (hb.cell (p := ⟨b, o + 3, none⟩) hlt).trans h.r⟩
def ActsAt (n₀ : Nat) (W : World) (a : Option Addr) (L : List ActD) : Prop := L ≠ [] → ∃ b off, a = some ⟨b, off, none⟩ ∧ b < n₀ ∧ ∀ j, j < L.length → ActAt W b (off + j * 4) (L.getD j default) ∧ (L.getD j default).Ok
section
variable {H : Type} {enc : TypeId × Value → H}
set_option maxRecDepth 100000 in
theorem open_acts {base : Nat} {W : World} {v : Value} {d : DataW H} {ps : List MemPlace} (hok : Value.okWide Try.prog W .any base 22 v) (h : DataW.Trod enc Try.prog W 0 (fun _ => true) true 22 v d ps) :
    ∃ a L cap, v = .slice a (L : List ActD).length cap ∧ L.length ≤ cap ∧ cap ≤ maxLen ∧ ActsAt W.heap.size W a L := by
  obtain ⟨a, len, cap, rfl, hl, hm, hr⟩ := open_fours Try.underlying22 Try.underlying39 rfl (by kernel_rfl) (by kernel_rfl) hok h
  rcases hr with rfl | ⟨b, off, rfl, hb, hc⟩
  · exact ⟨a, [], cap, rfl, by simp, hm, fun h => absurd rfl h⟩
  · have key : ∀ i, ∃ p : ActD, i < len → ActAt W b (off + i * 4) p ∧ p.Ok := fun i => by
      by_cases hi : i < len
      · obtain ⟨c0, c1, c2, c3, h0, h1, h2, h3, hf⟩ := hc i hi
        obtain ⟨n0, y0, t0⟩ := hf 0 _ c0 rfl rfl
        obtain ⟨n1, y1, t1⟩ := hf 1 _ c1 rfl rfl
        obtain ⟨n2, y2, t2⟩ := hf 2 _ c2 rfl rfl
        obtain ⟨n3, y3, t3⟩ := hf 3 _ c3 rfl rfl
        obtain ⟨z0, rfl, w0⟩ := trod_int_of Try.underlying3 t0
        obtain ⟨z1, rfl, w1⟩ := trod_int_of Try.underlying3 t1
        obtain ⟨z2, rfl, w2⟩ := trod_int_of Try.underlying5 t2
        obtain ⟨z3, rfl, w3⟩ := trod_int_of Try.underlying37 t3
        rw [addr_add] at h1 h2 h3
        have m1 : IntKind.u8.min = 0 := rfl
        have m2 : IntKind.u8.max = 255 := rfl
        have m3 : IntKind.i64.min = -9223372036854775808 := rfl
        have m4 : IntKind.i64.max = 9223372036854775807 := rfl
        have w3' := w3
        simp only [Lit.wf, decide_eq_true_eq, Bool.and_eq_true] at w1 w2
        have hz : (((UInt8.ofNat z2.toNat).toNat : Nat) : Int) = z2 := by
          rw [UInt8.toNat_ofNat']
          omega
        refine ⟨⟨z0, z1, UInt8.ofNat z2.toNat, z3⟩, fun _ => ⟨⟨h0, h1, by rw [hz]; exact h2, h3⟩, ⟨w3', ?_⟩⟩⟩
        show z1 ≤ _; omega
      · exact ⟨default, fun h => absurd h hi⟩
    obtain ⟨f, hf⟩ := Classical.axiomOfChoice key
    refine ⟨_, (List.range len).map f, cap, by simp, by simpa using hl, hm, fun _ => ⟨b, off, rfl, hb, fun j hj => ?_⟩⟩
    have hj' : j < len := by simpa using hj
    have e1 : ((List.range len).map f).getD j default = f j := by simp [List.getD, hj']
    rw [e1]
    exact hf j hj'
end
/-- What a crash leaves, as the document's disk. -/
def GD.crash (d : Dsk) (picks : List Int) : GD := ⟨(d.crash picks).lasts.map pgStr, [], 0, 0, false, 0⟩
theorem Agree.crash (d : Dsk) (picks : List Int) : Agree (d.crash picks) (GD.crash d picks) := ⟨rfl, rfl, rfl, fun h => absurd rfl h, rfl, rfl⟩
end Go.Proofs.Ytkophpipehdkmaa
/- Layer 2: the document's New, where there is no such room. -/
namespace Go.Proofs.Ytkophpipehdkmaa
open Go.RowKit

set_option maxRecDepth 100000 in
set_option maxHeartbeats 1000000 in
theorem gnew_no (n : Int) (h : n < 2 ∨ 4096 < n) (w : World) :
    Calls Try.prog 14 #[.int .i64 n] w fun e w' => e = .returned (.tuple #[rv none 0 0 none 0 0 0 0 false 0, .bool false]) ∧ Below w.heap.size w w' := by
  obtain ⟨W, hW⟩ : ∃ W, w.alloc (.cells #[.slice none 0 0, .slice none 0 0, .int .i64 0, .int .i64 0, .bool false, .int .i64 0] 34) = W := ⟨_, rfl⟩
  have hrow := heap_alloc_new w (.cells #[.slice none 0 0, .slice none 0 0, .int .i64 0, .int .i64 0, .bool false, .int .i64 0] 34)
  rw [hW] at hrow
  have hb : Below w.heap.size w W := hW ▸ (Below.refl _ _).alloc (Nat.le_refl _) _
  have c00 := cell_of_row W w.heap.size 0 _ _ _ hrow; have f00 := frozen_of_row W w.heap.size 0 _ _ hrow
  have c01 := cell_of_row W w.heap.size 1 _ _ _ hrow; have f01 := frozen_of_row W w.heap.size 1 _ _ hrow
  have c02 := cell_of_row W w.heap.size 2 _ _ _ hrow; have f02 := frozen_of_row W w.heap.size 2 _ _ hrow
  have c03 := cell_of_row W w.heap.size 3 _ _ _ hrow; have f03 := frozen_of_row W w.heap.size 3 _ _ hrow
  have c04 := cell_of_row W w.heap.size 4 _ _ _ hrow; have f04 := frozen_of_row W w.heap.size 4 _ _ hrow
  have c05 := cell_of_row W w.heap.size 5 _ _ _ hrow; have f05 := frozen_of_row W w.heap.size 5 _ _ hrow
  simp only [List.getElem?_toArray, List.getElem?_cons_zero, List.getElem?_cons_succ] at c00 c01 c02 c03 c04 c05
  have HX := Lib.hid (And.intro hrow hb)
  clear hrow hb
  have h2 : n < 2 ∨ (¬ n < 2 ∧ 4096 < n) := by omega
  rcases h2 with h1 | ⟨h1, h2⟩
  all_goals
    clear h
    go_enter Try.func14, Try.ntmps14
    go_wp2
    obtain ⟨hrow, hb⟩ := HX.out
    refine bodyPost_ret (results_ref rfl _ _ _ _ _ _ rfl (set6_heap _ _ _ _ _ _ hrow) Try.underlying34 (by kernel_rfl)) rfl ?_
    exact ⟨rfl, hb.grown (set6_grown W w.heap.size _ _ _ _ _ _) hb.size (fun k e => by cases e; exact Nat.le_refl _)⟩
end Go.Proofs.Ytkophpipehdkmaa
/- Layer 2: the document's New, where there is such a room. -/
namespace Go.Proofs.Ytkophpipehdkmaa
open Go.RowKit

def nought : ByteArray := ⟨noughts.toArray⟩
theorem snoc_str (w : World) (ty : TypeId) (base : Nat) (hb : base ≤ w.heap.size) (v : Value) (ls : List ByteArray) (s : ByteArray) (hO : OwnS w base v ls) (hf : ls.length ≤ 5000) (g c : Nat) (hx : w.cell? ⟨g, 0, none⟩ = some (.string s)) :
    ∃ v' w', (Builtin.append_ #[29, 29] ty #[v, .slice (some ⟨g, 0, none⟩) 1 c]).run Try.prog w = .ok v' w' ∧ OwnS w' base v' (ls ++ [s]) ∧ w.grownBy w' v.ownBlock ∧ Below base w w' := by
  obtain ⟨i0, hi, hz0, hz1, hz2⟩ := info_parts infoStr
  obtain ⟨v', w', hr, h2, h3, -, -⟩ := run_append_own_at (P := Try.prog) w base 29 ty 9 i0 _ 1 16 Try.underlying29 hi hz0 hz1 hz2 rfl (by decide) v ls.length (ls.map .string) hO ⟨g, 0, none⟩ 1 c [.string s] rfl (fun j u hu => by
    have hj : j = 0 := by have := (List.getElem?_eq_some_iff.1 hu).1; simp at this; omega
    subst hj
    rw [addr_add]; simp at hu; subst hu; exact hx) (by simp [Value.oneCell']) (by unfold maxLen; omega) (by omega) hb
  exact ⟨v', w', hr, by unfold OwnS; simpa using h2, h3, (Below.refl _ _).grown h3 hb (fun k e => (World.ownsRow.lt hO k e).1)⟩
/-- While the pages are made. -/
structure NwI (w wr : World) (Wn : Nat) (v : Value) (ls : List ByteArray) : Prop where
  row : OwnS wr Wn v ls
  one : wr.heap[w.heap.size]? = some (.cells #[.slice none 0 0, .slice none 0 0, .int .i64 0, .int .i64 0, .bool false, .int .i64 0] 34 (0, 0))
  two : wr.heap[w.heap.size + 1]? = some (.cells #[v, .slice none 0 0, .int .i64 0, .int .i64 0, .bool false, .int .i64 0] 34 (0, 0))
  bel : Below w.heap.size w wr
  far : w.heap.size + 1 < Wn
  le : Wn ≤ wr.heap.size
set_option maxRecDepth 100000 in
set_option maxHeartbeats 4000000 in
theorem gnew_yes (n : Nat) (h1 : 2 ≤ n) (h2 : n ≤ 4096) (w : World) :
    Calls Try.prog 14 #[.int .i64 n] w fun e w' => ∃ la lc, e = .returned (.tuple #[gv la lc none 0 ⟨List.replicate n nought, [], 0, 0, false, 0⟩, .bool true]) ∧ IsG w'.heap.size w' la lc none 0 ⟨List.replicate n nought, [], 0, 0, false, 0⟩ ∧ Below w.heap.size w w' := by
  obtain ⟨W1, hW1⟩ : ∃ W, (w.alloc (.cells #[.slice none 0 0, .slice none 0 0, .int .i64 0, .int .i64 0, .bool false, .int .i64 0] 34)).alloc (.cells #[.slice none 0 0, .slice none 0 0, .int .i64 0, .int .i64 0, .bool false, .int .i64 0] 34) = W := ⟨_, rfl⟩
  have hs1 : W1.heap.size = w.heap.size + 2 := by rw [← hW1]; simp
  have r0 : W1.heap[w.heap.size]? = some (.cells #[.slice none 0 0, .slice none 0 0, .int .i64 0, .int .i64 0, .bool false, .int .i64 0] 34 (0, 0)) := by
    rw [← hW1]; exact (Below.heap_alloc _ _ _ (by simp)).trans (heap_alloc_new w _)
  have r1 : W1.heap[w.heap.size + 1]? = some (.cells #[.slice none 0 0, .slice none 0 0, .int .i64 0, .int .i64 0, .bool false, .int .i64 0] 34 (0, 0)) := by
    rw [← hW1]; exact heap_alloc_new' w _ _
  have hb1 : Below w.heap.size w W1 := by rw [← hW1]; exact ((Below.refl _ w).alloc (Nat.le_refl _) _).alloc (by simp) _
  have HLe : Hid (2 ≤ n ∧ n ≤ 4096) := Lib.hid ⟨h1, h2⟩
  have g1 : ¬ (n : Int) < 2 := by omega
  have g2 : ¬ (4096 : Int) < n := by omega
  have c10 := cell_of_row W1 (w.heap.size + 1) 0 _ _ _ r1; have f10 := frozen_of_row W1 (w.heap.size + 1) 0 _ _ r1
  have c11 := cell_of_row W1 (w.heap.size + 1) 1 _ _ _ r1; have f11 := frozen_of_row W1 (w.heap.size + 1) 1 _ _ r1
  have c12 := cell_of_row W1 (w.heap.size + 1) 2 _ _ _ r1; have f12 := frozen_of_row W1 (w.heap.size + 1) 2 _ _ r1
  have c13 := cell_of_row W1 (w.heap.size + 1) 3 _ _ _ r1; have f13 := frozen_of_row W1 (w.heap.size + 1) 3 _ _ r1
  have c14 := cell_of_row W1 (w.heap.size + 1) 4 _ _ _ r1; have f14 := frozen_of_row W1 (w.heap.size + 1) 4 _ _ r1
  have c15 := cell_of_row W1 (w.heap.size + 1) 5 _ _ _ r1; have f15 := frozen_of_row W1 (w.heap.size + 1) 5 _ _ r1
  simp only [List.getElem?_toArray, List.getElem?_cons_zero, List.getElem?_cons_succ] at c10 c11 c12 c13 c14 c15
  have HX := Lib.hid (And.intro r0 (And.intro r1 (And.intro hb1 hs1)))
  clear h1 h2 r0 r1 hb1 hs1
  go_enter Try.func14, Try.ntmps14
  go_upto_region 4 with (fail)
  have hr1 := set6_heap (.slice none 0 0) (.slice none 0 0) (.int .i64 0) (.int .i64 0) (.bool false) (.int .i64 0) HX.out.2.1
  have hg := set6_grown W1 (w.heap.size + 1) (.slice none 0 0) (.slice none 0 0) (.int .i64 0) (.int .i64 0) (.bool false) (.int .i64 0)
  have hs1 := HX.out.2.2.2
  have hr0 := (hg.block w.heap.size (by omega) (by simp)).trans HX.out.1
  have hb := HX.out.2.2.1.grown hg HX.out.2.2.1.size (fun k e => by cases e; omega)
  have hs3 := hg.size
  clear hg c10 c11 c12 c13 c14 c15 f10 f11 f12 f13 f14 f15 hW1
  revert hr1 hr0 hb hs3
  generalize ((((((W1.setCell ⟨w.heap.size + 1, 0, none⟩ (.slice none 0 0)).setCell ⟨w.heap.size + 1, 1, none⟩ (.slice none 0 0)).setCell ⟨w.heap.size + 1, 2, none⟩ (.int .i64 0)).setCell ⟨w.heap.size + 1, 3, none⟩ (.int .i64 0)).setCell ⟨w.heap.size + 1, 4, none⟩ (.bool false)).setCell ⟨w.heap.size + 1, 5, none⟩ (.int .i64 0)) = W3
  intro hr1 hr0 hb hs3
  have hmk : (Instr.makeSlice 31 (.int .i64 256) (.int .i64 256)).run Try.prog W3 = .ok (.slice (some ⟨W3.heap.size, 0, none⟩) 256 256) (W3.alloc (.cells (byteVals noughts).toArray 5)) := make40 W3 256 (by omega)
  obtain ⟨W4, hW4⟩ : ∃ W4, W3.alloc (.cells (byteVals noughts).toArray 5) = W4 := ⟨_, rfl⟩
  have hb4 : Below W3.heap.size W3 W4 := by rw [← hW4]; exact (Below.refl _ _).alloc (Nat.le_refl _) _
  have hcv : (convert 31 9 (.slice (some ⟨W3.heap.size, 0, none⟩) 256 256)).run Try.prog W4 = .ok (.string nought) W4 := by
    have hq : BytesAt (W3.heap.size + 1) W4 (some ⟨W3.heap.size, 0, none⟩) noughts := fun _ => ⟨_, 0, rfl, by omega, fun j hj => by
      rw [Nat.zero_add, ← hW4, cell_of_row _ W3.heap.size j _ _ _ (heap_alloc_new W3 _)]
      simp [byteVals, hj]⟩
    have := conv_at W4 (some ⟨W3.heap.size, 0, none⟩) noughts 256 _ hq
    rwa [noughts_len] at this
  rw [hW4] at hmk
  have HI : Hid (NwI w W4 W4.heap.size (.slice none 0 0) []) := Lib.hid ⟨World.ownsRow_nil _ _ _ _, (hb4.block _ (by omega)).trans hr0, (hb4.block _ (by omega)).trans hr1, hb.trans (hb4.mono (by omega)), by have := hb4.size; omega, Nat.le_refl _⟩
  clear hr1 hr0 hb hs3 hb4 hW4 hs1 HX
  obtain ⟨z, hz⟩ : ∃ z, nought = z := ⟨_, rfl⟩
  have HZ := Lib.hid hz
  rw [hz] at hcv
  clear hz
  obtain ⟨Wn, hWn⟩ : ∃ Wn, W4.heap.size = Wn := ⟨_, rfl⟩
  rw [hWn] at HI
  clear hWn
  go_wp2
  go_loopw [6, 17, 18, 19, 20, 21, 22, 23, 24, 25, 26, 27] (fun i _ _ _ _ _ _ _ _ _ _ _ wr => ∃ (k : Nat) (v : Value), i = .int .i64 k ∧ k ≤ n ∧ Hid (NwI w wr Wn v (List.replicate k z)))
    (fun i _ _ _ _ _ _ _ _ _ _ _ _ => n - (intOf i).toNat)
  case atStart => exact ⟨0, _, rfl, Nat.zero_le _, HI⟩
  case round =>
    clear HI
    obtain ⟨k, v, rfl, hk, HI⟩ := hrel
    obtain ⟨va, vc, hv⟩ : ∃ va vc, v = .slice va k vc := by
      have := HI.out.row.2
      rcases this with ⟨rfl, e⟩ | ⟨gl, cap, cur, rfl, _⟩
      · exact ⟨none, 0, by simp at e; rw [e]⟩
      · exact ⟨some ⟨gl, 0, none⟩, cap, by simp⟩
    subst hv
    have c10 := cell_of_row wr (w.heap.size + 1) 0 _ _ _ HI.out.two; have f10 := frozen_of_row wr (w.heap.size + 1) 0 _ _ HI.out.two
    simp only [List.getElem?_toArray, List.getElem?_cons_zero] at c10
    by_cases hlt : k < n
    · have hn4 : n ≤ 4096 := HLe.out.2
      go_wp2_with (at_builtin; refine stop_here ?_)
      refine Lib.hid ?_
      have hbz : Below wr.heap.size wr (wr.alloc (.cells #[.string z] 9)) := (Below.refl _ _).alloc (Nat.le_refl _) _
      have hOz : OwnS (wr.alloc (.cells #[.string z] 9)) Wn (.slice va k vc) (List.replicate k z) := World.ownsRow.kept HI.out.row (row := none) ⟨hbz.os, hbz.tape, hbz.output, hbz.size, fun i hi _ => hbz.block i hi⟩ (by cases (Value.slice va k vc).ownBlock <;> simp)
      obtain ⟨v', w', hr, hO', hg', hB'⟩ := snoc_str (wr.alloc (.cells #[.string z] 9)) 29 Wn (Nat.le_trans HI.out.le hbz.size) _ _ z hOz (by simp; omega) wr.heap.size 1 (cell_of_row _ wr.heap.size 0 _ _ _ (heap_alloc_new wr _))
      have hfar := HI.out.far
      have hle := HI.out.le
      have hw1 : Below wr.heap.size wr (wr.alloc (.cells #[.string z] 9)) := hbz
      have htwo : w'.heap[w.heap.size + 1]? = _ := (hB'.block (w.heap.size + 1) hfar).trans ((hbz.block _ (by omega)).trans HI.out.two)
      have hone : w'.heap[w.heap.size]? = _ := (hB'.block w.heap.size (by omega)).trans ((hbz.block _ (by omega)).trans HI.out.one)
      have hrep : List.replicate k z ++ [z] = List.replicate (k + 1) z := by rw [List.replicate_succ']
      rw [hrep] at hO'
      obtain ⟨va', vc', hv'⟩ : ∃ va' vc', v' = .slice va' (k + 1) vc' := by
        rcases hO'.2 with ⟨-, e⟩ | ⟨gl, cap, cur, e, _⟩
        · simp at e
        · exact ⟨some ⟨gl, 0, none⟩, cap, by simpa using e⟩
      subst hv'
      have hn0 : w.heap.size ≤ wr.heap.size := HI.out.bel.size
      have hbel : Below w.heap.size w w' := (HI.out.bel.trans (hbz.mono hn0)).trans (hB'.mono (by omega))
      have hI' : NwI w (w'.setCell ⟨w.heap.size + 1, 0, none⟩ (.slice va' (k + 1) vc')) Wn (.slice va' (k + 1) vc') (List.replicate (k + 1) z) := by
        have hg := one_grown w' ⟨w.heap.size + 1, 0, none⟩ (.slice va' (k + 1) vc')
        refine ⟨World.ownsRow.kept hO' hg (.inr fun e => ?_), (hg.block w.heap.size (Array.getElem?_eq_some_iff.1 hone).1 (by simp)).trans hone, heap_setCell_same w' (w.heap.size + 1) 0 _ _ (.slice va' (k + 1) vc') htwo, hbel.grown hg hbel.size (fun q e => by cases e; exact Nat.le_succ _), hfar, Nat.le_trans (Nat.le_trans hle hbz.size) (Nat.le_trans hg'.size hg.size)⟩
        have := (World.ownsRow.lt hO' _ e).1
        exact absurd (Nat.lt_of_lt_of_le hfar this) (Nat.lt_irrefl _)
      have c11 := cell_of_row w' (w.heap.size + 1) 0 _ _ _ htwo; have f11 := frozen_of_row w' (w.heap.size + 1) 0 _ _ htwo
      simp only [List.getElem?_toArray, List.getElem?_cons_zero] at c11
      have HI' := Lib.hid hI'
      refine wpList_append_val rfl rfl rfl rfl hr ?_
      clear hr hO' hg' hB' hbz hOz htwo hone hrep hbel hI' hw1 c10 f10 hfar hle hn0
      go_wp2
      exact ⟨⟨k + 1, _, by go_num, by omega, HI'⟩, by simp [intOf]; omega⟩
    · obtain rfl : k = n := by omega
      have hone := HI.out.one
      have htwo := HI.out.two
      have c20 := cell_of_row wr w.heap.size 0 _ _ _ hone; have f20 := frozen_of_row wr w.heap.size 0 _ _ hone
      have c21 := cell_of_row wr w.heap.size 1 _ _ _ hone; have f21 := frozen_of_row wr w.heap.size 1 _ _ hone
      have c22 := cell_of_row wr w.heap.size 2 _ _ _ hone; have f22 := frozen_of_row wr w.heap.size 2 _ _ hone
      have c23 := cell_of_row wr w.heap.size 3 _ _ _ hone; have f23 := frozen_of_row wr w.heap.size 3 _ _ hone
      have c24 := cell_of_row wr w.heap.size 4 _ _ _ hone; have f24 := frozen_of_row wr w.heap.size 4 _ _ hone
      have c25 := cell_of_row wr w.heap.size 5 _ _ _ hone; have f25 := frozen_of_row wr w.heap.size 5 _ _ hone
      have c11 := cell_of_row wr (w.heap.size + 1) 1 _ _ _ htwo
      have c12 := cell_of_row wr (w.heap.size + 1) 2 _ _ _ htwo
      have c13 := cell_of_row wr (w.heap.size + 1) 3 _ _ _ htwo
      have c14 := cell_of_row wr (w.heap.size + 1) 4 _ _ _ htwo
      have c15 := cell_of_row wr (w.heap.size + 1) 5 _ _ _ htwo
      simp only [List.getElem?_toArray, List.getElem?_cons_zero, List.getElem?_cons_succ] at c20 c21 c22 c23 c24 c25 c11 c12 c13 c14 c15
      clear hone htwo
      have HB := Lib.hid HI
      go_wp2
      refine bodyPost_ret (results_ref rfl _ _ _ _ _ _ rfl (set6_heap _ _ _ _ _ _ HB.out.out.one) Try.underlying34 (by kernel_rfl)) rfl ?_
      have hg := set6_grown wr w.heap.size (.slice va k vc) (.slice none 0 0) (.int .i64 0) (.int .i64 0) (.bool false) (.int .i64 0)
      have hO := HI.out.row
      have hO2 : OwnS _ Wn (.slice va k vc) (List.replicate k z) := World.ownsRow.kept hO hg (.inr fun e => by
        have := (World.ownsRow.lt hO _ e).1
        have := HI.out.far
        omega)
      refine ⟨va, vc, ?_, ?_, HI.out.bel.grown hg HI.out.bel.size (fun q e => by cases e; exact Nat.le_refl _)⟩
      · unfold gv rv; simp
      · rw [HZ.out]
        have hk5 : k ≤ 4096 := HLe.out.2
        obtain ⟨hlen, h⟩ := hO2
        rcases h with ⟨e, h0⟩ | ⟨gl, cap, cur, e, hb, hh, hn, hcap, hsz, htk⟩
        · have := HLe.out.1
          simp at h0
          omega
        · injection e with e1 e2 e3
          subst e1
          subst e3
          refine ⟨fun _ => ⟨gl, 0, rfl, (Array.getElem?_eq_some_iff.1 hh).1, ⟨cur, (0, 0), hh⟩, fun j u hu => ?_⟩, fun h => absurd rfl h, by simpa using hn, Nat.le_refl _, fun _ => rfl, fun h => (by cases h), by simp; omega⟩
          rw [Nat.zero_add, cell_of_row _ gl j _ _ _ hh]
          have h1 : (cur.toList.take ((List.replicate k z).length * 1))[j]? = some u := by rw [htk]; exact hu
          have hj : j < k := by have := (List.getElem?_eq_some_iff.1 hu).1; simpa using this
          rw [List.getElem?_take, if_pos (by simp; omega), Array.getElem?_toList] at h1
          exact h1
end Go.Proofs.Ytkophpipehdkmaa
/- Operations of statements in no fixed order, beside RegOps: not wanted, any comparison; picks as 'and', 'or'. -/
namespace Go.Proofs.Ytkophpipehdkmaa
open Go.RowKit

section
variable {P : Program} {ops : Array Oper} {Q : Exit → Act → World → Prop} {i : Nat} {o : Oper} {a : Act} {w w' : World} {K : Act → World → Prop}
theorem wantedOff {oi : Oper} {b b' : Bool} {d : Tmp} {j : Nat} (hg : o.guard = some (j, b)) (ho : ops[j]? = some oi) (hd : oi.dst = some d) (hsz : d < a.tmps.size) (hv : a.eval (.tmp d) = .bool b') (hb : b' ≠ b) : Region.wanted o (yielded ops a.tmps) = false := by
  have h1 : a.tmps[d]? = some (.bool b') := by
    have : a.tmps.getD d undef = .bool b' := hv
    rw [Array.getD, dif_pos hsz] at this
    rw [Array.getElem?_eq_getElem hsz]; exact congrArg some this
  unfold Region.wanted
  rw [hg]
  simp [yielded, ho, hd, h1, hb]
theorem wpOp_off (ho : ops[i]? = some o) (hg : Region.wanted o (yielded ops a.tmps) = false) (hK : K (a.put o.dst undef) w) : wpOp P ops Q i K a w := by
  unfold wpOp
  simp only [ho]
  rw [if_neg (by rw [hg]; decide)]
  exact hK
/-- Two numbers held against each other. -/
theorem wpOp_bin {b : BinOp} {t u : TypeId} {x y : Operand} {vx vy v : Value} (ho : ops[i]? = some o) (hg : Region.wanted o (yielded ops a.tmps) = true) (hop : o.op = .binOp b t x y u) (hx : a.eval x = vx) (hy : a.eval y = vy)
    (heg : (eqGuard b t x y vx vy).run P w = .ok () w) (hrun : (binOp b t vx vy).run P w = .ok v w) (hK : K (a.put o.dst v) w) : wpOp P ops Q i K a w :=
  wpOp_val ho hg (by simp only [execOp, hop, hx, hy, heg, hrun, Sem.run_bind, Sem.run_pure, Result.andThen_ok]) hK
theorem wpOp_pick3 {c x y : Operand} {b : Bool} {v u : Value} (ho : ops[i]? = some o) (hg : Region.wanted o (yielded ops a.tmps) = true) (hop : o.op = .pick c x y) (hc : a.eval c = .bool b) (hx : b = true → a.eval x = v) (hy : b = false → a.eval y = u) (hK : K (a.put o.dst (if b then v else u)) w) : wpOp P ops Q i K a w := by
  cases b with
  | true => exact wpOp_val (v := v) (w' := w) ho hg (by simp [execOp, hop, hc, hx rfl, asBool]) hK
  | false => exact wpOp_val (v := u) (w' := w) ho hg (by simp [execOp, hop, hc, hy rfl, asBool]) hK
end
theorem pick_and (c d : Bool) : (if c then Value.bool d else .bool false) = .bool (c && d) := by cases c <;> rfl
theorem pick_or (c d : Bool) : (if c then Value.bool true else .bool d) = .bool (c || d) := by cases c <;> rfl
end Go.Proofs.Ytkophpipehdkmaa
/- Layer 2: slices.Clone over writes, and Copy of a disk. -/
namespace Go.Proofs.Ytkophpipehdkmaa
open Go.RowKit Go.Maps

theorem waitCells_one (ws : List (Nat × Page)) : ∀ u ∈ waitCells ws, u.oneCell' = true := by
  intro u hu
  obtain ⟨x, _, h⟩ := List.mem_flatMap.1 hu
  exact writeCells_one x.1 x.2 u h
theorem waitCells_len (ws : List (Nat × Page)) (h : ∀ x ∈ ws, x.2.length = 256) : (waitCells ws).length = ws.length * 257 := by
  induction ws with
  | nil => rfl
  | cons x ws ih =>
    rw [show waitCells (x :: ws) = writeCells x.1 x.2 ++ waitCells ws from rfl, List.length_append, ih (fun y hy => h y (by simp [hy])), writeCells_len, h x (by simp), List.length_cons]; omega
set_option maxRecDepth 100000 in
set_option maxHeartbeats 2000000 in
theorem wclone_any {n₀ : Nat} {w : World} {v : Value} {ws : List (Nat × Page)} (h : w.ownsRow n₀ 84 257 v ws.length (waitCells ws)) (hw : ws.length ≤ 2147483648) :
    Calls Try.prog 34 #[v] w fun e w' => ∃ v', e = .returned v' ∧ w'.ownsRow w.heap.size 84 257 v' ws.length (waitCells ws) ∧ Below w.heap.size w w' := by
  obtain ⟨i0, hi, hz0, hz1, hz2⟩ := info_parts info90
  rcases h.2 with ⟨rfl, e⟩ | ⟨g, cap, cur, rfl, hb, hh, hn, hc, hs, ht⟩
  · obtain rfl : ws = [] := List.eq_nil_of_length_eq_zero e
    have he : ∀ w : World, (binOp .eql 70 (.slice none 0 0) (.slice none 0 0)).run Try.prog w = .ok (.bool true) w := fun _ => rfl
    clear h e
    go_enter Try.func34, Try.ntmps34
    go_wp2
    go_ret
    exact ⟨_, rfl, World.ownsRow_nil _ _ _ _, Below.refl _ _⟩
  · have hcl : ∀ j u, (waitCells ws)[j]? = some u → w.cell? ((⟨g, 0, none⟩ : Addr).add j) = some u := h.cells (g := g) rfl
    have hlen : (waitCells ws).length = ws.length * 257 := h.1
    obtain ⟨W1, hW1⟩ : ∃ W1, w.alloc (.cells #[] 84) = W1 := ⟨_, rfl⟩
    have hg := lt_of_heap hh
    have h1 : W1.ownsRow w.heap.size 84 257 (.slice (some ⟨w.heap.size, 0, none⟩) 0 0) 0 [] := by
      subst hW1
      exact ⟨rfl, .inr ⟨w.heap.size, 0, #[], rfl, Nat.le_refl _, heap_alloc_last w _, Nat.le_refl _, Nat.zero_le _, rfl, rfl⟩⟩
    have hb1 : Below w.heap.size w W1 := by subst hW1; exact (Below.refl _ w).alloc (Nat.le_refl _) _
    have hnews : ∀ j u, (waitCells ws)[j]? = some u → W1.cell? ((⟨g, 0, none⟩ : Addr).add j) = some u := fun j u hu => by
      rw [addr_add]
      have := hcl j u hu
      rw [addr_add] at this
      exact (hb1.cell (p := ⟨g, 0 + j, none⟩) hg).trans this
    obtain ⟨v', w', hr, h2, h3, h4, -⟩ := run_append_own_at (P := Try.prog) W1 w.heap.size 70 70 84 i0 _ 257 264 Try.underlying70 hi hz0 hz1 hz2 (by rw [writeV_cells, List.size_toArray, writeCells_len, noughts_len]) (by decide) (.slice (some ⟨w.heap.size, 0, none⟩) 0 0) 0 [] h1 ⟨g, 0, none⟩ ws.length cap (waitCells ws) hlen hnews (waitCells_one ws) (by unfold maxLen; omega) (by omega) hb1.size
    have hbw : Below w.heap.size w w' := hb1.grown h3 hb1.size (fun k e => by cases e; exact Nat.le_refl _)
    have HX := Lib.hid (And.intro h2 hbw)
    have he : ∀ w : World, (binOp .eql 70 (.slice (some ⟨g, 0, none⟩) ws.length cap) (.slice none 0 0)).run Try.prog w = .ok (.bool false) w := fun _ => rfl
    clear h2 h3 h4 hbw hnews h1 hcl hlen ht hs hc hn hz0 hz1 hz2 hi h
    go_enter Try.func34, Try.ntmps34
    subst hW1
    go_wp2_with (at_builtin; refine wpList_append_val rfl rfl rfl rfl hr ?_)
    go_ret
    exact ⟨_, rfl, by simpa using HX.out.1, HX.out.2⟩

def CopyD (w : World) (d : Dsk) (e : Ending) (w' : World) : Prop := e = .returned (ptr w.heap.size) ∧ IsDisk w.heap.size w' w.heap.size d ∧ Below w.heap.size w w'
theorem store_mapv {P : Program} {T : TypeId} {w : World} {a : Addr} {u : Value} {p : Option Nat} (hz : (sizeOf T).run P w = .ok 1 w) (h : w.cell? a = some u) (hf : w.frozen? a = false) : (Instr.storeAt T (.pointer (some a)) (.map p)).run P w = .ok () (w.setCell a (.map p)) := by
  simp [Instr.storeAt, Instr.sureAddr, storeVar, storeCells, hz, go_sem, Result.andThen, h, hf]
structure CpI (w : World) (C : Nat) (d : Dsk) (fl : Nat → Option Page) (l : Array Bool) (w' : World) : Prop where
  below : Below C w w'
  row : ∃ x5 x6 x7, w'.heap[C]? = some (.cells #[.int .i64 d.kind, .int .i64 d.left, .bool d.dead, .int .i64 d.room, .int .i64 d.steps, x5, x6, x7] 72 (0, 0)) ∧ (l.getD 16 false = true → x5 = .map (some (C + 1))) ∧ (l.getD 18 false = true → x6 = .map (some (C + 2))) ∧ (l.getD 20 false = true → w'.ownsRow (C + 1) 84 257 x7 d.waits.length (waitCells d.waits))
  s0 : l.getD 4 false = false → w'.heap.size = C + 1
  s1 : l.getD 4 false = true → l.getD 9 false = false → w'.heap.size = C + 2
  s2 : l.getD 9 false = true → C + 3 ≤ w'.heap.size
  m1 : l.getD 4 false = true → IntMap Try.prog 3 w' (C + 1) (pagesV fl)
  m2 : l.getD 9 false = true → IntMap Try.prog 3 w' (C + 2) (pagesV (newest d.waits))
def CpSp (B C bl bn n : Nat) (v : Value) (ws : List (Nat × Page)) : Nat → Value → World → Prop
  | 2, u, _ => u = .pointer (some ⟨B, 5, none⟩)
  | 3, u, _ => u = .map (some bl)
  | 4, u, _ => u = .map (some (C + 1))
  | 7, u, _ => u = .pointer (some ⟨B, 6, none⟩)
  | 8, u, _ => u = .map (some bn)
  | 9, u, _ => u = .map (some (C + 2))
  | 12, u, _ => u = .pointer (some ⟨B, 7, none⟩)
  | 13, u, _ => u = v
  | 14, u, w => (∃ a c, u = .slice a n c) ∧ w.ownsRow (C + 1) 84 257 u n (waitCells ws)
  | 15, u, _ => u = .pointer (some ⟨C, 5, none⟩)
  | 17, u, _ => u = .pointer (some ⟨C, 6, none⟩)
  | 19, u, _ => u = .pointer (some ⟨C, 7, none⟩)
  | _, u, _ => u = ptr B
theorem CpI.still {w : World} {C : Nat} {d : Dsk} {fl : Nat → Option Page} {l : Array Bool} {w' : World} (h : CpI w C d fl l w') {i : Nat} (h4 : i ≠ 4) (h9 : i ≠ 9) (h16 : i ≠ 16) (h18 : i ≠ 18) (h20 : i ≠ 20) : CpI w C d fl (l.setIfInBounds i true) w' := by
  obtain ⟨a, ⟨x5, x6, x7, r⟩, b, c, e, f, g⟩ := h
  refine ⟨a, ⟨x5, x6, x7, ?_⟩, ?_, ?_, ?_, ?_, ?_⟩
  · rw [listed_other h16.symm, listed_other h18.symm, listed_other h20.symm]; exact r
  all_goals simp only [listed_other h4.symm, listed_other h9.symm]; assumption
theorem row_base {w : World} {a b : Nat} {e : TypeId} {s n : Nat} {v : Value} {xs : List Value} (h : w.ownsRow a e s v n xs) (hb : b ≤ a) : w.ownsRow b e s v n xs := by
  refine ⟨h.1, ?_⟩
  rcases h.2 with h | ⟨g, cap, cur, e1, e2, r⟩
  · exact .inl h
  · exact .inr ⟨g, cap, cur, e1, Nat.le_trans hb e2, r⟩
theorem CpSp.kept {B C bl bn n : Nat} {v : Value} {ws : List (Nat × Page)} {w w' : World} (hb : ∀ k, k < w.heap.size → k ≠ C → w'.heap[k]? = w.heap[k]?) (j : Nat) (u : Value) (h : CpSp B C bl bn n v ws j u w) : CpSp B C bl bn n v ws j u w' := by
  by_cases e : j = 14
  · subst e
    refine ⟨h.1, row_at h.2 fun g hg => hb g (h.2.lt g hg).2 ?_⟩
    have := (h.2.lt g hg).1
    omega
  · have hx : ∀ w1, CpSp B C bl bn n v ws j u w1 = CpSp B C bl bn n v ws j u w := by
      intro w1
      unfold CpSp
      split <;> first | rfl | exact absurd rfl e
    rw [hx w']; exact h
theorem CpI.stored {w : World} {z : Value} {C : Nat} {d : Dsk} {fl : Nat → Option Page} {l : Array Bool} {w' : World} {x5 x6 x7 y5 y6 y7 : Value} (h : CpI w C d fl l w') (i : Nat) (l' : Array Bool) (hr : w'.heap[C]? = some (.cells #[.int .i64 d.kind, .int .i64 d.left, .bool d.dead, .int .i64 d.room, .int .i64 d.steps, x5, x6, x7] 72 (0, 0)))
    (hy : (#[.int .i64 d.kind, .int .i64 d.left, .bool d.dead, .int .i64 d.room, .int .i64 d.steps, x5, x6, x7] : Array Value).setIfInBounds i z = #[.int .i64 d.kind, .int .i64 d.left, .bool d.dead, .int .i64 d.room, .int .i64 d.steps, y5, y6, y7])
    (e4 : l'.getD 4 false = l.getD 4 false) (e9 : l'.getD 9 false = l.getD 9 false) (f5 : l'.getD 16 false = true → y5 = .map (some (C + 1))) (f6 : l'.getD 18 false = true → y6 = .map (some (C + 2))) (f7 : l'.getD 20 false = true → (w'.setCell ⟨C, i, none⟩ z).ownsRow (C + 1) 84 257 y7 d.waits.length (waitCells d.waits)) :
    CpI w C d fl l' (w'.setCell ⟨C, i, none⟩ z) := by
  have hg := grownBy_cell w' ⟨C, i, none⟩ z
  have hs : (w'.setCell ⟨C, i, none⟩ z).heap.size = w'.heap.size := by simp [World.setCell]
  refine ⟨h.below.setCell (Nat.le_refl _) z, ⟨y5, y6, y7, ?_, f5, f6, f7⟩, ?_, ?_, ?_, ?_, ?_⟩
  · rw [heap_setCell_same w' C i _ _ _ hr, hy]
  · rw [e4, hs]; exact h.s0
  · rw [e4, e9, hs]; exact h.s1
  · rw [e9, hs]; exact h.s2
  · rw [e4]; exact fun q => (h.m1 q).kept hg (fun e => by have q2 : C + 1 = C := Option.some.inj e; omega)
  · rw [e9]; exact fun q => (h.m2 q).kept hg (fun e => by have q2 : C + 2 = C := Option.some.inj e; omega)
set_option maxRecDepth 100000 in
set_option maxHeartbeats 4000000 in
theorem copy_disk {n₀ : Nat} {w : World} {B : Nat} {d : Dsk} (h : IsDisk n₀ w B d) (hf : d.Few 2147483648) :
    Calls Try.prog 15 #[ptr B] w fun e w' => CopyD w d e w' := by
  have ht := there_disk h
  obtain ⟨bl, bn, v, fl, h⟩ := h
  obtain ⟨av, vc, rfl⟩ : ∃ a cap, v = .slice a d.waits.length cap := by
    rcases h.row.2 with ⟨rfl, e⟩ | ⟨g, cap, cur, rfl, _⟩
    · exact ⟨none, 0, by rw [e]⟩
    · exact ⟨_, _, rfl⟩
  obtain ⟨C, hC⟩ : ∃ C, w.heap.size = C := ⟨_, rfl⟩
  unfold CopyD
  rw [hC]
  have d0 : w.cell? ⟨B, 0, none⟩ = some (.int .i64 d.kind) := h.cell 0
  have d1 : w.cell? ⟨B, 1, none⟩ = some (.int .i64 d.left) := h.cell 1
  have d2 : w.cell? ⟨B, 2, none⟩ = some (.bool d.dead) := h.cell 2
  have d3 : w.cell? ⟨B, 3, none⟩ = some (.int .i64 d.room) := h.cell 3
  have d4 : w.cell? ⟨B, 4, none⟩ = some (.int .i64 d.steps) := h.cell 4
  have d5 : w.cell? ⟨B, 5, none⟩ = some (.map (some bl)) := h.cell 5
  have d6 : w.cell? ⟨B, 6, none⟩ = some (.map (some bn)) := h.cell 6
  have d7 : w.cell? ⟨B, 7, none⟩ = some (.slice av d.waits.length vc) := h.cell 7
  have HH := Lib.hid (And.intro h (And.intro hf hC))
  clear h hf
  go_enter Try.func15, Try.ntmps15
  clear hC
  go_wp2_with (go_at_call 26; refine ht.mono ?_; rintro e w' ⟨rfl, rfl⟩)
  rw [HH.out.2.2]
  obtain ⟨W1, hW1⟩ : ∃ W1, w.alloc (.cells (dskCells d bl bn (.slice av d.waits.length vc)) 72) = W1 := ⟨_, rfl⟩
  have hW1' := hW1
  unfold dskCells at hW1'
  rw [hW1']
  clear hW1'
  have h := HH.out.1
  have hf := HH.out.2.1
  have hC := HH.out.2.2
  have hr1 : W1.heap[C]? = some (.cells (dskCells d bl bn (.slice av d.waits.length vc)) 72 (0, 0)) := by rw [← hW1, ← hC]; exact heap_alloc_last w _
  have hb1 : Below C w W1 := by rw [← hW1, ← hC]; exact (Below.refl _ w).alloc (Nat.le_refl _) _
  have hs1 : W1.heap.size = C + 1 := by rw [← hW1]; simp [hC]
  have hDw : ∀ w', Below C w w' → DskAt n₀ w' B d bl bn (.slice av d.waits.length vc) fl := fun w' hb => h.below (by rw [hC]; exact hb)
  have hsz : ∀ w', Below C w w' → C ≤ w'.heap.size := fun w' hb => by rw [← hC]; exact hb.size
  clear hW1 d0 d1 d2 d3 d4 d5 d6 d7 ht HH
  refine wp_region_l (CpI w C d fl) (CpSp B C bl bn d.waits.length (.slice av d.waits.length vc) d.waits) (by kernel_rfl) (by kernel_rfl) (by kernel_rfl) (by kernel_rfl) ⟨⟨hb1.os, hb1.tape, hb1.output, hb1.size, hb1.block⟩, ⟨_, _, _, hr1, (fun e => by cases e), (fun e => by cases e), (fun e => by cases e)⟩, fun _ => hs1, (fun e => by cases e), (fun e => by cases e), (fun e => by cases e), (fun e => by cases e)⟩ ?step ?fin
  case step =>
    intro i o ho l a w' hI hn hpre
    have hi : i < 21 := (Array.getElem?_eq_some_iff.1 ho).1
    have hsize : l.size = 21 := hI.size
    match i, hi with
    | 0, _ =>
      cases ho
      exact wpOp_move rfl rfl (.inl rfl) (hI.kept (t := 0) (by kernel_rfl)) ⟨_, rfl, hI.inv.still (by decide) (by decide) (by decide) (by decide) (by decide), fun _ => rfl, fun _ _ _ h => h⟩
    | 1, _ =>
      cases ho
      exact wpOp_nilCheck rfl rfl rfl (hI.slot 0 10 rfl (hpre ⟨0, .data⟩ (by simp) rfl) rfl) ⟨_, rfl, hI.inv.still (by decide) (by decide) (by decide) (by decide) (by decide), fun _ => rfl, fun _ _ _ h => h⟩
    | 2, _ =>
      cases ho
      exact wpOp_field rfl rfl rfl (hI.slot 1 11 rfl (hpre ⟨1, .data⟩ (by simp) rfl) rfl) (field58_3 B w') ⟨_, rfl, hI.inv.still (by decide) (by decide) (by decide) (by decide) (by decide), fun _ => rfl, fun _ _ _ h => h⟩
    | 3, _ =>
      cases ho
      exact wpOp_load rfl rfl rfl (hI.slot 2 12 rfl (hpre ⟨2, .data⟩ (by simp) rfl) rfl) (load_cell (Try.isAgg59 _) ((hDw w' hI.inv.below).cell 5)) ⟨_, rfl, hI.inv.still (by decide) (by decide) (by decide) (by decide) (by decide), fun _ => rfl, fun _ _ _ h => h⟩
    | 4, _ =>
      cases ho
      have h9 := hI.notyet hn 9 (by kernel_rfl)
      have e13 : a.eval (.tmp 13) = .map (some bl) := (hI.slot 3 13 rfl (hpre ⟨3, .data⟩ (by simp) rfl) rfl)
      refine wpOp_callFn rfl rfl rfl (vs := #[.map (some bl)]) (by simp only [List.map_toArray, List.map_cons, List.map_nil, e13]) (fun _ _ => by kernel_rfl) ((clone_any (hDw w' hI.inv.below).last).mono ?_)
      rintro e w'' ⟨rfl, hm, hb, hs⟩
      have e1 := hI.inv.s0 hn
      rw [e1] at hm hs
      obtain ⟨x5, x6, x7, hr, r5, r6, r7⟩ := hI.inv.row
      have g16 := hI.notyet hn 16 (by kernel_rfl)
      have g18 := hI.notyet hn 18 (by kernel_rfl)
      have g20 := hI.notyet hn 20 (by kernel_rfl)
      refine ⟨_, rfl, _, rfl, ⟨hI.inv.below.trans (hb.mono (by omega)), ⟨x5, x6, x7, (hb.block C (by omega)).trans hr, ?_, ?_, ?_⟩, ?_, ?_, ?_, ?_, ?_⟩, fun _ => (by show _ = Value.map (some (C + 1)); rw [e1]), fun j u _ hu => CpSp.kept (fun k hk _ => hb.block k hk) j u hu⟩
      · rw [listed_other (by decide), g16]; intro q; cases q
      · rw [listed_other (by decide), g18]; intro q; cases q
      · rw [listed_other (by decide), g20]; intro q; cases q
      · rw [listed_same (by rw [hsize]; decide)]; intro q; cases q
      · intro _ _; exact hs
      · rw [listed_other (by decide), h9]; intro q; cases q
      · intro _; exact hm
      · rw [listed_other (by decide), h9]; intro q; cases q
    | 5, _ =>
      cases ho
      exact wpOp_move rfl rfl (.inl rfl) (hI.kept (t := 0) (by kernel_rfl)) ⟨_, rfl, hI.inv.still (by decide) (by decide) (by decide) (by decide) (by decide), fun _ => rfl, fun _ _ _ h => h⟩
    | 6, _ =>
      cases ho
      exact wpOp_nilCheck rfl rfl rfl (hI.slot 5 15 rfl (hpre ⟨5, .data⟩ (by simp) rfl) rfl) ⟨_, rfl, hI.inv.still (by decide) (by decide) (by decide) (by decide) (by decide), fun _ => rfl, fun _ _ _ h => h⟩
    | 7, _ =>
      cases ho
      exact wpOp_field rfl rfl rfl (hI.slot 6 16 rfl (hpre ⟨6, .data⟩ (by simp) rfl) rfl) (field58_4 B w') ⟨_, rfl, hI.inv.still (by decide) (by decide) (by decide) (by decide) (by decide), fun _ => rfl, fun _ _ _ h => h⟩
    | 8, _ =>
      cases ho
      exact wpOp_load rfl rfl rfl (hI.slot 7 17 rfl (hpre ⟨7, .data⟩ (by simp) rfl) rfl) (load_cell (Try.isAgg59 _) ((hDw w' hI.inv.below).cell 6)) ⟨_, rfl, hI.inv.still (by decide) (by decide) (by decide) (by decide) (by decide), fun _ => rfl, fun _ _ _ h => h⟩
    | 9, _ =>
      cases ho
      have h4 : l.getD 4 false = true := hpre ⟨4, .chain⟩ (by simp) rfl
      have e18 : a.eval (.tmp 18) = .map (some bn) := (hI.slot 8 18 rfl (hpre ⟨8, .data⟩ (by simp) rfl) rfl)
      refine wpOp_callFn rfl rfl rfl (vs := #[.map (some bn)]) (by simp only [List.map_toArray, List.map_cons, List.map_nil, e18]) (fun _ _ => by kernel_rfl) ((clone_any (hDw w' hI.inv.below).news).mono ?_)
      rintro e w'' ⟨rfl, hm, hb, hs⟩
      have e1 := hI.inv.s1 h4 hn
      rw [e1] at hm hs
      obtain ⟨x5, x6, x7, hr, r5, r6, r7⟩ := hI.inv.row
      have g16 := hI.notyet hn 16 (by kernel_rfl)
      have g18 := hI.notyet hn 18 (by kernel_rfl)
      have g20 := hI.notyet hn 20 (by kernel_rfl)
      refine ⟨_, rfl, _, rfl, ⟨hI.inv.below.trans (hb.mono (by omega)), ⟨x5, x6, x7, (hb.block C (by omega)).trans hr, ?_, ?_, ?_⟩, ?_, ?_, ?_, ?_, ?_⟩, fun _ => (by show _ = Value.map (some (C + 2)); rw [e1]), fun j u _ hu => CpSp.kept (fun k hk _ => hb.block k hk) j u hu⟩
      · rw [listed_other (by decide), g16]; intro q; cases q
      · rw [listed_other (by decide), g18]; intro q; cases q
      · rw [listed_other (by decide), g20]; intro q; cases q
      · rw [listed_other (by decide), h4]; intro q; cases q
      · rw [listed_same (by rw [hsize]; decide)]; intro _ q; cases q
      · intro _; omega
      · intro _; exact (hI.inv.m1 h4).below hb (by omega)
      · intro _; exact hm
    | 10, _ =>
      cases ho
      exact wpOp_move rfl rfl (.inl rfl) (hI.kept (t := 0) (by kernel_rfl)) ⟨_, rfl, hI.inv.still (by decide) (by decide) (by decide) (by decide) (by decide), fun _ => rfl, fun _ _ _ h => h⟩
    | 11, _ =>
      cases ho
      exact wpOp_nilCheck rfl rfl rfl (hI.slot 10 20 rfl (hpre ⟨10, .data⟩ (by simp) rfl) rfl) ⟨_, rfl, hI.inv.still (by decide) (by decide) (by decide) (by decide) (by decide), fun _ => rfl, fun _ _ _ h => h⟩
    | 12, _ =>
      cases ho
      exact wpOp_field rfl rfl rfl (hI.slot 11 21 rfl (hpre ⟨11, .data⟩ (by simp) rfl) rfl) (field58_5 B w') ⟨_, rfl, hI.inv.still (by decide) (by decide) (by decide) (by decide) (by decide), fun _ => rfl, fun _ _ _ h => h⟩
    | 13, _ =>
      cases ho
      exact wpOp_load rfl rfl rfl (hI.slot 12 22 rfl (hpre ⟨12, .data⟩ (by simp) rfl) rfl) (load_cell (Try.isAgg70 _) ((hDw w' hI.inv.below).cell 7)) ⟨_, rfl, hI.inv.still (by decide) (by decide) (by decide) (by decide) (by decide), fun _ => rfl, fun _ _ _ h => h⟩
    | 14, _ =>
      cases ho
      have h9 : l.getD 9 false = true := hpre ⟨9, .chain⟩ (by simp) rfl
      have e23 : a.eval (.tmp 23) = .slice av d.waits.length vc := (hI.slot 13 23 rfl (hpre ⟨13, .data⟩ (by simp) rfl) rfl)
      refine wpOp_callFn rfl rfl rfl (vs := #[.slice av d.waits.length vc]) (by simp only [List.map_toArray, List.map_cons, List.map_nil, e23]) (fun _ _ => by kernel_rfl) ((wclone_any (hDw w' hI.inv.below).row hf.1).mono ?_)
      rintro e w'' ⟨v4, rfl, hr4, hb⟩
      have e1 := hI.inv.s2 h9
      obtain ⟨x5, x6, x7, hr, r5, r6, r7⟩ := hI.inv.row
      have g16 := hI.notyet hn 16 (by kernel_rfl)
      have g18 := hI.notyet hn 18 (by kernel_rfl)
      have g20 := hI.notyet hn 20 (by kernel_rfl)
      have hv4 : ∃ a c, v4 = .slice a d.waits.length c := by
        rcases hr4.2 with ⟨rfl, e⟩ | ⟨g, cap, cur, rfl, _⟩
        · exact ⟨none, 0, by rw [e]⟩
        · exact ⟨_, _, rfl⟩
      refine ⟨_, rfl, _, rfl, CpI.still ⟨hI.inv.below.trans (hb.mono (by omega)), ⟨x5, x6, x7, (hb.block C (by omega)).trans hr, r5, r6, ?_⟩, ?_, ?_, ?_, ?_, ?_⟩ (by decide) (by decide) (by decide) (by decide) (by decide), fun _ => ⟨hv4, row_base hr4 (by omega)⟩, fun j u _ hu => CpSp.kept (fun k hk _ => hb.block k hk) j u hu⟩
      · rw [g20]; intro q; cases q
      · intro q; have h4 : l.getD 4 false = true := hI.closed 9 _ rfl h9 ⟨4, .chain⟩ (by simp) rfl; rw [h4] at q; cases q
      · rw [h9]; intro _ q; cases q
      · intro _; have := hb.size; omega
      · intro q; exact (hI.inv.m1 q).below hb (by omega)
      · intro q; exact (hI.inv.m2 q).below hb (by omega)
    | 15, _ =>
      cases ho
      exact wpOp_field rfl rfl rfl (hI.kept (t := 3) (by kernel_rfl)) (field58_3 C w') ⟨_, rfl, hI.inv.still (by decide) (by decide) (by decide) (by decide) (by decide), fun _ => rfl, fun _ _ _ h => h⟩
    | 16, _ =>
      cases ho
      obtain ⟨x5, x6, x7, hr, r5, r6, r7⟩ := hI.inv.row
      have hx : a.eval (.tmp 25) = .pointer (some ⟨C, 5, none⟩) := (hI.slot 15 25 rfl (hpre ⟨15, .data⟩ (by simp) rfl) rfl)
      have hy : a.eval (.tmp 14) = .map (some (C + 1)) := (hI.slot 4 14 rfl (hpre ⟨4, .data⟩ (by simp) rfl) rfl)
      have hcell := cell_of_row w' C 5 _ _ _ hr
      have hfr := frozen_of_row w' C 5 _ _ hr
      have hrun : (Instr.storeAt 59 (.pointer (some ⟨C, 5, none⟩)) (.map (some (C + 1)))).run Try.prog w' = .ok () (w'.setCell ⟨C, 5, none⟩ (.map (some (C + 1)))) := store_mapv (by kernel_rfl) hcell hfr
      refine wpOp_store rfl rfl rfl hx hy hrun ⟨_, rfl, hI.inv.stored 5 _ hr rfl (listed_other (by decide)) (listed_other (by decide)) ?_ ?_ ?_, (fun q => by cases q), fun j u _ hu => CpSp.kept (fun k _ hk => (grownBy_cell w' ⟨C, 5, none⟩ _).block k (by assumption) (fun e => hk (Option.some.inj e))) j u hu⟩
      · intro _; rfl
      · rw [listed_other (by decide)]; exact r6
      · rw [listed_other (by decide), hI.notyet hn 20 (by kernel_rfl)]; intro q; cases q
    | 17, _ =>
      cases ho
      exact wpOp_field rfl rfl rfl (hI.kept (t := 3) (by kernel_rfl)) (field58_4 C w') ⟨_, rfl, hI.inv.still (by decide) (by decide) (by decide) (by decide) (by decide), fun _ => rfl, fun _ _ _ h => h⟩
    | 18, _ =>
      cases ho
      obtain ⟨x5, x6, x7, hr, r5, r6, r7⟩ := hI.inv.row
      have hx : a.eval (.tmp 26) = .pointer (some ⟨C, 6, none⟩) := (hI.slot 17 26 rfl (hpre ⟨17, .data⟩ (by simp) rfl) rfl)
      have hy : a.eval (.tmp 19) = .map (some (C + 2)) := (hI.slot 9 19 rfl (hpre ⟨9, .data⟩ (by simp) rfl) rfl)
      have hcell := cell_of_row w' C 6 _ _ _ hr
      have hfr := frozen_of_row w' C 6 _ _ hr
      have hrun : (Instr.storeAt 59 (.pointer (some ⟨C, 6, none⟩)) (.map (some (C + 2)))).run Try.prog w' = .ok () (w'.setCell ⟨C, 6, none⟩ (.map (some (C + 2)))) := store_mapv (by kernel_rfl) hcell hfr
      refine wpOp_store rfl rfl rfl hx hy hrun ⟨_, rfl, hI.inv.stored 6 _ hr rfl (listed_other (by decide)) (listed_other (by decide)) ?_ ?_ ?_, (fun q => by cases q), fun j u _ hu => CpSp.kept (fun k _ hk => (grownBy_cell w' ⟨C, 6, none⟩ _).block k (by assumption) (fun e => hk (Option.some.inj e))) j u hu⟩
      · rw [listed_other (by decide)]; exact r5
      · intro _; rfl
      · rw [listed_other (by decide), hI.notyet hn 20 (by kernel_rfl)]; intro q; cases q
    | 19, _ =>
      cases ho
      exact wpOp_field rfl rfl rfl (hI.kept (t := 3) (by kernel_rfl)) (field58_5 C w') ⟨_, rfl, hI.inv.still (by decide) (by decide) (by decide) (by decide) (by decide), fun _ => rfl, fun _ _ _ h => h⟩
    | 20, _ =>
      cases ho
      obtain ⟨x5, x6, x7, hr, r5, r6, r7⟩ := hI.inv.row
      have hx : a.eval (.tmp 27) = .pointer (some ⟨C, 7, none⟩) := (hI.slot 19 27 rfl (hpre ⟨19, .data⟩ (by simp) rfl) rfl)
      have hY : CpSp B C bl bn d.waits.length (.slice av d.waits.length vc) d.waits 14 (a.eval (.tmp 24)) w' := (hI.slot 14 24 rfl (hpre ⟨14, .data⟩ (by simp) rfl) rfl)
      obtain ⟨a4, c4, hy⟩ := hY.1
      have hcell := cell_of_row w' C 7 _ _ _ hr
      have hfr := frozen_of_row w' C 7 _ _ hr
      have hrun : (Instr.storeAt 70 (.pointer (some ⟨C, 7, none⟩)) (.slice a4 d.waits.length c4)).run Try.prog w' = .ok () (w'.setCell ⟨C, 7, none⟩ (.slice a4 d.waits.length c4)) := store_slice (by kernel_rfl) hcell hfr
      refine wpOp_store rfl rfl rfl hx hy hrun ⟨_, rfl, hI.inv.stored 7 _ hr rfl (listed_other (by decide)) (listed_other (by decide)) ?_ ?_ ?_, (fun q => by cases q), fun j u _ hu => CpSp.kept (fun k _ hk => (grownBy_cell w' ⟨C, 7, none⟩ _).block k (by assumption) (fun e => hk (Option.some.inj e))) j u hu⟩
      · rw [listed_other (by decide)]; exact r5
      · rw [listed_other (by decide)]; exact r6
      · intro _
        rw [← hy]
        exact row_at hY.2 fun g hg => (grownBy_cell w' ⟨C, 7, none⟩ _).block g (hY.2.lt g hg).2 (fun e => by have q2 : g = C := Option.some.inj e; have := (hY.2.lt g hg).1; omega)
  case fin =>
    intro l a w' hI hall
    have hinv := hI.inv
    have e3 : a.eval (.tmp 3) = ptr C := hI.kept (t := 3) (by kernel_rfl)
    rcases a with ⟨T, D⟩
    obtain rfl : D = [] := hI.defers
    have hln := hI.len
    have h4 := hall 4 (by decide)
    have h9 := hall 9 (by decide)
    have h16 := hall 16 (by decide)
    have h18 := hall 18 (by decide)
    have h20 := hall 20 (by decide)
    clear hI hall
    obtain ⟨t0, t1, t2, t3, t4, t5, t6, t7, t8, t9, t10, t11, t12, t13, t14, t15, t16, t17, t18, t19, t20, t21, t22, t23, t24, t25, t26, t27, rfl⟩ := frame28 hln
    obtain rfl : t3 = ptr C := e3
    clear hln
    obtain ⟨x5, x6, x7, hr, r5, r6, r7⟩ := hinv.row
    obtain rfl := r5 h16
    obtain rfl := r6 h18
    have HX := Lib.hid (And.intro hr (And.intro (r7 h20) (And.intro (hinv.m1 h4) (And.intro (hinv.m2 h9) hinv.below))))
    clear r5 r6 r7 hr hinv h16 h18 h20 h4 h9 hDw hsz hr1 hb1 hs1
    go_wp2
    go_ret
    refine ⟨rfl, ⟨C + 1, C + 2, x7, fl, ?_⟩, HX.out.2.2.2.2⟩
    exact ⟨h.ok, HX.out.1, HX.out.2.2.1, HX.out.2.2.2.1, row_base HX.out.2.1 (by omega), ⟨Nat.le_refl _, by omega, by omega⟩, by omega, h.fl_lo, h.fl_hi⟩
end Go.Proofs.Ytkophpipehdkmaa
/- Layer 2: slices.Equal of writes, within, and Same of two disks. -/
namespace Go.Proofs.Ytkophpipehdkmaa
open Go.RowKit Go.Maps

theorem size5 (w : World) : (sizeOf 5).run Try.prog w = .ok 1 w := by kernel_rfl
theorem equalIn_pages (d : Nat) (l m : Page) (hl : l.length = 256) (hm : m.length = 256) (w : World) : (Op.equalIn (d + 2) 66 (pageV l) (pageV m)).run Try.prog w = .ok (l == m) w :=
  run_equalIn_bytes w d 66 5 256 Try.underlying66 Try.underlying5 size5 l m hl hm
theorem neq_pages (l m : Page) (hl : l.length = 256) (hm : m.length = 256) (w : World) : (binOp .neq 66 (pageV l) (pageV m)).run Try.prog w = .ok (.bool (!(l == m))) w := by
  unfold pageV
  rw [run_neq_struct]
  have := equalIn_pages 9998 l m hl hm w
  unfold pageV at this
  rw [this]; rfl
theorem guard_pages (l m : Page) (x y : Operand) (w : World) : (eqGuard .neq 66 x y (pageV l) (pageV m)).run Try.prog w = .ok () w := run_eqGuard_agg w .neq _ _ _ _ _ (by kernel_rfl)
theorem guard_writes (p q : Nat) (l m : Page) (x y : Operand) (w : World) : (eqGuard .neq 84 x y (writeV p l) (writeV q m)).run Try.prog w = .ok () w := run_eqGuard_agg w .neq _ _ _ _ _ (by kernel_rfl)
theorem part_page (p : Nat) (l : Page) (hl : l.length = 256) (w : World) : (part 66 (writeCells p l).toArray 1).run Try.prog w = .ok (pageV l) w := by
  have h1 : (isAgg 66).run Try.prog w = .ok true w := by kernel_rfl
  have h2 : (sizeOf 66).run Try.prog w = .ok 256 w := by kernel_rfl
  have h3 : (writeCells p l).toArray.extract 1 (1 + 256) = (byteVals l).toArray := by
    rw [List.extract_toArray]
    have h4 : (writeCells p l).extract 1 (1 + 256) = byteVals l := by
      rw [List.extract_eq_drop_take']
      show ((byteVals l).take _) = byteVals l
      exact List.take_of_length_le (by rw [byteVals_len, hl]; decide)
    rw [h4]
  simp only [part, Sem.run_bind, h1, Result.andThen_ok, if_true, h2, Sem.run_pure]
  rw [h3]; rfl
theorem part_int (p : Nat) (l : Page) (w : World) : (part 3 (writeCells p l).toArray 0).run Try.prog w = .ok (.int .i64 p) w := by
  have h1 : (isAgg 3).run Try.prog w = .ok false w := by kernel_rfl
  simp only [part, Sem.run_bind, h1, Result.andThen_ok]
  rfl
theorem fields90 : (Try.prog.fieldsOf 84).toList.map (fun f => (f.name == "_", f.type, f.offset)) = [(false, 3, 0), (false, 66, 1)] := by kernel_rfl
theorem neq_writes (p q : Nat) (l m : Page) (hl : l.length = 256) (hm : m.length = 256) (w : World) : (binOp .neq 84 (writeV p l) (writeV q m)).run Try.prog w = .ok (.bool (!(((p : Int) == (q : Int)) && (l == m)))) w := by
  unfold writeV
  rw [run_neq_struct, show (10000 : Nat) = 9999 + 1 from rfl, run_equalIn_struct w 9999 84 _ _ (by kernel_rfl) (by kernel_rfl)]
  have hfs := fields90
  generalize (Try.prog.fieldsOf 84).toList = fs at hfs ⊢
  have key : ∀ f0 f1 : Field, [f0, f1].map (fun f => (f.name == "_", f.type, f.offset)) = [(false, 3, 0), (false, 66, 1)] → (Op.eqFields 9999 (writeCells p l).toArray (writeCells q m).toArray [f0, f1]).run Try.prog w = .ok (((p : Int) == (q : Int)) && (l == m)) w := by
    intro f0 f1 hfs
    simp only [List.map_cons, List.map_nil, List.cons.injEq, Prod.mk.injEq, and_true] at hfs
    obtain ⟨⟨n0, t0, o0⟩, ⟨n1, t1, o1⟩⟩ := hfs
    have n0' : f0.name ≠ "_" := by simpa using n0
    have n1' : f1.name ≠ "_" := by simpa using n1
    have e1 : (Op.equalIn 9999 66 (pageV l) (pageV m)).run Try.prog w = .ok (l == m) w := equalIn_pages 9997 l m hl hm w
    have e0 : (Op.equalIn 9999 3 (.int .i64 p) (.int .i64 q)).run Try.prog w = .ok ((p : Int) == (q : Int)) w := run_equalIn_int w 9998 3 .i64 .i64 _ _ Try.underlying3
    have hE1 : (Op.eqFields 9999 (writeCells p l).toArray (writeCells q m).toArray [f1]).run Try.prog w = .ok (l == m) w := by
      simp only [Op.eqFields, if_pos n1', t1, o1, Sem.run_bind, part_page p l hl, part_page q m hm, Result.andThen_ok, e1, Sem.run_ite, Sem.run_pure]
      cases (l == m) <;> rfl
    rw [Op.eqFields]
    simp only [if_pos n0', t0, o0, Sem.run_bind, part_int, Result.andThen_ok, e0, Sem.run_ite, Sem.run_pure, hE1]
    cases ((p : Int) == (q : Int)) <;> rfl
  rcases fs with _ | ⟨f0, _ | ⟨f1, _ | ⟨f2, fs⟩⟩⟩
  · exact absurd (congrArg List.length hfs) (by simp)
  · exact absurd (congrArg List.length hfs) (by simp)
  · rw [key f0 f1 hfs]; rfl
  · exact absurd (congrArg List.length hfs) (by simp)

/-- Do all pages of the one stand in the other? -/
def WinPost (w : World) (f g : Nat → Option Page) (e : Ending) (w' : World) : Prop := ∃ r : Bool, e = .returned (.bool r) ∧ (r = true ↔ ∀ k l, f k = some l → (g k).getD noughts = l) ∧ Below w.heap.size w w'
set_option maxRecDepth 100000 in
set_option maxHeartbeats 4000000 in
theorem within_any {w : World} {b1 b2 : Nat} {fl gl : Nat → Option Page} (h1 : IntMap Try.prog 3 w b1 (pagesV fl)) (h2 : IntMap Try.prog 3 w b2 (pagesV gl)) (hf : ∀ k l, fl k = some l → l.length = 256) (hg : ∀ k l, gl k = some l → l.length = 256) :
    Calls Try.prog 33 #[.map (some b1), .map (some b2)] w fun e w' => WinPost w fl gl e w' := by
  obtain ⟨D1, o1, r1⟩ := h1
  have hb2 := h2.lt
  have hb1 := o1.lt
  have K : Maps.Keyed Try.prog 3 := Maps.int_keyed Try.underlying3
  have HR1 := Lib.hid r1
  have HLf := Lib.hid hf
  have HLg := Lib.hid hg
  have HB := Lib.hid (And.intro hb1 hb2)
  clear r1 hf hg
  go_enter Try.func33, Try.ntmps33
  go_wp2_with (at_range; refine wpList_range_own _ rfl _ 59 rfl 3 66 K Try.underlying59 heldR b1 4096 _ rfl o1 ?_; intro w0 hrg0 hg0 hs0)
  go_frame
  go_loopw [5, 6, 9, 10, 11, 12, 13, 14, 15, 16, 17, 18] (fun _ _ _ _ _ _ _ _ _ _ _ _ wr => ∃ (left : Lit → Bool) (cnt : Nat), wr.ranges Try.prog 3 heldR b1 w.heap.size 4096 D1 left cnt ∧ IntMap Try.prog 3 wr b2 (pagesV gl) ∧ Below w.heap.size w wr ∧ Hid (∀ k l, fl k = some l → left (.int .i64 (k : Nat)) = false → (gl k).getD noughts = l))
    (fun _ _ _ _ _ _ _ _ _ _ _ _ wr => wr.rangeLeft b1 w.heap.size)
  case atStart =>
    refine ⟨_, _, hrg0, h2.kept hg0 (by simp), (Below.refl _ w).grown hg0 (Nat.le_refl _) (fun q e => by cases e), Lib.hid (fun k l hk hl => ?_)⟩
    rw [HR1.out.has] at hl
    unfold pagesV at hl; rw [hk] at hl; cases hl
  case round =>
    obtain ⟨left, cnt, hrg, h2r, hbw, G⟩ := hrel
    go_wp2_with (at_next; refine wpList_next_ranges _ rfl _ rfl 3 K heldR (Value.int .i64) id (fun key kl hk => by obtain ⟨x, hx, _⟩ := Maps.keyOf_int_inv Try.underlying3 hk; exact ⟨x, hx⟩) (fun v _ _ => ⟨v, rfl⟩) b1 w.heap.size 4096 _ _ _ rfl hrg ?_ ?_)
    · intro hc0 hl0
      have HF := Lib.hid (show ∀ k l, fl k = some l → (gl k).getD noughts = l from fun k l hk => G.out k l hk (hl0 _))
      go_wp2
      go_ret
      exact ⟨true, rfl, ⟨fun _ => HF.out, fun _ => rfl⟩, hbw⟩
    · intro x c kl yd yp w1 cnt1 hkey hlx hv hat hrg1 hlt hg1 hs1 hen
      have h2w1 := h2r.kept hg1 (fun e => by have := Option.some.inj e; have := HB.out.2; omega)
      have hbw1 := hbw.grown hg1 hbw.size (fun q e => by cases e; exact Nat.le_refl _)
      obtain ⟨x', ex, rfl, -⟩ := Maps.keyOf_int_inv Try.underlying3 hkey
      cases ex
      obtain ⟨k, ek, hk⟩ := HR1.out.keys _ (Maps.has_true_of_atKey hat)
      obtain rfl : x = (k : Int) := by injection ek
      obtain ⟨l, hfl, rfl⟩ : ∃ l, fl k = some l ∧ c = pageV l := by
        have e1 := hat .nil
        rw [HR1.out.at_] at e1
        unfold heldR at hv
        cases hv
        unfold pagesV at e1
        cases hf : fl k with
        | none => rw [hf] at e1; cases e1
        | some p => rw [hf] at e1; injection e1 with e1; exact ⟨p, rfl, e1.symm⟩
      have hl := HLf.out k l hfl
      have hm : ((gl k).getD noughts).length = 256 := by
        cases hg : gl k with
        | none => exact noughts_len
        | some m => exact HLg.out k m hg
      obtain ⟨m, hme⟩ : ∃ m, (gl k).getD noughts = m := ⟨_, rfl⟩
      rw [hme] at hm
      have hlk := (h2w1.alloc (.cells (pageCells l) 66)).look Try.underlying3 Try.underlying59 zero77w k (by omega) false
      have hpv : (pagesV gl k).getD (pageV noughts) = pageV m := by
        rw [← hme]; unfold pagesV; cases gl k <;> rfl
      simp only [Bool.false_eq_true, if_false, hpv] at hlk
      have hP := PageAt.new' w1 l
      have hbA : Below w.heap.size w (w1.alloc (.cells (pageCells l) 66)) := hbw1.trans (((Below.refl _ w1).alloc (Nat.le_refl _) _).mono hbw1.size)
      have hnq := neq_pages l m hl hm
      have hge := guard_pages l m
      have HG := Lib.hid (And.intro hfl (And.intro G.out (And.intro hbA (And.intro (h2w1.alloc (.cells (pageCells l) 66)) hme))))
      have HX := Lib.hid (And.intro (hrg1.alloc (.cells (pageCells l) 66)) (And.intro hlt hrg))
      have HL := Lib.hid hl
      clear hat hv hlx hkey hfl ek hrg hrg1 hlt G hg1 hs1 hl hm hme hpv hbA hbw1 hbw h2w1 h2r hs0 hg0 hrg0
      have tokA : True := trivial
      have tokS : True := trivial
      have tokL : True := trivial
      by_cases hlm : l = m
      · have hb : (l == m) = true := by simpa using hlm
        rw [hb] at hnq
        have HQ := Lib.hid hlm
        clear hlm hb
        go_wp2_with (first
          | (have _t := tokA; refine wpList_alloc77 rfl rfl ?_; clear tokA)
          | (have _t := tokS; refine wpList_store77 rfl _ _ rfl noughts l noughts_len HL.out rfl rfl ?_; clear tokS)
          | (have _t := tokL; refine wpList_load77 rfl _ rfl w1.heap.size l HL.out rfl hP ?_; clear tokL))
        go_roundw
        case rel =>
          refine ⟨_, cnt1, HX.out.1, HG.out.2.2.2.1, HG.out.2.2.1, Lib.hid (fun j p' hj hl' => ?_)⟩
          by_cases hjk : j = k
          · subst hjk
            rw [HG.out.1] at hj
            rw [HG.out.2.2.2.2, ← HQ.out]; exact Option.some.inj hj
          · refine HG.out.2.1 j p' hj ?_
            have e : (Lit.int .i64 (j : Int)).sameKey (.int .i64 k) = false := Maps.sameKey_ne (fun e => by have : (j : Int) = k := by injection e
                                                                                                            omega)
            rw [e] at hl'; simpa using hl'
        case measure => rw [HX.out.1.left_eq, HX.out.2.2.left_eq]; exact HX.out.2.1
      · have hb : (l == m) = false := by simpa using hlm
        rw [hb] at hnq
        have HQ := Lib.hid hlm
        clear hlm hb
        go_wp2_with (first
          | (have _t := tokA; refine wpList_alloc77 rfl rfl ?_; clear tokA)
          | (have _t := tokS; refine wpList_store77 rfl _ _ rfl noughts l noughts_len HL.out rfl rfl ?_; clear tokS)
          | (have _t := tokL; refine wpList_load77 rfl _ rfl w1.heap.size l HL.out rfl hP ?_; clear tokL))
        go_ret
        exact ⟨false, rfl, ⟨(fun h => by cases h), fun h => absurd ((h k l HG.out.1).symm.trans HG.out.2.2.2.2) HQ.out⟩, HG.out.2.2.1⟩

def WqV (g1 g2 n c1 c2 k : Nat) (vx vy : Value) (b : Bool) : Nat → Value → World → Prop
  | 0, v, _ => v = .slice (some ⟨g1, 0, none⟩) n c1
  | 1, v, _ => v = .int .i64 k
  | 2, v, _ => v = .pointer (some ⟨g1, k * 257, none⟩)
  | 3, v, _ => v = vx
  | 4, v, _ => v = .slice (some ⟨g2, 0, none⟩) n c2
  | 5, v, _ => v = .int .i64 k
  | 6, v, _ => v = .pointer (some ⟨g2, k * 257, none⟩)
  | 7, v, _ => v = vy
  | 8, v, _ => v = .bool b
  | _, _, _ => True
theorem WqV.below {g1 g2 n c1 c2 k : Nat} {vx vy : Value} {b : Bool} {w w' : World} (_hb : Below w.heap.size w w') : ∀ j u, WqV g1 g2 n c1 c2 k vx vy b j u w → WqV g1 g2 n c1 c2 k vx vy b j u w' := by
  intro j u h
  unfold WqV at h ⊢
  split at h
  · exact h
  · exact h
  · exact h
  · exact h
  · exact h
  · exact h
  · exact h
  · exact h
  · exact h
  · exact trivial
/-- Are two runs of writes the same? -/
def WeqPost (w : World) (xs ys : List (Nat × Page)) (e : Ending) (w' : World) : Prop := ∃ r : Bool, e = .returned (.bool r) ∧ (r = true ↔ xs = ys) ∧ Below w.heap.size w w'
theorem row_slice {w : World} {n₀ : Nat} {v : Value} {ws : List (Nat × Page)} (h : w.ownsRow n₀ 84 257 v ws.length (waitCells ws)) : ∃ a cap, v = .slice a ws.length cap := by
  rcases h.2 with ⟨rfl, e⟩ | ⟨g, cap, cur, rfl, _⟩
  · exact ⟨none, 0, by rw [e]⟩
  · exact ⟨_, _, rfl⟩
set_option maxRecDepth 100000 in
set_option maxHeartbeats 4000000 in
theorem wequal_any {w : World} {n1 n2 : Nat} {v1 v2 : Value} {xs ys : List (Nat × Page)} (h1 : w.ownsRow n1 84 257 v1 xs.length (waitCells xs)) (h2 : w.ownsRow n2 84 257 v2 ys.length (waitCells ys)) (l1 : ∀ x ∈ xs, x.2.length = 256) (l2 : ∀ x ∈ ys, x.2.length = 256) (hs : xs.length ≤ 2147483648) :
    Calls Try.prog 32 #[v1, v2] w fun e w' => WeqPost w xs ys e w' := by
  obtain ⟨a1, c1, rfl⟩ := row_slice h1
  obtain ⟨a2, c2, rfl⟩ := row_slice h2
  obtain ⟨n, hn⟩ : ∃ n, xs.length = n := ⟨_, rfl⟩
  obtain ⟨m, hm⟩ : ∃ m, ys.length = m := ⟨_, rfl⟩
  have H := Lib.hid (And.intro h1 (And.intro h2 (And.intro l1 (And.intro l2 (And.intro hn hm)))))
  rw [hn, hm]
  rw [hn] at hs
  clear h1 h2 l1 l2 hn hm
  by_cases hnm : n = m
  · subst hnm
    go_enter Try.func32, Try.ntmps32
    go_wp2
    go_loopw [5, 13, 14, 15, 16, 17, 18, 19, 20, 21, 22, 23, 24, 25] (fun _ t13 _ _ _ _ _ _ _ _ _ _ _ _ wr => ∃ k : Nat, t13 = .int .i64 k ∧ k ≤ n ∧ Below w.heap.size w wr ∧ Hid (∀ j, j < k → xs[j]? = ys[j]?))
      (fun _ t13 _ _ _ _ _ _ _ _ _ _ _ _ _ => n - (intOf t13).toNat)
    case atStart => exact ⟨0, rfl, Nat.zero_le _, Below.refl _ _, Lib.hid fun j hj => absurd hj (by omega)⟩
    case round =>
      obtain ⟨k, rfl, hk, hbw, G⟩ := hrel
      by_cases hlt : k < n
      · obtain ⟨h1, h2, l1, l2, hn, hm⟩ := H.out
        obtain ⟨x, hx⟩ : ∃ x, xs[k]? = some x := ⟨xs[k]'(by omega), List.getElem?_eq_getElem (by omega)⟩
        obtain ⟨y, hy⟩ : ∃ y, ys[k]? = some y := ⟨ys[k]'(by omega), List.getElem?_eq_getElem (by omega)⟩
        obtain ⟨g1, d1, e1, r1, -, z1⟩ := wait_at h1 l1 hx
        obtain ⟨g2, d2, e2, r2, -, z2⟩ := wait_at h2 l2 hy
        rw [hn] at e1
        rw [hm] at e2
        injection e1 with e1 _ ec1
        injection e2 with e2 _ ec2
        subst e1 e2 ec1 ec2
        have lx := l1 x (List.mem_of_getElem? hx)
        have ly := l2 y (List.mem_of_getElem? hy)
        have hl1 : ∀ q, (Instr.loadAt 84 (.pointer (some ⟨g1, k * 257, none⟩))).run Try.prog (wr.drewN q) = .ok (writeV x.1 x.2) (wr.drewN q) := fun q => run_load90 (wr.drewN q) g1 (k * 257) x.1 x.2 lx (fun j v hv => (hbw.cell (p := ⟨g1, k * 257 + j, none⟩) z1).trans (r1 j v hv))
        have hl2 : ∀ q, (Instr.loadAt 84 (.pointer (some ⟨g2, k * 257, none⟩))).run Try.prog (wr.drewN q) = .ok (writeV y.1 y.2) (wr.drewN q) := fun q => run_load90 (wr.drewN q) g2 (k * 257) y.1 y.2 ly (fun j v hv => (hbw.cell (p := ⟨g2, k * 257 + j, none⟩) z2).trans (r2 j v hv))
        have hi1 := fun w => index56 w g1 n c1 k hlt
        have hi2 := fun w => index56 w g2 n c2 k hlt
        have hnq := neq_writes x.1 y.1 x.2 y.2 lx ly
        have hge := guard_writes x.1 y.1 x.2 y.2
        obtain ⟨vx, hvx⟩ : ∃ vx, writeV x.1 x.2 = vx := ⟨_, rfl⟩
        obtain ⟨vy, hvy⟩ : ∃ vy, writeV y.1 y.2 = vy := ⟨_, rfl⟩
        rw [hvx, hvy] at hnq hge
        rw [hvx] at hl1
        rw [hvy] at hl2
        have hlt' : (k : Int) < (n : Int) := by omega
        have hw1 : wrap64 ((k : Int) + 1) = ((k + 1 : Nat) : Int) := by unfold wrap64; omega
        obtain ⟨b, hbe⟩ : ∃ b, (!(((x.1 : Int) == (y.1 : Int)) && (x.2 == y.2))) = b := ⟨_, rfl⟩
        rw [hbe] at hnq
        have hbx : b = false ↔ x = y := by
          rw [← hbe]
          constructor
          · intro h; simp only [Bool.not_eq_false', Bool.and_eq_true, beq_iff_eq] at h
            exact Prod.ext (by omega) h.2
          · intro h; rw [h]; simp
        have HX := Lib.hid (And.intro hx (And.intro hy (And.intro hbx (And.intro hbw (And.intro G.out hlt)))))
        have HW := Lib.hid hw1
        have hl1 : ∀ W, W = wr.drew → (Instr.loadAt 84 (.pointer (some ⟨g1, k * 257, none⟩))).run Try.prog W = .ok vx W := by rintro _ rfl; exact hl1 1
        have hl2 : ∀ W, W = wr.drew → (Instr.loadAt 84 (.pointer (some ⟨g2, k * 257, none⟩))).run Try.prog W = .ok vy W := by rintro _ rfl; exact hl2 1
        clear hx hy hbx hbw G hbe lx ly h1 h2 l1 l2 hn hm r1 r2 z1 z2 hvx hvy hw1
        go_wp2_with fail
        refine wp_region_m (fun _ W => W = wr.drew) (WqV g1 g2 n c1 c2 k vx vy b) (by kernel_rfl) (by kernel_rfl) (by kernel_rfl) (by kernel_rfl) rfl ?step ?fin
        case step =>
          intro i o ho listed a w' hI hn' hpre
          have hJ := hI.inv
          have hi : i < 9 := (Array.getElem?_eq_some_iff.1 ho).1
          match i, hi with
          | 0, _ =>
            cases ho
            exact wpOp_move rfl rfl (.inl rfl) (hI.kept (t := 0) (by kernel_rfl)) ⟨_, rfl, hJ, fun _ => rfl, fun _ _ _ h => h⟩
          | 1, _ =>
            cases ho
            exact wpOp_move rfl rfl (.inl rfl) (hI.kept (t := 5) (by kernel_rfl)) ⟨_, rfl, hJ, fun _ => rfl, fun _ _ _ h => h⟩
          | 2, _ =>
            cases ho
            exact wpOp_index rfl rfl rfl (hI.slot 0 16 rfl (hpre ⟨0, .data⟩ (by simp) rfl) rfl) (hI.slot 1 17 rfl (hpre ⟨1, .data⟩ (by simp) rfl) rfl) (hi1 w') ⟨_, rfl, hJ, fun _ => rfl, fun _ _ _ h => h⟩
          | 3, _ =>
            cases ho
            exact wpOp_load rfl rfl rfl (hI.slot 2 18 rfl (hpre ⟨2, .data⟩ (by simp) rfl) rfl) (hl1 w' hJ) ⟨_, rfl, hJ, fun _ => rfl, fun _ _ _ h => h⟩
          | 4, _ =>
            cases ho
            exact wpOp_move rfl rfl (.inl rfl) (hI.kept (t := 1) (by kernel_rfl)) ⟨_, rfl, hJ, fun _ => rfl, fun _ _ _ h => h⟩
          | 5, _ =>
            cases ho
            exact wpOp_move rfl rfl (.inl rfl) (hI.kept (t := 5) (by kernel_rfl)) ⟨_, rfl, hJ, fun _ => rfl, fun _ _ _ h => h⟩
          | 6, _ =>
            cases ho
            exact wpOp_index rfl rfl rfl (hI.slot 4 20 rfl (hpre ⟨4, .data⟩ (by simp) rfl) rfl) (hI.slot 5 21 rfl (hpre ⟨5, .data⟩ (by simp) rfl) rfl) (hi2 w') ⟨_, rfl, hJ, fun _ => rfl, fun _ _ _ h => h⟩
          | 7, _ =>
            cases ho
            exact wpOp_load rfl rfl rfl (hI.slot 6 22 rfl (hpre ⟨6, .data⟩ (by simp) rfl) rfl) (hl2 w' hJ) ⟨_, rfl, hJ, fun _ => rfl, fun _ _ _ h => h⟩
          | 8, _ =>
            cases ho
            exact wpOp_bin rfl rfl rfl (hI.slot 3 19 rfl (hpre ⟨3, .data⟩ (by simp) rfl) rfl) (hI.slot 7 23 rfl (hpre ⟨7, .data⟩ (by simp) rfl) rfl) (hge _ _ _) (hnq _) ⟨_, rfl, hJ, fun _ => rfl, fun _ _ _ h => h⟩
        case fin =>
          intro listed a w' hI hall
          have hJ := hI.inv
          have eS24 : a.tmps.getD 24 undef = .bool b := hI.slot 8 24 rfl (hall 8 (by decide)) rfl
          obtain ⟨vs, hvl, hvs, e⟩ := hI.frame 16 9 (Nat.le_of_ble_eq_true (by kernel_rfl)) (by kernel_rfl)
          have vS24 := hvs 8 (by decide)
          clear hI hall hvs
          match vs, hvl with
          | [x0, x1, x2, x3, x4, x5, x6, x7, x8], _ =>
          simp only [List.getElem?_cons_zero, List.getElem?_cons_succ, Option.some.injEq] at vS24
          rw [show 16 + 8 = 24 from rfl, eS24] at vS24
          subst vS24
          simp only [List.take_succ_cons, List.take_zero, List.drop_succ_cons, List.drop_zero, List.cons_append, List.nil_append, Nat.reduceAdd] at e
          subst e
          clear eS24
          subst hJ
          cases b with
          | false =>
            clear hl1 hl2 hi1 hi2 hnq hge
            go_wp2
            refine ⟨⟨k + 1, rfl, HX.out.2.2.2.2.2, HX.out.2.2.2.1.drew, Lib.hid (fun j hj => ?_)⟩, by simp [intOf]; have := HX.out.2.2.2.2.2; omega⟩
            by_cases hjk : j = k
            · subst hjk; rw [HX.out.1, HX.out.2.1, HX.out.2.2.1.1 rfl]
            · exact HX.out.2.2.2.2.1 j (by omega)
          | true =>
            clear hl1 hl2 hi1 hi2 hnq hge
            go_wp2
            go_ret
            exact ⟨false, rfl, ⟨(fun h => by cases h), fun h => by
              have e1 := HX.out.1
              rw [h, HX.out.2.1] at e1
              exact absurd (HX.out.2.2.1.2 (Option.some.inj e1).symm) (by decide)⟩, HX.out.2.2.2.1.drew⟩
      · obtain rfl : k = n := by omega
        have HG := Lib.hid (show xs = ys from List.ext_getElem? fun j => by
          by_cases hj : j < k
          · exact G.out j hj
          · have := H.out
            rw [List.getElem?_eq_none (by omega), List.getElem?_eq_none (by omega)])
        have hkk : ¬ (k : Int) < (k : Int) := by omega
        go_wp2
        go_ret
        exact ⟨true, rfl, ⟨fun _ => HG.out, fun _ => rfl⟩, hbw⟩
  · have hne : ((n : Int) != (m : Int)) = true := by simp; omega
    have HN := Lib.hid hnm
    clear hnm
    go_enter Try.func32, Try.ntmps32
    go_wp2
    go_ret
    exact ⟨false, rfl, ⟨(fun h => by cases h), fun h => by have := H.out; rw [h] at this; exact absurd (this.2.2.2.2.1.symm.trans this.2.2.2.2.2) HN.out⟩, Below.refl _ _⟩
end Go.Proofs.Ytkophpipehdkmaa
/- Layer 2: Same of two disks. -/
namespace Go.Proofs.Ytkophpipehdkmaa
open Go.RowKit Go.Maps

theorem load_arming {w : World} {A k l : Nat} {b : Bool} (h0 : w.cell? ⟨A, 0, none⟩ = some (.int .i64 k)) (h1 : w.cell? ⟨A, 1, none⟩ = some (.int .i64 l)) (h2 : w.cell? ⟨A, 2, none⟩ = some (.bool b)) : (Instr.loadAt 69 (ptr A)).run Try.prog w = .ok (.agg #[.int .i64 k, .int .i64 l, .bool b]) w :=
  run_loadAt_mid w A 0 _ [.int .i64 k, .int .i64 l, .bool b] _ (fun j v hv => by
    match j, hv with
    | 0, hv => cases hv; exact h0
    | 1, hv => cases hv; exact h1
    | 2, hv => cases hv; exact h2
    | j + 3, hv => cases hv) Try.underlying69 rfl (by kernel_rfl)
theorem guard_arming (k l k' l' : Nat) (b b' : Bool) (x y : Operand) (w : World) : (eqGuard .eql 69 x y (.agg #[.int .i64 k, .int .i64 l, .bool b]) (.agg #[.int .i64 k', .int .i64 l', .bool b'])).run Try.prog w = .ok () w := run_eqGuard_agg w .eql _ _ _ _ _ (by kernel_rfl)
theorem fields_arming : (Try.prog.fieldsOf 69).toList.map (fun f => (f.name == "_", f.type, f.offset)) = [(false, 37, 0), (false, 3, 1), (false, 4, 2)] := by kernel_rfl
theorem part_cell (t : TypeId) (ht : ∀ w, (isAgg t).run Try.prog w = .ok false w) (cs : Array Value) (o : Nat) (v : Value) (h : cs[o]? = some v) (w : World) : (part t cs o).run Try.prog w = .ok v w := by
  simp only [part, Sem.run_bind, ht, Result.andThen_ok, h, Bool.false_eq_true, if_false, Sem.run_pure]
theorem eql_arming (k l k' l' : Nat) (b b' : Bool) (w : World) : (binOp .eql 69 (.agg #[.int .i64 k, .int .i64 l, .bool b]) (.agg #[.int .i64 k', .int .i64 l', .bool b'])).run Try.prog w = .ok (.bool (((k : Int) == (k' : Int)) && (((l : Int) == (l' : Int)) && (b == b')))) w := by
  rw [run_eql_struct, show (10000 : Nat) = 9999 + 1 from rfl, run_equalIn_struct w 9999 69 _ _ (by kernel_rfl) (by kernel_rfl)]
  have hfs := fields_arming
  generalize (Try.prog.fieldsOf 69).toList = fs at hfs ⊢
  have key : ∀ f0 f1 f2 : Field, [f0, f1, f2].map (fun f => (f.name == "_", f.type, f.offset)) = [(false, 37, 0), (false, 3, 1), (false, 4, 2)] → (Op.eqFields 9999 #[.int .i64 k, .int .i64 l, .bool b] #[.int .i64 k', .int .i64 l', .bool b'] [f0, f1, f2]).run Try.prog w = .ok (((k : Int) == (k' : Int)) && (((l : Int) == (l' : Int)) && (b == b'))) w := by
    intro f0 f1 f2 hfs
    simp only [List.map_cons, List.map_nil, List.cons.injEq, Prod.mk.injEq, and_true] at hfs
    obtain ⟨⟨n0, t0, o0⟩, ⟨n1, t1, o1⟩, ⟨n2, t2, o2⟩⟩ := hfs
    have n0' : f0.name ≠ "_" := by simpa using n0
    have n1' : f1.name ≠ "_" := by simpa using n1
    have n2' : f2.name ≠ "_" := by simpa using n2
    have e0 : (Op.equalIn 9999 37 (.int .i64 k) (.int .i64 k')).run Try.prog w = .ok ((k : Int) == (k' : Int)) w := run_equalIn_int w 9998 37 .i64 .i64 _ _ Try.underlying37
    have e1 : (Op.equalIn 9999 3 (.int .i64 l) (.int .i64 l')).run Try.prog w = .ok ((l : Int) == (l' : Int)) w := run_equalIn_int w 9998 3 .i64 .i64 _ _ Try.underlying3
    have e2 : (Op.equalIn 9999 4 (.bool b) (.bool b')).run Try.prog w = .ok (b == b') w := run_equalIn_bool' w 9998 4 _ _ Try.underlying4
    have p0 := part_cell 37 (fun w => by kernel_rfl) #[.int .i64 k, .int .i64 l, .bool b] 0 (.int .i64 k) rfl w
    have q0 := part_cell 37 (fun w => by kernel_rfl) #[.int .i64 k', .int .i64 l', .bool b'] 0 (.int .i64 k') rfl w
    have p1 := part_cell 3 (fun w => by kernel_rfl) #[.int .i64 k, .int .i64 l, .bool b] 1 (.int .i64 l) rfl w
    have q1 := part_cell 3 (fun w => by kernel_rfl) #[.int .i64 k', .int .i64 l', .bool b'] 1 (.int .i64 l') rfl w
    have p2 := part_cell 4 (fun w => by kernel_rfl) #[.int .i64 k, .int .i64 l, .bool b] 2 (.bool b) rfl w
    have q2 := part_cell 4 (fun w => by kernel_rfl) #[.int .i64 k', .int .i64 l', .bool b'] 2 (.bool b') rfl w
    have h2 : (Op.eqFields 9999 #[.int .i64 k, .int .i64 l, .bool b] #[.int .i64 k', .int .i64 l', .bool b'] [f2]).run Try.prog w = .ok (b == b') w := by
      simp only [Op.eqFields, if_pos n2', t2, o2, Sem.run_bind, p2, q2, Result.andThen_ok, e2, Sem.run_ite, Sem.run_pure]
      cases (b == b') <;> rfl
    have h1 : (Op.eqFields 9999 #[.int .i64 k, .int .i64 l, .bool b] #[.int .i64 k', .int .i64 l', .bool b'] [f1, f2]).run Try.prog w = .ok (((l : Int) == (l' : Int)) && (b == b')) w := by
      rw [Op.eqFields]
      simp only [if_pos n1', t1, o1, Sem.run_bind, p1, q1, Result.andThen_ok, e1, Sem.run_ite, Sem.run_pure, h2]
      cases ((l : Int) == (l' : Int)) <;> rfl
    rw [Op.eqFields]
    simp only [if_pos n0', t0, o0, Sem.run_bind, p0, q0, Result.andThen_ok, e0, Sem.run_ite, Sem.run_pure, h1]
    cases ((k : Int) == (k' : Int)) <;> rfl
  rcases fs with _ | ⟨f0, _ | ⟨f1, _ | ⟨f2, _ | ⟨f3, fs⟩⟩⟩⟩
  · exact absurd (congrArg List.length hfs) (by simp)
  · exact absurd (congrArg List.length hfs) (by simp)
  · exact absurd (congrArg List.length hfs) (by simp)
  · rw [key f0 f1 f2 hfs]; rfl
  · exact absurd (congrArg List.length hfs) (by simp)
/-- Two disks stand alike. -/
def Dsk.like (d e : Dsk) : Prop := d.lasts = e.lasts ∧ d.kind = e.kind ∧ d.left = e.left ∧ d.dead = e.dead ∧ d.waits = e.waits
theorem lasts_like {d e : Dsk} {fl gl : Nat → Option Page} (fl_lo : ∀ p, p < d.room → (fl p).getD noughts = d.lasts.getD p noughts) (fl_hi : ∀ p, d.room ≤ p → fl p = none) (gl_lo : ∀ p, p < e.room → (gl p).getD noughts = e.lasts.getD p noughts) (gl_hi : ∀ p, e.room ≤ p → gl p = none) :
    (d.room = e.room ∧ (∀ k l, fl k = some l → (gl k).getD noughts = l) ∧ (∀ k l, gl k = some l → (fl k).getD noughts = l)) ↔ d.lasts = e.lasts := by
  constructor
  · rintro ⟨hr, h1, h2⟩
    apply List.ext_getElem hr
    intro k hk hk'
    have e1 : d.lasts.getD k noughts = d.lasts[k] := by simp [List.getD, hk]
    have e2 : e.lasts.getD k noughts = e.lasts[k] := by simp [List.getD, hk']
    rw [← e1, ← e2, ← fl_lo k hk, ← gl_lo k hk']
    cases hf : fl k with
    | some l => rw [h1 k l hf]; rfl
    | none =>
      cases hg : gl k with
      | some m => have := h2 k m hg; rw [hf] at this; exact this
      | none => rfl
  · intro h
    have hr : d.room = e.room := congrArg List.length h
    refine ⟨hr, fun k l hk => ?_, fun k l hk => ?_⟩
    · have hlt : k < d.room := by
        rcases Nat.lt_or_ge k d.room with h | h
        · exact h
        · rw [fl_hi k h] at hk; cases hk
      rw [gl_lo k (by omega), ← h, ← fl_lo k hlt, hk]; rfl
    · have hlt : k < e.room := by
        rcases Nat.lt_or_ge k e.room with h | h
        · exact h
        · rw [gl_hi k h] at hk; cases hk
      rw [fl_lo k (by omega), h, ← gl_lo k hlt, hk]; rfl
def SmPost (w : World) (d e : Dsk) (x : Ending) (w' : World) : Prop := ∃ r : Bool, x = .returned (.bool r) ∧ (r = true ↔ d.like e) ∧ Below w.heap.size w w'
theorem DskAt.fl_len {n₀ : Nat} {w : World} {B bl bn : Nat} {d : Dsk} {v : Value} {fl : Nat → Option Page} (h : DskAt n₀ w B d bl bn v fl) : ∀ k l, fl k = some l → l.length = 256 := by
  intro k l hk
  have hlt : k < d.room := by
    rcases Nat.lt_or_ge k d.room with h' | h'
    · exact h'
    · rw [h.fl_hi k h'] at hk; cases hk
  have := h.fl_lo k hlt
  rw [hk] at this
  have e : l = d.lasts.getD k noughts := this
  rw [e]; exact h.ok.len k hlt
def SmV (A B al bl : Nat) (d e : Dsk) (va vb : Value) (b0 b1 b2 b3 b4 : Bool) : Nat → Value → World → Prop
  | 0, v, _ => v = ptr A
  | 1, v, _ => v = ptr A
  | 2, v, _ => v = .pointer (some ⟨A, 3, none⟩)
  | 3, v, _ => v = .int .i64 d.room
  | 4, v, _ => v = ptr B
  | 5, v, _ => v = ptr B
  | 6, v, _ => v = .pointer (some ⟨B, 3, none⟩)
  | 7, v, _ => v = .int .i64 e.room
  | 8, v, _ => v = .bool b0
  | 9, v, _ => v = .bool b0
  | 10, v, _ => (b0) = true → v = ptr A
  | 11, v, _ => (b0) = true → v = ptr A
  | 12, v, _ => (b0) = true → v = ptr A
  | 13, v, _ => (b0) = true → v = .agg #[.int .i64 d.kind, .int .i64 d.left, .bool d.dead]
  | 14, v, _ => (b0) = true → v = ptr B
  | 15, v, _ => (b0) = true → v = ptr B
  | 16, v, _ => (b0) = true → v = ptr B
  | 17, v, _ => (b0) = true → v = .agg #[.int .i64 e.kind, .int .i64 e.left, .bool e.dead]
  | 18, v, _ => (b0) = true → v = .bool b1
  | 19, v, _ => v = .bool (b0 && b1)
  | 20, v, _ => v = .bool (b0 && b1)
  | 21, v, _ => ((b0 && b1)) = true → v = ptr A
  | 22, v, _ => ((b0 && b1)) = true → v = ptr A
  | 23, v, _ => ((b0 && b1)) = true → v = .pointer (some ⟨A, 7, none⟩)
  | 24, v, _ => ((b0 && b1)) = true → v = va
  | 25, v, _ => ((b0 && b1)) = true → v = ptr B
  | 26, v, _ => ((b0 && b1)) = true → v = ptr B
  | 27, v, _ => ((b0 && b1)) = true → v = .pointer (some ⟨B, 7, none⟩)
  | 28, v, _ => ((b0 && b1)) = true → v = vb
  | 29, v, _ => ((b0 && b1)) = true → v = .bool b2
  | 30, v, _ => v = .bool ((b0 && b1) && b2)
  | 31, v, _ => v = .bool ((b0 && b1) && b2)
  | 32, v, _ => (((b0 && b1) && b2)) = true → v = ptr A
  | 33, v, _ => (((b0 && b1) && b2)) = true → v = ptr A
  | 34, v, _ => (((b0 && b1) && b2)) = true → v = .pointer (some ⟨A, 5, none⟩)
  | 35, v, _ => (((b0 && b1) && b2)) = true → v = .map (some al)
  | 36, v, _ => (((b0 && b1) && b2)) = true → v = ptr B
  | 37, v, _ => (((b0 && b1) && b2)) = true → v = ptr B
  | 38, v, _ => (((b0 && b1) && b2)) = true → v = .pointer (some ⟨B, 5, none⟩)
  | 39, v, _ => (((b0 && b1) && b2)) = true → v = .map (some bl)
  | 40, v, _ => (((b0 && b1) && b2)) = true → v = .bool b3
  | 41, v, _ => v = .bool (((b0 && b1) && b2) && b3)
  | 42, v, _ => v = .bool (((b0 && b1) && b2) && b3)
  | 43, v, _ => ((((b0 && b1) && b2) && b3)) = true → v = ptr B
  | 44, v, _ => ((((b0 && b1) && b2) && b3)) = true → v = ptr B
  | 45, v, _ => ((((b0 && b1) && b2) && b3)) = true → v = .pointer (some ⟨B, 5, none⟩)
  | 46, v, _ => ((((b0 && b1) && b2) && b3)) = true → v = .map (some bl)
  | 47, v, _ => ((((b0 && b1) && b2) && b3)) = true → v = ptr A
  | 48, v, _ => ((((b0 && b1) && b2) && b3)) = true → v = ptr A
  | 49, v, _ => ((((b0 && b1) && b2) && b3)) = true → v = .pointer (some ⟨A, 5, none⟩)
  | 50, v, _ => ((((b0 && b1) && b2) && b3)) = true → v = .map (some al)
  | 51, v, _ => ((((b0 && b1) && b2) && b3)) = true → v = .bool b4
  | 52, v, _ => v = .bool ((((b0 && b1) && b2) && b3) && b4)
  | 53, v, _ => v = .bool ((((b0 && b1) && b2) && b3) && b4)
  | _, _, _ => True
theorem SmV.below {A B al bl : Nat} {d e : Dsk} {va vb : Value} {b0 b1 b2 b3 b4 : Bool} {w w' : World} (_hb : Below w.heap.size w w') : ∀ j u, SmV A B al bl d e va vb b0 b1 b2 b3 b4 j u w → SmV A B al bl d e va vb b0 b1 b2 b3 b4 j u w' := by
  intro j u h
  unfold SmV at h ⊢
  split at h
  · exact h
  · exact h
  · exact h
  · exact h
  · exact h
  · exact h
  · exact h
  · exact h
  · exact h
  · exact h
  · exact h
  · exact h
  · exact h
  · exact h
  · exact h
  · exact h
  · exact h
  · exact h
  · exact h
  · exact h
  · exact h
  · exact h
  · exact h
  · exact h
  · exact h
  · exact h
  · exact h
  · exact h
  · exact h
  · exact h
  · exact h
  · exact h
  · exact h
  · exact h
  · exact h
  · exact h
  · exact h
  · exact h
  · exact h
  · exact h
  · exact h
  · exact h
  · exact h
  · exact h
  · exact h
  · exact h
  · exact h
  · exact h
  · exact h
  · exact h
  · exact h
  · exact h
  · exact h
  · exact h
  · exact trivial
set_option maxRecDepth 100000 in
set_option maxHeartbeats 8000000 in
theorem same_disks {n₀ m₀ : Nat} {w : World} {A B : Nat} {d e : Dsk} (hA : IsDisk n₀ w A d) (hB : IsDisk m₀ w B e) (hf : d.waits.length ≤ 2147483648) :
    Calls Try.prog 13 #[ptr A, ptr B] w fun x w' => SmPost w d e x w' := by
  have ht1 := there_disk hA
  have ht2 := there_disk hB
  have hlA := hA.lt
  have hlB := hB.lt
  obtain ⟨al, an, va, fl, hA⟩ := hA
  obtain ⟨bl, bn, vb, gl, hB⟩ := hB
  have a0 : w.cell? ⟨A, 0, none⟩ = some (.int .i64 d.kind) := hA.cell 0
  have a1 : w.cell? ⟨A, 1, none⟩ = some (.int .i64 d.left) := hA.cell 1
  have a2 : w.cell? ⟨A, 2, none⟩ = some (.bool d.dead) := hA.cell 2
  have a3 : w.cell? ⟨A, 3, none⟩ = some (.int .i64 d.room) := hA.cell 3
  have a5 : w.cell? ⟨A, 5, none⟩ = some (.map (some al)) := hA.cell 5
  have a7 : w.cell? ⟨A, 7, none⟩ = some va := hA.cell 7
  have c0 : w.cell? ⟨B, 0, none⟩ = some (.int .i64 e.kind) := hB.cell 0
  have c1 : w.cell? ⟨B, 1, none⟩ = some (.int .i64 e.left) := hB.cell 1
  have c2 : w.cell? ⟨B, 2, none⟩ = some (.bool e.dead) := hB.cell 2
  have c3 : w.cell? ⟨B, 3, none⟩ = some (.int .i64 e.room) := hB.cell 3
  have c5 : w.cell? ⟨B, 5, none⟩ = some (.map (some bl)) := hB.cell 5
  have c7 : w.cell? ⟨B, 7, none⟩ = some vb := hB.cell 7
  have HLT := Lib.hid (And.intro hlA hlB)
  have HC1 := Lib.hid (fun W (hb : Below w.heap.size w W) => wequal_any (hA.below hb).row (hB.below hb).row (fun x hx => (hA.ok.wait x hx).2) (fun x hx => (hB.ok.wait x hx).2) hf)
  have HC2 := Lib.hid (fun W (hb : Below w.heap.size w W) => within_any (hA.below hb).last (hB.below hb).last hA.fl_len hB.fl_len)
  have HC3 := Lib.hid (fun W (hb : Below w.heap.size w W) => within_any (hB.below hb).last (hA.below hb).last hB.fl_len hA.fl_len)
  have HLL := Lib.hid (lasts_like hA.fl_lo hA.fl_hi hB.fl_lo hB.fl_hi)
  obtain ⟨b0, hb0⟩ : ∃ b : Bool, ((d.room : Int) == (e.room : Int)) = b := ⟨_, rfl⟩
  obtain ⟨b1, hb1⟩ : ∃ b : Bool, (((d.kind : Int) == (e.kind : Int)) && (((d.left : Int) == (e.left : Int)) && (d.dead == e.dead))) = b := ⟨_, rfl⟩
  have bool_of : ∀ p : Prop, ∃ b : Bool, b = true ↔ p := fun p => by
    by_cases h : p
    · exact ⟨true, by simp [h]⟩
    · exact ⟨false, by simp [h]⟩
  obtain ⟨b2, hb2⟩ := bool_of (d.waits = e.waits)
  obtain ⟨b3, hb3⟩ := bool_of (∀ k l, fl k = some l → (gl k).getD noughts = l)
  obtain ⟨b4, hb4⟩ := bool_of (∀ k l, gl k = some l → (fl k).getD noughts = l)
  have HB2 := Lib.hid hb2
  have HB3 := Lib.hid hb3
  have HB4 := Lib.hid hb4
  have hq0 : ∀ w, (binOp .eql 3 (.int .i64 d.room) (.int .i64 e.room)).run Try.prog w = .ok (.bool b0) w := fun w => by rw [← hb0]; simp [go_sem]
  have hq1 := fun w => eql_arming d.kind d.left e.kind e.left d.dead e.dead w
  simp only [hb1] at hq1
  have HN := Lib.hid (show ((((b0 && b1) && b2) && b3) && b4) = true ↔ d.like e by
    simp only [Bool.and_eq_true]
    rw [hb2, hb3, hb4, ← hb0, ← hb1]
    simp only [Bool.and_eq_true, beq_iff_eq]
    constructor
    · rintro ⟨⟨⟨⟨h0, h1, h2, h3⟩, h4⟩, h5⟩, h6⟩
      exact ⟨HLL.out.1 ⟨by omega, h5, h6⟩, by omega, by omega, h3, h4⟩
    · rintro ⟨h0, h1, h2, h3, h4⟩
      obtain ⟨g0, g1, g2⟩ := HLL.out.2 h0
      exact ⟨⟨⟨⟨by omega, by omega, by omega, h3⟩, h4⟩, g1⟩, g2⟩)
  clear hA hB hb0 hb1 hb2 hb3 hb4 bool_of
  go_enter Try.func13, Try.ntmps13
  go_wp2_with fail
  refine ht1.mono ?_
  rintro e' w' ⟨rfl, rfl⟩
  go_wp2_with fail
  refine ht2.mono ?_
  rintro e' w' ⟨rfl, rfl⟩
  go_wp2_with fail
  refine wp_region_m (fun _ W => Below w.heap.size w W) (SmV A B al bl d e va vb b0 b1 b2 b3 b4) (by kernel_rfl) (by kernel_rfl) (by kernel_rfl) (by kernel_rfl) (Below.refl _ _).drew ?step ?fin
  case step =>
    intro i o ho listed a w' hI hn' hpre
    have hJ := hI.inv
    have hi : i < 54 := (Array.getElem?_eq_some_iff.1 ho).1
    match i, hi with
    | 0, _ =>
      cases ho
      exact wpOp_move rfl rfl (.inl rfl) (hI.kept (t := 0) (by kernel_rfl)) ⟨_, rfl, hJ, fun _ => rfl, fun _ _ _ h => h⟩
    | 1, _ =>
      cases ho
      exact wpOp_nilCheck rfl rfl rfl (hI.slot 0 18 rfl (hpre ⟨0, .data⟩ (by simp) rfl) rfl) ⟨_, rfl, hJ, fun _ => rfl, fun _ _ _ h => h⟩
    | 2, _ =>
      cases ho
      exact wpOp_field rfl rfl rfl (hI.slot 1 19 rfl (hpre ⟨1, .data⟩ (by simp) rfl) rfl) (field58_1 A w') ⟨_, rfl, hJ, fun _ => rfl, fun _ _ _ h => h⟩
    | 3, _ =>
      cases ho
      exact wpOp_load rfl rfl rfl (hI.slot 2 20 rfl (hpre ⟨2, .data⟩ (by simp) rfl) rfl) (load_cell (Try.isAgg3 w') ((hJ.cell (p := ⟨A, 3, none⟩) HLT.out.1).trans a3)) ⟨_, rfl, hJ, fun _ => rfl, fun _ _ _ h => h⟩
    | 4, _ =>
      cases ho
      exact wpOp_move rfl rfl (.inl rfl) (hI.kept (t := 1) (by kernel_rfl)) ⟨_, rfl, hJ, fun _ => rfl, fun _ _ _ h => h⟩
    | 5, _ =>
      cases ho
      exact wpOp_nilCheck rfl rfl rfl (hI.slot 4 22 rfl (hpre ⟨4, .data⟩ (by simp) rfl) rfl) ⟨_, rfl, hJ, fun _ => rfl, fun _ _ _ h => h⟩
    | 6, _ =>
      cases ho
      exact wpOp_field rfl rfl rfl (hI.slot 5 23 rfl (hpre ⟨5, .data⟩ (by simp) rfl) rfl) (field58_1 B w') ⟨_, rfl, hJ, fun _ => rfl, fun _ _ _ h => h⟩
    | 7, _ =>
      cases ho
      exact wpOp_load rfl rfl rfl (hI.slot 6 24 rfl (hpre ⟨6, .data⟩ (by simp) rfl) rfl) (load_cell (Try.isAgg3 w') ((hJ.cell (p := ⟨B, 3, none⟩) HLT.out.2).trans c3)) ⟨_, rfl, hJ, fun _ => rfl, fun _ _ _ h => h⟩
    | 8, _ =>
      cases ho
      exact wpOp_bin rfl rfl rfl (hI.slot 3 21 rfl (hpre ⟨3, .data⟩ (by simp) rfl) rfl) (hI.slot 7 25 rfl (hpre ⟨7, .data⟩ (by simp) rfl) rfl) (by simp [go_sem]) (hq0 _) ⟨_, rfl, hJ, fun _ => rfl, fun _ _ _ h => h⟩
    | 9, _ =>
      cases ho
      exact wpOp_move rfl rfl (.inl rfl) (hI.slot 8 26 rfl (hpre ⟨8, .data⟩ (by simp) rfl) rfl) ⟨_, rfl, hJ, fun _ => rfl, fun _ _ _ h => h⟩
    | 10, _ =>
      cases ho
      have eg := (hI.slot 9 27 rfl (hpre ⟨9, .guard⟩ (by simp) rfl) rfl)
      by_cases hg : (b0) = true
      case neg =>
        exact wpOp_off rfl (wantedOff (j := 9) (b := true) (b' := b0) rfl rfl rfl (by rw [hI.len]; show _ < 71; decide) eg hg) ⟨_, rfl, hJ, fun _ h => absurd h hg, fun _ _ _ h => h⟩
      exact wpOp_move rfl (wantedOf (j := 9) (b := true) rfl rfl rfl (by rw [hI.len]; show _ < 71; decide) (eg.trans (congrArg Value.bool hg))) (.inl rfl) (hI.kept (t := 0) (by kernel_rfl)) ⟨_, rfl, hJ, fun _ _ => rfl, fun _ _ _ h => h⟩
    | 11, _ =>
      cases ho
      have eg := (hI.slot 9 27 rfl (hpre ⟨9, .guard⟩ (by simp) rfl) rfl)
      by_cases hg : (b0) = true
      case neg =>
        exact wpOp_off rfl (wantedOff (j := 9) (b := true) (b' := b0) rfl rfl rfl (by rw [hI.len]; show _ < 71; decide) eg hg) ⟨_, rfl, hJ, fun _ h => absurd h hg, fun _ _ _ h => h⟩
      exact wpOp_nilCheck rfl (wantedOf (j := 9) (b := true) rfl rfl rfl (by rw [hI.len]; show _ < 71; decide) (eg.trans (congrArg Value.bool hg))) rfl ((hI.slot 10 28 rfl (hpre ⟨10, .data⟩ (by simp) rfl) rfl) hg) ⟨_, rfl, hJ, fun _ _ => rfl, fun _ _ _ h => h⟩
    | 12, _ =>
      cases ho
      have eg := (hI.slot 9 27 rfl (hpre ⟨9, .guard⟩ (by simp) rfl) rfl)
      by_cases hg : (b0) = true
      case neg =>
        exact wpOp_off rfl (wantedOff (j := 9) (b := true) (b' := b0) rfl rfl rfl (by rw [hI.len]; show _ < 71; decide) eg hg) ⟨_, rfl, hJ, fun _ h => absurd h hg, fun _ _ _ h => h⟩
      exact wpOp_field rfl (wantedOf (j := 9) (b := true) rfl rfl rfl (by rw [hI.len]; show _ < 71; decide) (eg.trans (congrArg Value.bool hg))) rfl ((hI.slot 11 29 rfl (hpre ⟨11, .data⟩ (by simp) rfl) rfl) hg) (field58_0 A w') ⟨_, rfl, hJ, fun _ _ => rfl, fun _ _ _ h => h⟩
    | 13, _ =>
      cases ho
      have eg := (hI.slot 9 27 rfl (hpre ⟨9, .guard⟩ (by simp) rfl) rfl)
      by_cases hg : (b0) = true
      case neg =>
        exact wpOp_off rfl (wantedOff (j := 9) (b := true) (b' := b0) rfl rfl rfl (by rw [hI.len]; show _ < 71; decide) eg hg) ⟨_, rfl, hJ, fun _ h => absurd h hg, fun _ _ _ h => h⟩
      exact wpOp_load rfl (wantedOf (j := 9) (b := true) rfl rfl rfl (by rw [hI.len]; show _ < 71; decide) (eg.trans (congrArg Value.bool hg))) rfl ((hI.slot 12 30 rfl (hpre ⟨12, .data⟩ (by simp) rfl) rfl) hg) (load_arming ((hJ.cell (p := ⟨A, 0, none⟩) HLT.out.1).trans a0) ((hJ.cell (p := ⟨A, 1, none⟩) HLT.out.1).trans a1) ((hJ.cell (p := ⟨A, 2, none⟩) HLT.out.1).trans a2)) ⟨_, rfl, hJ, fun _ _ => rfl, fun _ _ _ h => h⟩
    | 14, _ =>
      cases ho
      have eg := (hI.slot 9 27 rfl (hpre ⟨9, .guard⟩ (by simp) rfl) rfl)
      by_cases hg : (b0) = true
      case neg =>
        exact wpOp_off rfl (wantedOff (j := 9) (b := true) (b' := b0) rfl rfl rfl (by rw [hI.len]; show _ < 71; decide) eg hg) ⟨_, rfl, hJ, fun _ h => absurd h hg, fun _ _ _ h => h⟩
      exact wpOp_move rfl (wantedOf (j := 9) (b := true) rfl rfl rfl (by rw [hI.len]; show _ < 71; decide) (eg.trans (congrArg Value.bool hg))) (.inl rfl) (hI.kept (t := 1) (by kernel_rfl)) ⟨_, rfl, hJ, fun _ _ => rfl, fun _ _ _ h => h⟩
    | 15, _ =>
      cases ho
      have eg := (hI.slot 9 27 rfl (hpre ⟨9, .guard⟩ (by simp) rfl) rfl)
      by_cases hg : (b0) = true
      case neg =>
        exact wpOp_off rfl (wantedOff (j := 9) (b := true) (b' := b0) rfl rfl rfl (by rw [hI.len]; show _ < 71; decide) eg hg) ⟨_, rfl, hJ, fun _ h => absurd h hg, fun _ _ _ h => h⟩
      exact wpOp_nilCheck rfl (wantedOf (j := 9) (b := true) rfl rfl rfl (by rw [hI.len]; show _ < 71; decide) (eg.trans (congrArg Value.bool hg))) rfl ((hI.slot 14 32 rfl (hpre ⟨14, .data⟩ (by simp) rfl) rfl) hg) ⟨_, rfl, hJ, fun _ _ => rfl, fun _ _ _ h => h⟩
    | 16, _ =>
      cases ho
      have eg := (hI.slot 9 27 rfl (hpre ⟨9, .guard⟩ (by simp) rfl) rfl)
      by_cases hg : (b0) = true
      case neg =>
        exact wpOp_off rfl (wantedOff (j := 9) (b := true) (b' := b0) rfl rfl rfl (by rw [hI.len]; show _ < 71; decide) eg hg) ⟨_, rfl, hJ, fun _ h => absurd h hg, fun _ _ _ h => h⟩
      exact wpOp_field rfl (wantedOf (j := 9) (b := true) rfl rfl rfl (by rw [hI.len]; show _ < 71; decide) (eg.trans (congrArg Value.bool hg))) rfl ((hI.slot 15 33 rfl (hpre ⟨15, .data⟩ (by simp) rfl) rfl) hg) (field58_0 B w') ⟨_, rfl, hJ, fun _ _ => rfl, fun _ _ _ h => h⟩
    | 17, _ =>
      cases ho
      have eg := (hI.slot 9 27 rfl (hpre ⟨9, .guard⟩ (by simp) rfl) rfl)
      by_cases hg : (b0) = true
      case neg =>
        exact wpOp_off rfl (wantedOff (j := 9) (b := true) (b' := b0) rfl rfl rfl (by rw [hI.len]; show _ < 71; decide) eg hg) ⟨_, rfl, hJ, fun _ h => absurd h hg, fun _ _ _ h => h⟩
      exact wpOp_load rfl (wantedOf (j := 9) (b := true) rfl rfl rfl (by rw [hI.len]; show _ < 71; decide) (eg.trans (congrArg Value.bool hg))) rfl ((hI.slot 16 34 rfl (hpre ⟨16, .data⟩ (by simp) rfl) rfl) hg) (load_arming ((hJ.cell (p := ⟨B, 0, none⟩) HLT.out.2).trans c0) ((hJ.cell (p := ⟨B, 1, none⟩) HLT.out.2).trans c1) ((hJ.cell (p := ⟨B, 2, none⟩) HLT.out.2).trans c2)) ⟨_, rfl, hJ, fun _ _ => rfl, fun _ _ _ h => h⟩
    | 18, _ =>
      cases ho
      have eg := (hI.slot 9 27 rfl (hpre ⟨9, .guard⟩ (by simp) rfl) rfl)
      by_cases hg : (b0) = true
      case neg =>
        exact wpOp_off rfl (wantedOff (j := 9) (b := true) (b' := b0) rfl rfl rfl (by rw [hI.len]; show _ < 71; decide) eg hg) ⟨_, rfl, hJ, fun _ h => absurd h hg, fun _ _ _ h => h⟩
      exact wpOp_bin rfl (wantedOf (j := 9) (b := true) rfl rfl rfl (by rw [hI.len]; show _ < 71; decide) (eg.trans (congrArg Value.bool hg))) rfl ((hI.slot 13 31 rfl (hpre ⟨13, .data⟩ (by simp) rfl) rfl) hg) ((hI.slot 17 35 rfl (hpre ⟨17, .data⟩ (by simp) rfl) rfl) hg) (guard_arming _ _ _ _ _ _ _ _ _) (hq1 _) ⟨_, rfl, hJ, fun _ _ => rfl, fun _ _ _ h => h⟩
    | 19, _ =>
      cases ho
      exact wpOp_pick3 (v := .bool (b1)) (u := .bool false) rfl rfl rfl (hI.slot 9 27 rfl (hpre ⟨9, .data⟩ (by simp) rfl) rfl) (fun h => ((hI.slot 18 36 rfl (hpre ⟨18, .data⟩ (by simp) rfl) rfl) h)) (fun h => rfl) ⟨_, rfl, hJ, fun _ => pick_and (b0) (b1), fun _ _ _ h => h⟩
    | 20, _ =>
      cases ho
      exact wpOp_move rfl rfl (.inl rfl) (hI.slot 19 37 rfl (hpre ⟨19, .data⟩ (by simp) rfl) rfl) ⟨_, rfl, hJ, fun _ => rfl, fun _ _ _ h => h⟩
    | 21, _ =>
      cases ho
      have eg := (hI.slot 20 38 rfl (hpre ⟨20, .guard⟩ (by simp) rfl) rfl)
      by_cases hg : ((b0 && b1)) = true
      case neg =>
        exact wpOp_off rfl (wantedOff (j := 20) (b := true) (b' := (b0 && b1)) rfl rfl rfl (by rw [hI.len]; show _ < 71; decide) eg hg) ⟨_, rfl, hJ, fun _ h => absurd h hg, fun _ _ _ h => h⟩
      exact wpOp_move rfl (wantedOf (j := 20) (b := true) rfl rfl rfl (by rw [hI.len]; show _ < 71; decide) (eg.trans (congrArg Value.bool hg))) (.inl rfl) (hI.kept (t := 0) (by kernel_rfl)) ⟨_, rfl, hJ, fun _ _ => rfl, fun _ _ _ h => h⟩
    | 22, _ =>
      cases ho
      have eg := (hI.slot 20 38 rfl (hpre ⟨20, .guard⟩ (by simp) rfl) rfl)
      by_cases hg : ((b0 && b1)) = true
      case neg =>
        exact wpOp_off rfl (wantedOff (j := 20) (b := true) (b' := (b0 && b1)) rfl rfl rfl (by rw [hI.len]; show _ < 71; decide) eg hg) ⟨_, rfl, hJ, fun _ h => absurd h hg, fun _ _ _ h => h⟩
      exact wpOp_nilCheck rfl (wantedOf (j := 20) (b := true) rfl rfl rfl (by rw [hI.len]; show _ < 71; decide) (eg.trans (congrArg Value.bool hg))) rfl ((hI.slot 21 39 rfl (hpre ⟨21, .data⟩ (by simp) rfl) rfl) hg) ⟨_, rfl, hJ, fun _ _ => rfl, fun _ _ _ h => h⟩
    | 23, _ =>
      cases ho
      have eg := (hI.slot 20 38 rfl (hpre ⟨20, .guard⟩ (by simp) rfl) rfl)
      by_cases hg : ((b0 && b1)) = true
      case neg =>
        exact wpOp_off rfl (wantedOff (j := 20) (b := true) (b' := (b0 && b1)) rfl rfl rfl (by rw [hI.len]; show _ < 71; decide) eg hg) ⟨_, rfl, hJ, fun _ h => absurd h hg, fun _ _ _ h => h⟩
      exact wpOp_field rfl (wantedOf (j := 20) (b := true) rfl rfl rfl (by rw [hI.len]; show _ < 71; decide) (eg.trans (congrArg Value.bool hg))) rfl ((hI.slot 22 40 rfl (hpre ⟨22, .data⟩ (by simp) rfl) rfl) hg) (field58_5 A w') ⟨_, rfl, hJ, fun _ _ => rfl, fun _ _ _ h => h⟩
    | 24, _ =>
      cases ho
      have eg := (hI.slot 20 38 rfl (hpre ⟨20, .guard⟩ (by simp) rfl) rfl)
      by_cases hg : ((b0 && b1)) = true
      case neg =>
        exact wpOp_off rfl (wantedOff (j := 20) (b := true) (b' := (b0 && b1)) rfl rfl rfl (by rw [hI.len]; show _ < 71; decide) eg hg) ⟨_, rfl, hJ, fun _ h => absurd h hg, fun _ _ _ h => h⟩
      exact wpOp_load rfl (wantedOf (j := 20) (b := true) rfl rfl rfl (by rw [hI.len]; show _ < 71; decide) (eg.trans (congrArg Value.bool hg))) rfl ((hI.slot 23 41 rfl (hpre ⟨23, .data⟩ (by simp) rfl) rfl) hg) (load_cell (Try.isAgg70 w') ((hJ.cell (p := ⟨A, 7, none⟩) HLT.out.1).trans a7)) ⟨_, rfl, hJ, fun _ _ => rfl, fun _ _ _ h => h⟩
    | 25, _ =>
      cases ho
      have eg := (hI.slot 20 38 rfl (hpre ⟨20, .guard⟩ (by simp) rfl) rfl)
      by_cases hg : ((b0 && b1)) = true
      case neg =>
        exact wpOp_off rfl (wantedOff (j := 20) (b := true) (b' := (b0 && b1)) rfl rfl rfl (by rw [hI.len]; show _ < 71; decide) eg hg) ⟨_, rfl, hJ, fun _ h => absurd h hg, fun _ _ _ h => h⟩
      exact wpOp_move rfl (wantedOf (j := 20) (b := true) rfl rfl rfl (by rw [hI.len]; show _ < 71; decide) (eg.trans (congrArg Value.bool hg))) (.inl rfl) (hI.kept (t := 1) (by kernel_rfl)) ⟨_, rfl, hJ, fun _ _ => rfl, fun _ _ _ h => h⟩
    | 26, _ =>
      cases ho
      have eg := (hI.slot 20 38 rfl (hpre ⟨20, .guard⟩ (by simp) rfl) rfl)
      by_cases hg : ((b0 && b1)) = true
      case neg =>
        exact wpOp_off rfl (wantedOff (j := 20) (b := true) (b' := (b0 && b1)) rfl rfl rfl (by rw [hI.len]; show _ < 71; decide) eg hg) ⟨_, rfl, hJ, fun _ h => absurd h hg, fun _ _ _ h => h⟩
      exact wpOp_nilCheck rfl (wantedOf (j := 20) (b := true) rfl rfl rfl (by rw [hI.len]; show _ < 71; decide) (eg.trans (congrArg Value.bool hg))) rfl ((hI.slot 25 43 rfl (hpre ⟨25, .data⟩ (by simp) rfl) rfl) hg) ⟨_, rfl, hJ, fun _ _ => rfl, fun _ _ _ h => h⟩
    | 27, _ =>
      cases ho
      have eg := (hI.slot 20 38 rfl (hpre ⟨20, .guard⟩ (by simp) rfl) rfl)
      by_cases hg : ((b0 && b1)) = true
      case neg =>
        exact wpOp_off rfl (wantedOff (j := 20) (b := true) (b' := (b0 && b1)) rfl rfl rfl (by rw [hI.len]; show _ < 71; decide) eg hg) ⟨_, rfl, hJ, fun _ h => absurd h hg, fun _ _ _ h => h⟩
      exact wpOp_field rfl (wantedOf (j := 20) (b := true) rfl rfl rfl (by rw [hI.len]; show _ < 71; decide) (eg.trans (congrArg Value.bool hg))) rfl ((hI.slot 26 44 rfl (hpre ⟨26, .data⟩ (by simp) rfl) rfl) hg) (field58_5 B w') ⟨_, rfl, hJ, fun _ _ => rfl, fun _ _ _ h => h⟩
    | 28, _ =>
      cases ho
      have eg := (hI.slot 20 38 rfl (hpre ⟨20, .guard⟩ (by simp) rfl) rfl)
      by_cases hg : ((b0 && b1)) = true
      case neg =>
        exact wpOp_off rfl (wantedOff (j := 20) (b := true) (b' := (b0 && b1)) rfl rfl rfl (by rw [hI.len]; show _ < 71; decide) eg hg) ⟨_, rfl, hJ, fun _ h => absurd h hg, fun _ _ _ h => h⟩
      exact wpOp_load rfl (wantedOf (j := 20) (b := true) rfl rfl rfl (by rw [hI.len]; show _ < 71; decide) (eg.trans (congrArg Value.bool hg))) rfl ((hI.slot 27 45 rfl (hpre ⟨27, .data⟩ (by simp) rfl) rfl) hg) (load_cell (Try.isAgg70 w') ((hJ.cell (p := ⟨B, 7, none⟩) HLT.out.2).trans c7)) ⟨_, rfl, hJ, fun _ _ => rfl, fun _ _ _ h => h⟩
    | 29, _ =>
      cases ho
      have eg := (hI.slot 20 38 rfl (hpre ⟨20, .chain⟩ (by simp) rfl) rfl)
      by_cases hg : ((b0 && b1)) = true
      case neg =>
        exact wpOp_off rfl (wantedOff (j := 20) (b := true) (b' := (b0 && b1)) rfl rfl rfl (by rw [hI.len]; show _ < 71; decide) eg hg) ⟨_, rfl, hJ, fun _ h => absurd h hg, fun _ _ _ h => h⟩
      refine wpOp_callFn rfl (wantedOf (j := 20) (b := true) rfl rfl rfl (by rw [hI.len]; show _ < 71; decide) (eg.trans (congrArg Value.bool hg))) rfl (vs := #[va, vb]) (by simp only [List.map_toArray, List.map_cons, List.map_nil, (show a.eval (.tmp 42) = va from ((hI.slot 24 42 rfl (hpre ⟨24, .data⟩ (by simp) rfl) rfl) hg)), (show a.eval (.tmp 46) = vb from ((hI.slot 28 46 rfl (hpre ⟨28, .data⟩ (by simp) rfl) rfl) hg))]) (fun _ _ => by kernel_rfl) ((HC1.out w' hJ).mono ?_)
      rintro e' w2 ⟨r, rfl, hr, hb2⟩
      exact ⟨_, rfl, _, rfl, hJ.trans (hb2.mono hJ.size), fun _ _ => congrArg Value.bool (Bool.eq_iff_iff.2 (hr.trans HB2.out.symm)), fun j u _ h => SmV.below hb2 j u h⟩
    | 30, _ =>
      cases ho
      exact wpOp_pick3 (v := .bool (b2)) (u := .bool false) rfl rfl rfl (hI.slot 20 38 rfl (hpre ⟨20, .data⟩ (by simp) rfl) rfl) (fun h => ((hI.slot 29 47 rfl (hpre ⟨29, .data⟩ (by simp) rfl) rfl) h)) (fun h => rfl) ⟨_, rfl, hJ, fun _ => pick_and ((b0 && b1)) (b2), fun _ _ _ h => h⟩
    | 31, _ =>
      cases ho
      exact wpOp_move rfl rfl (.inl rfl) (hI.slot 30 48 rfl (hpre ⟨30, .data⟩ (by simp) rfl) rfl) ⟨_, rfl, hJ, fun _ => rfl, fun _ _ _ h => h⟩
    | 32, _ =>
      cases ho
      have eg := (hI.slot 31 49 rfl (hpre ⟨31, .guard⟩ (by simp) rfl) rfl)
      by_cases hg : (((b0 && b1) && b2)) = true
      case neg =>
        exact wpOp_off rfl (wantedOff (j := 31) (b := true) (b' := ((b0 && b1) && b2)) rfl rfl rfl (by rw [hI.len]; show _ < 71; decide) eg hg) ⟨_, rfl, hJ, fun _ h => absurd h hg, fun _ _ _ h => h⟩
      exact wpOp_move rfl (wantedOf (j := 31) (b := true) rfl rfl rfl (by rw [hI.len]; show _ < 71; decide) (eg.trans (congrArg Value.bool hg))) (.inl rfl) (hI.kept (t := 0) (by kernel_rfl)) ⟨_, rfl, hJ, fun _ _ => rfl, fun _ _ _ h => h⟩
    | 33, _ =>
      cases ho
      have eg := (hI.slot 31 49 rfl (hpre ⟨31, .guard⟩ (by simp) rfl) rfl)
      by_cases hg : (((b0 && b1) && b2)) = true
      case neg =>
        exact wpOp_off rfl (wantedOff (j := 31) (b := true) (b' := ((b0 && b1) && b2)) rfl rfl rfl (by rw [hI.len]; show _ < 71; decide) eg hg) ⟨_, rfl, hJ, fun _ h => absurd h hg, fun _ _ _ h => h⟩
      exact wpOp_nilCheck rfl (wantedOf (j := 31) (b := true) rfl rfl rfl (by rw [hI.len]; show _ < 71; decide) (eg.trans (congrArg Value.bool hg))) rfl ((hI.slot 32 50 rfl (hpre ⟨32, .data⟩ (by simp) rfl) rfl) hg) ⟨_, rfl, hJ, fun _ _ => rfl, fun _ _ _ h => h⟩
    | 34, _ =>
      cases ho
      have eg := (hI.slot 31 49 rfl (hpre ⟨31, .guard⟩ (by simp) rfl) rfl)
      by_cases hg : (((b0 && b1) && b2)) = true
      case neg =>
        exact wpOp_off rfl (wantedOff (j := 31) (b := true) (b' := ((b0 && b1) && b2)) rfl rfl rfl (by rw [hI.len]; show _ < 71; decide) eg hg) ⟨_, rfl, hJ, fun _ h => absurd h hg, fun _ _ _ h => h⟩
      exact wpOp_field rfl (wantedOf (j := 31) (b := true) rfl rfl rfl (by rw [hI.len]; show _ < 71; decide) (eg.trans (congrArg Value.bool hg))) rfl ((hI.slot 33 51 rfl (hpre ⟨33, .data⟩ (by simp) rfl) rfl) hg) (field58_3 A w') ⟨_, rfl, hJ, fun _ _ => rfl, fun _ _ _ h => h⟩
    | 35, _ =>
      cases ho
      have eg := (hI.slot 31 49 rfl (hpre ⟨31, .guard⟩ (by simp) rfl) rfl)
      by_cases hg : (((b0 && b1) && b2)) = true
      case neg =>
        exact wpOp_off rfl (wantedOff (j := 31) (b := true) (b' := ((b0 && b1) && b2)) rfl rfl rfl (by rw [hI.len]; show _ < 71; decide) eg hg) ⟨_, rfl, hJ, fun _ h => absurd h hg, fun _ _ _ h => h⟩
      exact wpOp_load rfl (wantedOf (j := 31) (b := true) rfl rfl rfl (by rw [hI.len]; show _ < 71; decide) (eg.trans (congrArg Value.bool hg))) rfl ((hI.slot 34 52 rfl (hpre ⟨34, .data⟩ (by simp) rfl) rfl) hg) (load_cell (Try.isAgg59 w') ((hJ.cell (p := ⟨A, 5, none⟩) HLT.out.1).trans a5)) ⟨_, rfl, hJ, fun _ _ => rfl, fun _ _ _ h => h⟩
    | 36, _ =>
      cases ho
      have eg := (hI.slot 31 49 rfl (hpre ⟨31, .guard⟩ (by simp) rfl) rfl)
      by_cases hg : (((b0 && b1) && b2)) = true
      case neg =>
        exact wpOp_off rfl (wantedOff (j := 31) (b := true) (b' := ((b0 && b1) && b2)) rfl rfl rfl (by rw [hI.len]; show _ < 71; decide) eg hg) ⟨_, rfl, hJ, fun _ h => absurd h hg, fun _ _ _ h => h⟩
      exact wpOp_move rfl (wantedOf (j := 31) (b := true) rfl rfl rfl (by rw [hI.len]; show _ < 71; decide) (eg.trans (congrArg Value.bool hg))) (.inl rfl) (hI.kept (t := 1) (by kernel_rfl)) ⟨_, rfl, hJ, fun _ _ => rfl, fun _ _ _ h => h⟩
    | 37, _ =>
      cases ho
      have eg := (hI.slot 31 49 rfl (hpre ⟨31, .guard⟩ (by simp) rfl) rfl)
      by_cases hg : (((b0 && b1) && b2)) = true
      case neg =>
        exact wpOp_off rfl (wantedOff (j := 31) (b := true) (b' := ((b0 && b1) && b2)) rfl rfl rfl (by rw [hI.len]; show _ < 71; decide) eg hg) ⟨_, rfl, hJ, fun _ h => absurd h hg, fun _ _ _ h => h⟩
      exact wpOp_nilCheck rfl (wantedOf (j := 31) (b := true) rfl rfl rfl (by rw [hI.len]; show _ < 71; decide) (eg.trans (congrArg Value.bool hg))) rfl ((hI.slot 36 54 rfl (hpre ⟨36, .data⟩ (by simp) rfl) rfl) hg) ⟨_, rfl, hJ, fun _ _ => rfl, fun _ _ _ h => h⟩
    | 38, _ =>
      cases ho
      have eg := (hI.slot 31 49 rfl (hpre ⟨31, .guard⟩ (by simp) rfl) rfl)
      by_cases hg : (((b0 && b1) && b2)) = true
      case neg =>
        exact wpOp_off rfl (wantedOff (j := 31) (b := true) (b' := ((b0 && b1) && b2)) rfl rfl rfl (by rw [hI.len]; show _ < 71; decide) eg hg) ⟨_, rfl, hJ, fun _ h => absurd h hg, fun _ _ _ h => h⟩
      exact wpOp_field rfl (wantedOf (j := 31) (b := true) rfl rfl rfl (by rw [hI.len]; show _ < 71; decide) (eg.trans (congrArg Value.bool hg))) rfl ((hI.slot 37 55 rfl (hpre ⟨37, .data⟩ (by simp) rfl) rfl) hg) (field58_3 B w') ⟨_, rfl, hJ, fun _ _ => rfl, fun _ _ _ h => h⟩
    | 39, _ =>
      cases ho
      have eg := (hI.slot 31 49 rfl (hpre ⟨31, .guard⟩ (by simp) rfl) rfl)
      by_cases hg : (((b0 && b1) && b2)) = true
      case neg =>
        exact wpOp_off rfl (wantedOff (j := 31) (b := true) (b' := ((b0 && b1) && b2)) rfl rfl rfl (by rw [hI.len]; show _ < 71; decide) eg hg) ⟨_, rfl, hJ, fun _ h => absurd h hg, fun _ _ _ h => h⟩
      exact wpOp_load rfl (wantedOf (j := 31) (b := true) rfl rfl rfl (by rw [hI.len]; show _ < 71; decide) (eg.trans (congrArg Value.bool hg))) rfl ((hI.slot 38 56 rfl (hpre ⟨38, .data⟩ (by simp) rfl) rfl) hg) (load_cell (Try.isAgg59 w') ((hJ.cell (p := ⟨B, 5, none⟩) HLT.out.2).trans c5)) ⟨_, rfl, hJ, fun _ _ => rfl, fun _ _ _ h => h⟩
    | 40, _ =>
      cases ho
      have eg := (hI.slot 31 49 rfl (hpre ⟨31, .chain⟩ (by simp) rfl) rfl)
      by_cases hg : (((b0 && b1) && b2)) = true
      case neg =>
        exact wpOp_off rfl (wantedOff (j := 31) (b := true) (b' := ((b0 && b1) && b2)) rfl rfl rfl (by rw [hI.len]; show _ < 71; decide) eg hg) ⟨_, rfl, hJ, fun _ h => absurd h hg, fun _ _ _ h => h⟩
      refine wpOp_callFn rfl (wantedOf (j := 31) (b := true) rfl rfl rfl (by rw [hI.len]; show _ < 71; decide) (eg.trans (congrArg Value.bool hg))) rfl (vs := #[.map (some al), .map (some bl)]) (by simp only [List.map_toArray, List.map_cons, List.map_nil, (show a.eval (.tmp 53) = .map (some al) from ((hI.slot 35 53 rfl (hpre ⟨35, .data⟩ (by simp) rfl) rfl) hg)), (show a.eval (.tmp 57) = .map (some bl) from ((hI.slot 39 57 rfl (hpre ⟨39, .data⟩ (by simp) rfl) rfl) hg))]) (fun _ _ => by kernel_rfl) ((HC2.out w' hJ).mono ?_)
      rintro e' w2 ⟨r, rfl, hr, hb2⟩
      exact ⟨_, rfl, _, rfl, hJ.trans (hb2.mono hJ.size), fun _ _ => congrArg Value.bool (Bool.eq_iff_iff.2 (hr.trans HB3.out.symm)), fun j u _ h => SmV.below hb2 j u h⟩
    | 41, _ =>
      cases ho
      exact wpOp_pick3 (v := .bool (b3)) (u := .bool false) rfl rfl rfl (hI.slot 31 49 rfl (hpre ⟨31, .data⟩ (by simp) rfl) rfl) (fun h => ((hI.slot 40 58 rfl (hpre ⟨40, .data⟩ (by simp) rfl) rfl) h)) (fun h => rfl) ⟨_, rfl, hJ, fun _ => pick_and (((b0 && b1) && b2)) (b3), fun _ _ _ h => h⟩
    | 42, _ =>
      cases ho
      exact wpOp_move rfl rfl (.inl rfl) (hI.slot 41 59 rfl (hpre ⟨41, .data⟩ (by simp) rfl) rfl) ⟨_, rfl, hJ, fun _ => rfl, fun _ _ _ h => h⟩
    | 43, _ =>
      cases ho
      have eg := (hI.slot 42 60 rfl (hpre ⟨42, .guard⟩ (by simp) rfl) rfl)
      by_cases hg : ((((b0 && b1) && b2) && b3)) = true
      case neg =>
        exact wpOp_off rfl (wantedOff (j := 42) (b := true) (b' := (((b0 && b1) && b2) && b3)) rfl rfl rfl (by rw [hI.len]; show _ < 71; decide) eg hg) ⟨_, rfl, hJ, fun _ h => absurd h hg, fun _ _ _ h => h⟩
      exact wpOp_move rfl (wantedOf (j := 42) (b := true) rfl rfl rfl (by rw [hI.len]; show _ < 71; decide) (eg.trans (congrArg Value.bool hg))) (.inl rfl) (hI.kept (t := 1) (by kernel_rfl)) ⟨_, rfl, hJ, fun _ _ => rfl, fun _ _ _ h => h⟩
    | 44, _ =>
      cases ho
      have eg := (hI.slot 42 60 rfl (hpre ⟨42, .guard⟩ (by simp) rfl) rfl)
      by_cases hg : ((((b0 && b1) && b2) && b3)) = true
      case neg =>
        exact wpOp_off rfl (wantedOff (j := 42) (b := true) (b' := (((b0 && b1) && b2) && b3)) rfl rfl rfl (by rw [hI.len]; show _ < 71; decide) eg hg) ⟨_, rfl, hJ, fun _ h => absurd h hg, fun _ _ _ h => h⟩
      exact wpOp_nilCheck rfl (wantedOf (j := 42) (b := true) rfl rfl rfl (by rw [hI.len]; show _ < 71; decide) (eg.trans (congrArg Value.bool hg))) rfl ((hI.slot 43 61 rfl (hpre ⟨43, .data⟩ (by simp) rfl) rfl) hg) ⟨_, rfl, hJ, fun _ _ => rfl, fun _ _ _ h => h⟩
    | 45, _ =>
      cases ho
      have eg := (hI.slot 42 60 rfl (hpre ⟨42, .guard⟩ (by simp) rfl) rfl)
      by_cases hg : ((((b0 && b1) && b2) && b3)) = true
      case neg =>
        exact wpOp_off rfl (wantedOff (j := 42) (b := true) (b' := (((b0 && b1) && b2) && b3)) rfl rfl rfl (by rw [hI.len]; show _ < 71; decide) eg hg) ⟨_, rfl, hJ, fun _ h => absurd h hg, fun _ _ _ h => h⟩
      exact wpOp_field rfl (wantedOf (j := 42) (b := true) rfl rfl rfl (by rw [hI.len]; show _ < 71; decide) (eg.trans (congrArg Value.bool hg))) rfl ((hI.slot 44 62 rfl (hpre ⟨44, .data⟩ (by simp) rfl) rfl) hg) (field58_3 B w') ⟨_, rfl, hJ, fun _ _ => rfl, fun _ _ _ h => h⟩
    | 46, _ =>
      cases ho
      have eg := (hI.slot 42 60 rfl (hpre ⟨42, .guard⟩ (by simp) rfl) rfl)
      by_cases hg : ((((b0 && b1) && b2) && b3)) = true
      case neg =>
        exact wpOp_off rfl (wantedOff (j := 42) (b := true) (b' := (((b0 && b1) && b2) && b3)) rfl rfl rfl (by rw [hI.len]; show _ < 71; decide) eg hg) ⟨_, rfl, hJ, fun _ h => absurd h hg, fun _ _ _ h => h⟩
      exact wpOp_load rfl (wantedOf (j := 42) (b := true) rfl rfl rfl (by rw [hI.len]; show _ < 71; decide) (eg.trans (congrArg Value.bool hg))) rfl ((hI.slot 45 63 rfl (hpre ⟨45, .data⟩ (by simp) rfl) rfl) hg) (load_cell (Try.isAgg59 w') ((hJ.cell (p := ⟨B, 5, none⟩) HLT.out.2).trans c5)) ⟨_, rfl, hJ, fun _ _ => rfl, fun _ _ _ h => h⟩
    | 47, _ =>
      cases ho
      have eg := (hI.slot 42 60 rfl (hpre ⟨42, .guard⟩ (by simp) rfl) rfl)
      by_cases hg : ((((b0 && b1) && b2) && b3)) = true
      case neg =>
        exact wpOp_off rfl (wantedOff (j := 42) (b := true) (b' := (((b0 && b1) && b2) && b3)) rfl rfl rfl (by rw [hI.len]; show _ < 71; decide) eg hg) ⟨_, rfl, hJ, fun _ h => absurd h hg, fun _ _ _ h => h⟩
      exact wpOp_move rfl (wantedOf (j := 42) (b := true) rfl rfl rfl (by rw [hI.len]; show _ < 71; decide) (eg.trans (congrArg Value.bool hg))) (.inl rfl) (hI.kept (t := 0) (by kernel_rfl)) ⟨_, rfl, hJ, fun _ _ => rfl, fun _ _ _ h => h⟩
    | 48, _ =>
      cases ho
      have eg := (hI.slot 42 60 rfl (hpre ⟨42, .guard⟩ (by simp) rfl) rfl)
      by_cases hg : ((((b0 && b1) && b2) && b3)) = true
      case neg =>
        exact wpOp_off rfl (wantedOff (j := 42) (b := true) (b' := (((b0 && b1) && b2) && b3)) rfl rfl rfl (by rw [hI.len]; show _ < 71; decide) eg hg) ⟨_, rfl, hJ, fun _ h => absurd h hg, fun _ _ _ h => h⟩
      exact wpOp_nilCheck rfl (wantedOf (j := 42) (b := true) rfl rfl rfl (by rw [hI.len]; show _ < 71; decide) (eg.trans (congrArg Value.bool hg))) rfl ((hI.slot 47 65 rfl (hpre ⟨47, .data⟩ (by simp) rfl) rfl) hg) ⟨_, rfl, hJ, fun _ _ => rfl, fun _ _ _ h => h⟩
    | 49, _ =>
      cases ho
      have eg := (hI.slot 42 60 rfl (hpre ⟨42, .guard⟩ (by simp) rfl) rfl)
      by_cases hg : ((((b0 && b1) && b2) && b3)) = true
      case neg =>
        exact wpOp_off rfl (wantedOff (j := 42) (b := true) (b' := (((b0 && b1) && b2) && b3)) rfl rfl rfl (by rw [hI.len]; show _ < 71; decide) eg hg) ⟨_, rfl, hJ, fun _ h => absurd h hg, fun _ _ _ h => h⟩
      exact wpOp_field rfl (wantedOf (j := 42) (b := true) rfl rfl rfl (by rw [hI.len]; show _ < 71; decide) (eg.trans (congrArg Value.bool hg))) rfl ((hI.slot 48 66 rfl (hpre ⟨48, .data⟩ (by simp) rfl) rfl) hg) (field58_3 A w') ⟨_, rfl, hJ, fun _ _ => rfl, fun _ _ _ h => h⟩
    | 50, _ =>
      cases ho
      have eg := (hI.slot 42 60 rfl (hpre ⟨42, .guard⟩ (by simp) rfl) rfl)
      by_cases hg : ((((b0 && b1) && b2) && b3)) = true
      case neg =>
        exact wpOp_off rfl (wantedOff (j := 42) (b := true) (b' := (((b0 && b1) && b2) && b3)) rfl rfl rfl (by rw [hI.len]; show _ < 71; decide) eg hg) ⟨_, rfl, hJ, fun _ h => absurd h hg, fun _ _ _ h => h⟩
      exact wpOp_load rfl (wantedOf (j := 42) (b := true) rfl rfl rfl (by rw [hI.len]; show _ < 71; decide) (eg.trans (congrArg Value.bool hg))) rfl ((hI.slot 49 67 rfl (hpre ⟨49, .data⟩ (by simp) rfl) rfl) hg) (load_cell (Try.isAgg59 w') ((hJ.cell (p := ⟨A, 5, none⟩) HLT.out.1).trans a5)) ⟨_, rfl, hJ, fun _ _ => rfl, fun _ _ _ h => h⟩
    | 51, _ =>
      cases ho
      have eg := (hI.slot 42 60 rfl (hpre ⟨42, .chain⟩ (by simp) rfl) rfl)
      by_cases hg : ((((b0 && b1) && b2) && b3)) = true
      case neg =>
        exact wpOp_off rfl (wantedOff (j := 42) (b := true) (b' := (((b0 && b1) && b2) && b3)) rfl rfl rfl (by rw [hI.len]; show _ < 71; decide) eg hg) ⟨_, rfl, hJ, fun _ h => absurd h hg, fun _ _ _ h => h⟩
      refine wpOp_callFn rfl (wantedOf (j := 42) (b := true) rfl rfl rfl (by rw [hI.len]; show _ < 71; decide) (eg.trans (congrArg Value.bool hg))) rfl (vs := #[.map (some bl), .map (some al)]) (by simp only [List.map_toArray, List.map_cons, List.map_nil, (show a.eval (.tmp 64) = .map (some bl) from ((hI.slot 46 64 rfl (hpre ⟨46, .data⟩ (by simp) rfl) rfl) hg)), (show a.eval (.tmp 68) = .map (some al) from ((hI.slot 50 68 rfl (hpre ⟨50, .data⟩ (by simp) rfl) rfl) hg))]) (fun _ _ => by kernel_rfl) ((HC3.out w' hJ).mono ?_)
      rintro e' w2 ⟨r, rfl, hr, hb2⟩
      exact ⟨_, rfl, _, rfl, hJ.trans (hb2.mono hJ.size), fun _ _ => congrArg Value.bool (Bool.eq_iff_iff.2 (hr.trans HB4.out.symm)), fun j u _ h => SmV.below hb2 j u h⟩
    | 52, _ =>
      cases ho
      exact wpOp_pick3 (v := .bool (b4)) (u := .bool false) rfl rfl rfl (hI.slot 42 60 rfl (hpre ⟨42, .data⟩ (by simp) rfl) rfl) (fun h => ((hI.slot 51 69 rfl (hpre ⟨51, .data⟩ (by simp) rfl) rfl) h)) (fun h => rfl) ⟨_, rfl, hJ, fun _ => pick_and ((((b0 && b1) && b2) && b3)) (b4), fun _ _ _ h => h⟩
    | 53, _ =>
      cases ho
      exact wpOp_move rfl rfl (.inr rfl) (hI.slot 52 70 rfl (hpre ⟨52, .data⟩ (by simp) rfl) rfl) ⟨_, rfl, hJ, fun _ => rfl, fun _ _ _ h => h⟩
  case fin =>
    intro listed a w' hI hall
    go_wp2
    have hW := hI.inv
    have e4' : a.tmps.getD 4 undef = .bool ((((b0 && b1) && b2) && b3) && b4) := hI.slot 53 4 rfl (hall 53 (by decide)) rfl
    refine bodyPost_ret (results_tmp rfl _ _ _) hI.defers ?_
    rw [e4']
    exact ⟨_, rfl, HN.out, hW⟩
end Go.Proofs.Ytkophpipehdkmaa
/- Layer 2: a disk that is not there: nil, or one that no call made. -/
namespace Go.Proofs.Ytkophpipehdkmaa
open Go.RowKit

/-- No disk: nil, or one of no pages. -/
def Absent (w : World) (v : Value) : Prop := v = .pointer none ∨ ∃ b, v = ptr b ∧ b < w.heap.size ∧ w.cell? ⟨b, 3, none⟩ = some (.int .i64 0)
theorem Absent.below {w w' : World} {v : Value} (h : Absent w v) (hb : Below w.heap.size w w') : Absent w' v := by
  rcases h with h | ⟨b, e, h1, h2⟩
  · exact .inl h
  · exact .inr ⟨b, e, Nat.lt_of_lt_of_le h1 hb.size, (hb.cell (p := ⟨b, 3, none⟩) h1).trans h2⟩
theorem there_absent {w : World} {v : Value} (h : Absent w v) : Calls Try.prog 26 #[v] w fun e w' => e = .returned (.bool false) ∧ w = w' := by
  rcases h with rfl | ⟨b, rfl, hb, h3⟩
  · go_enter Try.func26, Try.ntmps26
    go_wp2
    go_ret
    exact ⟨rfl, rfl⟩
  · go_enter Try.func26, Try.ntmps26
    go_wp2
    go_ret
    exact ⟨rfl, rfl⟩
theorem read_absent {w : World} {v : Value} (h : Absent w v) (p : Int) : Calls Try.prog 9 #[v, .int .i64 p] w fun e w' => e = .returned (.tuple #[.slice none 0 0, .int .i64 1]) ∧ w = w' := by
  have ht := there_absent h
  go_enter Try.func9, Try.ntmps9
  go_wp2_with (go_at_call 26; refine ht.mono ?_; rintro e w' ⟨rfl, rfl⟩)
  go_ret2
  exact ⟨rfl, rfl⟩
theorem flush_absent {w : World} {v : Value} (h : Absent w v) : Calls Try.prog 18 #[v] w fun e w' => e = .returned (.int .i64 1) ∧ Below w.heap.size w w' := by
  have ht := there_absent (h.below ((Below.refl _ w).alloc (Nat.le_refl _) (.cells #[v] 25)))
  have hc := heap_alloc_last w (.cells #[v] 25)
  go_enter Try.func18, Try.ntmps18
  rcases h with rfl | ⟨b, rfl, hb, h3⟩
  · go_wp2_with (go_at_call 26; refine ht.mono ?_; rintro e w' ⟨rfl, rfl⟩)
    go_ret
    exact ⟨rfl, (Below.refl _ w).alloc (Nat.le_refl _) _⟩
  · go_wp2_with (go_at_call 26; refine ht.mono ?_; rintro e w' ⟨rfl, rfl⟩)
    go_ret
    exact ⟨rfl, (Below.refl _ w).alloc (Nat.le_refl _) _⟩
theorem arm_absent {w : World} {v : Value} (h : Absent w v) (k n : Int) : Calls Try.prog 21 #[v, .int .i64 k, .int .i64 n] w fun e w' => e = .returned (.int .i64 1) ∧ w = w' := by
  have ht := there_absent h
  go_enter Try.func21, Try.ntmps21
  go_wp2_with (go_at_call 26; refine ht.mono ?_; rintro e w' ⟨rfl, rfl⟩)
  go_ret
  exact ⟨rfl, rfl⟩
theorem dead_absent {w : World} {v : Value} (h : Absent w v) : Calls Try.prog 12 #[v] w fun e w' => e = .returned (.bool false) ∧ w = w' := by
  have ht := there_absent h
  go_enter Try.func12, Try.ntmps12
  go_wp2_with (go_at_call 26; refine ht.mono ?_; rintro e w' ⟨rfl, rfl⟩)
  go_ret
  exact ⟨rfl, rfl⟩
theorem pages_absent {w : World} {v : Value} (h : Absent w v) : Calls Try.prog 36 #[v] w fun e w' => e = .returned (.int .i64 0) ∧ w = w' := by
  have ht := there_absent h
  go_enter Try.func36, Try.ntmps36
  go_wp2_with (go_at_call 26; refine ht.mono ?_; rintro e w' ⟨rfl, rfl⟩)
  go_ret
  exact ⟨rfl, rfl⟩
theorem waits_absent {w : World} {v : Value} (h : Absent w v) : Calls Try.prog 10 #[v] w fun e w' => e = .returned (.int .i64 0) ∧ w = w' := by
  have ht := there_absent h
  go_enter Try.func10, Try.ntmps10
  go_wp2_with (go_at_call 26; refine ht.mono ?_; rintro e w' ⟨rfl, rfl⟩)
  go_ret
  exact ⟨rfl, rfl⟩
theorem steps_absent {w : World} {v : Value} (h : Absent w v) : Calls Try.prog 37 #[v] w fun e w' => e = .returned (.int .i64 0) ∧ w = w' := by
  have ht := there_absent h
  go_enter Try.func37, Try.ntmps37
  go_wp2_with (go_at_call 26; refine ht.mono ?_; rintro e w' ⟨rfl, rfl⟩)
  go_ret
  exact ⟨rfl, rfl⟩
theorem copy_absent {w : World} {v : Value} (h : Absent w v) : Calls Try.prog 15 #[v] w fun e w' => e = .returned (.pointer none) ∧ w = w' := by
  have ht := there_absent h
  go_enter Try.func15, Try.ntmps15
  go_wp2_with (go_at_call 26; refine ht.mono ?_; rintro e w' ⟨rfl, rfl⟩)
  go_ret
  exact ⟨rfl, rfl⟩
end Go.Proofs.Ytkophpipehdkmaa
/- Layer 2: is a disk the document's? -/
namespace Go.Proofs.Ytkophpipehdkmaa
open Go.RowKit

section
variable {ops : Array Oper} {o : Oper} {i : Nat} {a : Act} {w : World} {K : Act → World → Prop} {Q : Exit → Act → World → Prop}
theorem wpOp_eqBB {x y : Operand} {n : Bool} (ho : ops[i]? = some o) (hg : Region.wanted o (yielded ops a.tmps) = true) (hop : o.op = .binOp .eql 4 x y 4) (hx : a.eval x = .bool n) (hy : a.eval y = .bool n) (hK : K (a.put o.dst (.bool true)) w) : wpOp Try.prog ops Q i K a w :=
  wpOp_val ho hg (by simp only [execOp, hop, hx, hy]; simp [go_sem]) hK
theorem wpOp_eqI64 {x y : Operand} {n m : Int} {c : Bool} (ho : ops[i]? = some o) (hg : Region.wanted o (yielded ops a.tmps) = true) (hop : o.op = .binOp .eql 2 x y 2) (hx : a.eval x = .int .i64 n) (hy : a.eval y = .int .i64 m) (hc : c = (n == m)) (hK : K (a.put o.dst (.bool c)) w) : wpOp Try.prog ops Q i K a w := by
  subst hc
  exact wpOp_val ho hg (by simp only [execOp, hop, hx, hy]; simp [go_sem]) hK
theorem wpOp_lenG {T : TypeId} {x : Operand} {ao : Option Addr} {n c : Nat} (hT : Try.prog.underlying T = some (.slice (Try.prog.elem T))) (ho : ops[i]? = some o) (hg : Region.wanted o (yielded ops a.tmps) = true) (hop : o.op = .call { callee := .builtin .len, args := #[x], argTypes := #[T] }) (hx : a.eval x = .slice ao n c) (hK : K (a.put o.dst (.int .i64 n)) w) : wpOp Try.prog ops Q i K a w :=
  wpOp_val (v := .int .i64 n) (w' := w) ho hg (by simp only [execOp, hop, resolve, invoke, Go.builtin, List.map_toArray, List.map_cons, List.map_nil, hx, Sem.run_bind, Sem.run_pure, Result.andThen_ok]; rw [run_len_slice w T o.type ao n c hT]; rfl) hK
end
theorem load_gd {w : World} {A : Nat} {cs : List Value} {fr : Nat × Nat} (h : w.heap[A]? = some (.cells cs.toArray 34 fr)) (hl : cs.length = 6) : (Instr.loadAt 34 (.pointer (some ⟨A, 0, none⟩))).run Try.prog w = .ok (.agg cs.toArray) w :=
  run_loadAt_mid w A 0 _ cs _ (fun j v hv => by rw [cell_of_row w A (0 + j) _ _ _ h, Nat.zero_add, List.getElem?_toArray]; exact hv) Try.underlying34 rfl (by rw [hl]; kernel_rfl)
theorem page_len256 {d : Dsk} (ok : d.Ok) (i : Nat) (hi : i < d.room) : (d.page i).length = 256 := by
  unfold Dsk.page
  cases h : newest d.waits i with
  | none => exact ok.len i hi
  | some l =>
    have key : ∀ (ws : List (Nat × Page)), (∀ x ∈ ws, x.2.length = 256) → ∀ l, newest ws i = some l → l.length = 256 := fun ws => by
      induction ws using snoc_ind with
      | h0 => intro _ l h; cases h
      | h1 t x ih =>
        intro hx l h
        rw [newest_snoc'] at h
        by_cases e : i = x.1
        · simp only [e, if_true, Option.some.injEq] at h
          rw [← h]; exact hx x (by simp)
        · have h : (if i = x.1 then some x.2 else newest t i) = some l := h
          rw [if_neg e] at h
          exact ih (fun y hy => hx y (by simp [hy])) l h
    exact key d.waits (fun x hx => (ok.wait x hx).2) l h
/-- What each operation of the statement that compares a page leaves. -/
def SpV (g : Nat) (G : Value) (i : Nat) (s : ByteArray) : Nat → Value → Prop
  | 0, v => v = .int .i64 0
  | 3, v => v = .slice (some ⟨g, 0, none⟩) 256 256
  | 4, v => v = .string s
  | 5, v => v = G
  | 6, v => v = .int .i64 i
  | 7, v => v = .string s
  | _, v => v = .bool false
/-- What each operation of the statement that compares the rest leaves. -/
def SrV (B A : Nat) (la : Option Addr) (L lc : Nat) (wa : Option Addr) (n wc : Nat) (b : Bool) (s : Int) : Nat → Value → Prop
  | 0, v => v = ptr B
  | 1, v => v = .int .i64 L
  | 2, v => v = .pointer (some ⟨A, 0, none⟩)
  | 3, v => v = .slice la L lc
  | 4, v => v = .int .i64 L
  | 7, v => v = ptr B
  | 8, v => v = .int .i64 n
  | 9, v => v = .pointer (some ⟨A, 1, none⟩)
  | 10, v => v = .slice wa n wc
  | 11, v => v = .int .i64 n
  | 15, v => v = ptr B
  | 16, v => v = .bool b
  | 17, v => v = .pointer (some ⟨A, 4, none⟩)
  | 18, v => v = .bool b
  | 22, v => v = ptr B
  | 23, v => v = .int .i64 s
  | 24, v => v = .pointer (some ⟨A, 5, none⟩)
  | 25, v => v = .int .i64 s
  | _, v => v = .bool true
set_option maxRecDepth 100000 in
set_option maxHeartbeats 4000000 in
theorem same_any {n₀ : Nat} {w : World} {B : Nat} {d : Dsk} {la wa : Option Addr} {lc wc : Nat} {g : GD} (hD : IsDisk n₀ w B d) (hG : IsG w.heap.size w la lc wa wc g) (hA : Agree d g) (hf : g.waits.length ≤ 1000000) :
    Calls Try.prog 16 #[ptr B, gv la lc wa wc g] w fun e w' => e = .returned (.bool true) ∧ Below w.heap.size w w' := by
  have hLL : g.lasts.length = d.room := by rw [hA.lasts, List.length_map]; rfl
  have hnn : g.waits.length = d.waits.length := by rw [hA.waits, List.length_map]
  have hpage := fun i (hi : i < d.room) => hA.page i hi
  have hgp := fun w' (hb : Below w.heap.size w w') i (hi : i < d.room) => gpage_any (w := w') w.heap.size hb.size (hG.below hb) hf i (by rw [hLL]; exact hi)
  obtain ⟨L, hL⟩ : ∃ L, d.room = L := ⟨_, rfl⟩
  obtain ⟨n, hn⟩ : ∃ n, d.waits.length = n := ⟨_, rfl⟩
  have hgv : gv la lc wa wc g = .agg #[.slice la L lc, .slice wa n wc, .int .i64 g.k, .int .i64 g.l, .bool g.b, .int .i64 g.s] := by unfold gv rv; rw [hLL, hL, hnn, hn]
  rw [hgv] at hgp ⊢
  rw [hL] at hgp
  have hb' := hA.b
  have hs' := hA.s
  rw [hb', hs'] at hgp ⊢
  obtain ⟨W, hW⟩ : ∃ W, w.alloc (.cells #[.slice la L lc, .slice wa n wc, .int .i64 g.k, .int .i64 g.l, .bool d.dead, .int .i64 d.steps] 34) = W := ⟨_, rfl⟩
  have hrow := heap_alloc_new w (.cells #[.slice la L lc, .slice wa n wc, .int .i64 g.k, .int .i64 g.l, .bool d.dead, .int .i64 d.steps] 34)
  rw [hW] at hrow
  have hb : Below w.heap.size w W := hW ▸ (Below.refl _ _).alloc (Nat.le_refl _) _
  have HPL := Lib.hid (fun i (hi : i < d.room) => page_len256 hD.ok i hi)
  have HL4 := Lib.hid (show L ≤ 4096 by have := hD.ok.hi; omega)
  have HD := Lib.hid (fun w' (h : Below w.heap.size w w') => hD.below h)
  have HG := Lib.hid (fun w' (h : Below W.heap.size W w') => hgp w' (hb.trans (h.mono hb.size)))
  have HX := Lib.hid (And.intro hb (And.intro hrow (And.intro hL (And.intro hn hpage))))
  clear hD hG hA hpage hgp hLL hnn hgv hb' hs' hb hf
  go_enter Try.func16, Try.ntmps16
  go_wp2
  go_loopw [5, 6, 7, 8, 9, 10, 11, 12, 13, 14, 15, 16, 17, 18, 19, 20, 21, 22, 23, 24, 25, 26, 27, 28, 29, 30] (fun x _ _ _ _ _ _ _ _ _ _ _ _ _ _ _ _ _ _ _ _ _ _ _ _ _ wr => ∃ j : Nat, j ≤ L ∧ x = .int .i64 j ∧ Below W.heap.size W wr) (fun x _ _ _ _ _ _ _ _ _ _ _ _ _ _ _ _ _ _ _ _ _ _ _ _ _ _ => L - (intOf x).toNat)
  case atStart => exact ⟨0, Nat.zero_le _, rfl, Below.refl _ _⟩
  case round =>
    obtain ⟨j, hj, rfl, hbr⟩ := hrel
    have hrowr := (hbr.block w.heap.size (Array.getElem?_eq_some_iff.1 HX.out.2.1).1).trans HX.out.2.1
    have q0 := cell_of_row wr w.heap.size 0 _ _ _ hrowr
    simp only [List.getElem?_toArray, List.getElem?_cons_zero] at q0
    have HR := Lib.hid (And.intro hbr hrowr)
    clear hbr hrowr
    by_cases hlt : j < L
    · have hjL : (j : Int) < (L : Int) := by omega
      go_wp2_with fail
      have hb0r : Below w.heap.size w wr := HX.out.1.trans (HR.out.1.mono HX.out.1.size)
      refine (read_yes (HD.out wr hb0r) j (by rw [HX.out.2.2.1]; exact hlt)).mono ?_
      rintro e w2 ⟨gg, rfl, hP, hgg, hb2⟩
      have H2 := Lib.hid (And.intro (HR.out.1.trans (hb2.mono HR.out.1.size)) (And.intro ((hb2.block w.heap.size (Array.getElem?_eq_some_iff.1 HR.out.2).1).trans HR.out.2) hP))
      clear hb0r hb2 hP q0
      go_wp2_with fail
      have hpj := HX.out.2.2.2.2 j (by rw [HX.out.2.2.1]; exact hlt)
      have hlt2 := (Array.getElem?_eq_some_iff.1 H2.out.2.1).1
      have hcv : ∀ w', Below w2.heap.size w2 w' → (convert 31 9 (.slice (some ⟨gg, 0, none⟩) 256 256)).run Try.prog w' = .ok (.string (pgStr (d.page j))) w' := fun w' hb => by
        have h := conv_bytes w' gg 0 (d.page j) 256 (PageAt.range ((hb.block gg (Array.getElem?_eq_some_iff.1 H2.out.2.2).1).trans H2.out.2.2))
        rw [HPL.out j (by rw [HX.out.2.2.1]; exact hlt)] at h
        exact h
      refine wp_region_m (fun _ w' => Below w2.heap.size w2 w') (fun k v _ => SpV gg (.agg #[.slice la L lc, .slice wa n wc, .int .i64 g.k, .int .i64 g.l, .bool d.dead, .int .i64 d.steps]) j (pgStr (d.page j)) k v) (by kernel_rfl) (by kernel_rfl) (by kernel_rfl) (by kernel_rfl) (Below.refl _ _).drew ?step5 ?fin5
      case step5 =>
       intro i o ho listed a' w' hI hn' hpre
       have hi : i < 10 := (Array.getElem?_eq_some_iff.1 ho).1
       have hB := hI.inv
       match i, hi with
       | 0, _ =>
        cases ho
        exact wpOp_move rfl rfl (.inl rfl) (hI.kept (t := 7) (by kernel_rfl)) ⟨_, rfl, hB, fun _ => rfl, fun _ _ _ h => h⟩
       | 1, _ =>
        cases ho
        have e0 : a'.eval (.tmp 21) = .int .i64 0 := hI.slot 0 21 rfl (hpre ⟨0, .data⟩ (by simp) rfl) rfl
        exact wpOp_neqE rfl rfl rfl e0 (m := 0) rfl ⟨_, rfl, hB, fun _ => rfl, fun _ _ _ h => h⟩
       | 2, _ =>
        cases ho
        exact wpOp_move rfl rfl (.inl rfl) (hI.slot 1 22 rfl (hpre ⟨1, .data⟩ (by simp) rfl) rfl) ⟨_, rfl, hB, fun _ => rfl, fun _ _ _ h => h⟩
       | 3, _ =>
        cases ho
        exact wpOp_move rfl (wantedOf (j := 2) (b := false) rfl rfl rfl (by rw [hI.len]; show _ < 59; decide) (hI.slot 2 23 rfl (hpre ⟨2, .guard⟩ (by simp) rfl) rfl)) (.inl rfl) (hI.kept (t := 6) (by kernel_rfl)) ⟨_, rfl, hB, fun _ => rfl, fun _ _ _ h => h⟩
       | 4, _ =>
        cases ho
        have e0 : a'.eval (.tmp 24) = .slice (some ⟨gg, 0, none⟩) 256 256 := hI.slot 3 24 rfl (hpre ⟨3, .data⟩ (by simp) rfl) rfl
        exact wpOp_conv rfl (wantedOf (j := 2) (b := false) rfl rfl rfl (by rw [hI.len]; show _ < 59; decide) (hI.slot 2 23 rfl (hpre ⟨2, .guard⟩ (by simp) rfl) rfl)) rfl e0 (hcv w' hB) ⟨_, rfl, hB, fun _ => rfl, fun _ _ _ h => h⟩
       | 5, _ =>
        cases ho
        exact wpOp_load rfl (wantedOf (j := 2) (b := false) rfl rfl rfl (by rw [hI.len]; show _ < 59; decide) (hI.slot 2 23 rfl (hpre ⟨2, .guard⟩ (by simp) rfl) rfl)) rfl (hI.kept (t := 3) (by kernel_rfl)) (load_gd ((hB.block w.heap.size hlt2).trans H2.out.2.1) rfl) ⟨_, rfl, hB, fun _ => rfl, fun _ _ _ h => h⟩
       | 6, _ =>
        cases ho
        exact wpOp_move rfl (wantedOf (j := 2) (b := false) rfl rfl rfl (by rw [hI.len]; show _ < 59; decide) (hI.slot 2 23 rfl (hpre ⟨2, .guard⟩ (by simp) rfl) rfl)) (.inl rfl) (hI.kept (t := 5) (by kernel_rfl)) ⟨_, rfl, hB, fun _ => rfl, fun _ _ _ h => h⟩
       | 7, _ =>
        cases ho
        have e0 : a'.eval (.tmp 26) = .agg #[.slice la L lc, .slice wa n wc, .int .i64 g.k, .int .i64 g.l, .bool d.dead, .int .i64 d.steps] := hI.slot 5 26 rfl (hpre ⟨5, .data⟩ (by simp) rfl) rfl
        have e1 : a'.eval (.tmp 27) = .int .i64 j := hI.slot 6 27 rfl (hpre ⟨6, .data⟩ (by simp) rfl) rfl
        have hC := HG.out w' (H2.out.1.trans (hB.mono H2.out.1.size)) j hlt
        rw [hpj] at hC
        refine wpOp_callFn rfl (wantedOf (j := 2) (b := false) rfl rfl rfl (by rw [hI.len]; show _ < 59; decide) (hI.slot 2 23 rfl (hpre ⟨2, .guard⟩ (by simp) rfl) rfl)) rfl (vs := #[.agg #[.slice la L lc, .slice wa n wc, .int .i64 g.k, .int .i64 g.l, .bool d.dead, .int .i64 d.steps], .int .i64 j]) (by simp only [List.map_toArray, List.map_cons, List.map_nil, e0, e1]) (fun _ _ => by kernel_rfl) (hC.mono ?_)
        rintro e w'' ⟨rfl, hb3⟩
        exact ⟨_, rfl, _, rfl, hB.trans (hb3.mono hB.size), fun _ => rfl, fun _ _ _ h => h⟩
       | 8, _ =>
        cases ho
        have e0 : a'.eval (.tmp 25) = .string (pgStr (d.page j)) := hI.slot 4 25 rfl (hpre ⟨4, .data⟩ (by simp) rfl) rfl
        have e1 : a'.eval (.tmp 28) = .string (pgStr (d.page j)) := hI.slot 7 28 rfl (hpre ⟨7, .data⟩ (by simp) rfl) rfl
        refine wpOp_neqS rfl (wantedOf (j := 2) (b := false) rfl rfl rfl (by rw [hI.len]; show _ < 59; decide) (hI.slot 2 23 rfl (hpre ⟨2, .guard⟩ (by simp) rfl) rfl)) rfl e0 e1 ?_
        rw [bne_self_eq_false]
        exact ⟨_, rfl, hB, fun _ => rfl, fun _ _ _ h => h⟩
       | 9, _ =>
        cases ho
        have e0 : a'.eval (.tmp 23) = .bool false := hI.slot 2 23 rfl (hpre ⟨2, .data⟩ (by simp) rfl) rfl
        have e1 : a'.eval (.tmp 29) = .bool false := hI.slot 8 29 rfl (hpre ⟨8, .data⟩ (by simp) rfl) rfl
        exact wpOp_pick2 rfl rfl rfl e0 (fun h => by cases h) (fun _ => e1) rfl ⟨_, rfl, hB, fun _ => rfl, fun _ _ _ h => h⟩
      case fin5 =>
       intro listed a' w3 hI hall
       have hB := hI.inv
       have e9 : a'.tmps.getD 30 undef = .bool false := hI.slot 9 30 rfl (hall 9 (by decide)) rfl
       obtain ⟨vs, hvl, hvs, e⟩ := hI.frame 21 10 (Nat.le_of_ble_eq_true (by kernel_rfl)) (by kernel_rfl)
       have v9' := hvs 9 (by decide)
       have H3 := Lib.hid (H2.out.1.trans (hB.mono H2.out.1.size))
       clear hI hall hvs hB hcv
       match vs, hvl with
       | [x0, x1, x2, x3, x4, x5, x6, x7, x8, x9], _ =>
       simp only [List.getElem?_cons_zero, List.getElem?_cons_succ, Option.some.injEq] at v9'
       rw [show 21 + 9 = 30 from rfl, e9] at v9'
       subst v9'
       simp only [List.take_succ_cons, List.take_zero, List.drop_succ_cons, List.drop_zero, List.cons_append, List.nil_append, Nat.reduceAdd] at e
       subst e
       clear e9
       go_wp2
       have hms : L - (j + 1) < L - j := Nat.sub_lt_sub_left hlt (Nat.lt_succ_self j)
       have e1 : wrap64 ((j : Int) + 1) = ((j + 1 : Nat) : Int) := by have := HL4.out; unfold wrap64; omega
       rw [e1]
       clear e1
       exact ⟨⟨j + 1, hlt, rfl, H3.out⟩, hms⟩
    · obtain rfl : j = L := by omega
      have hjL : ¬ (j : Int) < (j : Int) := by omega
      go_wp2_with fail
      obtain ⟨hbr, hrowr⟩ := HR.out
      clear HR q0
      have hlt2 := (Array.getElem?_eq_some_iff.1 hrowr).1
      refine wp_region_m (fun _ w' => Below wr.heap.size wr w') (fun k v _ => SrV B w.heap.size la j lc wa n wc d.dead d.steps k v) (by kernel_rfl) (by kernel_rfl) (by kernel_rfl) (by kernel_rfl) (Below.refl _ _).drew ?step7 ?fin7
      case step7 =>
       intro i o ho listed a' w' hI hn' hpre
       have hi : i < 29 := (Array.getElem?_eq_some_iff.1 ho).1
       have hB := hI.inv
       have hrow' := (hB.block w.heap.size hlt2).trans hrowr
       have hbw : Below w.heap.size w w' := HX.out.1.trans ((hbr.trans (hB.mono hbr.size)).mono HX.out.1.size)
       match i, hi with
       | 0, _ =>
        cases ho
        exact wpOp_move rfl rfl (.inl rfl) (hI.kept (t := 0) (by kernel_rfl)) ⟨_, rfl, hB, fun _ => rfl, fun _ _ _ h => h⟩
       | 1, _ =>
        cases ho
        have e0 : a'.eval (.tmp 31) = ptr B := hI.slot 0 31 rfl (hpre ⟨0, .data⟩ (by simp) rfl) rfl
        refine wpOp_callFn rfl rfl rfl (vs := #[ptr B]) (by simp only [List.map_toArray, List.map_cons, List.map_nil, e0]) (fun _ _ => by kernel_rfl) ((pages_disk (HD.out w' hbw)).mono ?_)
        rintro e w'' ⟨rfl, rfl⟩
        refine ⟨_, rfl, _, rfl, hB, fun _ => ?_, fun _ _ _ h => h⟩
        show Value.int .i64 d.room = _; rw [HX.out.2.2.1]
       | 2, _ =>
        cases ho
        exact wpOp_field rfl rfl rfl (hI.kept (t := 3) (by kernel_rfl)) (v := .pointer (some ⟨w.heap.size, 0, none⟩)) (w' := w') (by simp [go_sem]) ⟨_, rfl, hB, fun _ => rfl, fun _ _ _ h => h⟩
       | 3, _ =>
        cases ho
        have e0 : a'.eval (.tmp 33) = .pointer (some ⟨w.heap.size, 0, none⟩) := hI.slot 2 33 rfl (hpre ⟨2, .data⟩ (by simp) rfl) rfl
        exact wpOp_load rfl rfl rfl e0 (load_cellR (Try.isAgg29 w') (v := .slice la j lc) (cell_of_row w' w.heap.size 0 _ _ _ hrow')) ⟨_, rfl, hB, fun _ => rfl, fun _ _ _ h => h⟩
       | 4, _ =>
        cases ho
        have e0 : a'.eval (.tmp 34) = .slice la j lc := hI.slot 3 34 rfl (hpre ⟨3, .data⟩ (by simp) rfl) rfl
        exact wpOp_lenG (by rw [show Try.prog.elem 29 = 9 by kernel_rfl]; exact Try.underlying29) rfl rfl rfl e0 ⟨_, rfl, hB, fun _ => rfl, fun _ _ _ h => h⟩
       | 5, _ =>
        cases ho
        have e0 : a'.eval (.tmp 32) = .int .i64 j := hI.slot 1 32 rfl (hpre ⟨1, .data⟩ (by simp) rfl) rfl
        have e1 : a'.eval (.tmp 35) = .int .i64 j := hI.slot 4 35 rfl (hpre ⟨4, .data⟩ (by simp) rfl) rfl
        refine wpOp_eqI rfl rfl rfl e0 e1 ?_
        rw [beq_self_eq_true]
        exact ⟨_, rfl, hB, fun _ => rfl, fun _ _ _ h => h⟩
       | 6, _ =>
        cases ho
        exact wpOp_move rfl rfl (.inl rfl) (hI.slot 5 36 rfl (hpre ⟨5, .data⟩ (by simp) rfl) rfl) ⟨_, rfl, hB, fun _ => rfl, fun _ _ _ h => h⟩
       | 7, _ =>
        cases ho
        exact wpOp_move rfl (wantedOf (j := 6) (b := true) rfl rfl rfl (by rw [hI.len]; show _ < 59; decide) (hI.slot 6 37 rfl (hpre ⟨6, .guard⟩ (by simp) rfl) rfl)) (.inl rfl) (hI.kept (t := 0) (by kernel_rfl)) ⟨_, rfl, hB, fun _ => rfl, fun _ _ _ h => h⟩
       | 8, _ =>
        cases ho
        have e0 : a'.eval (.tmp 38) = ptr B := hI.slot 7 38 rfl (hpre ⟨7, .data⟩ (by simp) rfl) rfl
        refine wpOp_callFn rfl (wantedOf (j := 6) (b := true) rfl rfl rfl (by rw [hI.len]; show _ < 59; decide) (hI.slot 6 37 rfl (hpre ⟨6, .guard⟩ (by simp) rfl) rfl)) rfl (vs := #[ptr B]) (by simp only [List.map_toArray, List.map_cons, List.map_nil, e0]) (fun _ _ => by kernel_rfl) ((waits_disk (HD.out w' hbw)).mono ?_)
        rintro e w'' ⟨rfl, rfl⟩
        refine ⟨_, rfl, _, rfl, hB, fun _ => ?_, fun _ _ _ h => h⟩
        show Value.int .i64 d.waits.length = _; rw [HX.out.2.2.2.1]
       | 9, _ =>
        cases ho
        exact wpOp_field rfl (wantedOf (j := 6) (b := true) rfl rfl rfl (by rw [hI.len]; show _ < 59; decide) (hI.slot 6 37 rfl (hpre ⟨6, .guard⟩ (by simp) rfl) rfl)) rfl (hI.kept (t := 3) (by kernel_rfl)) (v := .pointer (some ⟨w.heap.size, 1, none⟩)) (w' := w') (by simp [go_sem]) ⟨_, rfl, hB, fun _ => rfl, fun _ _ _ h => h⟩
       | 10, _ =>
        cases ho
        have e0 : a'.eval (.tmp 40) = .pointer (some ⟨w.heap.size, 1, none⟩) := hI.slot 9 40 rfl (hpre ⟨9, .data⟩ (by simp) rfl) rfl
        exact wpOp_load rfl (wantedOf (j := 6) (b := true) rfl rfl rfl (by rw [hI.len]; show _ < 59; decide) (hI.slot 6 37 rfl (hpre ⟨6, .guard⟩ (by simp) rfl) rfl)) rfl e0 (load_cellR (Try.isAgg32 w') (v := .slice wa n wc) (cell_of_row w' w.heap.size 1 _ _ _ hrow')) ⟨_, rfl, hB, fun _ => rfl, fun _ _ _ h => h⟩
       | 11, _ =>
        cases ho
        have e0 : a'.eval (.tmp 41) = .slice wa n wc := hI.slot 10 41 rfl (hpre ⟨10, .data⟩ (by simp) rfl) rfl
        exact wpOp_lenG (by rw [show Try.prog.elem 32 = 50 by kernel_rfl]; exact Try.underlying32) rfl (wantedOf (j := 6) (b := true) rfl rfl rfl (by rw [hI.len]; show _ < 59; decide) (hI.slot 6 37 rfl (hpre ⟨6, .guard⟩ (by simp) rfl) rfl)) rfl e0 ⟨_, rfl, hB, fun _ => rfl, fun _ _ _ h => h⟩
       | 12, _ =>
        cases ho
        have e0 : a'.eval (.tmp 39) = .int .i64 n := hI.slot 8 39 rfl (hpre ⟨8, .data⟩ (by simp) rfl) rfl
        have e1 : a'.eval (.tmp 42) = .int .i64 n := hI.slot 11 42 rfl (hpre ⟨11, .data⟩ (by simp) rfl) rfl
        refine wpOp_eqI rfl (wantedOf (j := 6) (b := true) rfl rfl rfl (by rw [hI.len]; show _ < 59; decide) (hI.slot 6 37 rfl (hpre ⟨6, .guard⟩ (by simp) rfl) rfl)) rfl e0 e1 ?_
        rw [beq_self_eq_true]
        exact ⟨_, rfl, hB, fun _ => rfl, fun _ _ _ h => h⟩
       | 13, _ =>
        cases ho
        have e0 : a'.eval (.tmp 37) = .bool true := hI.slot 6 37 rfl (hpre ⟨6, .data⟩ (by simp) rfl) rfl
        have e1 : a'.eval (.tmp 43) = .bool true := hI.slot 12 43 rfl (hpre ⟨12, .data⟩ (by simp) rfl) rfl
        exact wpOp_pick2 rfl rfl rfl e0 (fun _ => e1) (fun h => by cases h) rfl ⟨_, rfl, hB, fun _ => rfl, fun _ _ _ h => h⟩
       | 14, _ =>
        cases ho
        exact wpOp_move rfl rfl (.inl rfl) (hI.slot 13 44 rfl (hpre ⟨13, .data⟩ (by simp) rfl) rfl) ⟨_, rfl, hB, fun _ => rfl, fun _ _ _ h => h⟩
       | 15, _ =>
        cases ho
        exact wpOp_move rfl (wantedOf (j := 14) (b := true) rfl rfl rfl (by rw [hI.len]; show _ < 59; decide) (hI.slot 14 45 rfl (hpre ⟨14, .guard⟩ (by simp) rfl) rfl)) (.inl rfl) (hI.kept (t := 0) (by kernel_rfl)) ⟨_, rfl, hB, fun _ => rfl, fun _ _ _ h => h⟩
       | 16, _ =>
        cases ho
        have e0 : a'.eval (.tmp 46) = ptr B := hI.slot 15 46 rfl (hpre ⟨15, .data⟩ (by simp) rfl) rfl
        refine wpOp_callFn rfl (wantedOf (j := 14) (b := true) rfl rfl rfl (by rw [hI.len]; show _ < 59; decide) (hI.slot 14 45 rfl (hpre ⟨14, .guard⟩ (by simp) rfl) rfl)) rfl (vs := #[ptr B]) (by simp only [List.map_toArray, List.map_cons, List.map_nil, e0]) (fun _ _ => by kernel_rfl) ((dead_disk (HD.out w' hbw)).mono ?_)
        rintro e w'' ⟨rfl, rfl⟩
        refine ⟨_, rfl, _, rfl, hB, fun _ => ?_, fun _ _ _ h => h⟩
        rfl
       | 17, _ =>
        cases ho
        exact wpOp_field rfl (wantedOf (j := 14) (b := true) rfl rfl rfl (by rw [hI.len]; show _ < 59; decide) (hI.slot 14 45 rfl (hpre ⟨14, .guard⟩ (by simp) rfl) rfl)) rfl (hI.kept (t := 3) (by kernel_rfl)) (v := .pointer (some ⟨w.heap.size, 4, none⟩)) (w' := w') (by simp [go_sem]) ⟨_, rfl, hB, fun _ => rfl, fun _ _ _ h => h⟩
       | 18, _ =>
        cases ho
        have e0 : a'.eval (.tmp 48) = .pointer (some ⟨w.heap.size, 4, none⟩) := hI.slot 17 48 rfl (hpre ⟨17, .data⟩ (by simp) rfl) rfl
        exact wpOp_load rfl (wantedOf (j := 14) (b := true) rfl rfl rfl (by rw [hI.len]; show _ < 59; decide) (hI.slot 14 45 rfl (hpre ⟨14, .guard⟩ (by simp) rfl) rfl)) rfl e0 (load_cellR (Try.isAgg4 w') (v := .bool d.dead) (cell_of_row w' w.heap.size 4 _ _ _ hrow')) ⟨_, rfl, hB, fun _ => rfl, fun _ _ _ h => h⟩
       | 19, _ =>
        cases ho
        have e0 : a'.eval (.tmp 47) = .bool d.dead := hI.slot 16 47 rfl (hpre ⟨16, .data⟩ (by simp) rfl) rfl
        have e1 : a'.eval (.tmp 49) = .bool d.dead := hI.slot 18 49 rfl (hpre ⟨18, .data⟩ (by simp) rfl) rfl
        exact wpOp_eqBB rfl (wantedOf (j := 14) (b := true) rfl rfl rfl (by rw [hI.len]; show _ < 59; decide) (hI.slot 14 45 rfl (hpre ⟨14, .guard⟩ (by simp) rfl) rfl)) rfl e0 e1 ⟨_, rfl, hB, fun _ => rfl, fun _ _ _ h => h⟩
       | 20, _ =>
        cases ho
        have e0 : a'.eval (.tmp 45) = .bool true := hI.slot 14 45 rfl (hpre ⟨14, .data⟩ (by simp) rfl) rfl
        have e1 : a'.eval (.tmp 50) = .bool true := hI.slot 19 50 rfl (hpre ⟨19, .data⟩ (by simp) rfl) rfl
        exact wpOp_pick2 rfl rfl rfl e0 (fun _ => e1) (fun h => by cases h) rfl ⟨_, rfl, hB, fun _ => rfl, fun _ _ _ h => h⟩
       | 21, _ =>
        cases ho
        exact wpOp_move rfl rfl (.inl rfl) (hI.slot 20 51 rfl (hpre ⟨20, .data⟩ (by simp) rfl) rfl) ⟨_, rfl, hB, fun _ => rfl, fun _ _ _ h => h⟩
       | 22, _ =>
        cases ho
        exact wpOp_move rfl (wantedOf (j := 21) (b := true) rfl rfl rfl (by rw [hI.len]; show _ < 59; decide) (hI.slot 21 52 rfl (hpre ⟨21, .guard⟩ (by simp) rfl) rfl)) (.inl rfl) (hI.kept (t := 0) (by kernel_rfl)) ⟨_, rfl, hB, fun _ => rfl, fun _ _ _ h => h⟩
       | 23, _ =>
        cases ho
        have e0 : a'.eval (.tmp 53) = ptr B := hI.slot 22 53 rfl (hpre ⟨22, .data⟩ (by simp) rfl) rfl
        refine wpOp_callFn rfl (wantedOf (j := 21) (b := true) rfl rfl rfl (by rw [hI.len]; show _ < 59; decide) (hI.slot 21 52 rfl (hpre ⟨21, .guard⟩ (by simp) rfl) rfl)) rfl (vs := #[ptr B]) (by simp only [List.map_toArray, List.map_cons, List.map_nil, e0]) (fun _ _ => by kernel_rfl) ((steps_disk (HD.out w' hbw)).mono ?_)
        rintro e w'' ⟨rfl, rfl⟩
        refine ⟨_, rfl, _, rfl, hB, fun _ => ?_, fun _ _ _ h => h⟩
        rfl
       | 24, _ =>
        cases ho
        exact wpOp_field rfl (wantedOf (j := 21) (b := true) rfl rfl rfl (by rw [hI.len]; show _ < 59; decide) (hI.slot 21 52 rfl (hpre ⟨21, .guard⟩ (by simp) rfl) rfl)) rfl (hI.kept (t := 3) (by kernel_rfl)) (v := .pointer (some ⟨w.heap.size, 5, none⟩)) (w' := w') (by simp [go_sem]) ⟨_, rfl, hB, fun _ => rfl, fun _ _ _ h => h⟩
       | 25, _ =>
        cases ho
        have e0 : a'.eval (.tmp 55) = .pointer (some ⟨w.heap.size, 5, none⟩) := hI.slot 24 55 rfl (hpre ⟨24, .data⟩ (by simp) rfl) rfl
        exact wpOp_load rfl (wantedOf (j := 21) (b := true) rfl rfl rfl (by rw [hI.len]; show _ < 59; decide) (hI.slot 21 52 rfl (hpre ⟨21, .guard⟩ (by simp) rfl) rfl)) rfl e0 (load_cellR (Try.isAgg2 w') (v := .int .i64 d.steps) (cell_of_row w' w.heap.size 5 _ _ _ hrow')) ⟨_, rfl, hB, fun _ => rfl, fun _ _ _ h => h⟩
       | 26, _ =>
        cases ho
        have e0 : a'.eval (.tmp 54) = .int .i64 d.steps := hI.slot 23 54 rfl (hpre ⟨23, .data⟩ (by simp) rfl) rfl
        have e1 : a'.eval (.tmp 56) = .int .i64 d.steps := hI.slot 25 56 rfl (hpre ⟨25, .data⟩ (by simp) rfl) rfl
        exact wpOp_eqI64 rfl (wantedOf (j := 21) (b := true) rfl rfl rfl (by rw [hI.len]; show _ < 59; decide) (hI.slot 21 52 rfl (hpre ⟨21, .guard⟩ (by simp) rfl) rfl)) rfl e0 e1 (c := true) (by simp) ⟨_, rfl, hB, fun _ => rfl, fun _ _ _ h => h⟩
       | 27, _ =>
        cases ho
        have e0 : a'.eval (.tmp 52) = .bool true := hI.slot 21 52 rfl (hpre ⟨21, .data⟩ (by simp) rfl) rfl
        have e1 : a'.eval (.tmp 57) = .bool true := hI.slot 26 57 rfl (hpre ⟨26, .data⟩ (by simp) rfl) rfl
        exact wpOp_pick2 rfl rfl rfl e0 (fun _ => e1) (fun h => by cases h) rfl ⟨_, rfl, hB, fun _ => rfl, fun _ _ _ h => h⟩
       | 28, _ =>
        cases ho
        exact wpOp_move rfl rfl (.inr rfl) (hI.slot 27 58 rfl (hpre ⟨27, .data⟩ (by simp) rfl) rfl) ⟨_, rfl, hB, fun _ => rfl, fun _ _ _ h => h⟩
      case fin7 =>
       intro listed a' w3 hI hall
       have hB := hI.inv
       have e4 : a'.tmps.getD 4 undef = .bool true := hI.slot 28 4 rfl (hall 28 (by decide)) rfl
       obtain ⟨vs', us, hvl', hul, hvs, -, e⟩ := hI.frame2 4 1 31 28 (by decide) (Nat.le_of_ble_eq_true (by kernel_rfl)) (by kernel_rfl)
       have v0' := hvs 0 (by decide)
       have HF := Lib.hid (HX.out.1.trans ((hbr.trans (hB.mono hbr.size)).mono HX.out.1.size))
       clear hI hall hvs hB hrowr
       match vs', us, hvl', hul with
       | [v0], [x0, x1, x2, x3, x4, x5, x6, x7, x8, x9, x10, x11, x12, x13, x14, x15, x16, x17, x18, x19, x20, x21, x22, x23, x24, x25, x26, x27], _, _ =>
       simp only [List.getElem?_cons_zero, Option.some.injEq] at v0'
       rw [Nat.add_zero, e4] at v0'
       subst v0'
       simp only [List.take_succ_cons, List.take_zero, List.drop_succ_cons, List.drop_zero, List.cons_append, List.nil_append, Nat.reduceAdd, Nat.reduceSub] at e
       subst e
       clear e4
       go_wp2
       go_ret
       exact ⟨rfl, HF.out⟩
end Go.Proofs.Ytkophpipehdkmaa
/- Layer 2: the disk and the document's disk side by side, behind a call of the law whose answer is not looked at; what the law's other statements share. -/
namespace Go.Proofs.Ytkophpipehdkmaa
open Go.RowKit

def gCells (la : Option Addr) (lc : Nat) (wa : Option Addr) (wc : Nat) (g : GD) : Array Value := #[.slice la g.lasts.length lc, .slice wa g.waits.length wc, .int .i64 g.k, .int .i64 g.l, .bool g.b, .int .i64 g.s]
theorem row6 {w : World} {D : Nat} {x0 x1 x2 x3 x4 x5 : Value} {t : TypeId} {fr : Nat × Nat} (h : w.heap[D]? = some (.cells #[x0, x1, x2, x3, x4, x5] t fr)) : w.cell? ⟨D, 0, none⟩ = some x0 ∧ w.cell? ⟨D, 1, none⟩ = some x1 ∧ w.cell? ⟨D, 2, none⟩ = some x2 ∧ w.cell? ⟨D, 3, none⟩ = some x3 ∧ w.cell? ⟨D, 4, none⟩ = some x4 ∧ w.cell? ⟨D, 5, none⟩ = some x5 :=
  ⟨cell_of_row w D 0 _ _ _ h, cell_of_row w D 1 _ _ _ h, cell_of_row w D 2 _ _ _ h, cell_of_row w D 3 _ _ _ h, cell_of_row w D 4 _ _ _ h, cell_of_row w D 5 _ _ _ h⟩
theorem open6 {w : World} {D : Nat} {x0 x1 x2 x3 x4 x5 : Value} {t : TypeId} (h : w.heap[D]? = some (.cells #[x0, x1, x2, x3, x4, x5] t (0, 0))) : w.frozen? ⟨D, 0, none⟩ = false ∧ w.frozen? ⟨D, 1, none⟩ = false ∧ w.frozen? ⟨D, 2, none⟩ = false ∧ w.frozen? ⟨D, 3, none⟩ = false ∧ w.frozen? ⟨D, 4, none⟩ = false ∧ w.frozen? ⟨D, 5, none⟩ = false :=
  ⟨frozen_of_row w D 0 _ _ h, frozen_of_row w D 1 _ _ h, frozen_of_row w D 2 _ _ h, frozen_of_row w D 3 _ _ h, frozen_of_row w D 4 _ _ h, frozen_of_row w D 5 _ _ h⟩
theorem row6g {w : World} {D : Nat} {la wa : Option Addr} {lc wc : Nat} {g : GD} {t : TypeId} {fr : Nat × Nat} (h : w.heap[D]? = some (.cells (gCells la lc wa wc g) t fr)) : w.cell? ⟨D, 0, none⟩ = some (.slice la g.lasts.length lc) ∧ w.cell? ⟨D, 1, none⟩ = some (.slice wa g.waits.length wc) ∧ w.cell? ⟨D, 2, none⟩ = some (.int .i64 g.k) ∧ w.cell? ⟨D, 3, none⟩ = some (.int .i64 g.l) ∧ w.cell? ⟨D, 4, none⟩ = some (.bool g.b) ∧ w.cell? ⟨D, 5, none⟩ = some (.int .i64 g.s) := row6 h
theorem open6g {w : World} {D : Nat} {la wa : Option Addr} {lc wc : Nat} {g : GD} {t : TypeId} (h : w.heap[D]? = some (.cells (gCells la lc wa wc g) t (0, 0))) : w.frozen? ⟨D, 0, none⟩ = false ∧ w.frozen? ⟨D, 1, none⟩ = false ∧ w.frozen? ⟨D, 2, none⟩ = false ∧ w.frozen? ⟨D, 3, none⟩ = false ∧ w.frozen? ⟨D, 4, none⟩ = false ∧ w.frozen? ⟨D, 5, none⟩ = false := open6 h
theorem stepD_room {d : Dsk} (ok : d.Ok) (a : ActD) : (stepD d a).1.room = d.room := by
  have hs : d.step.1.lasts.length = d.lasts.length := by rw [ok.step.2.1]
  unfold stepD
  split
  · show ((d.write a.p (actL a.p a.x)).1).lasts.length = d.lasts.length
    unfold Dsk.write
    split
    · rfl
    · split
      · rfl
      · split <;> exact hs
  · split
    · show (d.flush.1).lasts.length = d.lasts.length
      unfold Dsk.flush
      split
      · simp [applied]
      · exact hs
    · split
      · show ((d.arm a.r a.p).1).lasts.length = d.lasts.length
        unfold Dsk.arm
        split
        · rfl
        · split
          · rfl
          · split <;> rfl
      · rfl
theorem PickV.mono {w : World} {n₁ n₂ : Nat} {sv : Value} {l : List Int} (h : PickV w n₁ sv l) (hn : n₁ ≤ n₂) : PickV w n₂ sv l := by
  obtain ⟨a, cap, h1, h2, h3⟩ := h
  refine ⟨a, cap, h1, h2, fun hl => ?_⟩
  obtain ⟨b, o, e, hlt, hc⟩ := h3 hl
  exact ⟨b, o, e, Nat.lt_of_lt_of_le hlt hn, hc⟩
theorem agree_new (n : Nat) : Agree (Dsk.new n) ⟨List.replicate n nought, [], 0, 0, false, 0⟩ := ⟨by simp [Dsk.new, nought, pgStr], rfl, rfl, fun h => absurd rfl h, rfl, rfl⟩
/-- The two disks tell the same; the document's lies in the law's own variable. -/
structure PlayE (N : Nat) (w wr : World) (B D m n : Nat) (d : Dsk) (g : GD) (la : Option Addr) (lc : Nat) (wa : Option Addr) (wc : Nat) : Prop where
  disk : IsDisk N wr B d
  isg : IsG wr.heap.size wr la lc wa wc g
  agr : Agree d g
  few : d.Few m
  room : d.room = n
  row : wr.heap[D]? = some (.cells (gCells la lc wa wc g) 34 (0, 0))
  below : Below N w wr
theorem nextE {N : Nat} {w wr w5 : World} {B D m n : Nat} {d d' : Dsk} {g g' : GD} {la wa e1 e2 : Option Addr} {lc wc y1 y2 : Nat} (HP : PlayE N w wr B D m n d g la lc wa wc) (hND : N ≤ D) (hG : IsG w5.heap.size w5 e1 y1 e2 y2 g') (hS : IsDisk N w5 B d') (hk : Keeps N wr.drew w5)
    (ha : Agree d' g') (hf : d'.Few (m + 1)) (hr : d'.room = n) :
    PlayE N w ((((((w5.setCell ⟨D, 0, none⟩ (.slice e1 g'.lasts.length y1)).setCell ⟨D, 1, none⟩ (.slice e2 g'.waits.length y2)).setCell ⟨D, 2, none⟩ (.int .i64 g'.k)).setCell ⟨D, 3, none⟩ (.int .i64 g'.l)).setCell ⟨D, 4, none⟩ (.bool g'.b)).setCell ⟨D, 5, none⟩ (.int .i64 g'.s)) B D (m + 1) n d' g' e1 y1 e2 y2 := by
  have hk' : Keeps N wr w5 := (Keeps.of_below ((Below.refl _ wr).drew) HP.disk.n_le).trans hk
  have hD : w5.heap[D]? = some (.cells (gCells la lc wa wc g) 34 (0, 0)) := hk'.cells D _ _ _ HP.row (by decide) (by decide)
  have hg := set6_grown w5 D (.slice e1 g'.lasts.length y1) (.slice e2 g'.waits.length y2) (.int .i64 g'.k) (.int .i64 g'.l) (.bool g'.b) (.int .i64 g'.s)
  have r1 := hS.besides hg hD (by decide) (by decide)
  have r2 := (hG.besides hg hD).mono hg.size
  have r3 := set6_heap (.slice e1 g'.lasts.length y1) (.slice e2 g'.waits.length y2) (.int .i64 g'.k) (.int .i64 g'.l) (.bool g'.b) (.int .i64 g'.s) hD
  have r4 := (HP.below.trans hk'.below).grown hg hS.n_le (fun q e => by cases e; exact hND)
  exact ⟨r1, r2, ha, hf, hr, r3, r4⟩
set_option maxHeartbeats 2000000 in
set_option maxRecDepth 100000 in
/-- Same with a disk that is not there. -/
theorem same_absent {n₀ : Nat} {w : World} {A : Nat} {d : Dsk} (hA : IsDisk n₀ w A d) : Calls Try.prog 13 #[ptr A, .pointer none] w fun e w' => e = .returned (.bool false) ∧ w = w' := by
  have ht1 := there_disk hA
  have ht2 := there_absent (w := w) (v := .pointer none) (Or.inl rfl)
  go_enter Try.func13, Try.ntmps13
  go_wp2_with fail
  refine ht1.mono ?_
  rintro e' w' ⟨rfl, rfl⟩
  go_wp2_with fail
  refine ht2.mono ?_
  rintro e' w' ⟨rfl, rfl⟩
  go_wp2_with fail
  refine ht1.mono ?_
  rintro e' w' ⟨rfl, rfl⟩
  go_wp2_with fail
  refine ht2.mono ?_
  rintro e' w' ⟨rfl, rfl⟩
  go_wp2_with fail
  go_ret
  exact ⟨rfl, rfl⟩
theorem pgStr_inj {p q : Page} (h : pgStr p = pgStr q) : p = q := by
  have : p.toArray = q.toArray := congrArg ByteArray.data h
  simpa using this
theorem map_pgStr_inj {l m : List Page} (h : l.map pgStr = m.map pgStr) : l = m := List.map_inj_right (fun _ _ => pgStr_inj) |>.1 h
theorem map_wtStr_inj {l m : List (Nat × Page)} (h : l.map wtStr = m.map wtStr) : l = m := List.map_inj_right (fun a b h => by
  have h1 : (a.1 : Int) = b.1 := congrArg Prod.fst h
  have h2 : pgStr a.2 = pgStr b.2 := congrArg Prod.snd h
  exact Prod.ext (by omega) (pgStr_inj h2)) |>.1 h
/-- Two disks are alike just if the document's are. -/
theorem Agree.like {d e : Dsk} {g o : GD} (ha : Agree d g) (hb : Agree e o) (okd : d.Ok) (oke : e.Ok) : (g.waits.length = o.waits.length ∧ g.k = o.k ∧ g.b = o.b ∧ (g.k = 0 ∨ g.l = o.l) ∧ g.lasts = o.lasts ∧ g.waits = o.waits) ↔ d.like e := by
  unfold Dsk.like
  rw [ha.lasts, hb.lasts, ha.waits, hb.waits, ha.k, hb.k, ha.b, hb.b]
  constructor
  · rintro ⟨-, h2, h3, h4, h5, h6⟩
    have hk : d.kind = e.kind := by omega
    refine ⟨map_pgStr_inj h5, hk, ?_, h3, map_wtStr_inj h6⟩
    by_cases hz : d.kind = 0
    · rw [okd.none_ hz, oke.none_ (by omega)]
    · have h4 := h4.resolve_left (by omega)
      rw [ha.l hz, hb.l (by omega)] at h4
      omega
  · rintro ⟨h1, h2, h3, h4, h5⟩
    refine ⟨by rw [h5], by rw [h2], h4, ?_, by rw [h1], by rw [h5]⟩
    by_cases hz : d.kind = 0
    · left; omega
    · right; rw [ha.l hz, hb.l (by omega), h3]
end Go.Proofs.Ytkophpipehdkmaa
/- Layer 2: what waits of the document's disk, read and held against each other; strings of a slice. -/
namespace Go.Proofs.Ytkophpipehdkmaa
open Go.RowKit

theorem index_row {T E : TypeId} {sz : Nat} (hT : Try.prog.underlying T = some (.slice E)) (he : Try.prog.elem T = E) (hs : ∀ w, (sizeOf E).run Try.prog w = .ok sz w) (w : World) (b o n cap i : Nat) (hi : i < n) : (Instr.indexAt T (.slice (some ⟨b, o, none⟩) n cap) (.int .i64 i)).run Try.prog w = .ok (.pointer (some ⟨b, o + i * sz, none⟩)) w := by
  refine (run_indexAt_slice (P := Try.prog) (w := w) T ⟨b, o, none⟩ n cap .i64 i (by rw [he]; exact hT)).trans ?_
  rw [if_pos (by omega), he, hs]
  simp only [Result.andThen_ok, addr_add, Int.toNat_natCast]
theorem index_str (w : World) (b o n cap i : Nat) (hi : i < n) : (Instr.indexAt 29 (.slice (some ⟨b, o, none⟩) n cap) (.int .i64 i)).run Try.prog w = .ok (.pointer (some ⟨b, o + i * 1, none⟩)) w :=
  index_row (E := 9) Try.underlying29 (by kernel_rfl) (fun w => by kernel_rfl) w b o n cap i hi
theorem index_wt (w : World) (b o n cap i : Nat) (hi : i < n) : (Instr.indexAt 32 (.slice (some ⟨b, o, none⟩) n cap) (.int .i64 i)).run Try.prog w = .ok (.pointer (some ⟨b, o + i * 2, none⟩)) w :=
  index_row (E := 50) Try.underlying32 (by kernel_rfl) (fun w => by kernel_rfl) w b o n cap i hi
theorem load_wt {w : World} {b o : Nat} {x : Int × ByteArray} (h0 : w.cell? ⟨b, o, none⟩ = some (.int .i64 x.1)) (h1 : w.cell? ⟨b, o + 1, none⟩ = some (.string x.2)) : (Instr.loadAt 50 (.pointer (some ⟨b, o, none⟩))).run Try.prog w = .ok (.agg #[.int .i64 x.1, .string x.2]) w :=
  run_loadAt_mid w b o _ [.int .i64 x.1, .string x.2] _ (fun j v hv => by
    match j, hv with
    | 0, hv => cases hv; exact h0
    | 1, hv => cases hv; exact h1
    | j + 2, hv => cases hv) Try.underlying50 rfl (by kernel_rfl)
theorem guard_wt (p q : Int) (s t : ByteArray) (x y : Operand) (w : World) : (eqGuard .eql 50 x y (.agg #[.int .i64 p, .string s]) (.agg #[.int .i64 q, .string t])).run Try.prog w = .ok () w := run_eqGuard_agg w .eql _ _ _ _ _ (by kernel_rfl)
theorem fields_wt : (Try.prog.fieldsOf 50).toList.map (fun f => (f.name == "_", f.type, f.offset)) = [(false, 3, 0), (false, 9, 1)] := by kernel_rfl
theorem eql_wt (p q : Int) (s t : ByteArray) (w : World) : (binOp .eql 50 (.agg #[.int .i64 p, .string s]) (.agg #[.int .i64 q, .string t])).run Try.prog w = .ok (.bool ((p == q) && (s.toList == t.toList))) w := by
  rw [run_eql_struct, show (10000 : Nat) = 9999 + 1 from rfl, run_equalIn_struct w 9999 50 _ _ (by kernel_rfl) (by kernel_rfl)]
  have hfs := fields_wt
  generalize (Try.prog.fieldsOf 50).toList = fs at hfs ⊢
  have key : ∀ f0 f1 : Field, [f0, f1].map (fun f => (f.name == "_", f.type, f.offset)) = [(false, 3, 0), (false, 9, 1)] → (Op.eqFields 9999 #[.int .i64 p, .string s] #[.int .i64 q, .string t] [f0, f1]).run Try.prog w = .ok ((p == q) && (s.toList == t.toList)) w := by
    intro f0 f1 hfs
    simp only [List.map_cons, List.map_nil, List.cons.injEq, Prod.mk.injEq, and_true] at hfs
    obtain ⟨⟨n0, t0, o0⟩, ⟨n1, t1, o1⟩⟩ := hfs
    have n0' : f0.name ≠ "_" := by simpa using n0
    have n1' : f1.name ≠ "_" := by simpa using n1
    have e0 : (Op.equalIn 9999 3 (.int .i64 p) (.int .i64 q)).run Try.prog w = .ok (p == q) w := run_equalIn_int w 9998 3 .i64 .i64 _ _ Try.underlying3
    have e1 : (Op.equalIn 9999 9 (.string s) (.string t)).run Try.prog w = .ok (s.toList == t.toList) w := run_equalIn_string w 9998 9 _ _ Try.underlying9
    have p0 := part_cell 3 (fun w => by kernel_rfl) #[.int .i64 p, .string s] 0 (.int .i64 p) rfl w
    have q0 := part_cell 3 (fun w => by kernel_rfl) #[.int .i64 q, .string t] 0 (.int .i64 q) rfl w
    have p1 := part_cell 9 (fun w => by kernel_rfl) #[.int .i64 p, .string s] 1 (.string s) rfl w
    have q1 := part_cell 9 (fun w => by kernel_rfl) #[.int .i64 q, .string t] 1 (.string t) rfl w
    have h1 : (Op.eqFields 9999 #[.int .i64 p, .string s] #[.int .i64 q, .string t] [f1]).run Try.prog w = .ok (s.toList == t.toList) w := by
      simp only [Op.eqFields, if_pos n1', t1, o1, Sem.run_bind, p1, q1, Result.andThen_ok, e1, Sem.run_ite, Sem.run_pure]
      cases (s.toList == t.toList) <;> rfl
    rw [Op.eqFields]
    simp only [if_pos n0', t0, o0, Sem.run_bind, p0, q0, Result.andThen_ok, e0, Sem.run_ite, Sem.run_pure, h1]
    cases (p == q) <;> rfl
  rcases fs with _ | ⟨f0, _ | ⟨f1, _ | ⟨f2, fs⟩⟩⟩
  · exact absurd (congrArg List.length hfs) (by simp)
  · exact absurd (congrArg List.length hfs) (by simp)
  · rw [key f0 f1 hfs]; rfl
  · exact absurd (congrArg List.length hfs) (by simp)
theorem str_eq (s t : ByteArray) : (s.toList == t.toList) = true ↔ s = t := by
  rw [beq_iff_eq, ByteArray.toList_eq, ByteArray.toList_eq]
  obtain ⟨⟨s⟩⟩ := s
  obtain ⟨⟨t⟩⟩ := t
  exact ⟨fun h => by have h : s = t := h; rw [h], fun h => by rw [h]⟩
/-- The k-th string of a slice, and where it lies. -/
theorem IsG.str {w : World} {n₀ : Nat} {la wa : Option Addr} {lc wc k : Nat} {g : GD} {s : ByteArray} (h : IsG n₀ w la lc wa wc g) (hk : g.lasts[k]? = some s) : ∃ b off, la = some ⟨b, off, none⟩ ∧ b < n₀ ∧ w.cell? ⟨b, off + k * 1, none⟩ = some (.string s) := by
  obtain ⟨b, off, e, hlt, -, hc⟩ := h.lasts (by intro e; have := List.map_eq_nil_iff.1 e; rw [this] at hk; cases hk)
  exact ⟨b, off, e, hlt, by rw [Nat.mul_one]; exact hc k _ (by rw [List.getElem?_map, hk]; rfl)⟩
theorem IsG.wt {w : World} {n₀ : Nat} {la wa : Option Addr} {lc wc k : Nat} {g : GD} {x : Int × ByteArray} (h : IsG n₀ w la lc wa wc g) (hk : g.waits[k]? = some x) : ∃ b off, wa = some ⟨b, off, none⟩ ∧ b < n₀ ∧ w.cell? ⟨b, off + k * 2, none⟩ = some (.int .i64 x.1) ∧ w.cell? ⟨b, off + k * 2 + 1, none⟩ = some (.string x.2) := by
  obtain ⟨c0, c1⟩ := wtsCells_get hk
  obtain ⟨b, off, e, hlt, -, hc⟩ := h.waits (by intro e; rw [e] at c0; cases c0)
  exact ⟨b, off, e, hlt, hc _ _ c0, by have := hc _ _ c1; rwa [← Nat.add_assoc] at this⟩
end Go.Proofs.Ytkophpipehdkmaa
/- Layer 2, in plain words: a disk that nothing arms, behind any calls: what waits; the picks that name the last write of each sector leave what Read tells. -/
namespace Go.Proofs.Ytkophpipehdkmaa

/-- The call writes a page that there is. -/
def Fits (n : Nat) (a : ActD) : Prop := a.k = 1 ∧ 0 ≤ a.p ∧ a.p < n ∧ a.x.toNat ≠ 255
instance (n : Nat) (a : ActD) : Decidable (Fits n a) := inferInstanceAs (Decidable (_ ∧ _ ∧ _ ∧ _))
def addW (n : Nat) (ws : List (Nat × Page)) (a : ActD) : List (Nat × Page) := if Fits n a then ws ++ [(a.p.toNat, actL a.p a.x)] else if a.k = 2 then [] else ws
def waitsOf (n : Nat) (L : List ActD) : List (Nat × Page) := L.foldl (addW n) []
theorem waitsOf_snoc (n : Nat) (L : List ActD) (a : ActD) : waitsOf n (L ++ [a]) = addW n (waitsOf n L) a := by simp [waitsOf]
def Calm (d : Dsk) : Prop := d.kind = 0 ∧ d.dead = false
theorem calm_step {d : Dsk} (h : Calm d) : d.step = ({ d with left := d.left, steps := d.steps + 1 }, 0) := by
  obtain ⟨h1, h2⟩ := h
  unfold Dsk.step
  rw [if_neg (by rw [h2]; decide), if_neg (by rw [h1]; simp), if_pos h1]
  simp
theorem actL_len {p : Int} {x : UInt8} (hx : x.toNat ≠ 255) : (actL p x).length = 256 := by
  unfold actL; rw [if_neg hx, markB_len]
theorem actL_short {p : Int} {x : UInt8} (hx : x.toNat = 255) (hp : p < 256) : (actL p x).length ≠ 256 := by
  unfold actL; rw [if_pos hx, List.length_replicate]; omega
/-- What a call other than an arming makes of a calm disk. -/
theorem calm_act {d : Dsk} (h : Calm d) {a : ActD} (ha : a.k ≠ 3) (hn : d.room ≤ 20) : Calm (stepD d a).1 ∧ (stepD d a).1.waits = addW d.room d.waits a := by
  have hs := calm_step h
  unfold stepD addW
  by_cases h1 : a.k = 1
  · rw [if_pos h1]
    unfold Dsk.write
    by_cases hl : (actL a.p a.x).length ≠ 256
    · rw [if_pos hl]
      have : ¬ Fits d.room a := fun ⟨_, _, _, q⟩ => hl (actL_len q)
      rw [if_neg this, if_neg (by omega)]
      exact ⟨h, rfl⟩
    rw [if_neg hl]
    by_cases hp : 0 ≤ a.p ∧ a.p < d.room
    · rw [if_neg (not_not_intro hp), hs]
      have hf : Fits d.room a := ⟨h1, hp.1, hp.2, fun q => hl (actL_short q (by omega))⟩
      rw [if_pos rfl, if_pos hf]
      exact ⟨h, rfl⟩
    · rw [if_pos hp]
      have : ¬ Fits d.room a := fun ⟨_, q1, q2, _⟩ => hp ⟨q1, q2⟩
      rw [if_neg this, if_neg (by omega)]
      exact ⟨h, rfl⟩
  rw [if_neg h1]
  have hf : ¬ Fits d.room a := fun q => h1 q.1
  rw [if_neg hf]
  by_cases h2 : a.k = 2
  · rw [if_pos h2, if_pos h2]
    unfold Dsk.flush
    rw [hs, if_pos rfl]
    exact ⟨h, rfl⟩
  · rw [if_neg h2, if_neg h2, if_neg ha]
    exact ⟨h, rfl⟩
theorem calm_skip {n : Nat} {ws : List (Nat × Page)} {a : ActD} (ha : a.k = 3) : addW n ws a = ws := by
  unfold addW
  rw [if_neg (fun q => by have := q.1; omega), if_neg (by omega)]

/-- How many of these calls write that page. -/
def cnt (n : Nat) (S : List ActD) (p : Nat) : Nat := S.countP fun a => decide (Fits n a) && (a.p.toNat == p)
theorem cnt_cons (n : Nat) (a : ActD) (S : List ActD) (p : Nat) : cnt n (a :: S) p = cnt n S p + (if Fits n a ∧ a.p.toNat = p then 1 else 0) := by
  unfold cnt
  rw [List.countP_cons]
  by_cases h : Fits n a ∧ a.p.toNat = p
  · rw [if_pos h, if_pos (by simp [h.1, h.2])]
  · rw [if_neg h, if_neg (by simpa using h)]
theorem cnt_le (n : Nat) (S : List ActD) (p : Nat) : cnt n S p ≤ S.length := List.countP_le_length
theorem wrote_fold (n p : Nat) : ∀ (S : List ActD) (ws : List (Nat × Page)), (∀ a ∈ S, a.k ≠ 2) → (wrote (S.foldl (addW n) ws) p).length = (wrote ws p).length + cnt n S p
  | [], ws, _ => rfl
  | a :: S, ws, h => by
    rw [List.foldl_cons, wrote_fold n p S _ (fun b hb => h b (by simp [hb])), cnt_cons]
    have h2 := h a (by simp)
    unfold addW
    by_cases hf : Fits n a
    · rw [if_pos hf, wrote_snoc]
      by_cases hp : a.p.toNat = p
      · rw [if_pos hp, if_pos ⟨hf, hp⟩, List.length_append]; simp; omega
      · rw [if_neg hp, if_neg (fun q => hp q.2)]; omega
    · rw [if_neg hf, if_neg h2, if_neg (fun q => hf q.1)]; omega
theorem wrote_cnt {n p j : Nat} {L : List ActD} (hj : j ≤ L.length) (hS : ∀ a ∈ L.drop j, a.k ≠ 2) (h0 : j = 0 ∨ ∃ a, L[j - 1]? = some a ∧ a.k = 2 ∧ 0 < j) : (wrote (waitsOf n L) p).length = cnt n (L.drop j) p := by
  have e : waitsOf n L = (L.drop j).foldl (addW n) (waitsOf n (L.take j)) := by
    unfold waitsOf; rw [← List.foldl_append, List.take_append_drop]
  have hz : waitsOf n (L.take j) = [] := by
    rcases h0 with rfl | ⟨a, ha, h2, hpos⟩
    · rfl
    · have hlt := (List.getElem?_eq_some_iff.1 ha).1
      have : L.take j = L.take (j - 1) ++ [a] := by
        have e2 : j = (j - 1) + 1 := by omega
        rw [e2, List.take_add_one, ha]; rfl
      rw [this, waitsOf_snoc]
      unfold addW
      rw [if_neg (fun q => by have := q.1; omega), if_pos h2]
  rw [e, wrote_fold n p _ _ hS, hz]
  show 0 + _ = _
  omega

/-- The picks: of each page that is written, four times how often. -/
def allOf (m : Nat → Nat) (k : Nat) : List Int := (List.range k).flatMap fun p => if 0 < m p then List.replicate 4 (m p : Int) else []
theorem allOf_succ (m : Nat → Nat) (k : Nat) : allOf m (k + 1) = allOf m k ++ (if 0 < m k then List.replicate 4 (m k : Int) else []) := by
  simp [allOf, List.range_succ]
theorem allOf_len {ws : List (Nat × Page)} {m : Nat → Nat} (hm : ∀ p, m p = (wrote ws p).length) (k : Nat) : (allOf m k).length = 4 * (tornPages ws k).length := by
  induction k with
  | zero => rfl
  | succ k ih =>
    rw [allOf_succ, List.length_append, ih, tornPages_succ]
    by_cases h : isTorn ws k = true
    · have h0 : 0 < m k := by rw [hm]; exact List.length_pos_iff.2 (wrote_ne.2 h)
      rw [if_pos h, if_pos h0]; simp; omega
    · have h0 : ¬ 0 < m k := by rw [hm, wrote_none (by simpa using h)]; simp
      rw [if_neg h, if_neg h0]; simp
theorem allOf_le (m : Nat → Nat) (k : Nat) : (allOf m k).length ≤ 4 * k := by
  induction k with
  | zero => exact Nat.le_refl _
  | succ k ih =>
    rw [allOf_succ, List.length_append]
    split
    · simp; omega
    · simp; omega
theorem allOf_get {ws : List (Nat × Page)} {m : Nat → Nat} (hm : ∀ p, m p = (wrote ws p).length) {p : Nat} (hp : isTorn ws p = true) (j : Nat) (hj : j < 4) : ∀ n, p < n → (allOf m n).getD (4 * (tornPages ws p).length + j) 0 = (m p : Int)
  | 0, h => absurd h (by omega)
  | n + 1, h => by
    rw [allOf_succ]
    by_cases hpn : p < n
    · have ih := allOf_get hm hp j hj n hpn
      have hlt : 4 * (tornPages ws p).length + j < (allOf m n).length := by
        rw [allOf_len hm]
        have h1 : (tornPages ws (p + 1)).length ≤ (tornPages ws n).length := by
          have : ∀ a b, a ≤ b → (tornPages ws a).length ≤ (tornPages ws b).length := fun a b hab => by
            induction b with
            | zero => obtain rfl : a = 0 := by omega
                      exact Nat.le_refl _
            | succ b ih =>
              rcases Nat.lt_or_ge a (b + 1) with h | h
              · refine Nat.le_trans (ih (by omega)) ?_
                rw [tornPages_succ]; split <;> simp
              · obtain rfl : a = b + 1 := by omega
                exact Nat.le_refl _
          exact this _ _ hpn
        rw [tornPages_succ, if_pos hp, List.length_append] at h1
        simp at h1
        omega
      rw [List.getD_eq_getElem?_getD] at ih ⊢
      rw [List.getElem?_append_left hlt]; exact ih
    · obtain rfl : p = n := by omega
      have h0 : 0 < m p := by rw [hm]; exact List.length_pos_iff.2 (wrote_ne.2 hp)
      rw [if_pos h0, List.getD_eq_getElem?_getD, List.getElem?_append_right (by rw [allOf_len hm]; omega), allOf_len hm]
      rw [show 4 * (tornPages ws p).length + j - 4 * (tornPages ws p).length = j by omega, List.getElem?_replicate, if_pos hj]; rfl
theorem newest_last (ws : List (Nat × Page)) (p : Nat) : newest ws p = (wrote ws p).getLast? := by
  induction ws using snoc_ind with
  | h0 => rfl
  | h1 l x ih =>
    rw [newest_snoc', wrote_snoc]
    by_cases h : x.1 = p
    · rw [if_pos h]; simp [h]
    · rw [if_neg h]
      have : ¬ p = x.1 := fun e => h e.symm
      simp only [this, if_false, ih]
theorem mix_whole {m : Nat → Page} {base X : Page} (hX : X.length = 256) (hm : ∀ j, j < 4 → m j = X) : mix m base 4 = X := by
  apply List.ext_getElem?
  intro i
  rw [mix_get]
  by_cases hi : i < 256
  · rw [if_pos hi, if_pos (by omega), hm (i / 64) (by omega)]
    rw [List.getElem?_eq_getElem (by omega), List.getD, List.getElem?_eq_getElem (by omega)]; rfl
  · rw [if_neg hi, List.getElem?_eq_none (by omega)]
theorem crash_page (d : Dsk) (picks : List Int) (p : Nat) (hp : p < d.room) : (d.crash picks).page p = crashPage d.lasts d.waits picks p := by
  show (newest [] p).getD (((List.range d.room).map (crashPage d.lasts d.waits picks)).getD p noughts) = _
  rw [newest_nil]
  simp [List.getD, hp]
/-- The picks that name the last writes leave what Read tells. -/
theorem crash_all {d : Dsk} (ok : d.Ok) {m : Nat → Nat} (hm : ∀ p, m p = (wrote d.waits p).length) {p : Nat} (hp : p < d.room) : (d.crash (allOf m d.room)).page p = d.page p := by
  rw [crash_page _ _ _ hp]
  unfold crashPage Dsk.page
  by_cases ht : isTorn d.waits p = true
  · rw [if_pos ht]
    have hne := wrote_ne.2 ht
    obtain ⟨X, hX⟩ : ∃ X, (wrote d.waits p).getLast? = some X := by
      cases h : (wrote d.waits p).getLast? with
      | none => exact absurd (List.getLast?_eq_none_iff.1 h) hne
      | some X => exact ⟨X, rfl⟩
    rw [newest_last, hX]
    have hmem : X ∈ wrote d.waits p := List.mem_of_getLast? hX
    have hlen : X.length = 256 := (ok.wait _ (wrote_mem hmem)).2
    refine mix_whole hlen fun j hj => ?_
    unfold picked
    rw [allOf_get hm ht j hj d.room hp, hm]
    have e1 : pickOf ((wrote d.waits p).length : Int) (d.lasts.getD p noughts :: wrote d.waits p).length = (wrote d.waits p).length := by
      unfold pickOf
      rw [List.length_cons, Int.emod_eq_of_lt (by omega) (by omega)]; rfl
    rw [e1, List.getD_eq_getElem?_getD]
    have hl := List.length_pos_iff.2 hne
    rw [show (wrote d.waits p).length = ((wrote d.waits p).length - 1) + 1 by omega, List.getElem?_cons_succ]
    rw [List.getLast?_eq_getElem?] at hX
    rw [hX]; rfl
  · rw [if_neg ht]
    have : newest d.waits p = none := by
      have h1 : (newest d.waits p).isSome = false := by rw [← isTorn_newest]; simpa using ht
      simpa using h1
    rw [this]; rfl
/-- Behind a flush nothing waits: whatever the picks, a crash leaves what Read tells. -/
theorem crash_flushed {d : Dsk} (h : Calm d) (picks : List Int) {p : Nat} (hp : p < d.room) : ((d.flush.1).crash picks).page p = d.page p ∧ (d.flush).2 = 0 := by
  have hs := calm_step h
  have he : d.flush = ({ d with steps := d.steps + 1, lasts := applied d.lasts d.waits, waits := [] }, 0) := by
    unfold Dsk.flush; rw [hs, if_pos rfl]
  rw [he]
  refine ⟨?_, rfl⟩
  have hr : ({ d with steps := d.steps + 1, lasts := applied d.lasts d.waits, waits := [] } : Dsk).room = d.room := by simp [Dsk.room, applied]
  rw [crash_page _ _ _ (by rw [hr]; exact hp)]
  show crashPage (applied d.lasts d.waits) [] picks p = _
  unfold crashPage
  rw [if_neg (by simp [isTorn])]
  unfold applied Dsk.page
  have hp' : p < d.lasts.length := hp
  simp [List.getD, hp']
end Go.Proofs.Ytkophpipehdkmaa
/- Layer 2: a call of the law on a disk, whatever the document's disk beside it is on which nothing waits; that one, made anew. -/
namespace Go.Proofs.Ytkophpipehdkmaa
open Go.RowKit

/-- What such a call leaves: what it tells is not said. -/
def LoosePost (n₀ : Nat) (w : World) (B : Nat) (d : Dsk) (e : Ending) (w' : World) : Prop := ∃ x b, e = .returned (.tuple #[.agg x, .bool b]) ∧ IsDisk n₀ w' B d ∧ Keeps n₀ w w'
theorem does_loose {n₀ : Nat} {w : World} {B : Nat} {d : Dsk} {la wa : Option Addr} {lc wc : Nat} {g : GD} (hD : IsDisk n₀ w B d) (hG : IsG w.heap.size w la lc wa wc g) (hw : g.waits = []) (hfd : d.Few 1000000) (a : ActD) (ha : a.Ok) :
    Calls Try.prog 8 #[ptr B, gv la lc wa wc g, a.v] w fun e w' => LoosePost n₀ w B (stepD d a).1 e w' := by
  have hf : g.waits.length ≤ 1000000 := by rw [hw]; exact Nat.zero_le _
  have hfd2 := hfd.mono (show 1000000 ≤ 2147483648 by decide)
  have hpg : ∀ x ∈ g.waits, 0 ≤ x.1 ∧ x.1 < (g.lasts.length : Int) := by rw [hw]; intro x hx; cases hx
  have key : ∀ (D : Dsk × Nat) (G : GD × Int) e w', DoesPost n₀ w B D G e w' → LoosePost n₀ w B D.1 e w' := by
    rintro D G e w' ⟨a1, a2, a3, a4, rfl, h1, h2, h3⟩
    exact ⟨_, _, rfl, h2, h3⟩
  unfold ActD.v
  by_cases h1 : a.k = 1
  · have e1 : stepD d a = d.write a.p (actL a.p a.x) := if_pos h1
    rw [e1, h1]
    exact (does_write hD hG hfd2 hf a.p a.x a.r).mono (fun e w' h => key _ _ e w' h)
  by_cases h2 : a.k = 2
  · have e1 : stepD d a = d.flush := by unfold stepD; rw [if_neg h1, if_pos h2]
    rw [e1, h2]
    exact (does_flush hD hG hfd2 hf hpg a.p a.x a.r).mono (fun e w' h => key _ _ e w' h)
  by_cases h3 : a.k = 3
  · have e1 : stepD d a = d.arm a.r a.p := by unfold stepD; rw [if_neg h1, if_neg h2, if_pos h3]
    rw [e1, h3]
    exact (does_arm hD hG a.p a.x a.r ha.arm ha.page).mono (fun e w' h => key _ _ e w' h)
  · have e1 : stepD d a = (d, 0) := by unfold stepD; rw [if_neg h1, if_neg h2, if_neg h3]
    rw [e1]
    exact (does_none hD hG a.k a.p a.x a.r h1 h2 h3).mono (fun e w' h => key _ _ e w' h)
/-- The document's disk of so many empty texts. -/
def gnone (n : Nat) : GD := ⟨List.replicate n ⟨#[]⟩, [], 0, 0, false, 0⟩
theorem gnone_v (a : Option Addr) (n : Nat) : gv a n none 0 (gnone n) = .agg #[.slice a n n, .slice none 0 0, .int .i64 0, .int .i64 0, .bool false, .int .i64 0] := by
  unfold gv rv gnone; simp
def strsRow (n : Nat) : Obj := .cells (madeCells #[.string ⟨#[]⟩] n) 9
theorem isG_none {W : World} {Z n : Nat} (h : W.heap[Z]? = some (strsRow n)) (hn : n ≤ 1000000) : IsG W.heap.size W (some ⟨Z, 0, none⟩) n none 0 (gnone n) := by
  refine ⟨fun _ => ⟨Z, 0, rfl, (Array.getElem?_eq_some_iff.1 h).1, ⟨_, _, h⟩, fun j u hu => ?_⟩, fun hne => absurd rfl hne, by show (List.replicate n _).length ≤ n; simp, Nat.le_refl _, fun _ => rfl, (fun e => by cases e), by show (List.replicate n _).length ≤ 1000000; simpa using hn⟩
  have hu : ((List.replicate n (⟨#[]⟩ : ByteArray)).map Value.string)[j]? = some u := hu
  rw [List.map_replicate, List.getElem?_replicate] at hu
  split at hu
  · rename_i hj
    cases hu
    rw [Nat.zero_add, cell_of_row W Z j _ _ _ h]
    simp [madeCells, hj, Nat.mod_one]
  · cases hu
theorem make_strs (n : Nat) (hn : n ≤ 1000000) (w : World) : (Instr.makeSlice 29 (.int .i64 (n : Int)) (.int .i64 (n : Int))).run Try.prog w = .ok (.slice (some ⟨w.heap.size, 0, none⟩) n n) (w.alloc (strsRow n)) :=
  Go.run_make_row' (P := Try.prog) 29 9 (.string ⟨#[]⟩) 16 Try.underlying29 infoStr rfl .i64 .i64 n (by omega) (by omega) w
theorem zeroGD : (Try.prog.info? 34).map (fun i => (i.zero, i.size)) = some (some (.agg #[.slice none 0 0, .slice none 0 0, .int .i64 0, .int .i64 0, .bool false, .int .i64 0]), 6) := by kernel_rfl
theorem build_gd (w : World) (a : Option Addr) (n c : Nat) : (Instr.build 34 #[(0, .slice a n c)]).run Try.prog w = .ok (.agg #[.slice a n c, .slice none 0 0, .int .i64 0, .int .i64 0, .bool false, .int .i64 0]) w := by
  have hz := (zero_of_info zeroGD).1 w
  have hu := run_underlying (P := Try.prog) Try.underlying34 w
  have s3 : (sizeOf 29).run Try.prog w = .ok 1 w := by kernel_rfl
  unfold Instr.build
  simp [hz, hu, s3, go_sem, Result.andThen, Value.cells]
end Go.Proofs.Ytkophpipehdkmaa
/- Layer 2: runs of numbers that the law makes; pages told as texts. -/
namespace Go.Proofs.Ytkophpipehdkmaa
open Go.RowKit

/-- The slice value v, made since the heap had base blocks (or nil), holds these numbers. -/
def OwnI (w : World) (base : Nat) (v : Value) (l : List Int) : Prop := w.ownsRow base 3 1 v l.length (l.map (.int .i64))
theorem infoInt : (Try.prog.info? 3).map (fun i => (i.zero, i.size, i.bytes)) = some (some (.int .i64 0), 1, 8) := by kernel_rfl
theorem OwnI.nil (w : World) (base : Nat) : OwnI w base (.slice none 0 0) [] := World.ownsRow_nil _ _ _ _
theorem app_int (w : World) (ty base : Nat) (hb : base ≤ w.heap.size) (v : Value) (l : List Int) (hO : OwnI w base v l) (b : Nat) (x : Int) (hx : w.cell? ⟨b, 0, none⟩ = some (.int .i64 x)) (hf : l.length ≤ 5000) :
    ∃ v' w', (Builtin.append_ #[23, 23] ty #[v, .slice (some ⟨b, 0, none⟩) 1 1]).run Try.prog w = .ok v' w' ∧ OwnI w' base v' (l ++ [x]) ∧ w.grownBy w' v.ownBlock := by
  obtain ⟨i0, hi, hz0, hz1, hz2⟩ := info_parts infoInt
  obtain ⟨v', w', hr, h2, h3, -, -⟩ := run_append_own_at (P := Try.prog) w base 23 ty 3 i0 _ 1 8 Try.underlying23 hi hz0 hz1 hz2 rfl (by decide) v l.length (l.map (.int .i64)) hO ⟨b, 0, none⟩ 1 1 [.int .i64 x] rfl (fun j u hu => by
    match j, hu with
    | 0, hu => cases hu; rw [addr_add]; exact hx
    | j + 1, hu => cases hu) (by
    intro u hu
    simp only [List.mem_singleton] at hu
    subst hu; rfl) (by unfold maxLen; omega) (by omega) hb
  exact ⟨v', w', hr, by unfold OwnI; simpa using h2, h3⟩
theorem OwnI.slice {w : World} {base : Nat} {v : Value} {l : List Int} (h : OwnI w base v l) : ∃ a cap, v = .slice a l.length cap := by
  rcases h.2 with ⟨rfl, e⟩ | ⟨g, cap, cur, rfl, _⟩
  · exact ⟨none, 0, by rw [e]⟩
  · exact ⟨_, _, rfl⟩
theorem OwnI.picks {w : World} {base : Nat} {v : Value} {l : List Int} (h : OwnI w base v l) : PickV w w.heap.size v l := by
  obtain ⟨hlen, ⟨rfl, h0⟩ | ⟨g, cap, cur, rfl, hg, hh, hn, hcap, hsz, htk⟩⟩ := h
  · exact ⟨none, 0, by rw [h0], by omega, fun hl => absurd (List.eq_nil_of_length_eq_zero h0) hl⟩
  · refine ⟨_, cap, rfl, hn, fun hl => ⟨g, 0, rfl, (Array.getElem?_eq_some_iff.1 hh).1, fun i x hi => ?_⟩⟩
    have hil := (List.getElem?_eq_some_iff.1 hi).1
    rw [Nat.zero_add, cell_of_row w g _ _ _ _ hh]
    have h1 : (cur.toList.take (l.length * 1))[i]? = some (.int .i64 x) := by
      rw [htk, List.getElem?_map, hi]; rfl
    rw [List.getElem?_take, if_pos (by omega), Array.getElem?_toList] at h1
    exact h1
theorem OwnI.below {w w' : World} {base : Nat} {v : Value} {l : List Int} (h : OwnI w base v l) (hb : Below w.heap.size w w') : OwnI w' base v l := row_at h fun g hg => hb.block g (h.lt g hg).2
theorem OwnI.own {w : World} {base g : Nat} {v : Value} {l : List Int} (h : OwnI w base v l) (hg : v.ownBlock = some g) : base ≤ g ∧ g < w.heap.size := h.lt g hg
theorem build_int (w : World) (x : Int) : (Instr.buildSlice 23 1 #[(0, .int .i64 x)]).run Try.prog w = .ok (.slice (some ⟨w.heap.size, 0, none⟩) 1 1) (w.alloc (.cells #[.int .i64 x] 3)) := by
  obtain ⟨i, hi, hz, hs, hb⟩ := info_parts infoInt
  have hf := Great.fill_whole (s := 1) (by omega) [(.int .i64 x : Value)] ((Array.range (1 * 1)).map ((Value.int .i64 0).cells[· % (Value.int .i64 0).cells.size]!)) (by simp [Value.cells]) (by simp)
  exact run_buildSlice w 23 3 1 _ _ i _ Try.underlying23 hi hz (by rw [hs]; omega) (by rw [hs]; omega) (by rw [hs]; simpa [Value.cells] using hf)
theorem conv_page {w : World} {g : Nat} {l : Page} (h : PageAt w g l) (hl : l.length = 256) : (convert 31 9 (.slice (some ⟨g, 0, none⟩) 256 256)).run Try.prog w = .ok (.string (bs l)) w := by
  have := conv_bytes w g 0 l 256 h.range
  rwa [hl] at this
end Go.Proofs.Ytkophpipehdkmaa
/- A statement whose order is open, and one of whose operations writes a slot that others read ahead of it. Of no program. -/
namespace Go.Proofs.Ytkophpipehdkmaa

section
variable {P : Program} {ops : Array Oper} {Q : Exit → Act → World → Prop}
/-- What is known when the operations in 'listed' have come up. -/
structure RegN (ops : Array Oper) (I : Array Bool → World → Prop) (Sp : Nat → Value → World → Prop) (a0 : Act) (listed : Array Bool) (a : Act) (w : World) : Prop where
  inv : I listed w
  size : listed.size = ops.size
  defers : a.defers = a0.defers
  len : a.tmps.size = a0.tmps.size
  old : ∀ t, (∀ (i : Nat) (o : Oper), ops[i]? = some o → listed.getD i false = true → o.dst ≠ some t) → a.tmps.getD t undef = a0.tmps.getD t undef
  said : ∀ (i : Nat) (o : Oper) (d : Tmp), ops[i]? = some o → listed.getD i false = true → o.dst = some d → Sp i (a.tmps.getD d undef) w
  closed : ∀ (i : Nat) (o : Oper), ops[i]? = some o → listed.getD i false = true → ∀ e ∈ o.after, Region.binds .any e = true → listed.getD e.on false = true

theorem RegN.toL {I : Array Bool → World → Prop} {Sp : Nat → Value → World → Prop} {a0 a : Act} {listed : Array Bool} {w : World} (h : RegN ops I Sp a0 listed a w) : RegL ops I Sp a0 listed a w :=
  ⟨h.inv, h.size, h.defers, h.len, fun t ht => h.old t (fun i o hi _ => ht i o hi), h.said, h.closed⟩
/-- Operation j alone writes slot t. -/
def onlyB (ops : Array Oper) (t : Tmp) (j : Nat) : Bool := (List.range ops.size).all fun i => i == j || match ops[i]? with | some o => o.dst != some t | none => true
theorem RegN.later {I : Array Bool → World → Prop} {Sp : Nat → Value → World → Prop} {a0 a : Act} {listed : Array Bool} {w : World} (h : RegN ops I Sp a0 listed a w) {t : Tmp} (j : Nat) (ht : onlyB ops t j = true) (hj : listed.getD j false = false) : a.eval (.tmp t) = a0.tmps.getD t undef :=
  h.old t (fun i o hi hl e => by
    have h1 := List.all_eq_true.1 ht i (List.mem_range.2 (Array.getElem?_eq_some_iff.1 hi).1)
    simp only [hi, e] at h1
    by_cases hij : i = j
    · subst hij; rw [hj] at hl; cases hl
    · simp [hij] at h1)
theorem wpAny_n (I : Array Bool → World → Prop) (Sp : Nat → Value → World → Prop) (a0 : Act)
    (hlex : ∀ i o, ops[i]? = some o → ∀ e ∈ o.after, Region.binds .any e = true → e.on < i)
    (hd : ∀ (i j : Nat) (oi oj : Oper) (d : Tmp), ops[i]? = some oi → ops[j]? = some oj → i ≠ j → oi.dst = some d → oj.dst ≠ some d)
    (hin : ∀ (i : Nat) (o : Oper) (d : Tmp), ops[i]? = some o → o.dst = some d → d < a0.tmps.size)
    (step : ∀ (i : Nat) (o : Oper), ops[i]? = some o → ∀ listed a w, RegN ops I Sp a0 listed a w → listed.getD i false = false → (∀ e ∈ o.after, Region.binds .any e = true → listed.getD e.on false = true) →
      wpOp P ops Q i (fun a' w' => ∃ v, a' = a.put o.dst v ∧ I (listed.setIfInBounds i true) w' ∧ (o.dst.isSome = true → Sp i v w') ∧ ∀ j u, listed.getD j false = true → Sp j u w → Sp j u w') a w)
    (fin : ∀ listed a w, RegN ops I Sp a0 listed a w → (∀ i, i < ops.size → listed.getD i false = true) → Q .normal a w) :
    ∀ (fuel : Nat) (listed : Array Bool) (a : Act) (w : World), RegN ops I Sp a0 listed a w → listed.toList.count false = fuel → wpAny P .any ops Q fuel listed a w := by
  intro fuel
  induction fuel with
  | zero =>
    intro listed a w hI hc
    have hno : ∀ i, i < ops.size → listed.getD i false = true := by
      intro i hi
      have hi2 : i < listed.size := by rw [hI.size]; exact hi
      have := List.count_eq_zero.1 hc
      rw [Array.getD, dif_pos hi2]
      have h2 : listed[i] ≠ false := fun hb => this (by rw [← hb]; exact Array.mem_toList_iff.2 (Array.getElem_mem hi2))
      exact (Bool.not_eq_false _).mp h2
    refine ⟨?_, fin listed a w hI hno⟩
    apply List.eq_nil_iff_forall_not_mem.2
    intro i hi
    obtain ⟨h0, o, ho, -⟩ := mem_ready.1 hi
    have hi1 := (Array.getElem?_eq_some_iff.1 ho).1
    have hi2 : i < listed.size := by rw [hI.size]; exact hi1
    have h1 := hno i hi1
    rw [Array.getD, dif_pos hi2] at h0 h1
    rw [h0] at h1
    cases h1
  | succ fuel ih =>
    intro listed a w hI hc
    refine ⟨fun h => fin listed a w hI (readyL_nil_all hI.size hlex h), fun i hi => ?_⟩
    obtain ⟨h0, o, ho, hpre⟩ := mem_ready.1 hi
    have hi1 := (Array.getElem?_eq_some_iff.1 ho).1
    have hi2 : i < listed.size := by rw [hI.size]; exact hi1
    have h0' : listed.getD i false = false := by
      rw [Array.getD, dif_pos hi2] at h0 ⊢; exact h0
    refine wpOp_mono ?_ (step i o ho listed a w hI h0' hpre)
    rintro a' w' ⟨v, rfl, hI', hS, hkeep⟩
    have hset : ∀ k, k ≠ i → (listed.setIfInBounds i true).getD k false = listed.getD k false := fun k hk => by
      simp [Ne.symm hk]
    have hseti : (listed.setIfInBounds i true).getD i false = true := by simp [hi2]
    have hup : ∀ k, listed.getD k false = true → (listed.setIfInBounds i true).getD k false = true := fun k hk => by
      by_cases hki : k = i
      · rw [hki]; exact hseti
      · rw [hset k hki]; exact hk
    refine ih _ _ _ ?_ ?_
    · refine ⟨hI', by simpa using hI.size, ?_, ?_, ?_, ?_, ?_⟩
      · cases hdst : o.dst <;> simp [Act.put, hI.defers]
      · cases hdst : o.dst <;> simp [Act.put, hI.len]
      · intro t ht
        rw [← hI.old t (fun j oj hj hl => ht j oj hj (hup j hl))]
        cases hdst : o.dst with
        | none => rfl
        | some d => exact getD_putL_other (fun e => ht i o ho hseti (by rw [hdst, e]))
      · intro j oj d hj hlist hdj
        by_cases hji : j = i
        · subst hji
          obtain rfl : o = oj := Option.some.inj (ho.symm.trans hj)
          rw [hdj, getD_putL_same (by rw [hI.len]; exact hin j o d ho hdj)]
          exact hS (by rw [hdj]; rfl)
        · rw [hset j hji] at hlist
          have hold := hkeep j _ hlist (hI.said j oj d hj hlist hdj)
          cases hdst : o.dst with
          | none => exact hold
          | some d' =>
            have hne : d' ≠ d := fun e => hd i j o oj d' ho hj (Ne.symm hji) hdst (by rw [hdj, e])
            rw [getD_putL_other hne]
            exact hold
      · intro k ok hk hlk e he hb
        by_cases hki : k = i
        · subst hki
          obtain rfl : o = ok := Option.some.inj (ho.symm.trans hk)
          exact hup _ (hpre e he hb)
        · rw [hset k hki] at hlk
          exact hup _ (hI.closed k ok hk hlk e he hb)
    · rw [Array.toList_setIfInBounds, List.count_set (by simpa using hi2)]
      have hf : listed.toList[i]'(by simpa using hi2) = false := by
        rw [Array.getElem_toList]
        rw [Array.getD, dif_pos hi2] at h0; exact h0
      simp [hf, hc]

theorem wp_region_n {id : Nat} (I : Array Bool → World → Prop) (Sp : Nat → Value → World → Prop) {a0 : Act} {w : World} (hm : P.follows .mixedOrders = true)
    (hlex : lexAnyB ops = true) (hdst : dstB ops = true) (hin : inB ops a0.tmps.size = true) (hI : I (Array.replicate ops.size false) w.drew)
    (step : ∀ (i : Nat) (o : Oper), ops[i]? = some o → ∀ listed a w', RegN ops I Sp a0 listed a w' → listed.getD i false = false → (∀ e ∈ o.after, Region.binds .any e = true → listed.getD e.on false = true) →
      wpOp P ops Q i (fun a' w'' => ∃ v, a' = a.put o.dst v ∧ I (listed.setIfInBounds i true) w'' ∧ (o.dst.isSome = true → Sp i v w'') ∧ ∀ j u, listed.getD j false = true → Sp j u w' → Sp j u w'') a w')
    (fin : ∀ listed a w', RegN ops I Sp a0 listed a w' → (∀ i, i < ops.size → listed.getD i false = true) → Q .normal a w') :
    (Code.region id ops true).wp P Q a0 w := by
  have hno : ∀ i, (Array.replicate ops.size false).getD i false = false := fun i => by
    simp only [Array.getD_eq_getD_getElem?, Array.getElem?_replicate]
    split <;> rfl
  refine wp_region_any hm (wpAny_n I Sp a0 (lexAny_of hlex) (fun i j oi oj d hi hj hne hd => dst_of hdst i j oi oj d hi hj hne hd) (fun i o d hi hd => in_of hin i o d hi hd) step fin _ _ _ _ ?_ (by simp))
  refine ⟨hI, by simp, rfl, rfl, fun _ _ => rfl, ?_, ?_⟩
  · intro i o d _ hl _
    rw [hno i] at hl; cases hl
  · intro i o _ hl
    rw [hno i] at hl; cases hl
end
end Go.Proofs.Ytkophpipehdkmaa
/- Layer 2: two rows of runs of texts that the law makes, beside each other. -/
namespace Go.Proofs.Ytkophpipehdkmaa
open Go.RowKit

theorem app_strs (w : World) (ty base : Nat) (hb : base ≤ w.heap.size) (v : Value) (l : List ByteArray) (hO : OwnS w base v l) (b c : Nat) (m : List ByteArray) (hx : ∀ j s, m[j]? = some s → w.cell? ⟨b, j, none⟩ = some (.string s)) (hf : l.length + m.length ≤ 5000) :
    ∃ v' w', (Builtin.append_ #[29, 29] ty #[v, .slice (some ⟨b, 0, none⟩) m.length c]).run Try.prog w = .ok v' w' ∧ OwnS w' base v' (l ++ m) ∧ w.grownBy w' v.ownBlock ∧ (v'.ownBlock = v.ownBlock ∨ v'.ownBlock = some w.heap.size) := by
  obtain ⟨i0, hi, hz0, hz1, hz2⟩ := info_parts infoStr
  obtain ⟨v', w', hr, h2, h3, -, h4⟩ := run_append_own_at (P := Try.prog) w base 29 ty 9 i0 _ 1 16 Try.underlying29 hi hz0 hz1 hz2 rfl (by decide) v l.length (l.map .string) hO ⟨b, 0, none⟩ m.length c (m.map .string) (by simp) (fun j u hu => by
    rw [List.getElem?_map, Option.map_eq_some_iff] at hu
    obtain ⟨s, hs, rfl⟩ := hu
    rw [addr_add, Nat.zero_add]; exact hx j s hs) (by
    intro u hu
    obtain ⟨s, -, rfl⟩ := List.mem_map.1 hu
    rfl) (by unfold maxLen; omega) (by omega) hb
  exact ⟨v', w', hr, by unfold OwnS; simpa using h2, h3, h4⟩
theorem OwnS.cells' {w : World} {b : Nat} {v : Value} {l : List ByteArray} (h : OwnS w b v l) (hl : l ≠ []) : ∃ g c, v = .slice (some ⟨g, 0, none⟩) l.length c ∧ b ≤ g ∧ g < w.heap.size ∧ l.length ≤ c ∧ ∀ j s, l[j]? = some s → w.cell? ⟨g, j, none⟩ = some (.string s) := by
  obtain ⟨hlen, ⟨rfl, h0⟩ | ⟨g, cap, cur, rfl, hg, hh, hn, hcap, hsz, htk⟩⟩ := h
  · exact absurd (List.eq_nil_of_length_eq_zero h0) hl
  · refine ⟨g, cap, rfl, hg, (Array.getElem?_eq_some_iff.1 hh).1, hn, fun j s hj => ?_⟩
    have hjl := (List.getElem?_eq_some_iff.1 hj).1
    rw [cell_of_row w g _ _ _ _ hh]
    have h1 : (cur.toList.take (l.length * 1))[j]? = some (.string s) := by
      rw [htk, List.getElem?_map, hj]; rfl
    rw [List.getElem?_take, if_pos (by omega), Array.getElem?_toList] at h1
    exact h1
theorem OwnS.slice {w : World} {base : Nat} {v : Value} {l : List ByteArray} (h : OwnS w base v l) : ∃ a cap, v = .slice a l.length cap := by
  rcases h.2 with ⟨rfl, e⟩ | ⟨g, cap, cur, rfl, _⟩
  · exact ⟨none, 0, by rw [e]⟩
  · exact ⟨_, _, rfl⟩
theorem OwnS.nil (w : World) (base : Nat) : OwnS w base (.slice none 0 0) [] := World.ownsRow_nil _ _ _ _
theorem OwnS.at' {w w' : World} {base : Nat} {v : Value} {l : List ByteArray} (h : OwnS w base v l) (hg : ∀ g, v.ownBlock = some g → w'.heap[g]? = w.heap[g]?) : OwnS w' base v l := row_at h hg
theorem OwnS.keeps {n : Nat} {w w' : World} {base : Nat} {v : Value} {l : List ByteArray} (h : OwnS w base v l) (hk : Keeps n w w') : OwnS w' base v l := h.at' fun g hg => by
  obtain ⟨hlen, ⟨rfl, h0⟩ | ⟨g', cap, cur, rfl, hg', hh, hn, hcap, hsz, htk⟩⟩ := h
  · cases hg
  · cases hg
    rw [hk.cells _ _ _ _ hh (by decide) (by decide), hh]
def upd {α : Type} (f : Nat → α) (i : Nat) (x : α) : Nat → α := fun j => if j = i then x else f j
/-- Two rows of twenty runs of texts each, in blocks G and H: no two runs share their block. -/
structure Racks (w : World) (S G H : Nat) (V : Nat → Value) (ls : Nat → List ByteArray) : Prop where
  rg : w.heap[G]? = some (.cells ((List.range 20).map fun i => V (0 + i)).toArray 30 (0, 0))
  rh : w.heap[H]? = some (.cells ((List.range 20).map fun i => V (20 + i)).toArray 30 (0, 0))
  own : ∀ i, OwnS w S (V i) (ls i)
  apart : ∀ i j g, (V i).ownBlock = some g → (V j).ownBlock = some g → i = j
  lo : G < S ∧ H < S ∧ G ≠ H ∧ S ≤ w.heap.size
theorem Racks.keeps {n : Nat} {w w' : World} {S G H : Nat} {V : Nat → Value} {ls : Nat → List ByteArray} (h : Racks w S G H V ls) (hk : Keeps n w w') (hs : w.heap.size ≤ w'.heap.size) : Racks w' S G H V ls :=
  ⟨hk.cells _ _ _ _ h.rg (by decide) (by decide), hk.cells _ _ _ _ h.rh (by decide) (by decide), fun i => (h.own i).keeps hk, h.apart, h.lo.1, h.lo.2.1, h.lo.2.2.1, Nat.le_trans h.lo.2.2.2 hs⟩
theorem Racks.below {w w' : World} {S G H : Nat} {V : Nat → Value} {ls : Nat → List ByteArray} (h : Racks w S G H V ls) (hb : Below w.heap.size w w') : Racks w' S G H V ls :=
  h.keeps (Keeps.of_below hb (Nat.le_refl _)) hb.size
theorem range_upd (V : Nat → Value) (o i : Nat) (v : Value) (_hi : i < 20) : (((List.range 20).map fun j => V (o + j)).toArray).setIfInBounds i v = ((List.range 20).map fun j => upd V (o + i) v (o + j)).toArray := by
  rw [List.setIfInBounds_toArray]
  congr 1
  apply List.ext_getElem?
  intro k
  rw [List.getElem?_set]
  by_cases hk : i = k
  · subst hk
    by_cases h20 : i < 20
    · simp [h20, upd]
    · simp [h20]
  · rw [if_neg hk]
    by_cases h20 : k < 20
    · simp only [List.getElem?_map, List.getElem?_range h20, Option.map_some, upd]
      rw [if_neg (by omega)]
    · simp [h20]
theorem range_other (V : Nat → Value) (o i : Nat) (v : Value) (ho : ∀ j, j < 20 → o + j ≠ i) : ((List.range 20).map fun j => V (o + j)) = (List.range 20).map fun j => upd V i v (o + j) := by
  apply List.map_congr_left
  intro j hj
  unfold upd
  rw [if_neg (ho j (List.mem_range.1 hj))]
/-- A run is another one: it lies in its own block still, or in a new one. -/
theorem Racks.set {w w1 : World} {S G H : Nat} {V : Nat → Value} {ls : Nat → List ByteArray} (h : Racks w S G H V ls) (i : Nat) (hi : i < 20) (second : Bool) {v : Value} {l : List ByteArray} (hg : w.grownBy w1 (V (if second then 20 + i else i)).ownBlock) (hO : OwnS w1 S v l)
    (hf : ∀ g, v.ownBlock = some g → (V (if second then 20 + i else i)).ownBlock = some g ∨ w.heap.size ≤ g) :
    Racks (w1.setCell ⟨if second then H else G, i, none⟩ v) S G H (upd V (if second then 20 + i else i) v) (upd ls (if second then 20 + i else i) l) := by
  obtain ⟨q, hq⟩ : ∃ q, (if second then 20 + i else i) = q := ⟨_, rfl⟩
  obtain ⟨R, hR⟩ : ∃ R, (if second then H else G) = R := ⟨_, rfl⟩
  rw [hq] at hg hf
  rw [hq, hR]
  have hlo := h.lo
  have hRS : R < S := by rw [← hR]; split <;> omega
  have hkeep : ∀ b, b < w.heap.size → (∀ g, (V q).ownBlock = some g → b ≠ g) → w1.heap[b]? = w.heap[b]? := fun b hb hne => hg.block b hb (fun e => hne b e.symm rfl)
  have hV : ∀ j g, (V j).ownBlock = some g → S ≤ g ∧ g < w.heap.size := fun j g hg => (h.own j).lt g hg
  have g1 : w1.heap[G]? = w.heap[G]? := hkeep G (by omega) (fun g hg e => by have := (hV q g hg).1; omega)
  have h1 : w1.heap[H]? = w.heap[H]? := hkeep H (by omega) (fun g hg e => by have := (hV q g hg).1; omega)
  have hset := grownBy_cell w1 ⟨R, i, none⟩ v
  have hother : ∀ b, b < w1.heap.size → b ≠ R → (w1.setCell ⟨R, i, none⟩ v).heap[b]? = w1.heap[b]? := fun b hb hne => hset.block b hb (fun e => hne (Option.some.inj e))
  have hsz : (w1.setCell ⟨R, i, none⟩ v).heap.size = w1.heap.size := by simp [World.setCell]
  have hs1 := hg.size
  refine ⟨?_, ?_, fun j => ?_, fun j k g hj hk => ?_, hlo.1, hlo.2.1, hlo.2.2.1, by omega⟩
  · cases second with
    | true =>
      simp only [if_true] at hq hR
      subst hR
      rw [hother G (by omega) hlo.2.2.1, g1, h.rg, range_other V 0 q v (fun j hj => by omega)]
    | false =>
      simp only [Bool.false_eq_true, if_false] at hq hR
      subst hR hq
      have := heap_setCell_same w1 G i _ _ v (g1.trans h.rg)
      rw [this, range_upd V 0 i v hi, Nat.zero_add]
  · cases second with
    | true =>
      simp only [if_true] at hq hR
      subst hR hq
      have := heap_setCell_same w1 H i _ _ v (h1.trans h.rh)
      rw [this, range_upd V 20 i v hi]
    | false =>
      simp only [Bool.false_eq_true, if_false] at hq hR
      subst hR
      rw [hother H (by omega) (fun e => hlo.2.2.1 e.symm), h1, h.rh, range_other V 20 q v (fun j hj => by omega)]
  · unfold upd
    by_cases hj : j = q
    · rw [if_pos hj, if_pos hj]
      exact hO.at' fun g hg => hother g (hO.lt g hg).2 (fun e => by have := (hO.lt g hg).1; omega)
    · rw [if_neg hj, if_neg hj]
      refine (h.own j).at' fun g hg => ?_
      have := hV j g hg
      rw [hother g (by omega) (by omega)]
      exact hkeep g this.2 (fun g' hg' e => hj (h.apart j q g hg (by rw [e]; exact hg')))
  · unfold upd at hj hk
    by_cases ej : j = q
    · by_cases ek : k = q
      · rw [ej, ek]
      · rw [if_pos ej] at hj
        rw [if_neg ek] at hk
        rcases hf g hj with h2 | h2
        · exact absurd (h.apart k q g hk h2) ek
        · have := (hV k g hk).2; omega
    · rw [if_neg ej] at hj
      by_cases ek : k = q
      · rw [if_pos ek] at hk
        rcases hf g hk with h2 | h2
        · exact absurd (h.apart j q g hj h2) ej
        · have := (hV j g hj).2; omega
      · rw [if_neg ek] at hk
        exact h.apart j k g hj hk
theorem Racks.cellG {w : World} {S G H : Nat} {V : Nat → Value} {ls : Nat → List ByteArray} (h : Racks w S G H V ls) (i : Nat) (hi : i < 20) : w.cell? ⟨G, i, none⟩ = some (V i) ∧ w.frozen? ⟨G, i, none⟩ = false := by
  refine ⟨?_, frozen_of_row w G i _ _ h.rg⟩
  rw [cell_of_row w G i _ _ _ h.rg]
  simp [hi]
theorem Racks.cellH {w : World} {S G H : Nat} {V : Nat → Value} {ls : Nat → List ByteArray} (h : Racks w S G H V ls) (i : Nat) (hi : i < 20) : w.cell? ⟨H, i, none⟩ = some (V (20 + i)) ∧ w.frozen? ⟨H, i, none⟩ = false := by
  refine ⟨?_, frozen_of_row w H i _ _ h.rh⟩
  rw [cell_of_row w H i _ _ _ h.rh]
  simp [hi]
theorem OwnS.one (w : World) (base : Nat) (hb : base ≤ w.heap.size) (s : ByteArray) : OwnS (w.alloc (.cells #[.string s] 9)) base (.slice (some ⟨w.heap.size, 0, none⟩) 1 1) [s] :=
  ⟨rfl, .inr ⟨w.heap.size, 1, #[.string s], rfl, hb, heap_alloc_last w _, Nat.le_refl _, by unfold maxLen; omega, rfl, rfl⟩⟩
def nils20 : Array Value := #[.slice none 0 0, .slice none 0 0, .slice none 0 0, .slice none 0 0, .slice none 0 0, .slice none 0 0, .slice none 0 0, .slice none 0 0, .slice none 0 0, .slice none 0 0, .slice none 0 0, .slice none 0 0, .slice none 0 0, .slice none 0 0, .slice none 0 0, .slice none 0 0, .slice none 0 0, .slice none 0 0, .slice none 0 0, .slice none 0 0]
theorem Racks.made (w : World) : Racks ((w.alloc (.cells nils20 30)).alloc (.cells nils20 30)) (w.heap.size + 2) w.heap.size (w.heap.size + 1) (fun _ => .slice none 0 0) (fun _ => []) := by
  have hn : ((List.range 20).map fun _ => (Value.slice none 0 0)).toArray = nils20 := rfl
  refine ⟨?_, ?_, fun i => OwnS.nil _ _, (fun i j g h => by cases h), by omega, by omega, by omega, by simp⟩
  · rw [hn]; exact (Below.heap_alloc _ _ _ (by simp)).trans (heap_alloc_new w _)
  · rw [hn]; exact heap_alloc_new' w _ _
/-- One page is written down. -/
theorem Racks.store {w w1 : World} {S G H : Nat} {V : Nat → Value} {ls : Nat → List ByteArray} (h : Racks w S G H V ls) (hb : Below w.heap.size w w1) (i : Nat) (hi : i < 20) (s : ByteArray) :
    Racks ((w1.alloc (.cells #[.string s] 9)).setCell ⟨G, i, none⟩ (.slice (some ⟨w1.heap.size, 0, none⟩) 1 1)) S G H (upd V i (.slice (some ⟨w1.heap.size, 0, none⟩) 1 1)) (upd ls i [s]) := by
  have h1 := h.below hb
  exact h1.set i hi false (v := .slice (some ⟨w1.heap.size, 0, none⟩) 1 1) (l := [s]) (World.grownBy_alloc w1 _ _) (OwnS.one w1 S h1.lo.2.2.2 s) (fun g hg => by cases hg; exact .inr (Nat.le_refl _))
theorem Racks.clear {w : World} {S G H : Nat} {V : Nat → Value} {ls : Nat → List ByteArray} (h : Racks w S G H V ls) (i : Nat) (hi : i < 20) : Racks (w.setCell ⟨H, i, none⟩ (.slice none 0 0)) S G H (upd V (20 + i) (.slice none 0 0)) (upd ls (20 + i) []) :=
  h.set i hi true (v := .slice none 0 0) (l := []) (World.grownBy.refl _ _) (OwnS.nil _ _) (fun g hg => by cases hg)
end Go.Proofs.Ytkophpipehdkmaa
/- Layer 2, in plain words: what the law of what a crash leaves writes down: of each page what lasts, and what was read behind each write. -/
namespace Go.Proofs.Ytkophpipehdkmaa

/-- Of page p the runs p and 20 + p tell what lasts, and all that waits. -/
structure Held (d : Dsk) (n : Nat) (ls : Nat → List ByteArray) : Prop where
  last : ∀ p, p < n → ls p = [pgStr (d.lasts.getD p noughts)]
  waited : ∀ p, p < n → ∀ l ∈ wrote d.waits p, pgStr l ∈ ls (20 + p)
  page : ∀ p, p < n → ∀ x ∈ ls (20 + p), ∃ l : Page, l.length = 256 ∧ x = pgStr l
/-- What a call makes of it. -/
theorem act_waits {d : Dsk} (ok : d.Ok) (a : ActD) : (stepD d a).1.waits = [] ∨ ((stepD d a).1.lasts = d.lasts ∧ ((stepD d a).1.waits = d.waits ∨ (a.k = 1 ∧ 0 ≤ a.p ∧ a.p < d.room ∧ ∃ l, (stepD d a).1.waits = d.waits ++ [(a.p.toNat, l)]))) := by
  have hs := ok.step
  unfold stepD
  by_cases h1 : a.k = 1
  · rw [if_pos h1]
    unfold Dsk.write
    by_cases hl : (actL a.p a.x).length ≠ 256
    · rw [if_pos hl]; exact .inr ⟨rfl, .inl rfl⟩
    rw [if_neg hl]
    by_cases hp : 0 ≤ a.p ∧ a.p < d.room
    · rw [if_neg (not_not_intro hp)]
      by_cases h0 : d.step.2 = 0
      · rw [if_pos h0]
        exact .inr ⟨hs.2.1, .inr ⟨h1, hp.1, hp.2, _, rfl⟩⟩
      · rw [if_neg h0]; exact .inr ⟨hs.2.1, .inl hs.2.2.1⟩
    · rw [if_pos hp]; exact .inr ⟨rfl, .inl rfl⟩
  rw [if_neg h1]
  by_cases h2 : a.k = 2
  · rw [if_pos h2]
    unfold Dsk.flush
    by_cases h0 : d.step.2 = 0
    · rw [if_pos h0]; exact .inl rfl
    · rw [if_neg h0]; exact .inr ⟨hs.2.1, .inl hs.2.2.1⟩
  rw [if_neg h2]
  by_cases h3 : a.k = 3
  · rw [if_pos h3]
    unfold Dsk.arm
    split
    · exact .inr ⟨rfl, .inl rfl⟩
    · split
      · exact .inr ⟨rfl, .inl rfl⟩
      · split <;> exact .inr ⟨rfl, .inl rfl⟩
  · rw [if_neg h3]; exact .inr ⟨rfl, .inl rfl⟩
theorem page_snoc (d : Dsk) (ws : List (Nat × Page)) (p : Nat) (l : Page) (h : d.waits = ws ++ [(p, l)]) : d.page p = l := by
  unfold Dsk.page
  rw [h, newest_snoc]
  simp
/-- Behind a call other than a write of a page: what was written down still tells it, if anything waits. -/
theorem Held.act {d : Dsk} {n : Nat} {ls : Nat → List ByteArray} (h : Held d n ls) (ok : d.Ok) (hn : d.room = n) (a : ActD) (ha : ¬ (a.k = 1 ∧ 0 ≤ a.p ∧ a.p < n)) : (stepD d a).1.waits = [] ∨ Held (stepD d a).1 n ls := by
  rcases act_waits ok a with h0 | ⟨hl, hw | ⟨q1, q2, q3, -⟩⟩
  · exact .inl h0
  · exact .inr ⟨fun p hp => by rw [hl]; exact h.last p hp, fun p hp => by rw [hw]; exact h.waited p hp, h.page⟩
  · exact absurd ⟨q1, q2, by rw [← hn]; exact q3⟩ ha
/-- Behind a write of page p, what is read of it being written down. -/
theorem Held.write {d : Dsk} {n p : Nat} {ls : Nat → List ByteArray} (h : Held d n ls) (ok : d.Ok) (hn : d.room = n) (hn20 : n ≤ 20) (a : ActD) (hp : a.p = (p : Int)) (hpn : p < n) (ok' : (stepD d a).1.Ok) (hr' : (stepD d a).1.room = n) :
    (stepD d a).1.waits = [] ∨ Held (stepD d a).1 n (upd ls (20 + p) (ls (20 + p) ++ [pgStr ((stepD d a).1.page p)])) := by
  have hpage : ∀ r, r < n → ∀ x ∈ upd ls (20 + p) (ls (20 + p) ++ [pgStr ((stepD d a).1.page p)]) (20 + r), ∃ l : Page, l.length = 256 ∧ x = pgStr l := by
    intro r hr x hx
    unfold upd at hx
    split at hx
    · rcases List.mem_append.1 hx with hx | hx
      · exact h.page p hpn x hx
      · rw [List.mem_singleton] at hx
        exact ⟨_, page_len256 ok' p (by rw [hr']; exact hpn), hx⟩
    · exact h.page r hr x hx
  have hlast : ∀ r, r < n → upd ls (20 + p) (ls (20 + p) ++ [pgStr ((stepD d a).1.page p)]) r = ls r := by
    intro r hr
    unfold upd
    rw [if_neg (by omega)]
  have hmem : ∀ r x, x ∈ ls (20 + r) → x ∈ upd ls (20 + p) (ls (20 + p) ++ [pgStr ((stepD d a).1.page p)]) (20 + r) := by
    intro r x hx
    unfold upd
    split
    · rename_i e
      have : r = p := by omega
      subst this
      exact List.mem_append_left _ hx
    · exact hx
  rcases act_waits ok a with h0 | ⟨hl, hw | ⟨q1, q2, q3, l, hw⟩⟩
  · exact .inl h0
  · exact .inr ⟨fun r hr => by rw [hlast r hr, hl]; exact h.last r hr, fun r hr l hlm => by rw [hw] at hlm; exact hmem r _ (h.waited r hr l hlm), hpage⟩
  · refine .inr ⟨fun r hr => by rw [hlast r hr, hl]; exact h.last r hr, fun r hr x hx => ?_, hpage⟩
    have hpp : a.p.toNat = p := by rw [hp]; rfl
    rw [hpp] at hw
    rw [hw, wrote_snoc] at hx
    by_cases e : p = r
    · subst e
      rw [if_pos rfl] at hx
      rcases List.mem_append.1 hx with hx | hx
      · exact hmem p _ (h.waited p hpn x hx)
      · rw [List.mem_singleton] at hx
        have := page_snoc _ _ p l hw
        rw [hx]
        unfold upd
        rw [if_pos rfl, this]
        exact List.mem_append_right _ (by simp)
    · rw [if_neg e] at hx
      exact hmem r _ (h.waited r hr x hx)
/-- Where nothing waits all is written down anew. -/
theorem Held.anew {d : Dsk} {n : Nat} {ls : Nat → List ByteArray} (hw : d.waits = []) (h1 : ∀ p, p < n → ls p = [pgStr (d.page p)]) (h2 : ∀ p, p < n → ls (20 + p) = []) : Held d n ls := by
  refine ⟨fun p hp => ?_, fun p hp l hl => ?_, fun p hp x hx => ?_⟩
  · rw [h1 p hp]
    unfold Dsk.page
    rw [hw]; rfl
  · rw [hw] at hl; cases hl
  · rw [h2 p hp] at hx; cases hx
/-- A page's sector. -/
def sec (l : Page) (s : Nat) : Page := (l.drop (64 * s)).take 64
theorem mix_sec {m : Nat → Page} {base : Page} {s : Nat} (hs : s < 4) (hm : (m s).length = 256) : sec (mix m base 4) s = sec (m s) s := by
  unfold sec
  apply List.ext_getElem?
  intro i
  rw [List.getElem?_take, List.getElem?_take]
  by_cases hi : i < 64
  · rw [if_pos hi, if_pos hi, List.getElem?_drop, List.getElem?_drop, mix_get, if_pos (by omega), if_pos (by omega)]
    rw [show (64 * s + i) / 64 = s by omega, List.getElem?_eq_getElem (by omega), List.getD, List.getElem?_eq_getElem (by omega)]; rfl
  · rw [if_neg hi, if_neg hi]
/-- Each sector that a crash leaves is one of those written down. -/
theorem Held.found {d : Dsk} {n p s : Nat} {ls : Nat → List ByteArray} (h : Held d n ls) (ok : d.Ok) (hn : d.room = n) (hp : p < n) (hs : s < 4) (picks : List Int) : ∃ x ∈ ls p ++ ls (20 + p), ∃ l : Page, l.length = 256 ∧ x = pgStr l ∧ sec l s = sec ((d.crash picks).page p) s := by
  rw [crash_page d picks p (by rw [hn]; exact hp)]
  unfold crashPage
  have hlast := h.last p hp
  have hlen := ok.len p (by rw [hn]; exact hp)
  by_cases ht : isTorn d.waits p = true
  · rw [if_pos ht]
    obtain ⟨may, hmay⟩ : ∃ may, d.lasts.getD p noughts :: wrote d.waits p = may := ⟨_, rfl⟩
    rw [hmay]
    have hpos : 0 < may.length := by rw [← hmay]; simp
    obtain ⟨u, hu⟩ : ∃ u, 4 * (tornPages d.waits p).length = u := ⟨_, rfl⟩
    rw [hu]
    have hlt : pickOf (picks.getD (u + s) 0) may.length < may.length := by
      unfold pickOf
      have h1 := Int.emod_nonneg (picks.getD (u + s) 0) (show (may.length : Int) ≠ 0 by omega)
      have h2 := Int.emod_lt_of_pos (picks.getD (u + s) 0) (show (0 : Int) < may.length by omega)
      omega
    have hmem : picked may picks u s ∈ may := by
      unfold picked
      rw [List.getD_eq_getElem?_getD, List.getElem?_eq_getElem hlt]
      exact List.getElem_mem hlt
    obtain ⟨M, hM⟩ : ∃ M, picked may picks u s = M := ⟨_, rfl⟩
    rw [hM] at hmem
    have hMl : M.length = 256 := by
      rw [← hmay] at hmem
      rcases List.mem_cons.1 hmem with rfl | hm
      · exact hlen
      · exact (ok.wait _ (wrote_mem hm)).2
    refine ⟨pgStr M, ?_, M, hMl, rfl, ?_⟩
    · rw [← hmay] at hmem
      rcases List.mem_cons.1 hmem with rfl | hm
      · rw [hlast]; simp
      · exact List.mem_append_right _ (h.waited p hp M hm)
    · rw [mix_sec hs (by rw [hM]; exact hMl), hM]
  · rw [if_neg ht]
    exact ⟨_, by rw [hlast]; simp, _, hlen, rfl, rfl⟩
theorem Held.may {d : Dsk} {n p : Nat} {ls : Nat → List ByteArray} (h : Held d n ls) (ok : d.Ok) (hn : d.room = n) (hp : p < n) : ∀ x ∈ ls p ++ ls (20 + p), ∃ l : Page, l.length = 256 ∧ x = pgStr l := by
  intro x hx
  rcases List.mem_append.1 hx with hx | hx
  · rw [h.last p hp, List.mem_singleton] at hx
    exact ⟨_, ok.len p (by rw [hn]; exact hp), hx⟩
  · exact h.page p hp x hx
/-- What a crash leaves, a crash leaves. -/
theorem crash_twice (d : Dsk) (picks pk : List Int) : (d.crash picks).crash pk = d.crash picks := by
  have h : ∀ e : Dsk, e.waits = [] → (e.crash pk).lasts = e.lasts := fun e he => by
    show (List.range e.room).map (crashPage e.lasts e.waits pk) = e.lasts
    apply List.ext_getElem?
    intro i
    by_cases hi : i < e.room
    · have hi' : i < e.lasts.length := hi
      simp [hi, crashPage, he, isTorn, List.getD, hi']
    · have hi' : ¬ i < e.lasts.length := hi
      rw [List.getElem?_eq_none (by simpa using hi), List.getElem?_eq_none (by omega)]
  have h1 := h (d.crash picks) rfl
  show Dsk.mk 0 0 false 0 ((d.crash picks).crash pk).lasts [] = _
  rw [h1]; rfl
end Go.Proofs.Ytkophpipehdkmaa
/- Layer 2: a page is written down, beside a disk. -/
namespace Go.Proofs.Ytkophpipehdkmaa
open Go.RowKit

theorem OwnS.typ {w : World} {base g : Nat} {v : Value} {l : List ByteArray} (h : OwnS w base v l) (hg : v.ownBlock = some g) : ∃ cs, w.heap[g]? = some (.cells cs 9 (0, 0)) := by
  obtain ⟨hlen, ⟨rfl, h0⟩ | ⟨g', cap, cur, rfl, hg', hh, -⟩⟩ := h
  · cases hg
  · cases hg; exact ⟨_, hh⟩
/-- What is read behind a write is written down behind the rest. -/
theorem put_page {N : Nat} {w W1 W2 : World} {B S G H p : Nat} {d : Dsk} {V : Nat → Value} {ls : Nat → List ByteArray} {v2 : Value} {s : ByteArray} (hD : IsDisk N W1 B d) (hR : Racks W1 S G H V ls) (hb : Below N w W1) (hS : N ≤ S) (hH : N ≤ H) (hp : p < 20)
    (hg : W1.grownBy W2 (V (20 + p)).ownBlock) (hO : OwnS W2 S v2 (ls (20 + p) ++ [s])) (hf : v2.ownBlock = (V (20 + p)).ownBlock ∨ v2.ownBlock = some W1.heap.size) :
    IsDisk N (W2.setCell ⟨H, p, none⟩ v2) B d ∧ Racks (W2.setCell ⟨H, p, none⟩ v2) S G H (upd V (20 + p) v2) (upd ls (20 + p) (ls (20 + p) ++ [s])) ∧ Below N w (W2.setCell ⟨H, p, none⟩ v2) := by
  have hR3 := hR.set p hp true (v := v2) (l := ls (20 + p) ++ [s]) hg hO (fun g hgv => by
    rcases hf with e | e
    · left; simp only [if_true]; rw [← e]; exact hgv
    · right; rw [e] at hgv; cases hgv; exact Nat.le_refl _)
  simp only [if_true] at hR3
  have hn := hD.n_le
  have hD2 : IsDisk N W2 B d := by
    cases e : (V (20 + p)).ownBlock with
    | none =>
      rw [e] at hg
      exact hD.below ((Below.refl _ W1).grown hg (Nat.le_refl _) (fun q h => by cases h))
    | some g =>
      rw [e] at hg
      obtain ⟨cs, hcs⟩ := (hR.own (20 + p)).typ e
      exact hD.besides hg hcs (by decide) (by decide)
  have h2 : W2.heap[H]? = some (.cells ((List.range 20).map fun i => V (20 + i)).toArray 30 (0, 0)) := by
    have hlo := hR.lo
    rw [hg.block H (by omega) (fun e => by have := ((hR.own (20 + p)).lt H e.symm).1; omega)]
    exact hR.rh
  have hset := grownBy_cell W2 ⟨H, p, none⟩ v2
  refine ⟨hD2.besides hset h2 (by decide) (by decide), hR3, ?_⟩
  have hb2 := hb.grown hg hn (fun q h => by have := ((hR.own (20 + p)).lt q h).1; omega)
  exact hb2.grown hset (Nat.le_trans hn hg.size) (fun q h => by cases h; exact hH)
/-- A page is written down anew. -/
theorem anew_page {N : Nat} {w w5 : World} {B S G H p : Nat} {d : Dsk} {V : Nat → Value} {ls : Nat → List ByteArray} (s : ByteArray) (hD : IsDisk N w5 B d) (hR : Racks w5 S G H V ls) (hb : Below N w w5) (hG : N ≤ G) (hH : N ≤ H) (hp : p < 20) :
    IsDisk N (((w5.alloc (.cells #[.string s] 9)).setCell ⟨G, p, none⟩ (.slice (some ⟨w5.heap.size, 0, none⟩) 1 1)).setCell ⟨H, p, none⟩ (.slice none 0 0)) B d ∧
    Racks (((w5.alloc (.cells #[.string s] 9)).setCell ⟨G, p, none⟩ (.slice (some ⟨w5.heap.size, 0, none⟩) 1 1)).setCell ⟨H, p, none⟩ (.slice none 0 0)) S G H (upd (upd V p (.slice (some ⟨w5.heap.size, 0, none⟩) 1 1)) (20 + p) (.slice none 0 0)) (upd (upd ls p [s]) (20 + p) []) ∧
    Below N w (((w5.alloc (.cells #[.string s] 9)).setCell ⟨G, p, none⟩ (.slice (some ⟨w5.heap.size, 0, none⟩) 1 1)).setCell ⟨H, p, none⟩ (.slice none 0 0)) := by
  have h1 := hR.store (Below.refl _ w5) p hp s
  have h2 := h1.clear p hp
  have hn := hD.n_le
  have hba : Below w5.heap.size w5 (w5.alloc (.cells #[.string s] 9)) := (Below.refl _ w5).alloc (Nat.le_refl _) _
  have hRa := hR.below hba
  have hDa := hD.below hba
  have g1 := grownBy_cell (w5.alloc (.cells #[.string s] 9)) ⟨G, p, none⟩ (.slice (some ⟨w5.heap.size, 0, none⟩) 1 1)
  have hD1 := hDa.besides g1 hRa.rg (by decide) (by decide)
  have g2 := grownBy_cell ((w5.alloc (.cells #[.string s] 9)).setCell ⟨G, p, none⟩ (.slice (some ⟨w5.heap.size, 0, none⟩) 1 1)) ⟨H, p, none⟩ (.slice none 0 0)
  refine ⟨hD1.besides g2 h1.rh (by decide) (by decide), h2, ?_⟩
  have hb1 := (hb.trans (hba.mono hn)).grown g1 (Nat.le_trans hn hba.size) (fun q h => by cases h; exact hG)
  exact hb1.grown g2 (Nat.le_trans (Nat.le_trans hn hba.size) g1.size) (fun q h => by cases h; exact hH)
end Go.Proofs.Ytkophpipehdkmaa
/- Layer 2: both runs of a page, one behind the other; a sector of a text, of a page's bytes. -/
namespace Go.Proofs.Ytkophpipehdkmaa
open Go.RowKit

theorem append_none (w : World) (ty : Nat) (a : Option Addr) (n c : Nat) (h : n ≤ c) : (Builtin.append_ #[29, 29] ty #[.slice a n c, .slice none 0 0]).run Try.prog w = .ok (.slice a n c) w := by
  obtain ⟨i0, hi, hz0, hz1, hz2⟩ := info_parts infoStr
  simp [Builtin.append_, go_sem, hi, sizeOf, typeInfo, Builtin.lenOf, Builtin.firstCells]
  rw [if_pos h]
  cases a <;> rfl
theorem both_runs {W0 : World} {S G H : Nat} {V : Nat → Value} {ls : Nat → List ByteArray} (hR : Racks W0 S G H V ls) (k : Nat) (hk : ls k ≠ []) (hl : (ls k).length + (ls (20 + k)).length ≤ 4000) :
    ∃ v1 W1 v2 W2, (Builtin.append_ #[29, 29] 29 #[.slice none 0 0, V k]).run Try.prog W0 = .ok v1 W1 ∧ (Builtin.append_ #[29, 29] 29 #[v1, V (20 + k)]).run Try.prog W1 = .ok v2 W2 ∧
      OwnS W2 W0.heap.size v2 (ls k ++ ls (20 + k)) ∧ Below W0.heap.size W0 W1 ∧ Below W0.heap.size W0 W2 := by
  obtain ⟨g1, c1, e1, -, -, -, hc1⟩ := (hR.own k).cells' hk
  obtain ⟨v1, W1, hr1, hO1, hG1, -⟩ := app_strs W0 29 W0.heap.size (Nat.le_refl _) (.slice none 0 0) [] (OwnS.nil _ _) g1 c1 (ls k) hc1 (by simp; omega)
  rw [List.nil_append] at hO1
  have hb1 : Below W0.heap.size W0 W1 := (Below.refl _ W0).grown hG1 (Nat.le_refl _) (fun q e => by cases e)
  rw [← e1] at hr1
  by_cases h2 : ls (20 + k) = []
  · rcases (hR.own (20 + k)).2 with ⟨e2, -⟩ | ⟨g2, c2, cur, e2, -⟩
    · obtain ⟨a, c, ev, hnc⟩ : ∃ a c, v1 = .slice a (ls k).length c ∧ (ls k).length ≤ c := by
        obtain ⟨g3, c3, e3, -, -, h3, -⟩ := hO1.cells' hk
        exact ⟨_, _, e3, h3⟩
      refine ⟨v1, W1, v1, W1, hr1, ?_, by rw [h2, List.append_nil]; exact hO1, hb1, hb1⟩
      rw [e2, ev]; exact append_none W1 _ a _ c hnc
    · obtain ⟨v2, W2, hr2, hO2, hG2, -⟩ := app_strs W1 29 W0.heap.size hb1.size v1 (ls k) hO1 g2 c2 [] (fun j s hs => by cases hs) (by simp; omega)
      refine ⟨v1, W1, v2, W2, hr1, ?_, by rw [h2]; exact hO2, hb1, hb1.grown hG2 hb1.size (fun q e => (hO1.lt q e).1)⟩
      rw [e2, h2]; exact hr2
  · obtain ⟨g2, c2, e2, -, hlt2, -, hc2⟩ := (hR.own (20 + k)).cells' h2
    obtain ⟨v2, W2, hr2, hO2, hG2, -⟩ := app_strs W1 29 W0.heap.size hb1.size v1 (ls k) hO1 g2 c2 (ls (20 + k)) (fun j s hs => (hb1.cell (p := ⟨g2, j, none⟩) hlt2).trans (hc2 j s hs)) (by omega)
    refine ⟨v1, W1, v2, W2, hr1, ?_, hO2, hb1, hb1.grown hG2 hb1.size (fun q e => (hO1.lt q e).1)⟩
    rw [e2]; exact hr2
theorem slice_str (x : ByteArray) (k m : Nat) (hk : k ≤ m) (h : m ≤ x.size) (W : World) : (Instr.sliceAt 9 (.string x) (some (.int .i64 k)) (some (.int .i64 m)) none).run Try.prog W = .ok (.string (x.extract k m)) W := by
  have h1 : (0 : Int) ≤ k := by omega
  have h2 : (m : Int) ≤ x.size := by omega
  have h3 : (k : Int) ≤ m := by omega
  simp [go_sem, h1, h2, h3]
theorem slice_page (w : World) (g k : Nat) (hk : k + 64 ≤ 256) : (Instr.sliceAt 31 (.slice (some ⟨g, 0, none⟩) 256 256) (some (.int .i64 k)) (some (.int .i64 ((k + 64 : Nat) : Int))) none).run Try.prog w = .ok (.slice (some ⟨g, k, none⟩) 64 (256 - k)) w := by
  have hel : Try.prog.elem 31 = 5 := by kernel_rfl
  have hu : Try.prog.underlying 31 = some (.slice (Try.prog.elem 31)) := by rw [hel]; exact Try.underlying31
  have hs : (sizeOf 5).run Try.prog w = .ok 1 w := by kernel_rfl
  refine (run_sliceAt_slice (P := Try.prog) w 31 _ _ _ _ hu).trans ((run_slice_lh (P := Try.prog) w 31 (some ⟨g, 0, none⟩) 256 256 hu .i64 .i64 k ((k + 64 : Nat) : Int) (by omega) (by omega) (by omega)).trans ?_)
  rw [hel, hs]
  simp only [Result.andThen_ok]
  have e1 : ((k : Nat) : Int).toNat = k := by omega
  have e2 : ((k + 64 : Nat) : Int).toNat = k + 64 := by omega
  rw [e1, e2]
  unfold sliced
  rw [show k + 64 - k = 64 by omega]
  simp [addr_add]
  try omega
theorem sec_len {l : Page} (hl : l.length = 256) {s : Nat} (hs : s < 4) : (sec l s).length = 64 := by
  unfold sec; rw [List.length_take, List.length_drop]; omega
theorem extract_pg (M : Page) (s : Nat) : (pgStr M).extract (64 * s) (64 * s + 64) = bs (sec M s) := by
  apply ByteArray.ext
  rw [ByteArray.data_extract]
  show M.toArray.extract (64 * s) (64 * s + 64) = ((M.drop (64 * s)).take 64).toArray
  rw [List.extract_toArray, List.extract_eq_take_drop, show 64 * s + 64 - 64 * s = 64 by omega]
theorem conv_sec {w : World} {g : Nat} {l : Page} (h : PageAt w g l) (hl : l.length = 256) {s : Nat} (hs : s < 4) : (convert 31 9 (.slice (some ⟨g, 64 * s, none⟩) 64 (256 - 64 * s))).run Try.prog w = .ok (.string (bs (sec l s))) w := by
  have := conv_bytes w g (64 * s) (sec l s) (256 - 64 * s) (fun j v hv => by
    have hj := (List.getElem?_eq_some_iff.1 hv).1
    rw [byteVals_len, sec_len hl hs] at hj
    have h1 := h.range (64 * s + j) v (by
      unfold byteVals sec at hv
      unfold byteVals
      rw [List.getElem?_map] at hv ⊢
      rw [List.getElem?_take, if_pos hj, List.getElem?_drop] at hv
      exact hv)
    rwa [Nat.zero_add] at h1)
  rwa [sec_len hl hs] at this
theorem mul64 (s : Nat) (hs : s < 4) (w : World) : (binOp .mul 3 (.int .i64 64) (.int .i64 (s : Int))).run Try.prog w = .ok (.int .i64 ((64 * s : Nat) : Int)) w := by
  have : s = 0 ∨ s = 1 ∨ s = 2 ∨ s = 3 := by omega
  rcases this with rfl | rfl | rfl | rfl <;> rfl
theorem add64 (s : Nat) (hs : s < 4) (w : World) : (binOp .add 3 (.int .i64 ((64 * s : Nat) : Int)) (.int .i64 64)).run Try.prog w = .ok (.int .i64 ((64 * s + 64 : Nat) : Int)) w := by
  have : s = 0 ∨ s = 1 ∨ s = 2 ∨ s = 3 := by omega
  rcases this with rfl | rfl | rfl | rfl <;> rfl
theorem bs_eq (a b : Page) : ((bs a).toList == (bs b).toList) = true ↔ a = b := by
  rw [str_eq]
  exact ⟨fun h => pgStr_inj h, fun h => by rw [h]⟩
end Go.Proofs.Ytkophpipehdkmaa

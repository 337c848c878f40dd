/- Texts of the proof in one file, in build order: DoesWr, DoesNo, RefPage, Agree, RefAct, RefNew, RefNw, RefCr, RefCq, RefCs, DskSame. -/
import Derived.Test.YtogmbidjbagapaaDoesArm
import Derived.Test.YtogmbidjbagapaaRefD6
import Derived.Test.YtogmbidjbagapaaDskPure
import Derived.Test.YtogmbidjbagapaaRefD5
import Derived.Test.YtogmbidjbagapaaFours
import Derived.Deep.DeepCutAuto
import Derived.Test.YtogmbidjbagapaaDskAll
import Derived.Test.YtogmbidjbagapaaDskCrash
import Derived.StillTailTactics
import Derived.Deep.MidRow
import Derived.Test.YtogmbidjbagapaaDskKnown
import Derived.Test.YtogmbidjbagapaaRegOps
import Derived.Test.YtogmbidjbagapaaReg3
/- Layer 2: the law's 'does': a write. -/
namespace Go.Proofs.Ytogmbidjbagapaa
open Go.ChangeShapes Go.WideShapes Go.RowKit

section
variable {ops : Array Oper} {o : Oper} {i : Nat} {a : Act} {w : World} {K : Act → World → Prop} {Q : Exit → Act → World → Prop}
theorem wpOp_ext0 {x : Operand} {u v : Value} (ho : ops[i]? = some o) (hg : Region.wanted o (yielded ops a.tmps) = true) (hop : o.op = .extract x 0) (hx : a.eval x = .tuple #[u, v]) (hK : K (a.put o.dst u) w) : wpOp Try.prog ops Q i K a w :=
  wpOp_val (v := u) (w' := w) ho hg (by simp only [execOp, hop, hx]; simp [go_sem]) hK
theorem wpOp_ext1 {x : Operand} {u v : Value} (ho : ops[i]? = some o) (hg : Region.wanted o (yielded ops a.tmps) = true) (hop : o.op = .extract x 1) (hx : a.eval x = .tuple #[u, v]) (hK : K (a.put o.dst v) w) : wpOp Try.prog ops Q i K a w :=
  wpOp_val (v := v) (w' := w) ho hg (by simp only [execOp, hop, hx]; simp [go_sem]) hK
end
theorem load_row32 {w : World} {A : Nat} {cs : List Value} {fr : Nat × Nat} (h : w.heap[A]? = some (.cells cs.toArray 32 fr)) (hl : cs.length = 6) : (Instr.loadAt 32 (.pointer (some ⟨A, 0, none⟩))).run Try.prog w = .ok (.agg cs.toArray) w :=
  run_loadAt_mid w A 0 _ cs _ (fun j v hv => by rw [cell_of_row w A (0 + j) _ _ _ h, Nat.zero_add, List.getElem?_toArray]; exact hv) Try.underlying32 rfl (by rw [hl]; kernel_rfl)
theorem load_row38 {w : World} {A : Nat} {cs : List Value} {fr : Nat × Nat} (h : w.heap[A]? = some (.cells cs.toArray 38 fr)) (hl : cs.length = 4) : (Instr.loadAt 38 (.pointer (some ⟨A, 0, none⟩))).run Try.prog w = .ok (.agg cs.toArray) w :=
  run_loadAt_mid w A 0 _ cs _ (fun j v hv => by rw [cell_of_row w A (0 + j) _ _ _ h, Nat.zero_add, List.getElem?_toArray]; exact hv) Try.underlying38 rfl (by rw [hl]; kernel_rfl)
theorem store_row32 {w : World} {A : Nat} {cs : Array Value} (h : w.heap[A]? = some (.cells cs 32 (0, 0))) (hl : cs.size = 6) (a b : Option Addr) (m n c e : Nat) (k l : Int) (q : Bool) (s : Int) :
    (Instr.storeAt 32 (.pointer (some ⟨A, 0, none⟩)) (.agg #[.slice a m c, .slice b n e, .int .i64 k, .int .i64 l, .bool q, .int .i64 s])).run Try.prog w = .ok () ((((((w.setCell ⟨A, 0, none⟩ (.slice a m c)).setCell ⟨A, 1, none⟩ (.slice b n e)).setCell ⟨A, 2, none⟩ (.int .i64 k)).setCell ⟨A, 3, none⟩ (.int .i64 l)).setCell ⟨A, 4, none⟩ (.bool q)).setCell ⟨A, 5, none⟩ (.int .i64 s)) :=
  run_storeAt_mid w A 0 32 #[.slice a m c, .slice b n e, .int .i64 k, .int .i64 l, .bool q, .int .i64 s] (fun j hj => ⟨by rw [cell_of_row w A (0 + j) _ _ _ h, Nat.zero_add, Array.getElem?_eq_getElem (by rw [hl]; exact hj)]; rfl, frozen_of_row w A (0 + j) _ _ h⟩) (by kernel_rfl) (by simp [Value.oneCell'])
/-- What each operation of the first region leaves: the act lies in block A + 1, the document's disk in block A. -/
def DwSp (A N : Nat) (v0 v3 : Value) (p : Int) (l : List UInt8) (gw : GD × Int) : Nat → Value → World → Prop
  | 0, v, _ => v = v0
  | 1, v, _ => v = .pointer (some ⟨A + 1, 1, none⟩)
  | 2, v, _ => v = .int .i64 p
  | 3, v, _ => v = v3
  | 4, v, w' => ∃ gb, v = .slice (some ⟨gb, 0, none⟩) l.length l.length ∧ RowAt w' gb l ∧ N ≤ gb
  | 5, v, w' => ∃ la lc wa wc, v = .tuple #[gv la lc wa wc gw.1, .int .i64 gw.2] ∧ IsG w'.heap.size w' la lc wa wc gw.1
  | 6, v, w' => ∃ la lc wa wc, v = .tuple #[gv la lc wa wc gw.1, .int .i64 gw.2] ∧ IsG w'.heap.size w' la lc wa wc gw.1
  | 7, v, w' => ∃ la lc wa wc, v = gv la lc wa wc gw.1 ∧ IsG w'.heap.size w' la lc wa wc gw.1
  | 8, v, _ => v = .int .i64 gw.2
  | 10, v, _ => v = .int .i64 gw.2
  | _, _, _ => True
theorem DwSp.any {A N : Nat} {v0 v3 : Value} {p : Int} {l : List UInt8} {gw : GD × Int} {w' w'' : World}
    (h4 : ∀ gb, N ≤ gb → RowAt w' gb l → RowAt w'' gb l) (h5 : ∀ la lc wa wc, IsG w'.heap.size w' la lc wa wc gw.1 → IsG w''.heap.size w'' la lc wa wc gw.1) (k : Nat) (v : Value) (h : DwSp A N v0 v3 p l gw k v w') : DwSp A N v0 v3 p l gw k v w'' := by
  rcases k with _ | _ | _ | _ | _ | _ | _ | _ | _ | _ | _ | k
  · exact h
  · exact h
  · exact h
  · exact h
  · obtain ⟨gb, e, hr, hn⟩ := h; exact ⟨gb, e, h4 gb hn hr, hn⟩
  · obtain ⟨la, lc, wa, wc, e, hI⟩ := h; exact ⟨la, lc, wa, wc, e, h5 _ _ _ _ hI⟩
  · obtain ⟨la, lc, wa, wc, e, hI⟩ := h; exact ⟨la, lc, wa, wc, e, h5 _ _ _ _ hI⟩
  · obtain ⟨la, lc, wa, wc, e, hI⟩ := h; exact ⟨la, lc, wa, wc, e, h5 _ _ _ _ hI⟩
  · exact h
  · exact h
  · exact h
  · exact h
theorem DwSp.below {A N : Nat} {v0 v3 : Value} {p : Int} {l : List UInt8} {gw : GD × Int} {w' w'' : World} (hb : Below w'.heap.size w' w'') : ∀ k v, DwSp A N v0 v3 p l gw k v w' → DwSp A N v0 v3 p l gw k v w'' :=
  DwSp.any (fun gb _ h => (hb.block gb (Array.getElem?_eq_some_iff.1 h).1).trans h) (fun _ _ _ _ h => (h.below hb).mono hb.size)
def DwInv (A : Nat) (W1 : World) (gw : GD × Int) (listed : Array Bool) (w' : World) : Prop := if listed.getD 9 false = true then ∃ w1 la4 lc4 wa4 wc4, Below W1.heap.size W1 w1 ∧ IsG w1.heap.size w1 la4 lc4 wa4 wc4 gw.1 ∧ w' = (((((w1.setCell ⟨A, 0, none⟩ (.slice la4 gw.1.lasts.length lc4)).setCell ⟨A, 1, none⟩ (.slice wa4 gw.1.waits.length wc4)).setCell ⟨A, 2, none⟩ (.int .i64 gw.1.k)).setCell ⟨A, 3, none⟩ (.int .i64 gw.1.l)).setCell ⟨A, 4, none⟩ (.bool gw.1.b)).setCell ⟨A, 5, none⟩ (.int .i64 gw.1.s) else Below W1.heap.size W1 w'
/-- What each operation of the second region leaves. -/
def DvSp (A B : Nat) (v3 : Value) (p : Int) (l : List UInt8) (no : Nat) : Nat → Value → World → Prop
  | 0, v, _ => v = ptr B
  | 1, v, _ => v = .pointer (some ⟨A + 1, 1, none⟩)
  | 2, v, _ => v = .int .i64 p
  | 3, v, _ => v = v3
  | 4, v, w' => ∃ gb, v = .slice (some ⟨gb, 0, none⟩) l.length l.length ∧ RowAt w' gb l
  | 5, v, _ => v = .int .i64 no
  | 6, v, _ => v = .int .i64 no
  | _, _, _ => True
theorem DvSp.any {A B : Nat} {v3 : Value} {p : Int} {l : List UInt8} {no : Nat} {w' w'' : World} (h4 : ∀ gb, RowAt w' gb l → RowAt w'' gb l) (k : Nat) (v : Value) (h : DvSp A B v3 p l no k v w') : DvSp A B v3 p l no k v w'' := by
  rcases k with _ | _ | _ | _ | _ | _ | _ | k
  · exact h
  · exact h
  · exact h
  · exact h
  · obtain ⟨gb, e, hr⟩ := h; exact ⟨gb, e, h4 gb hr⟩
  · exact h
  · exact h
  · exact h
def DvInv (n₀ B : Nat) (dw : Dsk) (w2 : World) (listed : Array Bool) (w' : World) : Prop := if listed.getD 5 false = true then ∃ w3, Below w2.heap.size w2 w3 ∧ IsDisk n₀ w' B dw ∧ Keeps n₀ w3 w' else Below w2.heap.size w2 w'
set_option maxRecDepth 100000 in
set_option maxHeartbeats 1000000 in
theorem does_write {n₀ : Nat} {w : World} {B : Nat} {d : Dsk} {la wa : Option Addr} {lc wc : Nat} {g : GD} (hD : IsDisk n₀ w B d) (hG : IsG w.heap.size w la lc wa wc g) (hfd : d.Few 2147483648) (hf : g.waits.length ≤ 1000000) (p : Int) (x : UInt8) (r : Int) :
    Calls Try.prog 10 #[ptr B, gv la lc wa wc g, actV 1 p x r] w fun e w' => DoesPost n₀ w B (d.write p (actL p x)) (g.write p (actL p x)) e w' := by
  have hn0 := hD.n_le
  have HDF := Lib.hid (fun w' (hb : Below w.heap.size w w') => hD.below hb)
  have HGF := Lib.hid (fun w' (hb : Below w.heap.size w w') => (hG.below hb).mono hb.size)
  have HFd := Lib.hid (And.intro hfd hf)
  clear hD hG hfd hf
  obtain ⟨W1, hW1⟩ : ∃ W1, ((w.alloc (.cells #[.slice la g.lasts.length lc, .slice wa g.waits.length wc, .int .i64 g.k, .int .i64 g.l, .bool g.b, .int .i64 g.s] 32)).alloc (.cells #[.int .i64 1, .int .i64 p, .int .u8 (x.toNat : Int), .int .i64 r] 38)).alloc (.cells #[.slice none 0 0, .slice none 0 0, .int .i64 0, .int .i64 0, .bool false, .int .i64 0] 32) = W1 := ⟨_, rfl⟩
  have hb1 : Below w.heap.size w W1 := by subst hW1; exact (((Below.refl _ _).alloc (Nat.le_refl _) _).alloc (by simp) _).alloc (by simp; omega) _
  have hrA1 : W1.heap[w.heap.size]? = some (.cells #[.slice la g.lasts.length lc, .slice wa g.waits.length wc, .int .i64 g.k, .int .i64 g.l, .bool g.b, .int .i64 g.s] 32 (0, 0)) := by
    subst hW1
    exact (Below.heap_alloc _ _ _ (by simp; omega)).trans ((Below.heap_alloc _ _ _ (by simp)).trans (heap_alloc_new w _))
  have hrC1 : W1.heap[w.heap.size + 1 + 1]? = some (.cells #[.slice none 0 0, .slice none 0 0, .int .i64 0, .int .i64 0, .bool false, .int .i64 0] 32 (0, 0)) := by
    subst hW1
    have := heap_alloc_new' (w.alloc (.cells #[.slice la g.lasts.length lc, .slice wa g.waits.length wc, .int .i64 g.k, .int .i64 g.l, .bool g.b, .int .i64 g.s] 32)) (.cells #[.int .i64 1, .int .i64 p, .int .u8 (x.toNat : Int), .int .i64 r] 38) (.cells #[.slice none 0 0, .slice none 0 0, .int .i64 0, .int .i64 0, .bool false, .int .i64 0] 32)
    rw [World.size_alloc] at this
    exact this
  have hrB1 : W1.heap[w.heap.size + 1]? = some (.cells #[.int .i64 1, .int .i64 p, .int .u8 (x.toNat : Int), .int .i64 r] 38 (0, 0)) := by
    subst hW1
    exact (Below.heap_alloc _ _ _ (by simp)).trans (heap_alloc_new' w _ _)
  have hs1 : W1.heap.size = w.heap.size + 3 := by subst hW1; simp
  obtain ⟨gw, hgw⟩ : ∃ gw, g.write p (actL p x) = gw := ⟨_, rfl⟩
  rw [hgw]
  have HGW := Lib.hid hgw
  clear hgw
  obtain ⟨dw, hdw⟩ : ∃ dw, d.write p (actL p x) = dw := ⟨_, rfl⟩
  rw [hdw]
  have HDW := Lib.hid hdw
  clear hdw
  go_enter Try.func10, Try.ntmps10
  unfold gv rv actV
  have HB1 := Lib.hid (And.intro hb1 (And.intro hrA1 (And.intro hrC1 (And.intro hs1 hrB1))))
  have HW := Lib.hid hW1
  clear hb1 hrA1 hrC1 hs1 hW1 hrB1
  go_wp2_with fail
  rw [HW.out]
  obtain ⟨hb1, hrA1, hrC1, hs1, hrB1⟩ := HB1.out
  refine wp_region_m (DwInv w.heap.size W1 gw)
    (DwSp w.heap.size W1.heap.size (.agg #[.slice la g.lasts.length lc, .slice wa g.waits.length wc, .int .i64 g.k, .int .i64 g.l, .bool g.b, .int .i64 g.s]) (.agg #[.int .i64 1, .int .i64 p, .int .u8 (x.toNat : Int), .int .i64 r]) p (actL p x) gw) (by kernel_rfl) (by kernel_rfl) (by kernel_rfl) (by kernel_rfl) (by unfold DwInv; rw [if_neg (by simp)]; exact (Below.refl _ _).drew) ?step ?fin
  case step =>
    as_aux_lemma =>
      intro q o ho listed a w' hI hn hpre
      have hq : q < 11 := (Array.getElem?_eq_some_iff.1 ho).1
      have hin : listed.getD 9 false = false → Below W1.heap.size W1 w' := fun h => by
        have := hI.inv
        unfold DwInv at this
        rwa [if_neg (by rw [h]; simp)] at this
      have hnx : ∀ k, k ≠ 9 → listed.getD 9 false = false → ∀ w'', Below W1.heap.size W1 w'' → DwInv w.heap.size W1 gw (listed.setIfInBounds k true) w'' := fun k hk h10 w'' h => by
        unfold DwInv
        rw [listed_other (Ne.symm hk), if_neg (by rw [h10]; simp)]; exact h
      have hsame : ∀ k, k ≠ 9 → DwInv w.heap.size W1 gw (listed.setIfInBounds k true) w' := fun k hk => by
        have := hI.inv
        unfold DwInv at this ⊢
        rw [listed_other (Ne.symm hk)]; exact this
      match q, hq with
      | 0, _ =>
        have h9 := hI.notyet hn 9 (by kernel_rfl)
        have hinv := hin h9
        cases ho
        exact wpOp_load rfl rfl rfl (hI.kept (t := 4) (by kernel_rfl)) (load_row32 ((hinv.block w.heap.size (by omega)).trans hrA1) rfl) ⟨_, rfl, hsame _ (by decide), fun _ => rfl, fun _ _ _ h => h⟩
      | 1, _ =>
        cases ho
        exact wpOp_field rfl rfl rfl (hI.kept (t := 5) (by kernel_rfl)) (v := .pointer (some ⟨w.heap.size + 1, 1, none⟩)) (w' := w') (by simp [go_sem]) ⟨_, rfl, hsame _ (by decide), fun _ => rfl, fun _ _ _ h => h⟩
      | 2, _ =>
        have h9 := hI.notyet hn 9 (by kernel_rfl)
        have hinv := hin h9
        cases ho
        have hB' := (hinv.block (w.heap.size + 1) (by omega)).trans hrB1
        exact wpOp_load rfl rfl rfl (hI.slot 1 16 rfl (hpre ⟨1, .data⟩ (by simp) rfl) rfl) (load_cell (Try.isAgg3 _) (v := .int .i64 p) (by rw [cell_of_row w' (w.heap.size + 1) 1 _ _ _ hB']; rfl)) ⟨_, rfl, hsame _ (by decide), fun _ => rfl, fun _ _ _ h => h⟩
      | 3, _ =>
        have h9 := hI.notyet hn 9 (by kernel_rfl)
        have hinv := hin h9
        cases ho
        exact wpOp_load rfl rfl rfl (hI.kept (t := 5) (by kernel_rfl)) (load_row38 ((hinv.block (w.heap.size + 1) (by omega)).trans hrB1) rfl) ⟨_, rfl, hsame _ (by decide), fun _ => rfl, fun _ _ _ h => h⟩
      | 4, _ =>
        have h9 := hI.notyet hn 9 (by kernel_rfl)
        have hinv := hin h9
        cases ho
        have e3 : a.eval (.tmp 18) = actV 1 p x r := hI.slot 3 18 rfl (hpre ⟨3, .data⟩ (by simp) rfl) rfl
        refine wpOp_callFn rfl rfl rfl (vs := #[actV 1 p x r]) (by rw [Array.map_singleton]; show #[a.eval (.tmp 18)] = _; rw [e3]) (fun _ _ => by kernel_rfl) ((actBytes_any 1 p x r w').mono ?_)
        rintro e w'' ⟨gb, rfl, hr, hgb, hb2⟩
        exact ⟨_, rfl, _, rfl, hnx _ (by decide) h9 _ (hinv.trans (hb2.mono hinv.size)), fun _ => ⟨gb, rfl, hr, Nat.le_trans hinv.size hgb⟩, fun j u _ h => DwSp.below hb2 j u h⟩
      | 5, _ =>
        have h9 := hI.notyet hn 9 (by kernel_rfl)
        have hinv := hin h9
        cases ho
        have e0 : a.eval (.tmp 15) = gv la lc wa wc g := hI.slot 0 15 rfl (hpre ⟨0, .data⟩ (by simp) rfl) rfl
        have e2 : a.eval (.tmp 17) = .int .i64 p := hI.slot 2 17 rfl (hpre ⟨2, .data⟩ (by simp) rfl) rfl
        obtain ⟨gb, e4, hr, hgb⟩ : ∃ gb, a.eval (.tmp 19) = .slice (some ⟨gb, 0, none⟩) (actL p x).length (actL p x).length ∧ RowAt w' gb (actL p x) ∧ W1.heap.size ≤ gb := hI.slot 4 19 rfl (hpre ⟨4, .data⟩ (by simp) rfl) rfl
        refine wpOp_callFn rfl rfl rfl (vs := #[gv la lc wa wc g, .int .i64 p, .slice (some ⟨gb, 0, none⟩) (actL p x).length (actL p x).length]) (by simp only [List.map_toArray, List.map_cons, List.map_nil, e0, e2, e4]) (fun _ _ => by kernel_rfl) ((gwrite_any ((HGF.out w' (hb1.trans (hinv.mono hb1.size)))) p (some ⟨gb, 0, none⟩) (actL p x) (actL p x).length HFd.out.2 (fun hne => ⟨gb, 0, rfl, (Array.getElem?_eq_some_iff.1 hr).1, fun i hi => by rw [cell_of_row w' gb (0 + i) _ _ _ hr, Nat.zero_add, List.getElem?_toArray]; simp [byteVals, hi]⟩)).mono ?_)
        rw [HGW.out]
        rintro e w'' ⟨la5, lc5, wa5, wc5, rfl, hI5, hb2⟩
        exact ⟨_, rfl, _, rfl, hnx _ (by decide) h9 _ (hinv.trans (hb2.mono hinv.size)), fun _ => ⟨la5, lc5, wa5, wc5, rfl, hI5⟩, fun j u _ h => DwSp.below hb2 j u h⟩
      | 6, _ =>
        cases ho
        obtain ⟨la5, lc5, wa5, wc5, e5, hI5⟩ : ∃ la lc wa wc, a.eval (.tmp 20) = .tuple #[gv la lc wa wc gw.1, .int .i64 gw.2] ∧ IsG w'.heap.size w' la lc wa wc gw.1 := hI.slot 5 20 rfl (hpre ⟨5, .data⟩ (by simp) rfl) rfl
        exact wpOp_move rfl rfl (.inl rfl) e5 ⟨_, rfl, hsame _ (by decide), fun _ => ⟨la5, lc5, wa5, wc5, rfl, hI5⟩, fun _ _ _ h => h⟩
      | 7, _ =>
        cases ho
        obtain ⟨la5, lc5, wa5, wc5, e6, hI5⟩ : ∃ la lc wa wc, a.eval (.tmp 14) = .tuple #[gv la lc wa wc gw.1, .int .i64 gw.2] ∧ IsG w'.heap.size w' la lc wa wc gw.1 := hI.slot 6 14 rfl (hpre ⟨6, .data⟩ (by simp) rfl) rfl
        exact wpOp_ext0 rfl rfl rfl e6 ⟨_, rfl, hsame _ (by decide), fun _ => ⟨la5, lc5, wa5, wc5, rfl, hI5⟩, fun _ _ _ h => h⟩
      | 8, _ =>
        cases ho
        obtain ⟨la5, lc5, wa5, wc5, e6, hI5⟩ : ∃ la lc wa wc, a.eval (.tmp 14) = .tuple #[gv la lc wa wc gw.1, .int .i64 gw.2] ∧ IsG w'.heap.size w' la lc wa wc gw.1 := hI.slot 6 14 rfl (hpre ⟨6, .data⟩ (by simp) rfl) rfl
        exact wpOp_ext1 rfl rfl rfl e6 ⟨_, rfl, hsame _ (by decide), fun _ => rfl, fun _ _ _ h => h⟩
      | 9, _ =>
        have hinv := hin hn
        cases ho
        obtain ⟨la5, lc5, wa5, wc5, e7, hI5⟩ : ∃ la lc wa wc, a.eval (.tmp 21) = gv la lc wa wc gw.1 ∧ IsG w'.heap.size w' la lc wa wc gw.1 := hI.slot 7 21 rfl (hpre ⟨7, .data⟩ (by simp) rfl) rfl
        have hA' := (hinv.block w.heap.size (by omega)).trans hrA1
        have gA := set6_grown w' w.heap.size (.slice la5 gw.1.lasts.length lc5) (.slice wa5 gw.1.waits.length wc5) (.int .i64 gw.1.k) (.int .i64 gw.1.l) (.bool gw.1.b) (.int .i64 gw.1.s)
        refine wpOp_store rfl rfl rfl (hI.kept (t := 4) (by kernel_rfl)) e7 (store_row32 hA' rfl _ _ _ _ _ _ _ _ _ _) ⟨_, rfl, ?_, (fun e => by cases e), ?_⟩
        · unfold DwInv
          rw [if_pos (listed_same (by rw [hI.size]; decide))]
          exact ⟨w', la5, lc5, wa5, wc5, hinv, hI5, rfl⟩
        · intro j u _ h
          exact DwSp.any (fun gb hgb hr => (gA.block gb (Array.getElem?_eq_some_iff.1 hr).1 (fun e => by have := Option.some.inj e; have := hinv.size; omega)).trans hr) (fun _ _ _ _ h => (h.besides gA hA').mono gA.size) j u h
      | 10, _ =>
        cases ho
        exact wpOp_move rfl rfl (.inr rfl) (hI.slot 8 22 rfl (hpre ⟨8, .data⟩ (by simp) rfl) rfl) ⟨_, rfl, hsame _ (by decide), fun _ => rfl, fun _ _ _ h => h⟩
  case fin =>
    intro listed a w' hI hall
    have hinv := hI.inv
    unfold DwInv at hinv
    rw [if_pos (hall 9 (by decide))] at hinv
    obtain ⟨w1, la4, lc4, wa4, wc4, hbw1, hI4, rfl⟩ := hinv
    have e8 : a.tmps.getD 8 undef = .int .i64 gw.2 := hI.slot 10 8 rfl (hall 10 (by decide)) rfl
    obtain ⟨vs, us, hvl, hul, hvs, -, e⟩ := hI.frame2 8 1 14 9 (by decide) (Nat.le_of_ble_eq_true (by kernel_rfl)) (by kernel_rfl)
    have v0' := hvs 0 (by decide)
    clear hI hall hvs
    have hA1 := (hbw1.block w.heap.size (by omega)).trans hrA1
    have hA2 := set6_heap (.slice la4 gw.1.lasts.length lc4) (.slice wa4 gw.1.waits.length wc4) (.int .i64 gw.1.k) (.int .i64 gw.1.l) (.bool gw.1.b) (.int .i64 gw.1.s) hA1
    have gA := set6_grown w1 w.heap.size (.slice la4 gw.1.lasts.length lc4) (.slice wa4 gw.1.waits.length wc4) (.int .i64 gw.1.k) (.int .i64 gw.1.l) (.bool gw.1.b) (.int .i64 gw.1.s)
    have hI2 := (hI4.besides gA hA1).mono gA.size
    have hsz := hbw1.size
    have hB2 := (gA.block (w.heap.size + 1) (by omega) (by simp)).trans ((hbw1.block (w.heap.size + 1) (by omega)).trans hrB1)
    have hC2 := (gA.block (w.heap.size + 1 + 1) (by omega) (by simp; omega)).trans ((hbw1.block (w.heap.size + 1 + 1) (by omega)).trans hrC1)
    have hb2 := (hb1.trans (hbw1.mono hb1.size)).grown gA (Nat.le_trans hb1.size hsz) (fun k e => by cases e; exact Nat.le_refl _)
    clear gA hA1 hbw1 hI4 hrA1 hrB1 hrC1 hb1 hsz
    revert hA2 hI2 hB2 hC2 hb2
    generalize ((((((w1.setCell ⟨w.heap.size, 0, none⟩ (.slice la4 gw.1.lasts.length lc4)).setCell ⟨w.heap.size, 1, none⟩ (.slice wa4 gw.1.waits.length wc4)).setCell ⟨w.heap.size, 2, none⟩ (.int .i64 gw.1.k)).setCell ⟨w.heap.size, 3, none⟩ (.int .i64 gw.1.l)).setCell ⟨w.heap.size, 4, none⟩ (.bool gw.1.b)).setCell ⟨w.heap.size, 5, none⟩ (.int .i64 gw.1.s)) = w2
    intro hA2 hI2 hB2 hC2 hb2
    match vs, us, hvl, hul with
    | [v0], [t0, t1, t2, t3, t4, t5, t6, t7, t8], _, _ =>
    simp only [List.getElem?_cons_zero, Option.some.injEq] at v0'
    rw [Nat.add_zero, e8] at v0'
    subst v0'
    clear e8
    simp only [List.take_succ_cons, List.take_zero, List.drop_succ_cons, List.drop_zero, List.cons_append, List.nil_append, Nat.reduceAdd, Nat.reduceSub] at e
    subst e
    have HE := Lib.hid (And.intro hI2 (And.intro hb2 (And.intro hA2 (And.intro hC2 hB2))))
    clear hI2 hb2 hA2 hC2 hB2
    go_wp2_with fail
    obtain ⟨hI2, hb2, hA2, hC2, hB2⟩ := HE.out
    refine wp_region_m (DvInv n₀ B dw.1 w2) (DvSp w.heap.size B (actV 1 p x r) p (actL p x) dw.2) (by kernel_rfl) (by kernel_rfl) (by kernel_rfl) (by kernel_rfl) (by unfold DvInv; rw [if_neg (by simp)]; exact (Below.refl _ _).drew) ?step2 ?fin2
    case step2 =>
      as_aux_lemma =>
        intro q o ho listed a w' hI hn hpre
        have hq : q < 7 := (Array.getElem?_eq_some_iff.1 ho).1
        have hBl := (Array.getElem?_eq_some_iff.1 hB2).1
        have hin : listed.getD 5 false = false → Below w2.heap.size w2 w' := fun h => by
          have := hI.inv
          unfold DvInv at this
          rwa [if_neg (by rw [h]; simp)] at this
        have hnx : ∀ k, k ≠ 5 → listed.getD 5 false = false → ∀ w'', Below w2.heap.size w2 w'' → DvInv n₀ B dw.1 w2 (listed.setIfInBounds k true) w'' := fun k hk h10 w'' h => by
          unfold DvInv
          rw [listed_other (Ne.symm hk), if_neg (by rw [h10]; simp)]; exact h
        have hsame : ∀ k, k ≠ 5 → DvInv n₀ B dw.1 w2 (listed.setIfInBounds k true) w' := fun k hk => by
          have := hI.inv
          unfold DvInv at this ⊢
          rw [listed_other (Ne.symm hk)]; exact this
        match q, hq with
        | 0, _ =>
          cases ho
          exact wpOp_move rfl rfl (.inl rfl) (hI.kept (t := 0) (by kernel_rfl)) ⟨_, rfl, hsame _ (by decide), fun _ => rfl, fun _ _ _ h => h⟩
        | 1, _ =>
          cases ho
          exact wpOp_field rfl rfl rfl (hI.kept (t := 5) (by kernel_rfl)) (v := .pointer (some ⟨w.heap.size + 1, 1, none⟩)) (w' := w') (by simp [go_sem]) ⟨_, rfl, hsame _ (by decide), fun _ => rfl, fun _ _ _ h => h⟩
        | 2, _ =>
          have hinv := hin (hI.notyet hn 5 (by kernel_rfl))
          cases ho
          have hB' := (hinv.block (w.heap.size + 1) hBl).trans hB2
          exact wpOp_load rfl rfl rfl (hI.slot 1 24 rfl (hpre ⟨1, .data⟩ (by simp) rfl) rfl) (load_cell (Try.isAgg3 _) (v := .int .i64 p) (by rw [cell_of_row w' (w.heap.size + 1) 1 _ _ _ hB']; rfl)) ⟨_, rfl, hsame _ (by decide), fun _ => rfl, fun _ _ _ h => h⟩
        | 3, _ =>
          have hinv := hin (hI.notyet (hI.notyet hn 4 (by kernel_rfl)) 5 (by kernel_rfl))
          cases ho
          exact wpOp_load rfl rfl rfl (hI.kept (t := 5) (by kernel_rfl)) (load_row38 ((hinv.block (w.heap.size + 1) hBl).trans hB2) rfl) ⟨_, rfl, hsame _ (by decide), fun _ => rfl, fun _ _ _ h => h⟩
        | 4, _ =>
          have h5 := hI.notyet hn 5 (by kernel_rfl)
          have hinv := hin h5
          cases ho
          have e3 : a.eval (.tmp 26) = actV 1 p x r := hI.slot 3 26 rfl (hpre ⟨3, .data⟩ (by simp) rfl) rfl
          refine wpOp_callFn rfl rfl rfl (vs := #[actV 1 p x r]) (by rw [Array.map_singleton]; show #[a.eval (.tmp 26)] = _; rw [e3]) (fun _ _ => by kernel_rfl) ((actBytes_any 1 p x r w').mono ?_)
          rintro e w'' ⟨gb, rfl, hr, hgb, hb3⟩
          exact ⟨_, rfl, _, rfl, hnx _ (by decide) h5 _ (hinv.trans (hb3.mono hinv.size)), fun _ => ⟨gb, rfl, hr⟩, fun j u _ h => DvSp.any (fun gb h => (hb3.block gb (Array.getElem?_eq_some_iff.1 h).1).trans h) j u h⟩
        | 5, _ =>
          have hinv := hin hn
          cases ho
          have e0 : a.eval (.tmp 23) = ptr B := hI.slot 0 23 rfl (hpre ⟨0, .data⟩ (by simp) rfl) rfl
          have e2 : a.eval (.tmp 25) = .int .i64 p := hI.slot 2 25 rfl (hpre ⟨2, .data⟩ (by simp) rfl) rfl
          obtain ⟨gb, e4, hr⟩ : ∃ gb, a.eval (.tmp 27) = .slice (some ⟨gb, 0, none⟩) (actL p x).length (actL p x).length ∧ RowAt w' gb (actL p x) := hI.slot 4 27 rfl (hpre ⟨4, .data⟩ (by simp) rfl) rfl
          refine wpOp_callFn rfl rfl rfl (vs := #[ptr B, .int .i64 p, .slice (some ⟨gb, 0, none⟩) (actL p x).length (actL p x).length]) (by simp only [List.map_toArray, List.map_cons, List.map_nil, e0, e2, e4]) (fun _ _ => by kernel_rfl) ((write_disk (HDF.out w' (hb2.trans (hinv.mono hb2.size))) HFd.out.1 p (some ⟨gb, 0, none⟩) (actL p x).length (actL p x).length (actL p x) ⟨rfl, fun h256 => ⟨gb, 0, rfl, ⟨h256, fun j v hv => by rw [Nat.zero_add, cell_of_row w' gb j _ _ _ hr]; simpa using hv, _, _, _, hr, by decide, by decide⟩⟩⟩).mono ?_)
          rw [HDW.out]
          rintro e w'' ⟨rfl, hD5, hK5⟩
          refine ⟨_, rfl, _, rfl, ?_, fun _ => rfl, fun j u _ h => DvSp.any (fun gb h => hK5.cells _ _ _ _ h (by decide) (by decide)) j u h⟩
          unfold DvInv
          rw [if_pos (listed_same (by rw [hI.size]; decide))]
          exact ⟨w', hinv, hD5, hK5⟩
        | 6, _ =>
          cases ho
          exact wpOp_move rfl rfl (.inr rfl) (hI.slot 5 28 rfl (hpre ⟨5, .data⟩ (by simp) rfl) rfl) ⟨_, rfl, hsame _ (by decide), fun _ => rfl, fun _ _ _ h => h⟩
    case fin2 =>
      intro listed a w' hI hall
      have hinv := hI.inv
      unfold DvInv at hinv
      rw [if_pos (hall 5 (by decide))] at hinv
      obtain ⟨w3, hb3, hD3, hK3⟩ := hinv
      have e9 : a.tmps.getD 9 undef = .int .i64 dw.2 := hI.slot 6 9 rfl (hall 6 (by decide)) rfl
      obtain ⟨vs, us, hvl, hul, hvs, -, e⟩ := hI.frame2 9 1 23 6 (by decide) (Nat.le_of_ble_eq_true (by kernel_rfl)) (by kernel_rfl)
      have v0' := hvs 0 (by decide)
      clear hI hall hvs
      match vs, us, hvl, hul with
      | [v0], [s0, s1, s2, s3, s4, s5], _, _ =>
      simp only [List.getElem?_cons_zero, Option.some.injEq] at v0'
      rw [Nat.add_zero, e9] at v0'
      subst v0'
      clear e9
      simp only [List.take_succ_cons, List.take_zero, List.drop_succ_cons, List.drop_zero, List.cons_append, List.nil_append, Nat.reduceAdd, Nat.reduceSub] at e
      subst e
      have hA3 := hK3.cells _ _ _ _ ((hb3.block w.heap.size (Array.getElem?_eq_some_iff.1 hA2).1).trans hA2) (by decide) (by decide)
      have hC3 := hK3.cells _ _ _ _ ((hb3.block (w.heap.size + 1 + 1) (Array.getElem?_eq_some_iff.1 hC2).1).trans hC2) (by decide) (by decide)
      have c00 := cell_of_row w' w.heap.size 0 _ _ _ hA3; have f00 := frozen_of_row w' w.heap.size 0 _ _ hA3
      have c01 := cell_of_row w' w.heap.size 1 _ _ _ hA3; have f01 := frozen_of_row w' w.heap.size 1 _ _ hA3
      have c02 := cell_of_row w' w.heap.size 2 _ _ _ hA3; have f02 := frozen_of_row w' w.heap.size 2 _ _ hA3
      have c03 := cell_of_row w' w.heap.size 3 _ _ _ hA3; have f03 := frozen_of_row w' w.heap.size 3 _ _ hA3
      have c04 := cell_of_row w' w.heap.size 4 _ _ _ hA3; have f04 := frozen_of_row w' w.heap.size 4 _ _ hA3
      have c05 := cell_of_row w' w.heap.size 5 _ _ _ hA3; have f05 := frozen_of_row w' w.heap.size 5 _ _ hA3
      simp only [List.getElem?_toArray, List.getElem?_cons_zero, List.getElem?_cons_succ] at c00 c01 c02 c03 c04 c05
      have c10 := cell_of_row w' (w.heap.size + 1 + 1) 0 _ _ _ hC3; have f10 := frozen_of_row w' (w.heap.size + 1 + 1) 0 _ _ hC3
      have c11 := cell_of_row w' (w.heap.size + 1 + 1) 1 _ _ _ hC3; have f11 := frozen_of_row w' (w.heap.size + 1 + 1) 1 _ _ hC3
      have c12 := cell_of_row w' (w.heap.size + 1 + 1) 2 _ _ _ hC3; have f12 := frozen_of_row w' (w.heap.size + 1 + 1) 2 _ _ hC3
      have c13 := cell_of_row w' (w.heap.size + 1 + 1) 3 _ _ _ hC3; have f13 := frozen_of_row w' (w.heap.size + 1 + 1) 3 _ _ hC3
      have c14 := cell_of_row w' (w.heap.size + 1 + 1) 4 _ _ _ hC3; have f14 := frozen_of_row w' (w.heap.size + 1 + 1) 4 _ _ hC3
      have c15 := cell_of_row w' (w.heap.size + 1 + 1) 5 _ _ _ hC3; have f15 := frozen_of_row w' (w.heap.size + 1 + 1) 5 _ _ hC3
      simp only [List.getElem?_toArray, List.getElem?_cons_zero, List.getElem?_cons_succ] at c10 c11 c12 c13 c14 c15
      have HF := Lib.hid (And.intro hI2 (And.intro hb2 (And.intro hb3 (And.intro hD3 (And.intro hK3 hC3)))))
      clear hI2 hb2 hb3 hD3 hK3 hC3 hA3 hA2 hB2 hC2
      go_wp2
      obtain ⟨hI2, hb2, hb3, hD3, hK3, hC3⟩ := HF.out
      refine bodyPost_ret (results_ref rfl _ _ _ _ _ _ rfl (set6_heap _ _ _ _ _ _ hC3) Try.underlying32 (by kernel_rfl)) rfl ?_
      have hfin := set6_grown w' (w.heap.size + 1 + 1) (.slice la4 gw.1.lasts.length lc4) (.slice wa4 gw.1.waits.length wc4) (.int .i64 gw.1.k) (.int .i64 gw.1.l) (.bool gw.1.b) (.int .i64 gw.1.s)
      have hgG := ((hI2.below hb3).keeps hK3).besides hfin hC3
      have hb13 := hb2.trans (hb3.mono hb2.size)
      refine ⟨la4, lc4, wa4, wc4, rfl, hgG.mono (Nat.le_trans hb3.size (Nat.le_trans hK3.below.size hfin.size)), hD3.besides hfin hC3 (by decide) (by decide), ⟨((hb13.mono hn0).trans hK3.below).grown hfin (Nat.le_trans hn0 (Nat.le_trans hb13.size hK3.below.size)) (fun k e => by cases e; omega), fun k cs T fr hk h1 h2 => ?_⟩⟩
      have hlt := (Array.getElem?_eq_some_iff.1 hk).1
      have h6 := hK3.cells k cs T fr ((hb13.block k hlt).trans hk) h1 h2
      exact (hfin.block k (Array.getElem?_eq_some_iff.1 h6).1 (fun e => by have := Option.some.inj e; omega)).trans h6
end Go.Proofs.Ytogmbidjbagapaa
/- Layer 2: the law's 'does' of a call that is none. -/
namespace Go.Proofs.Ytogmbidjbagapaa
open Go.ChangeShapes Go.WideShapes Go.RowKit

theorem alloc3_new (w : World) (a b c : Obj) : (((w.alloc a).alloc b).alloc c).heap[w.heap.size + 1 + 1]? = some c := by
  have := heap_alloc_new' (w.alloc a) b c
  rw [World.size_alloc] at this
  exact this
set_option maxRecDepth 100000 in
set_option maxHeartbeats 4000000 in
theorem does_none {n₀ : Nat} {w : World} {B : Nat} {d : Dsk} {la wa : Option Addr} {lc wc : Nat} {g : GD} (hD : IsDisk n₀ w B d) (hG : IsG w.heap.size w la lc wa wc g) (k p : Int) (x : UInt8) (r : Int) (h1 : k ≠ 1) (h2 : k ≠ 2) (h3 : k ≠ 3) :
    Calls Try.prog 10 #[ptr B, gv la lc wa wc g, actV k p x r] w fun e w' => DoesPost n₀ w B (d, 0) (g, 0) e w' := by
  have hn0 := hD.n_le
  have HP := Lib.hid (show ∀ a b c, DoesPost n₀ w B (d, 0) (g, 0) (.returned (.tuple #[.agg #[.slice la g.lasts.length lc, .slice wa g.waits.length wc, .int .i64 g.k, .int .i64 g.l, .bool g.b, .int .i64 g.s], .bool true])) (((w.alloc a).alloc b).alloc c) from fun a b c => by
    have hb : Below w.heap.size w (((w.alloc a).alloc b).alloc c) := (((Below.refl _ _).alloc (Nat.le_refl _) _).alloc (by simp) _).alloc (by simp; omega) _
    exact ⟨la, lc, wa, wc, rfl, (hG.below hb).mono hb.size, hD.below hb, Keeps.of_below hb hn0⟩)
  clear hD hG
  have e1 : (k == 1) = false := by simpa using h1
  have e2 : (k == 2) = false := by simpa using h2
  have e3 : (k == 3) = false := by simpa using h3
  go_enter Try.func10, Try.ntmps10
  unfold gv rv actV
  go_wp2
  refine bodyPost_ret (results_ref rfl _ _ _ _ _ _ rfl (alloc3_new _ _ _ _) Try.underlying32 (by kernel_rfl)) rfl ?_
  exact HP.out _ _ _
end Go.Proofs.Ytogmbidjbagapaa
/- Layer 2: the document's disk in memory; a page as it was written last. -/
namespace Go.Proofs.Ytogmbidjbagapaa
open Go.RowKit

/-- What page i is behind these writes. -/
def pageOf (s : ByteArray) (i : Int) (ws : List (Int × ByteArray)) : ByteArray := ws.foldl (fun o x => if x.1 = i then x.2 else o) s
theorem pageOf_snoc (s : ByteArray) (i : Int) (ws : List (Int × ByteArray)) (x : Int × ByteArray) : pageOf s i (ws ++ [x]) = if x.1 = i then x.2 else pageOf s i ws := by simp [pageOf]
def GD.page (g : GD) (i : Nat) : ByteArray := pageOf (g.lasts[i]?.getD ⟨#[]⟩) i g.waits
set_option maxRecDepth 100000 in
set_option maxHeartbeats 2000000 in
theorem gpage_any {w : World} {la wa : Option Addr} {lc wc : Nat} {g : GD} (n₀ : Nat) (hn₀ : n₀ ≤ w.heap.size) (h : IsG n₀ w la lc wa wc g) (hf : g.waits.length ≤ 1000000) (i : Nat) (hi : i < g.lasts.length) :
    Calls Try.prog 28 #[gv la lc wa wc g, .int .i64 i] w fun e w' => e = .returned (.string (g.page i)) ∧ Below w.heap.size w w' := by
  obtain ⟨L, hL⟩ : ∃ L, g.lasts.length = L := ⟨_, rfl⟩
  obtain ⟨n, hn⟩ : ∃ n, g.waits.length = n := ⟨_, rfl⟩
  have hgv : gv la lc wa wc g = .agg #[.slice la L lc, .slice wa n wc, .int .i64 g.k, .int .i64 g.l, .bool g.b, .int .i64 g.s] := by unfold gv rv; rw [hL, hn]
  rw [hgv]
  rw [hL] at hi
  rw [hn] at hf
  obtain ⟨W, hW⟩ : ∃ W, w.alloc (.cells #[.slice la L lc, .slice wa n wc, .int .i64 g.k, .int .i64 g.l, .bool g.b, .int .i64 g.s] 32) = W := ⟨_, rfl⟩
  have hrow := heap_alloc_new w (.cells #[.slice la L lc, .slice wa n wc, .int .i64 g.k, .int .i64 g.l, .bool g.b, .int .i64 g.s] 32)
  rw [hW] at hrow
  have hb : Below w.heap.size w W := hW ▸ (Below.refl _ _).alloc (Nat.le_refl _) _
  have q0 := cell_of_row W w.heap.size 0 _ _ _ hrow
  have q1 := cell_of_row W w.heap.size 1 _ _ _ hrow
  simp only [List.getElem?_toArray, List.getElem?_cons_zero, List.getElem?_cons_succ] at q0 q1
  have hI := h.below (hb.mono hn₀)
  obtain ⟨s0, hs0⟩ : ∃ s, g.lasts[i]? = some s := ⟨g.lasts[i]'(by omega), List.getElem?_eq_getElem _⟩
  obtain ⟨b, off, rfl, hlt, -, hc⟩ := hI.lasts (by intro h; have := congrArg List.length h; simp at this; rw [this] at hL; simp at hL; omega)
  have c0 := hc i (.string s0) (by rw [List.getElem?_map, hs0]; rfl)
  have c0' : W.cell? ⟨b, off + i * 1, none⟩ = some (.string s0) := by rw [Nat.mul_one]; exact c0
  have hiL : (i : Int) < (L : Int) := by omega
  have hgp : g.page i = pageOf s0 i g.waits := by unfold GD.page; rw [hs0]; rfl
  rw [hgp]
  have HI := Lib.hid (And.intro hI (And.intro hn hb))
  clear h hrow hc hgp hgv hs0 hI hn hb
  go_enter Try.func28, Try.ntmps28
  go_wp2
  go_loopw [5, 6, 12, 13, 14, 15, 16, 17, 18, 19, 20, 21, 22, 23, 24, 25, 26, 27, 28, 29, 30, 31, 32] (fun x y _ _ _ _ _ _ _ _ _ _ _ _ _ _ _ _ _ _ _ _ _ wr => wr = W ∧ ∃ j : Nat, j ≤ n ∧ y = .int .i64 j ∧ x = .string (pageOf s0 i (g.waits.take j))) (fun _ y _ _ _ _ _ _ _ _ _ _ _ _ _ _ _ _ _ _ _ _ _ _ => n - (intOf y).toNat)
  case atStart => exact ⟨rfl, 0, Nat.zero_le _, rfl, by simp [pageOf]⟩
  case round =>
    obtain ⟨rfl, j, hj, rfl, rfl⟩ := hrel
    by_cases hlt2 : j < n
    · have hjn : (j : Int) < (n : Int) := by omega
      obtain ⟨hI, hn, -⟩ := HI.out
      obtain ⟨x, hx⟩ : ∃ x, g.waits[j]? = some x := ⟨g.waits[j]'(by omega), List.getElem?_eq_getElem _⟩
      obtain ⟨w1, w2⟩ := wtsCells_get hx
      obtain ⟨b2, off2, rfl, hlt3, -, hc2⟩ := hI.waits (by intro e; rw [e] at w1; simp at w1)
      have d0 := hc2 _ _ w1
      have d1 := hc2 _ _ w2
      rw [← Nat.add_assoc] at d1
      have htk : pageOf s0 i (g.waits.take (j + 1)) = if x.1 = i then x.2 else pageOf s0 i (g.waits.take j) := by
        rw [List.take_add_one, hx, Option.toList_some]; exact pageOf_snoc _ _ _ _
      have HT := Lib.hid htk
      clear hI hn w1 w2 htk hc2 hx
      by_cases hxi : x.1 = (i : Int)
      · have hxi2 : (x.1 == (i : Int)) = true := by simpa using hxi
        go_wp2
        exact ⟨⟨trivial, j + 1, hlt2, by rw [show ((j + 1 : Nat) : Int) = (j : Int) + 1 by omega], by rw [HT.out, if_pos hxi]⟩, by simp only [intOf]; omega⟩
      · have hxi2 : (x.1 == (i : Int)) = false := by simpa using hxi
        go_wp2
        exact ⟨⟨trivial, j + 1, hlt2, by rw [show ((j + 1 : Nat) : Int) = (j : Int) + 1 by omega], by rw [HT.out, if_neg hxi]⟩, by simp only [intOf]; omega⟩
    · obtain rfl : j = n := by omega
      have hjn : ¬ ((j : Int) < (j : Int)) := by omega
      go_wp2
      go_ret
      exact ⟨by rw [List.take_of_length_le (by rw [HI.out.2.1]; exact Nat.le_refl _)]; rfl, HI.out.2.2⟩
end Go.Proofs.Ytogmbidjbagapaa
/- Layer 2: the disk and the document's disk, side by side; in plain words. -/
namespace Go.Proofs.Ytogmbidjbagapaa
open Go.RowKit

def pgStr (p : Page) : ByteArray := ⟨p.toArray⟩
def wtStr (x : Nat × Page) : Int × ByteArray := ((x.1 : Int), pgStr x.2)
/-- The document's disk g is what the disk d is. -/
structure Agree (d : Dsk) (g : GD) : Prop where
  lasts : g.lasts = d.lasts.map pgStr
  waits : g.waits = d.waits.map wtStr
  k : g.k = d.kind
  l : d.kind ≠ 0 → g.l = d.left
  b : g.b = d.dead
  s : g.s = d.steps
theorem pageOf_newest (s : Page) (i : Nat) (ws : List (Nat × Page)) : pageOf (pgStr s) i (ws.map wtStr) = pgStr ((newest ws i).getD s) := by
  induction ws using snoc_ind with
  | h0 => rfl
  | h1 l x ih =>
    rw [List.map_append, List.map_cons, List.map_nil, pageOf_snoc, newest_snoc']
    by_cases h : x.1 = i
    · subst h; simp [wtStr]
    · have h2 : ¬ ((wtStr x).1 = (i : Int)) := by simp [wtStr]; omega
      rw [if_neg h2, ih]
      show _ = pgStr ((if i = x.fst then some x.snd else newest l i).getD s)
      rw [if_neg (fun e => h e.symm)]
theorem Agree.page {d : Dsk} {g : GD} (h : Agree d g) (i : Nat) (hi : i < d.room) : g.page i = pgStr (d.page i) := by
  unfold GD.page Dsk.page
  rw [h.waits, h.lasts, List.getElem?_map, List.getElem?_eq_getElem hi, Option.map_some, Option.getD_some, pageOf_newest]
  congr 2
  simp only [List.getD, List.getElem?_eq_getElem (show i < d.lasts.length from hi), Option.getD_some]
  rfl
theorem Agree.step {d : Dsk} {g : GD} (h : Agree d g) (ok : d.Ok) (hf : d.steps ≤ 4611686018427387904) : Agree d.step.1 g.stepped.1 ∧ (d.step.2 : Int) = g.stepped.2 := by
  obtain ⟨h1, h2, h3, h4, h5, h6⟩ := h
  have hl := ok.left_
  unfold GD.stepped rstep Dsk.step
  rw [h5]
  by_cases hd : d.dead = true
  · simp only [hd, if_true]
    exact ⟨⟨h1, h2, h3, h4, hd.symm, h6⟩, rfl⟩
  · have hd2 : d.dead = false := by simpa using hd
    simp only [hd2, Bool.false_eq_true, if_false]
    by_cases hk : d.kind ≠ 0 ∧ d.left = 0
    · have hk2 : g.k ≠ 0 ∧ g.l = 0 := ⟨by rw [h3]; omega, by rw [h4 hk.1]; omega⟩
      simp only [hk, hk2, and_self, ne_eq, not_false_eq_true, if_true]
      by_cases h1k : d.kind = 1
      · have : g.k = 1 := by rw [h3]; omega
        simp only [h1k, this, if_true]
        exact ⟨⟨h1, h2, rfl, fun e => absurd rfl e, rfl, h6⟩, rfl⟩
      · have : ¬ g.k = 1 := by rw [h3]; omega
        simp only [h1k, this, if_false]
        exact ⟨⟨h1, h2, rfl, fun e => absurd rfl e, rfl, h6⟩, rfl⟩
    · have hk2 : ¬ (g.k ≠ 0 ∧ g.l = 0) := by
        rintro ⟨e0, e2⟩
        have e1 : d.kind ≠ 0 := by rw [h3] at e0; omega
        rw [h4 e1] at e2
        exact hk ⟨e1, by omega⟩
      rw [if_neg hk, if_neg hk2]
      have e6 : wrap64 (g.s + 1) = ((d.steps + 1 : Nat) : Int) := by rw [h6]; unfold wrap64; omega
      refine ⟨⟨h1, h2, h3, fun e => ?_, rfl, e6⟩, rfl⟩
      have e : d.kind ≠ 0 := e
      have hne : g.k ≠ 0 := by rw [h3]; omega
      have hl0 : d.left ≠ 0 := fun z => hk ⟨e, z⟩
      show (if g.k ≠ 0 then wrap64 (g.l - 1) else g.l) = ((d.left - (if d.kind = 0 then 0 else 1) : Nat) : Int)
      rw [if_pos hne, if_neg e, h4 e]
      unfold wrap64; omega
theorem flushed_applied (ls : List Page) (ws : List (Nat × Page)) : flushed (ls.map pgStr) (ws.map wtStr) = (applied ls ws).map pgStr := by
  induction ws using snoc_ind with
  | h0 =>
    unfold applied
    apply List.ext_getElem?
    intro i
    by_cases hi : i < ls.length
    · simp [flushed, newest_nil, hi, List.getD]
    · simp [flushed, hi]
  | h1 l x ih =>
    rw [List.map_append, List.map_cons, List.map_nil, flushed_snoc, ih]
    unfold applied
    rw [newest_snoc']
    apply List.ext_getElem?
    intro i
    rw [List.getElem?_set]
    by_cases hi : i < ls.length
    · by_cases hx : x.1 = i
      · subst hx; simp [wtStr, hi]
      · have hx2 : ¬ i = x.1 := fun e => hx e.symm
        simp [wtStr, hi, hx, hx2]
    · have : ¬ (x.1 = i ∧ i < ls.length) := fun e => hi e.2
      by_cases hx : x.1 = i
      · subst hx; simp [wtStr, hi]
      · simp [wtStr, hi, hx]
theorem Agree.flush {d : Dsk} {g : GD} (h : Agree d g) (ok : d.Ok) (hf : d.steps ≤ 4611686018427387904) : Agree d.flush.1 g.flush.1 ∧ (d.flush.2 : Int) = g.flush.2 := by
  obtain ⟨hs, he⟩ := h.step ok hf
  unfold Dsk.flush GD.flush
  by_cases h0 : d.step.2 = 0
  · have h0' : g.stepped.2 = 0 := by rw [← he, h0]; rfl
    rw [if_pos h0, if_pos h0']
    refine ⟨⟨?_, rfl, hs.k, hs.l, hs.b, hs.s⟩, rfl⟩
    show flushed g.lasts g.waits = _
    rw [h.lasts, h.waits]; exact flushed_applied _ _
  · have h0' : ¬ g.stepped.2 = 0 := by rw [← he]; omega
    rw [if_neg h0, if_neg h0']
    exact ⟨hs, he⟩
theorem Agree.write {d : Dsk} {g : GD} (h : Agree d g) (ok : d.Ok) (hf : d.steps ≤ 4611686018427387904) (p : Int) (l : List UInt8) : Agree (d.write p l).1 (g.write p l).1 ∧ ((d.write p l).2 : Int) = (g.write p l).2 := by
  obtain ⟨hs, he⟩ := h.step ok hf
  have hL : g.lasts.length = d.room := by rw [h.lasts, List.length_map]; rfl
  unfold Dsk.write GD.write
  by_cases h1 : l.length ≠ 256
  · rw [if_pos h1, if_pos h1]; exact ⟨h, rfl⟩
  rw [if_neg h1, if_neg h1, hL]
  by_cases h2 : 0 ≤ p ∧ p < (d.room : Int)
  · rw [if_neg (not_not_intro h2), if_neg (show ¬ (p < 0 ∨ (d.room : Int) ≤ p) by omega)]
    by_cases h0 : d.step.2 = 0
    · have h0' : g.stepped.2 = 0 := by rw [← he, h0]; rfl
      rw [if_pos h0, if_pos h0']
      refine ⟨⟨hs.lasts, ?_, hs.k, hs.l, hs.b, hs.s⟩, rfl⟩
      show g.waits ++ [(p, ⟨l.toArray⟩)] = (d.waits ++ [(p.toNat, l)]).map wtStr
      rw [List.map_append, h.waits]
      congr 1
      show [(p, (⟨l.toArray⟩ : ByteArray))] = [((p.toNat : Int), pgStr l)]
      rw [Int.toNat_of_nonneg h2.1]; rfl
    · have h0' : ¬ g.stepped.2 = 0 := by rw [← he]; omega
      rw [if_neg h0, if_neg h0']
      exact ⟨hs, he⟩
  · rw [if_pos h2, if_pos (show p < 0 ∨ (d.room : Int) ≤ p by omega)]; exact ⟨h, rfl⟩
theorem Agree.arm {d : Dsk} {g : GD} (h : Agree d g) (r p : Int) : Agree (d.arm r p).1 (g.arm r p).1 ∧ ((d.arm r p).2 : Int) = (g.arm r p).2 := by
  unfold Dsk.arm GD.arm
  by_cases h1 : ¬(r = 1 ∨ r = 2) ∧ (r ≠ 0 ∨ 0 ≤ p)
  · rw [if_pos h1, if_pos (show r < 0 ∨ 2 < r ∨ (r = 0 ∧ 0 ≤ p) by omega)]; exact ⟨h, rfl⟩
  rw [if_neg h1, if_neg (show ¬ (r < 0 ∨ 2 < r ∨ (r = 0 ∧ 0 ≤ p)) by omega), h.b]
  by_cases h2 : d.dead = true
  · rw [if_pos h2, if_pos h2]; exact ⟨h, rfl⟩
  rw [if_neg h2, if_neg h2]
  have hd2 : d.dead = false := by simpa using h2
  by_cases h3 : 0 ≤ p
  · rw [if_pos h3, if_neg (by omega)]
    exact ⟨⟨h.lasts, h.waits, by show r = (r.toNat : Int); omega, fun _ => by show p = (p.toNat : Int); omega, by show d.dead = false; exact hd2, h.s⟩, rfl⟩
  · rw [if_neg h3, if_pos (by omega)]
    exact ⟨⟨h.lasts, h.waits, rfl, fun e => absurd rfl e, by show d.dead = false; exact hd2, h.s⟩, rfl⟩
end Go.Proofs.Ytogmbidjbagapaa
/- Layer 2: any call of the law, on the disk and on the document's disk; a run of calls that came in. -/
namespace Go.Proofs.Ytogmbidjbagapaa
open Go.ChangeShapes Go.WideShapes Go.RowKit

/-- A call: Kind, Page, Byte, Arm. -/
structure ActD where
  k : Int
  p : Int
  x : UInt8
  r : Int
instance : Inhabited ActD := ⟨⟨0, 0, 0, 0⟩⟩
def ActD.v (a : ActD) : Value := actV a.k a.p a.x a.r
structure ActD.Ok (a : ActD) : Prop where
  arm : (Lit.int .i64 a.r).wf = true
  page : a.p ≤ 9223372036854775807
def stepD (d : Dsk) (a : ActD) : Dsk × Nat := if a.k = 1 then d.write a.p (actL a.p a.x) else if a.k = 2 then d.flush else if a.k = 3 then d.arm a.r a.p else (d, 0)
def stepG (g : GD) (a : ActD) : GD × Int := if a.k = 1 then g.write a.p (actL a.p a.x) else if a.k = 2 then g.flush else if a.k = 3 then g.arm a.r a.p else (g, 0)
theorem Agree.act {d : Dsk} {g : GD} (h : Agree d g) (ok : d.Ok) (hf : d.steps ≤ 4611686018427387904) (a : ActD) : Agree (stepD d a).1 (stepG g a).1 ∧ ((stepD d a).2 : Int) = (stepG g a).2 := by
  unfold stepD stepG
  by_cases h1 : a.k = 1
  · rw [if_pos h1, if_pos h1]; exact h.write ok hf a.p _
  rw [if_neg h1, if_neg h1]
  by_cases h2 : a.k = 2
  · rw [if_pos h2, if_pos h2]; exact h.flush ok hf
  rw [if_neg h2, if_neg h2]
  by_cases h3 : a.k = 3
  · rw [if_pos h3, if_pos h3]; exact h.arm a.r a.p
  rw [if_neg h3, if_neg h3]
  exact ⟨h, rfl⟩
theorem Dsk.Few.act {d : Dsk} {m : Nat} (h : d.Few m) (ok : d.Ok) (a : ActD) : (stepD d a).1.Few (m + 1) := by
  unfold stepD
  by_cases h1 : a.k = 1
  · rw [if_pos h1]; exact h.write ok a.p _
  rw [if_neg h1]
  by_cases h2 : a.k = 2
  · rw [if_pos h2]; exact h.flush ok
  rw [if_neg h2]
  by_cases h3 : a.k = 3
  · rw [if_pos h3]; exact (h.arm a.r a.p).mono (Nat.le_succ _)
  rw [if_neg h3]
  exact h.mono (Nat.le_succ _)
def ActsPost (n₀ : Nat) (w : World) (B : Nat) (d : Dsk) (g : GD) (e : Ending) (w' : World) : Prop :=
  ∃ la lc wa wc, e = .returned (.tuple #[gv la lc wa wc g, .bool true]) ∧ IsG w'.heap.size w' la lc wa wc g ∧ IsDisk n₀ w' B d ∧ Keeps n₀ w w'
theorem does_act {n₀ : Nat} {w : World} {B : Nat} {d : Dsk} {la wa : Option Addr} {lc wc : Nat} {g : GD} (hD : IsDisk n₀ w B d) (hG : IsG w.heap.size w la lc wa wc g) (hA : Agree d g) (hfd : d.Few 1000000) (a : ActD) (ha : a.Ok) :
    Calls Try.prog 10 #[ptr B, gv la lc wa wc g, a.v] w fun e w' => ActsPost n₀ w B (stepD d a).1 (stepG g a).1 e w' := by
  have ok := hD.ok
  have hag := (hA.act ok (Nat.le_trans hfd.2 (by decide)) a).2
  have hf : g.waits.length ≤ 1000000 := by rw [hA.waits, List.length_map]; exact hfd.1
  have hfd2 := hfd.mono (show 1000000 ≤ 2147483648 by decide)
  have hpg : ∀ x ∈ g.waits, 0 ≤ x.1 ∧ x.1 < (g.lasts.length : Int) := by
    intro x hx
    rw [hA.waits] at hx
    obtain ⟨y, hy, rfl⟩ := List.mem_map.1 hx
    have := (ok.wait y hy).1
    rw [hA.lasts, List.length_map]
    have e1 : (wtStr y).1 = (y.1 : Int) := rfl
    have e2 : d.room = d.lasts.length := rfl
    omega
  have key : ∀ e w', DoesPost n₀ w B (stepD d a) (stepG g a) e w' → ActsPost n₀ w B (stepD d a).1 (stepG g a).1 e w' := by
    rintro e w' ⟨a1, a2, a3, a4, rfl, h1, h2, h3⟩
    exact ⟨a1, a2, a3, a4, by rw [hag]; simp, h1, h2, h3⟩
  unfold ActD.v
  by_cases h1 : a.k = 1
  · have e1 : stepD d a = d.write a.p (actL a.p a.x) := if_pos h1
    have e2 : stepG g a = g.write a.p (actL a.p a.x) := if_pos h1
    refine Calls.mono ?_ (fun e w' h => key e w' h)
    rw [e1, e2, h1]
    exact does_write hD hG hfd2 hf a.p a.x a.r
  by_cases h2 : a.k = 2
  · have e1 : stepD d a = d.flush := by unfold stepD; rw [if_neg h1, if_pos h2]
    have e2 : stepG g a = g.flush := by unfold stepG; rw [if_neg h1, if_pos h2]
    refine Calls.mono ?_ (fun e w' h => key e w' h)
    rw [e1, e2, h2]
    exact does_flush hD hG hfd2 hf hpg a.p a.x a.r
  by_cases h3 : a.k = 3
  · have e1 : stepD d a = d.arm a.r a.p := by unfold stepD; rw [if_neg h1, if_neg h2, if_pos h3]
    have e2 : stepG g a = g.arm a.r a.p := by unfold stepG; rw [if_neg h1, if_neg h2, if_pos h3]
    refine Calls.mono ?_ (fun e w' h => key e w' h)
    rw [e1, e2, h3]
    exact does_arm hD hG a.p a.x a.r ha.arm ha.page
  · have e1 : stepD d a = (d, 0) := by unfold stepD; rw [if_neg h1, if_neg h2, if_neg h3]
    have e2 : stepG g a = (g, 0) := by unfold stepG; rw [if_neg h1, if_neg h2, if_neg h3]
    refine Calls.mono ?_ (fun e w' h => key e w' h)
    rw [e1, e2]
    exact does_none hD hG a.k a.p a.x a.r h1 h2 h3
/-- From the slice's address on lie these calls. -/
structure ActAt (W : World) (b o : Nat) (a : ActD) : Prop where
  k : W.cell? ⟨b, o, none⟩ = some (.int .i64 a.k)
  p : W.cell? ⟨b, o + 1, none⟩ = some (.int .i64 a.p)
  x : W.cell? ⟨b, o + 2, none⟩ = some (.int .u8 (a.x.toNat : Int))
  r : W.cell? ⟨b, o + 3, none⟩ = some (.int .i64 a.r)
theorem ActAt.below {n₀ b o : Nat} {W W' : World} {a : ActD} (h : ActAt W b o a) (hb : Below n₀ W W') (hlt : b < n₀) : ActAt W' b o a :=
  ⟨(hb.cell (p := ⟨b, o, none⟩) hlt).trans h.k, (hb.cell (p := ⟨b, o + 1, none⟩) hlt).trans h.p, (hb.cell (p := ⟨b, o + 2, none⟩) hlt).trans h.x, (hb.cell (p := ⟨b, o + 3, none⟩) hlt).trans h.r⟩
def ActsAt (n₀ : Nat) (W : World) (a : Option Addr) (L : List ActD) : Prop := L ≠ [] → ∃ b off, a = some ⟨b, off, none⟩ ∧ b < n₀ ∧ ∀ j, j < L.length → ActAt W b (off + j * 4) (L.getD j default) ∧ (L.getD j default).Ok
section
variable {H : Type} {enc : TypeId × Value → H}
set_option maxRecDepth 100000 in
theorem open_acts {base : Nat} {W : World} {v : Value} {d : DataW H} {ps : List MemPlace} (hok : Value.okWide Try.prog W .any base 22 v) (h : DataW.Trod enc Try.prog W 0 (fun _ => true) true 22 v d ps) :
    ∃ a L cap, v = .slice a (L : List ActD).length cap ∧ L.length ≤ cap ∧ cap ≤ maxLen ∧ ActsAt W.heap.size W a L := by
  obtain ⟨a, len, cap, rfl, hl, hm, hr⟩ := open_fours Try.underlying22 Try.underlying38 rfl (by kernel_rfl) (by kernel_rfl) hok h
  rcases hr with rfl | ⟨b, off, rfl, hb, hc⟩
  · exact ⟨a, [], cap, rfl, by simp, hm, fun h => absurd rfl h⟩
  · have key : ∀ i, ∃ p : ActD, i < len → ActAt W b (off + i * 4) p ∧ p.Ok := fun i => by
      by_cases hi : i < len
      · obtain ⟨c0, c1, c2, c3, h0, h1, h2, h3, hf⟩ := hc i hi
        obtain ⟨n0, y0, t0⟩ := hf 0 _ c0 rfl rfl
        obtain ⟨n1, y1, t1⟩ := hf 1 _ c1 rfl rfl
        obtain ⟨n2, y2, t2⟩ := hf 2 _ c2 rfl rfl
        obtain ⟨n3, y3, t3⟩ := hf 3 _ c3 rfl rfl
        obtain ⟨z0, rfl, w0⟩ := trod_int_of Try.underlying3 t0
        obtain ⟨z1, rfl, w1⟩ := trod_int_of Try.underlying3 t1
        obtain ⟨z2, rfl, w2⟩ := trod_int_of Try.underlying5 t2
        obtain ⟨z3, rfl, w3⟩ := trod_int_of Try.underlying36 t3
        rw [addr_add] at h1 h2 h3
        have m1 : IntKind.u8.min = 0 := rfl
        have m2 : IntKind.u8.max = 255 := rfl
        have m3 : IntKind.i64.min = -9223372036854775808 := rfl
        have m4 : IntKind.i64.max = 9223372036854775807 := rfl
        have w3' := w3
        simp only [Lit.wf, decide_eq_true_eq, Bool.and_eq_true] at w1 w2
        have hz : (((UInt8.ofNat z2.toNat).toNat : Nat) : Int) = z2 := by
          rw [UInt8.toNat_ofNat']
          omega
        refine ⟨⟨z0, z1, UInt8.ofNat z2.toNat, z3⟩, fun _ => ⟨⟨h0, h1, by rw [hz]; exact h2, h3⟩, ⟨w3', ?_⟩⟩⟩
        show z1 ≤ _; omega
      · exact ⟨default, fun h => absurd h hi⟩
    obtain ⟨f, hf⟩ := Classical.axiomOfChoice key
    refine ⟨_, (List.range len).map f, cap, by simp, by simpa using hl, hm, fun _ => ⟨b, off, rfl, hb, fun j hj => ?_⟩⟩
    have hj' : j < len := by simpa using hj
    have e1 : ((List.range len).map f).getD j default = f j := by simp [List.getD, hj']
    rw [e1]
    exact hf j hj'
end
/-- What a crash leaves, as the document's disk. -/
def GD.crash (d : Dsk) (picks : List Int) : GD := ⟨(d.crash picks).lasts.map pgStr, [], 0, 0, false, 0⟩
theorem Agree.crash (d : Dsk) (picks : List Int) : Agree (d.crash picks) (GD.crash d picks) := ⟨rfl, rfl, rfl, fun h => absurd rfl h, rfl, rfl⟩
end Go.Proofs.Ytogmbidjbagapaa
/- Layer 2: the document's New, where there is no such room. -/
namespace Go.Proofs.Ytogmbidjbagapaa
open Go.RowKit

set_option maxRecDepth 100000 in
set_option maxHeartbeats 1000000 in
theorem gnew_no (n : Int) (h : n < 2 ∨ 4096 < n) (w : World) :
    Calls Try.prog 9 #[.int .i64 n] w fun e w' => e = .returned (.tuple #[rv none 0 0 none 0 0 0 0 false 0, .bool false]) ∧ Below w.heap.size w w' := by
  obtain ⟨W, hW⟩ : ∃ W, w.alloc (.cells #[.slice none 0 0, .slice none 0 0, .int .i64 0, .int .i64 0, .bool false, .int .i64 0] 32) = W := ⟨_, rfl⟩
  have hrow := heap_alloc_new w (.cells #[.slice none 0 0, .slice none 0 0, .int .i64 0, .int .i64 0, .bool false, .int .i64 0] 32)
  rw [hW] at hrow
  have hb : Below w.heap.size w W := hW ▸ (Below.refl _ _).alloc (Nat.le_refl _) _
  have c00 := cell_of_row W w.heap.size 0 _ _ _ hrow; have f00 := frozen_of_row W w.heap.size 0 _ _ hrow
  have c01 := cell_of_row W w.heap.size 1 _ _ _ hrow; have f01 := frozen_of_row W w.heap.size 1 _ _ hrow
  have c02 := cell_of_row W w.heap.size 2 _ _ _ hrow; have f02 := frozen_of_row W w.heap.size 2 _ _ hrow
  have c03 := cell_of_row W w.heap.size 3 _ _ _ hrow; have f03 := frozen_of_row W w.heap.size 3 _ _ hrow
  have c04 := cell_of_row W w.heap.size 4 _ _ _ hrow; have f04 := frozen_of_row W w.heap.size 4 _ _ hrow
  have c05 := cell_of_row W w.heap.size 5 _ _ _ hrow; have f05 := frozen_of_row W w.heap.size 5 _ _ hrow
  simp only [List.getElem?_toArray, List.getElem?_cons_zero, List.getElem?_cons_succ] at c00 c01 c02 c03 c04 c05
  have HX := Lib.hid (And.intro hrow hb)
  clear hrow hb
  have h2 : n < 2 ∨ (¬ n < 2 ∧ 4096 < n) := by omega
  rcases h2 with h1 | ⟨h1, h2⟩
  all_goals
    clear h
    go_enter Try.func9, Try.ntmps9
    go_wp2
    obtain ⟨hrow, hb⟩ := HX.out
    refine bodyPost_ret (results_ref rfl _ _ _ _ _ _ rfl (set6_heap _ _ _ _ _ _ hrow) Try.underlying32 (by kernel_rfl)) rfl ?_
    exact ⟨rfl, hb.grown (set6_grown W w.heap.size _ _ _ _ _ _) hb.size (fun k e => by cases e; exact Nat.le_refl _)⟩
end Go.Proofs.Ytogmbidjbagapaa
/- Layer 2: the document's New, where there is such a room. -/
namespace Go.Proofs.Ytogmbidjbagapaa
open Go.RowKit

def nought : ByteArray := ⟨noughts.toArray⟩
theorem snoc_str (w : World) (ty : TypeId) (base : Nat) (hb : base ≤ w.heap.size) (v : Value) (ls : List ByteArray) (s : ByteArray) (hO : OwnS w base v ls) (hf : ls.length ≤ 5000) (g c : Nat) (hx : w.cell? ⟨g, 0, none⟩ = some (.string s)) :
    ∃ v' w', (Builtin.append_ #[29, 29] ty #[v, .slice (some ⟨g, 0, none⟩) 1 c]).run Try.prog w = .ok v' w' ∧ OwnS w' base v' (ls ++ [s]) ∧ w.grownBy w' v.ownBlock ∧ Below base w w' := by
  obtain ⟨i0, hi, hz0, hz1, hz2⟩ := info_parts infoStr
  obtain ⟨v', w', hr, h2, h3, -, -⟩ := run_append_own_at (P := Try.prog) w base 29 ty 9 i0 _ 1 16 Try.underlying29 hi hz0 hz1 hz2 rfl (by decide) v ls.length (ls.map .string) hO ⟨g, 0, none⟩ 1 c [.string s] rfl (fun j u hu => by
    have hj : j = 0 := by have := (List.getElem?_eq_some_iff.1 hu).1; simp at this; omega
    subst hj
    rw [addr_add]; simp at hu; subst hu; exact hx) (by simp [Value.oneCell']) (by unfold maxLen; omega) (by omega) hb
  exact ⟨v', w', hr, by unfold OwnS; simpa using h2, h3, (Below.refl _ _).grown h3 hb (fun k e => (World.ownsRow.lt hO k e).1)⟩
/-- While the pages are made. -/
structure NwI (w wr : World) (Wn : Nat) (v : Value) (ls : List ByteArray) : Prop where
  row : OwnS wr Wn v ls
  one : wr.heap[w.heap.size]? = some (.cells #[.slice none 0 0, .slice none 0 0, .int .i64 0, .int .i64 0, .bool false, .int .i64 0] 32 (0, 0))
  two : wr.heap[w.heap.size + 1]? = some (.cells #[v, .slice none 0 0, .int .i64 0, .int .i64 0, .bool false, .int .i64 0] 32 (0, 0))
  bel : Below w.heap.size w wr
  far : w.heap.size + 1 < Wn
  le : Wn ≤ wr.heap.size
set_option maxRecDepth 100000 in
set_option maxHeartbeats 4000000 in
theorem gnew_yes (n : Nat) (h1 : 2 ≤ n) (h2 : n ≤ 4096) (w : World) :
    Calls Try.prog 9 #[.int .i64 n] w fun e w' => ∃ la lc, e = .returned (.tuple #[gv la lc none 0 ⟨List.replicate n nought, [], 0, 0, false, 0⟩, .bool true]) ∧ IsG w'.heap.size w' la lc none 0 ⟨List.replicate n nought, [], 0, 0, false, 0⟩ ∧ Below w.heap.size w w' := by
  obtain ⟨W1, hW1⟩ : ∃ W, (w.alloc (.cells #[.slice none 0 0, .slice none 0 0, .int .i64 0, .int .i64 0, .bool false, .int .i64 0] 32)).alloc (.cells #[.slice none 0 0, .slice none 0 0, .int .i64 0, .int .i64 0, .bool false, .int .i64 0] 32) = W := ⟨_, rfl⟩
  have hs1 : W1.heap.size = w.heap.size + 2 := by rw [← hW1]; simp
  have r0 : W1.heap[w.heap.size]? = some (.cells #[.slice none 0 0, .slice none 0 0, .int .i64 0, .int .i64 0, .bool false, .int .i64 0] 32 (0, 0)) := by
    rw [← hW1]; exact (Below.heap_alloc _ _ _ (by simp)).trans (heap_alloc_new w _)
  have r1 : W1.heap[w.heap.size + 1]? = some (.cells #[.slice none 0 0, .slice none 0 0, .int .i64 0, .int .i64 0, .bool false, .int .i64 0] 32 (0, 0)) := by
    rw [← hW1]; exact heap_alloc_new' w _ _
  have hb1 : Below w.heap.size w W1 := by rw [← hW1]; exact ((Below.refl _ w).alloc (Nat.le_refl _) _).alloc (by simp) _
  have HLe : Hid (2 ≤ n ∧ n ≤ 4096) := Lib.hid ⟨h1, h2⟩
  have g1 : ¬ (n : Int) < 2 := by omega
  have g2 : ¬ (4096 : Int) < n := by omega
  have c10 := cell_of_row W1 (w.heap.size + 1) 0 _ _ _ r1; have f10 := frozen_of_row W1 (w.heap.size + 1) 0 _ _ r1
  have c11 := cell_of_row W1 (w.heap.size + 1) 1 _ _ _ r1; have f11 := frozen_of_row W1 (w.heap.size + 1) 1 _ _ r1
  have c12 := cell_of_row W1 (w.heap.size + 1) 2 _ _ _ r1; have f12 := frozen_of_row W1 (w.heap.size + 1) 2 _ _ r1
  have c13 := cell_of_row W1 (w.heap.size + 1) 3 _ _ _ r1; have f13 := frozen_of_row W1 (w.heap.size + 1) 3 _ _ r1
  have c14 := cell_of_row W1 (w.heap.size + 1) 4 _ _ _ r1; have f14 := frozen_of_row W1 (w.heap.size + 1) 4 _ _ r1
  have c15 := cell_of_row W1 (w.heap.size + 1) 5 _ _ _ r1; have f15 := frozen_of_row W1 (w.heap.size + 1) 5 _ _ r1
  simp only [List.getElem?_toArray, List.getElem?_cons_zero, List.getElem?_cons_succ] at c10 c11 c12 c13 c14 c15
  have HX := Lib.hid (And.intro r0 (And.intro r1 (And.intro hb1 hs1)))
  clear h1 h2 r0 r1 hb1 hs1
  go_enter Try.func9, Try.ntmps9
  go_upto_region 4 with (fail)
  have hr1 := set6_heap (.slice none 0 0) (.slice none 0 0) (.int .i64 0) (.int .i64 0) (.bool false) (.int .i64 0) HX.out.2.1
  have hg := set6_grown W1 (w.heap.size + 1) (.slice none 0 0) (.slice none 0 0) (.int .i64 0) (.int .i64 0) (.bool false) (.int .i64 0)
  have hs1 := HX.out.2.2.2
  have hr0 := (hg.block w.heap.size (by omega) (by simp)).trans HX.out.1
  have hb := HX.out.2.2.1.grown hg HX.out.2.2.1.size (fun k e => by cases e; omega)
  have hs3 := hg.size
  clear hg c10 c11 c12 c13 c14 c15 f10 f11 f12 f13 f14 f15 hW1
  revert hr1 hr0 hb hs3
  generalize ((((((W1.setCell ⟨w.heap.size + 1, 0, none⟩ (.slice none 0 0)).setCell ⟨w.heap.size + 1, 1, none⟩ (.slice none 0 0)).setCell ⟨w.heap.size + 1, 2, none⟩ (.int .i64 0)).setCell ⟨w.heap.size + 1, 3, none⟩ (.int .i64 0)).setCell ⟨w.heap.size + 1, 4, none⟩ (.bool false)).setCell ⟨w.heap.size + 1, 5, none⟩ (.int .i64 0)) = W3
  intro hr1 hr0 hb hs3
  have hmk : (Instr.makeSlice 40 (.int .i64 256) (.int .i64 256)).run Try.prog W3 = .ok (.slice (some ⟨W3.heap.size, 0, none⟩) 256 256) (W3.alloc (.cells (byteVals noughts).toArray 5)) := make40 W3 256 (by omega)
  obtain ⟨W4, hW4⟩ : ∃ W4, W3.alloc (.cells (byteVals noughts).toArray 5) = W4 := ⟨_, rfl⟩
  have hb4 : Below W3.heap.size W3 W4 := by rw [← hW4]; exact (Below.refl _ _).alloc (Nat.le_refl _) _
  have hcv : (convert 40 9 (.slice (some ⟨W3.heap.size, 0, none⟩) 256 256)).run Try.prog W4 = .ok (.string nought) W4 := by
    have hq : BytesAt (W3.heap.size + 1) W4 (some ⟨W3.heap.size, 0, none⟩) noughts := fun _ => ⟨_, 0, rfl, by omega, fun j hj => by
      rw [Nat.zero_add, ← hW4, cell_of_row _ W3.heap.size j _ _ _ (heap_alloc_new W3 _)]
      simp [byteVals, hj]⟩
    have := conv_at W4 (some ⟨W3.heap.size, 0, none⟩) noughts 256 _ hq
    rwa [noughts_len] at this
  rw [hW4] at hmk
  have HI : Hid (NwI w W4 W4.heap.size (.slice none 0 0) []) := Lib.hid ⟨World.ownsRow_nil _ _ _ _, (hb4.block _ (by omega)).trans hr0, (hb4.block _ (by omega)).trans hr1, hb.trans (hb4.mono (by omega)), by have := hb4.size; omega, Nat.le_refl _⟩
  clear hr1 hr0 hb hs3 hb4 hW4 hs1 HX
  obtain ⟨z, hz⟩ : ∃ z, nought = z := ⟨_, rfl⟩
  have HZ := Lib.hid hz
  rw [hz] at hcv
  clear hz
  obtain ⟨Wn, hWn⟩ : ∃ Wn, W4.heap.size = Wn := ⟨_, rfl⟩
  rw [hWn] at HI
  clear hWn
  go_wp2
  go_loopw [6, 17, 18, 19, 20, 21, 22, 23, 24, 25, 26, 27] (fun i _ _ _ _ _ _ _ _ _ _ _ wr => ∃ (k : Nat) (v : Value), i = .int .i64 k ∧ k ≤ n ∧ Hid (NwI w wr Wn v (List.replicate k z)))
    (fun i _ _ _ _ _ _ _ _ _ _ _ _ => n - (intOf i).toNat)
  case atStart => exact ⟨0, _, rfl, Nat.zero_le _, HI⟩
  case round =>
    clear HI
    obtain ⟨k, v, rfl, hk, HI⟩ := hrel
    obtain ⟨va, vc, hv⟩ : ∃ va vc, v = .slice va k vc := by
      have := HI.out.row.2
      rcases this with ⟨rfl, e⟩ | ⟨gl, cap, cur, rfl, _⟩
      · exact ⟨none, 0, by simp at e; rw [e]⟩
      · exact ⟨some ⟨gl, 0, none⟩, cap, by simp⟩
    subst hv
    have c10 := cell_of_row wr (w.heap.size + 1) 0 _ _ _ HI.out.two; have f10 := frozen_of_row wr (w.heap.size + 1) 0 _ _ HI.out.two
    simp only [List.getElem?_toArray, List.getElem?_cons_zero] at c10
    by_cases hlt : k < n
    · have hn4 : n ≤ 4096 := HLe.out.2
      go_wp2_with (at_builtin; refine stop_here ?_)
      refine Lib.hid ?_
      have hbz : Below wr.heap.size wr (wr.alloc (.cells #[.string z] 9)) := (Below.refl _ _).alloc (Nat.le_refl _) _
      have hOz : OwnS (wr.alloc (.cells #[.string z] 9)) Wn (.slice va k vc) (List.replicate k z) := World.ownsRow.kept HI.out.row (row := none) ⟨hbz.os, hbz.tape, hbz.output, hbz.size, fun i hi _ => hbz.block i hi⟩ (by cases (Value.slice va k vc).ownBlock <;> simp)
      obtain ⟨v', w', hr, hO', hg', hB'⟩ := snoc_str (wr.alloc (.cells #[.string z] 9)) 29 Wn (Nat.le_trans HI.out.le hbz.size) _ _ z hOz (by simp; omega) wr.heap.size 1 (cell_of_row _ wr.heap.size 0 _ _ _ (heap_alloc_new wr _))
      have hfar := HI.out.far
      have hle := HI.out.le
      have hw1 : Below wr.heap.size wr (wr.alloc (.cells #[.string z] 9)) := hbz
      have htwo : w'.heap[w.heap.size + 1]? = _ := (hB'.block (w.heap.size + 1) hfar).trans ((hbz.block _ (by omega)).trans HI.out.two)
      have hone : w'.heap[w.heap.size]? = _ := (hB'.block w.heap.size (by omega)).trans ((hbz.block _ (by omega)).trans HI.out.one)
      have hrep : List.replicate k z ++ [z] = List.replicate (k + 1) z := by rw [List.replicate_succ']
      rw [hrep] at hO'
      obtain ⟨va', vc', hv'⟩ : ∃ va' vc', v' = .slice va' (k + 1) vc' := by
        rcases hO'.2 with ⟨-, e⟩ | ⟨gl, cap, cur, e, _⟩
        · simp at e
        · exact ⟨some ⟨gl, 0, none⟩, cap, by simpa using e⟩
      subst hv'
      have hn0 : w.heap.size ≤ wr.heap.size := HI.out.bel.size
      have hbel : Below w.heap.size w w' := (HI.out.bel.trans (hbz.mono hn0)).trans (hB'.mono (by omega))
      have hI' : NwI w (w'.setCell ⟨w.heap.size + 1, 0, none⟩ (.slice va' (k + 1) vc')) Wn (.slice va' (k + 1) vc') (List.replicate (k + 1) z) := by
        have hg := one_grown w' ⟨w.heap.size + 1, 0, none⟩ (.slice va' (k + 1) vc')
        refine ⟨World.ownsRow.kept hO' hg (.inr fun e => ?_), (hg.block w.heap.size (Array.getElem?_eq_some_iff.1 hone).1 (by simp)).trans hone, heap_setCell_same w' (w.heap.size + 1) 0 _ _ (.slice va' (k + 1) vc') htwo, hbel.grown hg hbel.size (fun q e => by cases e; exact Nat.le_succ _), hfar, Nat.le_trans (Nat.le_trans hle hbz.size) (Nat.le_trans hg'.size hg.size)⟩
        have := (World.ownsRow.lt hO' _ e).1
        exact absurd (Nat.lt_of_lt_of_le hfar this) (Nat.lt_irrefl _)
      have c11 := cell_of_row w' (w.heap.size + 1) 0 _ _ _ htwo; have f11 := frozen_of_row w' (w.heap.size + 1) 0 _ _ htwo
      simp only [List.getElem?_toArray, List.getElem?_cons_zero] at c11
      have HI' := Lib.hid hI'
      refine wpList_append_val rfl rfl rfl rfl hr ?_
      clear hr hO' hg' hB' hbz hOz htwo hone hrep hbel hI' hw1 c10 f10 hfar hle hn0
      go_wp2
      exact ⟨⟨k + 1, _, by go_num, by omega, HI'⟩, by simp [intOf]; omega⟩
    · obtain rfl : k = n := by omega
      have hone := HI.out.one
      have htwo := HI.out.two
      have c20 := cell_of_row wr w.heap.size 0 _ _ _ hone; have f20 := frozen_of_row wr w.heap.size 0 _ _ hone
      have c21 := cell_of_row wr w.heap.size 1 _ _ _ hone; have f21 := frozen_of_row wr w.heap.size 1 _ _ hone
      have c22 := cell_of_row wr w.heap.size 2 _ _ _ hone; have f22 := frozen_of_row wr w.heap.size 2 _ _ hone
      have c23 := cell_of_row wr w.heap.size 3 _ _ _ hone; have f23 := frozen_of_row wr w.heap.size 3 _ _ hone
      have c24 := cell_of_row wr w.heap.size 4 _ _ _ hone; have f24 := frozen_of_row wr w.heap.size 4 _ _ hone
      have c25 := cell_of_row wr w.heap.size 5 _ _ _ hone; have f25 := frozen_of_row wr w.heap.size 5 _ _ hone
      have c11 := cell_of_row wr (w.heap.size + 1) 1 _ _ _ htwo
      have c12 := cell_of_row wr (w.heap.size + 1) 2 _ _ _ htwo
      have c13 := cell_of_row wr (w.heap.size + 1) 3 _ _ _ htwo
      have c14 := cell_of_row wr (w.heap.size + 1) 4 _ _ _ htwo
      have c15 := cell_of_row wr (w.heap.size + 1) 5 _ _ _ htwo
      simp only [List.getElem?_toArray, List.getElem?_cons_zero, List.getElem?_cons_succ] at c20 c21 c22 c23 c24 c25 c11 c12 c13 c14 c15
      clear hone htwo
      have HB := Lib.hid HI
      go_wp2
      refine bodyPost_ret (results_ref rfl _ _ _ _ _ _ rfl (set6_heap _ _ _ _ _ _ HB.out.out.one) Try.underlying32 (by kernel_rfl)) rfl ?_
      have hg := set6_grown wr w.heap.size (.slice va k vc) (.slice none 0 0) (.int .i64 0) (.int .i64 0) (.bool false) (.int .i64 0)
      have hO := HI.out.row
      have hO2 : OwnS _ Wn (.slice va k vc) (List.replicate k z) := World.ownsRow.kept hO hg (.inr fun e => by
        have := (World.ownsRow.lt hO _ e).1
        have := HI.out.far
        omega)
      refine ⟨va, vc, ?_, ?_, HI.out.bel.grown hg HI.out.bel.size (fun q e => by cases e; exact Nat.le_refl _)⟩
      · unfold gv rv; simp
      · rw [HZ.out]
        have hk5 : k ≤ 4096 := HLe.out.2
        obtain ⟨hlen, h⟩ := hO2
        rcases h with ⟨e, h0⟩ | ⟨gl, cap, cur, e, hb, hh, hn, hcap, hsz, htk⟩
        · have := HLe.out.1
          simp at h0
          omega
        · injection e with e1 e2 e3
          subst e1
          subst e3
          refine ⟨fun _ => ⟨gl, 0, rfl, (Array.getElem?_eq_some_iff.1 hh).1, ⟨cur, (0, 0), hh⟩, fun j u hu => ?_⟩, fun h => absurd rfl h, by simpa using hn, Nat.le_refl _, fun _ => rfl, fun h => (by cases h), by simp; omega⟩
          rw [Nat.zero_add, cell_of_row _ gl j _ _ _ hh]
          have h1 : (cur.toList.take ((List.replicate k z).length * 1))[j]? = some u := by rw [htk]; exact hu
          have hj : j < k := by have := (List.getElem?_eq_some_iff.1 hu).1; simpa using this
          rw [List.getElem?_take, if_pos (by simp; omega), Array.getElem?_toList] at h1
          exact h1
end Go.Proofs.Ytogmbidjbagapaa
/- Layer 2: the document's Crash. -/
namespace Go.Proofs.Ytogmbidjbagapaa
open Go.RowKit

/-- The pages while page p is torn, k sectors of it done. -/
def curP (ls : List Page) (ws : List (Nat × Page)) (picks : List Int) (p k : Nat) : List Page :=
  (List.range ls.length).map fun q => if q < p then crashPage ls ws picks q else if q = p then mix (picked (ls.getD q noughts :: wrote ws q) picks (4 * (tornPages ws q).length)) (ls.getD q noughts) k else ls.getD q noughts
theorem curP_len (ls : List Page) (ws : List (Nat × Page)) (picks : List Int) (p k : Nat) : (curP ls ws picks p k).length = ls.length := by simp [curP]
theorem curP_get (ls : List Page) (ws : List (Nat × Page)) (picks : List Int) (p k q : Nat) (hq : q < ls.length) : (curP ls ws picks p k)[q]? = some (if q < p then crashPage ls ws picks q else if q = p then mix (picked (ls.getD q noughts :: wrote ws q) picks (4 * (tornPages ws q).length)) (ls.getD q noughts) k else ls.getD q noughts) := by
  simp [curP, hq]
theorem pages_ext {a b : List Page} (h : a.length = b.length) (he : ∀ q, q < a.length → a[q]? = b[q]?) : a = b := by
  apply List.ext_getElem?
  intro q
  by_cases hq : q < a.length
  · exact he q hq
  · rw [List.getElem?_eq_none (by omega), List.getElem?_eq_none (by omega)]
theorem curP_zero {ls : List Page} {ws : List (Nat × Page)} {picks : List Int} (h : ∀ q, q < ls.length → (ls.getD q noughts).length = 256) : curP ls ws picks 0 0 = ls := by
  refine pages_ext (curP_len ..) (fun q hq => ?_)
  rw [curP_len] at hq
  rw [curP_get _ _ _ _ _ _ hq, if_neg (Nat.not_lt_zero _)]
  split
  · rw [mix_zero _ _ (h q hq)]; simp [List.getD, hq]
  · simp [List.getD, hq]
theorem curP_next {ls : List Page} {ws : List (Nat × Page)} {picks : List Int} (h : ∀ q, q < ls.length → (ls.getD q noughts).length = 256) (p : Nat) (ht : isTorn ws p = true) : curP ls ws picks p 4 = curP ls ws picks (p + 1) 0 := by
  refine pages_ext (by rw [curP_len, curP_len]) (fun q hq => ?_)
  rw [curP_len] at hq
  rw [curP_get _ _ _ _ _ _ hq, curP_get _ _ _ _ _ _ hq]
  congr 1
  by_cases h1 : q < p
  · rw [if_pos h1, if_pos (by omega)]
  rw [if_neg h1]
  by_cases h2 : q = p
  · subst h2
    rw [if_pos rfl, if_pos (by omega)]
    unfold crashPage
    rw [if_pos ht]
  · rw [if_neg h2, if_neg (by omega)]
    split
    · rw [mix_zero _ _ (h q hq)]
    · rfl
theorem curP_skip {ls : List Page} {ws : List (Nat × Page)} {picks : List Int} (h : ∀ q, q < ls.length → (ls.getD q noughts).length = 256) (p : Nat) (ht : isTorn ws p = false) : curP ls ws picks p 0 = curP ls ws picks (p + 1) 0 := by
  refine pages_ext (by rw [curP_len, curP_len]) (fun q hq => ?_)
  rw [curP_len] at hq
  rw [curP_get _ _ _ _ _ _ hq, curP_get _ _ _ _ _ _ hq]
  congr 1
  by_cases h1 : q < p
  · rw [if_pos h1, if_pos (by omega)]
  rw [if_neg h1]
  by_cases h2 : q = p
  · subst h2
    rw [if_pos rfl, if_pos (by omega), mix_zero _ _ (h q hq)]
    unfold crashPage
    rw [if_neg (by rw [ht]; decide)]
  · rw [if_neg h2, if_neg (by omega)]
    split
    · rw [mix_zero _ _ (h q hq)]
    · rfl
theorem curP_end (ls : List Page) (ws : List (Nat × Page)) (picks : List Int) (k : Nat) : curP ls ws picks ls.length k = (List.range ls.length).map (crashPage ls ws picks) := by
  refine pages_ext (by rw [curP_len]; simp) (fun q hq => ?_)
  rw [curP_len] at hq
  rw [curP_get _ _ _ _ _ _ hq, if_pos hq]
  simp [hq]
theorem curP_set {ls : List Page} {ws : List (Nat × Page)} {picks : List Int} {p k : Nat} (hp : p < ls.length) : (curP ls ws picks p k).set p (mix (picked (ls.getD p noughts :: wrote ws p) picks (4 * (tornPages ws p).length)) (ls.getD p noughts) (k + 1)) = curP ls ws picks p (k + 1) := by
  refine pages_ext (by rw [List.length_set, curP_len, curP_len]) (fun q hq => ?_)
  rw [List.length_set, curP_len] at hq
  rw [List.getElem?_set, curP_get _ _ _ _ _ _ hq, curP_get _ _ _ _ _ _ hq]
  by_cases h : p = q
  · subst h
    rw [if_pos rfl, if_pos (by rw [curP_len]; exact hp), if_neg (Nat.lt_irrefl _), if_pos rfl]
  · rw [if_neg h]
    congr 1
    by_cases h1 : q < p
    · rw [if_pos h1, if_pos h1]
    · rw [if_neg h1, if_neg h1, if_neg (fun e => h e.symm), if_neg (fun e => h e.symm)]
/-- A sector that is left as it is. -/
theorem mix_keep (m : Nat → Page) (base : Page) (k : Nat) (h : m k = base) : mix m base (k + 1) = mix m base k := by
  unfold mix
  refine List.map_congr_left fun i _ => ?_
  by_cases h1 : i / 64 < k
  · rw [if_pos h1, if_pos (by omega)]
  · rw [if_neg h1]
    by_cases h2 : i / 64 < k + 1
    · rw [if_pos h2, show i / 64 = k by omega, h]
    · rw [if_neg h2]
theorem pgStr_splice {c l : Page} {k : Nat} (hc : c.length = 256) : (pgStr c).extract 0 (64 * k) ++ (pgStr l).extract (64 * k) (64 * k + 64) ++ (pgStr c).extract (64 * k + 64) 256 = pgStr (splice c l k) := by
  have hx : ∀ (m : Page) (i j : Nat), (pgStr m).extract i j = pgStr ((m.take j).drop i) := fun m i j => by
    have : ((pgStr m).extract i j).data = (pgStr ((m.take j).drop i)).data := by
      rw [ByteArray.data_extract]
      unfold pgStr
      simp [List.extract_eq_take_drop, List.drop_take]
    cases h1 : (pgStr m).extract i j
    cases h2 : pgStr ((m.take j).drop i)
    rw [h1, h2] at this
    congr
  have ha : ∀ a b : Page, pgStr a ++ pgStr b = pgStr (a ++ b) := fun a b => by
    have : (pgStr a ++ pgStr b).data = (pgStr (a ++ b)).data := by
      rw [ByteArray.data_append]
      unfold pgStr
      simp
    cases h1 : (pgStr a ++ pgStr b)
    cases h2 : pgStr (a ++ b)
    rw [h1, h2] at this
    congr
  rw [hx, hx, hx, ha, ha]
  congr 1
  unfold splice
  rw [List.drop_zero, List.append_assoc, List.take_of_length_le (by omega : c.length ≤ 256), List.drop_take, show 64 * k + 64 - 64 * k = 64 by omega]
end Go.Proofs.Ytogmbidjbagapaa
/- Layer 2: the document's Crash: its walk. -/
namespace Go.Proofs.Ytogmbidjbagapaa
open Go.RowKit

/-- While pages are torn: the row of what is left, the three disks (as it came, the result, what is made). -/
structure CrI (w wr : World) (D gl cap L : Nat) (ls : List Page) (c0 : Array Value) : Prop where
  row : OwnS wr (w.heap.size + 2) (.slice (some ⟨gl, 0, none⟩) L cap) (ls.map pgStr)
  zero : wr.heap[w.heap.size]? = some (.cells c0 32 (0, 0))
  one : wr.heap[w.heap.size + 1]? = some (.cells #[.slice none 0 0, .slice none 0 0, .int .i64 0, .int .i64 0, .bool false, .int .i64 0] 32 (0, 0))
  two : wr.heap[D]? = some (.cells #[.slice (some ⟨gl, 0, none⟩) L cap, .slice none 0 0, .int .i64 0, .int .i64 0, .bool false, .int .i64 0] 32 (0, 0))
  bel : Below w.heap.size w wr
  ne : gl ≠ D
  far : w.heap.size + 2 ≤ gl ∧ w.heap.size + 2 ≤ D
theorem CrI.below {w wr wr' : World} {D gl cap L : Nat} {ls : List Page} {c0 : Array Value} (h : CrI w wr D gl cap L ls c0) (hb : Below wr.heap.size wr wr') : CrI w wr' D gl cap L ls c0 := by
  have b0 := (Array.getElem?_eq_some_iff.1 h.zero).1
  have b1 := (Array.getElem?_eq_some_iff.1 h.one).1
  have b2 := (Array.getElem?_eq_some_iff.1 h.two).1
  exact ⟨World.ownsRow.kept h.row (row := none) ⟨hb.os, hb.tape, hb.output, hb.size, fun i hi _ => hb.block i hi⟩ (by simp [Value.ownBlock]), (hb.block _ b0).trans h.zero, (hb.block _ b1).trans h.one, (hb.block _ b2).trans h.two, h.bel.trans (hb.mono h.bel.size), h.ne, h.far⟩
theorem OwnS.below {w w' : World} {base : Nat} {v : Value} {ls : List ByteArray} (h : OwnS w base v ls) (hb : Below w.heap.size w w') : OwnS w' base v ls :=
  World.ownsRow.kept h (row := none) ⟨hb.os, hb.tape, hb.output, hb.size, fun i hi _ => hb.block i hi⟩ (by cases v.ownBlock <;> simp)
theorem OwnS.slice {w : World} {base : Nat} {v : Value} {ls : List ByteArray} (h : OwnS w base v ls) {m : Nat} (hm : ls.length = m) : ∃ a c, v = .slice a m c := by
  rcases h.2 with ⟨rfl, e⟩ | ⟨gl, cap, cur, rfl, _⟩
  · exact ⟨none, 0, by rw [← hm, e]⟩
  · exact ⟨some ⟨gl, 0, none⟩, cap, by rw [hm]⟩
theorem CrI.set {w wr : World} {D gl cap L : Nat} {ls : List Page} {c0 : Array Value} (h : CrI w wr D gl cap L ls c0) (p : Nat) (pg : Page) : CrI w (wr.setCell ⟨gl, p, none⟩ (.string (pgStr pg))).drew D gl cap L (ls.set p pg) c0 := by
  have hg := one_grown wr ⟨gl, p, none⟩ (.string (pgStr pg))
  have hr := OwnS.set h.row p (pgStr pg)
  have hf := h.far
  refine ⟨?_, (hg.block w.heap.size (Array.getElem?_eq_some_iff.1 h.zero).1 (by simp; omega)).trans h.zero, (hg.block _ (Array.getElem?_eq_some_iff.1 h.one).1 (by simp; omega)).trans h.one, (hg.block _ (Array.getElem?_eq_some_iff.1 h.two).1 (by simp; exact h.ne.symm)).trans h.two, (h.bel.grown hg h.bel.size (fun q e => by cases e; exact Nat.le_trans (Nat.le_add_right _ 2) hf.1)).drew, h.ne, h.far⟩
  rw [List.map_set]
  exact World.ownsRow.drew hr
theorem str_lo (s : ByteArray) (k : Nat) (h : k ≤ s.size) (W : World) : (Instr.sliceAt 9 (.string s) none (some (.int .i64 k)) none).run Try.prog W = .ok (.string (s.extract 0 k)) W := by
  have h1 : (0 : Int) ≤ k := by omega
  have h2 : (k : Int) ≤ s.size := by omega
  simp [go_sem, h1, h2]
theorem str_mid (s : ByteArray) (k m : Nat) (hk : k ≤ m) (h : m ≤ s.size) (W : World) : (Instr.sliceAt 9 (.string s) (some (.int .i64 k)) (some (.int .i64 m)) none).run Try.prog W = .ok (.string (s.extract k m)) W := by
  have h1 : (0 : Int) ≤ k := by omega
  have h2 : (m : Int) ≤ s.size := by omega
  have h3 : (k : Int) ≤ m := by omega
  simp [go_sem, h1, h2, h3]
theorem str_hi (s : ByteArray) (k : Nat) (h : k ≤ s.size) (W : World) : (Instr.sliceAt 9 (.string s) (some (.int .i64 k)) none none).run Try.prog W = .ok (.string (s.extract k s.size)) W := by
  have h1 : (0 : Int) ≤ k := by omega
  have h2 : (k : Int) ≤ s.size := by omega
  simp [go_sem, h1, h2]
theorem picked_zero {ws : List (Nat × Page)} {base : Page} {picks : List Int} {p u k m : Nat} (hm : (wrote ws p).length = m) (h : pickOf (picks.getD (u + k) 0) (m + 1) = 0) : picked (base :: wrote ws p) picks u k = base := by
  unfold picked
  rw [List.length_cons, hm, h]; rfl
theorem picked_pos {ws : List (Nat × Page)} {base : Page} {picks : List Int} {p u k m q : Nat} (hm : (wrote ws p).length = m) (h : pickOf (picks.getD (u + k) 0) (m + 1) = q + 1) : picked (base :: wrote ws p) picks u k = (wrote ws p).getD q noughts := by
  unfold picked
  rw [List.length_cons, hm, h]; rfl
theorem curP_keep {ls : List Page} {ws : List (Nat × Page)} {picks : List Int} {p k : Nat} (hp : p < ls.length) (h : picked (ls.getD p noughts :: wrote ws p) picks (4 * (tornPages ws p).length) k = ls.getD p noughts) : curP ls ws picks p (k + 1) = curP ls ws picks p k := by
  rw [← curP_set hp, mix_keep _ _ _ h]
  refine pages_ext (by rw [List.length_set]) (fun q hq => ?_)
  rw [List.length_set, curP_len] at hq
  rw [List.getElem?_set]
  by_cases e : p = q
  · subst e
    rw [if_pos rfl, if_pos (by rw [curP_len]; exact hp), curP_get _ _ _ _ _ _ hp, if_neg (Nat.lt_irrefl _), if_pos rfl]
  · rw [if_neg e]
end Go.Proofs.Ytogmbidjbagapaa
/- Layer 2: the document's Crash: its walk. -/
namespace Go.Proofs.Ytogmbidjbagapaa
open Go.RowKit

set_option maxRecDepth 100000 in
set_option maxHeartbeats 8000000 in
theorem gcrash_any {w : World} {la wa : Option Addr} {lc wcp : Nat} {g : GD} {d : Dsk} (hG : IsG w.heap.size w la lc wa wcp g) (hA : Agree d g) (ok : d.Ok) (hwn : d.waits.length ≤ 1000) (sv : Value) (picks : List Int) (hp : PickV w w.heap.size sv picks) (hpl0 : picks.length ≤ 1000000) :
    Calls Try.prog 14 #[gv la lc wa wcp g, sv] w fun e w' => ∃ la' lc', e = .returned (gv la' lc' none 0 ⟨(d.crash picks).lasts.map pgStr, [], 0, 0, false, 0⟩) ∧ IsG w'.heap.size w' la' lc' none 0 ⟨(d.crash picks).lasts.map pgStr, [], 0, 0, false, 0⟩ ∧ Below w.heap.size w w' := by
  have hpl := hpl0
  clear hpl0
  obtain ⟨L, hL⟩ : ∃ L, g.lasts.length = L := ⟨_, rfl⟩
  obtain ⟨n, hn⟩ : ∃ n, g.waits.length = n := ⟨_, rfl⟩
  have hgv : gv la lc wa wcp g = .agg #[.slice la L lc, .slice wa n wcp, .int .i64 g.k, .int .i64 g.l, .bool g.b, .int .i64 g.s] := by unfold gv rv; rw [hL, hn]
  rw [hgv]
  have hLd : d.lasts.length = L := by rw [← hL, hA.lasts, List.length_map]
  have hnd : d.waits.length = n := by rw [← hn, hA.waits, List.length_map]
  obtain ⟨pa, pc, rfl, hpc, hpcs⟩ := hp
  obtain ⟨P, hP⟩ : ∃ P, picks.length = P := ⟨_, rfl⟩
  rw [hP] at hpl ⊢
  have hn1k : n ≤ 1000 := by rw [← hnd]; exact hwn
  have hLk : 2 ≤ L ∧ L ≤ 4096 := by rw [← hLd]; exact ⟨ok.lo, ok.hi⟩
  obtain ⟨W1, hW1⟩ : ∃ W, ((w.alloc (.cells #[.slice la L lc, .slice wa n wcp, .int .i64 g.k, .int .i64 g.l, .bool g.b, .int .i64 g.s] 32)).alloc (.cells #[.slice none 0 0, .slice none 0 0, .int .i64 0, .int .i64 0, .bool false, .int .i64 0] 32)) = W := ⟨_, rfl⟩
  have hs1 : W1.heap.size = w.heap.size + 2 := by rw [← hW1]; simp
  have r0 : W1.heap[w.heap.size]? = some (.cells #[.slice la L lc, .slice wa n wcp, .int .i64 g.k, .int .i64 g.l, .bool g.b, .int .i64 g.s] 32 (0, 0)) := by
    rw [← hW1]; exact (Below.heap_alloc _ _ _ (by simp)).trans (heap_alloc_new w _)
  have r1 : W1.heap[w.heap.size + 1]? = some (.cells #[.slice none 0 0, .slice none 0 0, .int .i64 0, .int .i64 0, .bool false, .int .i64 0] 32 (0, 0)) := by
    rw [← hW1]; exact heap_alloc_new' w _ _
  have hb1 : Below w.heap.size w W1 := by rw [← hW1]; exact ((Below.refl _ w).alloc (Nat.le_refl _) _).alloc (by simp) _
  have c00 := cell_of_row W1 w.heap.size 0 _ _ _ r0
  have c01 := cell_of_row W1 w.heap.size 1 _ _ _ r0
  simp only [List.getElem?_toArray, List.getElem?_cons_zero, List.getElem?_cons_succ] at c00 c01
  have HG := Lib.hid (And.intro hG (And.intro hA (And.intro ok (And.intro hpcs (And.intro hL (And.intro hn (And.intro hLd (And.intro hnd hP))))))))
  have HX := Lib.hid (And.intro r0 (And.intro r1 (And.intro hb1 hs1)))
  clear hG hA ok hpcs hL hn hLd hnd hP r0 r1 hb1 hs1 hgv
  go_enter Try.func14, Try.ntmps14
  go_wp2_with (at_builtin; refine stop_here ?_)
  refine Lib.hid ?_
  have hs1 := HX.out.2.2.2
  obtain ⟨u, w4, hrun, hO, hb4⟩ := copy_lasts W1 29 (w.heap.size + 2) (by omega) la lc g.lasts HG.out.1.lnone HG.out.1.lle HG.out.1.fewl ((HG.out.1.lasts.below HX.out.2.2.1).mono HX.out.2.2.1.size)
  rw [HG.out.2.2.2.2.1] at hrun
  obtain ⟨gl, uc, rfl⟩ : ∃ gl uc, u = .slice (some ⟨gl, 0, none⟩) L uc := by
    rcases hO.2 with ⟨rfl, e⟩ | ⟨gl, cap, cur, rfl, _⟩
    · rw [HG.out.2.2.2.2.1] at e; omega
    · exact ⟨gl, cap, by rw [HG.out.2.2.2.2.1]⟩
  have hgl := World.ownsRow.lt hO gl rfl
  obtain ⟨W5, hW5⟩ : ∃ W5, w4.alloc (.cells #[.slice none 0 0, .slice none 0 0, .int .i64 0, .int .i64 0, .bool false, .int .i64 0] 32) = W5 := ⟨_, rfl⟩
  have r5 := heap_alloc_new w4 (.cells #[.slice none 0 0, .slice none 0 0, .int .i64 0, .int .i64 0, .bool false, .int .i64 0] 32)
  have hb5 : Below w4.heap.size w4 W5 := by rw [← hW5]; exact (Below.refl _ _).alloc (Nat.le_refl _) _
  rw [hW5] at r5
  have hx1 := hb4.size
  have hq0 := (hb5.block _ (by omega)).trans ((hb4.block w.heap.size (by omega)).trans HX.out.1)
  have hq1 := (hb5.block _ (by omega)).trans ((hb4.block (w.heap.size + 1) (by omega)).trans HX.out.2.1)
  have hg := set6_grown W5 w4.heap.size (.slice (some ⟨gl, 0, none⟩) L uc) (.slice none 0 0) (.int .i64 0) (.int .i64 0) (.bool false) (.int .i64 0)
  have hb14 : Below w.heap.size w W5 := (HX.out.2.2.1.trans (hb4.mono (by omega))).trans (hb5.mono (by omega))
  have HI : Hid (CrI w ((((((W5.setCell ⟨w4.heap.size, 0, none⟩ (.slice (some ⟨gl, 0, none⟩) L uc)).setCell ⟨w4.heap.size, 1, none⟩ (.slice none 0 0)).setCell ⟨w4.heap.size, 2, none⟩ (.int .i64 0)).setCell ⟨w4.heap.size, 3, none⟩ (.int .i64 0)).setCell ⟨w4.heap.size, 4, none⟩ (.bool false)).setCell ⟨w4.heap.size, 5, none⟩ (.int .i64 0)) w4.heap.size gl uc L (curP d.lasts d.waits picks 0 0) #[.slice la L lc, .slice wa n wcp, .int .i64 g.k, .int .i64 g.l, .bool g.b, .int .i64 g.s]) := Lib.hid (by
    refine ⟨?_, (hg.block w.heap.size (Array.getElem?_eq_some_iff.1 hq0).1 (by simp; omega)).trans hq0, (hg.block _ (Array.getElem?_eq_some_iff.1 hq1).1 (by simp; omega)).trans hq1, set6_heap _ _ _ _ _ _ r5, hb14.grown hg hb14.size (fun q e => by cases e; omega), by omega, by omega, by omega⟩
    rw [curP_zero (fun q hq => HG.out.2.2.1.len q hq), ← HG.out.2.1.lasts]
    refine World.ownsRow.kept (World.ownsRow.kept hO (row := none) ⟨hb5.os, hb5.tape, hb5.output, hb5.size, fun i hi _ => hb5.block i hi⟩ (by simp [Value.ownBlock])) hg (.inr fun e => ?_)
    have e1 : some gl = some w4.heap.size := e
    injection e1 with e1
    omega)
  have c50 := cell_of_row W5 w4.heap.size 0 _ _ _ r5; have f50 := frozen_of_row W5 w4.heap.size 0 _ _ r5
  have c51 := cell_of_row W5 w4.heap.size 1 _ _ _ r5; have f51 := frozen_of_row W5 w4.heap.size 1 _ _ r5
  have c52 := cell_of_row W5 w4.heap.size 2 _ _ _ r5; have f52 := frozen_of_row W5 w4.heap.size 2 _ _ r5
  have c53 := cell_of_row W5 w4.heap.size 3 _ _ _ r5; have f53 := frozen_of_row W5 w4.heap.size 3 _ _ r5
  have c54 := cell_of_row W5 w4.heap.size 4 _ _ _ r5; have f54 := frozen_of_row W5 w4.heap.size 4 _ _ r5
  have c55 := cell_of_row W5 w4.heap.size 5 _ _ _ r5; have f55 := frozen_of_row W5 w4.heap.size 5 _ _ r5
  simp only [List.getElem?_toArray, List.getElem?_cons_zero, List.getElem?_cons_succ] at c50 c51 c52 c53 c54 c55
  refine wpList_append_val rfl rfl rfl rfl hrun ?_
  clear hrun hO hb4 hgl r5 hb5 hx1 hq0 hq1 hg hb14 hs1 c00 c01 hW1 HX
  go_upto_region 2 with (fail)
  clear c50 c51 c52 c53 c54 c55 f50 f51 f52 f53 f54 f55 hW5
  revert HI
  generalize ((((((W5.setCell ⟨w4.heap.size, 0, none⟩ (.slice (some ⟨gl, 0, none⟩) L uc)).setCell ⟨w4.heap.size, 1, none⟩ (.slice none 0 0)).setCell ⟨w4.heap.size, 2, none⟩ (.int .i64 0)).setCell ⟨w4.heap.size, 3, none⟩ (.int .i64 0)).setCell ⟨w4.heap.size, 4, none⟩ (.bool false)).setCell ⟨w4.heap.size, 5, none⟩ (.int .i64 0)) = W6
  generalize w4.heap.size = D
  intro HI
  go_wp2
  go_loopw [6, 7, 8, 9, 10, 11, 12, 17, 18, 19, 20, 21, 22, 23, 24, 25, 26, 27, 28, 29, 30, 31, 32, 33, 34, 35, 36, 37, 38, 39, 40, 41, 42, 43, 44, 45, 46, 47, 48, 49, 50, 51, 52, 53, 54, 55, 56, 57, 58, 59, 60, 61, 62, 63, 64, 65, 66, 67, 68, 69, 70, 71, 72, 73, 74, 75, 76, 77, 78, 79, 80, 81, 82, 83, 84, 85, 86, 87, 88, 89, 90, 91, 92, 93, 94, 95, 96, 97, 98, 99, 100, 101, 102, 103, 104, 105, 106, 107, 108, 109, 110] (fun y x _ _ _ _ _ _ _ _ _ _ _ _ _ _ _ _ _ _ _ _ _ _ _ _ _ _ _ _ _ _ _ _ _ _ _ _ _ _ _ _ _ _ _ _ _ _ _ _ _ _ _ _ _ _ _ _ _ _ _ _ _ _ _ _ _ _ _ _ _ _ _ _ _ _ _ _ _ _ _ _ _ _ _ _ _ _ _ _ _ _ _ _ _ _ _ _ _ _ _ wr => ∃ (p : Nat), x = .int .i64 p ∧ y = .int .i64 (4 * (tornPages d.waits p).length : Nat) ∧ p ≤ L ∧ Hid (CrI w wr D gl uc L (curP d.lasts d.waits picks p 0) #[.slice la L lc, .slice wa n wcp, .int .i64 g.k, .int .i64 g.l, .bool g.b, .int .i64 g.s]))
    (fun _ x _ _ _ _ _ _ _ _ _ _ _ _ _ _ _ _ _ _ _ _ _ _ _ _ _ _ _ _ _ _ _ _ _ _ _ _ _ _ _ _ _ _ _ _ _ _ _ _ _ _ _ _ _ _ _ _ _ _ _ _ _ _ _ _ _ _ _ _ _ _ _ _ _ _ _ _ _ _ _ _ _ _ _ _ _ _ _ _ _ _ _ _ _ _ _ _ _ _ _ _ => L - (intOf x).toNat)
  case atStart => exact ⟨0, rfl, rfl, Nat.zero_le _, HI⟩
  case round =>
    clear HI
    obtain ⟨p, rfl, rfl, hp, HI⟩ := hrel
    have c00 := cell_of_row wr w.heap.size 0 _ _ _ HI.out.zero
    have c01 := cell_of_row wr w.heap.size 1 _ _ _ HI.out.zero
    simp only [List.getElem?_toArray, List.getElem?_cons_zero, List.getElem?_cons_succ] at c00 c01
    by_cases hlt : p < L
    · have HW : Hid ((tornPages d.waits p).length ≤ p) := Lib.hid (by unfold tornPages; have := List.length_filter_le (isTorn d.waits) (List.range p); simpa using this)
      obtain ⟨tn, htn⟩ : ∃ tn, (tornPages d.waits p).length = tn := ⟨_, rfl⟩
      have HTN := Lib.hid htn
      rw [htn] at HW ⊢
      clear htn
      obtain ⟨us, hus⟩ : ∃ us, 4 * tn = us := ⟨_, rfl⟩
      have HUS := Lib.hid hus
      have hus4 : us ≤ 20000 := by have := HW.out; omega
      rw [hus]
      clear hus
      go_wp2
      obtain ⟨S, hS⟩ : ∃ S, wr.heap.size = S := ⟨_, rfl⟩
      have HS := Lib.hid hS
      clear hS
      obtain ⟨ws, rfl⟩ : ∃ ws, ws = wr := ⟨_, rfl⟩
      clear c00 c01
      go_loopw [8, 9, 24, 25, 26, 27, 28, 29, 30, 31, 32, 33, 34, 35, 36, 37, 38, 39, 40, 41, 42, 43, 44, 45, 46, 47] (fun v x _ _ _ _ _ _ _ _ _ _ _ _ _ _ _ _ _ _ _ _ _ _ _ _ wr => ∃ (i : Nat), x = .int .i64 i ∧ i ≤ n ∧ Hid (OwnS wr S v ((wrote (d.waits.take i) p).map pgStr)) ∧ Hid (Below S ws wr))
        (fun _ x _ _ _ _ _ _ _ _ _ _ _ _ _ _ _ _ _ _ _ _ _ _ _ _ _ => n - (intOf x).toNat)
      case atStart => exact ⟨0, rfl, Nat.zero_le _, Lib.hid (World.ownsRow_nil _ _ _ _), Lib.hid (Below.refl _ _)⟩
      case round =>
        obtain ⟨i, rfl, hi, HO, HB⟩ := hrel
        have HC : Hid (CrI w wr D gl uc L (curP d.lasts d.waits picks p 0) #[.slice la L lc, .slice wa n wcp, .int .i64 g.k, .int .i64 g.l, .bool g.b, .int .i64 g.s]) := Lib.hid (HI.out.below (by rw [HS.out]; exact HB.out))
        have c00 := cell_of_row wr w.heap.size 0 _ _ _ HC.out.zero
        have c01 := cell_of_row wr w.heap.size 1 _ _ _ HC.out.zero
        simp only [List.getElem?_toArray, List.getElem?_cons_zero, List.getElem?_cons_succ] at c00 c01
        obtain ⟨m, hm⟩ : ∃ m, (wrote (d.waits.take i) p).length = m := ⟨_, rfl⟩
        have HM := Lib.hid hm
        obtain ⟨va, vc, hv⟩ := HO.out.slice (m := m) (by rw [List.length_map]; exact hm)
        subst hv
        clear hm
        by_cases hlt2 : i < n
        · obtain ⟨x, hx⟩ : ∃ x, d.waits[i]? = some x := ⟨d.waits[i]'(by have := HG.out.2.2.2.2.2.2.2.1; omega), List.getElem?_eq_getElem _⟩
          have hgx : g.waits[i]? = some (wtStr x) := by rw [HG.out.2.1.waits, List.getElem?_map, hx]; rfl
          obtain ⟨w0, w1⟩ := wtsCells_get hgx
          obtain ⟨b, off, rfl, hblt, -, hcw⟩ := (HG.out.1.waits.below HC.out.bel) (by intro e; rw [e] at w0; simp at w0)
          have cw0 := hcw _ _ w0
          have cw1 := hcw _ _ w1
          rw [← Nat.add_assoc] at cw1
          have HT : Hid (wrote (d.waits.take (i + 1)) p = if x.1 = p then wrote (d.waits.take i) p ++ [x.2] else wrote (d.waits.take i) p) := Lib.hid (by rw [List.take_add_one, hx, Option.toList_some, wrote_snoc])
          have hx1 : (wtStr x).1 = (x.1 : Int) := rfl
          have hx2 : (wtStr x).2 = pgStr x.2 := rfl
          rw [hx1] at cw0
          rw [hx2] at cw1
          obtain ⟨q, hq⟩ : ∃ q, x.1 = q := ⟨_, rfl⟩
          obtain ⟨pg, hpg⟩ : ∃ pg, x.2 = pg := ⟨_, rfl⟩
          rw [hq] at cw0 HT
          rw [hpg] at cw1 HT
          clear hcw w0 w1 hgx hx hx1 hx2 hq hpg
          by_cases hqp : q = p
          · subst hqp
            rw [if_pos rfl] at HT
            go_wp2_with (at_builtin; refine stop_here ?_)
            refine Lib.hid ?_
            have hbz : Below wr.heap.size wr (wr.alloc (.cells #[.string (pgStr pg)] 9)) := (Below.refl _ _).alloc (Nat.le_refl _) _
            have hSw : S ≤ wr.heap.size := by have := HB.out.size; have := HS.out; omega
            obtain ⟨v', w', hr, hO', hg', hB'⟩ := snoc_str (wr.alloc (.cells #[.string (pgStr pg)] 9)) 29 S (Nat.le_trans hSw hbz.size) _ _ (pgStr pg) (HO.out.below hbz) (by
              rw [List.length_map, HM.out]
              have h1 : (wrote (d.waits.take i) q).length ≤ (d.waits.take i).length := by unfold wrote; rw [List.length_map]; exact List.length_filter_le _ _
              rw [HM.out, List.length_take] at h1
              omega) wr.heap.size 1 (cell_of_row _ wr.heap.size 0 _ _ _ (heap_alloc_new wr _))
            have HO' : Hid (OwnS w' S v' ((wrote (d.waits.take (i + 1)) q).map pgStr)) := Lib.hid (by rw [HT.out, List.map_append]; exact hO')
            have HB' : Hid (Below S ws w') := Lib.hid ((HB.out.trans (hbz.mono hSw)).trans hB')
            obtain ⟨m', hm'⟩ : ∃ m', (List.map pgStr (wrote (d.waits.take (i + 1)) q)).length = m' := ⟨_, rfl⟩
            obtain ⟨va', vc', hv'⟩ := HO'.out.slice hm'
            subst hv'
            clear hm'
            refine wpList_append_val rfl rfl rfl rfl hr ?_
            clear hr hO' hg' hB' hbz hSw c00 c01 cw0 cw1
            go_wp2
            exact ⟨⟨i + 1, by go_num, by omega, HO', HB'⟩, by simp [intOf]; omega⟩
          · have hqp2 : ((q : Int) == p) = false := by simp; omega
            have HT2 : Hid (wrote (d.waits.take (i + 1)) p = wrote (d.waits.take i) p) := Lib.hid (by rw [HT.out, if_neg hqp])
            clear hqp HT
            go_wp2
            go_roundw
            case rel => exact ⟨i + 1, by go_num, by omega, Lib.hid (by rw [HT2.out]; exact HO.out), HB⟩
            case measure => simp [intOf]; omega
        · obtain rfl : n = i := by omega
          have HWr : Hid (OwnS wr S (.slice va m vc) ((wrote d.waits p).map pgStr)) := Lib.hid (by
            have := HO.out
            rwa [List.take_of_length_le (by rw [HG.out.2.2.2.2.2.2.2.1]; exact Nat.le_refl _)] at this)
          have HMl : Hid ((wrote d.waits p).length = m) := Lib.hid (by
            have := HM.out
            rwa [List.take_of_length_le (by rw [HG.out.2.2.2.2.2.2.2.1]; exact Nat.le_refl _)] at this)
          have hm1k : m ≤ 1000 := by
            have h1 : (wrote d.waits p).length ≤ d.waits.length := by unfold wrote; rw [List.length_map]; exact List.length_filter_le _ _
            rw [HMl.out] at h1
            omega
          obtain ⟨wb, rfl⟩ : ∃ wb, wb = wr := ⟨_, rfl⟩
          clear HM HO HB
          go_wp2
          clear c00 c01
          go_loopw [6, 10, 11, 12, 48, 49, 50, 51, 52, 53, 54, 55, 56, 57, 58, 59, 60, 61, 62, 63, 64, 65, 66, 67, 68, 69, 70, 71, 72, 73, 74, 75, 76, 77, 78, 79, 80, 81, 82, 83, 84, 85, 86, 87, 88, 89, 90, 91, 92, 93, 94, 95, 96, 97, 98, 99, 100, 101, 102, 103, 104, 105, 106, 107, 108, 109, 110] (fun y x _ _ _ _ _ _ _ _ _ _ _ _ _ _ _ _ _ _ _ _ _ _ _ _ _ _ _ _ _ _ _ _ _ _ _ _ _ _ _ _ _ _ _ _ _ _ _ _ _ _ _ _ _ _ _ _ _ _ _ _ _ _ _ _ _ wr => ∃ (k : Nat), x = .int .i64 k ∧ y = .int .i64 (us + k : Nat) ∧ k ≤ 4 ∧ (m = 0 → k = 0) ∧ Hid (CrI w wr D gl uc L (curP d.lasts d.waits picks p k) #[.slice la L lc, .slice wa n wcp, .int .i64 g.k, .int .i64 g.l, .bool g.b, .int .i64 g.s]) ∧ Hid (OwnS wr S (.slice va m vc) ((wrote d.waits p).map pgStr)))
            (fun _ x _ _ _ _ _ _ _ _ _ _ _ _ _ _ _ _ _ _ _ _ _ _ _ _ _ _ _ _ _ _ _ _ _ _ _ _ _ _ _ _ _ _ _ _ _ _ _ _ _ _ _ _ _ _ _ _ _ _ _ _ _ _ _ _ _ _ => 4 - (intOf x).toNat)
          case atStart => exact ⟨0, rfl, rfl, Nat.zero_le _, fun _ => rfl, HC, HWr⟩
          case round =>
            clear HC HWr
            obtain ⟨k, rfl, rfl, hk, hk0, HC, HWr⟩ := hrel
            by_cases hgo : k < 4 ∧ 0 < m
            · obtain ⟨hk4, hm0⟩ := hgo
              clear hk0
              obtain ⟨q, hq⟩ : ∃ q, pickOf (picks.getD (us + k) 0) (m + 1) = q := ⟨_, rfl⟩
              have hqm : q < m + 1 := by rw [← hq]; exact pickOf_lt _ (by omega)
              have HQ := Lib.hid hq
              clear hq
              go_upto_if 60 with (fail)
              go_cut [11] (fun x wx => x = .int .i64 q ∧ wx = wr)
              case first =>
                by_cases hu : us + k < P
                · have hP := HG.out.2.2.2.2.2.2.2.2
                  obtain ⟨b, o, rfl, hbw, hbc⟩ := HG.out.2.2.2.1 (by intro e; rw [e] at hP; simp at hP; omega)
                  obtain ⟨z, hz⟩ : ∃ z, picks[us + k]? = some z := ⟨picks[us + k]'(by omega), List.getElem?_eq_getElem _⟩
                  have cz := (HC.out.bel.cell (p := ⟨b, o + (us + k), none⟩) hbw).trans (hbc _ _ hz)
                  have hzq : pickOf z (m + 1) = q := by rw [← HQ.out]; simp [List.getD, hz]
                  have t1 := Int.tmod_lt_of_pos z (show (0 : Int) < ((m + 1 : Nat) : Int) by omega)
                  have t2 := Int.lt_tmod_of_pos z (show (0 : Int) < ((m + 1 : Nat) : Int) by omega)
                  have t3 := @pick_pos z (m + 1) (by omega)
                  have t4 := @pick_neg z (m + 1) (by omega)
                  rw [hzq] at t3 t4
                  have hcm : ((m + 1 : Nat) : Int) = (m : Int) + 1 := by omega
                  rw [hcm] at t1 t2 t3 t4
                  obtain ⟨tt, htt⟩ : ∃ tt, z.tmod ((m : Int) + 1) = tt := ⟨_, rfl⟩
                  rw [htt] at t1 t2 t3 t4
                  clear hP hbc hz hzq hcm
                  by_cases hneg : tt < 0
                  · have h5 := t4 hneg
                    clear t3 t4
                    go_wp2_with fail
                    go_meet
                    case rel => exact ⟨by first | rfl | rw [show tt + (m : Int) + 1 = q by omega], rfl⟩
                  · have h5 := t3 (by omega)
                    clear t3 t4
                    go_wp2_with fail
                    go_meet
                    case rel => exact ⟨by first | rfl | rw [h5], rfl⟩
                · have hq0 : q = 0 := by
                    rw [← HQ.out]
                    have : picks.getD (us + k) 0 = 0 := by have := HG.out.2.2.2.2.2.2.2.2; simp [List.getD, List.getElem?_eq_none (show picks.length ≤ us + k by omega)]
                    rw [this]; exact pickOf_zero _
                  subst hq0
                  go_wp2_with fail
                  go_meet
                  case rel => exact ⟨rfl, rfl⟩
              case rest =>
                obtain ⟨rfl, rfl⟩ := hcut
                by_cases hq0 : q = 0
                · subst hq0
                  have HC' : Hid (CrI w wc D gl uc L (curP d.lasts d.waits picks p (k + 1)) #[.slice la L lc, .slice wa n wcp, .int .i64 g.k, .int .i64 g.l, .bool g.b, .int .i64 g.s]) := Lib.hid (by
                    rw [curP_keep (by rw [HG.out.2.2.2.2.2.2.1]; exact hlt) (picked_zero HMl.out (by rw [HTN.out, HUS.out]; exact HQ.out))]
                    exact HC.out)
                  go_wp2
                  exact ⟨⟨k + 1, by go_num, by go_num, by omega, fun h => absurd h (by omega), HC', HWr⟩, by simp [intOf]; omega⟩
                · obtain ⟨q', rfl⟩ : ∃ q', q = q' + 1 := ⟨q - 1, by omega⟩
                  have hLl : d.lasts.length = L := HG.out.2.2.2.2.2.2.1
                  have hbl : (d.lasts.getD p noughts).length = 256 := HG.out.2.2.1.len p (by show p < d.lasts.length; omega)
                  obtain ⟨gw, cw, ev⟩ : ∃ gw cw, (Value.slice va m vc) = .slice (some ⟨gw, 0, none⟩) m cw := by
                    rcases HWr.out.2 with ⟨e, e0⟩ | ⟨gw, cap, cur, e, _⟩
                    · rw [List.length_map, HMl.out] at e0; omega
                    · exact ⟨gw, cap, by rw [e, List.length_map, HMl.out]⟩
                  obtain ⟨rfl, rfl⟩ : va = some ⟨gw, 0, none⟩ ∧ vc = cw := by injection ev with e1 e2 e3; exact ⟨e1, e3⟩
                  obtain ⟨pw, hpw⟩ : ∃ pw, (wrote d.waits p)[q']? = some pw := ⟨(wrote d.waits p)[q']'(by rw [HMl.out]; omega), List.getElem?_eq_getElem _⟩
                  have hcw := World.ownsRow.cells HWr.out (g := gw) rfl q' _ (by rw [List.getElem?_map, List.getElem?_map, hpw]; rfl)
                  rw [addr_add, Nat.zero_add] at hcw
                  have hpl : pw.length = 256 := (HG.out.2.2.1.wait _ (wrote_mem (List.mem_of_getElem? hpw))).2
                  obtain ⟨pm, hpm⟩ : ∃ pm, mix (picked (d.lasts.getD p noughts :: wrote d.waits p) picks (4 * (tornPages d.waits p).length)) (d.lasts.getD p noughts) k = pm := ⟨_, rfl⟩
                  have hml : pm.length = 256 := by rw [← hpm]; exact mix_len _ _ _
                  have hgm : (curP d.lasts d.waits picks p k)[p]? = some pm := by rw [curP_get _ _ _ _ _ _ (by omega), if_neg (Nat.lt_irrefl _), if_pos rfl, hpm]
                  have hcm := World.ownsRow.cells HC.out.row (g := gl) rfl p _ (by rw [List.getElem?_map, List.getElem?_map, hgm]; rfl)
                  rw [addr_add, Nat.zero_add] at hcm
                  have hfz : wc.frozen? ⟨gl, p, none⟩ = false := by
                    rcases HC.out.row.2 with ⟨e, -⟩ | ⟨gl', cap, cur, e, -, hc, -⟩
                    · cases e
                    · injection e with e1; injection e1 with e1; injection e1 with e1; subst e1
                      exact frozen_of_row wc _ p _ _ hc
                  have hpk : picked (d.lasts.getD p noughts :: wrote d.waits p) picks (4 * (tornPages d.waits p).length) k = pw := by
                    rw [picked_pos (q := q') HMl.out (by rw [HTN.out, HUS.out]; exact HQ.out)]
                    simp [List.getD, hpw]
                  have hms := mix_succ (picked (d.lasts.getD p noughts :: wrote d.waits p) picks (4 * (tornPages d.waits p).length)) (d.lasts.getD p noughts) k hk4 (by rw [hpk]; exact hpl)
                  rw [hpk, hpm] at hms
                  have HC' : Hid (CrI w (wc.setCell ⟨gl, p, none⟩ (.string (pgStr (splice pm pw k)))).drew D gl uc L (curP d.lasts d.waits picks p (k + 1)) #[.slice la L lc, .slice wa n wcp, .int .i64 g.k, .int .i64 g.l, .bool g.b, .int .i64 g.s]) := Lib.hid (by
                    rw [← curP_set (by omega), hms]
                    exact HC.out.set p _)
                  have HWr' : Hid (OwnS (wc.setCell ⟨gl, p, none⟩ (.string (pgStr (splice pm pw k)))).drew S (.slice (some ⟨gw, 0, none⟩) m vc) ((wrote d.waits p).map pgStr)) := Lib.hid (World.ownsRow.drew (World.ownsRow.kept HWr.out (one_grown wc ⟨gl, p, none⟩ _) (.inr fun e => by
                    have := (World.ownsRow.lt HWr.out gw rfl).1
                    have e1 : some gw = some gl := e
                    injection e1 with e1
                    have h2 := (World.ownsRow.lt HI.out.row gl rfl).2
                    have h3 := HS.out
                    omega)))
                  have hsp := @pgStr_splice pm pw k hml
                  have hs1 : (pgStr pm).size = 256 := by show pm.toArray.size = 256; simp [hml]
                  have hs2 : (pgStr pw).size = 256 := by show pw.toArray.size = 256; simp [hpl]
                  have HSP := Lib.hid hsp
                  obtain ⟨d0, -⟩ : wc.cell? ⟨D, 0, none⟩ = some (.slice (some ⟨gl, 0, none⟩) L uc) ∧ True := ⟨cell_of_row wc D 0 _ _ _ HC.out.two, trivial⟩
                  clear hLl hbl ev hpw hpl hpm hml hgm hpk hms hsp
                  generalize pgStr pm = sA at hcm hs1 HSP
                  generalize pgStr pw = sB at hcw hs2 HSP
                  generalize pgStr (splice pm pw k) = sN at HC' HWr' HSP
                  have d0d : wc.drew.cell? ⟨D, 0, none⟩ = some (.slice (some ⟨gl, 0, none⟩) L uc) := d0
                  have hcwd : wc.drew.cell? ⟨gw, q', none⟩ = some (.string sB) := hcw
                  have hcmd : wc.drew.cell? ⟨gl, p, none⟩ = some (.string sA) := hcm
                  have hfzd : wc.drew.frozen? ⟨gl, p, none⟩ = false := hfz
                  obtain ⟨K, hK⟩ : ∃ K, 64 * k = K := ⟨_, rfl⟩
                  obtain ⟨K2, hK2⟩ : ∃ K2, K + 64 = K2 := ⟨_, rfl⟩
                  rw [hK, hK2] at HSP
                  have hxa := str_lo sA K (by omega)
                  have hxb := str_mid sB K K2 (by omega) (by omega)
                  have hxc := str_hi sA K2 (by omega)
                  rw [hs1] at hxc
                  have e3 : (K : Int) = 64 * (k : Int) := by omega
                  have e4 : (K2 : Int) = 64 * (k : Int) + 64 := by omega
                  rw [e3] at hxa hxb
                  rw [e4] at hxb hxc
                  have hq2 : q' < m := by omega
                  have hq3 : (q' : Int) < (m : Int) := by omega
                  have hq4 : IntKind.i64.wrap (q' : Int) = (q' : Int) := by rw [IntKind.wrap_i64]; omega
                  have hq5 : IntKind.i64.wrap ((q' : Int) + 1 - 1) = (q' : Int) := by rw [IntKind.wrap_i64]; omega
                  have hm1 : IntKind.i64.wrap (64 * (k : Int)) = 64 * (k : Int) := by rw [IntKind.wrap_i64]; omega
                  have hm2 : IntKind.i64.wrap (64 * (k : Int) + 64) = 64 * (k : Int) + 64 := by rw [IntKind.wrap_i64]; omega
                  obtain ⟨sx, hsx⟩ : ∃ s, sA.extract 0 K = s := ⟨_, rfl⟩
                  obtain ⟨sy, hsy⟩ : ∃ s, sB.extract K K2 = s := ⟨_, rfl⟩
                  obtain ⟨sz, hsz2⟩ : ∃ s, sA.extract K2 256 = s := ⟨_, rfl⟩
                  rw [hsx] at hxa HSP
                  rw [hsy] at hxb HSP
                  rw [hsz2] at hxc HSP
                  have hzx : sx.size ≤ 256 := by rw [← hsx, ByteArray.size_extract]; omega
                  have hzy : sy.size ≤ 256 := by rw [← hsy, ByteArray.size_extract]; omega
                  have hzz : sz.size ≤ 256 := by rw [← hsz2, ByteArray.size_extract]; omega
                  have hfin := HSP.out
                  clear hsx hsy hsz2 hs1 hs2 hK hK2 HSP e3 e4
                  go_wp2
                  go_wp2
                  have hcat1 : ¬ (9223372036854775807 : Int) < (sx.size : Int) + (sy.size : Int) := by omega
                  have hcat2 : ¬ (9223372036854775807 : Int) < (sx.size : Int) + (sy.size : Int) + (sz.size : Int) := by omega
                  have hcat3 : (sx.size : Int) + (sy.size : Int) ≤ (9223372036854775807 : Int) := by omega
                  have hcat4 : (sx.size : Int) + (sy.size : Int) + (sz.size : Int) ≤ (9223372036854775807 : Int) := by omega
                  go_region_with (fail)
                  all_goals go_wp2
                  all_goals exact ⟨⟨k + 1, by go_num, by go_num, by omega, fun h => absurd h (by omega), HC', HWr'⟩, by simp [intOf]; omega⟩
            · have HE : Hid (4 * (tornPages d.waits (p + 1)).length = us + k ∧ CrI w wr D gl uc L (curP d.lasts d.waits picks (p + 1) 0) #[.slice la L lc, .slice wa n wcp, .int .i64 g.k, .int .i64 g.l, .bool g.b, .int .i64 g.s]) := Lib.hid (by
                rw [tornPages_succ]
                by_cases ht : isTorn d.waits p = true
                · have hm0 : 0 < m := by
                    rw [← HMl.out]
                    exact List.length_pos_iff.2 (wrote_ne.2 ht)
                  obtain rfl : k = 4 := by omega
                  rw [if_pos ht, List.length_append, HTN.out]
                  refine ⟨by have := HUS.out; simp only [List.length_cons, List.length_nil]; omega, ?_⟩
                  rw [← curP_next (fun q hq => HG.out.2.2.1.len q hq) p ht]; exact HC.out
                · have hm0 : m = 0 := by
                    rw [← HMl.out]
                    have := mt wrote_ne.1 ht
                    simpa using this
                  obtain rfl : k = 0 := hk0 hm0
                  rw [if_neg ht, HTN.out]
                  refine ⟨HUS.out, ?_⟩
                  rw [← curP_skip (fun q hq => HG.out.2.2.1.len q hq) p (by simpa using ht)]; exact HC.out)
              clear HC HWr HW HTN HUS HMl hk0 hus4
              obtain ⟨uk, huk⟩ : ∃ uk, us + k = uk := ⟨_, rfl⟩
              rw [huk] at HE ⊢
              clear huk
              by_cases hk4 : k < 4
              · have hm0 : ¬ 0 < m := fun h => hgo ⟨hk4, h⟩
                have hm1 : ¬ (0 : Int) < (m : Int) := by omega
                clear hgo
                go_wp2
                go_roundw
                case rel => exact ⟨p + 1, by go_num, by rw [HE.out.1], by omega, Lib.hid HE.out.2⟩
                case measure => simp [intOf]; omega
              · have hk5 : ¬ (k : Int) < 4 := by omega
                clear hgo
                go_wp2
                go_roundw
                case rel => exact ⟨p + 1, by go_num, by rw [HE.out.1], by omega, Lib.hid HE.out.2⟩
                case measure => simp [intOf]; omega
    · obtain rfl : p = L := by omega
      have hone := HI.out.one
      have htwo := HI.out.two
      have c20 := cell_of_row wr (w.heap.size + 1) 0 _ _ _ hone; have f20 := frozen_of_row wr (w.heap.size + 1) 0 _ _ hone
      have c21 := cell_of_row wr (w.heap.size + 1) 1 _ _ _ hone; have f21 := frozen_of_row wr (w.heap.size + 1) 1 _ _ hone
      have c22 := cell_of_row wr (w.heap.size + 1) 2 _ _ _ hone; have f22 := frozen_of_row wr (w.heap.size + 1) 2 _ _ hone
      have c23 := cell_of_row wr (w.heap.size + 1) 3 _ _ _ hone; have f23 := frozen_of_row wr (w.heap.size + 1) 3 _ _ hone
      have c24 := cell_of_row wr (w.heap.size + 1) 4 _ _ _ hone; have f24 := frozen_of_row wr (w.heap.size + 1) 4 _ _ hone
      have c25 := cell_of_row wr (w.heap.size + 1) 5 _ _ _ hone; have f25 := frozen_of_row wr (w.heap.size + 1) 5 _ _ hone
      have c10 := cell_of_row wr D 0 _ _ _ htwo
      have c11 := cell_of_row wr D 1 _ _ _ htwo
      have c12 := cell_of_row wr D 2 _ _ _ htwo
      have c13 := cell_of_row wr D 3 _ _ _ htwo
      have c14 := cell_of_row wr D 4 _ _ _ htwo
      have c15 := cell_of_row wr D 5 _ _ _ htwo
      simp only [List.getElem?_toArray, List.getElem?_cons_zero, List.getElem?_cons_succ] at c20 c21 c22 c23 c24 c25 c10 c11 c12 c13 c14 c15
      clear hone htwo
      go_wp2
      refine bodyPost_ret (results_cell_row rfl _ _ _ _ _ _ _ rfl (set6_heap _ _ _ _ _ _ HI.out.one) Try.underlying32 rfl (by kernel_rfl)) rfl ?_
      have hg := set6_grown wr (w.heap.size + 1) (.slice (some ⟨gl, 0, none⟩) p uc) (.slice none 0 0) (.int .i64 0) (.int .i64 0) (.bool false) (.int .i64 0)
      have hend : curP d.lasts d.waits picks p 0 = (d.crash picks).lasts := by
        have h1 := curP_end d.lasts d.waits picks 0
        rw [HG.out.2.2.2.2.2.2.1] at h1
        rw [h1]
        show _ = (List.range d.lasts.length).map _
        rw [HG.out.2.2.2.2.2.2.1]
      have hlen : ((d.crash picks).lasts.map pgStr).length = p := by
        rw [List.length_map]
        show ((List.range d.lasts.length).map _).length = p
        rw [List.length_map, List.length_range, HG.out.2.2.2.2.2.2.1]
      have hO : OwnS _ _ _ _ := HI.out.row
      rw [hend] at hO
      have hO2 := World.ownsRow.kept hO hg (.inr fun e => by
        have := (World.ownsRow.lt hO _ e).1
        omega)
      refine ⟨some ⟨gl, 0, none⟩, uc, ?_, ?_, HI.out.bel.grown hg HI.out.bel.size (fun q e => by cases e; exact Nat.le_succ _)⟩
      · unfold gv rv; rw [hlen]; rfl
      · obtain ⟨hln, h⟩ := hO2
        rcases h with ⟨e, h0⟩ | ⟨gl', cap, cur, e, hb, hh, hn, hcap, hsz, htk⟩
        · cases e
        · injection e with e1 e2 e3
          injection e1 with e1
          injection e1 with e1
          subst e1
          subst e3
          refine ⟨fun _ => ⟨gl, 0, rfl, (Array.getElem?_eq_some_iff.1 hh).1, ⟨cur, (0, 0), hh⟩, fun j u hu => ?_⟩, fun h => absurd rfl h, by simpa using hn, Nat.le_refl _, fun _ => rfl, fun h => (by cases h), by rw [hlen]; omega⟩
          rw [Nat.zero_add, cell_of_row _ gl j _ _ _ hh]
          have h1 : (cur.toList.take (((d.crash picks).lasts.map pgStr).length * 1))[j]? = some u := by rw [htk]; exact hu
          have hj : j < p := by rw [← hlen]; have := (List.getElem?_eq_some_iff.1 hu).1; simpa using this
          rw [List.getElem?_take, if_pos (by rw [hlen]; omega), Array.getElem?_toList] at h1
          exact h1
end Go.Proofs.Ytogmbidjbagapaa
/- Layer 2: is a disk the document's? -/
namespace Go.Proofs.Ytogmbidjbagapaa
open Go.RowKit

section
variable {ops : Array Oper} {o : Oper} {i : Nat} {a : Act} {w : World} {K : Act → World → Prop} {Q : Exit → Act → World → Prop}
theorem wpOp_eqBB {x y : Operand} {n : Bool} (ho : ops[i]? = some o) (hg : Region.wanted o (yielded ops a.tmps) = true) (hop : o.op = .binOp .eql 4 x y 4) (hx : a.eval x = .bool n) (hy : a.eval y = .bool n) (hK : K (a.put o.dst (.bool true)) w) : wpOp Try.prog ops Q i K a w :=
  wpOp_val ho hg (by simp only [execOp, hop, hx, hy]; simp [go_sem]) hK
theorem wpOp_eqI64 {x y : Operand} {n m : Int} {c : Bool} (ho : ops[i]? = some o) (hg : Region.wanted o (yielded ops a.tmps) = true) (hop : o.op = .binOp .eql 2 x y 2) (hx : a.eval x = .int .i64 n) (hy : a.eval y = .int .i64 m) (hc : c = (n == m)) (hK : K (a.put o.dst (.bool c)) w) : wpOp Try.prog ops Q i K a w := by
  subst hc
  exact wpOp_val ho hg (by simp only [execOp, hop, hx, hy]; simp [go_sem]) hK
theorem wpOp_lenG {T : TypeId} {x : Operand} {ao : Option Addr} {n c : Nat} (hT : Try.prog.underlying T = some (.slice (Try.prog.elem T))) (ho : ops[i]? = some o) (hg : Region.wanted o (yielded ops a.tmps) = true) (hop : o.op = .call { callee := .builtin .len, args := #[x], argTypes := #[T] }) (hx : a.eval x = .slice ao n c) (hK : K (a.put o.dst (.int .i64 n)) w) : wpOp Try.prog ops Q i K a w :=
  wpOp_val (v := .int .i64 n) (w' := w) ho hg (by simp only [execOp, hop, resolve, invoke, Go.builtin, List.map_toArray, List.map_cons, List.map_nil, hx, Sem.run_bind, Sem.run_pure, Result.andThen_ok]; rw [run_len_slice w T o.type ao n c hT]; rfl) hK
end
theorem load_gd {w : World} {A : Nat} {cs : List Value} {fr : Nat × Nat} (h : w.heap[A]? = some (.cells cs.toArray 32 fr)) (hl : cs.length = 6) : (Instr.loadAt 32 (.pointer (some ⟨A, 0, none⟩))).run Try.prog w = .ok (.agg cs.toArray) w :=
  run_loadAt_mid w A 0 _ cs _ (fun j v hv => by rw [cell_of_row w A (0 + j) _ _ _ h, Nat.zero_add, List.getElem?_toArray]; exact hv) Try.underlying32 rfl (by rw [hl]; kernel_rfl)
theorem page_len256 {d : Dsk} (ok : d.Ok) (i : Nat) (hi : i < d.room) : (d.page i).length = 256 := by
  unfold Dsk.page
  cases h : newest d.waits i with
  | none => exact ok.len i hi
  | some l =>
    have key : ∀ (ws : List (Nat × Page)), (∀ x ∈ ws, x.2.length = 256) → ∀ l, newest ws i = some l → l.length = 256 := fun ws => by
      induction ws using snoc_ind with
      | h0 => intro _ l h; cases h
      | h1 t x ih =>
        intro hx l h
        rw [newest_snoc'] at h
        by_cases e : i = x.1
        · simp only [e, if_true, Option.some.injEq] at h
          rw [← h]; exact hx x (by simp)
        · have h : (if i = x.1 then some x.2 else newest t i) = some l := h
          rw [if_neg e] at h
          exact ih (fun y hy => hx y (by simp [hy])) l h
    exact key d.waits (fun x hx => (ok.wait x hx).2) l h
/-- What each operation of the statement that compares a page leaves. -/
def SpV (g : Nat) (G : Value) (i : Nat) (s : ByteArray) : Nat → Value → Prop
  | 0, v => v = .int .i64 0
  | 3, v => v = .slice (some ⟨g, 0, none⟩) 256 256
  | 4, v => v = .string s
  | 5, v => v = G
  | 6, v => v = .int .i64 i
  | 7, v => v = .string s
  | _, v => v = .bool false
/-- What each operation of the statement that compares the rest leaves. -/
def SrV (B A : Nat) (la : Option Addr) (L lc : Nat) (wa : Option Addr) (n wc : Nat) (b : Bool) (s : Int) : Nat → Value → Prop
  | 0, v => v = ptr B
  | 1, v => v = .int .i64 L
  | 2, v => v = .pointer (some ⟨A, 0, none⟩)
  | 3, v => v = .slice la L lc
  | 4, v => v = .int .i64 L
  | 7, v => v = ptr B
  | 8, v => v = .int .i64 n
  | 9, v => v = .pointer (some ⟨A, 1, none⟩)
  | 10, v => v = .slice wa n wc
  | 11, v => v = .int .i64 n
  | 15, v => v = ptr B
  | 16, v => v = .bool b
  | 17, v => v = .pointer (some ⟨A, 4, none⟩)
  | 18, v => v = .bool b
  | 22, v => v = ptr B
  | 23, v => v = .int .i64 s
  | 24, v => v = .pointer (some ⟨A, 5, none⟩)
  | 25, v => v = .int .i64 s
  | _, v => v = .bool true
set_option maxRecDepth 100000 in
set_option maxHeartbeats 4000000 in
theorem same_any {n₀ : Nat} {w : World} {B : Nat} {d : Dsk} {la wa : Option Addr} {lc wc : Nat} {g : GD} (hD : IsDisk n₀ w B d) (hG : IsG w.heap.size w la lc wa wc g) (hA : Agree d g) (hf : g.waits.length ≤ 1000000) :
    Calls Try.prog 11 #[ptr B, gv la lc wa wc g] w fun e w' => e = .returned (.bool true) ∧ Below w.heap.size w w' := by
  have hLL : g.lasts.length = d.room := by rw [hA.lasts, List.length_map]; rfl
  have hnn : g.waits.length = d.waits.length := by rw [hA.waits, List.length_map]
  have hpage := fun i (hi : i < d.room) => hA.page i hi
  have hgp := fun w' (hb : Below w.heap.size w w') i (hi : i < d.room) => gpage_any (w := w') w.heap.size hb.size (hG.below hb) hf i (by rw [hLL]; exact hi)
  obtain ⟨L, hL⟩ : ∃ L, d.room = L := ⟨_, rfl⟩
  obtain ⟨n, hn⟩ : ∃ n, d.waits.length = n := ⟨_, rfl⟩
  have hgv : gv la lc wa wc g = .agg #[.slice la L lc, .slice wa n wc, .int .i64 g.k, .int .i64 g.l, .bool g.b, .int .i64 g.s] := by unfold gv rv; rw [hLL, hL, hnn, hn]
  rw [hgv] at hgp ⊢
  rw [hL] at hgp
  have hb' := hA.b
  have hs' := hA.s
  rw [hb', hs'] at hgp ⊢
  obtain ⟨W, hW⟩ : ∃ W, w.alloc (.cells #[.slice la L lc, .slice wa n wc, .int .i64 g.k, .int .i64 g.l, .bool d.dead, .int .i64 d.steps] 32) = W := ⟨_, rfl⟩
  have hrow := heap_alloc_new w (.cells #[.slice la L lc, .slice wa n wc, .int .i64 g.k, .int .i64 g.l, .bool d.dead, .int .i64 d.steps] 32)
  rw [hW] at hrow
  have hb : Below w.heap.size w W := hW ▸ (Below.refl _ _).alloc (Nat.le_refl _) _
  have HPL := Lib.hid (fun i (hi : i < d.room) => page_len256 hD.ok i hi)
  have HL4 := Lib.hid (show L ≤ 4096 by have := hD.ok.hi; omega)
  have HD := Lib.hid (fun w' (h : Below w.heap.size w w') => hD.below h)
  have HG := Lib.hid (fun w' (h : Below W.heap.size W w') => hgp w' (hb.trans (h.mono hb.size)))
  have HX := Lib.hid (And.intro hb (And.intro hrow (And.intro hL (And.intro hn hpage))))
  clear hD hG hA hpage hgp hLL hnn hgv hb' hs' hb hf
  go_enter Try.func11, Try.ntmps11
  go_wp2
  go_loopw [5, 6, 7, 8, 9, 10, 11, 12, 13, 14, 15, 16, 17, 18, 19, 20, 21, 22, 23, 24, 25, 26, 27, 28, 29, 30] (fun x _ _ _ _ _ _ _ _ _ _ _ _ _ _ _ _ _ _ _ _ _ _ _ _ _ wr => ∃ j : Nat, j ≤ L ∧ x = .int .i64 j ∧ Below W.heap.size W wr) (fun x _ _ _ _ _ _ _ _ _ _ _ _ _ _ _ _ _ _ _ _ _ _ _ _ _ _ => L - (intOf x).toNat)
  case atStart => exact ⟨0, Nat.zero_le _, rfl, Below.refl _ _⟩
  case round =>
    obtain ⟨j, hj, rfl, hbr⟩ := hrel
    have hrowr := (hbr.block w.heap.size (Array.getElem?_eq_some_iff.1 HX.out.2.1).1).trans HX.out.2.1
    have q0 := cell_of_row wr w.heap.size 0 _ _ _ hrowr
    simp only [List.getElem?_toArray, List.getElem?_cons_zero] at q0
    have HR := Lib.hid (And.intro hbr hrowr)
    clear hbr hrowr
    by_cases hlt : j < L
    · have hjL : (j : Int) < (L : Int) := by omega
      go_wp2_with fail
      have hb0r : Below w.heap.size w wr := HX.out.1.trans (HR.out.1.mono HX.out.1.size)
      refine (read_yes (HD.out wr hb0r) j (by rw [HX.out.2.2.1]; exact hlt)).mono ?_
      rintro e w2 ⟨gg, rfl, hP, hgg, hb2⟩
      have H2 := Lib.hid (And.intro (HR.out.1.trans (hb2.mono HR.out.1.size)) (And.intro ((hb2.block w.heap.size (Array.getElem?_eq_some_iff.1 HR.out.2).1).trans HR.out.2) hP))
      clear hb0r hb2 hP q0
      go_wp2_with fail
      have hpj := HX.out.2.2.2.2 j (by rw [HX.out.2.2.1]; exact hlt)
      have hlt2 := (Array.getElem?_eq_some_iff.1 H2.out.2.1).1
      have hcv : ∀ w', Below w2.heap.size w2 w' → (convert 40 9 (.slice (some ⟨gg, 0, none⟩) 256 256)).run Try.prog w' = .ok (.string (pgStr (d.page j))) w' := fun w' hb => by
        have h := conv_bytes w' gg 0 (d.page j) 256 (PageAt.range ((hb.block gg (Array.getElem?_eq_some_iff.1 H2.out.2.2).1).trans H2.out.2.2))
        rw [HPL.out j (by rw [HX.out.2.2.1]; exact hlt)] at h
        exact h
      refine wp_region_m (fun _ w' => Below w2.heap.size w2 w') (fun k v _ => SpV gg (.agg #[.slice la L lc, .slice wa n wc, .int .i64 g.k, .int .i64 g.l, .bool d.dead, .int .i64 d.steps]) j (pgStr (d.page j)) k v) (by kernel_rfl) (by kernel_rfl) (by kernel_rfl) (by kernel_rfl) (Below.refl _ _).drew ?step5 ?fin5
      case step5 =>
       intro i o ho listed a' w' hI hn' hpre
       have hi : i < 10 := (Array.getElem?_eq_some_iff.1 ho).1
       have hB := hI.inv
       match i, hi with
       | 0, _ =>
        cases ho
        exact wpOp_move rfl rfl (.inl rfl) (hI.kept (t := 7) (by kernel_rfl)) ⟨_, rfl, hB, fun _ => rfl, fun _ _ _ h => h⟩
       | 1, _ =>
        cases ho
        have e0 : a'.eval (.tmp 21) = .int .i64 0 := hI.slot 0 21 rfl (hpre ⟨0, .data⟩ (by simp) rfl) rfl
        exact wpOp_neqE rfl rfl rfl e0 (m := 0) rfl ⟨_, rfl, hB, fun _ => rfl, fun _ _ _ h => h⟩
       | 2, _ =>
        cases ho
        exact wpOp_move rfl rfl (.inl rfl) (hI.slot 1 22 rfl (hpre ⟨1, .data⟩ (by simp) rfl) rfl) ⟨_, rfl, hB, fun _ => rfl, fun _ _ _ h => h⟩
       | 3, _ =>
        cases ho
        exact wpOp_move rfl (wantedOf (j := 2) (b := false) rfl rfl rfl (by rw [hI.len]; show _ < 59; decide) (hI.slot 2 23 rfl (hpre ⟨2, .guard⟩ (by simp) rfl) rfl)) (.inl rfl) (hI.kept (t := 6) (by kernel_rfl)) ⟨_, rfl, hB, fun _ => rfl, fun _ _ _ h => h⟩
       | 4, _ =>
        cases ho
        have e0 : a'.eval (.tmp 24) = .slice (some ⟨gg, 0, none⟩) 256 256 := hI.slot 3 24 rfl (hpre ⟨3, .data⟩ (by simp) rfl) rfl
        exact wpOp_conv rfl (wantedOf (j := 2) (b := false) rfl rfl rfl (by rw [hI.len]; show _ < 59; decide) (hI.slot 2 23 rfl (hpre ⟨2, .guard⟩ (by simp) rfl) rfl)) rfl e0 (hcv w' hB) ⟨_, rfl, hB, fun _ => rfl, fun _ _ _ h => h⟩
       | 5, _ =>
        cases ho
        exact wpOp_load rfl (wantedOf (j := 2) (b := false) rfl rfl rfl (by rw [hI.len]; show _ < 59; decide) (hI.slot 2 23 rfl (hpre ⟨2, .guard⟩ (by simp) rfl) rfl)) rfl (hI.kept (t := 3) (by kernel_rfl)) (load_gd ((hB.block w.heap.size hlt2).trans H2.out.2.1) rfl) ⟨_, rfl, hB, fun _ => rfl, fun _ _ _ h => h⟩
       | 6, _ =>
        cases ho
        exact wpOp_move rfl (wantedOf (j := 2) (b := false) rfl rfl rfl (by rw [hI.len]; show _ < 59; decide) (hI.slot 2 23 rfl (hpre ⟨2, .guard⟩ (by simp) rfl) rfl)) (.inl rfl) (hI.kept (t := 5) (by kernel_rfl)) ⟨_, rfl, hB, fun _ => rfl, fun _ _ _ h => h⟩
       | 7, _ =>
        cases ho
        have e0 : a'.eval (.tmp 26) = .agg #[.slice la L lc, .slice wa n wc, .int .i64 g.k, .int .i64 g.l, .bool d.dead, .int .i64 d.steps] := hI.slot 5 26 rfl (hpre ⟨5, .data⟩ (by simp) rfl) rfl
        have e1 : a'.eval (.tmp 27) = .int .i64 j := hI.slot 6 27 rfl (hpre ⟨6, .data⟩ (by simp) rfl) rfl
        have hC := HG.out w' (H2.out.1.trans (hB.mono H2.out.1.size)) j hlt
        rw [hpj] at hC
        refine wpOp_callFn rfl (wantedOf (j := 2) (b := false) rfl rfl rfl (by rw [hI.len]; show _ < 59; decide) (hI.slot 2 23 rfl (hpre ⟨2, .guard⟩ (by simp) rfl) rfl)) rfl (vs := #[.agg #[.slice la L lc, .slice wa n wc, .int .i64 g.k, .int .i64 g.l, .bool d.dead, .int .i64 d.steps], .int .i64 j]) (by simp only [List.map_toArray, List.map_cons, List.map_nil, e0, e1]) (fun _ _ => by kernel_rfl) (hC.mono ?_)
        rintro e w'' ⟨rfl, hb3⟩
        exact ⟨_, rfl, _, rfl, hB.trans (hb3.mono hB.size), fun _ => rfl, fun _ _ _ h => h⟩
       | 8, _ =>
        cases ho
        have e0 : a'.eval (.tmp 25) = .string (pgStr (d.page j)) := hI.slot 4 25 rfl (hpre ⟨4, .data⟩ (by simp) rfl) rfl
        have e1 : a'.eval (.tmp 28) = .string (pgStr (d.page j)) := hI.slot 7 28 rfl (hpre ⟨7, .data⟩ (by simp) rfl) rfl
        refine wpOp_neqS rfl (wantedOf (j := 2) (b := false) rfl rfl rfl (by rw [hI.len]; show _ < 59; decide) (hI.slot 2 23 rfl (hpre ⟨2, .guard⟩ (by simp) rfl) rfl)) rfl e0 e1 ?_
        rw [bne_self_eq_false]
        exact ⟨_, rfl, hB, fun _ => rfl, fun _ _ _ h => h⟩
       | 9, _ =>
        cases ho
        have e0 : a'.eval (.tmp 23) = .bool false := hI.slot 2 23 rfl (hpre ⟨2, .data⟩ (by simp) rfl) rfl
        have e1 : a'.eval (.tmp 29) = .bool false := hI.slot 8 29 rfl (hpre ⟨8, .data⟩ (by simp) rfl) rfl
        exact wpOp_pick2 rfl rfl rfl e0 (fun h => by cases h) (fun _ => e1) rfl ⟨_, rfl, hB, fun _ => rfl, fun _ _ _ h => h⟩
      case fin5 =>
       intro listed a' w3 hI hall
       have hB := hI.inv
       have e9 : a'.tmps.getD 30 undef = .bool false := hI.slot 9 30 rfl (hall 9 (by decide)) rfl
       obtain ⟨vs, hvl, hvs, e⟩ := hI.frame 21 10 (Nat.le_of_ble_eq_true (by kernel_rfl)) (by kernel_rfl)
       have v9' := hvs 9 (by decide)
       have H3 := Lib.hid (H2.out.1.trans (hB.mono H2.out.1.size))
       clear hI hall hvs hB hcv
       match vs, hvl with
       | [x0, x1, x2, x3, x4, x5, x6, x7, x8, x9], _ =>
       simp only [List.getElem?_cons_zero, List.getElem?_cons_succ, Option.some.injEq] at v9'
       rw [show 21 + 9 = 30 from rfl, e9] at v9'
       subst v9'
       simp only [List.take_succ_cons, List.take_zero, List.drop_succ_cons, List.drop_zero, List.cons_append, List.nil_append, Nat.reduceAdd] at e
       subst e
       clear e9
       go_wp2
       have hms : L - (j + 1) < L - j := Nat.sub_lt_sub_left hlt (Nat.lt_succ_self j)
       have e1 : wrap64 ((j : Int) + 1) = ((j + 1 : Nat) : Int) := by have := HL4.out; unfold wrap64; omega
       rw [e1]
       clear e1
       exact ⟨⟨j + 1, hlt, rfl, H3.out⟩, hms⟩
    · obtain rfl : j = L := by omega
      have hjL : ¬ (j : Int) < (j : Int) := by omega
      go_wp2_with fail
      obtain ⟨hbr, hrowr⟩ := HR.out
      clear HR q0
      have hlt2 := (Array.getElem?_eq_some_iff.1 hrowr).1
      refine wp_region_m (fun _ w' => Below wr.heap.size wr w') (fun k v _ => SrV B w.heap.size la j lc wa n wc d.dead d.steps k v) (by kernel_rfl) (by kernel_rfl) (by kernel_rfl) (by kernel_rfl) (Below.refl _ _).drew ?step7 ?fin7
      case step7 =>
       intro i o ho listed a' w' hI hn' hpre
       have hi : i < 29 := (Array.getElem?_eq_some_iff.1 ho).1
       have hB := hI.inv
       have hrow' := (hB.block w.heap.size hlt2).trans hrowr
       have hbw : Below w.heap.size w w' := HX.out.1.trans ((hbr.trans (hB.mono hbr.size)).mono HX.out.1.size)
       match i, hi with
       | 0, _ =>
        cases ho
        exact wpOp_move rfl rfl (.inl rfl) (hI.kept (t := 0) (by kernel_rfl)) ⟨_, rfl, hB, fun _ => rfl, fun _ _ _ h => h⟩
       | 1, _ =>
        cases ho
        have e0 : a'.eval (.tmp 31) = ptr B := hI.slot 0 31 rfl (hpre ⟨0, .data⟩ (by simp) rfl) rfl
        refine wpOp_callFn rfl rfl rfl (vs := #[ptr B]) (by simp only [List.map_toArray, List.map_cons, List.map_nil, e0]) (fun _ _ => by kernel_rfl) ((pages_disk (HD.out w' hbw)).mono ?_)
        rintro e w'' ⟨rfl, rfl⟩
        refine ⟨_, rfl, _, rfl, hB, fun _ => ?_, fun _ _ _ h => h⟩
        show Value.int .i64 d.room = _; rw [HX.out.2.2.1]
       | 2, _ =>
        cases ho
        exact wpOp_field rfl rfl rfl (hI.kept (t := 3) (by kernel_rfl)) (v := .pointer (some ⟨w.heap.size, 0, none⟩)) (w' := w') (by simp [go_sem]) ⟨_, rfl, hB, fun _ => rfl, fun _ _ _ h => h⟩
       | 3, _ =>
        cases ho
        have e0 : a'.eval (.tmp 33) = .pointer (some ⟨w.heap.size, 0, none⟩) := hI.slot 2 33 rfl (hpre ⟨2, .data⟩ (by simp) rfl) rfl
        exact wpOp_load rfl rfl rfl e0 (load_cellR (Try.isAgg29 w') (v := .slice la j lc) (cell_of_row w' w.heap.size 0 _ _ _ hrow')) ⟨_, rfl, hB, fun _ => rfl, fun _ _ _ h => h⟩
       | 4, _ =>
        cases ho
        have e0 : a'.eval (.tmp 34) = .slice la j lc := hI.slot 3 34 rfl (hpre ⟨3, .data⟩ (by simp) rfl) rfl
        exact wpOp_lenG (by rw [show Try.prog.elem 29 = 9 by kernel_rfl]; exact Try.underlying29) rfl rfl rfl e0 ⟨_, rfl, hB, fun _ => rfl, fun _ _ _ h => h⟩
       | 5, _ =>
        cases ho
        have e0 : a'.eval (.tmp 32) = .int .i64 j := hI.slot 1 32 rfl (hpre ⟨1, .data⟩ (by simp) rfl) rfl
        have e1 : a'.eval (.tmp 35) = .int .i64 j := hI.slot 4 35 rfl (hpre ⟨4, .data⟩ (by simp) rfl) rfl
        refine wpOp_eqI rfl rfl rfl e0 e1 ?_
        rw [beq_self_eq_true]
        exact ⟨_, rfl, hB, fun _ => rfl, fun _ _ _ h => h⟩
       | 6, _ =>
        cases ho
        exact wpOp_move rfl rfl (.inl rfl) (hI.slot 5 36 rfl (hpre ⟨5, .data⟩ (by simp) rfl) rfl) ⟨_, rfl, hB, fun _ => rfl, fun _ _ _ h => h⟩
       | 7, _ =>
        cases ho
        exact wpOp_move rfl (wantedOf (j := 6) (b := true) rfl rfl rfl (by rw [hI.len]; show _ < 59; decide) (hI.slot 6 37 rfl (hpre ⟨6, .guard⟩ (by simp) rfl) rfl)) (.inl rfl) (hI.kept (t := 0) (by kernel_rfl)) ⟨_, rfl, hB, fun _ => rfl, fun _ _ _ h => h⟩
       | 8, _ =>
        cases ho
        have e0 : a'.eval (.tmp 38) = ptr B := hI.slot 7 38 rfl (hpre ⟨7, .data⟩ (by simp) rfl) rfl
        refine wpOp_callFn rfl (wantedOf (j := 6) (b := true) rfl rfl rfl (by rw [hI.len]; show _ < 59; decide) (hI.slot 6 37 rfl (hpre ⟨6, .guard⟩ (by simp) rfl) rfl)) rfl (vs := #[ptr B]) (by simp only [List.map_toArray, List.map_cons, List.map_nil, e0]) (fun _ _ => by kernel_rfl) ((waits_disk (HD.out w' hbw)).mono ?_)
        rintro e w'' ⟨rfl, rfl⟩
        refine ⟨_, rfl, _, rfl, hB, fun _ => ?_, fun _ _ _ h => h⟩
        show Value.int .i64 d.waits.length = _; rw [HX.out.2.2.2.1]
       | 9, _ =>
        cases ho
        exact wpOp_field rfl (wantedOf (j := 6) (b := true) rfl rfl rfl (by rw [hI.len]; show _ < 59; decide) (hI.slot 6 37 rfl (hpre ⟨6, .guard⟩ (by simp) rfl) rfl)) rfl (hI.kept (t := 3) (by kernel_rfl)) (v := .pointer (some ⟨w.heap.size, 1, none⟩)) (w' := w') (by simp [go_sem]) ⟨_, rfl, hB, fun _ => rfl, fun _ _ _ h => h⟩
       | 10, _ =>
        cases ho
        have e0 : a'.eval (.tmp 40) = .pointer (some ⟨w.heap.size, 1, none⟩) := hI.slot 9 40 rfl (hpre ⟨9, .data⟩ (by simp) rfl) rfl
        exact wpOp_load rfl (wantedOf (j := 6) (b := true) rfl rfl rfl (by rw [hI.len]; show _ < 59; decide) (hI.slot 6 37 rfl (hpre ⟨6, .guard⟩ (by simp) rfl) rfl)) rfl e0 (load_cellR (Try.isAgg30 w') (v := .slice wa n wc) (cell_of_row w' w.heap.size 1 _ _ _ hrow')) ⟨_, rfl, hB, fun _ => rfl, fun _ _ _ h => h⟩
       | 11, _ =>
        cases ho
        have e0 : a'.eval (.tmp 41) = .slice wa n wc := hI.slot 10 41 rfl (hpre ⟨10, .data⟩ (by simp) rfl) rfl
        exact wpOp_lenG (by rw [show Try.prog.elem 30 = 51 by kernel_rfl]; exact Try.underlying30) rfl (wantedOf (j := 6) (b := true) rfl rfl rfl (by rw [hI.len]; show _ < 59; decide) (hI.slot 6 37 rfl (hpre ⟨6, .guard⟩ (by simp) rfl) rfl)) rfl e0 ⟨_, rfl, hB, fun _ => rfl, fun _ _ _ h => h⟩
       | 12, _ =>
        cases ho
        have e0 : a'.eval (.tmp 39) = .int .i64 n := hI.slot 8 39 rfl (hpre ⟨8, .data⟩ (by simp) rfl) rfl
        have e1 : a'.eval (.tmp 42) = .int .i64 n := hI.slot 11 42 rfl (hpre ⟨11, .data⟩ (by simp) rfl) rfl
        refine wpOp_eqI rfl (wantedOf (j := 6) (b := true) rfl rfl rfl (by rw [hI.len]; show _ < 59; decide) (hI.slot 6 37 rfl (hpre ⟨6, .guard⟩ (by simp) rfl) rfl)) rfl e0 e1 ?_
        rw [beq_self_eq_true]
        exact ⟨_, rfl, hB, fun _ => rfl, fun _ _ _ h => h⟩
       | 13, _ =>
        cases ho
        have e0 : a'.eval (.tmp 37) = .bool true := hI.slot 6 37 rfl (hpre ⟨6, .data⟩ (by simp) rfl) rfl
        have e1 : a'.eval (.tmp 43) = .bool true := hI.slot 12 43 rfl (hpre ⟨12, .data⟩ (by simp) rfl) rfl
        exact wpOp_pick2 rfl rfl rfl e0 (fun _ => e1) (fun h => by cases h) rfl ⟨_, rfl, hB, fun _ => rfl, fun _ _ _ h => h⟩
       | 14, _ =>
        cases ho
        exact wpOp_move rfl rfl (.inl rfl) (hI.slot 13 44 rfl (hpre ⟨13, .data⟩ (by simp) rfl) rfl) ⟨_, rfl, hB, fun _ => rfl, fun _ _ _ h => h⟩
       | 15, _ =>
        cases ho
        exact wpOp_move rfl (wantedOf (j := 14) (b := true) rfl rfl rfl (by rw [hI.len]; show _ < 59; decide) (hI.slot 14 45 rfl (hpre ⟨14, .guard⟩ (by simp) rfl) rfl)) (.inl rfl) (hI.kept (t := 0) (by kernel_rfl)) ⟨_, rfl, hB, fun _ => rfl, fun _ _ _ h => h⟩
       | 16, _ =>
        cases ho
        have e0 : a'.eval (.tmp 46) = ptr B := hI.slot 15 46 rfl (hpre ⟨15, .data⟩ (by simp) rfl) rfl
        refine wpOp_callFn rfl (wantedOf (j := 14) (b := true) rfl rfl rfl (by rw [hI.len]; show _ < 59; decide) (hI.slot 14 45 rfl (hpre ⟨14, .guard⟩ (by simp) rfl) rfl)) rfl (vs := #[ptr B]) (by simp only [List.map_toArray, List.map_cons, List.map_nil, e0]) (fun _ _ => by kernel_rfl) ((dead_disk (HD.out w' hbw)).mono ?_)
        rintro e w'' ⟨rfl, rfl⟩
        refine ⟨_, rfl, _, rfl, hB, fun _ => ?_, fun _ _ _ h => h⟩
        rfl
       | 17, _ =>
        cases ho
        exact wpOp_field rfl (wantedOf (j := 14) (b := true) rfl rfl rfl (by rw [hI.len]; show _ < 59; decide) (hI.slot 14 45 rfl (hpre ⟨14, .guard⟩ (by simp) rfl) rfl)) rfl (hI.kept (t := 3) (by kernel_rfl)) (v := .pointer (some ⟨w.heap.size, 4, none⟩)) (w' := w') (by simp [go_sem]) ⟨_, rfl, hB, fun _ => rfl, fun _ _ _ h => h⟩
       | 18, _ =>
        cases ho
        have e0 : a'.eval (.tmp 48) = .pointer (some ⟨w.heap.size, 4, none⟩) := hI.slot 17 48 rfl (hpre ⟨17, .data⟩ (by simp) rfl) rfl
        exact wpOp_load rfl (wantedOf (j := 14) (b := true) rfl rfl rfl (by rw [hI.len]; show _ < 59; decide) (hI.slot 14 45 rfl (hpre ⟨14, .guard⟩ (by simp) rfl) rfl)) rfl e0 (load_cellR (Try.isAgg4 w') (v := .bool d.dead) (cell_of_row w' w.heap.size 4 _ _ _ hrow')) ⟨_, rfl, hB, fun _ => rfl, fun _ _ _ h => h⟩
       | 19, _ =>
        cases ho
        have e0 : a'.eval (.tmp 47) = .bool d.dead := hI.slot 16 47 rfl (hpre ⟨16, .data⟩ (by simp) rfl) rfl
        have e1 : a'.eval (.tmp 49) = .bool d.dead := hI.slot 18 49 rfl (hpre ⟨18, .data⟩ (by simp) rfl) rfl
        exact wpOp_eqBB rfl (wantedOf (j := 14) (b := true) rfl rfl rfl (by rw [hI.len]; show _ < 59; decide) (hI.slot 14 45 rfl (hpre ⟨14, .guard⟩ (by simp) rfl) rfl)) rfl e0 e1 ⟨_, rfl, hB, fun _ => rfl, fun _ _ _ h => h⟩
       | 20, _ =>
        cases ho
        have e0 : a'.eval (.tmp 45) = .bool true := hI.slot 14 45 rfl (hpre ⟨14, .data⟩ (by simp) rfl) rfl
        have e1 : a'.eval (.tmp 50) = .bool true := hI.slot 19 50 rfl (hpre ⟨19, .data⟩ (by simp) rfl) rfl
        exact wpOp_pick2 rfl rfl rfl e0 (fun _ => e1) (fun h => by cases h) rfl ⟨_, rfl, hB, fun _ => rfl, fun _ _ _ h => h⟩
       | 21, _ =>
        cases ho
        exact wpOp_move rfl rfl (.inl rfl) (hI.slot 20 51 rfl (hpre ⟨20, .data⟩ (by simp) rfl) rfl) ⟨_, rfl, hB, fun _ => rfl, fun _ _ _ h => h⟩
       | 22, _ =>
        cases ho
        exact wpOp_move rfl (wantedOf (j := 21) (b := true) rfl rfl rfl (by rw [hI.len]; show _ < 59; decide) (hI.slot 21 52 rfl (hpre ⟨21, .guard⟩ (by simp) rfl) rfl)) (.inl rfl) (hI.kept (t := 0) (by kernel_rfl)) ⟨_, rfl, hB, fun _ => rfl, fun _ _ _ h => h⟩
       | 23, _ =>
        cases ho
        have e0 : a'.eval (.tmp 53) = ptr B := hI.slot 22 53 rfl (hpre ⟨22, .data⟩ (by simp) rfl) rfl
        refine wpOp_callFn rfl (wantedOf (j := 21) (b := true) rfl rfl rfl (by rw [hI.len]; show _ < 59; decide) (hI.slot 21 52 rfl (hpre ⟨21, .guard⟩ (by simp) rfl) rfl)) rfl (vs := #[ptr B]) (by simp only [List.map_toArray, List.map_cons, List.map_nil, e0]) (fun _ _ => by kernel_rfl) ((steps_disk (HD.out w' hbw)).mono ?_)
        rintro e w'' ⟨rfl, rfl⟩
        refine ⟨_, rfl, _, rfl, hB, fun _ => ?_, fun _ _ _ h => h⟩
        rfl
       | 24, _ =>
        cases ho
        exact wpOp_field rfl (wantedOf (j := 21) (b := true) rfl rfl rfl (by rw [hI.len]; show _ < 59; decide) (hI.slot 21 52 rfl (hpre ⟨21, .guard⟩ (by simp) rfl) rfl)) rfl (hI.kept (t := 3) (by kernel_rfl)) (v := .pointer (some ⟨w.heap.size, 5, none⟩)) (w' := w') (by simp [go_sem]) ⟨_, rfl, hB, fun _ => rfl, fun _ _ _ h => h⟩
       | 25, _ =>
        cases ho
        have e0 : a'.eval (.tmp 55) = .pointer (some ⟨w.heap.size, 5, none⟩) := hI.slot 24 55 rfl (hpre ⟨24, .data⟩ (by simp) rfl) rfl
        exact wpOp_load rfl (wantedOf (j := 21) (b := true) rfl rfl rfl (by rw [hI.len]; show _ < 59; decide) (hI.slot 21 52 rfl (hpre ⟨21, .guard⟩ (by simp) rfl) rfl)) rfl e0 (load_cellR (Try.isAgg2 w') (v := .int .i64 d.steps) (cell_of_row w' w.heap.size 5 _ _ _ hrow')) ⟨_, rfl, hB, fun _ => rfl, fun _ _ _ h => h⟩
       | 26, _ =>
        cases ho
        have e0 : a'.eval (.tmp 54) = .int .i64 d.steps := hI.slot 23 54 rfl (hpre ⟨23, .data⟩ (by simp) rfl) rfl
        have e1 : a'.eval (.tmp 56) = .int .i64 d.steps := hI.slot 25 56 rfl (hpre ⟨25, .data⟩ (by simp) rfl) rfl
        exact wpOp_eqI64 rfl (wantedOf (j := 21) (b := true) rfl rfl rfl (by rw [hI.len]; show _ < 59; decide) (hI.slot 21 52 rfl (hpre ⟨21, .guard⟩ (by simp) rfl) rfl)) rfl e0 e1 (c := true) (by simp) ⟨_, rfl, hB, fun _ => rfl, fun _ _ _ h => h⟩
       | 27, _ =>
        cases ho
        have e0 : a'.eval (.tmp 52) = .bool true := hI.slot 21 52 rfl (hpre ⟨21, .data⟩ (by simp) rfl) rfl
        have e1 : a'.eval (.tmp 57) = .bool true := hI.slot 26 57 rfl (hpre ⟨26, .data⟩ (by simp) rfl) rfl
        exact wpOp_pick2 rfl rfl rfl e0 (fun _ => e1) (fun h => by cases h) rfl ⟨_, rfl, hB, fun _ => rfl, fun _ _ _ h => h⟩
       | 28, _ =>
        cases ho
        exact wpOp_move rfl rfl (.inr rfl) (hI.slot 27 58 rfl (hpre ⟨27, .data⟩ (by simp) rfl) rfl) ⟨_, rfl, hB, fun _ => rfl, fun _ _ _ h => h⟩
      case fin7 =>
       intro listed a' w3 hI hall
       have hB := hI.inv
       have e4 : a'.tmps.getD 4 undef = .bool true := hI.slot 28 4 rfl (hall 28 (by decide)) rfl
       obtain ⟨vs', us, hvl', hul, hvs, -, e⟩ := hI.frame2 4 1 31 28 (by decide) (Nat.le_of_ble_eq_true (by kernel_rfl)) (by kernel_rfl)
       have v0' := hvs 0 (by decide)
       have HF := Lib.hid (HX.out.1.trans ((hbr.trans (hB.mono hbr.size)).mono HX.out.1.size))
       clear hI hall hvs hB hrowr
       match vs', us, hvl', hul with
       | [v0], [x0, x1, x2, x3, x4, x5, x6, x7, x8, x9, x10, x11, x12, x13, x14, x15, x16, x17, x18, x19, x20, x21, x22, x23, x24, x25, x26, x27], _, _ =>
       simp only [List.getElem?_cons_zero, Option.some.injEq] at v0'
       rw [Nat.add_zero, e4] at v0'
       subst v0'
       simp only [List.take_succ_cons, List.take_zero, List.drop_succ_cons, List.drop_zero, List.cons_append, List.nil_append, Nat.reduceAdd, Nat.reduceSub] at e
       subst e
       clear e4
       go_wp2
       go_ret
       exact ⟨rfl, HF.out⟩
end Go.Proofs.Ytogmbidjbagapaa

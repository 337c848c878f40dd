/- Layer 2: the document's disk in memory; its Write where the step is done. -/
import Derived.Test.YtkophpipehdkmaaRefD2
import Derived.Test.YtkophpipehdkmaaDskAct
import Derived.Test.YtkophpipehdkmaaRegOps
namespace Go.Proofs.Ytkophpipehdkmaa
open Go.RowKit

theorem zeroWait : (Try.prog.info? 50).map (fun i => (i.zero, i.size)) = some (some (.agg #[.int .i64 0, .string ⟨#[]⟩]), 2) := by kernel_rfl
theorem build_wait (w : World) (x : Int × ByteArray) : (Instr.build 50 #[(0, .int .i64 x.1), (1, .string x.2)]).run Try.prog w = .ok (.agg (wtCells x).toArray) w := by
  have hz := (zero_of_info zeroWait).1 w
  have hu := run_underlying (P := Try.prog) Try.underlying50 w
  have s3 : (sizeOf 3).run Try.prog w = .ok 1 w := by kernel_rfl
  have s9 : (sizeOf 9).run Try.prog w = .ok 1 w := by kernel_rfl
  unfold Instr.build
  simp [hz, hu, s3, s9, go_sem, Result.andThen, Value.cells]
  rfl
theorem build_slice_wait (w : World) (x : Int × ByteArray) : (Instr.buildSlice 32 1 #[(0, .agg (wtCells x).toArray)]).run Try.prog w = .ok (.slice (some ⟨w.heap.size, 0, none⟩) 1 1) (w.alloc (.cells (wtCells x).toArray 50)) := by
  obtain ⟨i, hi, hz, hs, -⟩ := info_parts infoWait
  have hf := Great.fill_whole (s := 2) (by omega) [.agg (wtCells x).toArray] ((Array.range (1 * 2)).map ((Value.agg #[.int .i64 0, .string ⟨#[]⟩]).cells[· % (Value.agg #[.int .i64 0, .string ⟨#[]⟩]).cells.size]!)) (by simp [wtCells, Value.cells]) (by simp)
  exact run_buildSlice w 32 50 1 _ _ i _ Try.underlying32 hi hz (by rw [hs]; omega) (by rw [hs]; omega) (by rw [hs]; simpa [Value.cells, wtCells] using hf)
/-- What each operation of the region leaves. -/
def GwSp (B Wn : Nat) (wa : Option Addr) (wc : Nat) (ab : Option Addr) (l : List UInt8) (cb : Nat) (ws : List (Int × ByteArray)) (x : Int × ByteArray) : Nat → Value → World → Prop
  | 0, v, _ => v = .pointer (some ⟨B, 1, none⟩)
  | 1, v, _ => v = .slice wa ws.length wc
  | 2, v, w' => OwnW w' Wn v ws ∧ (ws.length = 0 → v.ownBlock = none)
  | 3, v, _ => v = .int .i64 x.1
  | 4, v, _ => v = .slice ab l.length cb
  | 5, v, _ => v = .string x.2
  | 6, v, _ => v = .agg (wtCells x).toArray
  | 7, v, w' => ∃ g7, v = .slice (some ⟨g7, 0, none⟩) 1 1 ∧ Wn ≤ g7 ∧ ∀ j u, (wtCells x)[j]? = some u → w'.cell? ⟨g7, j, none⟩ = some u
  | 8, v, w' => OwnW w' Wn v (ws ++ [x])
  | 9, v, _ => v = .pointer (some ⟨B, 1, none⟩)
  | _, _, _ => True
theorem GwSp.any {B Wn : Nat} {wa ab : Option Addr} {wc cb : Nat} {l : List UInt8} {ws : List (Int × ByteArray)} {x : Int × ByteArray} {w' w'' : World}
    (h2 : ∀ v, OwnW w' Wn v ws → OwnW w'' Wn v ws) (h7 : ∀ g7, Wn ≤ g7 → (∀ j u, (wtCells x)[j]? = some u → w'.cell? ⟨g7, j, none⟩ = some u) → ∀ j u, (wtCells x)[j]? = some u → w''.cell? ⟨g7, j, none⟩ = some u) (h8 : ∀ v, OwnW w' Wn v (ws ++ [x]) → OwnW w'' Wn v (ws ++ [x])) (k : Nat) (v : Value) (h : GwSp B Wn wa wc ab l cb ws x k v w') : GwSp B Wn wa wc ab l cb ws x k v w'' := by
  rcases k with _ | _ | _ | _ | _ | _ | _ | _ | _ | _ | k
  · exact h
  · exact h
  · exact ⟨h2 v h.1, h.2⟩
  · exact h
  · exact h
  · exact h
  · exact h
  · obtain ⟨g7, e, h1, h3⟩ := h
    exact ⟨g7, e, h1, h7 g7 h1 h3⟩
  · exact h8 v h
  · exact h
  · exact h
theorem GwSp.below {B Wn : Nat} {wa ab : Option Addr} {wc cb : Nat} {l : List UInt8} {ws : List (Int × ByteArray)} {x : Int × ByteArray} {w' w'' : World} (hb : Below w'.heap.size w' w'') : ∀ k v, GwSp B Wn wa wc ab l cb ws x k v w' → GwSp B Wn wa wc ab l cb ws x k v w'' :=
  GwSp.any (fun _ h => h.below hb) (fun g7 _ h j u hu => (hb.cell (p := ⟨g7, j, none⟩) (cell_lt (h j u hu))).trans (h j u hu)) (fun _ h => h.below hb)
set_option maxRecDepth 100000 in
set_option maxHeartbeats 4000000 in
theorem gwrite_ok {w : World} {la wa : Option Addr} {lc wc : Nat} {g : GD} (p : Int) (ab : Option Addr) (l : List UInt8) (cb : Nat) (L n : Nat) (hL : g.lasts.length = L) (hn : g.waits.length = n) (rk rl : Int) (rb : Bool) (rs : Int)
    (hf : g.waits.length ≤ 1000000) (hee2 : ((l.length : Int) = 256)) (hd : decide (p < 0) = false) (hd2 : decide ((L : Int) ≤ p) = false)
    (ST : Hid (∀ w : World, Calls Try.prog 43 #[rv la L lc wa n wc g.k g.l g.b g.s] w fun e w' => e = .returned (.tuple #[rv la L lc wa n wc rk rl rb rs, .int .i64 0]) ∧ Below w.heap.size w w'))
    (HM : Hid (BytesAt w.heap.size w ab l)) (HH : Hid (IsG w.heap.size w la lc wa wc g)) :
    Calls Try.prog 23 #[.agg #[.slice la L lc, .slice wa n wc, .int .i64 g.k, .int .i64 g.l, .bool g.b, .int .i64 g.s], .int .i64 p, .slice ab l.length cb] w fun e w' => GPost w ({ g with k := rk, l := rl, b := rb, s := rs, waits := g.waits ++ [(p, ⟨l.toArray⟩)] }, 0) e w' := by
  simp only [rv] at ST
  have HF := Lib.hid hf
  clear hf
  go_enter Try.func23, Try.ntmps23
  go_wp2_with (go_at_call 43; refine (ST.out _).mono ?_; rintro e w3 ⟨rfl, hb3⟩; have hr0 := (hb3.block w.heap.size (by simp; omega)).trans ((Below.heap_alloc _ _ _ (by simp)).trans (heap_alloc_new w (.cells #[.slice la L lc, .slice wa n wc, .int .i64 g.k, .int .i64 g.l, .bool g.b, .int .i64 g.s] 34))); have hr1 := (hb3.block (w.heap.size + 1) (by simp)).trans (heap_alloc_new' w (.cells #[.slice la L lc, .slice wa n wc, .int .i64 g.k, .int .i64 g.l, .bool g.b, .int .i64 g.s] 34) (.cells #[.slice none 0 0, .slice none 0 0, .int .i64 0, .int .i64 0, .bool false, .int .i64 0] 34)); have c00 := cell_of_row w3 w.heap.size 0 _ _ _ hr0; have f00 := frozen_of_row w3 w.heap.size 0 _ _ hr0; have c01 := cell_of_row w3 w.heap.size 1 _ _ _ hr0; have f01 := frozen_of_row w3 w.heap.size 1 _ _ hr0; have c02 := cell_of_row w3 w.heap.size 2 _ _ _ hr0; have f02 := frozen_of_row w3 w.heap.size 2 _ _ hr0; have c03 := cell_of_row w3 w.heap.size 3 _ _ _ hr0; have f03 := frozen_of_row w3 w.heap.size 3 _ _ hr0; have c04 := cell_of_row w3 w.heap.size 4 _ _ _ hr0; have f04 := frozen_of_row w3 w.heap.size 4 _ _ hr0; have c05 := cell_of_row w3 w.heap.size 5 _ _ _ hr0; have f05 := frozen_of_row w3 w.heap.size 5 _ _ hr0; have c10 := cell_of_row w3 (w.heap.size + 1) 0 _ _ _ hr1; have f10 := frozen_of_row w3 (w.heap.size + 1) 0 _ _ hr1; have c11 := cell_of_row w3 (w.heap.size + 1) 1 _ _ _ hr1; have f11 := frozen_of_row w3 (w.heap.size + 1) 1 _ _ hr1; have c12 := cell_of_row w3 (w.heap.size + 1) 2 _ _ _ hr1; have f12 := frozen_of_row w3 (w.heap.size + 1) 2 _ _ hr1; have c13 := cell_of_row w3 (w.heap.size + 1) 3 _ _ _ hr1; have f13 := frozen_of_row w3 (w.heap.size + 1) 3 _ _ hr1; have c14 := cell_of_row w3 (w.heap.size + 1) 4 _ _ _ hr1; have f14 := frozen_of_row w3 (w.heap.size + 1) 4 _ _ hr1; have c15 := cell_of_row w3 (w.heap.size + 1) 5 _ _ _ hr1; have f15 := frozen_of_row w3 (w.heap.size + 1) 5 _ _ hr1; simp only [List.getElem?_toArray, List.getElem?_cons_zero, List.getElem?_cons_succ] at c00 c01 c02 c03 c04 c05 c10 c11 c12 c13 c14 c15)
  have hr0W := set6_heap (.slice la L lc) (.slice wa n wc) (.int .i64 rk) (.int .i64 rl) (.bool rb) (.int .i64 rs) hr0
  have g0 := set6_grown w3 w.heap.size (.slice la L lc) (.slice wa n wc) (.int .i64 rk) (.int .i64 rl) (.bool rb) (.int .i64 rs)
  have hr1W := (g0.block (w.heap.size + 1) (Array.getElem?_eq_some_iff.1 hr1).1 (by simp)).trans hr1
  have hbA : Below w.heap.size w w3 := (((Below.refl _ _).alloc (Nat.le_refl _) _).alloc (by simp) _).trans (hb3.mono (by simp; omega))
  have hbW := hbA.grown g0 hbA.size (fun k e => by cases e; exact Nat.le_refl _)
  clear g0 hbA hr0 hr1 hb3 c00 c01 c02 c03 c04 c05 c10 c11 c12 c13 c14 c15 f00 f01 f02 f03 f04 f05 f10 f11 f12 f13 f14 f15
  revert hr0W hr1W hbW
  generalize ((((((w3.setCell ⟨w.heap.size, 0, none⟩ (.slice la L lc)).setCell ⟨w.heap.size, 1, none⟩ (.slice wa n wc)).setCell ⟨w.heap.size, 2, none⟩ (.int .i64 rk)).setCell ⟨w.heap.size, 3, none⟩ (.int .i64 rl)).setCell ⟨w.heap.size, 4, none⟩ (.bool rb)).setCell ⟨w.heap.size, 5, none⟩ (.int .i64 rs)) = W
  intro hr0W hr1W hbW
  have hG := HH.out
  have hWl := hG.waits.below hbW
  have hWb : w.heap.size + 1 < W.heap.size := (Array.getElem?_eq_some_iff.1 hr1W).1
  have hml := HM.out
  have hnn := hn
  refine wp_region_m (fun listed w' => if listed.getD 10 false = true then ∃ w1 u, Below W.heap.size W w1 ∧ OwnW w1 W.heap.size u (g.waits ++ [(p, ⟨l.toArray⟩)]) ∧ w' = w1.setCell ⟨w.heap.size, 1, none⟩ u else Below W.heap.size W w') (GwSp w.heap.size W.heap.size wa wc ab l cb g.waits (p, ⟨l.toArray⟩)) (by kernel_rfl) (by kernel_rfl) (by kernel_rfl) (by kernel_rfl) (by rw [if_neg (by simp)]; exact (Below.refl _ _).drew) ?step ?fin
  case step =>
    as_aux_lemma =>
      intro q o ho listed a w' hI hn hpre
      have hq : q < 11 := (Array.getElem?_eq_some_iff.1 ho).1
      have hin : listed.getD 10 false = false → Below W.heap.size W w' := fun h => by
        have := hI.inv
        rwa [if_neg (by rw [h]; simp)] at this
      have hnx : ∀ k, k ≠ 10 → listed.getD 10 false = false → ∀ w'', Below W.heap.size W w'' → (if (listed.setIfInBounds k true).getD 10 false = true then ∃ w1 u, Below W.heap.size W w1 ∧ OwnW w1 W.heap.size u (g.waits ++ [(p, ⟨l.toArray⟩)]) ∧ w'' = w1.setCell ⟨w.heap.size, 1, none⟩ u else Below W.heap.size W w'') := fun k hk h10 w'' h => by
        rw [listed_other (Ne.symm hk), if_neg (by rw [h10]; simp)]; exact h
      match q, hq with
      | 0, _ =>
        have h10 := hI.notyet hn 10 (by kernel_rfl)
        have hinv := hin h10
        have hle := hinv.size
        cases ho
        exact wpOp_field rfl rfl rfl (hI.kept (t := 3) (by kernel_rfl)) (v := .pointer (some ⟨w.heap.size, 1, none⟩)) (w' := w') (by simp [go_sem]) ⟨_, rfl, hnx _ (by decide) h10 _ hinv, fun _ => rfl, fun _ _ _ h => h⟩
      | 1, _ =>
        have h10 := hI.notyet hn 10 (by kernel_rfl)
        have hinv := hin h10
        have hle := hinv.size
        cases ho
        have hB' := (hinv.block w.heap.size (by omega)).trans hr0W
        exact wpOp_load rfl rfl rfl (hI.slot 0 30 rfl (hpre ⟨0, .data⟩ (by simp) rfl) rfl) (load_cell (Try.isAgg32 _) (v := .slice wa n wc) (by rw [cell_of_row w' w.heap.size 1 _ _ _ hB']; rfl)) ⟨_, rfl, hnx _ (by decide) h10 _ hinv, fun _ => (by show Value.slice wa n wc = .slice wa g.waits.length wc; rw [hnn]), fun _ _ _ h => h⟩
      | 2, _ =>
        have h10 := hI.notyet hn 10 (by kernel_rfl)
        have hinv := hin h10
        have hle := hinv.size
        cases ho
        have e1 : a.eval (.tmp 31) = .slice wa g.waits.length wc := hI.slot 1 31 rfl (hpre ⟨1, .data⟩ (by simp) rfl) rfl
        obtain ⟨v', w'', hrun, hO, hb2, h0⟩ := copy_waits w' 32 W.heap.size hle wa wc g.waits hG.wnone hG.wle HF.out ((hWl.below (hinv.mono (by omega))).mono (by omega))
        exact wpOp_append rfl rfl rfl (by rfl) e1 hrun ⟨_, rfl, hnx _ (by decide) h10 _ (hinv.trans (hb2.mono hle)), fun _ => ⟨hO, h0⟩, fun j u _ h => GwSp.below hb2 j u h⟩
      | 3, _ =>
        have h10 := hI.notyet hn 10 (by kernel_rfl)
        have hinv := hin h10
        have hle := hinv.size
        cases ho
        exact wpOp_move rfl rfl (.inl rfl) (hI.kept (t := 1) (by kernel_rfl)) ⟨_, rfl, hnx _ (by decide) h10 _ hinv, fun _ => rfl, fun _ _ _ h => h⟩
      | 4, _ =>
        have h10 := hI.notyet hn 10 (by kernel_rfl)
        have hinv := hin h10
        have hle := hinv.size
        cases ho
        exact wpOp_move rfl rfl (.inl rfl) (hI.kept (t := 2) (by kernel_rfl)) ⟨_, rfl, hnx _ (by decide) h10 _ hinv, fun _ => rfl, fun _ _ _ h => h⟩
      | 5, _ =>
        have h10 := hI.notyet hn 10 (by kernel_rfl)
        have hinv := hin h10
        have hle := hinv.size
        cases ho
        exact wpOp_conv rfl rfl rfl (hI.slot 4 34 rfl (hpre ⟨4, .data⟩ (by simp) rfl) rfl) (conv_at w' ab l cb _ (hml.below (hbW.trans (hinv.mono (by omega))))) ⟨_, rfl, hnx _ (by decide) h10 _ hinv, fun _ => rfl, fun _ _ _ h => h⟩
      | 6, _ =>
        have h10 := hI.notyet hn 10 (by kernel_rfl)
        have hinv := hin h10
        have hle := hinv.size
        cases ho
        have e3 : a.eval (.tmp 33) = .int .i64 p := hI.slot 3 33 rfl (hpre ⟨3, .data⟩ (by simp) rfl) rfl
        have e5 : a.eval (.tmp 35) = .string ⟨l.toArray⟩ := hI.slot 5 35 rfl (hpre ⟨5, .data⟩ (by simp) rfl) rfl
        exact wpOp_build rfl rfl rfl (vs := #[(0, .int .i64 p), (1, .string ⟨l.toArray⟩)]) (by simp only [List.map_toArray, List.map_cons, List.map_nil, e3, e5]) (build_wait w' (p, ⟨l.toArray⟩)) ⟨_, rfl, hnx _ (by decide) h10 _ hinv, fun _ => rfl, fun _ _ _ h => h⟩
      | 7, _ =>
        have h10 := hI.notyet hn 10 (by kernel_rfl)
        have hinv := hin h10
        have hle := hinv.size
        cases ho
        have e6 : a.eval (.tmp 36) = .agg (wtCells (p, ⟨l.toArray⟩)).toArray := hI.slot 6 36 rfl (hpre ⟨6, .data⟩ (by simp) rfl) rfl
        have hal := heap_alloc_last w' (.cells (wtCells (p, ⟨l.toArray⟩)).toArray 50)
        have hb2 : Below w'.heap.size w' (w'.alloc (.cells (wtCells (p, ⟨l.toArray⟩)).toArray 50)) := (Below.refl _ _).alloc (Nat.le_refl _) _
        exact wpOp_buildSlice rfl rfl rfl (vs := #[(0, .agg (wtCells (p, ⟨l.toArray⟩)).toArray)]) (by rw [Array.map_singleton]; show #[(0, a.eval (.tmp 36))] = _; rw [e6]) (build_slice_wait w' (p, ⟨l.toArray⟩)) ⟨_, rfl, hnx _ (by decide) h10 _ (hinv.trans (hb2.mono hle)), fun _ => ⟨w'.heap.size, rfl, hle, fun j u hu => by rw [cell_of_row _ _ j _ _ _ hal, List.getElem?_toArray]; exact hu⟩, fun j u _ h => GwSp.below hb2 j u h⟩
      | 8, _ =>
        have h10 := hI.notyet hn 10 (by kernel_rfl)
        have hinv := hin h10
        have hle := hinv.size
        cases ho
        obtain ⟨hO, h0⟩ : OwnW w' W.heap.size (a.eval (.tmp 32)) g.waits ∧ (g.waits.length = 0 → (a.eval (.tmp 32)).ownBlock = none) := hI.slot 2 32 rfl (hpre ⟨2, .data⟩ (by simp) rfl) rfl
        obtain ⟨g7, e7, h7, hc7⟩ : ∃ g7, a.eval (.tmp 37) = .slice (some ⟨g7, 0, none⟩) 1 1 ∧ W.heap.size ≤ g7 ∧ ∀ j u, (wtCells (p, ⟨l.toArray⟩))[j]? = some u → w'.cell? ⟨g7, j, none⟩ = some u := hI.slot 7 37 rfl (hpre ⟨7, .data⟩ (by simp) rfl) rfl
        obtain ⟨v', w'', hrun, hO2, hb2, hO3, hc8⟩ := snoc_waits w' 32 W.heap.size hle _ g.waits (p, ⟨l.toArray⟩) hO h0 HF.out g7 1 hc7
        refine wpOp_append rfl rfl rfl rfl e7 hrun ⟨_, rfl, hnx _ (by decide) h10 _ (hinv.trans hb2), fun _ => hO2, fun j u hj h => ?_⟩
        by_cases h8 : j = 8
        · subst h8; rw [hn] at hj; cases hj
        · rcases j with _ | _ | _ | _ | _ | _ | _ | _ | _ | _ | j
          · exact h
          · exact h
          · exact ⟨hO3 u h.1, h.2⟩
          · exact h
          · exact h
          · exact h
          · exact h
          · obtain ⟨g7', e, h1, h3⟩ := h
            exact ⟨g7', e, h1, hc8 g7' h3⟩
          · exact absurd rfl h8
          · exact h
          · exact h
      | 9, _ =>
        have h10 := hI.notyet hn 10 (by kernel_rfl)
        have hinv := hin h10
        have hle := hinv.size
        cases ho
        exact wpOp_field rfl rfl rfl (hI.kept (t := 3) (by kernel_rfl)) (v := .pointer (some ⟨w.heap.size, 1, none⟩)) (w' := w') (by simp [go_sem]) ⟨_, rfl, hnx _ (by decide) h10 _ hinv, fun _ => rfl, fun _ _ _ h => h⟩
      | 10, _ =>
        cases ho
        have hinv := hin hn
        have e8 : OwnW w' W.heap.size (a.eval (.tmp 38)) (g.waits ++ [(p, ⟨l.toArray⟩)]) := hI.slot 8 38 rfl (hpre ⟨8, .data⟩ (by simp) rfl) rfl
        have e9 : a.eval (.tmp 39) = .pointer (some ⟨w.heap.size, 1, none⟩) := hI.slot 9 39 rfl (hpre ⟨9, .data⟩ (by simp) rfl) rfl
        obtain ⟨u, hu⟩ : ∃ u, a.eval (.tmp 38) = u := ⟨_, rfl⟩
        rw [hu] at e8
        obtain ⟨pa, nn, cc, rfl⟩ : ∃ pa nn cc, u = .slice pa nn cc := by
          rcases e8.2 with ⟨rfl, _⟩ | ⟨g, cap, cur, rfl, _⟩
          · exact ⟨_, _, _, rfl⟩
          · exact ⟨_, _, _, rfl⟩
        have hB' := (hinv.block w.heap.size (by omega)).trans hr0W
        have hsg := grownBy_cell w' ⟨w.heap.size, 1, none⟩ (.slice pa nn cc)
        have hle := hinv.size
        have hkp : ∀ v ws, OwnW w' W.heap.size v ws → OwnW (w'.setCell ⟨w.heap.size, 1, none⟩ (.slice pa nn cc)) W.heap.size v ws := fun v ws h => World.ownsRow.kept h hsg (.inr fun e => by
          have := (World.ownsRow.lt h w.heap.size e).1; omega)
        refine wpOp_store rfl rfl rfl e9 hu (store_slice (Try.sizeOf32 _) (u := .slice wa n wc) (by rw [cell_of_row w' w.heap.size 1 _ _ _ hB']; rfl) (frozen_of_row w' w.heap.size 1 _ _ hB')) ⟨_, rfl, ?_, (fun e => by cases e), ?_⟩
        · rw [if_pos (listed_same (by rw [hI.size]; decide))]
          exact ⟨w', _, hinv, e8, rfl⟩
        · intro j u' _ h
          exact GwSp.any (fun v h => hkp v _ h) (fun g7 h7 h j u hu => (hsg.cell (h j u hu) (fun e => by have := Option.some.inj e; simp at this; omega))) (fun v h => hkp v _ h) j u' h
  case fin =>
    intro listed a w' hI hall
    have hinv := hI.inv
    rw [if_pos (hall 10 (by decide))] at hinv
    obtain ⟨w1, u, hb1, hO, rfl⟩ := hinv
    obtain ⟨vs, hvl, -, e⟩ := hI.frame 30 10 (Nat.le_of_ble_eq_true (by kernel_rfl)) (by kernel_rfl)
    clear hI hall
    have hB1 := (hb1.block w.heap.size (by omega)).trans hr0W
    have hle := hb1.size
    have hr0 : (w1.setCell ⟨w.heap.size, 1, none⟩ u).heap[w.heap.size]? = some (.cells #[.slice la L lc, u, .int .i64 rk, .int .i64 rl, .bool rb, .int .i64 rs] 34 (0, 0)) := by rw [heap_setCell_same w1 w.heap.size 1 _ _ u hB1]; rfl
    have hsg := grownBy_cell w1 ⟨w.heap.size, 1, none⟩ u
    have hr1 := (hsg.block (w.heap.size + 1) (by omega) (by simp)).trans ((hb1.block (w.heap.size + 1) hWb).trans hr1W)
    have hO2 : OwnW (w1.setCell ⟨w.heap.size, 1, none⟩ u) W.heap.size u (g.waits ++ [(p, ⟨l.toArray⟩)]) := World.ownsRow.kept hO hsg (.inr fun e => by
      have := (World.ownsRow.lt hO w.heap.size e).1; omega)
    have hb2 : Below w.heap.size w (w1.setCell ⟨w.heap.size, 1, none⟩ u) := (hbW.trans (hb1.mono (by omega))).grown hsg (Nat.le_trans hbW.size hle) (fun k e => by cases e; exact Nat.le_refl _)
    revert hr0 hr1 hO2 hb2
    generalize w1.setCell ⟨w.heap.size, 1, none⟩ u = w2
    intro hr0 hr1 hO2 hb2
    have hWx := hWb
    clear hsg hle hB1 hO hb1 hWb hWl hbW hr0W hr1W
    have HR := Lib.hid (And.intro hO2 hWx)
    rcases hO2.2 with ⟨rfl, h0⟩ | ⟨gw, cap, cur, rfl, hgw, hcw, hnw, -, -, -⟩
    · simp at h0
    have HG2 := Lib.hid (And.intro hgw (And.intro hnw hcw))
    clear hO2 hcw hnw hgw
    match vs, hvl with
    | [t0, t1, t2, t3, t4, t5, t6, t7, t8, t9], _ =>
    simp only [List.take_succ_cons, List.take_zero, List.drop_succ_cons, List.drop_zero, List.cons_append, List.nil_append, Nat.reduceAdd] at e
    subst e
    have HB2 := Lib.hid hb2
    clear hb2 hWx
    have c00 := cell_of_row w2 w.heap.size 0 _ _ _ hr0; have f00 := frozen_of_row w2 w.heap.size 0 _ _ hr0
    have c01 := cell_of_row w2 w.heap.size 1 _ _ _ hr0; have f01 := frozen_of_row w2 w.heap.size 1 _ _ hr0
    have c02 := cell_of_row w2 w.heap.size 2 _ _ _ hr0; have f02 := frozen_of_row w2 w.heap.size 2 _ _ hr0
    have c03 := cell_of_row w2 w.heap.size 3 _ _ _ hr0; have f03 := frozen_of_row w2 w.heap.size 3 _ _ hr0
    have c04 := cell_of_row w2 w.heap.size 4 _ _ _ hr0; have f04 := frozen_of_row w2 w.heap.size 4 _ _ hr0
    have c05 := cell_of_row w2 w.heap.size 5 _ _ _ hr0; have f05 := frozen_of_row w2 w.heap.size 5 _ _ hr0
    have c10 := cell_of_row w2 (w.heap.size + 1) 0 _ _ _ hr1; have f10 := frozen_of_row w2 (w.heap.size + 1) 0 _ _ hr1
    have c11 := cell_of_row w2 (w.heap.size + 1) 1 _ _ _ hr1; have f11 := frozen_of_row w2 (w.heap.size + 1) 1 _ _ hr1
    have c12 := cell_of_row w2 (w.heap.size + 1) 2 _ _ _ hr1; have f12 := frozen_of_row w2 (w.heap.size + 1) 2 _ _ hr1
    have c13 := cell_of_row w2 (w.heap.size + 1) 3 _ _ _ hr1; have f13 := frozen_of_row w2 (w.heap.size + 1) 3 _ _ hr1
    have c14 := cell_of_row w2 (w.heap.size + 1) 4 _ _ _ hr1; have f14 := frozen_of_row w2 (w.heap.size + 1) 4 _ _ hr1
    have c15 := cell_of_row w2 (w.heap.size + 1) 5 _ _ _ hr1; have f15 := frozen_of_row w2 (w.heap.size + 1) 5 _ _ hr1
    simp only [List.getElem?_toArray, List.getElem?_cons_zero, List.getElem?_cons_succ] at c00 c01 c02 c03 c04 c05 c10 c11 c12 c13 c14 c15
    go_wp2
    refine bodyPost_ret (results_ref rfl _ _ _ _ _ _ rfl (set6_heap _ _ _ _ _ _ hr1) Try.underlying34 (by kernel_rfl)) rfl ?_
    have hfin := set6_grown w2 (w.heap.size + 1) (.slice la L lc) (.slice (some ⟨gw, 0, none⟩) (n + 1) cap) (.int .i64 rk) (.int .i64 rl) (.bool rb) (.int .i64 rs)
    have hbF := HB2.out.grown hfin HB2.out.size (fun k e => by cases e; omega)
    obtain ⟨hO3, hWx⟩ := HR.out
    obtain ⟨hgw, hnw, hcw⟩ := HG2.out
    have hlt := (Array.getElem?_eq_some_iff.1 hcw).1
    have hI := HH.out.below hbF
    have hlen : (g.waits ++ [(p, (⟨l.toArray⟩ : ByteArray))]).length = n + 1 := by simp [hnn]
    refine ⟨la, lc, some ⟨gw, 0, none⟩, cap, by unfold gv rv; simp only [hlen, hL]; rfl, ⟨hI.lasts.mono hbF.size, fun _ => ⟨gw, 0, rfl, Nat.lt_of_lt_of_le hlt hfin.size, ⟨_, _, (hfin.block gw hlt (by simp; omega)).trans hcw⟩, fun j u hu => ?_⟩, hI.lle, hnw, (fun e => by cases e), hI.lnone, hI.fewl⟩, hbF⟩
    have hc := World.ownsRow.cells hO3 (g := gw) rfl j u hu
    rw [addr_add] at hc
    exact hfin.cell hc (fun e => by have := Option.some.inj e; simp at this; omega)
end Go.Proofs.Ytkophpipehdkmaa

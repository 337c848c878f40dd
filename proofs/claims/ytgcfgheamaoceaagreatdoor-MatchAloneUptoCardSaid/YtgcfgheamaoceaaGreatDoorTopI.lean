/- Layer 13: Levels. -/
import Derived.Test.YtgcfgheamaoceaaGreatDoorTopH
namespace Go.Proofs.YtgcfgheamaoceaaGreatDoor
open Go.RowKit Go.Shelf

attribute [local go_sem] Oper.semAt_some

/-- What each slot of the statement 'all = append(all, strings.Clone(level))' holds. -/
def LvV (n0 N0 : Nat) (v : Value) (b : ByteArray) (M : List (List UInt8)) : Nat → Value → World → Prop
  | 0, u, _ => u = v
  | 1, u, _ => u = .string b
  | 2, u, _ => u = .string b
  | 3, u, W => ∃ k, u = .slice (some ⟨k, 0, none⟩) 1 1 ∧ n0 ≤ k ∧ W.cell? ⟨k, 0, none⟩ = some (.string b)
  | 4, u, W => OwnT W N0 u M
  | _, _, _ => True
/-- What the world holds meanwhile. -/
structure LvI (N0 : Nat) (v : Value) (M : List (List UInt8)) (W : World) (listed : Array Bool) (W' : World) : Prop where
  one : listed.getD 4 false = false → Below W.heap.size W W'
  two : listed.getD 4 false = true → Below N0 W W' ∧ KeepsOthers W W'
  box : listed.getD 5 false = false → Boxed W' N0 79 v
  end' : listed.getD 5 false = true → ∃ u, Boxed W' N0 79 u ∧ OwnT W' N0 u M
def LvPost (w : World) (L : List (List UInt8)) (e : Ending) (w' : World) : Prop := ∃ v, e = .returned v ∧ OwnT w' w.heap.size v L ∧ Below w.heap.size w w'
set_option maxRecDepth 100000 in
set_option maxHeartbeats 8000000 in
theorem levelsF_wide (n : Nat) (hn : 4 ≤ n) (s : ByteArray) (hs : s.size ≤ 1000) (w : World) :
    CallsIn Fence.wide n Tryz.prog 39 #[.string s] w fun e w' => LvPost w (lv s.data.toList) e w' := by
  have h1 : 1 ≤ n := by omega
  have hdp : Fence.wide.depth.isSome = true → 1 ≤ n - 1 - 1 := fun _ => by omega
  obtain ⟨i0, hi, hz0, hz1, hz2⟩ := info_parts infoStr
  refine callsIn_of_wp_marks Tryz.func39 rfl trivial ?_ rfl
  simp only [Tryz.ntmps39, List.size_toArray, List.length_cons, List.length_nil, Nat.reduceAdd, Nat.reduceSub, Array.replicate_succ, Array.replicate_zero, List.push_toArray, List.append_toArray, List.nil_append, List.cons_append]
  obtain ⟨w1, hw1⟩ : ∃ w1, w.alloc (.cells #[.slice none 0 0] 79) = w1 := ⟨_, rfl⟩
  obtain ⟨w2, hw2⟩ : ∃ w2, w1.alloc (.cells #[.string s] 9) = w2 := ⟨_, rfl⟩
  have hs1 : w1.heap.size = w.heap.size + 1 := by rw [← hw1]; simp
  have hs2 : w2.heap.size = w.heap.size + 2 := by rw [← hw2]; simp [hs1]
  have bV : Boxed w2 w.heap.size 79 (.slice none 0 0) := by rw [← hw2, ← hw1]; exact (Boxed.new w _ _).alloc _
  have bS : Boxed w2 (w.heap.size + 1) 9 (.string s) := by rw [← hw2, ← hs1]; exact Boxed.new w1 _ _
  have hB0 : Below w.heap.size w w2 := by rw [← hw2, ← hw1]; exact ((Below.refl _ w).alloc (Nat.le_refl _) _).alloc (by simp) _
  have HW1 := Lib.hid hw1
  have HW2 := Lib.hid hw2
  have HS1 := Lib.hid hs1
  clear hw1 hw2 hs1
  obtain ⟨N0, hN0⟩ : ∃ N0, w.heap.size = N0 := ⟨_, rfl⟩
  have HN := Lib.hid hN0
  rw [hN0] at hs2 bV bS hB0 HS1
  clear hN0
  gi_wp2_with (refine ⟨trivial, ?_⟩; gi_at_call 67; refine (levels_in Fence.wide _ trivial rfl s _).mono ?_; rintro en w' ⟨rfl, rfl⟩)
  rw [HW1.out, HW2.out, HN.out]
  refine wpIn_rangeFunc_ownF rfl h1 (gf := 89) (lb := #[.pointer (some ⟨N0 + 1, 0, none⟩)]) rfl trivial (enters_of Tryz.func89 (by kernel_rfl) rfl)
    (levels_stops (n - 1) (by omega) (N0 + 1) s hs w2 (by omega) bS.cell) (fun _ _ => trivial) (fun _ _ _ _ _ _ _ _ => trivial) (Below.refl _ _) (fun _ => rfl)
    (fun pre W => (∃ v, Boxed W N0 79 v ∧ W.ownsRow N0 9 1 v (byts pre).length (strVals (byts pre)) ∧ True) ∧ Below N0 w W)
    (fun _ _ _ => False)
    (OwnFrom.and (Own.from (holdsRow_own N0 N0 79 9 1 (fun pre => (byts pre).length) (fun pre => strVals (byts pre)) (fun _ _ => True)) _) (ownFrom_below (by rw [HN.out]; exact Nat.le_refl _) (by omega)))
    (fun _ _ _ _ _ hs _ _ => hs)
    ⟨⟨_, bV, World.ownsRow_nil _ _ _ _, trivial⟩, hB0⟩
    (fun x => { tmps := #[.string s, undef, .slice none 0 0, .pointer (some ⟨N0, 0, none⟩), undef, .string x.2.1, .string s, .func (.func 89) #[] #[.pointer (some ⟨N0 + 1, 0, none⟩)], .int .i64 x.1, .string x.2.1, undef, undef, undef, undef, undef, undef], defers := [] }) ?assign ?body ?done ?stop
  case assign =>
    intro l x W K hK
    simp only [encL]
    gi_wp2
    exact hK
  case body =>
    rintro l pre ⟨x1, x2⟩ W ⟨⟨v, hv, hrow, -⟩, hB⟩ hlt
    have hc := hv.cell
    have hf := hv.frozen
    have HC := Lib.hid (fun W => clone_any x2.1 W (by have := x2.2; omega))
    have hlen := Nat.le_of_eq (byts_len pre)
    obtain ⟨va, vc, rfl⟩ := row_slice hrow
    have HX := Lib.hid (And.intro hv (And.intro hrow hB))
    have hml : (byts pre).length + 1 ≤ maxLen := by unfold maxLen; omega
    have hNW : N0 < W.heap.size := (Array.getElem?_eq_some_iff.1 (show W.heap[N0]? = _ from hv)).1
    clear hv hrow hB hc hf
    gi_wp2
    obtain ⟨hv, hrow, hB⟩ := HX.out
    have hO : OwnT W N0 (.slice va (byts pre).length vc) (byts pre) := hrow
    refine region_round_m (l := l) (LvI N0 (.slice va (byts pre).length vc) (byts pre ++ [byt x2]) W) (LvV W.heap.size N0 (.slice va (byts pre).length vc) x2.1 (byts pre ++ [byt x2])) (by kernel_rfl) (fun ⟨_, _, h⟩ => h) (by kernel_rfl) (by kernel_rfl) (by kernel_rfl) (by kernel_rfl)
      ⟨fun _ => (Below.refl _ _).drew, (fun h => by simp at h), fun _ => hv, (fun h => by simp at h)⟩ ?step ?fin
    case step =>
      intro q o ho listed a' w' hJ hn' hpre
      have hq : q < 6 := (Array.getElem?_eq_some_iff.1 ho).1
      have hI := hJ.inv
      have hlen : listed.size = 6 := hJ.size
      have hsame : ∀ k, k ≠ 4 → k ≠ 5 → LvI N0 (.slice va (byts pre).length vc) (byts pre ++ [byt x2]) W (listed.setIfInBounds k true) w' := fun k h4 h5 => ⟨by rw [listed_other (Ne.symm h4)]; exact hI.one, by rw [listed_other (Ne.symm h4)]; exact hI.two, by rw [listed_other (Ne.symm h5)]; exact hI.box, by rw [listed_other (Ne.symm h5)]; exact hI.end'⟩
      match q, hq with
      | 0, _ =>
        cases ho
        have h4 := hJ.notyet hn' 4 (by kernel_rfl)
        have h5 := hJ.notyet hn' 5 (by kernel_rfl)
        exact wpOp_load rfl rfl rfl (hJ.kept (t := 3) (by kernel_rfl)) (load_box (hI.box h5)) ⟨_, rfl, hsame _ (by decide) (by decide), fun _ => rfl, fun _ _ _ h => h⟩
      | 1, _ =>
        cases ho
        exact wpOp_move rfl rfl (.inl rfl) (hJ.kept (t := 5) (by kernel_rfl)) ⟨_, rfl, hsame _ (by decide) (by decide), fun _ => rfl, fun _ _ _ h => h⟩
      | 2, _ =>
        cases ho
        have h3 := hJ.notyet hn' 3 (by kernel_rfl)
        have h4 := hJ.notyet h3 4 (by kernel_rfl)
        have h5 := hJ.notyet h4 5 (by kernel_rfl)
        have e1 : a'.eval (.tmp 11) = .string x2.1 := hJ.slot 1 11 rfl (hpre ⟨1, .data⟩ (by simp) rfl) rfl
        refine wpOp_callFn rfl rfl rfl (vs := #[.string x2.1]) (by simp only [List.map_toArray, List.map_cons, List.map_nil, e1]) (enters_of Tryz.func47 (by kernel_rfl) rfl) ((HC.out w').mono ?_)
        rintro e w5 ⟨rfl, hb5⟩
        refine ⟨_, rfl, _, rfl, ⟨fun _ => (hI.one h4).trans (hb5.mono (hI.one h4).size), (fun h => by rw [listed_other (by decide), h4] at h; cases h), fun _ => (hI.box h5).kept (below_grown hb5) (by nofun), (fun h => by rw [listed_other (by decide), h5] at h; cases h)⟩, fun _ => rfl, fun j u hj h => ?_⟩
        match j, hj, h with
        | 0, _, h => exact h
        | 1, _, h => exact h
        | 2, _, h => exact h
        | 3, hj, _ => rw [h3] at hj; cases hj
        | 4, hj, _ => rw [h4] at hj; cases hj
        | _ + 5, _, _ => trivial
      | 3, _ =>
        cases ho
        have h4 := hJ.notyet hn' 4 (by kernel_rfl)
        have h5 := hJ.notyet h4 5 (by kernel_rfl)
        have e2 : a'.eval (.tmp 12) = .string x2.1 := hJ.slot 2 12 rfl (hpre ⟨2, .data⟩ (by simp) rfl) rfl
        have hsz := (hI.one h4).size
        refine wpOp_buildSlice rfl rfl rfl (vs := #[(0, .string x2.1)]) (by simp only [List.map_toArray, List.map_cons, List.map_nil, e2]) (build_str w' x2.1) ⟨_, rfl, ⟨fun _ => (hI.one h4).alloc hsz _, (fun h => by rw [listed_other (by decide), h4] at h; cases h), fun _ => (hI.box h5).alloc _, (fun h => by rw [listed_other (by decide), h5] at h; cases h)⟩, fun _ => ⟨w'.heap.size, rfl, hsz, ?_⟩, fun j u hj h => ?_⟩
        · have := cell_one_new w' (.string x2.1) 9 0 (.string x2.1) rfl
          rwa [addr_add] at this
        · match j, hj, h with
          | 0, _, h => exact h
          | 1, _, h => exact h
          | 2, _, h => exact h
          | 3, hj, _ => rw [hn'] at hj; cases hj
          | 4, hj, _ => rw [h4] at hj; cases hj
          | _ + 5, _, _ => trivial
      | 4, _ =>
        cases ho
        have h5 := hJ.notyet hn' 5 (by kernel_rfl)
        have e0 : a'.eval (.tmp 10) = .slice va (byts pre).length vc := hJ.slot 0 10 rfl (hpre ⟨0, .data⟩ (by simp) rfl) rfl
        obtain ⟨k, e3, hk, hkc⟩ : ∃ k, a'.eval (.tmp 13) = .slice (some ⟨k, 0, none⟩) 1 1 ∧ W.heap.size ≤ k ∧ w'.cell? ⟨k, 0, none⟩ = some (.string x2.1) := hJ.slot 3 13 rfl (hpre ⟨3, .data⟩ (by simp) rfl) rfl
        have hb1 := hI.one hn'
        have hO1 : OwnT w' N0 (.slice va (byts pre).length vc) (byts pre) := World.ownsRow.kept hO (below_grown hb1) (own_or _)
        obtain ⟨v6, w6, hr6, ho6, hg6⟩ := append_text w' N0 _ (byts pre) k x2.1 hkc hO1 (by omega) (by have := hb1.size; omega)
        have hnr := (hI.box h5).not_row (show 79 ≠ 9 by decide) hO1
        refine wpOp_append rfl rfl rfl e0 e3 hr6 ⟨_, rfl, ⟨(fun h => by rw [listed_same (by omega)] at h; cases h), fun _ => ⟨(hb1.mono (by omega)).grown hg6 (by have := hb1.size; omega) (fun q e => (own_lt hO1 q e).1), (KeepsOthers.of_grownBy (below_grown hb1) (by nofun)).trans (KeepsOthers.of_grownBy hg6 fun j o e hj => ?_)⟩, fun _ => (hI.box h5).kept hg6 hnr, (fun h => by rw [listed_other (by decide), h5] at h; cases h)⟩, fun _ => ho6, fun j u hj h => ?_⟩
        · obtain ⟨-, -, o', ho', hc'⟩ := own_lt hO1 j e
          rw [hj] at ho'; cases ho'; exact hc'
        · match j, hj, h with
          | 0, _, h => exact h
          | 1, _, h => exact h
          | 2, _, h => exact h
          | 3, _, h =>
            obtain ⟨k', h1, h2, h3⟩ := h
            exact ⟨k', h1, h2, cell_far2 h3 hg6 fun e => by have := (own_lt hO k' e.symm).2.1; omega⟩
          | 4, hj, _ => rw [hn'] at hj; cases hj
          | _ + 5, _, _ => trivial
      | 5, _ =>
        cases ho
        have l4 := hpre ⟨4, .data⟩ (by simp) rfl
        have e4 : OwnT w' N0 (a'.eval (.tmp 14)) (byts pre ++ [byt x2]) := hJ.slot 4 14 rfl l4 rfl
        obtain ⟨u, hu⟩ : ∃ u, a'.eval (.tmp 14) = u := ⟨_, rfl⟩
        rw [hu] at e4
        obtain ⟨ua, uc, rfl⟩ := row_slice e4
        have hbx := hI.box hn'
        obtain ⟨hb2, hk2⟩ := hI.two l4
        have hnr := hbx.not_row (show 79 ≠ 9 by decide) e4
        refine wpOp_store rfl rfl rfl (hJ.kept (t := 3) (by kernel_rfl)) hu (store_box ua _ uc hbx) ⟨_, rfl, ⟨(fun h => by rw [listed_other (by decide), l4] at h; cases h), fun _ => ⟨hb2.setCell (p := ⟨N0, 0, none⟩) (Nat.le_refl _) _, hk2.trans (KeepsOthers.setCell _ _ _)⟩, (fun h => by rw [listed_same (by omega)] at h; cases h), fun _ => ⟨_, hbx.set _, World.ownsRow.kept e4 (grownBy_setCell' w' N0 _) (.inr hnr.symm)⟩⟩, (fun e => by cases e), fun j u' hj h => ?_⟩
        match j, hj, h with
        | 0, _, h => exact h
        | 1, _, h => exact h
        | 2, _, h => exact h
        | 3, _, h =>
          obtain ⟨k', h1, h2, h3⟩ := h
          exact ⟨k', h1, h2, cell_far2 h3 (grownBy_setCell' w' N0 _) fun e => by have := Option.some.inj e; omega⟩
        | 4, _, h =>
          have h' : OwnT w' N0 u' _ := h
          exact World.ownsRow.kept h' (grownBy_setCell' w' N0 _) (.inr (hbx.not_row (show 79 ≠ 9 by decide) h').symm)
        | _ + 5, _, _ => trivial
    case fin =>
      intro listed a' w' hJ hall
      obtain ⟨u, hu, hO2⟩ := hJ.inv.end' (hall 5 (by decide))
      obtain ⟨hb2, hk2⟩ := hJ.inv.two (hall 4 (by decide))
      refine ⟨hk2, trivial, ⟨u, hu, ?_, trivial⟩, hB.trans hb2⟩
      rw [byts_snoc]; exact hO2
  case done =>
    rintro D ys W hD rfl ⟨⟨v, hv, hrow, -⟩, hB⟩ hK
    rw [byts_all hs] at hrow
    obtain ⟨va, vc, rfl⟩ := row_slice hrow
    have hc := hv.cell
    have HX := Lib.hid (And.intro hrow hB)
    clear hrow hB
    gi_wp2
    refine ⟨by simp, .inl ⟨_, _, rfl, run_takeDeferred hK, ?_⟩⟩
    refine ⟨_, results_tmp rfl _ _ _, ?_⟩
    obtain ⟨hrow, hB⟩ := HX.out
    refine ⟨_, rfl, ?_, ?_⟩
    · rw [HN.out]; exact ownsRow_putObj hrow (.deferred none) hK rfl
    · rw [HN.out]; exact hB.trans (belowK_b (w := w2) (by omega) W D _ _ hD hK rfl rfl)
  case stop =>
    rintro D c pre W _ _ h _
    exact h.elim
theorem levelsF_any (s : ByteArray) (hs : s.size ≤ 1000) (w : World) : Calls Tryz.prog 39 #[.string s] w fun e w' => LvPost w (lv s.data.toList) e w' := callsIn_wide.1 (levelsF_wide 4 (by decide) s hs w)
end Go.Proofs.YtgcfgheamaoceaaGreatDoor

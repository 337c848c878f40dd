/- Layer 12: sieved, over the runes of a text and over a slice of runes (printed by wip/tools/mkutfF.py). -/
import Derived.Test.YtbmnngcogdamkaaDoorUtfE
import Derived.Test.YtbmnngcogdamkaaDoorWireB
namespace Go.Proofs.YtbmnngcogdamkaaDoor
open Go.RowKit Go.Shelf

attribute [local go_sem] Oper.semAt_some

theorem infoInt : (Tryd.prog.info? 3).map (fun i => (i.zero, i.size, i.bytes)) = some (some (.int .i64 0), 1, 8) := by kernel_rfl
def natVals (l : List Nat) : List Value := l.map fun (k : Nat) => Value.int .i64 k
/-- The places of those that are such. -/
def suchL (p : Int → Bool) (l : List (Nat × Int)) : List Nat := (l.filter fun x => p x.2).map (·.1)
theorem suchL_hit {p : Int → Bool} (l : List (Nat × Int)) {x : Nat × Int} (h : p x.2 = true) : suchL p (l ++ [x]) = suchL p l ++ [x.1] := by
  simp only [suchL, List.filter_append, List.map_append]; rw [List.filter_cons_of_pos (p := fun x : Nat × Int => p x.2) h]; rfl
theorem suchL_miss {p : Int → Bool} (l : List (Nat × Int)) {x : Nat × Int} (h : p x.2 = false) : suchL p (l ++ [x]) = suchL p l := by
  simp only [suchL, List.filter_append, List.map_append]; rw [List.filter_cons_of_neg (p := fun x : Nat × Int => p x.2) (by rw [h]; decide)]; simp
theorem suchL_len (p : Int → Bool) (l : List (Nat × Int)) : (suchL p l).length ≤ l.length := by
  unfold suchL; rw [List.length_map]; exact List.length_filter_le _ _
theorem row_slice {W : World} {base : Nat} {e : TypeId} {size n : Nat} {v : Value} {xs : List Value} (h : W.ownsRow base e size v n xs) : ∃ a c, v = .slice a n c := by
  rcases h.2 with ⟨rfl, h0⟩ | ⟨g, cap, cur, rfl, _⟩
  · exact ⟨none, 0, by rw [h0]⟩
  · exact ⟨_, _, rfl⟩
theorem own_or (v : Value) : v.ownBlock = none ∨ v.ownBlock ≠ none := by cases v.ownBlock <;> simp
def SvPost (w : World) (m : Nat) (e : Ending) (w' : World) : Prop := ∃ a c, e = .returned (.slice a m c) ∧ Below w.heap.size w w'
set_option maxRecDepth 100000 in
set_option maxHeartbeats 4000000 in
theorem sievedT_wide (n : Nat) (hn : 4 ≤ n) (S C : Nat) (p : Int → Bool) (items : List (Nat × Int)) (Sp : List (Nat × Int) → Prop) (N : Nat) (hN : N ≤ 1000000) (K : Nat → Prop) (w : World) (hK : ∀ k, K k → k < w.heap.size)
    (hseq : SeqStopsK Fence.wide (n - 1) Tryd.prog 31 #[.pointer (some ⟨S, 0, none⟩)] encR (KeepsOn K) (fun ys => ys = items) Sp N w)
    (hp : ∀ q W, Below w.heap.size w W → Calls Tryd.prog 22 #[.int .i32 q, .pointer (some ⟨C, 0, none⟩)] W fun e w' => e = .returned (.bool (p q)) ∧ Below W.heap.size W w') :
    CallsIn Fence.wide n Tryd.prog 23 #[.func (.func 31) #[] #[.pointer (some ⟨S, 0, none⟩)], .func (.func 22) #[] #[.pointer (some ⟨C, 0, none⟩)]] w fun en W' => SvPost w (suchL p items).length en W' := by
  have h1 : 1 ≤ n := by omega
  obtain ⟨i0, hi, hz0, hz1, hz2⟩ := info_parts infoInt
  have HP := Lib.hid hp
  have HSQ := Lib.hid hseq
  clear hp hseq
  refine callsIn_of_wp_marks Tryd.func23 rfl trivial ?_ rfl
  simp only [Tryd.ntmps23, List.size_toArray, List.length_cons, List.length_nil, Nat.reduceAdd, Nat.reduceSub, Array.replicate_succ, Array.replicate_zero, List.push_toArray, List.append_toArray, List.nil_append, List.cons_append]
  gi_wp2
  obtain ⟨w1, hw1⟩ : ∃ w1, w.alloc (.cells #[.func (.func 22) #[] #[.pointer (some ⟨C, 0, none⟩)]] 36) = w1 := ⟨_, rfl⟩
  obtain ⟨w2, hw2⟩ : ∃ w2, w1.alloc (.cells #[.slice none 0 0] 49) = w2 := ⟨_, rfl⟩
  rw [hw1, hw2]
  have hs1 : w1.heap.size = w.heap.size + 1 := by rw [← hw1]; simp
  have hs2 : w2.heap.size = w.heap.size + 2 := by rw [← hw2]; simp [hs1]
  have bS : Boxed w2 w.heap.size 36 (.func (.func 22) #[] #[.pointer (some ⟨C, 0, none⟩)]) := by rw [← hw2, ← hw1]; exact (Boxed.new w _ _).alloc _
  have bV : Boxed w2 (w.heap.size + 1) 49 (.slice none 0 0) := by rw [← hw2, ← hs1]; exact Boxed.new w1 _ _
  have hB0 : Below w.heap.size w w2 := by rw [← hw2, ← hw1]; exact ((Below.refl _ w).alloc (Nat.le_refl _) _).alloc (by simp) _
  clear hw1 hw2 hs1
  obtain ⟨N0, hN0⟩ : ∃ N0, w.heap.size = N0 := ⟨_, rfl⟩
  have hBw : Below w.heap.size w w2 := hB0
  rw [hN0] at HP hK hs2 bS bV hB0 ⊢
  refine wpIn_rangeFunc_ownF rfl h1 (gf := 31) (lb := #[.pointer (some ⟨S, 0, none⟩)]) rfl trivial (enters_of Tryd.func31 (by kernel_rfl) rfl)
    HSQ.out KeepsOn.trans (keepsOn_pb (fun k hk => by have := hK k hk; omega)) hBw (fun _ => rfl)
    (fun pre W => ((∃ v, Boxed W (N0 + 1) 49 v ∧ W.ownsRow N0 3 1 v (suchL p pre).length (natVals (suchL p pre)) ∧ True) ∧ Boxed W N0 36 (.func (.func 22) #[] #[.pointer (some ⟨C, 0, none⟩)])) ∧ Below N0 w W)
    (fun _ _ _ => False)
    (OwnFrom.and (OwnFrom.and (Own.from (holdsRow_own N0 (N0 + 1) 49 3 1 (fun pre => (suchL p pre).length) (fun pre => natVals (suchL p pre)) (fun _ _ => True)) _) (Own.from (fun s A C row hs hg hr => hs.kept hg (fun e' => by obtain ⟨o, ho, hc⟩ := hr _ e'.symm; rw [show A.heap[N0]? = _ from hs] at ho; cases ho; cases hc)) _)) (ownFrom_below (by omega) (by omega)))
    (fun _ _ _ _ _ hs _ _ => hs)
    ⟨⟨⟨_, bV, World.ownsRow_nil _ _ _ _, trivial⟩, bS⟩, hB0⟩
    (fun x => { tmps := #[.func (.func 31) #[] #[.pointer (some ⟨S, 0, none⟩)], .func (.func 22) #[] #[.pointer (some ⟨C, 0, none⟩)], undef, .pointer (some ⟨N0, 0, none⟩), .pointer (some ⟨N0 + 1, 0, none⟩), .int .i64 x.1, .int .i32 x.2, .func (.func 31) #[] #[.pointer (some ⟨S, 0, none⟩)], .int .i64 x.1, .int .i32 x.2, undef, undef, undef, undef, undef, undef, undef, undef], defers := [] }) ?assign ?body ?done ?stop
  case assign =>
    intro l x W K hK
    simp only [encR]
    gi_wp2
    exact hK
  case body =>
    rintro l pre ⟨x1, x2⟩ W ⟨⟨⟨v, hv, hrow, -⟩, hS⟩, hB⟩ hlt
    have hc := hv.cell
    have hcs := hS.cell
    have hpl := suchL_len p pre
    have HC := Lib.hid (HP.out x2 W hB)
    have hdp : Fence.wide.depth.isSome = true → 1 ≤ n - 1 - 1 := fun _ => by omega
    have HX := Lib.hid (And.intro (And.intro hv (And.intro hrow hS)) hB)
    have HH := Lib.hid (@suchL_hit p pre (x1, x2))
    have HM := Lib.hid (@suchL_miss p pre (x1, x2))
    simp only at HH HM
    generalize p x2 = b at HC HH HM
    cases b with
    | false =>
      clear hv hrow hS hB
      gi_wp2_with (refine ⟨trivial, hdp, ?_⟩; refine (CallsIn.inRound l (callsIn_wide.2 HC.out)).mono ?_; rintro en w' ⟨rfl, hb⟩)
      obtain ⟨⟨hv, hrow, hS⟩, hB⟩ := HX.out
      have hsz := hB.size
      have hbg := below_grown hb
      exact ⟨KeepsOthers.of_grownBy hbg (fun r o e => by cases e), KeepsOn.of_below hb (fun k hk => by have := hK k hk; omega), ⟨⟨v, hv.kept hbg (by simp), by rw [HM.out (by trivial)]; exact hrow.kept hbg (own_or _), trivial⟩, hS.kept hbg (by simp)⟩, hB.trans (hb.mono (by omega))⟩
    | true =>
      obtain ⟨va, vc, rfl⟩ := row_slice hrow
      clear hv hrow hS hB
      have hml : (suchL p pre).length + 1 ≤ maxLen := by unfold maxLen; omega
      gi_wp2_with (first
        | (refine ⟨trivial, hdp, ?_⟩; refine (CallsIn.inRound l (callsIn_wide.2 HC.out)).mono ?_; rintro en w' ⟨rfl, hb⟩; have hbg := below_grown hb; have hv2 := HX.out.1.1.kept hbg (by simp); have hc2 := hv2.cell; have HR := Lib.hid (And.intro ((HX.out.1.2.1.kept hbg (own_or _)).alloc (.cells #[.int .i64 x1] 3)) (And.intro hv2 (And.intro (HX.out.1.2.1.kept hbg (own_or _)) (And.intro (HX.out.1.2.2.kept hbg (by simp)) hb)))); clear hbg hv2 hb)
        | (gi_at_builtin; refine wpListIn_append_own _ rfl _ _ 49 rfl N0 3 i0 (.int .i64 0) 1 8 Tryd.underlying49 hi hz0 hz1 hz2 rfl (by decide) _ _ _ rfl HR.out.1 ⟨_, 0, none⟩ 1 1 [.int .i64 x1] rfl rfl (cell_one_new _ _ _) (by simp [Value.oneCell']) hml (by omega) (by have h := HX.out.2.size; have h2 := HR.out.2.2.2.2.size; simp; omega) ?_; intro v' w1 hown' hgrow _; obtain ⟨g', cap', rfl⟩ := ownsRow_succ hown'; obtain ⟨hv1, hv2, hr2, hk2, hb2⟩ := HR.out.2.1.appended (by decide) HR.out.2.2.1 (Nat.le_trans (hN0 ▸ HX.out.2.size) HR.out.2.2.2.2.size) (by omega) hown' hgrow; have hc1 := hv1.cell; have hf1 := hv1.frozen))
      obtain ⟨⟨hv, hrow, hS⟩, hB⟩ := HX.out
      obtain ⟨-, hv3, hrow3, hS3, hb3⟩ := HR.out
      have hsz := hB.size
      have hb4 : Below N0 W w' := hb3.mono (by omega)
      refine ⟨(KeepsOthers.of_grownBy (below_grown hb3) (fun r o e => by cases e)).trans hk2, KeepsOn.of_below (hb4.trans hb2) (fun k hk => by have := hK k hk; omega), ⟨⟨_, hv2, ?_, trivial⟩, Boxed.other ((hS3.alloc _).kept hgrow (hS3.not_row (by decide) hrow3)) (by omega) _⟩, (hB.trans hb4).trans hb2⟩
      rw [HH.out (by trivial)]; simpa [natVals] using hr2
  case done =>
    rintro D ys W hD rfl ⟨⟨⟨v, hv, hrow, -⟩, hS⟩, hB⟩ hK
    obtain ⟨va, vc, rfl⟩ := row_slice hrow
    have hc := hv.cell
    have hf := hv.frozen
    have HX := Lib.hid (And.intro hv hB)
    clear hv hrow
    gi_wp2
    obtain ⟨hv, hB'⟩ := HX.out
    have hDk : (W.setCell ⟨N0 + 1, 0, none⟩ (.slice va (suchL p ys).length vc)).heap[D]? = some (.deferred (some [])) := (Below.heap_setCell W _ _ D (by show D ≠ N0 + 1; omega)).trans hK
    have hv2 := hv.set (.slice va (suchL p ys).length vc)
    refine ⟨by simp, .inl ⟨_, _, rfl, run_takeDeferred hDk, ?_⟩⟩
    refine ⟨_, results_cell1 rfl _ _ ⟨N0 + 1, 0, none⟩ _ rfl (Tryd.isAgg49 _) ((Boxed.kept hv2 (grownBy_putObj' _ D _) (fun e' => by have := Option.some.inj e'; omega)).cell), _, _, rfl, ?_⟩
    rw [hN0]; exact (hB'.setCell (p := ⟨N0 + 1, 0, none⟩) (by show N0 ≤ N0 + 1; omega) _).trans (belowK_b (w := w2) (by omega) _ D _ _ hD hDk rfl rfl)
  case stop =>
    rintro D c pre W _ _ hx _
    exact hx.elim
set_option maxRecDepth 100000 in
set_option maxHeartbeats 4000000 in
theorem sievedL_wide (n : Nat) (hn : 4 ≤ n) (S : Nat) (p : Int → Bool) (items : List (Nat × Int)) (Sp : List (Nat × Int) → Prop) (N : Nat) (hN : N ≤ 1000000) (K : Nat → Prop) (w : World) (hK : ∀ k, K k → k < w.heap.size)
    (hseq : SeqStopsK Fence.wide (n - 1) Tryd.prog 33 #[.pointer (some ⟨S, 0, none⟩)] encR (KeepsOn K) (fun ys => ys = items) Sp N w)
    (hp : ∀ q W, Below w.heap.size w W → Calls Tryd.prog 25 #[.int .i32 q] W fun e w' => e = .returned (.bool (p q)) ∧ Below W.heap.size W w') :
    CallsIn Fence.wide n Tryd.prog 23 #[.func (.func 33) #[] #[.pointer (some ⟨S, 0, none⟩)], .func (.func 25) #[] #[]] w fun en W' => SvPost w (suchL p items).length en W' := by
  have h1 : 1 ≤ n := by omega
  obtain ⟨i0, hi, hz0, hz1, hz2⟩ := info_parts infoInt
  have HP := Lib.hid hp
  have HSQ := Lib.hid hseq
  clear hp hseq
  refine callsIn_of_wp_marks Tryd.func23 rfl trivial ?_ rfl
  simp only [Tryd.ntmps23, List.size_toArray, List.length_cons, List.length_nil, Nat.reduceAdd, Nat.reduceSub, Array.replicate_succ, Array.replicate_zero, List.push_toArray, List.append_toArray, List.nil_append, List.cons_append]
  gi_wp2
  obtain ⟨w1, hw1⟩ : ∃ w1, w.alloc (.cells #[.func (.func 25) #[] #[]] 36) = w1 := ⟨_, rfl⟩
  obtain ⟨w2, hw2⟩ : ∃ w2, w1.alloc (.cells #[.slice none 0 0] 49) = w2 := ⟨_, rfl⟩
  rw [hw1, hw2]
  have hs1 : w1.heap.size = w.heap.size + 1 := by rw [← hw1]; simp
  have hs2 : w2.heap.size = w.heap.size + 2 := by rw [← hw2]; simp [hs1]
  have bS : Boxed w2 w.heap.size 36 (.func (.func 25) #[] #[]) := by rw [← hw2, ← hw1]; exact (Boxed.new w _ _).alloc _
  have bV : Boxed w2 (w.heap.size + 1) 49 (.slice none 0 0) := by rw [← hw2, ← hs1]; exact Boxed.new w1 _ _
  have hB0 : Below w.heap.size w w2 := by rw [← hw2, ← hw1]; exact ((Below.refl _ w).alloc (Nat.le_refl _) _).alloc (by simp) _
  clear hw1 hw2 hs1
  obtain ⟨N0, hN0⟩ : ∃ N0, w.heap.size = N0 := ⟨_, rfl⟩
  have hBw : Below w.heap.size w w2 := hB0
  rw [hN0] at HP hK hs2 bS bV hB0 ⊢
  refine wpIn_rangeFunc_ownF rfl h1 (gf := 33) (lb := #[.pointer (some ⟨S, 0, none⟩)]) rfl trivial (enters_of Tryd.func33 (by kernel_rfl) rfl)
    HSQ.out KeepsOn.trans (keepsOn_pb (fun k hk => by have := hK k hk; omega)) hBw (fun _ => rfl)
    (fun pre W => ((∃ v, Boxed W (N0 + 1) 49 v ∧ W.ownsRow N0 3 1 v (suchL p pre).length (natVals (suchL p pre)) ∧ True) ∧ Boxed W N0 36 (.func (.func 25) #[] #[])) ∧ Below N0 w W)
    (fun _ _ _ => False)
    (OwnFrom.and (OwnFrom.and (Own.from (holdsRow_own N0 (N0 + 1) 49 3 1 (fun pre => (suchL p pre).length) (fun pre => natVals (suchL p pre)) (fun _ _ => True)) _) (Own.from (fun s A C row hs hg hr => hs.kept hg (fun e' => by obtain ⟨o, ho, hc⟩ := hr _ e'.symm; rw [show A.heap[N0]? = _ from hs] at ho; cases ho; cases hc)) _)) (ownFrom_below (by omega) (by omega)))
    (fun _ _ _ _ _ hs _ _ => hs)
    ⟨⟨⟨_, bV, World.ownsRow_nil _ _ _ _, trivial⟩, bS⟩, hB0⟩
    (fun x => { tmps := #[.func (.func 33) #[] #[.pointer (some ⟨S, 0, none⟩)], .func (.func 25) #[] #[], undef, .pointer (some ⟨N0, 0, none⟩), .pointer (some ⟨N0 + 1, 0, none⟩), .int .i64 x.1, .int .i32 x.2, .func (.func 33) #[] #[.pointer (some ⟨S, 0, none⟩)], .int .i64 x.1, .int .i32 x.2, undef, undef, undef, undef, undef, undef, undef, undef], defers := [] }) ?assign ?body ?done ?stop
  case assign =>
    intro l x W K hK
    simp only [encR]
    gi_wp2
    exact hK
  case body =>
    rintro l pre ⟨x1, x2⟩ W ⟨⟨⟨v, hv, hrow, -⟩, hS⟩, hB⟩ hlt
    have hc := hv.cell
    have hcs := hS.cell
    have hpl := suchL_len p pre
    have HC := Lib.hid (HP.out x2 W hB)
    have hdp : Fence.wide.depth.isSome = true → 1 ≤ n - 1 - 1 := fun _ => by omega
    have HX := Lib.hid (And.intro (And.intro hv (And.intro hrow hS)) hB)
    have HH := Lib.hid (@suchL_hit p pre (x1, x2))
    have HM := Lib.hid (@suchL_miss p pre (x1, x2))
    simp only at HH HM
    generalize p x2 = b at HC HH HM
    cases b with
    | false =>
      clear hv hrow hS hB
      gi_wp2_with (refine ⟨trivial, hdp, ?_⟩; refine (CallsIn.inRound l (callsIn_wide.2 HC.out)).mono ?_; rintro en w' ⟨rfl, hb⟩)
      obtain ⟨⟨hv, hrow, hS⟩, hB⟩ := HX.out
      have hsz := hB.size
      have hbg := below_grown hb
      exact ⟨KeepsOthers.of_grownBy hbg (fun r o e => by cases e), KeepsOn.of_below hb (fun k hk => by have := hK k hk; omega), ⟨⟨v, hv.kept hbg (by simp), by rw [HM.out (by trivial)]; exact hrow.kept hbg (own_or _), trivial⟩, hS.kept hbg (by simp)⟩, hB.trans (hb.mono (by omega))⟩
    | true =>
      obtain ⟨va, vc, rfl⟩ := row_slice hrow
      clear hv hrow hS hB
      have hml : (suchL p pre).length + 1 ≤ maxLen := by unfold maxLen; omega
      gi_wp2_with (first
        | (refine ⟨trivial, hdp, ?_⟩; refine (CallsIn.inRound l (callsIn_wide.2 HC.out)).mono ?_; rintro en w' ⟨rfl, hb⟩; have hbg := below_grown hb; have hv2 := HX.out.1.1.kept hbg (by simp); have hc2 := hv2.cell; have HR := Lib.hid (And.intro ((HX.out.1.2.1.kept hbg (own_or _)).alloc (.cells #[.int .i64 x1] 3)) (And.intro hv2 (And.intro (HX.out.1.2.1.kept hbg (own_or _)) (And.intro (HX.out.1.2.2.kept hbg (by simp)) hb)))); clear hbg hv2 hb)
        | (gi_at_builtin; refine wpListIn_append_own _ rfl _ _ 49 rfl N0 3 i0 (.int .i64 0) 1 8 Tryd.underlying49 hi hz0 hz1 hz2 rfl (by decide) _ _ _ rfl HR.out.1 ⟨_, 0, none⟩ 1 1 [.int .i64 x1] rfl rfl (cell_one_new _ _ _) (by simp [Value.oneCell']) hml (by omega) (by have h := HX.out.2.size; have h2 := HR.out.2.2.2.2.size; simp; omega) ?_; intro v' w1 hown' hgrow _; obtain ⟨g', cap', rfl⟩ := ownsRow_succ hown'; obtain ⟨hv1, hv2, hr2, hk2, hb2⟩ := HR.out.2.1.appended (by decide) HR.out.2.2.1 (Nat.le_trans (hN0 ▸ HX.out.2.size) HR.out.2.2.2.2.size) (by omega) hown' hgrow; have hc1 := hv1.cell; have hf1 := hv1.frozen))
      obtain ⟨⟨hv, hrow, hS⟩, hB⟩ := HX.out
      obtain ⟨-, hv3, hrow3, hS3, hb3⟩ := HR.out
      have hsz := hB.size
      have hb4 : Below N0 W w' := hb3.mono (by omega)
      refine ⟨(KeepsOthers.of_grownBy (below_grown hb3) (fun r o e => by cases e)).trans hk2, KeepsOn.of_below (hb4.trans hb2) (fun k hk => by have := hK k hk; omega), ⟨⟨_, hv2, ?_, trivial⟩, Boxed.other ((hS3.alloc _).kept hgrow (hS3.not_row (by decide) hrow3)) (by omega) _⟩, (hB.trans hb4).trans hb2⟩
      rw [HH.out (by trivial)]; simpa [natVals] using hr2
  case done =>
    rintro D ys W hD rfl ⟨⟨⟨v, hv, hrow, -⟩, hS⟩, hB⟩ hK
    obtain ⟨va, vc, rfl⟩ := row_slice hrow
    have hc := hv.cell
    have hf := hv.frozen
    have HX := Lib.hid (And.intro hv hB)
    clear hv hrow
    gi_wp2
    obtain ⟨hv, hB'⟩ := HX.out
    have hDk : (W.setCell ⟨N0 + 1, 0, none⟩ (.slice va (suchL p ys).length vc)).heap[D]? = some (.deferred (some [])) := (Below.heap_setCell W _ _ D (by show D ≠ N0 + 1; omega)).trans hK
    have hv2 := hv.set (.slice va (suchL p ys).length vc)
    refine ⟨by simp, .inl ⟨_, _, rfl, run_takeDeferred hDk, ?_⟩⟩
    refine ⟨_, results_cell1 rfl _ _ ⟨N0 + 1, 0, none⟩ _ rfl (Tryd.isAgg49 _) ((Boxed.kept hv2 (grownBy_putObj' _ D _) (fun e' => by have := Option.some.inj e'; omega)).cell), _, _, rfl, ?_⟩
    rw [hN0]; exact (hB'.setCell (p := ⟨N0 + 1, 0, none⟩) (by show N0 ≤ N0 + 1; omega) _).trans (belowK_b (w := w2) (by omega) _ D _ _ hD hDk rfl rfl)
  case stop =>
    rintro D c pre W _ _ hx _
    exact hx.elim
end Go.Proofs.YtbmnngcogdamkaaDoor

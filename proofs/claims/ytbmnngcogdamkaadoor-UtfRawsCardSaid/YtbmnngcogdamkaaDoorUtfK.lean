/- Layer 12: Runes. -/
import Derived.Test.YtbmnngcogdamkaaDoorUtfJ
namespace Go.Proofs.YtbmnngcogdamkaaDoor
open Go.RowKit Go.Shelf

attribute [local go_sem] Oper.semAt_some

theorem wpIn_scope_jumps {n : Nat} {P : Program} {c rest : Code} {Q : Exit → Act → World → Prop} {a : Act} {w : World} (l : Nat) (J : Act → World → Prop) (μ : Act → World → Nat) (hf : findLabel c l = some rest)
    (first : c.wpIn Fence.wide n P (Exit.jump l J Q) a w) (pass : ∀ a w, J a w → rest.wpIn Fence.wide n P (Exit.jump l (fun a' w' => J a' w' ∧ μ a' w' < μ a w) Q) a w) : (Code.scope c).wpIn Fence.wide n P Q a w :=
  wpIn_wide.2 (wp_scope_jumps l J μ hf (wpIn_wide.1 first) fun a w h => wpIn_wide.1 (pass a w h))
theorem infoI32 : (Tryd.prog.info? 21).map (fun i => (i.zero, i.size, i.bytes)) = some (some (.int .i32 0), 1, 4) := by kernel_rfl
def runeVals (l : List Int) : List Value := l.map fun r => Value.int .i32 r
/-- The slice value v, made since the heap had base blocks (or nil), holds these numbers. -/
def OwnR (w : World) (base : Nat) (v : Value) (l : List Int) : Prop := w.ownsRow base 21 1 v l.length (runeVals l)
def seconds (l : List (Nat × Int)) : List Int := l.map (·.2)
theorem seconds_snoc (l : List (Nat × Int)) (x : Nat × Int) : seconds (l ++ [x]) = seconds l ++ [x.2] := by simp [seconds]
theorem seconds_len (l : List (Nat × Int)) : (seconds l).length = l.length := by simp [seconds]
theorem seconds_pls (a : Nat) (rs : List Nat) : seconds (pls a rs) = rs.map fun (n : Nat) => (n : Int) := by
  induction rs generalizing a with
  | nil => rfl
  | cons r t ih =>
    have := ih (a + (lenB r + 1))
    unfold seconds at this ⊢
    simp [pls, this]
theorem seconds_right {s : List UInt8} {rs : List Nat} (h : ∀ x ∈ plsAll s rs, x.2 ≠ -1) : seconds (plsAll s rs) = rs.map fun (n : Nat) => (n : Int) := by
  have := (plsAll_right h).2
  unfold plsAll
  rw [if_neg this, List.append_nil, seconds_pls]
/-- What Runes leaves: the runes, or that the text is wrong. -/
def RunesPost (w : World) (s : List UInt8) (rs : List Nat) (e : Ending) (w' : World) : Prop :=
  (¬ (textR rs).length < s.length ∧ ∃ v, e = .returned (.tuple #[v, .int .i64 0]) ∧ OwnR w' w.heap.size v (rs.map fun (n : Nat) => (n : Int)) ∧ Below w.heap.size w w') ∨
  ((textR rs).length < s.length ∧ e = .returned (.tuple #[.slice none 0 0, .int .i64 220]) ∧ Below w.heap.size w w')
def RunesJ (w w2 : World) (s : List UInt8) (rs : List Nat) (a' : Act) (w' : World) : Prop := (textR rs).length < s.length ∧ a'.tmps.size = 18 ∧ ∃ D, w2.heap.size ≤ D ∧ a'.defers = [{ target := .collected D, args := #[] }] ∧ w'.heap[D]? = some (.deferred (some [])) ∧ Below w.heap.size w w'
set_option maxRecDepth 100000 in
set_option maxHeartbeats 4000000 in
theorem runesF_wide (n : Nat) (hn : 4 ≤ n) (s : ByteArray) (rs : List Nat) (hrd : Rd s rs) (hs : s.size ≤ maxLen) (w : World) (ht : Tabs w) :
    CallsIn Fence.wide n Tryd.prog 9 #[.string s] w fun e w' => RunesPost w s.data.toList rs e w' := by
  have h1 : 1 ≤ n := by omega
  have h2 := ht.two
  obtain ⟨i0, hi, hz0, hz1, hz2⟩ := info_parts infoI32
  refine callsIn_of_wp_marks Tryd.func9 rfl trivial ?_ rfl
  simp only [Tryd.ntmps9, List.size_toArray, List.length_cons, List.length_nil, Nat.reduceAdd, Nat.reduceSub, Array.replicate_succ, Array.replicate_zero, List.push_toArray, List.append_toArray, List.nil_append, List.cons_append]
  have HT := Lib.hid ht
  clear ht
  obtain ⟨w1, hw1⟩ : ∃ w1, w.alloc (.cells #[.slice none 0 0] 23) = w1 := ⟨_, rfl⟩
  obtain ⟨w2, hw2⟩ : ∃ w2, w1.alloc (.cells #[.string s] 9) = w2 := ⟨_, rfl⟩
  have hs1 : w1.heap.size = w.heap.size + 1 := by rw [← hw1]; simp
  have hs2 : w2.heap.size = w.heap.size + 2 := by rw [← hw2]; simp [hs1]
  have bV : Boxed w2 w.heap.size 23 (.slice none 0 0) := by rw [← hw2, ← hw1]; exact (Boxed.new w _ _).alloc _
  have bS : Boxed w2 (w.heap.size + 1) 9 (.string s) := by rw [← hw2, ← hs1]; exact Boxed.new w1 _ _
  have hB0 : Below w.heap.size w w2 := by rw [← hw2, ← hw1]; exact ((Below.refl _ w).alloc (Nat.le_refl _) _).alloc (by simp) _
  have HW1 := Lib.hid hw1
  have HW2 := Lib.hid hw2
  have HS1 := Lib.hid hs1
  have hsh := hrd.short
  clear hw1 hw2 hs1
  obtain ⟨N0, hN0⟩ : ∃ N0, w.heap.size = N0 := ⟨_, rfl⟩
  have HN := Lib.hid hN0
  rw [hN0] at h2 hs2 bV bS hB0 HS1
  gi_wp2
  refine wpIn_scope_jumps 0 (RunesJ w w2 s.data.toList rs) (fun _ _ => 0) rfl ?first ?pass
  case first =>
    gi_wp2_with (refine ⟨trivial, ?_⟩; gi_at_call 20; refine (runes_in Fence.wide _ trivial rfl s _).mono ?_; rintro en w' ⟨rfl, rfl⟩)
    rw [HW1.out, HW2.out]
    refine wpIn_rangeFunc_ownF rfl h1 (gf := 31) (lb := #[.pointer (some ⟨N0 + 1, 0, none⟩)]) rfl trivial (enters_of Tryd.func31 (by kernel_rfl) rfl)
      (runes_stops (n - 1) (by omega) (N0 + 1) s rs hrd hs (KS (N0 + 1)) (.inl rfl) (fun _ h => .inr h) w2 (fun k hk => by rcases hk with rfl | hk <;> omega) bS.cell (HT.out.below hB0 (by omega))) KeepsOn.trans (keepsOn_pb (fun k hk => by rcases hk with rfl | hk <;> omega)) (Below.refl _ _) (fun _ => rfl)
      (fun pre W => (((∀ x ∈ pre, x.2 ≠ -1) ∧ (∃ v, Boxed W N0 23 v ∧ W.ownsRow N0 21 1 v (seconds pre).length (runeVals (seconds pre)) ∧ True)) ∧ Boxed W (N0 + 1) 9 (.string s)) ∧ Below N0 w W)
      (fun c pre W => (c = .goto 0 ∧ ∃ pre' x, pre = pre' ++ [x] ∧ (x : Nat × Int).2 = -1) ∧ Below N0 w W)
      (OwnFrom.and (OwnFrom.and (OwnFrom.and (ownFrom_pure _ _) (Own.from (holdsRow_own N0 N0 23 21 1 (fun pre => (seconds pre).length) (fun pre => runeVals (seconds pre)) (fun _ _ => True)) _)) (Own.from (boxed_own _ _ _) _)) (ownFrom_below (by omega) (by omega)))
      (fun c => OwnFrom.and (ownFrom_pure _ _) (ownFrom_below (by omega) (by omega)))
      ⟨⟨⟨(fun _ h => by cases h), _, bV, World.ownsRow_nil _ _ _ _, trivial⟩, bS⟩, hB0⟩
      (fun x => { tmps := #[.string s, undef, .slice none 0 0, .int .i64 0, .pointer (some ⟨N0, 0, none⟩), undef, .int .i32 x.2, .string s, .func (.func 31) #[] #[.pointer (some ⟨N0 + 1, 0, none⟩)], .int .i64 x.1, .int .i32 x.2, undef, undef, undef, undef, undef, undef, undef], defers := [] }) ?assign ?body ?done ?stop
    case assign =>
      intro l x W K hK
      simp only [encR]
      gi_wp2
      exact hK
    case body =>
      rintro l pre ⟨x1, x2⟩ W ⟨⟨⟨hpre, v, hv, hrow, -⟩, hS⟩, hB⟩ hlt
      have hc := hv.cell
      have hsl := Nat.le_of_eq (seconds_len pre)
      by_cases hx : x2 = -1
      · have hx1 : (x2 == -1) = true := by simpa using hx
        have HX := Lib.hid (And.intro hB hx)
        clear hB hpre hv hrow hx hS
        gi_wp2
        refine wpIn_goto ?_
        exact ⟨KeepsOthers.refl _, ⟨rfl, pre, _, rfl, HX.out.2⟩, HX.out.1⟩
      · have hx1 : (x2 == -1) = false := by simpa using hx
        obtain ⟨va, vc, rfl⟩ := row_slice hrow
        have HX := Lib.hid (And.intro hv (And.intro hrow (And.intro hB (And.intro hpre (And.intro hx hS)))))
        have HR := Lib.hid (hrow.alloc (.cells #[.int .i32 x2] 21))
        have hml : (seconds pre).length + 1 ≤ maxLen := by unfold maxLen; omega
        clear hv hrow hB hpre hx hS
        gi_wp2_with (gi_at_builtin; refine wpListIn_append_own _ rfl _ _ 23 rfl N0 21 i0 (.int .i32 0) 1 4 Tryd.underlying23 hi hz0 hz1 hz2 rfl (by decide) _ _ _ rfl HR.out ⟨W.heap.size, 0, none⟩ 1 1 [.int .i32 x2] rfl rfl (cell_one_new _ _ _) (by simp [Value.oneCell']) hml (by omega) (by have h := HX.out.2.2.1.size; have h2 := HN.out; simp; omega) ?_; intro v' w1' hown' hgrow _; obtain ⟨g', cap', rfl⟩ := ownsRow_succ hown'; obtain ⟨hv1, hv2, hr2, hk2, hb2⟩ := HX.out.1.appended (by decide) HX.out.2.1 (HN.out ▸ HX.out.2.2.1.size) (by omega) hown' hgrow; have hc1 := hv1.cell; have hf1 := hv1.frozen)
        obtain ⟨hv, hrow, hB, hpre, hx, hS⟩ := HX.out
        have hS2 := Boxed.other ((hS.alloc _).kept hgrow (hS.not_row (by decide) hrow)) (show N0 + 1 ≠ N0 by omega) (.slice (some ⟨g', 0, none⟩) ((seconds pre).length + 1) cap')
        refine ⟨hk2, fun k hk => ?_, ⟨⟨(fun z hz => (List.mem_append.1 hz).elim (hpre z) (fun e => by simp at e; subst e; exact hx)), _, hv2, ?_, trivial⟩, hS2⟩, hB.trans hb2⟩
        · rcases hk with rfl | hk
          · exact (show _ = _ from hS2).trans (show _ = _ from hS).symm
          · exact hb2.block k (by omega)
        · rw [seconds_snoc]; simpa [runeVals] using hr2
    case done =>
      rintro D ys W hD rfl ⟨⟨⟨hpre, v, hv, hrow, -⟩, -⟩, hB⟩ hK
      rw [seconds_right hpre] at hrow
      obtain ⟨va, vc, rfl⟩ := row_slice hrow
      have hc := hv.cell
      have hf := hv.frozen
      have HX := Lib.hid (And.intro hpre (And.intro hrow hB))
      clear hpre hrow
      gi_wp2
      simp only [Exit.jump]
      refine ⟨by simp, .inl ⟨_, _, rfl, run_takeDeferred hK, ?_⟩⟩
      refine ⟨_, results_tmp2 rfl _ _ _, ?_⟩
      obtain ⟨hpre, hrow, hB⟩ := HX.out
      refine .inl ⟨(plsAll_right hpre).2, _, rfl, ?_, ?_⟩
      · rw [HN.out]
        have h := ownsRow_putObj hrow (.deferred none) hK rfl
        unfold OwnR
        simp only [List.length_map] at h ⊢
        exact h
      · rw [HN.out]; exact hB.trans (belowK_b (w := w2) (by omega) W D _ _ hD hK rfl rfl)
    case stop =>
      rintro D c pre W hD hpr ⟨⟨rfl, pre', x, he, hx⟩, hB⟩ hK
      refine wpIn_goto ?_
      exact ⟨rfl, (plsAll_wrong hpr he hx).2, rfl, D, hD, rfl, hK, by rw [HN.out]; exact hB⟩
  case pass =>
    rintro ⟨T, D⟩ w' ⟨hno, hT, d, hd, hD, hK, hb⟩
    simp only at hD hT
    subst hD
    have HX := Lib.hid (And.intro hno (And.intro hT hb))
    clear hno hT hb
    gi_wp2
    simp only [Exit.jump]
    refine ⟨by simp, .inl ⟨_, _, rfl, run_takeDeferred hK, ?_⟩⟩
    refine ⟨_, results_tmp2 rfl _ _ _, ?_⟩
    obtain ⟨hno, hT, hb⟩ := HX.out
    refine .inr ⟨hno, ?_, ?_⟩
    · simp [Array.getD_eq_getD_getElem?, hT]
    · rw [HN.out] at hb ⊢
      exact hb.trans (belowK_b (w := w2) (by omega) w' d _ _ hd hK rfl rfl)
theorem runes_any (s : ByteArray) (rs : List Nat) (hrd : Rd s rs) (hs : s.size ≤ maxLen) (w : World) (ht : Tabs w) :
    Calls Tryd.prog 9 #[.string s] w fun e w' => RunesPost w s.data.toList rs e w' := callsIn_wide.1 (runesF_wide 4 (by decide) s rs hrd hs w ht)
end Go.Proofs.YtbmnngcogdamkaaDoor

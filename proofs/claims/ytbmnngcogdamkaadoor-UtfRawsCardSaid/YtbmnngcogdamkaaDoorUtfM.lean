/- Layer 12: Cut. -/
import Derived.Test.YtbmnngcogdamkaaDoorUtfK
import Derived.Test.YtbmnngcogdamkaaDoorUtfL
namespace Go.Proofs.YtbmnngcogdamkaaDoor
open Go.RowKit Go.Shelf

attribute [local go_sem] Oper.semAt_some

/-- How many bytes the longest beginning has that has at most so many. -/
def cutN : List Nat → Nat → Nat
  | [], _ => 0
  | r :: t, m => if lenB r + 1 ≤ m then lenB r + 1 + cutN t (m - (lenB r + 1)) else 0
theorem cutN_all (l : List Nat) (m : Nat) (h : (textR l).length ≤ m) : cutN l m = (textR l).length := by
  induction l generalizing m with
  | nil => rfl
  | cons r t ih =>
    rw [textR_len_cons] at h ⊢
    unfold cutN
    rw [if_pos (by omega), ih _ (by omega)]
theorem cutN_more (l : List Nat) (r m : Nat) (h : m < (textR (l ++ [r])).length) : cutN (l ++ [r]) m = cutN l m := by
  induction l generalizing m with
  | nil =>
    simp only [List.nil_append, textR_one, rawR_length] at h
    simp only [List.nil_append, cutN]
    rw [if_neg (by omega)]
  | cons x t ih =>
    rw [List.cons_append, textR_len_cons] at h
    simp only [List.cons_append, cutN]
    by_cases hx : lenB x + 1 ≤ m
    · rw [if_pos hx, if_pos hx, ih _ (by omega)]
    · rw [if_neg hx, if_neg hx]
theorem cutN_le (l : List Nat) (m : Nat) : cutN l m ≤ m ∧ cutN l m ≤ (textR l).length := by
  induction l generalizing m with
  | nil => exact ⟨Nat.zero_le _, Nat.le_refl _⟩
  | cons r t ih =>
    rw [textR_len_cons]
    unfold cutN
    by_cases hx : lenB r + 1 ≤ m
    · have := ih (m - (lenB r + 1))
      rw [if_pos hx]; omega
    · rw [if_neg hx]; omega
/-- Where a rune ends, as the program reckons it. -/
def toZ (x : Nat × Int) : Int := wrap64 (wrap64 ((x.1 : Int) + 1) + lenZ x.2)
def endL (most : Int) (l : List (Nat × Int)) : Int := l.foldl (fun e x => if toZ x ≤ most then toZ x else e) 0
theorem endL_snoc (most : Int) (l : List (Nat × Int)) (x : Nat × Int) : endL most (l ++ [x]) = if toZ x ≤ most then toZ x else endL most l := by
  unfold endL; rw [List.foldl_append]; rfl
theorem endL_yes {most : Int} (l : List (Nat × Int)) {x : Nat × Int} (h : toZ x ≤ most) : endL most (l ++ [x]) = toZ x := by rw [endL_snoc, if_pos h]
theorem endL_no {most : Int} (l : List (Nat × Int)) {x : Nat × Int} (h : ¬ toZ x ≤ most) : endL most (l ++ [x]) = endL most l := by rw [endL_snoc, if_neg h]
theorem endL_pls (rs : List Nat) (m : Nat) (h : (textR rs).length ≤ 65535) (k : Nat) (hk : k ≤ rs.length) : endL m (pls 0 (rs.take k)) = (cutN (rs.take k) m : Nat) := by
  induction k with
  | zero => rfl
  | succ k ih =>
    have hlt : k < rs.length := by omega
    have h1 := textR_take_succ rs hlt
    have h2 := textR_take_le rs (k + 1)
    have ht : toZ ((textR (rs.take k)).length, (rs[k] : Int)) = ((textR (rs.take (k + 1))).length : Nat) := by
      have hi : wrap64 (((textR (rs.take k)).length : Int) + 1) = ((textR (rs.take k)).length : Int) + 1 := wrap64_eq (by omega) (by omega)
      show wrap64 (wrap64 (((textR (rs.take k)).length : Int) + 1) + lenZ (rs[k] : Int)) = _
      rw [lenZ_nat, hi, wrap64_eq (by omega) (by omega)]
      omega
    rw [pls_take_succ rs hlt, endL_snoc, ht]
    have h3 := List.take_succ_eq_append_getElem hlt
    by_cases hm : ((textR (rs.take (k + 1))).length : Int) ≤ m
    · rw [if_pos hm, cutN_all _ _ (by omega)]
    · rw [if_neg hm, ih (by omega)]
      rw [h3] at hm ⊢
      rw [cutN_more _ _ _ (by omega)]
/-- What Cut leaves. -/
def CutPost (w : World) (s : ByteArray) (rs : List Nat) (most : Int) (e : Ending) (w' : World) : Prop :=
  (most < 0 ∧ e = .returned (.tuple #[.string ⟨#[]⟩, .int .i64 2]) ∧ Below w.heap.size w w') ∨
  (0 ≤ most ∧ (textR rs).length < s.data.toList.length ∧ e = .returned (.tuple #[.string ⟨#[]⟩, .int .i64 220]) ∧ Below w.heap.size w w') ∨
  (0 ≤ most ∧ ¬ (textR rs).length < s.data.toList.length ∧ e = .returned (.tuple #[.string (s.extract 0 (cutN rs most.toNat)), .int .i64 0]) ∧ Below w.heap.size w w')
def CutJ (w w2 : World) (s : List UInt8) (rs : List Nat) (a' : Act) (w' : World) : Prop := (textR rs).length < s.length ∧ a'.tmps.size = 31 ∧ ∃ D, w2.heap.size ≤ D ∧ a'.defers = [{ target := .collected D, args := #[] }] ∧ w'.heap[D]? = some (.deferred (some [])) ∧ Below w.heap.size w w'
set_option maxRecDepth 100000 in
theorem cut_low (s : ByteArray) (rs : List Nat) (most : Int) (hm : most < 0) (w : World) :
    Calls Tryd.prog 19 #[.string s, .int .i64 most] w fun e w' => CutPost w s rs most e w' := by
  go_enter Tryd.func19, Tryd.ntmps19
  go_wp2
  go_step3
  go_wp2
  rw [Exit.noGoto_ret]
  go_ret2
  exact .inl ⟨hm, rfl, ((Below.refl _ w).alloc (Nat.le_refl _) _).alloc (by simp) _⟩
set_option maxRecDepth 100000 in
set_option maxHeartbeats 4000000 in
theorem cut_wide (n : Nat) (hn : 4 ≤ n) (s : ByteArray) (rs : List Nat) (hrd : Rd s rs) (hs : s.size ≤ 281474976710656) (m : Nat) (w : World) (ht : Tabs w) :
    CallsIn Fence.wide n Tryd.prog 19 #[.string s, .int .i64 m] w fun e w' => CutPost w s rs m e w' := by
  have h1 : 1 ≤ n := by omega
  have h2 := ht.two
  refine callsIn_of_wp_marks Tryd.func19 rfl trivial ?_ rfl
  simp only [Tryd.ntmps19, List.size_toArray, List.length_cons, List.length_nil, Nat.reduceAdd, Nat.reduceSub, Array.replicate_succ, Array.replicate_zero, List.push_toArray, List.append_toArray, List.nil_append, List.cons_append]
  have HT := Lib.hid ht
  clear ht
  obtain ⟨w0, hw0⟩ : ∃ w0, w.alloc (.cells #[.int .i64 m] 3) = w0 := ⟨_, rfl⟩
  obtain ⟨w1, hw1⟩ : ∃ w1, w0.alloc (.cells #[.int .i64 0] 3) = w1 := ⟨_, rfl⟩
  obtain ⟨w2, hw2⟩ : ∃ w2, w1.alloc (.cells #[.string s] 9) = w2 := ⟨_, rfl⟩
  have hs0 : w0.heap.size = w.heap.size + 1 := by rw [← hw0]; simp
  have hs1 : w1.heap.size = w.heap.size + 2 := by rw [← hw1]; simp [hs0]
  have hs2 : w2.heap.size = w.heap.size + 3 := by rw [← hw2]; simp [hs1]
  have bM : Boxed w2 w.heap.size 3 (.int .i64 m) := by rw [← hw2, ← hw1, ← hw0]; exact ((Boxed.new w _ _).alloc _).alloc _
  have bE : Boxed w2 (w.heap.size + 1) 3 (.int .i64 0) := by rw [← hw2, ← hw1, ← hs0]; exact (Boxed.new w0 _ _).alloc _
  have bS : Boxed w2 (w.heap.size + 2) 9 (.string s) := by rw [← hw2, ← hs1]; exact Boxed.new w1 _ _
  have hB0 : Below w.heap.size w w2 := by rw [← hw2, ← hw1, ← hw0]; exact (((Below.refl _ w).alloc (Nat.le_refl _) _).alloc (by simp) _).alloc (by simp; omega) _
  have HW := Lib.hid (And.intro hw0 (And.intro hw1 hw2))
  have hsh := hrd.short
  have hml : s.size ≤ maxLen := by unfold maxLen; omega
  clear hw0 hw1 hw2 hs0 hs1
  obtain ⟨N0, hN0⟩ : ∃ N0, w.heap.size = N0 := ⟨_, rfl⟩
  have HN := Lib.hid hN0
  rw [hN0] at h2 hs2 bM bE bS hB0
  have hm0 : decide ((m : Int) < 0) = false := by simp
  gi_wp2
  refine wpIn_scope_jumps 0 (CutJ w w2 s.data.toList rs) (fun _ _ => 0) rfl ?first ?pass
  case first =>
    gi_wp2_with (refine ⟨trivial, ?_⟩; gi_at_call 20; refine (runes_in Fence.wide _ trivial rfl s _).mono ?_; rintro en w' ⟨rfl, rfl⟩)
    rw [HW.out.1, HW.out.2.1, HW.out.2.2]
    refine wpIn_rangeFunc_ownF rfl h1 (gf := 31) (lb := #[.pointer (some ⟨N0 + 1 + 1, 0, none⟩)]) rfl trivial (enters_of Tryd.func31 (by kernel_rfl) rfl)
      (runes_stops (n - 1) (by omega) (N0 + 2) s rs hrd hml (KS (N0 + 2)) (.inl rfl) (fun _ h => .inr h) w2 (fun k hk => by rcases hk with rfl | hk <;> omega) bS.cell (HT.out.below hB0 (by omega))) KeepsOn.trans (keepsOn_pb (fun k hk => by rcases hk with rfl | hk <;> omega)) (Below.refl _ _) (fun _ => rfl)
      (fun pre W => (((∀ x ∈ pre, x.2 ≠ -1) ∧ Boxed W (N0 + 1) 3 (.int .i64 (endL m pre))) ∧ Boxed W N0 3 (.int .i64 m)) ∧ Below N0 w W)
      (fun c pre W => (c = .goto 0 ∧ ∃ pre' x, pre = pre' ++ [x] ∧ (x : Nat × Int).2 = -1) ∧ Below N0 w W)
      (OwnFrom.and (OwnFrom.and (OwnFrom.and (ownFrom_pure _ _) (Own.from (boxed_own _ _ _) _)) (Own.from (boxed_own _ _ _) _)) (ownFrom_below (by omega) (by omega)))
      (fun c => OwnFrom.and (ownFrom_pure _ _) (ownFrom_below (by omega) (by omega)))
      ⟨⟨⟨(fun _ h => by cases h), bE⟩, bM⟩, hB0⟩
      (fun x => { tmps := #[.string s, .int .i64 m, undef, .pointer (some ⟨N0, 0, none⟩), .string ⟨#[]⟩, .int .i64 0, .pointer (some ⟨N0 + 1, 0, none⟩), .int .i64 x.1, .int .i32 x.2, undef, .int .i64 m, .bool false, .string s, .func (.func 31) #[] #[.pointer (some ⟨N0 + 1 + 1, 0, none⟩)], .int .i64 x.1, .int .i32 x.2, undef, undef, undef, undef, undef, undef, undef, undef, undef, undef, undef, undef, undef, undef, undef], defers := [] }) ?assign ?body ?done ?stop
    case assign =>
      intro l x W K hK
      simp only [encR]
      gi_wp2
      exact hK
    case body =>
      rintro l pre ⟨x1, x2⟩ W ⟨⟨⟨hpre, hE⟩, hM⟩, hB⟩ hlt
      have hdp : Fence.wide.depth.isSome = true → 1 ≤ n - 1 - 1 := fun _ => by omega
      by_cases hx : x2 = -1
      · have hx1 : (x2 == -1) = true := by simpa using hx
        have HX := Lib.hid (And.intro hB hx)
        clear hB hpre hE hM hx
        gi_wp2
        refine wpIn_goto ?_
        exact ⟨KeepsOthers.refl _, ⟨rfl, pre, _, rfl, HX.out.2⟩, HX.out.1⟩
      · have hx1 : (x2 == -1) = false := by simpa using hx
        have hcm := hM.cell
        have hce := hE.cell
        have hfe := hE.frozen
        have HBH := Lib.hid (behind_any x2 W (HT.out.below hB (by omega)))
        have HX := Lib.hid (And.intro hpre (And.intro hE (And.intro hM (And.intro hB hx))))
        have HY := Lib.hid (@endL_yes m pre (x1, x2))
        have HNo := Lib.hid (@endL_no m pre (x1, x2))
        unfold toZ at HY HNo
        simp only at HY HNo
        clear hpre hE hM hB hx
        generalize lenZ x2 = lz at *
        by_cases hto : wrap64 (wrap64 ((x1 : Int) + 1) + lz) ≤ m
        · have htd : decide (wrap64 (wrap64 ((x1 : Int) + 1) + lz) ≤ m) = true := by simpa using hto
          have HE := Lib.hid (HY.out hto)
          clear HY HNo hto
          gi_wp2_with (refine ⟨trivial, hdp, ?_⟩; gi_at_call 29; refine (CallsIn.inRound l (callsIn_wide.2 HBH.out)).mono ?_; rintro en w' ⟨rfl, rfl⟩)
          obtain ⟨hpre, hE, hM, hB, hx⟩ := HX.out
          refine ⟨KeepsOthers.setCell _ _ _, (fun k hk => Below.heap_setCell W _ _ k (by show k ≠ N0 + 1; rcases hk with rfl | hk <;> omega)), ⟨⟨(fun z hz => (List.mem_append.1 hz).elim (hpre z) (fun e => by simp at e; subst e; exact hx)), ?_⟩, hM.other (by omega) _⟩, hB.setCell (p := ⟨N0 + 1, 0, none⟩) (by show N0 ≤ N0 + 1; omega) _⟩
          rw [HE.out]; exact hE.set _
        · have htd : decide (wrap64 (wrap64 ((x1 : Int) + 1) + lz) ≤ m) = false := by simpa using hto
          have HE := Lib.hid (HNo.out hto)
          clear HY HNo hto
          gi_wp2_with (refine ⟨trivial, hdp, ?_⟩; gi_at_call 29; refine (CallsIn.inRound l (callsIn_wide.2 HBH.out)).mono ?_; rintro en w' ⟨rfl, rfl⟩)
          obtain ⟨hpre, hE, hM, hB, hx⟩ := HX.out
          refine ⟨KeepsOthers.refl _, KeepsOn.refl _ _, ⟨⟨(fun z hz => (List.mem_append.1 hz).elim (hpre z) (fun e => by simp at e; subst e; exact hx)), ?_⟩, hM⟩, hB⟩
          rw [HE.out]; exact hE
    case done =>
      rintro D ys W hD rfl ⟨⟨⟨hpre, hE⟩, hM⟩, hB⟩ hK
      have hright := (plsAll_right hpre).2
      have hle := hrd.le
      have hev : endL m (plsAll s.data.toList rs) = (cutN rs m : Nat) := by
        have := endL_pls rs m hle.2 rs.length (Nat.le_refl _)
        rw [List.take_length] at this
        unfold plsAll
        rw [if_neg hright, List.append_nil]; exact this
      rw [hev] at hE
      have hcl := (cutN_le rs m).2
      have hce := hE.cell
      have hlo := str_lo s (cutN rs m) (by omega)
      have HC := Lib.hid (clone_any (s.extract 0 (cutN rs m)) W (by rw [ByteArray.size_extract]; omega))
      have HX := Lib.hid (And.intro hright (And.intro hB hev))
      have hDl := Lib.hid (Array.getElem?_eq_some_iff.1 hK).1
      clear hpre hE hM hB hle hev hcl hright
      gi_wp2_with (refine ⟨trivial, ?_⟩; gi_at_call 30; refine (callsIn_wide.2 HC.out).mono ?_; rintro en w4 ⟨rfl, hb4⟩)
      simp only [Exit.jump]
      have hK4 : w4.heap[D]? = some (.deferred (some [])) := (hb4.block D hDl.out).trans hK
      refine ⟨by simp, .inl ⟨_, _, rfl, run_takeDeferred hK4, ?_⟩⟩
      refine ⟨_, results_tmp2 rfl _ _ _, ?_⟩
      refine .inr (.inr ⟨by omega, HX.out.1, by rw [Int.toNat_natCast]; rfl, ?_⟩)
      rw [HN.out]
      exact (HX.out.2.1.trans (hb4.mono (by have := HX.out.2.1.size; omega))).trans (belowK_b (w := w2) (by omega) w4 D _ _ hD hK4 rfl rfl)
    case stop =>
      rintro D c pre W hD hpr ⟨⟨rfl, pre', x, he, hx⟩, hB⟩ hK
      refine wpIn_goto ?_
      exact ⟨rfl, (plsAll_wrong hpr he hx).2, rfl, D, hD, rfl, hK, by rw [HN.out]; exact hB⟩
  case pass =>
    rintro ⟨T, D⟩ w' ⟨hno, hT, d, hd, hD, hK, hb⟩
    simp only at hD hT
    subst hD
    have HX := Lib.hid (And.intro hno (And.intro hT hb))
    clear hno hT hb
    gi_wp2
    simp only [Exit.jump]
    refine ⟨by simp, .inl ⟨_, _, rfl, run_takeDeferred hK, ?_⟩⟩
    refine ⟨_, results_tmp2 rfl _ _ _, ?_⟩
    obtain ⟨hno, hT, hb⟩ := HX.out
    refine .inr (.inl ⟨by omega, hno, ?_, ?_⟩)
    · simp [Array.getD_eq_getD_getElem?, hT]
    · rw [HN.out] at hb ⊢
      exact hb.trans (belowK_b (w := w2) (by omega) w' d _ _ hd hK rfl rfl)
theorem cut_any (s : ByteArray) (rs : List Nat) (hrd : Rd s rs) (hs : s.size ≤ 281474976710656) (most : Int) (w : World) (ht : Tabs w) :
    Calls Tryd.prog 19 #[.string s, .int .i64 most] w fun e w' => CutPost w s rs most e w' := by
  rcases Int.lt_or_le most 0 with h | h
  · exact cut_low s rs most h w
  · obtain ⟨m, rfl⟩ : ∃ m : Nat, most = m := ⟨most.toNat, by omega⟩
    exact callsIn_wide.1 (cut_wide 4 (by decide) s rs hrd hs m w ht)
end Go.Proofs.YtbmnngcogdamkaaDoor

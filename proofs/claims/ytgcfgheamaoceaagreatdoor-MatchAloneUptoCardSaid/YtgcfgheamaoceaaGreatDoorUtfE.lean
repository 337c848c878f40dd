/- Layer 12: Wrong, Check. -/
import Derived.Test.YtgcfgheamaoceaaGreatDoorUtfD
namespace Go.Proofs.YtgcfgheamaoceaaGreatDoor
open Go.RowKit Go.Shelf

attribute [local go_sem] Oper.semAt_some

theorem results_cell1 {P : Program} {fn : Func} {p : Tmp} {ty : TypeId} (h : fn.results = #[.cell p ty]) (tmps : Array Value) (w : World) (a : Addr) (v : Value) (hp : tmps.getD p undef = .pointer (some a)) (hagg : (isAgg ty).run P w = .ok false w) (hv : w.cell? a = some v) :
    (results fn tmps).run P w = .ok v w := by
  have h1 : (results fn tmps).run P w = ((asAddr (tmps.getD p undef)).run P w).andThen fun a w => (loadVar ty a).run P w := by
    simp [results, h, Result.andThen]
  rw [h1, hp]
  simp [asAddr, loadVar, hagg, go_sem, Result.andThen, hv]
theorem pls_pos (a : Nat) (rs : List Nat) : ∀ x ∈ pls a rs, x.2 ≠ -1 := by
  induction rs generalizing a with
  | nil => intro x hx; cases hx
  | cons r t ih =>
    intro x hx
    rcases List.mem_cons.1 hx with rfl | hx
    · show (r : Int) ≠ -1
      omega
    · exact ih _ x hx
/-- Where a text is wrong; -1, if it may be said. -/
def wrZ (s : List UInt8) (rs : List Nat) : Int := if (textR rs).length < s.length then (textR rs).length else -1
theorem plsAll_right {s : List UInt8} {rs : List Nat} (h : ∀ x ∈ plsAll s rs, x.2 ≠ -1) : wrZ s rs = -1 ∧ ¬ (textR rs).length < s.length := by
  have h1 : ¬ (textR rs).length < s.length := fun hl => by
    refine h ((textR rs).length, -1) ?_ rfl
    unfold plsAll; rw [if_pos hl]; simp
  unfold wrZ; rw [if_neg h1]; exact ⟨rfl, h1⟩
theorem plsAll_wrong {s : List UInt8} {rs : List Nat} {pre pre' : List (Nat × Int)} {x : Nat × Int} (h : pre <+: plsAll s rs) (he : pre = pre' ++ [x]) (hx : x.2 = -1) : wrZ s rs = x.1 ∧ (textR rs).length < s.length := by
  have hm : x ∈ plsAll s rs := h.subset (by rw [he]; simp)
  unfold plsAll at hm
  rcases List.mem_append.1 hm with hm | hm
  · exact absurd hx (pls_pos 0 rs x hm)
  · by_cases hl : (textR rs).length < s.length
    · rw [if_pos hl] at hm
      obtain rfl : x = ((textR rs).length, -1) := by simpa using hm
      unfold wrZ; rw [if_pos hl]; exact ⟨rfl, hl⟩
    · rw [if_neg hl] at hm; cases hm
/-- What lies behind a loop over runes that tells but one number. -/
def IntPost (w : World) (z : Int) (e : Ending) (w' : World) : Prop := e = .returned (.int .i64 z) ∧ Below w.heap.size w w'
abbrev KS (S : Nat) (k : Nat) : Prop := k = S ∨ k < 3
set_option maxRecDepth 100000 in
set_option maxHeartbeats 4000000 in
theorem wrong_wide (n : Nat) (hn : 4 ≤ n) (s : ByteArray) (rs : List Nat) (hrd : Rd s rs) (hs : s.size ≤ maxLen) (w : World) (ht : Tabs w) :
    CallsIn Fence.wide n Tryz.prog 135 #[.string s] w fun e w' => IntPost w (wrZ s.data.toList rs) e w' := by
  have h1 : 1 ≤ n := by omega
  have h2 := ht.two
  refine callsIn_of_wp_marks Tryz.func135 rfl trivial ?_ rfl
  simp only [Tryz.ntmps135, List.size_toArray, List.length_cons, List.length_nil, Nat.reduceAdd, Nat.reduceSub, Array.replicate_succ, Array.replicate_zero, List.push_toArray, List.append_toArray, List.nil_append, List.cons_append]
  have HT := Lib.hid ht
  clear ht
  gi_wp2_with (refine ⟨trivial, ?_⟩; gi_at_call 150; refine (runes_in Fence.wide _ trivial rfl s _).mono ?_; rintro en w' ⟨rfl, rfl⟩)
  obtain ⟨w1, hw1⟩ : ∃ w1, w.alloc (.cells #[.int .i64 0] 3) = w1 := ⟨_, rfl⟩
  obtain ⟨w2, hw2⟩ : ∃ w2, w1.alloc (.cells #[.string s] 9) = w2 := ⟨_, rfl⟩
  rw [hw1, hw2]
  have hs1 : w1.heap.size = w.heap.size + 1 := by rw [← hw1]; simp
  have hs2 : w2.heap.size = w.heap.size + 2 := by rw [← hw2]; simp [hs1]
  have bR : Boxed w2 w.heap.size 3 (.int .i64 0) := by rw [← hw2, ← hw1]; exact (Boxed.new w _ _).alloc _
  have bS : Boxed w2 (w.heap.size + 1) 9 (.string s) := by rw [← hw2, ← hs1]; exact Boxed.new w1 _ _
  have hB0 : Below w.heap.size w w2 := by rw [← hw2, ← hw1]; exact ((Below.refl _ w).alloc (Nat.le_refl _) _).alloc (by simp) _
  clear hw1 hw2 hs1
  obtain ⟨N0, hN0⟩ : ∃ N0, w.heap.size = N0 := ⟨_, rfl⟩
  rw [hN0] at h2 hs2 bR bS hB0 ⊢
  refine wpIn_rangeFunc_ownF rfl h1 (gf := 156) (lb := #[.pointer (some ⟨N0 + 1, 0, none⟩)]) rfl trivial (enters_of Tryz.func156 (by kernel_rfl) rfl)
    (runes_stops (n - 1) (by omega) (N0 + 1) s rs hrd hs (KS (N0 + 1)) (.inl rfl) (fun _ h => .inr h) w2 (fun k hk => by rcases hk with rfl | hk <;> omega) bS.cell (HT.out.below hB0 (by omega))) KeepsOn.trans (keepsOn_pb (fun k hk => by rcases hk with rfl | hk <;> omega)) (Below.refl _ _) (fun _ => rfl)
    (fun pre W => ((∀ x ∈ pre, x.2 ≠ -1) ∧ Boxed W N0 3 (.int .i64 0)) ∧ Below N0 w W)
    (fun c pre W => ((c = .ret ∧ pre ≠ []) ∧ ∃ pre' x, (pre = pre' ++ [x] ∧ x.2 = -1) ∧ Boxed W N0 3 (.int .i64 (x : Nat × Int).1)) ∧ Below N0 w W)
    (OwnFrom.and (OwnFrom.and (ownFrom_pure _ _) (Own.from (boxed_own _ _ _) _)) (ownFrom_below (by omega) (by omega)))
    (fun c => OwnFrom.and (OwnFrom.and (ownFrom_pure _ _) (fun pre X Y row hs hg hr => by
      obtain ⟨pre', x, hx, hb⟩ := hs
      exact ⟨pre', x, hx, boxed_own N0 3 (fun (_ : Unit) => Value.int .i64 (x.1 : Int)) () X Y row hb hg (fun r e => (hr r e).2)⟩)) (ownFrom_below (by omega) (by omega)))
    ⟨⟨(fun _ h => by cases h), bR⟩, hB0⟩
    (fun x => { tmps := #[.string s, undef, .pointer (some ⟨N0, 0, none⟩), .int .i64 x.1, .int .i32 x.2, .string s, .func (.func 156) #[] #[.pointer (some ⟨N0 + 1, 0, none⟩)], .int .i64 x.1, .int .i32 x.2, undef, undef, undef], defers := [] }) ?assign ?body ?done ?stop
  case assign =>
    intro l x W K hK
    simp only [encR]
    gi_wp2
    exact hK
  case body =>
    rintro l pre ⟨x1, x2⟩ W ⟨⟨hpre, hR⟩, hB⟩ hlt
    have hc := hR.cell
    have hf := hR.frozen
    have HX := Lib.hid (And.intro hpre (And.intro hR hB))
    clear hpre hR hB
    by_cases hx : x2 = -1
    · have hx1 : (x2 == -1) = true := by simpa using hx
      gi_wp2
      obtain ⟨hpre, hR, hB⟩ := HX.out
      exact ⟨KeepsOthers.setCell _ _ _, ⟨⟨rfl, by simp⟩, pre, (x1, x2), ⟨rfl, hx⟩, hR.set _⟩, hB.setCell (p := ⟨N0, 0, none⟩) (Nat.le_refl _) _⟩
    · have hx1 : (x2 == -1) = false := by simpa using hx
      gi_wp2
      obtain ⟨hpre, hR, hB⟩ := HX.out
      exact ⟨KeepsOthers.refl _, KeepsOn.refl _ _, ⟨(fun z hz => (List.mem_append.1 hz).elim (hpre z) (fun e => by simp at e; subst e; exact hx)), hR⟩, hB⟩
  case done =>
    rintro D ys W hD rfl ⟨⟨hpre, hR⟩, hB⟩ hK
    have hc := hR.cell
    have hf := hR.frozen
    have HX := Lib.hid (And.intro hpre (And.intro hR hB))
    clear hpre hR hB
    gi_wp2
    obtain ⟨hpre, hR, hB⟩ := HX.out
    rw [(plsAll_right hpre).1]
    have hK' := (KeepsOthers.setCell W ⟨N0, 0, none⟩ (.int .i64 (-1))).same D _ hK rfl
    refine ⟨by simp, .inl ⟨_, _, rfl, run_takeDeferred hK', ?_⟩⟩
    have hc5 := cell_kept (hR.set (.int .i64 (-1))).cell (grownBy_putObj' _ D (.deferred none)) (fun r e => by cases e; exact ⟨_, hK', rfl⟩)
    refine ⟨_, results_cell1 rfl _ _ ⟨N0, 0, none⟩ _ rfl (Tryz.isAgg3 _) hc5, rfl, ?_⟩
    rw [hN0]
    exact (hB.setCell (p := ⟨N0, 0, none⟩) (Nat.le_refl _) _).trans (belowK_b (w := w2) (by omega) _ D _ _ hD hK' rfl rfl)
  case stop =>
    rintro D c pre W hD hpr ⟨⟨⟨rfl, -⟩, pre', x, ⟨he, hx⟩, hR⟩, hB⟩ hK
    gi_wp2
    rw [(plsAll_wrong hpr he hx).1]
    refine ⟨by simp, .inl ⟨_, _, rfl, run_takeDeferred hK, ?_⟩⟩
    have hc5 := cell_kept hR.cell (grownBy_putObj' _ D (.deferred none)) (fun r e => by cases e; exact ⟨_, hK, rfl⟩)
    refine ⟨_, results_cell1 rfl _ _ ⟨N0, 0, none⟩ _ rfl (Tryz.isAgg3 _) hc5, rfl, ?_⟩
    rw [hN0]
    exact hB.trans (belowK_b (w := w2) (by omega) W D _ _ hD hK rfl rfl)
theorem wrong_any (s : ByteArray) (rs : List Nat) (hrd : Rd s rs) (hs : s.size ≤ maxLen) (w : World) (ht : Tabs w) :
    Calls Tryz.prog 135 #[.string s] w fun e w' => IntPost w (wrZ s.data.toList rs) e w' := callsIn_wide.1 (wrong_wide 4 (by decide) s rs hrd hs w ht)
/-- The number of an error, by whether a text may be said. -/
def chkZ (s : List UInt8) (rs : List Nat) : Int := if (textR rs).length < s.length then 220 else 0
set_option maxRecDepth 100000 in
theorem check_any (s : ByteArray) (rs : List Nat) (hrd : Rd s rs) (hs : s.size ≤ maxLen) (w : World) (ht : Tabs w) :
    Calls Tryz.prog 113 #[.string s] w fun e w' => IntPost w (chkZ s.data.toList rs) e w' := by
  have HW := Lib.hid (wrong_any s rs hrd hs w ht)
  clear hrd
  by_cases hl : (textR rs).length < s.data.toList.length
  · unfold wrZ at HW
    unfold chkZ
    rw [if_pos hl] at HW ⊢
    clear hl
    generalize (textR rs).length = p at *
    have hp : ((p : Int) != -1) = true := by simp
    go_enter Tryz.func113, Tryz.ntmps113
    go_wp2_with (go_at_call 135; refine HW.out.mono ?_; rintro e w' ⟨rfl, hb⟩)
    go_ret
    exact ⟨rfl, hb⟩
  · unfold wrZ at HW
    unfold chkZ
    rw [if_neg hl] at HW ⊢
    clear hl
    go_enter Tryz.func113, Tryz.ntmps113
    go_wp2_with (go_at_call 135; refine HW.out.mono ?_; rintro e w' ⟨rfl, hb⟩)
    go_ret
    exact ⟨rfl, hb⟩
end Go.Proofs.YtgcfgheamaoceaaGreatDoor

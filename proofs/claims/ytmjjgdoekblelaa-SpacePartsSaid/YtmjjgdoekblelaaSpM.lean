/- Layer 7: a space that is not there: nil, or one that no call made; SpaceNil. -/
import Derived.Test.YtmjjgdoekblelaaSpL
namespace Go.Proofs.Ytmjjgdoekblelaa
open Go.RowKit Go.Maps

/-- No space: nil, or one of no Cap. -/
def Absent (w : World) (v : Value) : Prop := v = .pointer none ∨ ∃ b, v = ptr b ∧ b < w.heap.size ∧ w.cell? ⟨b, 2, none⟩ = some (.int .i64 0)
theorem Absent.below {w w' : World} {v : Value} (h : Absent w v) (hb : Below w.heap.size w w') : Absent w' v := by
  rcases h with h | ⟨b, e, h1, h2⟩
  · exact .inl h
  · exact .inr ⟨b, e, Nat.lt_of_lt_of_le h1 hb.size, (hb.cell (p := ⟨b, 2, none⟩) h1).trans h2⟩
theorem there_absent {w : World} {v : Value} (h : Absent w v) : Calls Try.prog 25 #[v] w fun e w' => e = .returned (.bool false) ∧ w = w' := by
  rcases h with rfl | ⟨b, rfl, hb, h3⟩
  · go_enter Try.func25, Try.ntmps25
    go_wp2
    go_ret
    exact ⟨rfl, rfl⟩
  · go_enter Try.func25, Try.ntmps25
    go_wp2
    go_ret
    exact ⟨rfl, rfl⟩
theorem take_absent {w : World} {v : Value} (h : Absent w v) : Calls Try.prog 10 #[v] w fun e w' => e = .returned (.tuple #[.int .i64 0, .int .i64 1]) ∧ w = w' := by
  have ht := there_absent h
  go_enter Try.func10, Try.ntmps10
  go_wp2
  refine wp_scope_straight ?_
  go_wp2_with (go_at_call 25; refine ht.mono ?_; rintro e w' ⟨rfl, rfl⟩)
  simp only [Exit.noGoto]
  go_ret2
  exact ⟨rfl, rfl⟩
theorem give_absent {w : World} {v : Value} (h : Absent w v) (p : Int) : Calls Try.prog 22 #[v, .int .i64 p] w fun e w' => e = .returned (.int .i64 1) ∧ w = w' := by
  have ht := there_absent h
  go_enter Try.func22, Try.ntmps22
  go_wp2_with (go_at_call 25; refine ht.mono ?_; rintro e w' ⟨rfl, rfl⟩)
  go_ret
  exact ⟨rfl, rfl⟩
theorem lasts_absent {w : World} {v : Value} (h : Absent w v) : Calls Try.prog 23 #[v] w fun e w' => e = .returned (.int .i64 1) ∧ w = w' := by
  have ht := there_absent h
  go_enter Try.func23, Try.ntmps23
  go_wp2_with (go_at_call 25; refine ht.mono ?_; rintro e w' ⟨rfl, rfl⟩)
  go_ret
  exact ⟨rfl, rfl⟩
theorem undo_absent {w : World} {v : Value} (h : Absent w v) : Calls Try.prog 20 #[v] w fun e w' => e = .returned (.int .i64 1) ∧ w = w' := by
  have ht := there_absent h
  go_enter Try.func20, Try.ntmps20
  go_wp2_with (go_at_call 25; refine ht.mono ?_; rintro e w' ⟨rfl, rfl⟩)
  go_ret
  exact ⟨rfl, rfl⟩
theorem high_absent {w : World} {v : Value} (h : Absent w v) : Calls Try.prog 8 #[v] w fun e w' => e = .returned (.int .i64 0) ∧ w = w' := by
  have ht := there_absent h
  go_enter Try.func8, Try.ntmps8
  go_wp2_with (go_at_call 25; refine ht.mono ?_; rintro e w' ⟨rfl, rfl⟩)
  go_ret
  exact ⟨rfl, rfl⟩
theorem is_absent {w : World} {v : Value} (h : Absent w v) (p : Int) : Calls Try.prog 9 #[v, .int .i64 p] w fun e w' => e = .returned (.int .i64 0) ∧ w = w' := by
  have ht := high_absent h
  by_cases h2 : p < 2
  · go_enter Try.func9, Try.ntmps9
    go_wp2
    go_ret
    exact ⟨rfl, rfl⟩
  · have h0 : (0 : Int) ≤ p := by omega
    go_enter Try.func9, Try.ntmps9
    go_wp2_with (go_at_call 8; refine ht.mono ?_; rintro e w' ⟨rfl, rfl⟩)
    go_ret
    exact ⟨rfl, rfl⟩
theorem copy_absent {w : World} {v : Value} (h : Absent w v) : Calls Try.prog 17 #[v] w fun e w' => e = .returned (.pointer none) ∧ w = w' := by
  have ht := there_absent h
  go_enter Try.func17, Try.ntmps17
  go_wp2_with (go_at_call 25; refine ht.mono ?_; rintro e w' ⟨rfl, rfl⟩)
  go_ret
  exact ⟨rfl, rfl⟩
theorem same_absent {w : World} {u v : Value} (hu : Absent w u) (hv : Absent w v) : Calls Try.prog 19 #[u, v] w fun e w' => e = .returned (.bool true) ∧ w = w' := by
  have h1 := there_absent hu
  have h2 := there_absent hv
  have k1 : True := trivial
  go_enter Try.func19, Try.ntmps19
  go_wp2_with (first
    | (have _t := k1; go_at_call 25; refine h1.mono ?_; rintro e w' ⟨rfl, rfl⟩; clear k1 _t; have k2 : True := trivial)
    | (have _t := k2; go_at_call 25; refine h1.mono ?_; rintro e w' ⟨rfl, rfl⟩; clear k2 _t; have k3 : True := trivial)
    | (have _t := k3; go_at_call 25; refine h2.mono ?_; rintro e w' ⟨rfl, rfl⟩; clear k3 _t; have k4 : True := trivial))
  go_ret
  exact ⟨rfl, rfl⟩
set_option maxRecDepth 100000 in
theorem of_absent {w : World} {v : Value} (hs : Absent w v) (g cap : Nat) (ls : List Nat) (hl : ls.length ≤ 9223372036854775807) (hg : g < w.heap.size) (hP : PlAt w g ls) :
    Calls Try.prog 30 #[v, .slice (some ⟨g, 0, none⟩) ls.length cap] w fun e w' => NumsPost w [] e w' := by
  obtain ⟨sa, rfl⟩ : ∃ sa, v = .pointer sa := by rcases hs with rfl | ⟨b, rfl, -⟩ <;> exact ⟨_, rfl⟩
  obtain ⟨N0, hN0⟩ : ∃ N0, w.heap.size = N0 := ⟨_, rfl⟩
  obtain ⟨w1, hw1⟩ : ∃ w1, w.alloc (.cells #[.slice (some ⟨g, 0, none⟩) ls.length cap] 76) = w1 := ⟨_, rfl⟩
  obtain ⟨w2, hw2⟩ : ∃ w2, (w1.alloc (.cells #[.pointer sa] 26)).alloc (.cells #[.int .i64 ((0 : Nat) : Int)] 2) = w2 := ⟨_, rfl⟩
  have hs1 : w1.heap.size = N0 + 1 := by rw [← hw1]; simp [hN0]
  have hs2 : w2.heap.size = N0 + 3 := by rw [← hw2]; simp [hs1]
  have hb1 : Below N0 w w1 := by rw [← hw1, ← hN0]; exact (Below.refl _ w).alloc (Nat.le_refl _) _
  have hb2 : Below N0 w w2 := by rw [← hw2]; exact (hb1.alloc (by omega) _).alloc (by simp; omega) _
  have hG : w2.cell? ⟨N0, 0, none⟩ = some (.slice (some ⟨g, 0, none⟩) ls.length cap) := by rw [← hw2, ← hw1, ← hN0]; exact (((Boxed.new w _ _).alloc _).alloc _).cell
  have hE : w2.cell? ⟨N0 + 2, 0, none⟩ = some (.int .i64 ((0 : Nat) : Int)) := by
    have := (Boxed.new (w1.alloc (.cells #[.pointer sa] 26)) 2 (.int .i64 ((0 : Nat) : Int))).cell
    rw [hw2, World.size_alloc, hs1] at this; exact this
  have h1 := hs.below (by rw [hN0]; exact hb1)
  have hsv := callsIn_wide.1 (sieved_wide 4 (by decide) (N0 + 2) (N0 + 1) 0 0 N0 g cap (fun _ => none) ls (by omega) (by omega) w2
    ⟨by show N0 + 2 < w2.heap.size; omega, hE, fun h => by omega⟩ (by omega) (by omega) hl hG (hP.below hb2 (by omega)))
  have hhi := high_absent h1
  have HV := Lib.hid hsv
  have HHI := Lib.hid hhi
  have HW1 := Lib.hid hw1
  have HW2 : Hid ((w1.alloc (.cells #[.pointer sa] 26)).alloc (.cells #[.int .i64 0] 2) = w2) := Lib.hid (show _ from hw2)
  have HS1 := Lib.hid hs1
  have HS2 := Lib.hid hs2
  have HN := Lib.hid hN0
  have HB2 := Lib.hid hb2
  clear hsv hhi hw1 hw2 hs1 hs2 hN0 hG hE hb2 hs h1
  go_enter Try.func30, Try.ntmps30
  go_wp2_with (first
    | (go_at_call 8; rw [HW1.out, HN.out]; refine HHI.out.mono ?_; rintro e w' ⟨rfl, rfl⟩)
    | (go_at_call 26; refine (callsIn_wide.1 (pages_in Fence.wide 4 trivial rfl sa 0 w1)).mono ?_; rintro e w' ⟨rfl, rfl⟩)
    | (go_at_call 38; rw [HW2.out, HS1.out]; refine HV.out.mono ?_; rintro e w3 ⟨v, rfl, hv, hb3⟩))
  go_ret
  have e2 := HS2.out
  have e0 := HN.out
  refine ⟨v, rfl, row_mono (by simpa [pgL, ofL, natVals] using hv) (by omega), ?_⟩
  rw [e0]
  exact HB2.out.trans (hb3.mono (by omega))
end Go.Proofs.Ytmjjgdoekblelaa

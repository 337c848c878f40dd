/- Layer 12: which runes are strange; Plain. -/
import Derived.Test.YtbmnngcogdamkaaDoorUtfF
namespace Go.Proofs.YtbmnngcogdamkaaDoor
open Go.RowKit Go.Shelf

/-- Is a number in one of the spans? -/
def inSp (q : Int) : Bool := decide ((-1 ≤ q ∧ q ≤ 31) ∨ (127 ≤ q ∧ q ≤ 159) ∨ (64976 ≤ q ∧ q ≤ 65007))
def strB (q : Int) : Bool := inSp q || decide (65534 ≤ bits .and .i32 q 65535)
theorem index_s0 (w : World) : (Instr.index 48 (.agg #[.int .i32 (-1), .int .i32 31, .int .i32 127, .int .i32 159, .int .i32 64976, .int .i32 65007]) (.int .i64 0)).run Tryd.prog w = .ok (.agg #[.int .i32 (-1), .int .i32 31]) w := by kernel_rfl
theorem index_s1 (w : World) : (Instr.index 48 (.agg #[.int .i32 (-1), .int .i32 31, .int .i32 127, .int .i32 159, .int .i32 64976, .int .i32 65007]) (.int .i64 1)).run Tryd.prog w = .ok (.agg #[.int .i32 127, .int .i32 159]) w := by kernel_rfl
theorem index_s2 (w : World) : (Instr.index 48 (.agg #[.int .i32 (-1), .int .i32 31, .int .i32 127, .int .i32 159, .int .i32 64976, .int .i32 65007]) (.int .i64 2)).run Tryd.prog w = .ok (.agg #[.int .i32 64976, .int .i32 65007]) w := by kernel_rfl
structure SpansAt (w : World) (C : Nat) : Prop where
  c0 : w.cell? ⟨C, 0, none⟩ = some (.int .i32 (-1))
  c1 : w.cell? ⟨C, 1, none⟩ = some (.int .i32 31)
  c2 : w.cell? ⟨C, 2, none⟩ = some (.int .i32 127)
  c3 : w.cell? ⟨C, 3, none⟩ = some (.int .i32 159)
  c4 : w.cell? ⟨C, 4, none⟩ = some (.int .i32 64976)
  c5 : w.cell? ⟨C, 5, none⟩ = some (.int .i32 65007)
set_option maxRecDepth 100000 in
set_option maxHeartbeats 1000000 in
theorem strange_any (q : Int) (C : Nat) (w : World) (h : SpansAt w C) :
    Calls Tryd.prog 22 #[.int .i32 q, .pointer (some ⟨C, 0, none⟩)] w fun e w' => e = .returned (.bool (strB q)) ∧ Below w.heap.size w w' := by
  obtain ⟨c0, c1, c2, c3, c4, c5⟩ := h
  have i0 := index_s0
  have i1 := index_s1
  have i2 := index_s2
  by_cases hA : -1 ≤ q ∧ q ≤ 31
  · obtain ⟨h1, h2⟩ := hA
    rw [show strB q = true by unfold strB inSp; simp; omega]
    go_enter Tryd.func22, Tryd.ntmps22
    go_wp2
    refine wp_loop_rounds 4 ?_; rw [rounds_succ]
    go_wp2
    go_ret
    exact ⟨rfl, (Below.refl _ _).alloc (Nat.le_refl _) _⟩
  by_cases hB : 127 ≤ q ∧ q ≤ 159
  · obtain ⟨h1, h2⟩ := hB
    rw [show strB q = true by unfold strB inSp; simp; omega]
    go_enter Tryd.func22, Tryd.ntmps22
    go_wp2
    refine wp_loop_rounds 4 ?_; rw [rounds_succ]
    go_wp2
    rw [rounds_succ]
    go_wp2
    go_ret
    exact ⟨rfl, ((Below.refl _ _).alloc (Nat.le_refl _) _).alloc (by simp) _⟩
  by_cases hC : 64976 ≤ q ∧ q ≤ 65007
  · obtain ⟨h1, h2⟩ := hC
    rw [show strB q = true by unfold strB inSp; simp; omega]
    go_enter Tryd.func22, Tryd.ntmps22
    go_wp2
    refine wp_loop_rounds 4 ?_; rw [rounds_succ]
    go_wp2
    rw [rounds_succ]
    go_wp2
    rw [rounds_succ]
    go_wp2
    go_ret
    exact ⟨rfl, (((Below.refl _ _).alloc (Nat.le_refl _) _).alloc (by simp) _).alloc (by simp; omega) _⟩
  have hD : strB q = decide (65534 ≤ bits .and .i32 q 65535) := by
    have : inSp q = false := by unfold inSp; simp; omega
    unfold strB; rw [this, Bool.false_or]
  rw [hD]
  clear hD
  have key : q < -1 ∨ (31 < q ∧ q < 127) ∨ (159 < q ∧ q < 64976) ∨ 65007 < q := by omega
  rcases key with h | ⟨h, h'⟩ | ⟨h, h'⟩ | h
  · clear hA hB hC
    go_enter Tryd.func22, Tryd.ntmps22
    go_wp2
    refine wp_loop_rounds 4 ?_; rw [rounds_succ]
    go_wp2
    rw [rounds_succ]
    go_wp2
    rw [rounds_succ]
    go_wp2
    rw [rounds_succ]
    go_wp2
    go_ret
    exact ⟨rfl, (((Below.refl _ _).alloc (Nat.le_refl _) _).alloc (by simp) _).alloc (by simp; omega) _⟩
  · clear hA hB hC
    go_enter Tryd.func22, Tryd.ntmps22
    go_wp2
    refine wp_loop_rounds 4 ?_; rw [rounds_succ]
    go_wp2
    rw [rounds_succ]
    go_wp2
    rw [rounds_succ]
    go_wp2
    rw [rounds_succ]
    go_wp2
    go_ret
    exact ⟨rfl, (((Below.refl _ _).alloc (Nat.le_refl _) _).alloc (by simp) _).alloc (by simp; omega) _⟩
  · clear hA hB hC
    go_enter Tryd.func22, Tryd.ntmps22
    go_wp2
    refine wp_loop_rounds 4 ?_; rw [rounds_succ]
    go_wp2
    rw [rounds_succ]
    go_wp2
    rw [rounds_succ]
    go_wp2
    rw [rounds_succ]
    go_wp2
    go_ret
    exact ⟨rfl, (((Below.refl _ _).alloc (Nat.le_refl _) _).alloc (by simp) _).alloc (by simp; omega) _⟩
  · clear hA hB hC
    go_enter Tryd.func22, Tryd.ntmps22
    go_wp2
    refine wp_loop_rounds 4 ?_; rw [rounds_succ]
    go_wp2
    rw [rounds_succ]
    go_wp2
    rw [rounds_succ]
    go_wp2
    rw [rounds_succ]
    go_wp2
    go_ret
    exact ⟨rfl, (((Below.refl _ _).alloc (Nat.le_refl _) _).alloc (by simp) _).alloc (by simp; omega) _⟩
theorem SpansAt.below {n : Nat} {w w' : World} {C : Nat} (h : SpansAt w C) (hb : Below n w w') (hC : C < n) : SpansAt w' C :=
  ⟨(hb.cell (p := ⟨C, 0, none⟩) hC).trans h.c0, (hb.cell (p := ⟨C, 1, none⟩) hC).trans h.c1, (hb.cell (p := ⟨C, 2, none⟩) hC).trans h.c2, (hb.cell (p := ⟨C, 3, none⟩) hC).trans h.c3, (hb.cell (p := ⟨C, 4, none⟩) hC).trans h.c4, (hb.cell (p := ⟨C, 5, none⟩) hC).trans h.c5⟩
/-- Is a text plain? -/
def plnB (s : List UInt8) (rs : List Nat) : Bool := (((suchL strB (plsAll s rs)).length : Nat) : Int) == 0
def BoolPost (w : World) (b : Bool) (e : Ending) (w' : World) : Prop := e = .returned (.bool b) ∧ Below w.heap.size w w'
set_option maxRecDepth 100000 in
set_option maxHeartbeats 1000000 in
theorem plain_any (s : ByteArray) (rs : List Nat) (hrd : Rd s rs) (hs : s.size ≤ maxLen) (w : World) (ht : Tabs w) :
    Calls Tryd.prog 14 #[.string s] w fun e w' => BoolPost w (plnB s.data.toList rs) e w' := by
  obtain ⟨w1, hw1⟩ : ∃ w1, w.alloc (.cells #[.int .i32 (-1), .int .i32 31, .int .i32 127, .int .i32 159, .int .i32 64976, .int .i32 65007] 48) = w1 := ⟨_, rfl⟩
  obtain ⟨w2, hw2⟩ : ∃ w2, w1.alloc (.cells #[.string s] 9) = w2 := ⟨_, rfl⟩
  have hs1 : w1.heap.size = w.heap.size + 1 := by rw [← hw1]; simp
  have hs2 : w2.heap.size = w.heap.size + 2 := by rw [← hw2]; simp [hs1]
  have hb1 : Below w.heap.size w w1 := by rw [← hw1]; exact (Below.refl _ w).alloc (Nat.le_refl _) _
  have hb2 : Below w.heap.size w w2 := by rw [← hw2]; exact hb1.alloc (by omega) _
  have hSp1 : SpansAt w1 w.heap.size := by
    have h := cell_of_row w1 w.heap.size
    have hr : w1.heap[w.heap.size]? = some (.cells #[.int .i32 (-1), .int .i32 31, .int .i32 127, .int .i32 159, .int .i32 64976, .int .i32 65007] 48 (0, 0)) := by rw [← hw1]; exact World.alloc_heap_new w _
    exact ⟨h 0 _ _ _ hr, h 1 _ _ _ hr, h 2 _ _ _ hr, h 3 _ _ _ hr, h 4 _ _ _ hr, h 5 _ _ _ hr⟩
  have hSp2 : SpansAt w2 w.heap.size := hSp1.below (n := w.heap.size + 1) (by rw [← hw2, ← hs1]; exact (Below.refl _ w1).alloc (Nat.le_refl _) _) (by omega)
  have hS : w2.cell? ⟨w.heap.size + 1, 0, none⟩ = some (.string s) := by rw [← hw2, ← hs1]; exact (Boxed.new w1 _ _).cell
  have h2 := ht.two
  have hsv := callsIn_wide.1 (sievedT_wide 4 (by decide) (w.heap.size + 1) w.heap.size strB (plsAll s.data.toList rs) _ (rs.length + 1) hrd.short (KS (w.heap.size + 1)) w2 (fun k hk => by rcases hk with rfl | hk <;> omega)
    (runes_stops 3 (by decide) (w.heap.size + 1) s rs hrd hs (KS (w.heap.size + 1)) (.inl rfl) (fun _ h => .inr h) w2 (fun k hk => by rcases hk with rfl | hk <;> omega) hS (ht.below hb2 h2))
    (fun q W hW => strange_any q w.heap.size W (hSp2.below hW (by omega))))
  have HV := Lib.hid hsv
  have HW1 := Lib.hid hw1
  have HW2 := Lib.hid hw2
  have HS1 := Lib.hid hs1
  have HB2 := Lib.hid (And.intro hb2 hs2)
  have hru := Lib.hid (callsIn_wide.1 (runes_in Fence.wide 4 trivial rfl s w1))
  unfold plnB
  generalize (suchL strB (plsAll s.data.toList rs)).length = m at *
  clear hsv hw1 hw2 hs1 hs2 hb1 hb2 hSp1 hSp2 hS ht hrd h2
  go_enter Tryd.func14, Tryd.ntmps14
  go_wp2_with (first
    | (go_at_call 20; rw [HW1.out]; refine hru.out.mono ?_; rintro e w' ⟨rfl, hw'⟩; obtain rfl : w2 = w' := HW2.out.symm.trans hw'; rw [HS1.out]; clear hw')
    | (go_at_call 23; refine HV.out.mono ?_; rintro e w3 ⟨a, c, rfl, hb3⟩))
  go_ret
  exact ⟨rfl, HB2.out.1.trans (hb3.mono (by have := HB2.out.2; omega))⟩
end Go.Proofs.YtbmnngcogdamkaaDoor

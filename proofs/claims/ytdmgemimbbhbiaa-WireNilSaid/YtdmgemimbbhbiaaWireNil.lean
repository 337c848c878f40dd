/- Layer 3: the law on writers and readers that are not there. -/
import Derived.Test.YtdmgemimbbhbiaaWireK
namespace Go.Proofs.Ytdmgemimbbhbiaa
open Go.RowKit

/-- No writer or reader of a call's: nil, or a zero one. -/
def Absent (w : World) (v : Value) : Prop := v = .pointer none ∨ ∃ B, v = wptr B ∧ B < w.heap.size ∧ w.cell? ⟨B, 0, none⟩ = some (.bool false)
theorem Absent.below {w w' : World} {v : Value} (h : Absent w v) (hb : Below w.heap.size w w') : Absent w' v := by
  rcases h with h | ⟨B, h1, h2, h3⟩
  · exact .inl h
  · exact .inr ⟨B, h1, Nat.lt_of_lt_of_le h2 hb.size, (hb.cell (p := ⟨B, 0, none⟩) h2).trans h3⟩
section
variable {w : World} {v : Value}
theorem wthere_absent (h : Absent w v) : Calls Try.prog 70 #[v] w fun e w' => e = .returned (.bool false) ∧ w = w' := by
  rcases h with rfl | ⟨B, rfl, hlt, hc⟩
  · go_enter Try.func70, Try.ntmps70
    go_wp2
    go_ret
    exact ⟨rfl, rfl⟩
  · go_enter Try.func70, Try.ntmps70
    go_wp2
    go_ret
    exact ⟨rfl, rfl⟩
theorem rthere_absent (h : Absent w v) : Calls Try.prog 77 #[v] w fun e w' => e = .returned (.bool false) ∧ w = w' := by
  rcases h with rfl | ⟨B, rfl, hlt, hc⟩
  · go_enter Try.func77, Try.ntmps77
    go_wp2
    go_ret
    exact ⟨rfl, rfl⟩
  · go_enter Try.func77, Try.ntmps77
    go_wp2
    go_ret
    exact ⟨rfl, rfl⟩
theorem wnum_absent (h : Absent w v) (n : Int) (k : Int) : Calls Try.prog 38 #[v, .int .u64 n, .int .i64 k] w fun e w' => e = .returned (.int .i64 1) ∧ w = w' := by
  have T := Lib.hid (wthere_absent h)
  clear h
  go_enter Try.func38, Try.ntmps38
  go_wp2
  go_step3
  go_wp2_with (go_at_call 70; refine T.out.mono ?_; rintro e w' ⟨rfl, rfl⟩)
  rw [Exit.noGoto_ret]
  go_ret
  exact ⟨rfl, rfl⟩
theorem wtruth_absent (h : Absent w v) (b : Bool) : Calls Try.prog 41 #[v, .bool b] w fun e w' => e = .returned (.int .i64 1) ∧ w = w' := by
  have T := Lib.hid (wthere_absent h)
  clear h
  go_enter Try.func41, Try.ntmps41
  go_wp2_with (go_at_call 70; refine T.out.mono ?_; rintro e w' ⟨rfl, rfl⟩)
  go_ret
  exact ⟨rfl, rfl⟩
theorem wtext_absent (h : Absent w v) (s : ByteArray) : Calls Try.prog 40 #[v, .string s] w fun e w' => e = .returned (.int .i64 1) ∧ w = w' := by
  have T := Lib.hid (wthere_absent h)
  clear h
  go_enter Try.func40, Try.ntmps40
  go_wp2_with (go_at_call 70; refine T.out.mono ?_; rintro e w' ⟨rfl, rfl⟩)
  go_ret
  exact ⟨rfl, rfl⟩
theorem wbytes_absent (h : Absent w v) : Calls Try.prog 42 #[v] w fun e w' => e = .returned (.slice none 0 0) ∧ w = w' := by
  have T := Lib.hid (wthere_absent h)
  clear h
  go_enter Try.func42, Try.ntmps42
  go_wp2_with (go_at_call 70; refine T.out.mono ?_; rintro e w' ⟨rfl, rfl⟩)
  go_ret
  exact ⟨rfl, rfl⟩
theorem wlen_absent (h : Absent w v) : Calls Try.prog 43 #[v] w fun e w' => e = .returned (.int .i64 0) ∧ w = w' := by
  have T := Lib.hid (wthere_absent h)
  clear h
  go_enter Try.func43, Try.ntmps43
  go_wp2_with (go_at_call 70; refine T.out.mono ?_; rintro e w' ⟨rfl, rfl⟩)
  go_ret
  exact ⟨rfl, rfl⟩
theorem rnum_absent (h : Absent w v) (k : Int) : Calls Try.prog 45 #[v, .int .i64 k] w fun e w' => e = .returned (.tuple #[.int .u64 0, .int .i64 1]) ∧ w = w' := by
  have T := Lib.hid (rthere_absent h)
  clear h
  go_enter Try.func45, Try.ntmps45
  go_wp2
  go_step3
  go_wp2_with (go_at_call 77; refine T.out.mono ?_; rintro e w' ⟨rfl, rfl⟩)
  rw [Exit.noGoto_ret]
  go_ret2
  exact ⟨rfl, rfl⟩
theorem rtruth_absent (h : Absent w v) : Calls Try.prog 48 #[v] w fun e w' => e = .returned (.tuple #[.bool false, .int .i64 1]) ∧ w = w' := by
  have T := Lib.hid (rthere_absent h)
  clear h
  go_enter Try.func48, Try.ntmps48
  go_wp2_with (go_at_call 77; refine T.out.mono ?_; rintro e w' ⟨rfl, rfl⟩)
  go_ret2
  exact ⟨rfl, rfl⟩
theorem rtext_absent (h : Absent w v) : Calls Try.prog 47 #[v] w fun e w' => e = .returned (.tuple #[.string ⟨#[]⟩, .int .i64 1]) ∧ w = w' := by
  have T := Lib.hid (rthere_absent h)
  clear h
  go_enter Try.func47, Try.ntmps47
  go_wp2_with (go_at_call 77; refine T.out.mono ?_; rintro e w' ⟨rfl, rfl⟩)
  go_ret2
  exact ⟨rfl, rfl⟩
theorem rleft_absent (h : Absent w v) : Calls Try.prog 49 #[v] w fun e w' => e = .returned (.int .i64 0) ∧ w = w' := by
  have T := Lib.hid (rthere_absent h)
  clear h
  go_enter Try.func49, Try.ntmps49
  go_wp2_with (go_at_call 77; refine T.out.mono ?_; rintro e w' ⟨rfl, rfl⟩)
  go_ret
  exact ⟨rfl, rfl⟩
theorem rrest_absent (h : Absent w v) : Calls Try.prog 50 #[v] w fun e w' => e = .returned (.slice none 0 0) ∧ w = w' := by
  have T := Lib.hid (rthere_absent h)
  clear h
  go_enter Try.func50, Try.ntmps50
  go_wp2_with (go_at_call 77; refine T.out.mono ?_; rintro e w' ⟨rfl, rfl⟩)
  go_ret
  exact ⟨rfl, rfl⟩
end

set_option maxRecDepth 100000 in
set_option maxHeartbeats 4000000 in
theorem wireNil_any (n : Int) (s : ByteArray) (w : World) : Calls Try.prog 12 #[.int .u64 n, .string s] w fun e w' => e = .returned (.bool true) ∧ Below w.heap.size w w' := by
  by_cases hn : 100 < s.size
  · have hd : decide ((100 : Int) < (s.size : Int)) = true := by simp; omega
    have hk := Lib.hid wknown_any
    go_enter Try.func12, Try.ntmps12
    go_wp2_with (go_at_call 35; refine (hk.out w).mono ?_; rintro e w' ⟨rfl, hb⟩)
    go_ret
    exact ⟨rfl, hb⟩
  · have hd : decide ((100 : Int) < (s.size : Int)) = false := by simp; omega
    have hk := Lib.hid wknown_any
    go_enter Try.func12, Try.ntmps12
    go_wp2_with fail
    obtain ⟨W, hW⟩ : ∃ W, (w.alloc (.cells #[.bool false, .slice none 0 0] 96)).alloc (.cells #[.bool false, .slice none 0 0, .int .i64 0] 98) = W := ⟨_, rfl⟩
    have h0 : Absent W (.pointer none) := .inl rfl
    have hy : Absent W (wptr w.heap.size) := .inr ⟨_, rfl, by rw [← hW]; simp; omega, by
      rw [← hW, cell_of_row _ w.heap.size 0 _ _ _ ((Below.heap_alloc _ _ _ (by simp)).trans (heap_alloc_new w _))]; rfl⟩
    have hz : Absent W (wptr (w.heap.size + 1)) := .inr ⟨_, rfl, by rw [← hW]; simp, by
      have := heap_alloc_new (w.alloc (.cells #[.bool false, .slice none 0 0] 96)) (.cells #[.bool false, .slice none 0 0, .int .i64 0] 98)
      rw [World.size_alloc] at this
      rw [← hW, cell_of_row _ (w.heap.size + 1) 0 _ _ _ this]; rfl⟩
    have hB : Below w.heap.size w W := by rw [← hW]; exact ((Below.refl _ _).alloc (Nat.le_refl _) _).alloc (by simp) _
    rw [hW]
    clear hW hd
    go_wp2_with (first
      | (go_at_call 45; refine (rnum_absent h0 1).mono ?_; rintro e w' ⟨rfl, rfl⟩)
      | (go_at_call 47; refine (rtext_absent hz).mono ?_; rintro e w' ⟨rfl, rfl⟩)
      | (go_at_call 48; refine (rtruth_absent h0).mono ?_; rintro e w' ⟨rfl, rfl⟩)
      | (go_at_call 38; refine (wnum_absent h0 n 8).mono ?_; rintro e w' ⟨rfl, rfl⟩)
      | (go_at_call 40; refine (wtext_absent hy s).mono ?_; rintro e w' ⟨rfl, rfl⟩)
      | (go_at_call 41; refine (wtruth_absent h0 true).mono ?_; rintro e w' ⟨rfl, rfl⟩)
      | (go_at_call 42; refine (wbytes_absent h0).mono ?_; rintro e w' ⟨rfl, rfl⟩)
      | (go_at_call 50; refine (rrest_absent hz).mono ?_; rintro e w' ⟨rfl, rfl⟩)
      | (go_at_call 43; refine (wlen_absent hy).mono ?_; rintro e w' ⟨rfl, rfl⟩)
      | (go_at_call 49; refine (rleft_absent h0).mono ?_; rintro e w' ⟨rfl, rfl⟩)
      | (go_at_call 35; refine (hk.out W).mono ?_; rintro e w2 ⟨rfl, hb⟩))
    go_ret
    exact ⟨rfl, hB.trans (hb.mono hB.size)⟩
end Go.Proofs.Ytdmgemimbbhbiaa

/- Layer 12: the laws' own example. -/
import Derived.Test.YtbmnngcogdamkaaDoorUtfM
import Derived.Test.YtbmnngcogdamkaaDoorUtfG
namespace Go.Proofs.YtbmnngcogdamkaaDoor
open Go.RowKit

theorem rd_of {s : ByteArray} {rs : List Nat} (rest : List UInt8) (hg : rs.all (fun r => decide (0 < r) && mayN r) = true) (h : s.data.toList.take 65535 = textR rs ++ rest) (hd : dec rest = none) : Rd s rs :=
  ⟨fun r hr => by
    have := List.all_eq_true.1 hg r hr
    simp only [Bool.and_eq_true, decide_eq_true_eq] at this
    exact this, rest, h, hd⟩
theorem rd_a : Rd ⟨#[97, 195, 164]⟩ [97, 228] := rd_of [] (by decide) (by decide) (by decide)
theorem rd_b : Rd ⟨#[192, 128]⟩ [] := rd_of [192, 128] (by decide) (by decide) (by decide)
theorem rd_c : Rd ⟨#[237, 160, 128]⟩ [] := rd_of [237, 160, 128] (by decide) (by decide) (by decide)
theorem rd_d : Rd ⟨#[97, 255]⟩ [97] := rd_of [255] (by decide) (by decide) (by decide)
theorem rd_e : Rd ⟨#[]⟩ [] := rd_of [] (by decide) (by decide) (by decide)
theorem rd_f : Rd ⟨#[97, 7]⟩ [97, 7] := rd_of [] (by decide) (by decide) (by decide)
def known3 : List Nat := [228, 8364, 128512]
theorem k_raw (w : World) (ht : Tabs w) (b c : Nat) (hb : b < w.heap.size) (h0 : w.cell? ⟨b, 0, none⟩ = some (.int .i32 228)) (h1 : w.cell? ⟨b, 1, none⟩ = some (.int .i32 8364)) (h2 : w.cell? ⟨b, 2, none⟩ = some (.int .i32 128512)) :
    Calls Tryd.prog 15 #[.slice (some ⟨b, 0, none⟩) 3 c] w fun e w' => e = .returned (.tuple #[.string ⟨#[195, 164, 226, 130, 172, 240, 159, 152, 128]⟩, .int .i64 0]) ∧ Below w.heap.size w w' := by
  refine (raw_all (some ⟨b, 0, none⟩) known3 c (by decide) w ht (fun _ => ⟨b, 0, rfl, hb, fun j hj => ?_⟩) (by decide)).mono ?_
  · have hj' : j < 3 := hj
    have : j = 0 ∨ j = 1 ∨ j = 2 := by omega
    rcases this with rfl | rfl | rfl
    · exact h0
    · exact h1
    · exact h2
  · rintro e w' (⟨-, rfl, hb⟩ | ⟨hno, -⟩)
    · exact ⟨by rw [show textR known3 = [195, 164, 226, 130, 172, 240, 159, 152, 128] by decide], hb⟩
    · exact absurd (show okR known3 from ⟨by decide, by decide⟩) hno
theorem k_cut (w : World) (ht : Tabs w) : Calls Tryd.prog 19 #[.string ⟨#[97, 195, 164]⟩, .int .i64 2] w fun e w' => e = .returned (.tuple #[.string ⟨#[97]⟩, .int .i64 0]) ∧ Below w.heap.size w w' := by
  refine (cut_any _ [97, 228] rd_a (by decide) 2 w ht).mono ?_
  rintro e w' (⟨h, -⟩ | ⟨-, h, -⟩ | ⟨-, -, rfl, hb⟩)
  · omega
  · exact absurd h (by decide)
  · exact ⟨by rw [Lib.extract_eq]; rfl, hb⟩
theorem k_check (s : ByteArray) (rs : List Nat) (hrd : Rd s rs) (hs : s.size ≤ maxLen) (z : Int) (hz : chkZ s.data.toList rs = z) (w : World) (ht : Tabs w) : Calls Tryd.prog 12 #[.string s] w fun e w' => e = .returned (.int .i64 z) ∧ Below w.heap.size w w' :=
  (check_any s rs hrd hs w ht).mono fun e w' h => by rw [← hz]; exact h
theorem k_wrong (s : ByteArray) (rs : List Nat) (hrd : Rd s rs) (hs : s.size ≤ maxLen) (z : Int) (hz : wrZ s.data.toList rs = z) (w : World) (ht : Tabs w) : Calls Tryd.prog 11 #[.string s] w fun e w' => e = .returned (.int .i64 z) ∧ Below w.heap.size w w' :=
  (wrong_any s rs hrd hs w ht).mono fun e w' h => by rw [← hz]; exact h
theorem k_plain (s : ByteArray) (rs : List Nat) (hrd : Rd s rs) (hs : s.size ≤ maxLen) (b : Bool) (hz : plnB s.data.toList rs = b) (w : World) (ht : Tabs w) : Calls Tryd.prog 14 #[.string s] w fun e w' => e = .returned (.bool b) ∧ Below w.heap.size w w' :=
  (plain_any s rs hrd hs w ht).mono fun e w' h => by rw [← hz]; exact h
set_option maxRecDepth 100000 in
set_option maxHeartbeats 2000000 in
theorem known_any (w : World) (ht : Tabs w) : Calls Tryd.prog 8 #[] w fun e w' => BoolPost w true e w' := by
  have h2 := ht.two
  obtain ⟨w1, hw1⟩ : ∃ w1, w.alloc (.cells #[.int .i32 228, .int .i32 8364, .int .i32 128512] 21) = w1 := ⟨_, rfl⟩
  have hr : w1.heap[w.heap.size]? = some (.cells #[.int .i32 228, .int .i32 8364, .int .i32 128512] 21 (0, 0)) := by rw [← hw1]; exact World.alloc_heap_new w _
  have hb1 : Below w.heap.size w w1 := by rw [← hw1]; exact (Below.refl _ w).alloc (Nat.le_refl _) _
  have HK := Lib.hid (k_raw w1 (ht.below hb1 h2) w.heap.size 3 (by rw [← hw1]; simp) (cell_of_row w1 _ 0 _ _ _ hr) (cell_of_row w1 _ 1 _ _ _ hr) (cell_of_row w1 _ 2 _ _ _ hr))
  have HW := Lib.hid hw1
  have HB1 := Lib.hid hb1
  have HT := Lib.hid ht
  clear ht hw1 hr hb1
  go_enter Tryd.func8, Tryd.ntmps8
  go_wp2_with fail
  rw [HW.out]
  refine HK.out.mono ?_
  rintro e w2 ⟨rfl, hb2⟩
  have HB2 := Lib.hid (show Below w.heap.size w w2 from HB1.out.trans (hb2.mono HB1.out.size))
  clear hb2
  go_wp2_with fail
  refine (k_cut w2 (HT.out.below HB2.out h2)).mono ?_
  rintro e w3 ⟨rfl, hb3⟩
  have HB3 := Lib.hid (show Below w.heap.size w w3 from HB2.out.trans (hb3.mono HB2.out.size))
  clear hb3
  go_wp2_with fail
  refine (k_check _ _ rd_b (by decide) 220 (by decide) w3 (HT.out.below HB3.out h2)).mono ?_
  rintro e w4 ⟨rfl, hb4⟩
  have HB4 := Lib.hid (show Below w.heap.size w w4 from HB3.out.trans (hb4.mono HB3.out.size))
  clear hb4
  go_wp2_with fail
  refine (k_check _ _ rd_c (by decide) 220 (by decide) w4 (HT.out.below HB4.out h2)).mono ?_
  rintro e w5 ⟨rfl, hb5⟩
  have HB5 := Lib.hid (show Below w.heap.size w w5 from HB4.out.trans (hb5.mono HB4.out.size))
  clear hb5
  go_wp2_with fail
  refine (k_wrong _ _ rd_d (by decide) 1 (by decide) w5 (HT.out.below HB5.out h2)).mono ?_
  rintro e w6 ⟨rfl, hb6⟩
  have HB6 := Lib.hid (show Below w.heap.size w w6 from HB5.out.trans (hb6.mono HB5.out.size))
  clear hb6
  go_wp2_with fail
  refine (k_check _ _ rd_e (by decide) 0 (by decide) w6 (HT.out.below HB6.out h2)).mono ?_
  rintro e w7 ⟨rfl, hb7⟩
  have HB7 := Lib.hid (show Below w.heap.size w w7 from HB6.out.trans (hb7.mono HB6.out.size))
  clear hb7
  go_wp2_with fail
  refine (k_plain _ _ rd_f (by decide) false (by decide) w7 (HT.out.below HB7.out h2)).mono ?_
  rintro e w8 ⟨rfl, hb8⟩
  have HB8 := Lib.hid (show Below w.heap.size w w8 from HB7.out.trans (hb8.mono HB7.out.size))
  clear hb8
  go_wp2_with fail
  go_ret
  exact ⟨rfl, HB8.out⟩
end Go.Proofs.YtbmnngcogdamkaaDoor

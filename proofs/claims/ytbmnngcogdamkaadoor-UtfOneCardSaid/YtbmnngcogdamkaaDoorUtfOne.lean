/- Layer 12: the statement of any number. -/
import Derived.Lib.SmallJoins
import Derived.Test.YtbmnngcogdamkaaDoorUtfN
namespace Go.Proofs.YtbmnngcogdamkaaDoor
open Go.RowKit

theorem good_one {n : Nat} (h0 : 0 < n) (hm : mayN n = true) : ∀ r ∈ [n], Good r := by
  intro r hr
  obtain rfl : r = n := by simpa using hr
  exact ⟨h0, hm⟩
theorem rd_raw (n : Nat) (h0 : 0 < n) (hm : mayN n = true) : Rd ⟨(rawR n).toArray⟩ [n] := by
  refine ⟨good_one h0 hm, [], ?_, dec_nil⟩
  have hl := rawR_length n
  have hb := lenB_le n
  rw [textR_one, List.append_nil, List.toList_toArray, List.take_of_length_le (by omega)]
theorem rd_on (n : Nat) (h0 : 0 < n) (hm : mayN n = true) : Rd ⟨(rawR n ++ [128]).toArray⟩ [n] := by
  refine ⟨good_one h0 hm, [128], ?_, by decide⟩
  have hl := rawR_length n
  have hb := lenB_le n
  rw [textR_one, List.toList_toArray, List.take_of_length_le (by rw [List.length_append]; simp; omega)]
theorem nOf_head (n : Nat) (hm : mayN n = true) : nOf (bt (rawR n) 0) = lenB n := by
  by_cases h0 : 0 < n
  · have h := dec_raw n [] h0 hm
    rw [List.append_nil] at h
    unfold dec at h
    split at h
    · cases h
    split at h
    · cases h
    split at h
    · cases h
    · have := congrArg (Option.map Prod.snd) h
      simpa using this
  · obtain rfl : n = 0 := by omega
    decide
theorem rd_less (n : Nat) (hm : mayN n = true) (hl : 1 ≤ lenB n) : Rd ⟨((rawR n).take (lenB n)).toArray⟩ [] := by
  refine ⟨(fun _ hr => by cases hr), (rawR n).take (lenB n), ?_, dec_short ?_⟩
  · have hb := lenB_le n
    rw [List.toList_toArray, List.take_of_length_le (by rw [List.length_take]; omega)]; rfl
  · have h1 : bt ((rawR n).take (lenB n)) 0 = bt (rawR n) 0 := by
      unfold bt
      rw [List.getElem?_take, if_pos (by omega)]
    rw [h1, nOf_head n hm, List.length_take]; omega
theorem raw1_bad (r : Int) (hm : mayZ r = false) (w : World) (b c : Nat) (hb : b < w.heap.size) (h0 : w.cell? ⟨b, 0, none⟩ = some (.int .i32 r)) :
    Calls Tryd.prog 15 #[.slice (some ⟨b, 0, none⟩) 1 c] w fun e w' => e = .returned (.tuple #[.string ⟨#[]⟩, .int .i64 2]) ∧ Below w.heap.size w w' :=
  raw_bad (some ⟨b, 0, none⟩) [r] c (by show 1 ≤ 100000; omega) w (fun _ => ⟨b, 0, rfl, hb, fun j hj => by
    have hj' : j < 1 := hj
    obtain rfl : j = 0 := by omega
    exact h0⟩) (fun h => by have := h r (by simp); rw [hm] at this; cases this)
theorem raw1_all (n : Nat) (hm : mayN n = true) (w : World) (ht : Tabs w) (b c : Nat) (hb : b < w.heap.size) (h0 : w.cell? ⟨b, 0, none⟩ = some (.int .i32 n)) :
    Calls Tryd.prog 15 #[.slice (some ⟨b, 0, none⟩) 1 c] w fun e w' => RawsPost w [n] e w' :=
  raw_all (some ⟨b, 0, none⟩) [n] c (by show 1 ≤ 100000; omega) w ht (fun _ => ⟨b, 0, rfl, hb, fun j hj => by
    have hj' : j < 1 := hj
    obtain rfl : j = 0 := by omega
    exact h0⟩) (fun r hr => by obtain rfl : r = n := by simpa using hr
                               exact hm)
set_option maxRecDepth 100000 in
set_option maxHeartbeats 2000000 in
theorem one_bad (r : Int) (hm : mayZ r = false) (w : World) (ht : Tabs w) : Calls Tryd.prog 7 #[.int .i32 r] w fun e w' => BoolPost w true e w' := by
  have h2 := ht.two
  obtain ⟨w1, hw1⟩ : ∃ w1, w.alloc (.cells #[.int .i32 r] 21) = w1 := ⟨_, rfl⟩
  have hr : w1.heap[w.heap.size]? = some (.cells #[.int .i32 r] 21 (0, 0)) := by rw [← hw1]; exact World.alloc_heap_new w _
  have hb1 : Below w.heap.size w w1 := by rw [← hw1]; exact (Below.refl _ w).alloc (Nat.le_refl _) _
  have HK := Lib.hid (raw1_bad r hm w1 w.heap.size 1 (by rw [← hw1]; simp) (cell_of_row w1 _ 0 _ _ _ hr))
  have HW := Lib.hid hw1
  have HB1 := Lib.hid hb1
  have HT := Lib.hid ht
  have key : r < 0 ∨ (55296 ≤ r ∧ r ≤ 57343) ∨ 1114111 < r := by unfold mayZ at hm; simp at hm; omega
  clear ht hw1 hr hb1 hm
  rcases key with h | ⟨h, h'⟩ | h
  · have d0 : decide (0 < r) = false := by simp; omega
    have d2 : decide (57343 < r) = false := by simp; omega
    go_enter Tryd.func7, Tryd.ntmps7
    go_wp2_with fail
    rw [HW.out]
    refine HK.out.mono ?_
    rintro e w2 ⟨rfl, hb2⟩
    have HB2 := Lib.hid (show Below w.heap.size w w2 from HB1.out.trans (hb2.mono HB1.out.size))
    clear hb2
    go_wp2_with fail
    refine (known_any w2 (HT.out.below HB2.out h2)).mono ?_
    rintro e w3 ⟨rfl, hb3⟩
    have HB3 := Lib.hid (show Below w.heap.size w w3 from HB2.out.trans (hb3.mono HB2.out.size))
    clear hb3
    go_wp2_with fail
    go_ret
    exact ⟨rfl, HB3.out⟩
  · have d1 : decide (r < 55296) = false := by simp; omega
    have d2 : decide (57343 < r) = false := by simp; omega
    go_enter Tryd.func7, Tryd.ntmps7
    go_wp2_with fail
    rw [HW.out]
    refine HK.out.mono ?_
    rintro e w2 ⟨rfl, hb2⟩
    have HB2 := Lib.hid (show Below w.heap.size w w2 from HB1.out.trans (hb2.mono HB1.out.size))
    clear hb2
    go_wp2_with fail
    refine (known_any w2 (HT.out.below HB2.out h2)).mono ?_
    rintro e w3 ⟨rfl, hb3⟩
    have HB3 := Lib.hid (show Below w.heap.size w w3 from HB2.out.trans (hb3.mono HB2.out.size))
    clear hb3
    go_wp2_with fail
    go_ret
    exact ⟨rfl, HB3.out⟩
  · have d1 : decide (r < 55296) = false := by simp; omega
    have d3 : decide (r ≤ 1114111) = false := by simp; omega
    go_enter Tryd.func7, Tryd.ntmps7
    go_wp2_with fail
    rw [HW.out]
    refine HK.out.mono ?_
    rintro e w2 ⟨rfl, hb2⟩
    have HB2 := Lib.hid (show Below w.heap.size w w2 from HB1.out.trans (hb2.mono HB1.out.size))
    clear hb2
    go_wp2_with fail
    refine (known_any w2 (HT.out.below HB2.out h2)).mono ?_
    rintro e w3 ⟨rfl, hb3⟩
    have HB3 := Lib.hid (show Below w.heap.size w w3 from HB2.out.trans (hb3.mono HB2.out.size))
    clear hb3
    go_wp2_with fail
    go_ret
    exact ⟨rfl, HB3.out⟩
set_option maxRecDepth 100000 in
set_option maxHeartbeats 2000000 in
theorem one_nought (w : World) (ht : Tabs w) : Calls Tryd.prog 7 #[.int .i32 0] w fun e w' => BoolPost w true e w' := by
  have h2 := ht.two
  obtain ⟨w1, hw1⟩ : ∃ w1, w.alloc (.cells #[.int .i32 0] 21) = w1 := ⟨_, rfl⟩
  have hr : w1.heap[w.heap.size]? = some (.cells #[.int .i32 0] 21 (0, 0)) := by rw [← hw1]; exact World.alloc_heap_new w _
  have hb1 : Below w.heap.size w w1 := by rw [← hw1]; exact (Below.refl _ w).alloc (Nat.le_refl _) _
  have HK := Lib.hid (raw1_all 0 (by decide) w1 (ht.below hb1 h2) w.heap.size 1 (by rw [← hw1]; simp) (cell_of_row w1 _ 0 _ _ _ hr))
  have HW := Lib.hid hw1
  have HB1 := Lib.hid hb1
  have HT := Lib.hid ht
  clear ht hw1 hr hb1
  go_enter Tryd.func7, Tryd.ntmps7
  go_wp2_with fail
  rw [HW.out]
  refine HK.out.mono ?_
  rintro e w2 (⟨hok, -⟩ | ⟨-, rfl, hb2⟩)
  · exact absurd (hok.1 0 (by simp)) (by decide)
  have HB2 := Lib.hid (show Below w.heap.size w w2 from HB1.out.trans (hb2.mono HB1.out.size))
  clear hb2
  go_wp2_with fail
  refine (known_any w2 (HT.out.below HB2.out h2)).mono ?_
  rintro e w3 ⟨rfl, hb3⟩
  have HB3 := Lib.hid (show Below w.heap.size w w3 from HB2.out.trans (hb3.mono HB2.out.size))
  clear hb3
  go_wp2_with fail
  go_ret
  exact ⟨rfl, HB3.out⟩
theorem runes_one (n : Nat) (h0 : 0 < n) (hm : mayN n = true) (w : World) (ht : Tabs w) : Calls Tryd.prog 9 #[.string ⟨(rawR n).toArray⟩] w fun e w' => ∃ g c, e = .returned (.tuple #[.slice (some ⟨g, 0, none⟩) 1 c, .int .i64 0]) ∧ w'.cell? ⟨g, 0, none⟩ = some (.int .i32 n) ∧ Below w.heap.size w w' := by
  have hl := rawR_length n
  have hb := lenB_le n
  have hsz : (⟨(rawR n).toArray⟩ : ByteArray).size = lenB n + 1 := by rw [Lib.size_eq, List.toList_toArray, hl]
  refine (runes_any _ [n] (rd_raw n h0 hm) (by rw [hsz]; unfold maxLen; omega) w ht).mono ?_
  rintro e w' (⟨-, v, rfl, ho, hb⟩ | ⟨hno, -⟩)
  · obtain ⟨h1, ⟨rfl, h2⟩ | ⟨g, cap, cur, rfl, hg, hh, hn, hc, hs, ht⟩⟩ := ho
    · cases h2
    · refine ⟨g, cap, rfl, ?_, hb⟩
      have h3 : (cur.toList.take 1)[0]? = some (.int .i32 n) := by
        have := congrArg (fun l : List Value => l[0]?) ht
        simpa [runeVals] using this
      rw [List.getElem?_take, if_pos (by omega), Array.getElem?_toList] at h3
      unfold World.cell?; simp only [hh]; exact h3
  · rw [textR_one, List.toList_toArray] at hno
    omega
set_option maxRecDepth 100000 in
set_option maxHeartbeats 8000000 in
theorem one_good (n : Nat) (h0 : 0 < n) (hm : mayN n = true) (w : World) (ht : Tabs w) : Calls Tryd.prog 7 #[.int .i32 n] w fun e w' => BoolPost w true e w' := by
  have h2 := ht.two
  obtain ⟨w1, hw1⟩ : ∃ w1, w.alloc (.cells #[.int .i32 n] 21) = w1 := ⟨_, rfl⟩
  have hr : w1.heap[w.heap.size]? = some (.cells #[.int .i32 n] 21 (0, 0)) := by rw [← hw1]; exact World.alloc_heap_new w _
  have hb1 : Below w.heap.size w w1 := by rw [← hw1]; exact (Below.refl _ w).alloc (Nat.le_refl _) _
  have HK := Lib.hid (raw1_all n hm w1 (ht.below hb1 h2) w.heap.size 1 (by rw [← hw1]; simp) (cell_of_row w1 _ 0 _ _ _ hr))
  have HW := Lib.hid hw1
  have HB1 := Lib.hid hb1
  have HT := Lib.hid ht
  have hl := rawR_length n
  have hok : okR [n] := ⟨fun r hr => by obtain rfl : r = n := by simpa using hr
                                        exact h0, by rw [textR_one, hl]; have := lenB_le n; omega⟩
  have HOK := Lib.hid hok
  have HR := Lib.hid (fun W hW => runes_one n h0 hm W hW)
  have hlt := mayN_lt hm
  obtain ⟨s, hs⟩ : ∃ s : ByteArray, s = ⟨(rawR n).toArray⟩ := ⟨_, rfl⟩
  have hsl : s.data.toList = rawR n := by rw [hs, List.toList_toArray]
  have hsz : s.size = lenB n + 1 := by rw [Lib.size_eq, hsl, hl]
  have hb3 := lenB_le n
  have HLs := Lib.hid (fun (hx : 1 ≤ lenB n) W hW => k_wrong (s.extract 0 (lenB n)) [] (by
      have := rd_less n hm hx
      rw [Lib.extract_eq, hsl]; exact this) (by rw [ByteArray.size_extract]; unfold maxLen; omega) 0 (by
      unfold wrZ
      rw [if_pos]
      · rfl
      · show 0 < _
        rw [← Lib.size_eq, ByteArray.size_extract]; omega) W hW)
  have e : s ++ ⟨#[128]⟩ = ⟨(rawR n ++ [128]).toArray⟩ := by
    apply ByteArray.ext; apply Array.toList_inj.1
    rw [Joins.data_append, hsl]
  have HOn := Lib.hid (fun W hW => k_wrong (s ++ ⟨#[128]⟩) [n] (by rw [e]; exact rd_on n h0 hm) (by rw [ByteArray.size_append, hsz]; unfold maxLen; show _ + 1 ≤ _; omega) (lenB n + 1) (by
      unfold wrZ
      rw [if_pos, textR_one, hl]
      · rfl
      · rw [textR_one, hl, e]; simp; omega) W hW)
  clear e
  have key : (0 < n ∧ n < 128 ∧ lenB n = 0) ∨ (128 ≤ n ∧ n < 2048 ∧ lenB n = 1) ∨ (2048 ≤ n ∧ n < 65536 ∧ lenB n = 2) ∨ (65536 ≤ n ∧ lenB n = 3) := by
    unfold lenB; split
    · left; omega
    split
    · right; left; omega
    split
    · right; right; left; omega
    · right; right; right; omega
  have hsp : n < 55296 ∨ 57343 < n := by unfold mayN at hm; simp at hm; omega
  have HKK : Hid (Calls Tryd.prog 15 #[.slice (some ⟨w.heap.size, 0, none⟩) 1 1] w1 fun e w' => e = .returned (.tuple #[.string s, .int .i64 0]) ∧ Below w1.heap.size w1 w') := by
    refine Lib.hid (HK.out.mono ?_)
    rintro e w' (⟨-, rfl, hb⟩ | ⟨hno, -⟩)
    · exact ⟨by rw [textR_one, ← hs], hb⟩
    · exact absurd HOK.out hno
  rw [← hs] at HR
  clear ht hw1 hr hb1 hm hok hl hs hsl hb3 HK HOK
  have hr0 : (0 : Int) < n := by omega
  have hsp' : (n : Int) < 55296 ∨ 57343 < (n : Int) := by omega
  have hlt' : (n : Int) ≤ 1114111 := by omega
  have key' : ((n : Int) < 128 ∧ lenB n = 0) ∨ (128 ≤ (n : Int) ∧ (n : Int) < 2048 ∧ lenB n = 1) ∨ (2048 ≤ (n : Int) ∧ (n : Int) < 65536 ∧ lenB n = 2) ∨ (65536 ≤ (n : Int) ∧ lenB n = 3) := by omega
  clear key hsp hlt h0
  generalize (n : Int) = r at *
  rcases key' with ⟨k2, k3⟩ | ⟨k1, k2, k3⟩ | ⟨k1, k2, k3⟩ | ⟨k1, k3⟩
  · rw [k3] at hsz HLs HOn
    clear k3
    have hne : ((s.size : Int) != 1) = false := by rw [hsz]; rfl
    have hsm : s.size ≤ 4 := by omega
    clear hsz
    clear hsp'
    go_enter Tryd.func7, Tryd.ntmps7
    go_wp2_with fail
    rw [HW.out]
    refine HKK.out.mono ?_
    rintro e w2 ⟨rfl, hb2⟩
    have HB2 := Lib.hid (show Below w.heap.size w w2 from HB1.out.trans (hb2.mono HB1.out.size))
    clear hb2
    go_wp2_with fail
    refine (HR.out w2 (HT.out.below HB2.out h2)).mono ?_
    rintro e w3 ⟨g, c, rfl, hcg, hb3⟩
    have HB3 := Lib.hid (show Below w.heap.size w w3 from HB2.out.trans (hb3.mono HB2.out.size))
    clear hb3
    go_wp2_with fail
    refine (HOn.out w3 (HT.out.below HB3.out h2)).mono ?_
    rintro e w5 ⟨rfl, hb5⟩
    have HB5 := Lib.hid (show Below w.heap.size w w5 from HB3.out.trans (hb5.mono HB3.out.size))
    clear hb5
    go_wp2_with fail
    refine (known_any w5 (HT.out.below HB5.out h2)).mono ?_
    rintro e w6 ⟨rfl, hb6⟩
    have HB6 := Lib.hid (show Below w.heap.size w w6 from HB5.out.trans (hb6.mono HB5.out.size))
    clear hb6
    go_wp2_with fail
    go_ret
    exact ⟨rfl, HB6.out⟩
  · rw [k3] at hsz HLs HOn
    clear k3
    have hne : ((s.size : Int) != 2) = false := by rw [hsz]; rfl
    have hsm : s.size ≤ 4 := by omega
    have hge : (1 : Int) ≤ (s.size : Int) := by omega
    clear hsz
    clear hsp'
    go_enter Tryd.func7, Tryd.ntmps7
    go_wp2_with fail
    rw [HW.out]
    refine HKK.out.mono ?_
    rintro e w2 ⟨rfl, hb2⟩
    have HB2 := Lib.hid (show Below w.heap.size w w2 from HB1.out.trans (hb2.mono HB1.out.size))
    clear hb2
    go_wp2_with fail
    refine (HR.out w2 (HT.out.below HB2.out h2)).mono ?_
    rintro e w3 ⟨g, c, rfl, hcg, hb3⟩
    have HB3 := Lib.hid (show Below w.heap.size w w3 from HB2.out.trans (hb3.mono HB2.out.size))
    clear hb3
    go_wp2_with fail
    refine (HLs.out (by decide) w3 (HT.out.below HB3.out h2)).mono ?_
    rintro e w4 ⟨rfl, hb4⟩
    have HB4 := Lib.hid (show Below w.heap.size w w4 from HB3.out.trans (hb4.mono HB3.out.size))
    clear hb4
    go_wp2_with fail
    refine (HOn.out w4 (HT.out.below HB4.out h2)).mono ?_
    rintro e w5 ⟨rfl, hb5⟩
    have HB5 := Lib.hid (show Below w.heap.size w w5 from HB4.out.trans (hb5.mono HB4.out.size))
    clear hb5
    go_wp2_with fail
    refine (known_any w5 (HT.out.below HB5.out h2)).mono ?_
    rintro e w6 ⟨rfl, hb6⟩
    have HB6 := Lib.hid (show Below w.heap.size w w6 from HB5.out.trans (hb6.mono HB5.out.size))
    clear hb6
    go_wp2_with fail
    go_ret
    exact ⟨rfl, HB6.out⟩
  · rw [k3] at hsz HLs HOn
    clear k3
    have hne : ((s.size : Int) != 3) = false := by rw [hsz]; rfl
    have hsm : s.size ≤ 4 := by omega
    have hge : (2 : Int) ≤ (s.size : Int) := by omega
    clear hsz
    rcases hsp' with hsp | hsp
    · go_enter Tryd.func7, Tryd.ntmps7
      go_wp2_with fail
      rw [HW.out]
      refine HKK.out.mono ?_
      rintro e w2 ⟨rfl, hb2⟩
      have HB2 := Lib.hid (show Below w.heap.size w w2 from HB1.out.trans (hb2.mono HB1.out.size))
      clear hb2
      go_wp2_with fail
      refine (HR.out w2 (HT.out.below HB2.out h2)).mono ?_
      rintro e w3 ⟨g, c, rfl, hcg, hb3⟩
      have HB3 := Lib.hid (show Below w.heap.size w w3 from HB2.out.trans (hb3.mono HB2.out.size))
      clear hb3
      go_wp2_with fail
      refine (HLs.out (by decide) w3 (HT.out.below HB3.out h2)).mono ?_
      rintro e w4 ⟨rfl, hb4⟩
      have HB4 := Lib.hid (show Below w.heap.size w w4 from HB3.out.trans (hb4.mono HB3.out.size))
      clear hb4
      go_wp2_with fail
      refine (HOn.out w4 (HT.out.below HB4.out h2)).mono ?_
      rintro e w5 ⟨rfl, hb5⟩
      have HB5 := Lib.hid (show Below w.heap.size w w5 from HB4.out.trans (hb5.mono HB4.out.size))
      clear hb5
      go_wp2_with fail
      refine (known_any w5 (HT.out.below HB5.out h2)).mono ?_
      rintro e w6 ⟨rfl, hb6⟩
      have HB6 := Lib.hid (show Below w.heap.size w w6 from HB5.out.trans (hb6.mono HB5.out.size))
      clear hb6
      go_wp2_with fail
      go_ret
      exact ⟨rfl, HB6.out⟩
    · have d1 : decide (r < 55296) = false := by simp; omega
      go_enter Tryd.func7, Tryd.ntmps7
      go_wp2_with fail
      rw [HW.out]
      refine HKK.out.mono ?_
      rintro e w2 ⟨rfl, hb2⟩
      have HB2 := Lib.hid (show Below w.heap.size w w2 from HB1.out.trans (hb2.mono HB1.out.size))
      clear hb2
      go_wp2_with fail
      refine (HR.out w2 (HT.out.below HB2.out h2)).mono ?_
      rintro e w3 ⟨g, c, rfl, hcg, hb3⟩
      have HB3 := Lib.hid (show Below w.heap.size w w3 from HB2.out.trans (hb3.mono HB2.out.size))
      clear hb3
      go_wp2_with fail
      refine (HLs.out (by decide) w3 (HT.out.below HB3.out h2)).mono ?_
      rintro e w4 ⟨rfl, hb4⟩
      have HB4 := Lib.hid (show Below w.heap.size w w4 from HB3.out.trans (hb4.mono HB3.out.size))
      clear hb4
      go_wp2_with fail
      refine (HOn.out w4 (HT.out.below HB4.out h2)).mono ?_
      rintro e w5 ⟨rfl, hb5⟩
      have HB5 := Lib.hid (show Below w.heap.size w w5 from HB4.out.trans (hb5.mono HB4.out.size))
      clear hb5
      go_wp2_with fail
      refine (known_any w5 (HT.out.below HB5.out h2)).mono ?_
      rintro e w6 ⟨rfl, hb6⟩
      have HB6 := Lib.hid (show Below w.heap.size w w6 from HB5.out.trans (hb6.mono HB5.out.size))
      clear hb6
      go_wp2_with fail
      go_ret
      exact ⟨rfl, HB6.out⟩
  · rw [k3] at hsz HLs HOn
    clear k3
    have hne : ((s.size : Int) != 4) = false := by rw [hsz]; rfl
    have hsm : s.size ≤ 4 := by omega
    have hge : (3 : Int) ≤ (s.size : Int) := by omega
    clear hsz
    have hsp : 57343 < r := by omega
    have d1 : decide (r < 55296) = false := by simp; omega
    clear hsp'
    go_enter Tryd.func7, Tryd.ntmps7
    go_wp2_with fail
    rw [HW.out]
    refine HKK.out.mono ?_
    rintro e w2 ⟨rfl, hb2⟩
    have HB2 := Lib.hid (show Below w.heap.size w w2 from HB1.out.trans (hb2.mono HB1.out.size))
    clear hb2
    go_wp2_with fail
    refine (HR.out w2 (HT.out.below HB2.out h2)).mono ?_
    rintro e w3 ⟨g, c, rfl, hcg, hb3⟩
    have HB3 := Lib.hid (show Below w.heap.size w w3 from HB2.out.trans (hb3.mono HB2.out.size))
    clear hb3
    go_wp2_with fail
    refine (HLs.out (by decide) w3 (HT.out.below HB3.out h2)).mono ?_
    rintro e w4 ⟨rfl, hb4⟩
    have HB4 := Lib.hid (show Below w.heap.size w w4 from HB3.out.trans (hb4.mono HB3.out.size))
    clear hb4
    go_wp2_with fail
    refine (HOn.out w4 (HT.out.below HB4.out h2)).mono ?_
    rintro e w5 ⟨rfl, hb5⟩
    have HB5 := Lib.hid (show Below w.heap.size w w5 from HB4.out.trans (hb5.mono HB4.out.size))
    clear hb5
    go_wp2_with fail
    refine (known_any w5 (HT.out.below HB5.out h2)).mono ?_
    rintro e w6 ⟨rfl, hb6⟩
    have HB6 := Lib.hid (show Below w.heap.size w w6 from HB5.out.trans (hb6.mono HB5.out.size))
    clear hb6
    go_wp2_with fail
    go_ret
    exact ⟨rfl, HB6.out⟩
theorem utfOne_any (r : Int) (w : World) (ht : Tabs w) : Calls Tryd.prog 7 #[.int .i32 r] w fun e w' => BoolPost w true e w' := by
  by_cases hm : mayZ r = true
  · obtain ⟨n, rfl⟩ : ∃ n : Nat, r = n := ⟨r.toNat, by unfold mayZ at hm; simp at hm; omega⟩
    rw [mayZ_nat] at hm
    rcases Nat.eq_zero_or_pos n with h0 | h0
    · subst h0; exact one_nought w ht
    · exact one_good n h0 hm w ht
  · exact one_bad r (by simpa using hm) w ht
end Go.Proofs.YtbmnngcogdamkaaDoor

/- Layer 13: the document's levels of a text. -/
import Derived.Test.YtgcfgheamaoceaaGreatDoorTopQ
namespace Go.Proofs.YtgcfgheamaoceaaGreatDoor
open Go.RowKit Go.Shelf

theorem own_one (w : World) (x : List UInt8) : OwnT (w.alloc (.cells #[.string ⟨x.toArray⟩] 9)) w.heap.size (.slice (some ⟨w.heap.size, 0, none⟩) 1 1) [x] :=
  ⟨rfl, .inr ⟨w.heap.size, 1, #[.string ⟨x.toArray⟩], rfl, Nat.le_refl _, World.alloc_heap_new w _, Nat.le_refl _, by decide, rfl, rfl⟩⟩
/-- The last text is another one. -/
theorem own_last {w : World} {base : Nat} {v : Value} {L : List (List UInt8)} {x : List UInt8} (h : OwnT w base v (L ++ [x])) (y : List UInt8) :
    ∃ g c, v = .slice (some ⟨g, 0, none⟩) (L.length + 1) c ∧ base ≤ g ∧ g < w.heap.size ∧ w.cell? ⟨g, L.length, none⟩ = some (.string ⟨x.toArray⟩) ∧ w.frozen? ⟨g, L.length, none⟩ = false ∧ OwnT (w.setCell ⟨g, L.length, none⟩ (.string ⟨y.toArray⟩)) base v (L ++ [y]) := by
  obtain ⟨h1, ⟨rfl, h0⟩ | ⟨g, cap, cur, rfl, hb, hg, hn, hm, hc, ht⟩⟩ := h
  · simp at h0
  · have hl : (L ++ [x]).length = L.length + 1 := by simp
    rw [hl] at hn ht ⊢
    have hx : cur[L.length]? = some (.string ⟨x.toArray⟩) := by
      have h2 : (cur.toList.take ((L.length + 1) * 1))[L.length]? = some (.string ⟨x.toArray⟩) := by
        rw [ht, strVals_snoc, List.getElem?_append_right (by simp [strVals])]; simp [strVals]
      rw [List.getElem?_take, if_pos (by omega), Array.getElem?_toList] at h2
      exact h2
    have hcl : L.length < cur.size := (Array.getElem?_eq_some_iff.1 hx).1
    refine ⟨g, cap, rfl, hb, (Array.getElem?_eq_some_iff.1 hg).1, ?_, ?_, ?_⟩
    · unfold World.cell?; simp only [hg]; exact hx
    · unfold World.frozen?; simp only [hg]; simp
    · have hs := heap_setCell_same w g L.length _ _ (.string ⟨y.toArray⟩) hg
      unfold OwnT
      rw [show (L ++ [y]).length = L.length + 1 by simp]
      refine ⟨by simp [strVals], .inr ⟨g, cap, _, rfl, hb, hs, hn, hm, by simpa using hc, ?_⟩⟩
      rw [Array.toList_setIfInBounds, List.take_set, ht, strVals_snoc, strVals_snoc, List.set_append_right _ _ (by simp [strVals])]
      simp [strVals]
theorem text_below {a w w' : World} {B n : Nat} {v : Value} {xs : List Value} {o : Obj} (hb : Below B a w) (hB : B ≤ w.heap.size) (hr : w.ownsRow B 9 1 v n xs) (hg : (w.alloc o).grownBy w' v.ownBlock) : Below B a w' :=
  (hb.alloc hB o).grown hg (by simp; omega) (fun k hk => by
    rcases hr.2 with ⟨rfl, _⟩ | ⟨g, cap, cur, rfl, h, _⟩
    · cases hk
    · cases hk; exact h)
theorem str_mid1 (s : ByteArray) (k : Nat) (h : k < s.size) (W : World) : (Instr.sliceAt 9 (.string s) (some (.int .i64 k)) (some (.int .i64 ((k : Int) + 1))) none).run Tryz.prog W = .ok (.string (s.extract k (k + 1))) W := by
  have h1 : (0 : Int) ≤ k := by omega
  have h2 : (k : Int) + 1 ≤ s.size := by omega
  have h3 : (k : Int) ≤ (k : Int) + 1 := by omega
  have h4 : ((k : Int) + 1).toNat = k + 1 := by omega
  simp [go_sem, h1, h2, h3, h4]
theorem str_snoc (s : ByteArray) (k : Nat) (y : List UInt8) (x : UInt8) (h : s.data.toList[k]? = some x) : (⟨y.toArray⟩ : ByteArray) ++ s.extract k (k + 1) = ⟨(y ++ [x]).toArray⟩ := by
  apply ByteArray.ext
  apply Array.toList_inj.1
  rw [ByteArray.data_append, Array.toList_append, Lib.extract_data]
  simp only [Nat.add_sub_cancel_left]
  have hk : k < s.data.toList.length := (List.getElem?_eq_some_iff.1 h).1
  rw [List.drop_eq_getElem_cons hk, List.take_succ_cons, List.take_zero]
  rw [List.getElem?_eq_getElem hk] at h
  rw [Option.some.inj h]
set_option maxRecDepth 100000 in
set_option maxHeartbeats 4000000 in
theorem rlevels_any (s : ByteArray) (hs : s.size ≤ 1000) (w : World) : Calls Tryz.prog 57 #[.string s] w fun e w' => LvPost w (lv s.data.toList) e w' := by
  obtain ⟨i0, hi, hz0, hz1, hz2⟩ := info_parts infoStr
  obtain ⟨B, hB⟩ : ∃ B, w.heap.size = B := ⟨_, rfl⟩
  obtain ⟨w1, hw1⟩ : ∃ w1, w.alloc (.cells #[.string ⟨#[]⟩] 9) = w1 := ⟨_, rfl⟩
  have hO1 : OwnT w1 B (.slice (some ⟨B, 0, none⟩) 1 1) [[]] := by rw [← hw1, ← hB]; exact own_one w []
  have hb1 : Below B w w1 := by rw [← hw1, ← hB]; exact (Below.refl _ w).alloc (Nat.le_refl _) _
  have HW := Lib.hid (And.intro hB hw1)
  have H1 := Lib.hid (And.intro hO1 hb1)
  have HSZ := Lib.hid (Lib.size_eq s)
  clear hB hw1 hO1 hb1
  go_enter Tryz.func57, Tryz.ntmps57
  go_wp2
  rw [HW.out.1, HW.out.2]
  go_loopw [3, 4, 6, 7, 8, 9, 10, 11, 12, 13, 14, 15, 16, 17, 18, 19, 20, 21, 22, 23, 24, 25, 26, 27, 28, 29, 30, 31, 32, 33, 34, 35] (fun v i _ _ _ _ _ _ _ _ _ _ _ _ _ _ _ _ _ _ _ _ _ _ _ _ _ _ _ _ _ _ wr => ∃ k : Nat, i = .int .i64 k ∧ k ≤ s.size ∧ OwnT wr B v (lv (s.data.toList.take k)) ∧ Below B w wr)
    (fun _ i _ _ _ _ _ _ _ _ _ _ _ _ _ _ _ _ _ _ _ _ _ _ _ _ _ _ _ _ _ _ _ => s.size - (intOf i).toNat)
  case atStart => exact ⟨0, rfl, Nat.zero_le _, H1.out.1, H1.out.2⟩
  case round =>
    obtain ⟨k, rfl, hk, hO, hb⟩ := hrel
    have hBs : B ≤ wr.heap.size := by have := hb.size; have := HW.out.1; omega
    have hll := lv_len_le (s.data.toList.take k)
    rw [List.length_take] at hll
    by_cases hlt : k < s.size
    · obtain ⟨x, hx⟩ : ∃ x : UInt8, s[k]'hlt = x := ⟨_, rfl⟩
      have hxl : s.data.toList[k]? = some x := by rw [← hx]; exact Lib.data_getElem? s k hlt
      have hj := index_str s k k rfl hlt
      have hbt : bt s.data.toList k = x.toNat := by unfold bt; rw [hxl]; rfl
      rw [hbt] at hj
      have htk : s.data.toList.take (k + 1) = s.data.toList.take k ++ [x] := by
        have hkl : k < s.data.toList.length := by rw [← Lib.size_eq]; exact hlt
        rw [List.take_succ_eq_append_getElem hkl]
        rw [List.getElem?_eq_getElem hkl] at hxl
        rw [Option.some.inj hxl]
      by_cases h1 : x = 47
      · subst h1
        have e1 : (((47 : UInt8).toNat : Int) == 47) = true := by decide
        obtain ⟨va, vc, rfl⟩ := row_slice hO
        have HX := Lib.hid (And.intro hO (And.intro hb htk))
        have HR := Lib.hid (World.ownsRow.alloc hO (.cells #[.string ⟨#[]⟩] 9))
        have hmx : (lv (s.data.toList.take k)).length + 1 ≤ maxLen := by unfold maxLen; omega
        clear hO hb htk hbt hxl hx
        go_wp2_with (at_builtin; refine wpList_append_own _ rfl _ _ 79 rfl B 9 i0 (.string ⟨#[]⟩) 1 16 Tryz.underlying79 hi hz0 hz1 hz2 rfl (by decide) _ _ _ rfl HR.out ⟨wr.heap.size, 0, none⟩ 1 1 [.string ⟨#[]⟩] rfl rfl (cell_one_new _ _ _) (by simp [Value.oneCell']) hmx (by omega) (by simp; omega) ?_; intro v' w5 hown' hgrow _)
        refine ⟨⟨k + 1, by go_num, by omega, ?_, text_below HX.out.2.1 hBs HX.out.1 hgrow⟩, by simp only [intOf]; omega⟩
        rw [HX.out.2.2, lv_more]
        unfold OwnT
        rw [strVals_snoc, List.length_append]
        exact hown'
      · obtain ⟨L, y, hL1, hL2⟩ := lv_grow h1 (s.data.toList.take k)
        have e1 : ((x.toNat : Int) == 47) = false := by
          simp only [beq_eq_false_iff_ne, ne_eq]
          intro h; exact h1 (UInt8.toNat_inj.1 (by have : (47 : UInt8).toNat = 47 := rfl; omega))
        have hyl : y.length ≤ s.size := by
          have h2 := joinL_len_le (L := lv (s.data.toList.take k)) (x := y) (by rw [hL1]; simp)
          rw [joinL_lv, List.length_take] at h2
          omega
        rw [hL1] at hO hll
        rw [List.length_append, List.length_singleton] at hll
        obtain ⟨g, c, rfl, hgB, hgl, hc, hf, hO2⟩ := own_last hO (y ++ [x])
        have hmid := str_mid1 s k hlt
        have hsn := str_snoc s k y x hxl
        have HX := Lib.hid (And.intro hO2 (And.intro hb (And.intro htk (And.intro hL2 (And.intro hgB (And.intro hsn hf))))))
        have hf2 := hf
        clear hO hO2 hb htk hbt hxl hx hL1 hL2 hgB h1
        generalize L.length = q at *
        have hq1 : ((q + 1 : Nat) : Int) - 1 = q := by omega
        go_wp2
        have hw1 : IntKind.i64.wrap (q : Int) = q := by rw [IntKind.wrap_i64]; omega
        have hw2 : IntKind.i64.wrap ((k : Int) + 1) = (k : Int) + 1 := by rw [IntKind.wrap_i64]; omega
        have hix : ∀ W : World, (Instr.indexAt 79 (.slice (some ⟨g, 0, none⟩) (q + 1) c) (.int .i64 (q : Int))).run Tryz.prog W = .ok (.pointer (some ⟨g, q, none⟩)) W := by
          intro W
          simp [go_sem]
          intro h; omega
        have hcat : ¬ (9223372036854775807 : Nat) < y.length + (min (k + 1) s.size - k) := by omega
        have hq2 : (q : Int) < (q : Int) + 1 := by omega
        have hq3 : (0 : Int) ≤ (q : Int) := by omega
        go_still_tail 16, (by kernel_rfl)
        change wpList _ _ _ _ _ wr.drew
        go_wp2
        refine ⟨⟨k + 1, by go_num, by omega, ?_, (Below.setCell HX.out.2.1 (p := ⟨g, q, none⟩) HX.out.2.2.2.2.1 _).drew⟩, by simp only [intOf]; omega⟩
        rw [HX.out.2.2.1, HX.out.2.2.2.1]
        exact HX.out.1.drew
    · obtain rfl : k = s.size := by omega
      have htl : s.data.toList.take s.size = s.data.toList := List.take_of_length_le (by rw [← Lib.size_eq]; exact Nat.le_refl _)
      rw [htl] at hO
      have HX := Lib.hid (And.intro hO hb)
      obtain ⟨va, vc, rfl⟩ := row_slice hO
      clear hO hb htl
      go_wp2
      go_ret
      refine ⟨_, rfl, ?_, ?_⟩
      · rw [HW.out.1]; exact HX.out.1
      · rw [HW.out.1]; exact HX.out.2
end Go.Proofs.YtgcfgheamaoceaaGreatDoor

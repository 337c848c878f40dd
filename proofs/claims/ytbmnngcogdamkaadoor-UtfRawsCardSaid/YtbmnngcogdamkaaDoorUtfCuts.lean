/- Layer 12: the statement of the longest beginning (printed by wip/tools/mkutfCuts.py). -/
import Derived.Test.YtbmnngcogdamkaaDoorUtfReads
namespace Go.Proofs.YtbmnngcogdamkaaDoor
open Go.RowKit

theorem cutN_at (rs : List Nat) (k m : Nat) (hk : k ≤ rs.length) (h1 : (textR (rs.take k)).length ≤ m) (h2 : k < rs.length → m < (textR (rs.take (k + 1))).length) : cutN rs m = (textR (rs.take k)).length := by
  induction rs generalizing k m with
  | nil => simp [cutN, textR]
  | cons r t ih =>
    unfold cutN
    cases k with
    | zero =>
      have := h2 (by simp)
      rw [List.take_succ_cons, List.take_zero, textR_one, rawR_length] at this
      rw [if_neg (by omega)]
      rfl
    | succ k =>
      rw [List.take_succ_cons, textR_len_cons] at h1 ⊢
      rw [if_pos (by omega), ih k _ (by simpa using hk) (by omega) (fun hl => by
        have := h2 (by simpa using hl)
        rw [List.take_succ_cons, textR_len_cons] at this
        omega)]
theorem textR_drop (rs : List Nat) (k : Nat) : (textR rs).drop (textR (rs.take k)).length = textR (rs.drop k) := by
  conv => lhs; arg 2; rw [← List.take_append_drop k rs, textR_append]
  rw [List.drop_left]
theorem textR_take (rs : List Nat) (k : Nat) : (textR rs).take (textR (rs.take k)).length = textR (rs.take k) := by
  conv => lhs; arg 2; rw [← List.take_append_drop k rs, textR_append]
  rw [List.take_left]
theorem check_text (t : ByteArray) (ns : List Nat) (hg : ∀ r ∈ ns, Good r) (ht : t.data.toList = textR ns) (hs : t.size ≤ 65535) (W : World) (hW : Tabs W) :
    Calls Tryd.prog 12 #[.string t] W fun e w' => e = .returned (.int .i64 0) ∧ Below W.heap.size W w' := by
  have hr : Rd t ns := (Rd.small hs).2 ⟨hg, [], by rw [ht, List.append_nil], rfl⟩
  exact k_check t ns hr (by unfold maxLen; omega) 0 (by unfold chkZ; rw [ht, if_neg (by omega)]) W hW
theorem raw_len (n : Nat) (hn : n < 1114112) (w : World) : Calls Tryd.prog 18 #[.int .i32 n] w fun e w' => ∃ b : ByteArray, e = .returned (.string b) ∧ b.size = lenB n + 1 ∧ Below w.heap.size w w' := by
  refine (refRaw_any n hn w).mono ?_
  rintro e w' ⟨rfl, hb⟩
  exact ⟨_, rfl, by rw [← rawR_length]; simp [ByteArray.size], hb⟩
theorem natInts_at (rs : List Nat) {k : Nat} (hk : k < rs.length) : (natInts rs)[k]?.getD 0 = (rs[k] : Int) := by
  unfold natInts
  rw [List.getElem?_map, List.getElem?_eq_getElem hk]; rfl
set_option maxRecDepth 100000 in
set_option maxHeartbeats 4000000 in
theorem cuts_long (s : ByteArray) (hs : 3000 < s.size) (most : Int) (w : World) (ht : Tabs w) :
    Calls Tryd.prog 5 #[.string s, .int .i64 most] w fun e w' => BoolPost w true e w' := by
  have h2 := ht.two
  have HT := Lib.hid ht
  clear ht
  go_enter Tryd.func5, Tryd.ntmps5
  go_wp2_with fail
  refine (known_any w HT.out).mono ?_
  rintro e w1 ⟨rfl, hb1⟩
  have HB1 := Lib.hid hb1
  clear hb1
  go_wp2_with fail
  go_ret
  exact ⟨rfl, HB1.out⟩
set_option maxRecDepth 100000 in
set_option maxHeartbeats 4000000 in
theorem cuts_low (s : ByteArray) (hs : s.size ≤ 3000) (rs : List Nat) (hrd : Rd s rs) (most : Int) (hm : most < 0) (w : World) (ht : Tabs w) :
    Calls Tryd.prog 5 #[.string s, .int .i64 most] w fun e w' => BoolPost w true e w' := by
  have h2 := ht.two
  have HC := Lib.hid (fun W hW => cut_any s rs hrd (by omega) most W hW)
  have HF := Lib.hid (fun W => refRunes_any s rs hrd (by omega) W)
  have HT := Lib.hid ht
  clear ht hrd
  unfold CutPost at HC
  unfold RRunesPost at HF
  go_enter Tryd.func5, Tryd.ntmps5
  go_wp2_with fail
  refine (HC.out w HT.out).mono ?_
  rintro e w1 (⟨-, rfl, hb1⟩ | ⟨h0, -⟩ | ⟨h0, -⟩)
  rotate_left
  · omega
  · omega
  have HB1 := Lib.hid hb1
  clear hb1
  go_wp2_with fail
  refine (HF.out w1).mono ?_
  rintro e w2 (⟨-, v, rfl, -, hb2⟩ | ⟨-, rfl, hb2⟩)
  · have HB2 := Lib.hid (show Below w.heap.size w w2 from HB1.out.trans (hb2.mono HB1.out.size))
    clear hb2
    go_wp2_with fail
    refine (known_any w2 (HT.out.below HB2.out h2)).mono ?_
    rintro e w3 ⟨rfl, hb3⟩
    have HB3 := Lib.hid (show Below w.heap.size w w3 from HB2.out.trans (hb3.mono HB2.out.size))
    clear hb3
    go_wp2_with fail
    go_ret
    exact ⟨rfl, HB3.out⟩
  · generalize (textR rs).length = m at *
    have HB2 := Lib.hid (show Below w.heap.size w w2 from HB1.out.trans (hb2.mono HB1.out.size))
    clear hb2
    go_wp2_with fail
    refine (known_any w2 (HT.out.below HB2.out h2)).mono ?_
    rintro e w3 ⟨rfl, hb3⟩
    have HB3 := Lib.hid (show Below w.heap.size w w3 from HB2.out.trans (hb3.mono HB2.out.size))
    clear hb3
    go_wp2_with fail
    go_ret
    exact ⟨rfl, HB3.out⟩
set_option maxRecDepth 100000 in
set_option maxHeartbeats 4000000 in
theorem cuts_wrong (s : ByteArray) (hs : s.size ≤ 3000) (rs : List Nat) (hrd : Rd s rs) (hx : (textR rs).length < s.data.toList.length) (most : Int) (hm : 0 ≤ most) (w : World) (ht : Tabs w) :
    Calls Tryd.prog 5 #[.string s, .int .i64 most] w fun e w' => BoolPost w true e w' := by
  have h2 := ht.two
  have HC := Lib.hid (fun W hW => cut_any s rs hrd (by omega) most W hW)
  have HF := Lib.hid (fun W => refRunes_any s rs hrd (by omega) W)
  have HX := Lib.hid hx
  have HT := Lib.hid ht
  clear ht hrd hx
  unfold CutPost at HC
  unfold RRunesPost at HF
  generalize (textR rs).length = m at *
  go_enter Tryd.func5, Tryd.ntmps5
  go_wp2_with fail
  refine (HC.out w HT.out).mono ?_
  rintro e w1 (⟨h0, -⟩ | ⟨-, -, rfl, hb1⟩ | ⟨-, h0, -⟩)
  · omega
  rotate_left
  · exact absurd HX.out h0
  have HB1 := Lib.hid hb1
  clear hb1
  go_wp2_with fail
  refine (HF.out w1).mono ?_
  rintro e w2 (⟨h0, -⟩ | ⟨-, rfl, hb2⟩)
  · exact absurd HX.out h0
  have HB2 := Lib.hid (show Below w.heap.size w w2 from HB1.out.trans (hb2.mono HB1.out.size))
  clear hb2
  go_wp2_with fail
  refine (known_any w2 (HT.out.below HB2.out h2)).mono ?_
  rintro e w3 ⟨rfl, hb3⟩
  have HB3 := Lib.hid (show Below w.heap.size w w3 from HB2.out.trans (hb3.mono HB2.out.size))
  clear hb3
  go_wp2_with fail
  go_ret
  exact ⟨rfl, HB3.out⟩
set_option maxRecDepth 100000 in
set_option maxHeartbeats 4000000 in
theorem cuts_right (s : ByteArray) (hs : s.size ≤ 3000) (rs : List Nat) (hrd : Rd s rs) (hx : ¬ (textR rs).length < s.data.toList.length) (m : Nat) (hm9 : (m : Int) ≤ 9223372036854775807) (w : World) (ht : Tabs w) :
    Calls Tryd.prog 5 #[.string s, .int .i64 m] w fun e w' => BoolPost w true e w' := by
  have h2 := ht.two
  have HC := Lib.hid (fun W hW => cut_any s rs hrd (by omega) m W hW)
  have HF := Lib.hid (fun W => refRunes_any s rs hrd (by omega) W)
  have HL := Lib.hid (show ∀ k, k < rs.length → rs[k]! < 1114112 ∧ (natInts rs)[k]?.getD 0 = (rs[k]! : Int) ∧ (textR (rs.take (k + 1))).length = (textR (rs.take k)).length + (lenB rs[k]! + 1) from fun k hk => by
    rw [getElem!_pos rs k hk]
    refine ⟨?_, natInts_at rs hk, textR_take_succ rs hk⟩
    have := (hrd.1 _ (List.getElem_mem hk)).2
    unfold mayN at this
    simp at this
    omega)
  have hall := hrd.all hx
  have hsz : (textR rs).length = s.size := by rw [hall, ← Lib.size_eq]
  have HK := Lib.hid (show ∀ k, k ≤ rs.length → ∀ n, (textR (rs.take k)).length = n → ∀ W, Tabs W → Calls Tryd.prog 12 #[.string (s.extract n s.size)] W fun e w' => e = .returned (.int .i64 0) ∧ Below W.heap.size W w' from fun k hk n hn W hW =>
    check_text _ (rs.drop k) (fun r hr => hrd.1 r (List.mem_of_mem_drop hr)) (by rw [ext_tail, ← hall, ← hn, textR_drop]) (by rw [ByteArray.size_extract]; omega) W hW)
  have HJ := Lib.hid (show ∀ k, k ≤ rs.length → ∀ n, (textR (rs.take k)).length = n → ∀ W, Tabs W → Calls Tryd.prog 12 #[.string (s.extract 0 n)] W fun e w' => e = .returned (.int .i64 0) ∧ Below W.heap.size W w' from fun k hk n hn W hW =>
    check_text _ (rs.take k) (fun r hr => hrd.1 r (List.mem_of_mem_take hr)) (by rw [Lib.extract_data, List.drop_zero, ← hall, ← hn, Nat.sub_zero, textR_take]) (by rw [ByteArray.size_extract]; omega) W hW)
  have HA := Lib.hid (fun k => cutN_at rs k m)
  have HLE := Lib.hid (fun k => (textR_take_le rs k))
  have HX := Lib.hid hx
  have hfew : rs.length ≤ 3000 := by have := textR_le rs; omega
  have HT := Lib.hid ht
  have HSZ := Lib.hid hsz
  clear ht hrd hx hall hsz
  unfold CutPost at HC
  unfold RRunesPost at HF
  change Hid (∀ W, Calls _ _ _ W fun e w' => (_ ∧ ∃ v, e = _ ∧ OwnR w' W.heap.size v (natInts rs) ∧ _) ∨ _) at HF
  have hln : (natInts rs).length = rs.length := List.length_map _
  obtain ⟨c, hcc⟩ : ∃ c, cutN rs m = c := ⟨_, rfl⟩
  have HCC := Lib.hid hcc
  simp only [Int.toNat_natCast, hcc] at HC
  clear hcc
  go_enter Tryd.func5, Tryd.ntmps5
  go_wp2_with fail
  refine (HC.out w HT.out).mono ?_
  rintro e w1 (⟨h0, -⟩ | ⟨-, h0, -⟩ | ⟨-, -, rfl, hb1⟩)
  · omega
  · exact absurd h0 HX.out
  have HB1 := Lib.hid hb1
  clear hb1
  go_wp2_with fail
  refine (HF.out w1).mono ?_
  rintro e w2 (⟨-, v, rfl, hO, hb2⟩ | ⟨h0, -⟩)
  rotate_left
  · exact absurd h0 HX.out
  have HB2 := Lib.hid (show Below w.heap.size w w2 from HB1.out.trans (hb2.mono HB1.out.size))
  obtain ⟨a, cc, rfl, hR⟩ := hO.val
  rw [hln]
  have HR := Lib.hid hR
  clear hO hR
  clear hb2
  go_wp2_with fail
  go_loopw [9, 10, 48, 49, 50, 51, 52, 53, 54, 55, 56, 57, 58, 59, 60, 61, 62, 63, 64, 65, 66, 67, 68, 69, 70, 71, 72, 73] (fun n i _ _ _ _ _ _ _ _ _ _ _ _ _ _ _ _ _ _ _ _ _ _ _ _ _ _ wr => ∃ k : Nat, n = .int .i64 ((textR (rs.take k)).length : Nat) ∧ i = .int .i64 k ∧ k ≤ rs.length ∧ (textR (rs.take k)).length ≤ m ∧ Below w2.heap.size w2 wr)
    (fun n i _ _ _ _ _ _ _ _ _ _ _ _ _ _ _ _ _ _ _ _ _ _ _ _ _ _ _ => rs.length - (intOf i).toNat)
  case atStart => exact ⟨0, rfl, rfl, Nat.zero_le _, Nat.zero_le _, Below.refl _ _⟩
  case round =>
    obtain ⟨k, rfl, rfl, hk, hkm, hb⟩ := hrel
    obtain ⟨p, hp⟩ : ∃ p, (textR (rs.take k)).length = p := ⟨_, rfl⟩
    rw [hp] at hkm ⊢
    have hps : p ≤ s.size := by have := HLE.out k; have := HSZ.out; omega
    by_cases hlt : k < rs.length
    · obtain ⟨b0, o0, rfl, hb0, hc0⟩ := HR.out.keeps (KeepsOn.of_below (K := Lt w2.heap.size) hb fun _ h => h) (by intro e; rw [e] at hln; simp at hln; omega)
      have hck := hc0 k (by omega)
      obtain ⟨l1, l2, l3⟩ := HL.out k hlt
      rw [l2] at hck
      rw [hp] at l3
      have hle1 := HLE.out (k + 1)
      have hsz1 := HSZ.out
      rw [l3] at hle1
      have HX2 := Lib.hid (And.intro hp (And.intro l3 hb))
      generalize rs[k]! = r at *
      have HRW := Lib.hid (fun W => raw_len r l1 W)
      have hlk : (k : Int) < rs.length := by omega
      have hlr := lenB_le r
      generalize lenB r = lr at *
      clear hp l3 hb hc0 l1 l2
      by_cases hfit : p + (lr + 1) ≤ m
      · have hfz : (p : Int) + ((lr : Int) + 1) ≤ m := by omega
        go_wp2_with fail
        refine (HRW.out wr).mono ?_
        rintro e w3 ⟨t1, rfl, ht1, hb3⟩
        have hck3 := (hb3.cell (Nat.lt_of_lt_of_le hb0 HX2.out.2.2.size)).trans hck
        have HB3 := Lib.hid (HX2.out.2.2.trans (hb3.mono HX2.out.2.2.size))
        clear hb3 hck
        have ht1z : (t1.size : Int) = (lr : Int) + 1 := by omega
        go_wp2_with fail
        refine (HRW.out w3).mono ?_
        rintro e w4 ⟨t2, rfl, ht2, hb4⟩
        have HB4 := Lib.hid (HB3.out.trans (hb4.mono HB3.out.size))
        clear hb4 hck3
        have ht2z : (t2.size : Int) = (lr : Int) + 1 := by omega
        go_wp2_with fail
        go_roundw
        case rel => exact ⟨k + 1, by rw [HX2.out.2.1]; go_num, by go_num, by omega, by rw [HX2.out.2.1]; exact hfit, HB4.out⟩
        case measure => simp [intOf]; omega
      · have hfz : ¬ (p : Int) + ((lr : Int) + 1) ≤ m := by omega
        go_wp2_with fail
        refine (HRW.out wr).mono ?_
        rintro e w3 ⟨t1, rfl, ht1, hb3⟩
        have HB3 := Lib.hid (show Below w.heap.size w w3 from HB2.out.trans ((HX2.out.2.2.trans (hb3.mono HX2.out.2.2.size)).mono HB2.out.size))
        clear hb3 hck
        have ht1z : (t1.size : Int) = (lr : Int) + 1 := by omega
        obtain rfl : c = p := by rw [← HCC.out, HA.out k hk (by rw [HX2.out.1]; exact hkm) (fun _ => by rw [HX2.out.2.1]; omega), HX2.out.1]
        have HP := Lib.hid HX2.out.1
        have hlo := str_lo s c hps
        have hhi := str_hi s c hps
        go_wp2_with fail
        refine (HK.out _ hk c HP.out w3 (HT.out.below HB3.out h2)).mono ?_
        rintro e w4 ⟨rfl, hb4⟩
        have HB4 := Lib.hid (show Below w.heap.size w w4 from HB3.out.trans (hb4.mono HB3.out.size))
        clear hb4
        go_wp2_with fail
        refine (HJ.out _ hk c HP.out w4 (HT.out.below HB4.out h2)).mono ?_
        rintro e w5 ⟨rfl, hb5⟩
        have HB5 := Lib.hid (show Below w.heap.size w w5 from HB4.out.trans (hb5.mono HB4.out.size))
        clear hb5
        go_wp2_with fail
        refine (known_any w5 (HT.out.below HB5.out h2)).mono ?_
        rintro e w6 ⟨rfl, hb6⟩
        have HB6 := Lib.hid (show Below w.heap.size w w6 from HB5.out.trans (hb6.mono HB5.out.size))
        clear hb6
        go_wp2_with fail
        go_ret
        exact ⟨rfl, HB6.out⟩
    · obtain rfl : k = rs.length := by omega
      have HP := Lib.hid hp
      have HB3 := Lib.hid (show Below w.heap.size w wr from HB2.out.trans (hb.mono HB2.out.size))
      have hlk : ¬ ((rs.length : Int) < rs.length) := by omega
      obtain rfl : c = p := by rw [← HCC.out, HA.out _ hk (by rw [hp]; exact hkm) (fun h => absurd h (by omega)), hp]
      have hlo := str_lo s c hps
      have hhi := str_hi s c hps
      clear hb hp
      go_wp2_with fail
      refine (HK.out _ hk c HP.out wr (HT.out.below HB3.out h2)).mono ?_
      rintro e w4 ⟨rfl, hb4⟩
      have HB4 := Lib.hid (show Below w.heap.size w w4 from HB3.out.trans (hb4.mono HB3.out.size))
      clear hb4
      go_wp2_with fail
      refine (HJ.out _ hk c HP.out w4 (HT.out.below HB4.out h2)).mono ?_
      rintro e w5 ⟨rfl, hb5⟩
      have HB5 := Lib.hid (show Below w.heap.size w w5 from HB4.out.trans (hb5.mono HB4.out.size))
      clear hb5
      go_wp2_with fail
      refine (known_any w5 (HT.out.below HB5.out h2)).mono ?_
      rintro e w6 ⟨rfl, hb6⟩
      have HB6 := Lib.hid (show Below w.heap.size w w6 from HB5.out.trans (hb6.mono HB5.out.size))
      clear hb6
      go_wp2_with fail
      go_ret
      exact ⟨rfl, HB6.out⟩
theorem utfCuts_any (s : ByteArray) (most : Int) (hm9 : most ≤ 9223372036854775807) (w : World) (ht : Tabs w) : Calls Tryd.prog 5 #[.string s, .int .i64 most] w fun e w' => BoolPost w true e w' := by
  rcases Nat.lt_or_ge 3000 s.size with h | h
  · exact cuts_long s h most w ht
  obtain ⟨rs, hrd⟩ := reads_some (s.data.toList.take 65535)
  rcases Int.lt_or_le most 0 with hm | hm
  · exact cuts_low s h rs hrd most hm w ht
  by_cases hx : (textR rs).length < s.data.toList.length
  · exact cuts_wrong s h rs hrd hx most hm w ht
  · obtain ⟨m, rfl⟩ : ∃ m : Nat, most = m := ⟨most.toNat, by omega⟩
    exact cuts_right s h rs hrd hx m hm9 w ht
end Go.Proofs.YtbmnngcogdamkaaDoor

/- Layer 12: the statement of any bytes. -/
import Derived.Test.YtbmnngcogdamkaaDoorUtfT
namespace Go.Proofs.YtbmnngcogdamkaaDoor
open Go.RowKit

theorem Rd.all {s : ByteArray} {rs : List Nat} (h : Rd s rs) (hx : ¬ (textR rs).length < s.data.toList.length) : textR rs = s.data.toList := by
  obtain ⟨-, rest, he, -⟩ := h
  have h1 := congrArg List.length he
  rw [List.length_take, List.length_append] at h1
  have h0 : rest = [] := List.eq_nil_of_length_eq_zero (by omega)
  rw [h0, List.append_nil, List.take_of_length_le (by omega)] at he
  exact he.symm
theorem Rd.ok {s : ByteArray} {rs : List Nat} (h : Rd s rs) : okR rs := ⟨fun r hr => (h.1 r hr).1, h.le.2⟩
theorem textR_len_le (rs : List Nat) : rs.length ≤ (textR rs).length := textR_le rs
theorem Rd.few {s : ByteArray} {rs : List Nat} (h : Rd s rs) : rs.length ≤ 65535 := Nat.le_trans (textR_le rs) h.le.2
def natInts (rs : List Nat) : List Int := rs.map fun (n : Nat) => (n : Int)
theorem raw_val (v : Value) (ns : List Nat) (hc : ns.length ≤ 100000) (hn : ∀ r ∈ ns, mayN r = true) (w : World) (ht : Tabs w) (h : RnVal w v (natInts ns)) :
    Calls Tryd.prog 15 #[v] w fun e w' => RawsPost w ns e w' := by
  obtain ⟨a, c, rfl, h⟩ := h
  have := raw_all a ns c hc w ht h hn
  rw [show (natInts ns).length = ns.length from List.length_map _]
  exact this
/-- The runes' text, read back. -/
theorem raw_back (s : ByteArray) (rs : List Nat) (hrd : Rd s rs) (hx : ¬ (textR rs).length < s.data.toList.length) (v : Value) (w : World) (ht : Tabs w) (h : RnVal w v (natInts rs)) :
    Calls Tryd.prog 15 #[v] w fun e w' => e = .returned (.tuple #[.string s, .int .i64 0]) ∧ Below w.heap.size w w' := by
  have hf := hrd.few
  refine (raw_val v rs (by omega) (fun r hr => (hrd.1 r hr).2) w ht h).mono ?_
  rintro e w' (⟨-, rfl, hb⟩ | ⟨hno, -⟩)
  · refine ⟨?_, hb⟩
    rw [hrd.all hx]
  · exact absurd hrd.ok hno
theorem refPlain_nat (v : Value) (rs : List Nat) (hl : rs.length ≤ 100000) (h0 : ∀ r ∈ rs, r < 2000000) (w : World) (h : RnVal w v (natInts rs)) :
    Calls Tryd.prog 16 #[v] w fun e w' => BoolPost w ((((natInts rs).filter strS).length : Int) == 0) e w' :=
  refPlain_any v _ (by rw [show (natInts rs).length = rs.length from List.length_map _]; omega) (fun q hq => by
    obtain ⟨r, hr, rfl⟩ := List.mem_map.1 hq
    have := h0 r hr
    omega) w h
theorem same_yes (v v' : Value) (l : List Int) (hl : l.length ≤ 1000000) (w : World) (h : RnVal w v l) (h' : RnVal w v' l) :
    Calls Tryd.prog 13 #[v, v'] w fun e w' => e = .returned (.bool true) ∧ Below w.heap.size w w' :=
  (same_any v v' l l hl w h h').mono fun e w' h => by rw [show decide (l = l) = true by simp] at h; exact h
set_option maxRecDepth 100000 in
set_option maxHeartbeats 4000000 in
theorem reads_long (s : ByteArray) (hs : 70000 < s.size) (w : World) (ht : Tabs w) :
    Calls Tryd.prog 3 #[.string s] w fun e w' => BoolPost w true e w' := by
  have h2 := ht.two
  have HT := Lib.hid ht
  clear ht
  go_enter Tryd.func3, Tryd.ntmps3
  go_wp2_with fail
  refine (known_any w HT.out).mono ?_
  rintro e w1 ⟨rfl, hb1⟩
  have HB1 := Lib.hid hb1
  clear hb1
  go_wp2_with fail
  go_ret
  exact ⟨rfl, HB1.out⟩
set_option maxRecDepth 100000 in
set_option maxHeartbeats 4000000 in
theorem reads_wrong (s : ByteArray) (hs : s.size ≤ 70000) (rs : List Nat) (hrd : Rd s rs) (hx : (textR rs).length < s.data.toList.length) (w : World) (ht : Tabs w) :
    Calls Tryd.prog 3 #[.string s] w fun e w' => BoolPost w true e w' := by
  have h2 := ht.two
  have HR := Lib.hid (fun W hW => runes_any s rs hrd (by unfold maxLen; omega) W hW)
  have HF := Lib.hid (fun W => refRunes_any s rs hrd (by omega) W)
  have HW := Lib.hid (fun W hW => k_wrong s rs hrd (by unfold maxLen; omega) ((textR rs).length : Nat) (by unfold wrZ; rw [if_pos hx]) W hW)
  have HC := Lib.hid (fun W hW => k_check s rs hrd (by unfold maxLen; omega) 220 (by unfold chkZ; rw [if_pos hx]) W hW)
  have HP := Lib.hid (fun W hW => k_plain s rs hrd (by unfold maxLen; omega) false (plnB_wrong hx) W hW)
  have HX := Lib.hid hx
  have hle := hrd.le.2
  have HT := Lib.hid ht
  clear ht hrd hx
  unfold RunesPost at HR
  unfold RRunesPost at HF
  generalize (textR rs).length = m at *
  go_enter Tryd.func3, Tryd.ntmps3
  go_wp2_with fail
  refine (HR.out w HT.out).mono ?_
  rintro e w1 (⟨hx, -⟩ | ⟨-, rfl, hb1⟩)
  · exact absurd HX.out hx
  have HB1 := Lib.hid hb1
  clear hb1
  go_wp2_with fail
  refine (HF.out w1).mono ?_
  rintro e w2 (⟨hx, -⟩ | ⟨-, rfl, hb2⟩)
  · exact absurd HX.out hx
  have HB2 := Lib.hid (show Below w.heap.size w w2 from HB1.out.trans (hb2.mono HB1.out.size))
  clear hb2
  go_wp2_with fail
  refine (HW.out w2 (HT.out.below HB2.out h2)).mono ?_
  rintro e w3 ⟨rfl, hb3⟩
  have HB3 := Lib.hid (show Below w.heap.size w w3 from HB2.out.trans (hb3.mono HB2.out.size))
  clear hb3
  go_wp2_with fail
  refine (HC.out w3 (HT.out.below HB3.out h2)).mono ?_
  rintro e w4 ⟨rfl, hb4⟩
  have HB4 := Lib.hid (show Below w.heap.size w w4 from HB3.out.trans (hb4.mono HB3.out.size))
  clear hb4
  go_wp2_with fail
  refine (same_yes _ _ [] (by decide) w4 (RnVal.nil _) (RnVal.nil _)).mono ?_
  rintro e w5 ⟨rfl, hb5⟩
  have HB5 := Lib.hid (show Below w.heap.size w w5 from HB4.out.trans (hb5.mono HB4.out.size))
  clear hb5
  go_wp2_with fail
  refine (HC.out w5 (HT.out.below HB5.out h2)).mono ?_
  rintro e w6 ⟨rfl, hb6⟩
  have HB6 := Lib.hid (show Below w.heap.size w w6 from HB5.out.trans (hb6.mono HB5.out.size))
  clear hb6
  go_wp2_with fail
  refine (HP.out w6 (HT.out.below HB6.out h2)).mono ?_
  rintro e w7 ⟨rfl, hb7⟩
  have HB7 := Lib.hid (show Below w.heap.size w w7 from HB6.out.trans (hb7.mono HB6.out.size))
  clear hb7
  go_wp2_with fail
  refine (known_any w7 (HT.out.below HB7.out h2)).mono ?_
  rintro e w8 ⟨rfl, hb8⟩
  have HB8 := Lib.hid (show Below w.heap.size w w8 from HB7.out.trans (hb8.mono HB7.out.size))
  clear hb8
  go_wp2_with fail
  go_ret
  exact ⟨rfl, HB8.out⟩
set_option maxRecDepth 100000 in
set_option maxHeartbeats 4000000 in
theorem reads_right (s : ByteArray) (hs : s.size ≤ 70000) (rs : List Nat) (hrd : Rd s rs) (hx : ¬ (textR rs).length < s.data.toList.length) (w : World) (ht : Tabs w) :
    Calls Tryd.prog 3 #[.string s] w fun e w' => BoolPost w true e w' := by
  have h2 := ht.two
  have hgl : ∀ r ∈ rs, r < 2000000 := fun r hr => by
    have := (hrd.1 r hr).2
    unfold mayN at this
    simp at this
    omega
  have hfew := hrd.few
  have hln : (natInts rs).length ≤ 1000000 := by rw [show (natInts rs).length = rs.length from List.length_map _]; omega
  have HR := Lib.hid (fun W hW => runes_any s rs hrd (by unfold maxLen; omega) W hW)
  have HF := Lib.hid (fun W => refRunes_any s rs hrd (by omega) W)
  have HW := Lib.hid (fun W hW => k_wrong s rs hrd (by unfold maxLen; omega) (-1) (by unfold wrZ; rw [if_neg hx]) W hW)
  have HC := Lib.hid (fun W hW => k_check s rs hrd (by unfold maxLen; omega) 0 (by unfold chkZ; rw [if_neg hx]) W hW)
  have HP := Lib.hid (fun W hW => k_plain s rs hrd (by unfold maxLen; omega) _ (plnB_strS hgl hx) W hW)
  have HQ := Lib.hid (fun v W hV => refPlain_nat v rs (by omega) hgl W hV)
  have HB := Lib.hid (fun v W hW hV => raw_back s rs hrd hx v W hW hV)
  have HS := Lib.hid (fun v v' W hV hV' => same_yes v v' (natInts rs) hln W hV hV')
  have HX := Lib.hid hx
  have HT := Lib.hid ht
  clear ht hrd hx hgl hfew hln
  unfold RunesPost at HR
  unfold RRunesPost at HF
  change Hid (∀ W hW, Calls _ _ _ W fun e w' => (_ ∧ ∃ v, e = _ ∧ OwnR w' W.heap.size v (natInts rs) ∧ _) ∨ _) at HR
  change Hid (∀ W, Calls _ _ _ W fun e w' => (_ ∧ ∃ v, e = _ ∧ OwnR w' W.heap.size v (natInts rs) ∧ _) ∨ _) at HF
  change Hid (∀ W hW, Calls _ _ _ W fun e w' => e = .returned (.bool ((((natInts rs).filter strS).length : Int) == 0)) ∧ _) at HP
  generalize ((((natInts rs).filter strS).length : Int) == 0) = pl at *
  generalize natInts rs = is at *
  unfold BoolPost at HQ
  go_enter Tryd.func3, Tryd.ntmps3
  go_wp2_with fail
  refine (HR.out w HT.out).mono ?_
  rintro e w1 (⟨-, v, rfl, hO, hb1⟩ | ⟨hx, -⟩)
  rotate_left
  · exact absurd hx HX.out
  have HB1 := Lib.hid hb1
  have V1 := Lib.hid hO.val
  clear hO
  clear hb1
  go_wp2_with fail
  refine (HF.out w1).mono ?_
  rintro e w2 (⟨-, v', rfl, hO, hb2⟩ | ⟨hx, -⟩)
  rotate_left
  · exact absurd hx HX.out
  have HB2 := Lib.hid (show Below w.heap.size w w2 from HB1.out.trans (hb2.mono HB1.out.size))
  have V2 := Lib.hid (V1.out.below hb2)
  have U2 := Lib.hid hO.val
  clear hO
  clear hb2
  go_wp2_with fail
  refine (HW.out w2 (HT.out.below HB2.out h2)).mono ?_
  rintro e w3 ⟨rfl, hb3⟩
  have HB3 := Lib.hid (show Below w.heap.size w w3 from HB2.out.trans (hb3.mono HB2.out.size))
  have V3 := Lib.hid (V2.out.below hb3)
  have U3 := Lib.hid (U2.out.below hb3)
  clear hb3
  go_wp2_with fail
  refine (HC.out w3 (HT.out.below HB3.out h2)).mono ?_
  rintro e w4 ⟨rfl, hb4⟩
  have HB4 := Lib.hid (show Below w.heap.size w w4 from HB3.out.trans (hb4.mono HB3.out.size))
  have V4 := Lib.hid (V3.out.below hb4)
  have U4 := Lib.hid (U3.out.below hb4)
  clear hb4
  go_wp2_with fail
  refine (HS.out _ _ w4 V4.out U4.out).mono ?_
  rintro e w5 ⟨rfl, hb5⟩
  have HB5 := Lib.hid (show Below w.heap.size w w5 from HB4.out.trans (hb5.mono HB4.out.size))
  have V5 := Lib.hid (V4.out.below hb5)
  have U5 := Lib.hid (U4.out.below hb5)
  clear hb5
  go_wp2_with fail
  refine (HB.out _ w5 (HT.out.below HB5.out h2) V5.out).mono ?_
  rintro e w6 ⟨rfl, hb6⟩
  have HB6 := Lib.hid (show Below w.heap.size w w6 from HB5.out.trans (hb6.mono HB5.out.size))
  have U6 := Lib.hid (U5.out.below hb6)
  clear hb6
  go_wp2_with fail
  refine (HP.out w6 (HT.out.below HB6.out h2)).mono ?_
  rintro e w7 ⟨rfl, hb7⟩
  have HB7 := Lib.hid (show Below w.heap.size w w7 from HB6.out.trans (hb7.mono HB6.out.size))
  have U7 := Lib.hid (U6.out.below hb7)
  clear hb7
  go_wp2_with fail
  refine (HQ.out _ w7 U7.out).mono ?_
  rintro e w8 ⟨rfl, hb8⟩
  have HB8 := Lib.hid (show Below w.heap.size w w8 from HB7.out.trans (hb8.mono HB7.out.size))
  clear hb8
  go_wp2_with fail
  refine (known_any w8 (HT.out.below HB8.out h2)).mono ?_
  rintro e w9 ⟨rfl, hb9⟩
  have HB9 := Lib.hid (show Below w.heap.size w w9 from HB8.out.trans (hb9.mono HB8.out.size))
  clear hb9
  go_wp2_with fail
  go_ret
  exact ⟨rfl, HB9.out⟩
theorem utfReads_any (s : ByteArray) (w : World) (ht : Tabs w) : Calls Tryd.prog 3 #[.string s] w fun e w' => BoolPost w true e w' := by
  rcases Nat.lt_or_ge 70000 s.size with h | h
  · exact reads_long s h w ht
  obtain ⟨rs, hrd⟩ := reads_some (s.data.toList.take 65535)
  by_cases hx : (textR rs).length < s.data.toList.length
  · exact reads_wrong s h rs hrd hx w ht
  · exact reads_right s h rs hrd hx w ht
end Go.Proofs.YtbmnngcogdamkaaDoor

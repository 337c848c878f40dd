/- Layer 12: the statement of two texts, one behind the other (printed by wip/tools/mkutfP.py). -/
import Derived.Lib.SmallJoins
import Derived.Test.YtbmnngcogdamkaaDoorUtfN
namespace Go.Proofs.YtbmnngcogdamkaaDoor
open Go.RowKit

theorem Reads.append {a b : List UInt8} {ra rb : List Nat} (ha : Reads a ra) (hx : ¬ (textR ra).length < a.length) (hb : Reads b rb) : Reads (a ++ b) (ra ++ rb) := by
  obtain ⟨ga, resta, rfl, da⟩ := ha
  obtain ⟨gb, restb, rfl, db⟩ := hb
  have h0 : resta = [] := by
    rw [List.length_append] at hx
    exact List.eq_nil_of_length_eq_zero (by omega)
  subst h0
  refine ⟨fun r hr => (List.mem_append.1 hr).elim (ga r) (gb r), restb, ?_, db⟩
  rw [textR_append, List.append_nil, List.append_assoc]
theorem Reads.more {a b : List UInt8} {ra rab : List Nat} (ha : Reads a ra) (hab : Reads (a ++ b) rab) : (textR ra).length ≤ (textR rab).length := by
  obtain ⟨ga, resta, rfl, da⟩ := ha
  obtain ⟨r', hr'⟩ := reads_some (resta ++ b)
  obtain ⟨g', rest', he', d'⟩ := hr'
  have : Reads (textR ra ++ resta ++ b) (ra ++ r') := ⟨fun r hr => (List.mem_append.1 hr).elim (ga r) (g' r), rest', by rw [List.append_assoc, he', textR_append, List.append_assoc], d'⟩
  rw [reads_one hab this, textR_append, List.length_append]
  omega
theorem Rd.small {s : ByteArray} {rs : List Nat} (hs : s.size ≤ 65535) : Rd s rs ↔ Reads s.data.toList rs := by
  unfold Rd
  rw [List.take_of_length_le (by rw [← Lib.size_eq]; exact hs)]
theorem suchL_pls (p : Int → Bool) (a : Nat) (rs : List Nat) : (suchL p (pls a rs)).length = (rs.filter fun (r : Nat) => p r).length := by
  induction rs generalizing a with
  | nil => rfl
  | cons r t ih =>
    have := ih (a + (lenB r + 1))
    unfold suchL at this ⊢
    rw [List.length_map] at this ⊢
    simp only [pls, List.filter_cons]
    cases p r <;> simp [this]
theorem plnB_right {s : List UInt8} {rs : List Nat} (h : ¬ (textR rs).length < s.length) : plnB s rs = (((rs.filter fun (r : Nat) => strB r).length : Int) == 0) := by
  unfold plnB plsAll
  rw [if_neg h, List.append_nil]
  rw [suchL_pls]
/-- What is known of two texts. -/
structure Two (a b : ByteArray) (ra rb rab : List Nat) : Prop where
  la : a.size ≤ 3000
  lb : b.size ≤ 3000
  a_ : Rd a ra
  b_ : Rd b rb
  ab : Rd (a ++ b) rab
theorem two_some (a b : ByteArray) (la : a.size ≤ 3000) (lb : b.size ≤ 3000) : ∃ ra rb rab, Two a b ra rb rab := by
  obtain ⟨ra, ha⟩ := reads_some (a.data.toList.take 65535)
  obtain ⟨rb, hb⟩ := reads_some (b.data.toList.take 65535)
  obtain ⟨rab, hab⟩ := reads_some ((a ++ b).data.toList.take 65535)
  exact ⟨ra, rb, rab, la, lb, ha, hb, hab⟩
theorem Two.sizes {a b : ByteArray} {ra rb rab : List Nat} (h : Two a b ra rb rab) : (a ++ b).size = a.size + b.size ∧ (a ++ b).size ≤ 6000 := by
  have := ByteArray.size_append (a := a) (b := b)
  have := h.la
  have := h.lb
  omega
theorem Two.one {a b : ByteArray} {ra rb rab : List Nat} (h : Two a b ra rb rab) (hx : ¬ (textR ra).length < a.data.toList.length) : rab = ra ++ rb := by
  have hs := h.sizes
  have h1 := (Rd.small (by have := h.la; omega)).1 h.a_
  have h2 := (Rd.small (by have := h.lb; omega)).1 h.b_
  have h3 := (Rd.small (by omega)).1 h.ab
  rw [Joins.data_append] at h3
  exact reads_one h3 (h1.append hx h2)
theorem Two.len {a b : ByteArray} {ra rb rab : List Nat} (h : Two a b ra rb rab) : (textR ra).length ≤ (textR rab).length := by
  have hs := h.sizes
  have h1 := (Rd.small (by have := h.la; omega)).1 h.a_
  have h3 := (Rd.small (by omega)).1 h.ab
  rw [Joins.data_append] at h3
  exact h1.more h3
set_option maxRecDepth 100000 in
set_option maxHeartbeats 4000000 in
theorem parts_c1a (a b : ByteArray) (ra rb rab : List Nat) (h : Two a b ra rb rab) (hx : ¬ (textR ra).length < a.data.toList.length) (hy : ¬ (textR rb).length < b.data.toList.length) (hpa : plnB a.data.toList ra = false) (w : World) (ht : Tabs w) :
    Calls Tryd.prog 6 #[.string a, .string b] w fun e w' => BoolPost w true e w' := by
  have h2 := ht.two
  have la := h.la
  have lb := h.lb
  obtain ⟨hs1, hs2⟩ := h.sizes
  have hr := h.one hx
  have hz : ¬ (textR rab).length < (a ++ b).data.toList.length := by
    rw [hr, textR_append, List.length_append, Joins.data_append, List.length_append]; omega
  have hpab : plnB (a ++ b).data.toList rab = false := by
    rw [plnB_right hx] at hpa
    rw [plnB_right hz, hr, List.filter_append, List.length_append]
    rw [beq_eq_false_iff_ne] at hpa ⊢
    omega
  have HCa := Lib.hid (fun W hW => k_check a ra h.a_ (by unfold maxLen; omega) 0 (by unfold chkZ; rw [if_neg hx]) W hW)
  have HCb := Lib.hid (fun W hW => k_check b rb h.b_ (by unfold maxLen; omega) 0 (by unfold chkZ; rw [if_neg hy]) W hW)
  have HCab := Lib.hid (fun W hW => k_check (a ++ b) rab h.ab (by unfold maxLen; omega) 0 (by unfold chkZ; rw [if_neg hz]) W hW)
  have HWa := Lib.hid (fun W hW => k_wrong a ra h.a_ (by unfold maxLen; omega) (-1) (by unfold wrZ; rw [if_neg hx]) W hW)
  have HWb := Lib.hid (fun W hW => k_wrong b rb h.b_ (by unfold maxLen; omega) (-1) (by unfold wrZ; rw [if_neg hy]) W hW)
  have HWab := Lib.hid (fun W hW => k_wrong (a ++ b) rab h.ab (by unfold maxLen; omega) (-1) (by unfold wrZ; rw [if_neg hz]) W hW)
  have HPa := Lib.hid (fun W hW => k_plain a ra h.a_ (by unfold maxLen; omega) false hpa W hW)
  have HPab := Lib.hid (fun W hW => k_plain (a ++ b) rab h.ab (by unfold maxLen; omega) false hpab W hW)
  have HT := Lib.hid ht
  clear ht h hs1 hs2
  clear hr hx hy hz hpa hpab
  go_enter Tryd.func6, Tryd.ntmps6
  go_wp2_with fail
  refine (HCa.out w HT.out).mono ?_
  rintro e w1 ⟨rfl, hb1⟩
  have HB1 := Lib.hid hb1
  clear hb1
  go_wp2_with fail
  refine (HCb.out w1 (HT.out.below HB1.out h2)).mono ?_
  rintro e w2 ⟨rfl, hb2⟩
  have HB2 := Lib.hid (show Below w.heap.size w w2 from HB1.out.trans (hb2.mono HB1.out.size))
  clear hb2
  go_wp2_with fail
  refine (HCab.out w2 (HT.out.below HB2.out h2)).mono ?_
  rintro e w3 ⟨rfl, hb3⟩
  have HB3 := Lib.hid (show Below w.heap.size w w3 from HB2.out.trans (hb3.mono HB2.out.size))
  clear hb3
  go_wp2_with fail
  refine (HPab.out w3 (HT.out.below HB3.out h2)).mono ?_
  rintro e w4 ⟨rfl, hb4⟩
  have HB4 := Lib.hid (show Below w.heap.size w w4 from HB3.out.trans (hb4.mono HB3.out.size))
  clear hb4
  go_wp2_with fail
  refine (HPa.out w4 (HT.out.below HB4.out h2)).mono ?_
  rintro e w5 ⟨rfl, hb5⟩
  have HB5 := Lib.hid (show Below w.heap.size w w5 from HB4.out.trans (hb5.mono HB4.out.size))
  clear hb5
  go_wp2_with fail
  refine (HWa.out w5 (HT.out.below HB5.out h2)).mono ?_
  rintro e w6 ⟨rfl, hb6⟩
  have HB6 := Lib.hid (show Below w.heap.size w w6 from HB5.out.trans (hb6.mono HB5.out.size))
  clear hb6
  go_wp2_with fail
  refine (HWb.out w6 (HT.out.below HB6.out h2)).mono ?_
  rintro e w7 ⟨rfl, hb7⟩
  have HB7 := Lib.hid (show Below w.heap.size w w7 from HB6.out.trans (hb7.mono HB6.out.size))
  clear hb7
  go_wp2_with fail
  refine (HWab.out w7 (HT.out.below HB7.out h2)).mono ?_
  rintro e w8 ⟨rfl, hb8⟩
  have HB8 := Lib.hid (show Below w.heap.size w w8 from HB7.out.trans (hb8.mono HB7.out.size))
  clear hb8
  go_wp2_with fail
  refine (known_any w8 (HT.out.below HB8.out h2)).mono ?_
  rintro e w9 ⟨rfl, hb9⟩
  have HB9 := Lib.hid (show Below w.heap.size w w9 from HB8.out.trans (hb9.mono HB8.out.size))
  clear hb9
  go_wp2_with fail
  go_ret
  exact ⟨rfl, HB9.out⟩
set_option maxRecDepth 100000 in
set_option maxHeartbeats 4000000 in
theorem parts_c1b (a b : ByteArray) (ra rb rab : List Nat) (h : Two a b ra rb rab) (hx : ¬ (textR ra).length < a.data.toList.length) (hy : ¬ (textR rb).length < b.data.toList.length) (hpa : plnB a.data.toList ra = true) (hpb : plnB b.data.toList rb = false) (w : World) (ht : Tabs w) :
    Calls Tryd.prog 6 #[.string a, .string b] w fun e w' => BoolPost w true e w' := by
  have h2 := ht.two
  have la := h.la
  have lb := h.lb
  obtain ⟨hs1, hs2⟩ := h.sizes
  have hr := h.one hx
  have hz : ¬ (textR rab).length < (a ++ b).data.toList.length := by
    rw [hr, textR_append, List.length_append, Joins.data_append, List.length_append]; omega
  have hpab : plnB (a ++ b).data.toList rab = false := by
    rw [plnB_right hx] at hpa
    rw [plnB_right hz, hr, List.filter_append, List.length_append]
    rw [plnB_right hy] at hpb
    rw [beq_iff_eq] at hpa
    rw [beq_eq_false_iff_ne] at hpb ⊢
    omega
  have HCa := Lib.hid (fun W hW => k_check a ra h.a_ (by unfold maxLen; omega) 0 (by unfold chkZ; rw [if_neg hx]) W hW)
  have HCb := Lib.hid (fun W hW => k_check b rb h.b_ (by unfold maxLen; omega) 0 (by unfold chkZ; rw [if_neg hy]) W hW)
  have HCab := Lib.hid (fun W hW => k_check (a ++ b) rab h.ab (by unfold maxLen; omega) 0 (by unfold chkZ; rw [if_neg hz]) W hW)
  have HWa := Lib.hid (fun W hW => k_wrong a ra h.a_ (by unfold maxLen; omega) (-1) (by unfold wrZ; rw [if_neg hx]) W hW)
  have HWb := Lib.hid (fun W hW => k_wrong b rb h.b_ (by unfold maxLen; omega) (-1) (by unfold wrZ; rw [if_neg hy]) W hW)
  have HWab := Lib.hid (fun W hW => k_wrong (a ++ b) rab h.ab (by unfold maxLen; omega) (-1) (by unfold wrZ; rw [if_neg hz]) W hW)
  have HPa := Lib.hid (fun W hW => k_plain a ra h.a_ (by unfold maxLen; omega) true hpa W hW)
  have HPb := Lib.hid (fun W hW => k_plain b rb h.b_ (by unfold maxLen; omega) false hpb W hW)
  have HPab := Lib.hid (fun W hW => k_plain (a ++ b) rab h.ab (by unfold maxLen; omega) false hpab W hW)
  have HT := Lib.hid ht
  clear ht h hs1 hs2
  clear hr hx hy hz hpa hpb hpab
  go_enter Tryd.func6, Tryd.ntmps6
  go_wp2_with fail
  refine (HCa.out w HT.out).mono ?_
  rintro e w1 ⟨rfl, hb1⟩
  have HB1 := Lib.hid hb1
  clear hb1
  go_wp2_with fail
  refine (HCb.out w1 (HT.out.below HB1.out h2)).mono ?_
  rintro e w2 ⟨rfl, hb2⟩
  have HB2 := Lib.hid (show Below w.heap.size w w2 from HB1.out.trans (hb2.mono HB1.out.size))
  clear hb2
  go_wp2_with fail
  refine (HCab.out w2 (HT.out.below HB2.out h2)).mono ?_
  rintro e w3 ⟨rfl, hb3⟩
  have HB3 := Lib.hid (show Below w.heap.size w w3 from HB2.out.trans (hb3.mono HB2.out.size))
  clear hb3
  go_wp2_with fail
  refine (HPab.out w3 (HT.out.below HB3.out h2)).mono ?_
  rintro e w4 ⟨rfl, hb4⟩
  have HB4 := Lib.hid (show Below w.heap.size w w4 from HB3.out.trans (hb4.mono HB3.out.size))
  clear hb4
  go_wp2_with fail
  refine (HPa.out w4 (HT.out.below HB4.out h2)).mono ?_
  rintro e w5 ⟨rfl, hb5⟩
  have HB5 := Lib.hid (show Below w.heap.size w w5 from HB4.out.trans (hb5.mono HB4.out.size))
  clear hb5
  go_wp2_with fail
  refine (HPb.out w5 (HT.out.below HB5.out h2)).mono ?_
  rintro e w6 ⟨rfl, hb6⟩
  have HB6 := Lib.hid (show Below w.heap.size w w6 from HB5.out.trans (hb6.mono HB5.out.size))
  clear hb6
  go_wp2_with fail
  refine (HWa.out w6 (HT.out.below HB6.out h2)).mono ?_
  rintro e w7 ⟨rfl, hb7⟩
  have HB7 := Lib.hid (show Below w.heap.size w w7 from HB6.out.trans (hb7.mono HB6.out.size))
  clear hb7
  go_wp2_with fail
  refine (HWb.out w7 (HT.out.below HB7.out h2)).mono ?_
  rintro e w8 ⟨rfl, hb8⟩
  have HB8 := Lib.hid (show Below w.heap.size w w8 from HB7.out.trans (hb8.mono HB7.out.size))
  clear hb8
  go_wp2_with fail
  refine (HWab.out w8 (HT.out.below HB8.out h2)).mono ?_
  rintro e w9 ⟨rfl, hb9⟩
  have HB9 := Lib.hid (show Below w.heap.size w w9 from HB8.out.trans (hb9.mono HB8.out.size))
  clear hb9
  go_wp2_with fail
  refine (known_any w9 (HT.out.below HB9.out h2)).mono ?_
  rintro e w10 ⟨rfl, hb10⟩
  have HB10 := Lib.hid (show Below w.heap.size w w10 from HB9.out.trans (hb10.mono HB9.out.size))
  clear hb10
  go_wp2_with fail
  go_ret
  exact ⟨rfl, HB10.out⟩
set_option maxRecDepth 100000 in
set_option maxHeartbeats 4000000 in
theorem parts_c1c (a b : ByteArray) (ra rb rab : List Nat) (h : Two a b ra rb rab) (hx : ¬ (textR ra).length < a.data.toList.length) (hy : ¬ (textR rb).length < b.data.toList.length) (hpa : plnB a.data.toList ra = true) (hpb : plnB b.data.toList rb = true) (w : World) (ht : Tabs w) :
    Calls Tryd.prog 6 #[.string a, .string b] w fun e w' => BoolPost w true e w' := by
  have h2 := ht.two
  have la := h.la
  have lb := h.lb
  obtain ⟨hs1, hs2⟩ := h.sizes
  have hr := h.one hx
  have hz : ¬ (textR rab).length < (a ++ b).data.toList.length := by
    rw [hr, textR_append, List.length_append, Joins.data_append, List.length_append]; omega
  have hpab : plnB (a ++ b).data.toList rab = true := by
    rw [plnB_right hx] at hpa
    rw [plnB_right hz, hr, List.filter_append, List.length_append]
    rw [plnB_right hy] at hpb
    rw [beq_iff_eq] at hpa hpb ⊢
    omega
  have HCa := Lib.hid (fun W hW => k_check a ra h.a_ (by unfold maxLen; omega) 0 (by unfold chkZ; rw [if_neg hx]) W hW)
  have HCb := Lib.hid (fun W hW => k_check b rb h.b_ (by unfold maxLen; omega) 0 (by unfold chkZ; rw [if_neg hy]) W hW)
  have HCab := Lib.hid (fun W hW => k_check (a ++ b) rab h.ab (by unfold maxLen; omega) 0 (by unfold chkZ; rw [if_neg hz]) W hW)
  have HWa := Lib.hid (fun W hW => k_wrong a ra h.a_ (by unfold maxLen; omega) (-1) (by unfold wrZ; rw [if_neg hx]) W hW)
  have HWb := Lib.hid (fun W hW => k_wrong b rb h.b_ (by unfold maxLen; omega) (-1) (by unfold wrZ; rw [if_neg hy]) W hW)
  have HWab := Lib.hid (fun W hW => k_wrong (a ++ b) rab h.ab (by unfold maxLen; omega) (-1) (by unfold wrZ; rw [if_neg hz]) W hW)
  have HPa := Lib.hid (fun W hW => k_plain a ra h.a_ (by unfold maxLen; omega) true hpa W hW)
  have HPb := Lib.hid (fun W hW => k_plain b rb h.b_ (by unfold maxLen; omega) true hpb W hW)
  have HPab := Lib.hid (fun W hW => k_plain (a ++ b) rab h.ab (by unfold maxLen; omega) true hpab W hW)
  have HT := Lib.hid ht
  clear ht h hs1 hs2
  clear hr hx hy hz hpa hpb hpab
  go_enter Tryd.func6, Tryd.ntmps6
  go_wp2_with fail
  refine (HCa.out w HT.out).mono ?_
  rintro e w1 ⟨rfl, hb1⟩
  have HB1 := Lib.hid hb1
  clear hb1
  go_wp2_with fail
  refine (HCb.out w1 (HT.out.below HB1.out h2)).mono ?_
  rintro e w2 ⟨rfl, hb2⟩
  have HB2 := Lib.hid (show Below w.heap.size w w2 from HB1.out.trans (hb2.mono HB1.out.size))
  clear hb2
  go_wp2_with fail
  refine (HCab.out w2 (HT.out.below HB2.out h2)).mono ?_
  rintro e w3 ⟨rfl, hb3⟩
  have HB3 := Lib.hid (show Below w.heap.size w w3 from HB2.out.trans (hb3.mono HB2.out.size))
  clear hb3
  go_wp2_with fail
  refine (HPab.out w3 (HT.out.below HB3.out h2)).mono ?_
  rintro e w4 ⟨rfl, hb4⟩
  have HB4 := Lib.hid (show Below w.heap.size w w4 from HB3.out.trans (hb4.mono HB3.out.size))
  clear hb4
  go_wp2_with fail
  refine (HPa.out w4 (HT.out.below HB4.out h2)).mono ?_
  rintro e w5 ⟨rfl, hb5⟩
  have HB5 := Lib.hid (show Below w.heap.size w w5 from HB4.out.trans (hb5.mono HB4.out.size))
  clear hb5
  go_wp2_with fail
  refine (HPb.out w5 (HT.out.below HB5.out h2)).mono ?_
  rintro e w6 ⟨rfl, hb6⟩
  have HB6 := Lib.hid (show Below w.heap.size w w6 from HB5.out.trans (hb6.mono HB5.out.size))
  clear hb6
  go_wp2_with fail
  refine (HWa.out w6 (HT.out.below HB6.out h2)).mono ?_
  rintro e w7 ⟨rfl, hb7⟩
  have HB7 := Lib.hid (show Below w.heap.size w w7 from HB6.out.trans (hb7.mono HB6.out.size))
  clear hb7
  go_wp2_with fail
  refine (HWb.out w7 (HT.out.below HB7.out h2)).mono ?_
  rintro e w8 ⟨rfl, hb8⟩
  have HB8 := Lib.hid (show Below w.heap.size w w8 from HB7.out.trans (hb8.mono HB7.out.size))
  clear hb8
  go_wp2_with fail
  refine (HWab.out w8 (HT.out.below HB8.out h2)).mono ?_
  rintro e w9 ⟨rfl, hb9⟩
  have HB9 := Lib.hid (show Below w.heap.size w w9 from HB8.out.trans (hb9.mono HB8.out.size))
  clear hb9
  go_wp2_with fail
  refine (known_any w9 (HT.out.below HB9.out h2)).mono ?_
  rintro e w10 ⟨rfl, hb10⟩
  have HB10 := Lib.hid (show Below w.heap.size w w10 from HB9.out.trans (hb10.mono HB9.out.size))
  clear hb10
  go_wp2_with fail
  go_ret
  exact ⟨rfl, HB10.out⟩
set_option maxRecDepth 100000 in
set_option maxHeartbeats 4000000 in
theorem parts_c2 (a b : ByteArray) (ra rb rab : List Nat) (h : Two a b ra rb rab) (hx : ¬ (textR ra).length < a.data.toList.length) (hy : (textR rb).length < b.data.toList.length) (w : World) (ht : Tabs w) :
    Calls Tryd.prog 6 #[.string a, .string b] w fun e w' => BoolPost w true e w' := by
  have h2 := ht.two
  have la := h.la
  have lb := h.lb
  obtain ⟨hs1, hs2⟩ := h.sizes
  have hr := h.one hx
  have hxl : (textR ra).length = a.size := by
    have := h.a_.le
    rw [← Lib.size_eq] at hx; omega
  have hz : (textR rab).length < (a ++ b).data.toList.length := by
    rw [hr, textR_append, List.length_append, Joins.data_append, List.length_append, ← Lib.size_eq, hxl]; omega
  obtain ⟨q, hq⟩ : ∃ q, (textR rb).length = q := ⟨_, rfl⟩
  have hqab : (textR rab).length = q + a.size := by rw [hr, textR_append, List.length_append, hxl, hq]; omega
  have hqs : q ≤ 3000 := by rw [← Lib.size_eq, hq] at hy; omega
  have HCa := Lib.hid (fun W hW => k_check a ra h.a_ (by unfold maxLen; omega) 0 (by unfold chkZ; rw [if_neg hx]) W hW)
  have HCb := Lib.hid (fun W hW => k_check b rb h.b_ (by unfold maxLen; omega) 220 (by unfold chkZ; rw [if_pos hy]) W hW)
  have HCab := Lib.hid (fun W hW => k_check (a ++ b) rab h.ab (by unfold maxLen; omega) 220 (by unfold chkZ; rw [if_pos hz]) W hW)
  have HWa := Lib.hid (fun W hW => k_wrong a ra h.a_ (by unfold maxLen; omega) (-1) (by unfold wrZ; rw [if_neg hx]) W hW)
  have HWb := Lib.hid (fun W hW => k_wrong b rb h.b_ (by unfold maxLen; omega) q (by unfold wrZ; rw [if_pos hy, hq]) W hW)
  have HWab := Lib.hid (fun W hW => k_wrong (a ++ b) rab h.ab (by unfold maxLen; omega) ((q : Int) + a.size) (by unfold wrZ; rw [if_pos hz, hqab]; omega) W hW)
  have HT := Lib.hid ht
  clear ht h hs1 hs2
  clear hr hx hy hz hxl hq hqab
  have hq0 : (0 : Int) ≤ q := by omega
  go_enter Tryd.func6, Tryd.ntmps6
  go_wp2_with fail
  refine (HCa.out w HT.out).mono ?_
  rintro e w1 ⟨rfl, hb1⟩
  have HB1 := Lib.hid hb1
  clear hb1
  go_wp2_with fail
  refine (HCb.out w1 (HT.out.below HB1.out h2)).mono ?_
  rintro e w2 ⟨rfl, hb2⟩
  have HB2 := Lib.hid (show Below w.heap.size w w2 from HB1.out.trans (hb2.mono HB1.out.size))
  clear hb2
  go_wp2_with fail
  refine (HCab.out w2 (HT.out.below HB2.out h2)).mono ?_
  rintro e w3 ⟨rfl, hb3⟩
  have HB3 := Lib.hid (show Below w.heap.size w w3 from HB2.out.trans (hb3.mono HB2.out.size))
  clear hb3
  go_wp2_with fail
  refine (HWa.out w3 (HT.out.below HB3.out h2)).mono ?_
  rintro e w4 ⟨rfl, hb4⟩
  have HB4 := Lib.hid (show Below w.heap.size w w4 from HB3.out.trans (hb4.mono HB3.out.size))
  clear hb4
  go_wp2_with fail
  refine (HWb.out w4 (HT.out.below HB4.out h2)).mono ?_
  rintro e w5 ⟨rfl, hb5⟩
  have HB5 := Lib.hid (show Below w.heap.size w w5 from HB4.out.trans (hb5.mono HB4.out.size))
  clear hb5
  go_wp2_with fail
  refine (HWab.out w5 (HT.out.below HB5.out h2)).mono ?_
  rintro e w6 ⟨rfl, hb6⟩
  have HB6 := Lib.hid (show Below w.heap.size w w6 from HB5.out.trans (hb6.mono HB5.out.size))
  clear hb6
  go_wp2_with fail
  refine (known_any w6 (HT.out.below HB6.out h2)).mono ?_
  rintro e w7 ⟨rfl, hb7⟩
  have HB7 := Lib.hid (show Below w.heap.size w w7 from HB6.out.trans (hb7.mono HB6.out.size))
  clear hb7
  go_wp2_with fail
  go_ret
  exact ⟨rfl, HB7.out⟩
set_option maxRecDepth 100000 in
set_option maxHeartbeats 4000000 in
theorem parts_c3a (a b : ByteArray) (ra rb rab : List Nat) (h : Two a b ra rb rab) (hx : (textR ra).length < a.data.toList.length) (hz : (textR rab).length < (a ++ b).data.toList.length) (w : World) (ht : Tabs w) :
    Calls Tryd.prog 6 #[.string a, .string b] w fun e w' => BoolPost w true e w' := by
  have h2 := ht.two
  have la := h.la
  have lb := h.lb
  obtain ⟨hs1, hs2⟩ := h.sizes
  have hle := h.len
  obtain ⟨q, hq⟩ : ∃ q, (textR ra).length = q := ⟨_, rfl⟩
  obtain ⟨p, hp⟩ : ∃ p, (textR rab).length = p := ⟨_, rfl⟩
  obtain ⟨cb, hcb⟩ : ∃ cb, chkZ b.data.toList rb = cb := ⟨_, rfl⟩
  obtain ⟨cz, hcz⟩ : ∃ cz, chkZ (a ++ b).data.toList rab = cz := ⟨_, rfl⟩
  have HCa := Lib.hid (fun W hW => k_check a ra h.a_ (by unfold maxLen; omega) 220 (by unfold chkZ; rw [if_pos hx]) W hW)
  have HCb := Lib.hid (fun W hW => k_check b rb h.b_ (by unfold maxLen; omega) cb hcb W hW)
  have HCab := Lib.hid (fun W hW => k_check (a ++ b) rab h.ab (by unfold maxLen; omega) cz hcz W hW)
  have HWa := Lib.hid (fun W hW => k_wrong a ra h.a_ (by unfold maxLen; omega) q (by unfold wrZ; rw [if_pos hx, hq]) W hW)
  have HWab := Lib.hid (fun W hW => k_wrong (a ++ b) rab h.ab (by unfold maxLen; omega) p (by unfold wrZ; rw [if_pos hz, hp]) W hW)
  have hpq : (q : Int) ≤ p := by omega
  have hq0 : (0 : Int) ≤ q := by omega
  have hpm : (p : Int) ≤ 6000 := by
    have := h.ab.le
    omega
  have HT := Lib.hid ht
  clear ht h hs1 hs2
  clear hle hq hp hcb hcz hx hz
  go_enter Tryd.func6, Tryd.ntmps6
  go_wp2_with fail
  refine (HCa.out w HT.out).mono ?_
  rintro e w1 ⟨rfl, hb1⟩
  have HB1 := Lib.hid hb1
  clear hb1
  go_wp2_with fail
  refine (HCb.out w1 (HT.out.below HB1.out h2)).mono ?_
  rintro e w2 ⟨rfl, hb2⟩
  have HB2 := Lib.hid (show Below w.heap.size w w2 from HB1.out.trans (hb2.mono HB1.out.size))
  clear hb2
  go_wp2_with fail
  refine (HCab.out w2 (HT.out.below HB2.out h2)).mono ?_
  rintro e w3 ⟨rfl, hb3⟩
  have HB3 := Lib.hid (show Below w.heap.size w w3 from HB2.out.trans (hb3.mono HB2.out.size))
  clear hb3
  go_wp2_with fail
  refine (HWa.out w3 (HT.out.below HB3.out h2)).mono ?_
  rintro e w4 ⟨rfl, hb4⟩
  have HB4 := Lib.hid (show Below w.heap.size w w4 from HB3.out.trans (hb4.mono HB3.out.size))
  clear hb4
  go_wp2_with fail
  refine (HWab.out w4 (HT.out.below HB4.out h2)).mono ?_
  rintro e w5 ⟨rfl, hb5⟩
  have HB5 := Lib.hid (show Below w.heap.size w w5 from HB4.out.trans (hb5.mono HB4.out.size))
  clear hb5
  go_wp2_with fail
  refine (known_any w5 (HT.out.below HB5.out h2)).mono ?_
  rintro e w6 ⟨rfl, hb6⟩
  have HB6 := Lib.hid (show Below w.heap.size w w6 from HB5.out.trans (hb6.mono HB5.out.size))
  clear hb6
  go_wp2_with fail
  go_ret
  exact ⟨rfl, HB6.out⟩
set_option maxRecDepth 100000 in
set_option maxHeartbeats 4000000 in
theorem parts_c3b (a b : ByteArray) (ra rb rab : List Nat) (h : Two a b ra rb rab) (hx : (textR ra).length < a.data.toList.length) (hz : ¬ (textR rab).length < (a ++ b).data.toList.length) (w : World) (ht : Tabs w) :
    Calls Tryd.prog 6 #[.string a, .string b] w fun e w' => BoolPost w true e w' := by
  have h2 := ht.two
  have la := h.la
  have lb := h.lb
  obtain ⟨hs1, hs2⟩ := h.sizes
  have hle := h.len
  obtain ⟨q, hq⟩ : ∃ q, (textR ra).length = q := ⟨_, rfl⟩
  obtain ⟨p, hp⟩ : ∃ p, (textR rab).length = p := ⟨_, rfl⟩
  obtain ⟨cb, hcb⟩ : ∃ cb, chkZ b.data.toList rb = cb := ⟨_, rfl⟩
  obtain ⟨cz, hcz⟩ : ∃ cz, chkZ (a ++ b).data.toList rab = cz := ⟨_, rfl⟩
  have HCa := Lib.hid (fun W hW => k_check a ra h.a_ (by unfold maxLen; omega) 220 (by unfold chkZ; rw [if_pos hx]) W hW)
  have HCb := Lib.hid (fun W hW => k_check b rb h.b_ (by unfold maxLen; omega) cb hcb W hW)
  have HCab := Lib.hid (fun W hW => k_check (a ++ b) rab h.ab (by unfold maxLen; omega) cz hcz W hW)
  have HWa := Lib.hid (fun W hW => k_wrong a ra h.a_ (by unfold maxLen; omega) q (by unfold wrZ; rw [if_pos hx, hq]) W hW)
  have HWab := Lib.hid (fun W hW => k_wrong (a ++ b) rab h.ab (by unfold maxLen; omega) (-1) (by unfold wrZ; rw [if_neg hz]) W hW)
  have hq0 : (-1 : Int) < q := by omega
  have HT := Lib.hid ht
  clear ht h hs1 hs2
  clear hle hq hp hcb hcz hx hz
  go_enter Tryd.func6, Tryd.ntmps6
  go_wp2_with fail
  refine (HCa.out w HT.out).mono ?_
  rintro e w1 ⟨rfl, hb1⟩
  have HB1 := Lib.hid hb1
  clear hb1
  go_wp2_with fail
  refine (HCb.out w1 (HT.out.below HB1.out h2)).mono ?_
  rintro e w2 ⟨rfl, hb2⟩
  have HB2 := Lib.hid (show Below w.heap.size w w2 from HB1.out.trans (hb2.mono HB1.out.size))
  clear hb2
  go_wp2_with fail
  refine (HCab.out w2 (HT.out.below HB2.out h2)).mono ?_
  rintro e w3 ⟨rfl, hb3⟩
  have HB3 := Lib.hid (show Below w.heap.size w w3 from HB2.out.trans (hb3.mono HB2.out.size))
  clear hb3
  go_wp2_with fail
  refine (HWa.out w3 (HT.out.below HB3.out h2)).mono ?_
  rintro e w4 ⟨rfl, hb4⟩
  have HB4 := Lib.hid (show Below w.heap.size w w4 from HB3.out.trans (hb4.mono HB3.out.size))
  clear hb4
  go_wp2_with fail
  refine (HWab.out w4 (HT.out.below HB4.out h2)).mono ?_
  rintro e w5 ⟨rfl, hb5⟩
  have HB5 := Lib.hid (show Below w.heap.size w w5 from HB4.out.trans (hb5.mono HB4.out.size))
  clear hb5
  go_wp2_with fail
  refine (known_any w5 (HT.out.below HB5.out h2)).mono ?_
  rintro e w6 ⟨rfl, hb6⟩
  have HB6 := Lib.hid (show Below w.heap.size w w6 from HB5.out.trans (hb6.mono HB5.out.size))
  clear hb6
  go_wp2_with fail
  go_ret
  exact ⟨rfl, HB6.out⟩
set_option maxRecDepth 100000 in
set_option maxHeartbeats 4000000 in
theorem parts_long (a b : ByteArray) (h : 3000 < a.size ∨ 3000 < b.size) (ha : a.size ≤ maxLen) (hb : b.size ≤ maxLen) (w : World) (ht : Tabs w) : Calls Tryd.prog 6 #[.string a, .string b] w fun e w' => BoolPost w true e w' := by
  have h2 := ht.two
  unfold maxLen at ha hb
  have HT := Lib.hid ht
  clear ht
  by_cases h1 : 3000 < a.size
  · clear h
    go_enter Tryd.func6, Tryd.ntmps6
    go_wp2_with fail
    refine (known_any w HT.out).mono ?_
    rintro e w1 ⟨rfl, hb1⟩
    have HB1 := Lib.hid hb1
    clear hb1
    go_wp2_with fail
    go_ret
    exact ⟨rfl, HB1.out⟩
  · have h3 : 3000 < b.size := by omega
    have h4 : a.size ≤ 3000 := by omega
    clear h h1
    go_enter Tryd.func6, Tryd.ntmps6
    go_wp2_with fail
    refine (known_any w HT.out).mono ?_
    rintro e w1 ⟨rfl, hb1⟩
    have HB1 := Lib.hid hb1
    clear hb1
    go_wp2_with fail
    go_ret
    exact ⟨rfl, HB1.out⟩
theorem utfParts_any (a b : ByteArray) (ha : a.size ≤ maxLen) (hb : b.size ≤ maxLen) (w : World) (ht : Tabs w) : Calls Tryd.prog 6 #[.string a, .string b] w fun e w' => BoolPost w true e w' := by
  by_cases hl : 3000 < a.size ∨ 3000 < b.size
  · exact parts_long a b hl ha hb w ht
  obtain ⟨ra, rb, rab, h⟩ := two_some a b (by omega) (by omega)
  by_cases hx : (textR ra).length < a.data.toList.length
  · by_cases hz : (textR rab).length < (a ++ b).data.toList.length
    · exact parts_c3a a b ra rb rab h hx hz w ht
    · exact parts_c3b a b ra rb rab h hx hz w ht
  · by_cases hy : (textR rb).length < b.data.toList.length
    · exact parts_c2 a b ra rb rab h hx hy w ht
    · cases hpa : plnB a.data.toList ra with
      | false => exact parts_c1a a b ra rb rab h hx hy hpa w ht
      | true =>
        cases hpb : plnB b.data.toList rb with
        | false => exact parts_c1b a b ra rb rab h hx hy hpa hpb w ht
        | true => exact parts_c1c a b ra rb rab h hx hy hpa hpb w ht
end Go.Proofs.YtbmnngcogdamkaaDoor

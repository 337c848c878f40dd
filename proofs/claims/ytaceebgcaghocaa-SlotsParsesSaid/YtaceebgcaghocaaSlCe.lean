/- Layer 5: the document's number and cell. -/
import Derived.Test.YtaceebgcaghocaaRefNum
import Derived.Test.YtaceebgcaghocaaSlU
import Derived.Test.YtaceebgcaghocaaSlW
namespace Go.Proofs.Ytaceebgcaghocaa
open Go.RowKit

theorem own_arr (w : World) (l : List UInt8) (hl : l.length ≤ 1000) : OwnB (w.alloc (.cells (byteVals l).toArray 5)) w.heap.size (.slice (some ⟨w.heap.size, 0, none⟩) l.length l.length) l :=
  ⟨by simp [byteVals], .inr ⟨w.heap.size, l.length, _, rfl, Nat.le_refl _, heap_alloc_new w _, Nat.le_refl _, by unfold maxLen; omega, by simp [byteVals], by simp [byteVals, List.take_of_length_le]⟩⟩
theorem of_byte {n : Nat} (h : n < 256) : (((UInt8.ofNat n).toNat : Nat) : Int) = (n : Int) := congrArg (fun m : Nat => (m : Int)) (UInt8.toNat_ofNat_of_lt' (show n < UInt8.size from h))
theorem laid1 (n : Nat) : laidB n 1 1 = [UInt8.ofNat n] := by simp [laidB]
theorem may_facts {leaf : Bool} {c : Cv} (h : CellOk leaf c) : c.key.size ≤ 48 ∧ (leaf = true → 1 ≤ c.key.size) ∧ (leaf = true → c.long = false → c.text.size ≤ 60) ∧ ((leaf = false ∨ c.long = true) → 1 ≤ c.page ∧ c.page ≤ 4095) ∧ (leaf = true → c.long = true → 61 ≤ c.size ∧ c.size ≤ 4096) := by
  have hm := (cellOk_may leaf c).1 h
  unfold mayB at hm
  cases leaf <;> cases hl : c.long <;> simp [hl, -ByteArray.size_eq_zero_iff] at hm ⊢ <;> omega
theorem hand_short {c : Cv} (h : CellOk true c) (hl : c.long = false) : (handOf true c).1 = [UInt8.ofNat c.key.size] ++ c.key.data.toList ++ [0, UInt8.ofNat c.text.size] ++ c.text.data.toList := by
  obtain ⟨h1, h2, h3, -, -⟩ := may_facts h
  have h2 := h2 rfl
  have h3 := h3 rfl hl
  have e : (handOf true c).1 = (leafHand c).1 := rfl
  rw [e]
  unfold leafHand hText hTruth
  have k1 : (1 : Int) ≤ c.key.size ∧ (c.key.size : Int) ≤ 48 := ⟨by omega, by omega⟩
  have k2 : (0 : Int) ≤ c.text.size ∧ (c.text.size : Int) ≤ 60 := ⟨by omega, by omega⟩
  simp only [hl, Bool.false_eq_true, if_false, if_pos k1, if_pos k2, laid1]
  simp
theorem hand_long {c : Cv} (h : CellOk true c) (hl : c.long = true) : (handOf true c).1 = [UInt8.ofNat c.key.size] ++ c.key.data.toList ++ [1] ++ laidB c.page.toNat 4 4 ++ laidB c.size.toNat 4 4 := by
  obtain ⟨h1, h2, -, h4, h5⟩ := may_facts h
  have h2 := h2 rfl
  have h4 := h4 (.inr hl)
  have h5 := h5 rfl hl
  have e : (handOf true c).1 = (leafHand c).1 := rfl
  rw [e]
  unfold leafHand hText hTruth hNum
  have k1 : (1 : Int) ≤ c.key.size ∧ (c.key.size : Int) ≤ 48 := ⟨by omega, by omega⟩
  simp only [hl, if_true, if_pos k1, if_pos h4, if_pos h5, laid1]
  simp
theorem hand_branch {c : Cv} (h : CellOk false c) : (handOf false c).1 = [UInt8.ofNat c.key.size] ++ c.key.data.toList ++ laidB c.page.toNat 4 4 := by
  obtain ⟨h1, -, -, h4, -⟩ := may_facts h
  have h4 := h4 (.inl rfl)
  have e : (handOf false c).1 = (branchHand c).1 := rfl
  rw [e]
  unfold branchHand hText hNum
  have k1 : (0 : Int) ≤ c.key.size ∧ (c.key.size : Int) ≤ 48 := ⟨by omega, by omega⟩
  simp only [if_pos k1, if_pos h4, laid1]
  simp
/-- The box with the cell stands, and bytes that the call made. -/
structure CeSt (w : World) (c : Cv) (wr : World) (v : Value) (l : List UInt8) : Prop where
  below : Below w.heap.size w wr
  box : wr.heap[w.heap.size]? = some (.cells c.row 36 (0, 0))
  own : OwnB wr (w.heap.size + 1) v l
theorem CeSt.go {w : World} {c : Cv} {wr w' : World} {v : Value} {l : List UInt8} (h : CeSt w c wr v l) (hb : Below wr.heap.size wr w') : CeSt w c w' v l := ⟨go_on h.below hb, go_row h.box hb, h.own.below hb⟩
theorem CeSt.app {w : World} {c : Cv} {wr w' : World} {v v' : Value} {l l' : List UInt8} (h : CeSt w c wr v l) (hg : wr.grownBy w' v.ownBlock) (ho : OwnB w' (w.heap.size + 1) v' l') : CeSt w c w' v' l' :=
  ⟨h.below.grown hg h.below.size (fun k e => by have := own_ge h.own e; omega), (hg.block w.heap.size (Array.getElem?_eq_some_iff.1 h.box).1 (fun e => by have := own_ge h.own e.symm; omega)).trans h.box, ho⟩
theorem CeSt.size {w : World} {c : Cv} {wr : World} {v : Value} {l : List UInt8} (h : CeSt w c wr v l) : w.heap.size + 1 ≤ wr.heap.size := (Array.getElem?_eq_some_iff.1 h.box).1
def NumB (w : World) (n k : Nat) (e : Ending) (w' : World) : Prop := ∃ v, e = .returned v ∧ OwnB w' w.heap.size v (laidB n k k) ∧ Below w.heap.size w w'
set_option maxRecDepth 100000 in
theorem num5_any (n k : Nat) (hn : n < 9223372036854775808) (h1 : 1 ≤ k) (h8 : k ≤ 8) (w : World) : Calls Try.prog 33 #[.int .i64 n, .int .i64 k] w fun e w' => NumB w n k e w' := by
  go_enter Try.func33, Try.ntmps33
  go_wp2_with fail
  refine (refNum_any n (by omega) k w).mono ?_
  rintro e w' (⟨h, -⟩ | ⟨-, -, g, rfl, hO, hb⟩)
  · omega
  · rw [Int.toNat_natCast] at hO ⊢
    have HX := Lib.hid (And.intro hO hb)
    clear hO hb
    go_wp2
    go_ret
    exact ⟨_, rfl, HX.out⟩
set_option maxRecDepth 100000 in
set_option maxHeartbeats 2000000 in
theorem cell5_any (leaf : Bool) (c : Cv) (hok : CellOk leaf c) (w : World) : Calls Try.prog 34 #[.bool leaf, cellv c] w fun e w' => ∃ v, e = .returned v ∧ OwnB w' w.heap.size v (handOf leaf c).1 ∧ Below w.heap.size w w' := by
  obtain ⟨hk48, -, htx, hpg, hsz⟩ := may_facts hok
  have hA : Below w.heap.size w (w.alloc (.cells #[.string c.key, .string c.text, .bool c.long, .int .i64 c.page, .int .i64 c.size] 36)) := (Below.refl _ _).alloc (Nat.le_refl _) _
  have hA2 : Below (w.alloc (.cells c.row 36)).heap.size (w.alloc (.cells c.row 36)) ((w.alloc (.cells c.row 36)).alloc (.cells #[.int .u8 c.key.size] 5)) := (Below.refl _ _).alloc (Nat.le_refl _) _
  have H0 : CeSt w c ((w.alloc (.cells c.row 36)).alloc (.cells #[.int .u8 c.key.size] 5)) (.slice (some ⟨w.heap.size + 1, 0, none⟩) 1 1) [UInt8.ofNat c.key.size] := by
    refine ⟨go_on hA hA2, go_row (heap_alloc_new w _) hA2, ?_⟩
    have := own_arr (w.alloc (.cells c.row 36)) [UInt8.ofNat c.key.size] (by simp)
    rw [show (byteVals [UInt8.ofNat c.key.size]).toArray = #[.int .u8 c.key.size] by simp [byteVals]; omega, World.size_alloc] at this
    exact this
  have H := Lib.hid H0
  have HOK := Lib.hid (And.intro hok (And.intro htx (And.intro hpg hsz)))
  clear hA hA2 H0 hok htx hpg hsz
  go_enter Try.func34, Try.ntmps34
  go_wp2_with (at_builtin; refine wpList_append_str rfl (.tmp 10) (.tmp 12) rfl (w.heap.size + 1) _ _ rfl H.out.own c.key rfl (by simp; omega) H.out.size ?_; intro v1 w1 hO1 hG1; have H1 := Lib.hid (H.out.app hG1.grown hO1); clear hO1 hG1; refine stop_here ?_)
  have hl1 : ([UInt8.ofNat c.key.size] ++ c.key.data.toList).length ≤ 100 := by rw [List.length_append, data_len]; simp; omega
  have HL1 := Lib.hid hl1
  clear hl1
  change wpList _ _ _ _ _ _
  cases leaf
  · obtain ⟨hp1, hp2⟩ := HOK.out.2.2.1 (.inl rfl)
    obtain ⟨pn, hpn⟩ : ∃ n : Nat, c.page = n := ⟨c.page.toNat, by omega⟩
    obtain ⟨x0, x1, x2, x3, x4⟩ := cell5 H1.out.box
    rw [hpn] at x3
    have hfin := hand_branch HOK.out.1
    rw [hpn, Int.toNat_natCast] at hfin
    have HFIN := Lib.hid hfin
    clear hfin
    go_wp2_with fail
    refine (num5_any pn 4 (by omega) (by omega) (by omega) w1).mono ?_
    rintro e w2 ⟨u2, rfl, hO2, hb2⟩
    have H2 := Lib.hid (And.intro (H1.out.go hb2) (H1.out.below))
    obtain ⟨a2, c2, rfl, m2, m3, -, m5, -⟩ := hO2.form
    have HO2 := Lib.hid (And.intro m2 (And.intro m3 m5))
    rw [laidB_len] at m3 ⊢
    clear hO2 hb2 m2 m3 m5 x0 x1 x2 x3 x4 hpn hp1 hp2
    go_wp2_with (at_builtin; refine wpList_append_bytes rfl (.tmp 35) (.tmp 38) rfl (w.heap.size + 1) w2.heap.size _ _ rfl H2.out.1.own a2 (laidB pn 4 4) c2 rfl HO2.out.2.2 HO2.out.2.1 HO2.out.1 (by rw [laidB_len]; have := HL1.out; omega) H2.out.1.size ?_; intro v3 w3 hO3 hG3; have H3 := Lib.hid (H2.out.1.app hG3 hO3); clear hO3 hG3)
    go_ret
    exact ⟨_, rfl, by rw [HFIN.out]; exact H3.out.own.mono (Nat.le_succ _), H3.out.below⟩
  · cases hlo : c.long
    · have htx := HOK.out.2.1 rfl hlo
      obtain ⟨x0, x1, x2, x3, x4⟩ := cell5 H1.out.box
      rw [hlo] at x2
      have HFIN := Lib.hid (hand_short HOK.out.1 hlo)
      have hA3 : Below w1.heap.size w1 (w1.alloc (.cells #[.int .u8 0, .int .u8 c.text.size] 5)) := (Below.refl _ _).alloc (Nat.le_refl _) _
      have hbt := some_bytes w1 [0, UInt8.ofNat c.text.size]
      rw [show (byteVals [0, UInt8.ofNat c.text.size]).toArray = #[.int .u8 0, .int .u8 c.text.size] by simp [byteVals]; omega] at hbt
      have H2 := Lib.hid (And.intro (H1.out.go hA3) hbt)
      clear hA3 hbt hlo
      go_wp2_with (at_builtin; refine wpList_append_bytes rfl (.tmp 20) (.tmp 25) rfl (w.heap.size + 1) (w1.heap.size + 1) _ _ rfl H2.out.1.own (some ⟨w1.heap.size, 0, none⟩) [0, UInt8.ofNat c.text.size] _ rfl (fun h => by cases h) (by simp) H2.out.2 (by have := HL1.out; simp at this ⊢; omega) H2.out.1.size ?_; intro v3 w3 hO3 hG3; have H3 := Lib.hid (H2.out.1.app hG3 hO3); clear hO3 hG3; refine stop_here ?_)
      change wpList _ _ _ _ _ _
      obtain ⟨y0, y1, y2, y3, y4⟩ := cell5 H3.out.box
      have hl3 : ([UInt8.ofNat c.key.size] ++ c.key.data.toList ++ [0, UInt8.ofNat c.text.size]).length ≤ 200 := by have := HL1.out; rw [List.length_append]; simp only [List.length_cons, List.length_nil]; omega
      have HL3 := Lib.hid hl3
      clear x0 x1 x2 x3 x4 hl3
      go_wp2_with (at_builtin; refine wpList_append_str rfl (.tmp 27) (.tmp 29) rfl (w.heap.size + 1) _ _ rfl H3.out.own c.text rfl (by have := HL3.out; omega) H3.out.size ?_; intro v4 w4 hO4 hG4; have H4 := Lib.hid (H3.out.app hG4.grown hO4); clear hO4 hG4; refine stop_here ?_)
      change wpList _ _ _ _ _ _
      go_wp2
      go_ret
      exact ⟨_, rfl, by rw [HFIN.out]; exact H4.out.own.mono (Nat.le_succ _), H4.out.below⟩
    · obtain ⟨hp1, hp2⟩ := HOK.out.2.2.1 (.inr hlo)
      obtain ⟨hs1, hs2⟩ := HOK.out.2.2.2 rfl hlo
      obtain ⟨pn, hpn⟩ : ∃ n : Nat, c.page = n := ⟨c.page.toNat, by omega⟩
      obtain ⟨sn, hsn⟩ : ∃ n : Nat, c.size = n := ⟨c.size.toNat, by omega⟩
      obtain ⟨x0, x1, x2, x3, x4⟩ := cell5 H1.out.box
      rw [hlo] at x2
      rw [hpn] at x3
      have hfin := hand_long HOK.out.1 hlo
      rw [hpn, hsn, Int.toNat_natCast, Int.toNat_natCast] at hfin
      have HFIN := Lib.hid hfin
      have HPS := Lib.hid (And.intro hpn (And.intro hsn (And.intro (show pn < 9223372036854775808 by omega) (show sn < 9223372036854775808 by omega))))
      have hA3 : Below w1.heap.size w1 (w1.alloc (.cells #[.int .u8 1] 5)) := (Below.refl _ _).alloc (Nat.le_refl _) _
      have hbt := some_bytes w1 [1]
      rw [show (byteVals [1]).toArray = #[.int .u8 1] by simp [byteVals]] at hbt
      have H2 := Lib.hid (And.intro (H1.out.go hA3) hbt)
      clear hA3 hbt hlo hfin hpn hsn hp1 hp2 hs1 hs2
      go_wp2_with (at_builtin; refine wpList_append_bytes rfl (.tmp 32) (.tmp 33) rfl (w.heap.size + 1) (w1.heap.size + 1) _ _ rfl H2.out.1.own (some ⟨w1.heap.size, 0, none⟩) [1] _ rfl (fun h => by cases h) (by simp) H2.out.2 (by have := HL1.out; simp at this ⊢; omega) H2.out.1.size ?_; intro v3 w3 hO3 hG3; have H3 := Lib.hid (H2.out.1.app hG3 hO3); clear hO3 hG3; refine stop_here ?_)
      change wpList _ _ _ _ _ _
      obtain ⟨y0, y1, y2, y3, y4⟩ := cell5 H3.out.box
      rw [HPS.out.1] at y3
      have hl3 : ([UInt8.ofNat c.key.size] ++ c.key.data.toList ++ [1]).length ≤ 200 := by have := HL1.out; rw [List.length_append]; simp only [List.length_cons, List.length_nil]; omega
      have HL3 := Lib.hid hl3
      clear x0 x1 x2 x3 x4 hl3
      go_wp2_with fail
      refine (num5_any pn 4 HPS.out.2.2.1 (by omega) (by omega) w3).mono ?_
      rintro e w4 ⟨u4, rfl, hO4, hb4⟩
      have H4 := Lib.hid (H3.out.go hb4)
      obtain ⟨a4, c4, rfl, m2, m3, -, m5, -⟩ := hO4.form
      have HO4 := Lib.hid (And.intro m2 (And.intro m3 m5))
      rw [laidB_len] at m3 ⊢
      clear hO4 hb4 m2 m3 m5 y0 y1 y2 y3 y4
      go_wp2_with (at_builtin; refine wpList_append_bytes rfl (.tmp 35) (.tmp 38) rfl (w.heap.size + 1) w4.heap.size _ _ rfl H4.out.own a4 (laidB pn 4 4) c4 rfl HO4.out.2.2 HO4.out.2.1 HO4.out.1 (by rw [laidB_len]; have := HL3.out; omega) H4.out.size ?_; intro v5 w5 hO5 hG5; have H5 := Lib.hid (H4.out.app hG5 hO5); clear hO5 hG5; refine stop_here ?_)
      change wpList _ _ _ _ _ _
      obtain ⟨y0, y1, y2, y3, y4⟩ := cell5 H5.out.box
      rw [HPS.out.2.1] at y4
      go_wp2_with fail
      refine (num5_any sn 4 HPS.out.2.2.2 (by omega) (by omega) w5).mono ?_
      rintro e w6 ⟨u6, rfl, hO6, hb6⟩
      have H6 := Lib.hid (H5.out.go hb6)
      obtain ⟨a6, c6, rfl, m2, m3, -, m5, -⟩ := hO6.form
      have HO6 := Lib.hid (And.intro m2 (And.intro m3 m5))
      rw [laidB_len] at m3 ⊢
      clear hO6 hb6 m2 m3 m5 y0 y1 y2 y3 y4
      go_wp2_with (at_builtin; refine wpList_append_bytes rfl (.tmp 41) (.tmp 44) rfl (w.heap.size + 1) w6.heap.size _ _ rfl H6.out.own a6 (laidB sn 4 4) c6 rfl HO6.out.2.2 HO6.out.2.1 HO6.out.1 (by rw [laidB_len, List.length_append, laidB_len]; have := HL3.out; omega) H6.out.size ?_; intro v7 w7 hO7 hG7; have H7 := Lib.hid (H6.out.app hG7 hO7); clear hO7 hG7; refine stop_here ?_)
      change wpList _ _ _ _ _ _
      go_wp2
      go_ret
      exact ⟨_, rfl, by rw [HFIN.out]; exact H7.out.own.mono (Nat.le_succ _), H7.out.below⟩
end Go.Proofs.Ytaceebgcaghocaa

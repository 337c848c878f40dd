/- Layer 13: what is known. -/
import Derived.Test.YtkabdalnkmbloaaDoorTopP
namespace Go.Proofs.YtkabdalnkmbloaaDoor
open Go.RowKit Go.Shelf

theorem okU_ascii {l : List UInt8} (h : ∀ b ∈ l, 0 < b.toNat ∧ b.toNat < 128) : okU l := by
  induction l with
  | nil => exact okU_nil
  | cons b r ih => exact okU_app (x := [b]) (okU_one b (h b (by simp)).1 (h b (by simp)).2) (ih fun c hc => h c (by simp [hc]))
theorem fitL_ascii {l : List UInt8} (h : (l ≠ [] ∧ l.length ≤ 200) ∧ ∀ b ∈ l, 0 < b.toNat ∧ b.toNat < 128) : fitL l = true := fitL_iff.2 ⟨h.1.1, h.1.2, okU_ascii h.2⟩
theorem filtL_c {l : List UInt8} (h : (l ≠ [] ∧ l.length ≤ 200) ∧ ∀ b ∈ l, 0 < b.toNat ∧ b.toNat < 128) (h2 : okF (lv l) = true) : filtL l = true := by unfold filtL; rw [fitL_ascii h, h2]; rfl
theorem filtL_no {l : List UInt8} (h2 : okF (lv l) = false) : filtL l = false := by unfold filtL; rw [h2, Bool.and_false]
theorem nameL_c {l : List UInt8} (h : (l ≠ [] ∧ l.length ≤ 200) ∧ ∀ b ∈ l, 0 < b.toNat ∧ b.toNat < 128) (h2 : hasS l = false) : nameL l = true := by unfold nameL; rw [fitL_ascii h, h2]; rfl
theorem fitL_nil : fitL [] = false := by
  cases h : fitL []
  · rfl
  · exact absurd rfl (fitL_iff.1 h).1
theorem nameL_nil : nameL [] = false := by unfold nameL; rw [fitL_nil]; rfl
set_option maxRecDepth 100000 in
theorem known_top (w : World) (ht : Tabs w) : Calls Tryd.prog 8 #[] w fun e w' => BPost w true e w' := by
  have h2 := ht.two
  have HT := Lib.hid ht
  have H1 := Lib.hid (fun W (hb : Below w.heap.size w W) => meets_any ⟨#[97, 47, 43, 47, 99]⟩ ⟨#[97, 47, 98, 47, 99]⟩ (by decide) (by decide) W (ht.below hb h2))
  have H2 := Lib.hid (fun W (hb : Below w.heap.size w W) => meets_any ⟨#[97, 47, 35]⟩ ⟨#[97]⟩ (by decide) (by decide) W (ht.below hb h2))
  have H3 := Lib.hid (fun W (hb : Below w.heap.size w W) => meets_any ⟨#[35]⟩ ⟨#[36, 120, 47, 121]⟩ (by decide) (by decide) W (ht.below hb h2))
  have H4 := Lib.hid (fun W (hb : Below w.heap.size w W) => meets_any ⟨#[97, 43]⟩ ⟨#[97]⟩ (by decide) (by decide) W (ht.below hb h2))
  have H5 := Lib.hid (fun W (hb : Below w.heap.size w W) => within_any ⟨#[35]⟩ ⟨#[43, 47, 35]⟩ (by decide) (by decide) W (ht.below hb h2))
  have H6 := Lib.hid (fun W (hb : Below w.heap.size w W) => filter_any ⟨#[97, 47, 35, 47, 98]⟩ (by decide) W (ht.below hb h2))
  have H7 := Lib.hid (fun W (hb : Below w.heap.size w W) => name_any ⟨#[]⟩ (by decide) W (ht.below hb h2))
  have v1 : (filtL [97, 47, 43, 47, 99] && nameL [97, 47, 98, 47, 99]) = true := by rw [filtL_c (by decide) (by decide), nameL_c (by decide) (by decide)]; rfl
  have v2 : (filtL [97, 47, 35] && nameL [97]) = true := by rw [filtL_c (by decide) (by decide), nameL_c (by decide) (by decide)]; rfl
  have v3 : (filtL [35] && nameL [36, 120, 47, 121]) = true := by rw [filtL_c (by decide) (by decide), nameL_c (by decide) (by decide)]; rfl
  have v4 : (filtL [97, 43] && nameL [97]) = false := by rw [filtL_no (by decide)]; rfl
  have v5 : (filtL [35] && filtL [43, 47, 35]) = true := by rw [filtL_c (by decide) (by decide), filtL_c (by decide) (by decide)]; rfl
  have v6 : filtL [97, 47, 35, 47, 98] = false := filtL_no (by decide)
  have c1 : covL [97, 47, 43, 47, 99] [97, 47, 98, 47, 99] = true := by decide
  have c2 : covL [97, 47, 35] [97] = true := by decide
  have c3 : covL [35] [36, 120, 47, 121] = false := by decide
  have c5 : covL [43, 47, 35] (spL [35]) = true := by decide
  simp only [MePost, BPost, v1, v2, v3, v4, v5, v6, c1, c2, c3, c5, nameL_nil, Bool.true_and, Bool.false_and, if_true, Bool.false_eq_true, if_false] at H1 H2 H3 H4 H5 H6 H7
  clear v1 v2 v3 v4 v5 v6 c1 c2 c3 c5 ht
  go_enter Tryd.func8, Tryd.ntmps8
  go_wp2_with fail
  refine (H1.out w (Below.refl _ w)).mono ?_
  rintro e w1 ⟨rfl, hb1⟩
  have HB1 := Lib.hid hb1
  clear hb1
  go_wp2_with fail
  refine (H2.out w1 HB1.out).mono ?_
  rintro e w2 ⟨rfl, hb2⟩
  have HB2 := Lib.hid (show Below w.heap.size w w2 from HB1.out.trans (hb2.mono HB1.out.size))
  clear hb2
  go_wp2_with fail
  refine (H3.out w2 HB2.out).mono ?_
  rintro e w3 ⟨rfl, hb3⟩
  have HB3 := Lib.hid (show Below w.heap.size w w3 from HB2.out.trans (hb3.mono HB2.out.size))
  clear hb3
  go_wp2_with fail
  refine (H4.out w3 HB3.out).mono ?_
  rintro e w4 ⟨rfl, hb4⟩
  have HB4 := Lib.hid (show Below w.heap.size w w4 from HB3.out.trans (hb4.mono HB3.out.size))
  clear hb4
  go_wp2_with fail
  refine (H5.out w4 HB4.out).mono ?_
  rintro e w5 ⟨rfl, hb5⟩
  have HB5 := Lib.hid (show Below w.heap.size w w5 from HB4.out.trans (hb5.mono HB4.out.size))
  clear hb5
  go_wp2_with fail
  refine (H6.out w5 HB5.out).mono ?_
  rintro e w6 ⟨rfl, hb6⟩
  have HB6 := Lib.hid (show Below w.heap.size w w6 from HB5.out.trans (hb6.mono HB5.out.size))
  clear hb6
  go_wp2_with fail
  refine (H7.out w6 HB6.out).mono ?_
  rintro e w7 ⟨rfl, hb7⟩
  have HB7 := Lib.hid (show Below w.heap.size w w7 from HB6.out.trans (hb7.mono HB6.out.size))
  clear hb7
  go_wp2
  go_ret
  exact ⟨rfl, HB7.out⟩
end Go.Proofs.YtkabdalnkmbloaaDoor

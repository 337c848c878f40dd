/- Layer 13: does a filter meet a name, by definition: of two texts. -/
import Derived.Test.YtgcfgheamaoceaaGreatDoorTopV
namespace Go.Proofs.YtgcfgheamaoceaaGreatDoor
open Go.RowKit Go.Shelf

theorem below_dr' {B : Nat} {a w : World} (h : Below B a w) (n : Nat) : Below B a (w.drewN n) := ⟨h.os, h.tape, h.output, h.size, h.block⟩
theorem sFst_byte {b : UInt8} {t : List UInt8} (h : okF (lv (b :: t)) = true) : sFst (lv (b :: t)) = (b == 43 || b == 35) := by
  by_cases h47 : b = 47
  · subst h47; rw [lv_slash]; rfl
  · obtain ⟨x, r, hx⟩ : ∃ x r, lv t = x :: r := by
      cases ht : lv t with
      | nil => exact absurd ht (lv_ne t)
      | cons x r => exact ⟨x, r, rfl⟩
    rw [lv_other h47 t hx] at h ⊢
    rw [okF, Bool.and_eq_true] at h
    have h1 := h.1
    show (b :: x == [43] || b :: x == [35]) = _
    by_cases e1 : b = 43
    · subst e1
      have : hasS (43 :: x) = true := by simp [hasS, sgn]
      rw [this] at h1
      have e2 : (43 :: x == [35]) = false := by simp
      rw [e2] at h1 ⊢
      simp only [Bool.not_true, Bool.false_or, Bool.false_and, Bool.or_false] at h1
      rw [h1]; rfl
    · by_cases e2 : b = 35
      · subst e2
        have : hasS (35 :: x) = true := by simp [hasS, sgn]
        rw [this] at h1
        have e2 : (35 :: x == [43]) = false := by simp
        rw [e2] at h1 ⊢
        simp only [Bool.not_true, Bool.false_or, Bool.and_eq_true] at h1
        rw [h1.1]; rfl
      · have g1 : (b == 43) = false := by simpa using e1
        have g2 : (b == 35) = false := by simpa using e2
        have g3 : (b :: x == [43]) = false := by
          cases h : (b :: x == [43])
          · rfl
          · exact absurd (List.cons.inj (eq_of_beq h)).1 e1
        have g4 : (b :: x == [35]) = false := by
          cases h : (b :: x == [35])
          · rfl
          · exact absurd (List.cons.inj (eq_of_beq h)).1 e2
        rw [g1, g2, g3, g4]
set_option maxRecDepth 100000 in
theorem rmeets_any (f n : ByteArray) (hf : f.size ≤ 1000) (hn : n.size ≤ 1000) (b d : UInt8) (t u : List UInt8) (hb : f.data.toList = b :: t) (hd : n.data.toList = d :: u) (hok : okF (lv (b :: t)) = true) (w : World) :
    Calls Tryz.prog 28 #[.string f, .string n] w fun e w' => BPost w (meetsL f.data.toList n.data.toList) e w' := by
  have hf0 : 0 < f.size := by rw [Lib.size_eq, hb]; simp
  have hn0 : 0 < n.size := by rw [Lib.size_eq, hd]; simp
  have hj1 := index_str f 0 0 rfl hf0
  have hj2 := index_str n 0 0 rfl hn0
  have hb1 : bt f.data.toList 0 = b.toNat := by rw [hb]; rfl
  have hb2 : bt n.data.toList 0 = d.toNat := by rw [hd]; rfl
  rw [hb1] at hj1
  rw [hb2] at hj2
  have hm : meetsL f.data.toList n.data.toList = (!(d == 36 && (b == 43 || b == 35)) && mt (lv f.data.toList) (lv n.data.toList)) := by
    unfold meetsL
    rw [hb, hd, sFst_byte hok]; rfl
  have HL1 := Lib.hid (fun W => rlevels_any f hf W)
  have HL2 := Lib.hid (fun W => rlevels_any n hn W)
  have hl1 := lv_len_le f.data.toList
  have hl2 := lv_len_le n.data.toList
  rw [← Lib.size_eq] at hl1 hl2
  have HLL := Lib.hid (And.intro hl1 (And.intro hl2 (And.intro hf hn)))
  have num : ∀ (x y : UInt8), ((x.toNat : Int) == (y.toNat : Int)) = (x == y) := fun x y => by
    rw [Bool.eq_iff_iff]; simp only [beq_iff_eq]
    constructor
    · intro h; exact UInt8.toNat_inj.1 (by omega)
    · rintro rfl; rfl
  have k1 : ((b.toNat : Int) == 43) = (b == 43) := num b 43
  have k2 : ((b.toNat : Int) == 35) = (b == 35) := num b 35
  have k3 : ((d.toNat : Int) == 36) = (d == 36) := num d 36
  generalize lv f.data.toList = F at *
  generalize lv n.data.toList = N at *
  rw [hm]
  clear hm hb hd hok hb1 hb2 hf0 hn0 num hl1 hl2 hf hn
  rcases Bool.eq_false_or_eq_true (d == 36 && (b == 43 || b == 35)) with hq | hq
  · have HQ := Lib.hid hq
    simp only [Bool.and_eq_true, Bool.or_eq_true] at hq
    obtain ⟨h3, h4⟩ := hq
    rw [h3] at k3
    rcases Bool.eq_false_or_eq_true (b == 43) with h5 | h5
    · rw [h5] at k1
      clear h3 h4 h5 k2
      go_enter Tryz.func28, Tryz.ntmps28
      go_wp2
      go_ret
      exact ⟨by rw [HQ.out]; rfl, Below.refl _ _⟩
    · have h6 : (b == 35) = true := by rw [h5] at h4; simpa using h4
      rw [h5] at k1
      rw [h6] at k2
      clear h3 h4 h5 h6
      go_enter Tryz.func28, Tryz.ntmps28
      go_wp2
      go_ret
      exact ⟨by rw [HQ.out]; rfl, Below.refl _ _⟩
  · have HQ := Lib.hid hq
    have hcase : (d == 36) = false ∨ (d == 36) = true ∧ (b == 43) = false ∧ (b == 35) = false := by
      cases h1 : d == 36 <;> cases h2 : b == 43 <;> cases h3 : b == 35 <;> rw [h1, h2, h3] at hq <;> simp at hq ⊢
    clear hq
    rcases hcase with h3 | ⟨h3, h5, h6⟩
    case' inl => rw [h3] at k3; clear h3 k1 k2
    case' inr => rw [h3] at k3; rw [h5] at k1; rw [h6] at k2; clear h3 h5 h6
    all_goals
      go_enter Tryz.func28, Tryz.ntmps28
      go_wp2_with fail
      refine (HL1.out w).mono ?_
      rintro e w1 ⟨v1, rfl, ho1, hb1⟩
      obtain ⟨a1, c1, rfl, htx1, hc1, -, -⟩ := TxAt.own ho1
      have HB1 := Lib.hid (And.intro hb1 (And.intro htx1 hc1))
      clear hb1 ho1 htx1 hc1
      go_wp2_with fail
      refine (HL2.out w1).mono ?_
      rintro e w2 ⟨v2, rfl, ho2, hb2⟩
      obtain ⟨a2, c2, rfl, htx2, hc2, -, -⟩ := TxAt.own ho2
      have HB2 := Lib.hid (And.intro hb2 (And.intro htx2 hc2))
      clear hb2 ho2 htx2 hc2
      go_wp2_with fail
      refine (mt_any F N _ _ _ _ w2 (by have := HLL.out; omega) (by have := HLL.out; omega) HB1.out.2.2 HB2.out.2.2 (HB1.out.2.1.below HB2.out.1) HB2.out.2.1).mono ?_
      rintro e w3 ⟨rfl, m, rfl⟩
      go_wp2
      go_ret
      exact ⟨by rw [HQ.out]; rfl, below_dr' (HB1.out.1.trans (HB2.out.1.mono HB1.out.1.size)) m⟩
end Go.Proofs.YtgcfgheamaoceaaGreatDoor

/- Layer 5: the document's All. -/
import Derived.Test.YtaceebgcaghocaaSlCe
namespace Go.Proofs.Ytaceebgcaghocaa
open Go.RowKit

theorem cell_len5 {leaf : Bool} {c : Cv} (h : CellOk leaf c) : 1 ≤ (handOf leaf c).1.length ∧ (handOf leaf c).1.length ≤ 111 := by
  have h2 := h.2
  unfold handOf at h2 ⊢
  cases leaf
  · simp only [Bool.false_eq_true, if_false] at h2 ⊢
    unfold branchHand hNum hText at h2 ⊢
    split at h2
    · rename_i a1
      split at h2
      · rename_i a2
        rw [if_pos a1, if_pos a2]
        simp only [List.length_append, laidB_len, data_len, List.nil_append]
        omega
      · cases h2
    · split at h2 <;> cases h2
  · simp only [if_true] at h2 ⊢
    unfold leafHand at h2 ⊢
    split at h2
    · rename_i a0
      rw [if_pos a0]
      unfold hNum hTruth hText at h2 ⊢
      by_cases b1 : (1 : Int) ≤ c.key.size ∧ (c.key.size : Int) ≤ 48
      · by_cases b2 : (1 : Int) ≤ c.page ∧ c.page ≤ 4095
        · by_cases b3 : (61 : Int) ≤ c.size ∧ c.size ≤ 4096
          · simp only [b1, b2, b3, and_self, if_true, List.length_append, laidB_len, data_len, List.length_nil, List.length_cons]
            omega
          · simp [b1, b2, b3] at h2
        · simp only [b1, b2, and_self, if_true, if_false] at h2
          split at h2 <;> cases h2
      · simp only [b1, if_false] at h2
        split at h2
        · split at h2 <;> cases h2
        · split at h2 <;> cases h2
    · rename_i a0
      rw [if_neg a0]
      unfold hTruth hText at h2 ⊢
      by_cases b1 : (1 : Int) ≤ c.key.size ∧ (c.key.size : Int) ≤ 48
      · by_cases b2 : (0 : Int) ≤ c.text.size ∧ (c.text.size : Int) ≤ 60
        · simp only [b1, b2, and_self, if_true, List.length_append, laidB_len, data_len, List.length_nil, List.length_cons]
          omega
        · simp only [b1, b2, and_self, if_true, if_false] at h2
          cases h2
      · simp only [b1, if_false] at h2
        split at h2 <;> cases h2
theorem Goes.apart {w w' : World} {v v' : Value} {base : Nat} {u : Value} {l : List UInt8} (h : Goes w w' v v') (hu : OwnB w base u l) (hs : ∀ g, v.ownBlock = some g → u.ownBlock ≠ some g) : OwnB w' base u l ∧ ∀ g, v'.ownBlock = some g → u.ownBlock ≠ some g := by
  refine ⟨World.ownsRow.kept hu h.grown ?_, fun g hg hg2 => ?_⟩
  · cases hx : u.ownBlock with
    | none => exact .inl rfl
    | some g => exact .inr fun e => hs g e.symm hx
  · rcases h.near with e | ⟨q, e, hq⟩
    · exact hs g (e ▸ hg) hg2
    · rw [e] at hg
      cases hg
      obtain ⟨cs, hh⟩ := own_block hu g hg2
      have := (Array.getElem?_eq_some_iff.1 hh).1
      omega
theorem some_of {w : World} {n : Nat} {a : Option Addr} {l : List UInt8} (h : BytesAt n w a l) (hl : l ≠ []) : ∃ ad, a = some ad := by
  obtain ⟨b, off, rfl, -⟩ := h hl; exact ⟨_, rfl⟩
set_option maxRecDepth 100000 in
set_option maxHeartbeats 2000000 in
theorem all5_any (k : Int) (L : List Cv) (hr : RightC k L) (hcap : L.length ≤ 1000) (a : Option Addr) (cap : Nat) (w : World) (hm : CellsAt w.heap.size w a L) :
    Calls Try.prog 17 #[.int .i64 k, .slice a L.length cap] w fun e w' => ∃ v, e = .returned v ∧ OwnB w' w.heap.size v (rawB (bytesOf (k == 2) L)) ∧ Below w.heap.size w w' := by
  have HM := Lib.hid hm
  have HR := Lib.hid hr
  have hkk : (k == 2) = true ∨ (k == 2) = false := by cases k == 2 <;> simp
  obtain ⟨lf, hlf⟩ : ∃ lf, (k == 2) = lf := ⟨_, rfl⟩
  obtain ⟨ls, hls⟩ : ∃ ls, bytesOf (k == 2) L = ls := ⟨_, rfl⟩
  have hlen : ls.length = L.length := by rw [← hls, bytesOf_len]
  have hle9 : ∀ l ∈ ls, l.length ≤ 900 := by rw [← hls]; exact bytesOf_le _ _
  have hfl9 := takenN_le ls hle9
  have hflat := takenN_flat ls
  rw [hls]
  rw [hlf] at hls
  have HLS := Lib.hid (And.intro hls (And.intro hlen (And.intro hle9 (show ls.flatten.length ≤ 1000000 by omega))))
  clear hm hr hls hlen hle9 hfl9 hflat hkk
  go_enter Try.func17, Try.ntmps17
  go_wp2_with fail
  refine (num5_any L.length 2 (by omega) (by omega) (by omega) w).mono ?_
  rintro e w1 ⟨v1, rfl, hO1, hb1⟩
  obtain ⟨a1, c1, rfl, -⟩ := hO1.form
  have H1 := Lib.hid (And.intro hO1 hb1)
  rw [laidB_len]
  clear hO1 hb1
  go_wp2
  go_loopw [5, 7, 8, 9, 17, 18, 19, 20, 21, 22, 23, 24, 25, 26, 27, 28, 29, 30, 31, 32, 33, 34, 35, 36, 37, 38, 39] (fun bv cv y _ _ _ _ _ _ _ _ _ _ _ _ _ _ _ _ _ _ _ _ _ _ _ _ wr => Below w.heap.size w wr ∧ OwnB wr w.heap.size bv (laidB L.length 2 2 ++ headsUpto ls (intOf y).toNat) ∧ OwnB wr w.heap.size cv (ls.take (intOf y).toNat).flatten ∧ (∀ g, bv.ownBlock = some g → cv.ownBlock ≠ some g) ∧ ∃ i : Nat, y = .int .i64 i ∧ i ≤ L.length) (fun _ _ y _ _ _ _ _ _ _ _ _ _ _ _ _ _ _ _ _ _ _ _ _ _ _ _ _ => L.length - (intOf y).toNat)
  case atStart => exact ⟨H1.out.2, by have := H1.out.1; rw [laidB_len] at this; simpa [headsUpto, intOf] using this, by simpa [intOf] using OwnB.nil _ _, (fun g _ e => by cases e), 0, rfl, Nat.zero_le _⟩
  case round =>
    obtain ⟨hb, hO, hC, hsep, i, rfl, hi⟩ := hrel
    simp only [intOf, Int.toNat_natCast] at hO hC
    by_cases hlt : i < L.length
    · have hiL : (i : Int) < (L.length : Int) := by omega
      obtain ⟨b, off, rfl, hbs, hcs⟩ := (HM.out.below hb) (by rintro rfl; simp at hlt)
      have hci := hcs i hlt
      obtain ⟨c, hcd⟩ : ∃ c, L.getD i default = c := ⟨_, rfl⟩
      rw [hcd] at hci
      have hok := (HR.out.2.2 i hlt).1
      rw [hcd, hlf] at hok
      obtain ⟨k0, k1, k2, k3, k4⟩ := hci
      have hget : ls.getD i [] = (handOf lf c).1 := by rw [← HLS.out.1, ← hcd]; simp [bytesOf, List.getD, hlt]
      have hft := flat_succ (ls := ls) (k := i) (by rw [HLS.out.2.1]; exact hlt)
      rw [hget] at hft
      have hhs := headsUpto_succ ls i
      rw [HLS.out.2.1] at hhs
      have hfl := take_flat_le ls i
      obtain ⟨a7, c7, e7, -⟩ := hC.form
      obtain ⟨m, hmm⟩ : ∃ m, (ls.take i).flatten.length = m := ⟨_, rfl⟩
      rw [hmm] at e7 hhs hfl
      have hxl := cell_len5 hok
      have HCE := Lib.hid (fun w => cell5_any lf c hok w)
      obtain ⟨x, hx⟩ : ∃ x, (handOf lf c).1 = x := ⟨_, rfl⟩
      rw [hx] at hxl HCE hft
      obtain ⟨q, hq⟩ : ∃ q, 2 + 2 * L.length + m = q := ⟨_, rfl⟩
      rw [hq] at hhs
      have hqb : q ≤ 2000000 := by have := HLS.out.2.2.2; omega
      subst e7
      have hlb : (laidB L.length 2 2 ++ headsUpto ls i).length ≤ 5000 := by rw [List.length_append, laidB_len, headsUpto_len]; omega
      have hmb : m ≤ 1000000 := Nat.le_trans hfl HLS.out.2.2.2
      have hOlt : ∀ g, u5.ownBlock = some g → g < wr.heap.size := fun g hg => by
        obtain ⟨cs, hh⟩ := own_block hO g hg
        exact (Array.getElem?_eq_some_iff.1 hh).1
      have HX := Lib.hid (And.intro hb (And.intro hO (And.intro hC (And.intro hsep (And.intro hft (And.intro hhs hlt))))))
      have HL2 := Lib.hid (And.intro hlb (And.intro hmm (And.intro hOlt (And.intro hxl hmb))))
      clear hb hO hC hsep hft hhs hfl hcs hcd hget hok hx hmm hlb hOlt hxl
      go_wp2_with fail
      refine (HCE.out wr).mono ?_
      rintro e w2 ⟨v2, rfl, hO2, hb2⟩
      obtain ⟨a2, c2, e2, m2, m3, -, m5, -⟩ := hO2.form
      obtain ⟨xl, hxl⟩ : ∃ n, x.length = n := ⟨_, rfl⟩
      rw [hxl] at e2 m3
      obtain ⟨ad2, rfl⟩ := some_of m2 (by rintro rfl; have := HL2.out.2.2.2.1.1; simp at this)
      subst e2
      have H2 := Lib.hid (And.intro hO2 (And.intro hb2 hxl))
      clear hO2 hb2 m2 m3 m5 k0 k1 k2 k3 k4 hxl
      go_wp2_with fail
      rw [show (2 + 2 * (L.length : Int) + (m : Int)) = ((q : Nat) : Int) by omega]
      refine (num5_any q 2 (by omega) (by omega) (by omega) w2).mono ?_
      rintro e w3 ⟨v3, rfl, hO3, hb3⟩
      obtain ⟨a3, c3, rfl, p2, p3, -, p5, -⟩ := hO3.form
      obtain ⟨ad3, rfl⟩ := some_of p2 (by intro e; have := congrArg List.length e; rw [laidB_len] at this; simp at this)
      have hb23 := H2.out.2.1.trans (hb3.mono H2.out.2.1.size)
      have hO3b := HX.out.2.1.below hb23
      have hC3b := HX.out.2.2.1.below hb23
      have hX3 := H2.out.1.below hb3
      have hb03 := go_on HX.out.1 hb23
      have H3 := Lib.hid (And.intro hO3b (And.intro hC3b (And.intro hX3 (And.intro hb03 (And.intro p2 hb23.size)))))
      rw [laidB_len]
      clear hO3 hb3 p2 p3 p5 hb23 hO3b hC3b hX3 hb03
      go_wp2_with (at_builtin; refine wpList_append_goes rfl (.tmp 30) (.tmp 35) rfl w.heap.size w3.heap.size _ _ rfl H3.out.1 ad3 (laidB q 2 2) c3 rfl H3.out.2.2.2.2.1 (by rw [laidB_len]; have := HL2.out.1; omega) H3.out.2.2.2.1.size ?_; intro v4 w4 hO4 hG4 _; have H4 := Lib.hid (And.intro hO4 hG4); clear hO4 hG4; refine stop_here ?_)
      change wpList _ _ _ _ _ _
      obtain ⟨hC4, hsep4⟩ := H4.out.2.apart H3.out.2.1 HX.out.2.2.2.1
      have hX4 := H3.out.2.2.1.kept H4.out.2.grown (fun g hg => HL2.out.2.2.1 g hg)
      have hb4 := H3.out.2.2.2.1.grown H4.out.2.grown H3.out.2.2.2.1.size (fun k e => own_ge H3.out.1 e)
      obtain ⟨a4, c4, e4, q2, -⟩ := hX4.form
      rw [H2.out.2.2] at e4
      cases e4
      have H5 := Lib.hid (And.intro hC4 (And.intro hsep4 (And.intro hb4 q2)))
      clear hC4 hsep4 hX4 hb4 q2
      go_wp2_with (at_builtin; refine wpList_append_goes rfl (.tmp 37) (.tmp 38) rfl w.heap.size w4.heap.size _ _ rfl H5.out.1 ad2 x c2 (by rw [H2.out.2.2]; rfl) H5.out.2.2.2 (by have := HL2.out.2.1; have := HL2.out.2.2.2.1.2; omega) H5.out.2.2.1.size ?_; intro v6 w6 hO6 hG6 _; have H6 := Lib.hid (And.intro hO6 hG6); clear hO6 hG6; refine stop_here ?_)
      change wpList _ _ _ _ _ _
      obtain ⟨hO7, hsep7⟩ := H6.out.2.apart H4.out.1 (fun g e1 e2 => H5.out.2.1 g e2 e1)
      have hb7 := H5.out.2.2.1.grown H6.out.2.grown H5.out.2.2.1.size (fun k e => own_ge H5.out.1 e)
      have hO8 : OwnB w6 w.heap.size v4 (laidB L.length 2 2 ++ headsUpto ls (i + 1)) := by rw [HX.out.2.2.2.2.2.1, ← List.append_assoc]; exact hO7
      have hC8 : OwnB w6 w.heap.size v6 (ls.take (i + 1)).flatten := by rw [HX.out.2.2.2.2.1]; exact H6.out.1
      have H8 := Lib.hid (And.intro hb7 (And.intro hO8 (And.intro hC8 (fun g e1 e2 => hsep7 g e2 e1))))
      clear hO7 hsep7 hb7 hO8 hC8
      go_wp2
      have hto : (((i : Int) + 1)).toNat = i + 1 := by omega
      refine ⟨⟨H8.out.1, ?_, ?_, H8.out.2.2.2, i + 1, by go_num, HX.out.2.2.2.2.2.2⟩, by have := HX.out.2.2.2.2.2.2; simp only [intOf]; omega⟩
      · simp only [intOf, hto]; exact H8.out.2.1
      · simp only [intOf, hto]; exact H8.out.2.2.1
    · obtain rfl : i = L.length := by omega
      have hkL : ¬ ((L.length : Int) < (L.length : Int)) := by omega
      rw [List.take_of_length_le (by rw [HLS.out.2.1]; exact Nat.le_refl _)] at hC
      obtain ⟨a8, c8, rfl, m2, m3, -, m5, -⟩ := hC.form
      obtain ⟨fl, hfl⟩ : ∃ n, ls.flatten.length = n := ⟨_, rfl⟩
      have HX := Lib.hid (And.intro hb (And.intro hO (And.intro m2 (And.intro m3 (And.intro m5 hfl)))))
      rw [hfl]
      clear hb hO hC hsep m2 m3 m5 hfl
      go_wp2_with (at_builtin; refine wpList_append_bytes rfl (.tmp 40) (.tmp 41) rfl w.heap.size wr.heap.size _ _ rfl HX.out.2.1 a8 ls.flatten c8 (by rw [HX.out.2.2.2.2.2]; rfl) HX.out.2.2.2.2.1 HX.out.2.2.2.1 HX.out.2.2.1 (by rw [List.length_append, laidB_len, headsUpto_len]; have := HLS.out.2.2.2; omega) HX.out.1.size ?_; intro v3 w3 hO3 hG3; have H3 := Lib.hid (And.intro hO3 (HX.out.1.grown hG3 HX.out.1.size (fun k e => own_ge HX.out.2.1 e))); clear hO3 hG3; refine stop_here ?_)
      change wpList _ _ _ _ _ _
      go_wp2
      go_ret
      refine ⟨_, rfl, ?_, H3.out.2⟩
      have := H3.out.1
      unfold rawB
      rw [HLS.out.2.1]
      exact this
end Go.Proofs.Ytaceebgcaghocaa

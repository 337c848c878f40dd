/- Layer 5: SlotsSizes: cells have as many bytes as each one alone has, but for how many there are; a cell takes at most 113 bytes. -/
import Derived.Test.YtaclbloconlhnaaSlX
namespace Go.Proofs.Ytaclbloconlhnaa
open Go.RowKit

theorem cell_len {leaf : Bool} {c : Cv} (h : CellOk leaf c) : 1 ≤ (handOf leaf c).1.length ∧ (handOf leaf c).1.length ≤ 111 := by
  have h2 := h.2
  unfold handOf at h2 ⊢
  cases leaf
  · simp only [Bool.false_eq_true, if_false] at h2 ⊢
    unfold branchHand hNum hText at h2 ⊢
    split at h2
    · rename_i a1
      split at h2
      · rename_i a2
        rw [if_pos a1, if_pos a2]
        simp only [List.length_append, laidB_len, data_len, List.nil_append]
        omega
      · cases h2
    · split at h2 <;> cases h2
  · simp only [if_true] at h2 ⊢
    unfold leafHand at h2 ⊢
    split at h2
    · rename_i a0
      rw [if_pos a0]
      unfold hNum hTruth hText at h2 ⊢
      by_cases b1 : (1 : Int) ≤ c.key.size ∧ (c.key.size : Int) ≤ 48
      · by_cases b2 : (1 : Int) ≤ c.page ∧ c.page ≤ 4095
        · by_cases b3 : (61 : Int) ≤ c.size ∧ c.size ≤ 4096
          · simp only [b1, b2, b3, and_self, if_true, List.length_append, laidB_len, data_len, List.length_nil, List.length_cons]
            omega
          · simp [b1, b2, b3] at h2
        · simp only [b1, b2, and_self, if_true, if_false] at h2
          split at h2 <;> cases h2
      · simp only [b1, if_false] at h2
        split at h2
        · split at h2 <;> cases h2
        · split at h2 <;> cases h2
    · rename_i a0
      rw [if_neg a0]
      unfold hTruth hText at h2 ⊢
      by_cases b1 : (1 : Int) ≤ c.key.size ∧ (c.key.size : Int) ≤ 48
      · by_cases b2 : (0 : Int) ≤ c.text.size ∧ (c.text.size : Int) ≤ 60
        · simp only [b1, b2, and_self, if_true, List.length_append, laidB_len, data_len, List.length_nil, List.length_cons]
          omega
        · simp only [b1, b2, and_self, if_true, if_false] at h2
          cases h2
      · simp only [b1, if_false] at h2
        split at h2 <;> cases h2
theorem right_sub {k : Int} {L : List Cv} (h : RightC k L) (i : Nat) (hi : i < L.length) : RightC k [L.getD i default] :=
  ⟨h.1, fun _ => by simp, fun j hj => by
    obtain rfl : j = 0 := by simpa using hj
    exact ⟨(h.2.2 i hi).1, fun h => absurd h (by omega)⟩⟩
def sumN (leaf : Bool) (L : List Cv) (i : Nat) : Nat := 2 + takenN ((bytesOf leaf L).take i)
theorem sumN_succ (leaf : Bool) (L : List Cv) (i : Nat) (h : i < L.length) : sumN leaf L (i + 1) = sumN leaf L i + (2 + (handOf leaf (L.getD i default)).1.length) := by
  unfold sumN
  rw [takenN_snoc _ _ (by rw [bytesOf_len]; exact h)]
  have : (bytesOf leaf L).getD i [] = (handOf leaf (L.getD i default)).1 := by simp [bytesOf, List.getD, h]
  rw [this]; omega
theorem cells_sub {n₁ : Nat} {w : World} {b off : Nat} {L : List Cv} (h : ∀ j, j < L.length → CellAt w b (off + j * 5) (L.getD j default)) (hb : b < n₁) (i : Nat) (hi : i < L.length) : CellsAt n₁ w (some ⟨b, off + i * 5, none⟩) [L.getD i default] := fun _ =>
  ⟨b, off + i * 5, rfl, hb, fun j hj => by
    obtain rfl : j = 0 := by simpa using hj
    exact h i hi⟩
set_option maxRecDepth 100000 in
set_option maxHeartbeats 2000000 in
theorem slotsSizes_any (k : Int) (hw : (Lit.int .i64 k).wf = true) (a : Option Addr) (L : List Cv) (cap : Nat) (hle : L.length ≤ cap) (hcm : cap ≤ maxLen) (W : World) (hm : CellsAt W.heap.size W a L) (hs : Sized L) :
    Calls Try.prog 8 #[.int .i64 k, .slice a L.length cap] W fun e W' => e = .returned (.bool true) ∧ Below W.heap.size W W' := by
  have HM := Lib.hid (And.intro hm (And.intro hs (And.intro hle hcm)))
  have hcm2 : cap ≤ 9223372036854775807 := by unfold maxLen at hcm; omega
  have HF := Lib.hid (few_any a L cap (by omega) W hm hs)
  clear hm hs hcm
  go_enter Try.func8, Try.ntmps8
  go_wp2_with fail
  refine HF.out.mono ?_
  rintro e w ⟨bf, rfl, rfl, hfew⟩
  cases bf
  · clear hfew HF
    go_wp2_with fail
    refine (known_any _).mono ?_
    rintro e w' ⟨rfl, hb⟩
    go_wp2
    go_ret
    exact ⟨rfl, hb⟩
  have hf := hfew rfl
  have h60 := hf.1
  have HFW := Lib.hid hf
  clear hfew hf HF
  go_wp2_with fail
  refine (right_any k _ a L cap (by omega) HM.out.1 HM.out.2.1).mono ?_
  rintro e w1 ⟨hb1, ⟨hr, rfl⟩ | ⟨hr, rfl⟩⟩
  case inr =>
    have H1 := Lib.hid hb1
    clear hb1 hr
    go_wp2_with fail
    refine (known_any _).mono ?_
    rintro e w' ⟨rfl, hb⟩
    go_wp2
    go_ret
    exact ⟨rfl, go_on H1.out hb⟩
  have HR := Lib.hid (And.intro hr hb1)
  clear hr hb1
  go_wp2
  go_loopw [5, 6, 7, 8, 21, 22, 23, 24, 25, 26, 27, 28, 29, 30, 31, 32, 33, 34, 35, 36, 37, 38, 39, 40, 41, 42, 43, 44, 45, 46, 47, 48, 49, 50, 51] (fun s y _ _ _ _ _ _ _ _ _ _ _ _ _ _ _ _ _ _ _ _ _ _ _ _ _ _ _ _ _ _ _ _ _ wr => Below W.heap.size W wr ∧ ∃ i : Nat, y = .int .i64 i ∧ i ≤ L.length ∧ s = .int .i64 (sumN (k == 2) L i : Nat)) (fun _ y _ _ _ _ _ _ _ _ _ _ _ _ _ _ _ _ _ _ _ _ _ _ _ _ _ _ _ _ _ _ _ _ _ _ => L.length - (intOf y).toNat)
  case atStart => exact ⟨HR.out.2, 0, rfl, Nat.zero_le _, rfl⟩
  case round =>
    obtain ⟨hb, i, rfl, hi, rfl⟩ := hrel
    have hsb : sumN (k == 2) L i ≤ 60000 := by
      unfold sumN
      have h1 := takenN_le ((bytesOf (k == 2) L).take i) (fun l hl => bytesOf_le _ _ l (List.mem_of_mem_take hl))
      rw [List.length_take, bytesOf_len] at h1
      omega
    by_cases hlt : i < L.length
    · have hiL : (i : Int) < (L.length : Int) := by omega
      obtain ⟨b, off, rfl, hbs, hcs⟩ := (HM.out.1.below hb) (by rintro rfl; simp at hlt)
      obtain ⟨hl1, hl2⟩ := cell_len (HR.out.1.2.2 i hlt).1
      have hsu := sumN_succ (k == 2) L i hlt
      obtain ⟨c, hcd⟩ : ∃ c, L.getD i default = c := ⟨_, rfl⟩
      have hsub := cells_sub hcs hbs i hlt
      have hrs := right_sub HR.out.1 i hlt
      rw [hcd] at hl1 hl2 hsu hsub hrs
      obtain ⟨n, hn⟩ : ∃ n, (handOf (k == 2) c).1.length = n := ⟨_, rfl⟩
      rw [hn] at hl1 hl2 hsu
      have htk : takenN (bytesOf (k == 2) [c]) = 2 + n := by rw [← hn]; simp [takenN, bytesOf]
      obtain ⟨s, hsv⟩ : ∃ s, sumN (k == 2) L i = s := ⟨_, rfl⟩
      rw [hsv] at hsu hsb ⊢
      have HSZ := Lib.hid (sizeC_any k hw wr (some ⟨b, off + i * 5, none⟩) [c] (cap - i) (by simp) ((hsub.mono hb.size)))
      have HX := Lib.hid (And.intro hb (And.intro hsu (And.intro hlt (And.intro htk hrs))))
      clear hb hcs hsu hsub hrs hcd hn htk hsv hlt
      go_wp2_with fail
      refine HSZ.out.mono ?_
      rintro e w3 ⟨hb3, ⟨-, rfl⟩ | ⟨hn, -⟩⟩
      case inr => exact absurd HX.out.2.2.2.2 hn
      rw [HX.out.2.2.2.1, show 2 + (2 + n) = n + 4 by omega]
      have H3 := Lib.hid (go_on HX.out.1 hb3)
      clear hb3
      have hd1 : ¬ (((n + 4 : Nat) : Int) < 3) := by omega
      have hd2 : decide (((n + 4 : Nat) : Int) < 3) = false := decide_eq_false hd1
      have hd3 : ¬ ((113 : Int) < ((n + 4 : Nat) : Int) - 2) := by omega
      go_wp2
      refine ⟨⟨H3.out, i + 1, by go_num, HX.out.2.2.1, ?_⟩, by have := HX.out.2.2.1; simp only [intOf]; omega⟩
      rw [HX.out.2.1]
      go_num
    · obtain rfl : i = L.length := by omega
      have hkL : ¬ ((L.length : Int) < (L.length : Int)) := by omega
      obtain ⟨s, hsv⟩ : ∃ s, sumN (k == 2) L L.length = s := ⟨_, rfl⟩
      have hst : 2 + takenN (bytesOf (k == 2) L) = s := by
        rw [← hsv]; unfold sumN
        rw [List.take_of_length_le (by rw [bytesOf_len]; exact Nat.le_refl _)]
      rw [hsv] at hsb ⊢
      have HSZ := Lib.hid (sizeC_any k hw wr a L cap (by omega) ((HM.out.1.below hb).mono hb.size))
      have HX := Lib.hid (And.intro hb hst)
      clear hb hst hsv
      go_wp2_with fail
      refine HSZ.out.mono ?_
      rintro e w3 ⟨hb3, ⟨-, rfl⟩ | ⟨hn, -⟩⟩
      case inr => exact absurd HR.out.1 hn
      rw [HX.out.2]
      have H3 := Lib.hid (go_on HX.out.1 hb3)
      clear hb3
      go_wp2_with fail
      refine (known_any _).mono ?_
      rintro e w' ⟨rfl, hb⟩
      go_wp2
      go_ret
      exact ⟨rfl, go_on H3.out hb⟩
end Go.Proofs.Ytaclbloconlhnaa

/- Layer 13: has a text a sign; does it fit. -/
import Derived.Test.YtgcfgheamaoceaaGreatDoorTopE
import Derived.Test.YtgcfgheamaoceaaGreatDoorUtfE
namespace Go.Proofs.YtgcfgheamaoceaaGreatDoor
open Go.RowKit

theorem iany_any (s : ByteArray) (hs : s.size ≤ 1000000) (w : World) : Calls Tryz.prog 114 #[.string s, .string both] w fun e w' => SgnPost w s.data.toList e w' := by
  by_cases h8 : s.size ≤ 8
  · exact iany_short s h8 w
  · refine (strings_IndexAny_long (fun w => by kernel_rfl) s both w (by decide) (by omega) (by omega) (by decide) (fun j b h => ?_)).mono ?_
    · have : b ∈ both.data.toList := List.mem_of_getElem? h
      simp [both] at this
      rcases this with rfl | rfl <;> decide
    · rintro e w' ⟨rfl, rfl⟩
      exact ⟨⟨_, rfl, indexAny_sgn _⟩, ((Below.refl _ w).alloc (Nat.le_refl _) _).alloc (by simp) _⟩
/-- What a call leaves that tells a truth. -/
def BPost (w : World) (b : Bool) (e : Ending) (w' : World) : Prop := e = .returned (.bool b) ∧ Below w.heap.size w w'
set_option maxRecDepth 100000 in
theorem contains_any (s : ByteArray) (hs : s.size ≤ 1000000) (w : World) : Calls Tryz.prog 92 #[.string s, .string both] w fun e w' => BPost w (hasS s.data.toList) e w' := by
  have H := Lib.hid (iany_any s hs w)
  have H0 := Lib.hid (Eq.refl (hasS s.data.toList))
  go_enter Tryz.func92, Tryz.ntmps92
  go_wp2_with (go_at_call 114; refine H.out.mono ?_; rintro e w' ⟨⟨z, rfl, hz⟩, hb⟩; have HZ := Lib.hid (And.intro hz hb); clear hz hb)
  go_ret
  refine ⟨?_, HZ.out.2⟩
  first
    | rfl
    | (show Ending.returned (Value.bool (decide (0 ≤ z))) = _; rw [HZ.out.1])
theorem rd_any (s : ByteArray) : ∃ rs, Rd s rs := reads_some _
theorem chk_fit {s : ByteArray} {rs : List Nat} (h : Rd s rs) (hs : s.size ≤ 1000) : (chkZ s.data.toList rs = 0 ∧ okU s.data.toList) ∨ (chkZ s.data.toList rs = 220 ∧ ¬ okU s.data.toList) := by
  have h1 : Reads s.data.toList rs := by
    have h2 : s.data.toList.take 65535 = s.data.toList := List.take_of_length_le (by rw [← Lib.size_eq]; omega)
    have := h
    unfold Rd at this
    rwa [h2] at this
  have h3 := okU_of h1
  unfold chkZ
  by_cases hl : (textR rs).length < s.data.toList.length
  · exact .inr ⟨by rw [if_pos hl], fun h => h3.1 h hl⟩
  · exact .inl ⟨by rw [if_neg hl], h3.2 hl⟩
set_option maxRecDepth 100000 in
theorem fits_any (s : ByteArray) (hs : s.size ≤ 1000) (w : World) (ht : Tabs w) : Calls Tryz.prog 91 #[.string s] w fun e w' => BPost w (fitL s.data.toList) e w' := by
  by_cases h0 : s.size = 0
  · obtain rfl : s = ⟨#[]⟩ := ByteArray.ext (Array.eq_empty_of_size_eq_zero h0)
    have hf : fitL (⟨#[]⟩ : ByteArray).data.toList = false := by unfold fitL; simp
    rw [hf]
    go_enter Tryz.func91, Tryz.ntmps91
    go_wp2
    go_ret
    exact ⟨rfl, Below.refl _ _⟩
  · have he : s.toList.isEmpty = false := by
      rw [ByteArray.toList_eq]
      cases hl : s.data.toList with
      | nil => have h1 := Lib.size_eq s; rw [hl, List.length_nil] at h1; omega
      | cons => rfl
    have hne : s.data.toList ≠ [] := fun e => by rw [Lib.size_eq, e] at h0; exact h0 rfl
    by_cases h2 : s.size ≤ 200
    · obtain ⟨rs, hrd⟩ := rd_any s
      have HC := Lib.hid (check_any s rs hrd (by unfold maxLen; omega) w ht)
      rcases chk_fit hrd hs with ⟨hz, hu⟩ | ⟨hz, hu⟩
      · rw [hz] at HC
        have hf : fitL s.data.toList = true := fitL_iff.2 ⟨hne, by rw [← Lib.size_eq]; exact h2, hu⟩
        rw [hf]
        clear hrd hz hu hf hne
        go_enter Tryz.func91, Tryz.ntmps91
        go_wp2_with (go_at_call 113; refine HC.out.mono ?_; rintro e w' ⟨rfl, hb⟩)
        go_ret
        exact ⟨rfl, hb⟩
      · rw [hz] at HC
        have hf : fitL s.data.toList = false := by
          cases h : fitL s.data.toList with
          | false => rfl
          | true => exact absurd (fitL_iff.1 h).2.2 hu
        rw [hf]
        clear hrd hz hu hf hne
        go_enter Tryz.func91, Tryz.ntmps91
        go_wp2_with (go_at_call 113; refine HC.out.mono ?_; rintro e w' ⟨rfl, hb⟩)
        go_ret
        exact ⟨rfl, hb⟩
    · have hf : fitL s.data.toList = false := by
        cases h : fitL s.data.toList with
        | false => rfl
        | true => have := (fitL_iff.1 h).2.1; rw [← Lib.size_eq] at this; exact absurd this h2
      rw [hf]
      clear hf hne
      have h2' : decide ((s.size : Int) ≤ 200) = false := by simp; omega
      go_enter Tryz.func91, Tryz.ntmps91
      go_wp2
      go_ret
      exact ⟨rfl, Below.refl _ _⟩
set_option maxRecDepth 100000 in
theorem name_any (s : ByteArray) (hs : s.size ≤ 1000) (w : World) (ht : Tabs w) : Calls Tryz.prog 70 #[.string s] w fun e w' => BPost w (nameL s.data.toList) e w' := by
  have hm : nameL s.data.toList = (fitL s.data.toList && !hasS s.data.toList) := rfl
  have HF := Lib.hid (fits_any s hs w ht)
  have HC := Lib.hid (fun W => contains_any s (by omega) W)
  rw [hm]
  clear hm
  cases hf : fitL s.data.toList with
  | false =>
    rw [hf] at HF
    clear hf
    go_enter Tryz.func70, Tryz.ntmps70
    go_wp2_with (go_at_call 91; refine HF.out.mono ?_; rintro e w' ⟨rfl, hb⟩)
    go_ret
    exact ⟨rfl, hb⟩
  | true =>
    rw [hf] at HF
    clear hf
    cases hh : hasS s.data.toList with
    | false =>
      rw [hh] at HC
      clear hh
      go_enter Tryz.func70, Tryz.ntmps70
      go_wp2_with (first
        | (go_at_call 91; refine HF.out.mono ?_; rintro e w' ⟨rfl, hb⟩)
        | (go_at_call 92; refine (HC.out _).mono ?_; rintro e w5 ⟨rfl, hb5⟩))
      go_ret
      exact ⟨rfl, hb.trans (hb5.mono hb.size)⟩
    | true =>
      rw [hh] at HC
      clear hh
      go_enter Tryz.func70, Tryz.ntmps70
      go_wp2_with (first
        | (go_at_call 91; refine HF.out.mono ?_; rintro e w' ⟨rfl, hb⟩)
        | (go_at_call 92; refine (HC.out _).mono ?_; rintro e w5 ⟨rfl, hb5⟩))
      go_ret
      exact ⟨rfl, hb.trans (hb5.mono hb.size)⟩
end Go.Proofs.YtgcfgheamaoceaaGreatDoor

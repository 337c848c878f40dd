/- Layer 13: the document's signs, levels; may a text be said; a name, a filter. -/
import Derived.StillTailTactics
import Derived.Deep.QuietTactic
import Derived.Test.YtgcfgheamaoceaaGreatDoorTopP
import Derived.Test.YtgcfgheamaoceaaGreatDoorUtfS
namespace Go.Proofs.YtgcfgheamaoceaaGreatDoor
open Go.RowKit Go.Shelf

/-- How many signs a text has. -/
def cntS (l : List UInt8) : Nat := l.countP sgn
theorem cntS_zero (l : List UInt8) : (cntS l = 0) ↔ hasS l = false := by
  unfold cntS hasS
  rw [List.countP_eq_zero, List.any_eq_false]
theorem cntS_snoc (l : List UInt8) (b : UInt8) : cntS (l ++ [b]) = cntS l + if sgn b then 1 else 0 := by
  unfold cntS
  rw [List.countP_append, List.countP_cons]; simp
set_option maxRecDepth 100000 in
theorem signs_any (s : ByteArray) (hs : s.size ≤ 1000) (w : World) : Calls Tryz.prog 55 #[.string s] w fun e w' => e = .returned (.int .i64 (cntS s.data.toList : Nat)) ∧ w = w' := by
  have HL := Lib.hid (Lib.size_eq s)
  go_enter Tryz.func55, Tryz.ntmps55
  go_wp2
  go_loop [3, 4, 5, 6, 7, 8, 9, 10, 11, 12, 13, 14, 15, 16, 17, 18, 19, 20, 21, 22] (fun c i _ _ _ _ _ _ _ _ _ _ _ _ _ _ _ _ _ _ => ∃ k : Nat, i = .int .i64 k ∧ k ≤ s.size ∧ c = .int .i64 (cntS (s.data.toList.take k) : Nat))
    (fun _ i _ _ _ _ _ _ _ _ _ _ _ _ _ _ _ _ _ _ => s.size - (intOf i).toNat)
  case atStart => exact ⟨0, rfl, Nat.zero_le _, rfl⟩
  case round =>
    obtain ⟨k, rfl, hk, rfl⟩ := hrel
    have hcl : cntS (s.data.toList.take k) ≤ 1000 := by
      have := List.countP_le_length (p := sgn) (l := s.data.toList.take k)
      rw [List.length_take] at this
      unfold cntS; omega
    by_cases hlt : k < s.size
    · obtain ⟨x, hx⟩ : ∃ x : UInt8, s[k]'hlt = x := ⟨_, rfl⟩
      have hxl : s.data.toList[k]? = some x := by rw [← hx]; exact Lib.data_getElem? s k hlt
      have hj := index_str s k k rfl hlt
      have hbt : bt s.data.toList k = x.toNat := by unfold bt; rw [hxl]; rfl
      rw [hbt] at hj
      have htk : s.data.toList.take (k + 1) = s.data.toList.take k ++ [x] := by
        have hkl : k < s.data.toList.length := by rw [← Lib.size_eq]; exact hlt
        rw [List.take_succ_eq_append_getElem hkl]
        rw [List.getElem?_eq_getElem hkl] at hxl
        rw [Option.some.inj hxl]
      have hcs := cntS_snoc (s.data.toList.take k) x
      rw [← htk] at hcs
      have HC := Lib.hid hcs
      generalize cntS (s.data.toList.take k) = q at *
      clear hcs htk hbt hxl hx
      by_cases h1 : x = 43
      · subst h1
        have e1 : (((43 : UInt8).toNat : Int) == 43) = true := by decide
        have hsg : sgn 43 = true := by decide
        rw [hsg] at HC
        clear hsg
        go_wp2
        go_round
        case rel => exact ⟨k + 1, by go_num, by omega, by rw [HC.out]; simp⟩
        case measure => simp [intOf]; omega
      · by_cases h2 : x = 35
        · subst h2
          have e1 : (((35 : UInt8).toNat : Int) == 43) = false := by decide
          have e2 : (((35 : UInt8).toNat : Int) == 35) = true := by decide
          have hsg : sgn 35 = true := by decide
          rw [hsg] at HC
          clear hsg h1
          go_wp2
          go_round
          case rel => exact ⟨k + 1, by go_num, by omega, by rw [HC.out]; simp⟩
          case measure => simp [intOf]; omega
        · have e1 : ((x.toNat : Int) == 43) = false := by
            simp only [beq_eq_false_iff_ne, ne_eq]
            intro h; exact h1 (UInt8.toNat_inj.1 (by have : (43 : UInt8).toNat = 43 := rfl; omega))
          have e2 : ((x.toNat : Int) == 35) = false := by
            simp only [beq_eq_false_iff_ne, ne_eq]
            intro h; exact h2 (UInt8.toNat_inj.1 (by have : (35 : UInt8).toNat = 35 := rfl; omega))
          have hsg : sgn x = false := by simp [sgn, h1, h2]
          rw [hsg] at HC
          clear hsg h1 h2
          go_wp2
          go_round
          case rel => exact ⟨k + 1, by go_num, by omega, by rw [HC.out]; simp⟩
          case measure => simp [intOf]; omega
    · obtain rfl : k = s.size := by omega
      have htl : s.data.toList.take s.size = s.data.toList := List.take_of_length_le (by rw [← Lib.size_eq]; exact Nat.le_refl _)
      rw [htl] at hcl ⊢
      have HT := Lib.hid htl
      clear htl
      go_wp2
      go_ret
      exact ⟨rfl, rfl⟩
set_option maxRecDepth 100000 in
theorem said_any (s : ByteArray) (hs : s.size ≤ 1000) (w : World) : Calls Tryz.prog 54 #[.string s] w fun e w' => BPost w (fitL s.data.toList) e w' := by
  by_cases h0 : s.size < 1
  · have hf : fitL s.data.toList = false := by
      cases h : fitL s.data.toList with
      | false => rfl
      | true =>
        have := (fitL_iff.1 h).1
        exact absurd (List.length_eq_zero_iff.1 (by rw [← Lib.size_eq]; omega)) this
    rw [hf]
    have d0 : decide ((s.size : Int) < 1) = true := by simp; omega
    go_enter Tryz.func54, Tryz.ntmps54
    go_wp2
    go_ret
    exact ⟨rfl, Below.refl _ _⟩
  · have d0 : decide ((s.size : Int) < 1) = false := by simp; omega
    by_cases h2 : s.size ≤ 200
    · have d2 : decide ((200 : Int) < (s.size : Int)) = false := by simp; omega
      obtain ⟨rs, hrd⟩ := rd_any s
      have hne : s.data.toList ≠ [] := fun e => by rw [Lib.size_eq, e] at h0; exact h0 (by decide)
      have hR := refRunes_any s rs hrd (by omega) w
      have hc := chk_fit hrd hs
      unfold chkZ at hc
      by_cases hl : (textR rs).length < s.data.toList.length
      · rw [if_pos hl] at hc
        have hf : fitL s.data.toList = false := by
          cases h : fitL s.data.toList with
          | false => rfl
          | true => rcases hc with ⟨h, -⟩ | ⟨-, hc⟩
                    · cases h
                    · exact absurd (fitL_iff.1 h).2.2 hc
        rw [hf]
        have HR := Lib.hid hR
        have HL := Lib.hid hl
        clear hR hc hl hf hne hrd
        go_enter Tryz.func54, Tryz.ntmps54
        go_wp2_with fail
        refine HR.out.mono ?_
        rintro e w4 (⟨h, -⟩ | ⟨-, rfl, hb4⟩)
        · exact absurd HL.out h
        have HB4 := Lib.hid hb4
        clear hb4
        have d3 : decide (((textR rs).length : Int) < 0) = false := by simp
        generalize (textR rs).length = p at *
        go_wp2
        go_ret
        exact ⟨rfl, HB4.out⟩
      · rw [if_neg hl] at hc
        have hf : fitL s.data.toList = true := fitL_iff.2 ⟨hne, by rw [← Lib.size_eq]; exact h2, by
          rcases hc with ⟨-, hc⟩ | ⟨h, -⟩
          · exact hc
          · cases h⟩
        rw [hf]
        have HR := Lib.hid hR
        have HL := Lib.hid hl
        clear hR hc hl hf hne hrd
        go_enter Tryz.func54, Tryz.ntmps54
        go_wp2_with fail
        refine HR.out.mono ?_
        rintro e w4 (⟨-, v, rfl, -, hb4⟩ | ⟨h, -⟩)
        · have HB4 := Lib.hid hb4
          clear hb4
          go_wp2
          go_ret
          exact ⟨rfl, HB4.out⟩
        · exact absurd h HL.out
    · have d2 : decide ((200 : Int) < (s.size : Int)) = true := by simp; omega
      have hf : fitL s.data.toList = false := by
        cases h : fitL s.data.toList with
        | false => rfl
        | true => have := (fitL_iff.1 h).2.1; rw [← Lib.size_eq] at this; exact absurd this h2
      rw [hf]
      clear hf
      go_enter Tryz.func54, Tryz.ntmps54
      go_wp2
      go_ret
      exact ⟨rfl, Below.refl _ _⟩
set_option maxRecDepth 100000 in
theorem rname_any (s : ByteArray) (hs : s.size ≤ 1000) (w : World) : Calls Tryz.prog 27 #[.string s] w fun e w' => BPost w (nameL s.data.toList) e w' := by
  have hm : nameL s.data.toList = (fitL s.data.toList && !hasS s.data.toList) := rfl
  have HF := Lib.hid (said_any s hs w)
  have HC := Lib.hid (fun W => signs_any s hs W)
  rw [hm]
  clear hm
  rcases Bool.eq_false_or_eq_true (fitL s.data.toList) with hf | hf
  · rw [hf] at HF ⊢
    clear hf
    have hq : ((cntS s.data.toList : Int) == 0) = !hasS s.data.toList := by
      rw [Bool.eq_iff_iff, beq_iff_eq, Bool.not_eq_true', ← cntS_zero]; omega
    have HQ := Lib.hid hq
    generalize cntS s.data.toList = q at *
    clear hq
    go_enter Tryz.func27, Tryz.ntmps27
    go_wp2_with (first
      | (go_at_call 54; refine HF.out.mono ?_; rintro e w' ⟨rfl, hb⟩; have HB := Lib.hid hb; clear hb)
      | (go_at_call 55; refine (HC.out _).mono ?_; rintro e w5 ⟨rfl, rfl⟩))
    go_ret
    refine ⟨?_, HB.out⟩
    rw [← HQ.out]; rfl
  · rw [hf] at HF ⊢
    clear hf
    go_enter Tryz.func27, Tryz.ntmps27
    go_wp2_with (go_at_call 54; refine HF.out.mono ?_; rintro e w' ⟨rfl, hb⟩)
    go_ret
    exact ⟨rfl, hb⟩
end Go.Proofs.YtgcfgheamaoceaaGreatDoor

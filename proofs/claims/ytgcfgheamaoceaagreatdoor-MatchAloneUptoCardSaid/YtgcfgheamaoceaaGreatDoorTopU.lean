/- Layer 13: the document's filters. -/
import Derived.Test.YtgcfgheamaoceaaGreatDoorTopN
import Derived.Test.YtgcfgheamaoceaaGreatDoorTopQ
import Derived.Test.YtgcfgheamaoceaaGreatDoorTopR
namespace Go.Proofs.YtgcfgheamaoceaaGreatDoor
open Go.RowKit Go.Shelf

def okX (N k : Nat) (x : List UInt8) : Bool := !hasS x || x == [43] || x == [35] && decide (k + 1 = N)
theorem okF_iff (L : List (List UInt8)) : okF L = true ↔ ∀ k x, L[k]? = some x → okX L.length k x = true := by
  induction L with
  | nil => simp [okF]
  | cons y r ih =>
    rw [okF, Bool.and_eq_true, ih]
    have e : (!hasS y || y == [43] || y == [35] && r.isEmpty) = okX (y :: r).length 0 y := by
      unfold okX
      rw [show r.isEmpty = decide (0 + 1 = (y :: r).length) by cases r <;> simp]
    rw [e]
    constructor
    · rintro ⟨h1, h2⟩ k x hk
      cases k with
      | zero => cases hk; exact h1
      | succ k => have := h2 k x hk; unfold okX at this ⊢; simpa using this
    · intro h
      refine ⟨h 0 y rfl, fun k x hk => ?_⟩
      have := h (k + 1) x hk
      unfold okX at this ⊢; simpa using this
set_option maxRecDepth 100000 in
theorem rfilter_any (s : ByteArray) (hs : s.size ≤ 1000) (w : World) : Calls Tryz.prog 58 #[.string s] w fun e w' => BPost w (filtL s.data.toList) e w' := by
  have HS := Lib.hid hs
  have hsd := said_any s hs w
  rcases Bool.eq_false_or_eq_true (fitL s.data.toList) with hf | hf
  · have he : filtL s.data.toList = okF (lv s.data.toList) := by unfold filtL; rw [hf]; rfl
    rw [hf] at hsd
    rw [he]
    have HSD := Lib.hid hsd
    have HLV := Lib.hid (fun W => rlevels_any s hs W)
    have hll : (lv s.data.toList).length ≤ 1001 := by have := lv_len_le s.data.toList; rw [← Lib.size_eq] at this; omega
    have hsh := Lib.hid (lv_short hs)
    clear hf he hsd
    obtain ⟨L, hL⟩ : ∃ L, lv s.data.toList = L := ⟨_, rfl⟩
    rw [hL] at HLV hll hsh ⊢
    clear hL
    go_enter Tryz.func58, Tryz.ntmps58
    go_wp2_with fail
    refine HSD.out.mono ?_
    rintro e w1 ⟨rfl, hb1⟩
    have HB1 := Lib.hid hb1
    clear hb1
    go_wp2_with fail
    refine (HLV.out w1).mono ?_
    rintro e w2 ⟨v, rfl, ho, hb2⟩
    obtain ⟨a, c, rfl, htx, -, -, -⟩ := TxAt.own ho
    have HB2 := Lib.hid (And.intro (show Below w.heap.size w w2 from HB1.out.trans (hb2.mono HB1.out.size)) htx)
    clear hb2 ho htx
    obtain ⟨N, hN⟩ : ∃ N, L.length = N := ⟨_, rfl⟩
    rw [hN] at hll ⊢
    have HN := Lib.hid hN
    clear hN
    go_wp2
    go_loop [4, 10, 11, 12, 13, 14, 15, 16, 17, 18, 19, 20, 21, 22, 23, 24, 25, 26, 27, 28, 29, 30, 31, 32, 33, 34, 35, 36, 37, 38, 39, 40, 41, 42, 43] (fun i _ _ _ _ _ _ _ _ _ _ _ _ _ _ _ _ _ _ _ _ _ _ _ _ _ _ _ _ _ _ _ _ _ _ => ∃ k : Nat, i = .int .i64 k ∧ k ≤ N ∧ ∀ j x, j < k → L[j]? = some x → okX N j x = true)
      (fun i _ _ _ _ _ _ _ _ _ _ _ _ _ _ _ _ _ _ _ _ _ _ _ _ _ _ _ _ _ _ _ _ _ _ => N - (intOf i).toNat)
    case atStart => exact ⟨0, rfl, Nat.zero_le _, fun _ _ h => absurd h (Nat.not_lt_zero _)⟩
    case round =>
      obtain ⟨k, rfl, hk, hpre⟩ := hrel
      have HP := Lib.hid hpre
      clear hpre
      by_cases hlt : k < N
      · have hkl : k < L.length := by have := HN.out; omega
        have hne1 : L ≠ [] := fun e => by rw [e] at hkl; simp at hkl
        obtain ⟨b1, o1, rfl, hb1, hc1⟩ := HB2.out.2 hne1
        obtain ⟨x, hx⟩ : ∃ x, L[k]? = some x := ⟨_, List.getElem?_eq_getElem hkl⟩
        have d1 := hc1 k x hx
        have hxm : x.length ≤ 1000 := hsh.out x (List.mem_of_getElem? hx)
        have HX := Lib.hid hx
        have HSG := Lib.hid (signs_any ⟨x.toArray⟩ (by show x.toArray.size ≤ 1000; simpa using hxm) w2)
        have HZ := Lib.hid (cntS_zero x)
        obtain ⟨q, hq⟩ : ∃ q, cntS x = q := ⟨_, rfl⟩
        have hql : q ≤ 1000 := by
          have := List.countP_le_length (p := sgn) (l := x)
          unfold cntS at hq; omega
        simp only [hq] at HSG HZ
        clear hc1 hx hkl hne1 hq
        have hgo : ∀ (_ : okX N k x = true), ∀ j y, j < k + 1 → L[j]? = some y → okX N j y = true := by
          intro h1 j y hj hy
          by_cases e : j = k
          · subst e; have := HX.out.symm.trans hy; rw [← Option.some.inj this]; exact h1
          · exact HP.out j y (by omega) hy
        have HG := Lib.hid hgo
        clear hgo
        have HNo := Lib.hid (show okX N k x = false → okF L = false from fun h1 => by
          cases h2 : okF L
          · rfl
          · have := (okF_iff L).1 h2 k x HX.out
            rw [HN.out, h1] at this; cases this)
        have hq0 : ¬ (q : Int) < 0 := by omega
        by_cases h0 : q = 0
        · have h00 : ¬ (0 : Int) < (q : Int) := by omega
          have hok : okX N k x = true := by unfold okX; rw [HZ.out.1 h0]; rfl
          have HR := Lib.hid (HG.out hok)
          subst h0
          clear hok
          go_wp2_with fail
          refine HSG.out.mono ?_
          rintro e w3 ⟨rfl, rfl⟩
          go_wp2
          go_round
          case rel => exact ⟨k + 1, by go_num, by omega, HR.out⟩
          case measure => simp [intOf]; omega
        · have h00 : 0 < q := by omega
          have hS : hasS x = true := by
            cases h : hasS x
            · exact absurd (HZ.out.2 h) h0
            · rfl
          have HHS := Lib.hid hS
          clear hS
          rcases Bool.eq_false_or_eq_true (x == [43]) with h1 | h1
          · have hok : okX N k x = true := by unfold okX; rw [h1]; simp
            have HR := Lib.hid (HG.out hok)
            clear hok
            go_wp2_with fail
            refine HSG.out.mono ?_
            rintro e w3 ⟨rfl, rfl⟩
            go_wp2
            go_round
            case rel => exact ⟨k + 1, by go_num, by omega, HR.out⟩
            case measure => simp [intOf]; omega
          · rcases Bool.eq_false_or_eq_true (x == [35]) with h2 | h2
            · by_cases h3 : k + 1 = N
              · have hok : okX N k x = true := by unfold okX; rw [h2, decide_eq_true h3]; simp
                have HR := Lib.hid (HG.out hok)
                have h4 : ((k : Int) == (N : Int) - 1) = true := by simp; omega
                clear hok
                go_wp2_with fail
                refine HSG.out.mono ?_
                rintro e w3 ⟨rfl, rfl⟩
                go_wp2
                go_round
                case rel => exact ⟨k + 1, by go_num, by omega, HR.out⟩
                case measure => simp [intOf]; omega
              · have hok : okX N k x = false := by unfold okX; rw [h1, decide_eq_false h3, HHS.out]; simp
                have HR := Lib.hid (HNo.out hok)
                have h4 : ((k : Int) == (N : Int) - 1) = false := by simp; omega
                clear hok
                go_wp2_with fail
                refine HSG.out.mono ?_
                rintro e w3 ⟨rfl, rfl⟩
                go_wp2
                go_ret
                exact ⟨by rw [HR.out]; rfl, HB2.out.1⟩
            · have hok : okX N k x = false := by unfold okX; rw [h1, h2, HHS.out]; simp
              have HR := Lib.hid (HNo.out hok)
              clear hok
              go_wp2_with fail
              refine HSG.out.mono ?_
              rintro e w3 ⟨rfl, rfl⟩
              go_wp2
              go_ret
              exact ⟨by rw [HR.out]; rfl, HB2.out.1⟩
      · obtain rfl : k = N := by omega
        have hyes : okF L = true := (okF_iff L).2 fun j x hj => by
          rw [HN.out]
          refine HP.out j x ?_ hj
          have := (List.getElem?_eq_some_iff.1 hj).1
          rw [HN.out] at this; exact this
        have HY := Lib.hid hyes
        clear hyes
        go_wp2
        go_ret
        exact ⟨by rw [HY.out]; rfl, HB2.out.1⟩
  · have he : filtL s.data.toList = false := by unfold filtL; rw [hf]; rfl
    rw [hf] at hsd
    rw [he]
    have HSD := Lib.hid hsd
    clear hf he hsd
    go_enter Tryz.func58, Tryz.ntmps58
    go_wp2_with fail
    refine HSD.out.mono ?_
    rintro e w1 ⟨rfl, hb1⟩
    have HB1 := Lib.hid hb1
    clear hb1
    go_wp2
    go_ret
    exact ⟨rfl, HB1.out⟩
end Go.Proofs.YtgcfgheamaoceaaGreatDoor

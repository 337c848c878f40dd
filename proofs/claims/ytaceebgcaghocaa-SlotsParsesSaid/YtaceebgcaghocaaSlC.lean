/- Layer 5: the hand that lays a text. -/
import Derived.StillTailTactics
import Derived.Test.YtaceebgcaghocaaSlB
namespace Go.Proofs.Ytaceebgcaghocaa
open Go.RowKit

def hText (r : List UInt8 × Bool) (s : ByteArray) (lo hi : Int) : List UInt8 × Bool := if lo ≤ s.size ∧ (s.size : Int) ≤ hi then (r.1 ++ (laidB s.size 1 1 ++ s.data.toList), r.2) else (r.1, true)
theorem one_of (b : UInt8) : laidB b.toNat 1 1 = [b] := by simp [laidB]
theorem data_at (s : ByteArray) (k : Nat) (h : k < s.size) : s.data.toList[k]? = some (s[k]'h) := by
  have h2 : k < s.data.size := h
  rw [Array.getElem?_toList, Array.getElem?_eq_getElem h2]; rfl
section
variable {n₀ : Nat} {w : World} {G B : Nat} {l : List UInt8} {bad : Bool}
theorem index_str (s : ByteArray) (k : Nat) (h : k < s.size) (w : World) : (Instr.index 9 (.string s) (.int .i64 k)).run Try.prog w = .ok (.int .u8 ((s.data.toList[k]?.getD 0).toNat : Int)) w := by
  rw [run_index_string (h := Try.underlying9), dif_pos ⟨by omega, by omega⟩, data_at s k h]; simp
set_option maxRecDepth 100000 in
set_option maxHeartbeats 1000000 in
theorem htext_any (h : IsHand n₀ w G B l bad) (s : ByteArray) (lo hi : Int) (h1 : hi ≤ 255) (hl : l.length ≤ 1000) :
    Calls Try.prog 70 #[.pointer (some ⟨G, 0, none⟩), .string s, .int .i64 lo, .int .i64 hi] w fun e w' => HandPost n₀ w G B (.string s) (hText (l, bad) s lo hi) e w' := by
  have c0 := h.cell0; have c1 := h.cell1; have f1 := h.frozen 1
  by_cases hin : lo ≤ s.size ∧ (s.size : Int) ≤ hi
  · have HT : hText (l, bad) s lo hi = (l ++ (laidB s.size 1 1 ++ s.data.toList), bad) := by unfold hText; rw [if_pos hin]
    rw [HT]
    obtain ⟨a1, a2⟩ := hin
    have d1 : decide ((s.size : Int) < lo) = false := by simp; omega
    have d2 : decide (hi < (s.size : Int)) = false := by simp; omega
    obtain ⟨v, hv⟩ := h.wr
    have HF := Lib.hid (wNum_fits (l := l) (n := s.size) (k := 1) (by omega) (by omega) (by have : (2:Nat) ^ (8 * 1) = 256 := rfl; omega) (by omega))
    have HC := Lib.hid (wnum_any hv s.size 1)
    have HH := Lib.hid (And.intro h hv)
    have hN2 : s.size ≤ 255 := by omega
    clear h hv HT
    go_enter Try.func70, Try.ntmps70
    go_wp2_with fail
    refine HC.out.mono ?_
    rintro e w1 ⟨he, v', hv', hg⟩
    subst he
    have HP := HH.out.1.on HH.out.2 hv' hg
    rw [show ((1 : Int)) = ((1 : Nat) : Int) from rfl, HF.out] at HP
    have HP2 := Lib.hid HP
    clear hv' hg HF HC HP c0 c1 f1
    go_wp2
    go_loopw [9, 34, 35, 36, 37, 38, 39, 40, 41, 42, 43, 44, 45, 46] (fun _ y _ _ _ _ _ _ _ _ _ _ _ _ wr => ∃ k : Nat, y = .int .i64 k ∧ k ≤ s.size ∧ IsHand n₀ wr G B (l ++ (laidB s.size 1 1 ++ s.data.toList.take k)) bad ∧ Below n₀ w wr ∧ CellKeep w wr) (fun _ y _ _ _ _ _ _ _ _ _ _ _ _ _ => s.size - (intOf y).toNat)
    case atStart => exact ⟨0, rfl, Nat.zero_le _, by rw [List.take_zero, List.append_nil]; exact HP2.out.1, HP2.out.2⟩
    case round =>
      obtain ⟨k, rfl, hk, hI, hb, hc⟩ := hrel
      by_cases hlt : k < s.size
      · have hix := index_str s k hlt
        obtain ⟨x, hx⟩ : ∃ x, s.data.toList[k]?.getD 0 = x := ⟨_, rfl⟩
        rw [hx] at hix
        have hlen : (l ++ (laidB s.size 1 1 ++ s.data.toList.take k)).length ≤ 1300 := by
          rw [List.length_append, List.length_append, laidB_len, List.length_take]; omega
        have hxl : l ++ (laidB s.size 1 1 ++ s.data.toList.take (k + 1)) = l ++ (laidB s.size 1 1 ++ s.data.toList.take k) ++ [x] := by
          have : s.data.toList.take (k + 1) = s.data.toList.take k ++ [x] := by
            rw [List.take_add_one, data_at s k hlt]; rw [data_at s k hlt] at hx; simp at hx; simp [hx]
          rw [this]; simp
        obtain ⟨m, hm⟩ : ∃ m, l ++ (laidB s.size 1 1 ++ s.data.toList.take k) = m := ⟨_, rfl⟩
        rw [hm] at hI hlen hxl
        have c0 : wr.drew.cell? ⟨G, 0, none⟩ = some (wptr B) := hI.cell0
        have cc0 := hI.cell0
        have hD := hI.below ((Below.refl wr.heap.size wr).drew)
        obtain ⟨v, hv⟩ := hD.wr
        have HF := Lib.hid (wNum_fits (l := m) (n := x.toNat) (k := 1) (by omega) (by omega) (by have : (2:Nat) ^ (8 * 1) = 256 := rfl; have := UInt8.toNat_lt x; omega) (by omega))
        have HC := Lib.hid (wnum_any hv x.toNat 1)
        have HH := Lib.hid (And.intro hD (And.intro hv (And.intro hb (And.intro hc hxl))))
        have hx256 := UInt8.toNat_lt x
        have hkS : (k : Int) < (s.size : Int) := by omega
        clear hx hm hxl hI hb hc hD hv
        go_wp2_with fail
        go_still_tail 8, (by kernel_rfl)
        change wpList _ _ _ _ _ wr.drew
        go_wp2_with fail
        refine HC.out.mono ?_
        rintro e w2 ⟨he, v2, hv2, hg2⟩
        subst he
        rw [show ((1 : Int)) = ((1 : Nat) : Int) from rfl, HF.out, one_of] at hv2
        have HP := HH.out.1.on HH.out.2.1 hv2 hg2
        rw [← HH.out.2.2.2.2] at HP
        have HQ := Lib.hid (And.intro HP.1 (And.intro (HH.out.2.2.1.drew.trans HP.2.1) (HH.out.2.2.2.1.trans HP.2.2)))
        clear hv2 hg2 HP HF HC
        go_wp2
        exact ⟨⟨k + 1, by go_num, hlt, HQ.out⟩, by simp only [intOf]; omega⟩
      · obtain rfl : k = s.size := by omega
        have hkS : ¬ ((s.size : Int) < (s.size : Int)) := by omega
        rw [List.take_of_length_le (by rw [data_len]; exact Nat.le_refl _)] at hI
        have HQ := Lib.hid (And.intro hI (And.intro hb hc))
        clear hI hb hc
        go_wp2
        go_ret
        exact ⟨rfl, HQ.out⟩
  · rw [show hText (l, bad) s lo hi = (l, true) by unfold hText; rw [if_neg hin]]
    have HS := Lib.hid h.spoil
    clear h
    by_cases a1 : (s.size : Int) < lo
    · clear hin
      go_enter Try.func70, Try.ntmps70
      go_wp2
      go_ret
      exact ⟨rfl, HS.out⟩
    · have a2 : hi < (s.size : Int) := by omega
      clear hin
      go_enter Try.func70, Try.ntmps70
      go_wp2
      go_ret
      exact ⟨rfl, HS.out⟩
end
end Go.Proofs.Ytaceebgcaghocaa

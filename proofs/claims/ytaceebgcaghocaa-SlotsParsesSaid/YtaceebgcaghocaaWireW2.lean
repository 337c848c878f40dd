/- Layer 3: what a writer writes: numbers, truths, texts. -/
import Derived.Test.YtaceebgcaghocaaWireW
namespace Go.Proofs.Ytaceebgcaghocaa
open Go.RowKit

/-- What Number answers, and the bytes behind it. -/
def wNum (l : List UInt8) (n : Nat) (k : Int) : Nat × List UInt8 :=
  if k < 1 ∨ 8 < k ∨ 2 ^ (8 * k.toNat) ≤ n then (2, l) else if 65536 < l.length + k.toNat then (3, l) else (0, l ++ laidB n k.toNat k.toNat)
def wTruth (l : List UInt8) (b : Bool) : Nat × List UInt8 := if 65536 < l.length + 1 then (3, l) else (0, l ++ [if b then 1 else 0])
def wText (l s : List UInt8) : Nat × List UInt8 := if 65536 < l.length + 2 + s.length then (3, l) else (0, l ++ (laidB s.length 2 2 ++ s))

section
variable {n₀ : Nat} {w : World} {B : Nat} {v : Value} {l : List UInt8}
/-- What holds where Number jumps to its last lines. -/
def NumJump (w : World) (B : Nat) (n : Nat) (k : Int) (a' : Act) (w' : World) : Prop :=
  w' = w ∧ ∃ u7 u8 u9 u10 u11 u12 u13 u14 u15 u16 u17 u18 u19 u20 u21 u22 u23 u24 u25 u26 u27 u28 u29 u30 u31 u32 u33 : Value, a' = { tmps := #[wptr B, .int .u64 n, .int .i64 k, undef, undef, undef, .int .i64 0, u7, u8, u9, u10, u11, u12, u13, u14, u15, u16, u17, u18, u19, u20, u21, u22, u23, u24, u25, u26, u27, u28, u29, u30, u31, u32, u33], defers := [] }
set_option maxHeartbeats 1000000 in
set_option maxRecDepth 100000 in
theorem wnum_any (h : IsWr n₀ w B v l) (n : Nat) (k : Int) : Calls Try.prog 21 #[wptr B, .int .u64 n, .int .i64 k] w fun e w' => WrPost n₀ w B v (wNum l n k) e w' := by
  have T := Lib.hid (wthere_any h)
  have S := Lib.hid (fun w => sized_any (w := w) k)
  by_cases hk : 1 ≤ k ∧ k ≤ 8
  · obtain ⟨m, rfl⟩ : ∃ m : Nat, k = m := ⟨k.toNat, by omega⟩
    by_cases hlt : n < 2 ^ (8 * m)
    · have K := Lib.hid (wtakes_any h m)
      have e1 : wNum l n m = if 65536 < l.length + m then (3, l) else (0, l ++ laidB n m m) := by
        unfold wNum; rw [if_neg (by simp only [Int.toNat_natCast]; omega)]; simp only [Int.toNat_natCast]
      have hd : decide (1 ≤ (m : Int) ∧ (m : Int) ≤ 8) = true := by simp; omega
      have hz : (n : Int) / 2 ^ (8 * m) = 0 := by
        have h3 : n / 2 ^ (8 * m) = 0 := Nat.div_eq_of_lt hlt
        have h4 : ((n / 2 ^ (8 * m) : Nat) : Int) = (n : Int) / 2 ^ (8 * m) := by rw [Int.natCast_ediv, Int.natCast_pow]; rfl
        rw [← h4, h3]; rfl
      rw [hd] at S
      have hc := h.cell1
      rw [e1]
      by_cases hfit : 65536 < l.length + m
      · rw [if_pos hfit]
        have hd2 : decide (l.length + m ≤ 65536) = false := by simp; omega
        rw [hd2] at K
        have P := Lib.hid (wr_same (r := 3) h)
        have HZ := Lib.hid hz
        clear h e1 hd hfit hd2 hlt
        go_enter Try.func21, Try.ntmps21
        go_wp2
        go_step3
        go_wp2_with (first
          | (go_at_call 35; refine T.out.mono ?_; rintro e w' ⟨rfl, rfl⟩)
          | (go_at_call 36; refine (S.out _).mono ?_; rintro e w' ⟨rfl, rfl⟩)
          | (go_at_call 37; refine K.out.mono ?_; rintro e w' ⟨rfl, rfl⟩))
        rw [Exit.noGoto_ret]
        go_ret
        exact P.out
      · rw [if_neg hfit]
        have hd2 : decide (l.length + m ≤ 65536) = true := by simp; omega
        rw [hd2] at K
        have hlen := h.len
        have L := Lib.hid (lay64_any n m (by omega) w n₀ v l h.own h.n_le (by omega))
        have ST := Lib.hid (fun w1 v1 l1 => wr_store (w1 := w1) (v1 := v1) (l1 := l1) h)
        have CC := Lib.hid (fun (w1 : World) (v1 : Value) (hG : Goes w w1 v v1) => wr_cells h hG)
        have HZ := Lib.hid hz
        have hl2 : (l ++ laidB n m m).length ≤ 65536 := by rw [List.length_append, laidB_len]; omega
        have HL2 := Lib.hid hl2
        clear h e1 hd hfit hd2 hlt hl2 hlen
        go_enter Try.func21, Try.ntmps21
        go_wp2
        go_step3
        go_wp2_with (first
          | (go_at_call 35; refine T.out.mono ?_; rintro e w' ⟨rfl, rfl⟩)
          | (go_at_call 36; refine (S.out _).mono ?_; rintro e w' ⟨rfl, rfl⟩)
          | (go_at_call 37; refine K.out.mono ?_; rintro e w' ⟨rfl, rfl⟩)
          | (go_at_call 38; refine L.out.mono ?_; rintro e w1 ⟨v1, rfl, hO, hG⟩; obtain ⟨c1, c2⟩ := CC.out _ _ hG; obtain ⟨ao1, cap1, rfl, -, -, -, -, -⟩ := hO.form))
        rw [Exit.noGoto_ret]
        go_ret
        simp only [List.length_append] at hO hG
        exact ST.out _ _ _ hO hG HL2.out
    · have e1 : wNum l n m = (2, l) := by unfold wNum; rw [if_pos]; simp only [Int.toNat_natCast]; omega
      have hd : decide (1 ≤ (m : Int) ∧ (m : Int) ≤ 8) = true := by simp; omega
      have hz : 0 < (n : Int) / 2 ^ (8 * m) := by
        have h3 : 0 < n / 2 ^ (8 * m) := Nat.div_pos (by omega) (Nat.two_pow_pos _)
        have h4 : ((n / 2 ^ (8 * m) : Nat) : Int) = (n : Int) / 2 ^ (8 * m) := by rw [Int.natCast_ediv, Int.natCast_pow]; rfl
        rw [← h4]; omega
      rw [hd] at S
      rw [e1]
      have P := Lib.hid (wr_same (r := 2) h)
      clear h e1 hd hlt
      go_enter Try.func21, Try.ntmps21
      go_wp2
      refine wp_scope_jumps 0 (NumJump w B n m) (fun _ _ => 0) rfl ?first ?pass
      case first =>
        go_wp2_with (first
          | (go_at_call 35; refine T.out.mono ?_; rintro e w' ⟨rfl, rfl⟩)
          | (go_at_call 36; refine (S.out _).mono ?_; rintro e w' ⟨rfl, rfl⟩))
        go_step3
        exact ⟨rfl, rfl, _, _, _, _, _, _, _, _, _, _, _, _, _, _, _, _, _, _, _, _, _, _, _, _, _, _, _, rfl⟩
      case pass =>
        rintro a' w' ⟨rfl, u7, u8, u9, u10, u11, u12, u13, u14, u15, u16, u17, u18, u19, u20, u21, u22, u23, u24, u25, u26, u27, u28, u29, u30, u31, u32, u33, rfl⟩
        go_wp2
        simp only [Exit.jump]
        go_ret
        exact P.out
  · have e1 : wNum l n k = (2, l) := by unfold wNum; rw [if_pos]; omega
    rw [e1]
    have hd : decide (1 ≤ k ∧ k ≤ 8) = false := by simp; omega
    rw [hd] at S
    have P := Lib.hid (wr_same (r := 2) h)
    clear h e1 hd
    go_enter Try.func21, Try.ntmps21
    go_wp2
    refine wp_scope_jumps 0 (NumJump w B n k) (fun _ _ => 0) rfl ?first ?pass
    case first =>
      go_wp2_with (first
        | (go_at_call 35; refine T.out.mono ?_; rintro e w' ⟨rfl, rfl⟩)
        | (go_at_call 36; refine (S.out _).mono ?_; rintro e w' ⟨rfl, rfl⟩))
      go_step3
      exact ⟨rfl, rfl, _, _, _, _, _, _, _, _, _, _, _, _, _, _, _, _, _, _, _, _, _, _, _, _, _, _, _, rfl⟩
    case pass =>
      rintro a' w' ⟨rfl, u7, u8, u9, u10, u11, u12, u13, u14, u15, u16, u17, u18, u19, u20, u21, u22, u23, u24, u25, u26, u27, u28, u29, u30, u31, u32, u33, rfl⟩
      go_wp2
      simp only [Exit.jump]
      go_ret
      exact P.out
set_option maxHeartbeats 1000000 in
set_option maxRecDepth 100000 in
theorem wtruth_any (h : IsWr n₀ w B v l) (b : Bool) : Calls Try.prog 72 #[wptr B, .bool b] w fun e w' => WrPost n₀ w B v (wTruth l b) e w' := by
  have T := Lib.hid (wthere_any h)
  have K := Lib.hid (wtakes_any h 1)
  have hc := h.cell1
  by_cases hfit : 65536 < l.length + 1
  · have e1 : wTruth l b = (3, l) := by unfold wTruth; rw [if_pos hfit]
    rw [e1]
    have hd2 : decide (l.length + 1 ≤ 65536) = false := by simp; omega
    rw [hd2] at K
    have P := Lib.hid (wr_same (r := 3) h)
    clear h e1 hd2 hfit
    go_enter Try.func72, Try.ntmps72
    go_wp2_with (first
      | (go_at_call 35; refine T.out.mono ?_; rintro e w' ⟨rfl, rfl⟩)
      | (go_at_call 37; refine K.out.mono ?_; rintro e w' ⟨rfl, rfl⟩))
    go_ret
    exact P.out
  · have e1 : wTruth l b = (0, l ++ laidB (if b then 1 else 0) 1 1) := by unfold wTruth; rw [if_neg hfit]; cases b <;> rfl
    rw [e1]
    have hd2 : decide (l.length + 1 ≤ 65536) = true := by simp; omega
    rw [hd2] at K
    have hlen := h.len
    have L := Lib.hid (fun (n : Nat) (hn : n < 256) => lay8_any n 1 (by omega) hn w n₀ v l h.own h.n_le (by omega))
    have ST := Lib.hid (fun w1 v1 l1 => wr_store (w1 := w1) (v1 := v1) (l1 := l1) h)
    have CC := Lib.hid (fun (w1 : World) (v1 : Value) (hG : Goes w w1 v v1) => wr_cells h hG)
    have HL2 := Lib.hid (fun (n : Nat) => (by rw [List.length_append, laidB_len]; omega : (l ++ laidB n 1 1).length ≤ 65536))
    clear h e1 hd2 hfit hlen
    cases b with
    | false =>
      simp only [Bool.false_eq_true, if_false]
      go_enter Try.func72, Try.ntmps72
      go_wp2_with (first
        | (go_at_call 35; refine T.out.mono ?_; rintro e w' ⟨rfl, rfl⟩)
        | (go_at_call 37; refine K.out.mono ?_; rintro e w' ⟨rfl, rfl⟩)
        | (go_at_call 73; refine (L.out 0 (by omega)).mono ?_; rintro e w1 ⟨v1, rfl, hO, hG⟩; obtain ⟨c1, c2⟩ := CC.out _ _ hG; obtain ⟨ao1, cap1, rfl, -, -, -, -, -⟩ := hO.form))
      go_ret
      simp only [List.length_append] at hO hG
      exact ST.out _ _ _ hO hG (HL2.out 0)
    | true =>
      simp only [if_true]
      go_enter Try.func72, Try.ntmps72
      go_wp2_with (first
        | (go_at_call 35; refine T.out.mono ?_; rintro e w' ⟨rfl, rfl⟩)
        | (go_at_call 37; refine K.out.mono ?_; rintro e w' ⟨rfl, rfl⟩)
        | (go_at_call 73; refine (L.out 1 (by omega)).mono ?_; rintro e w1 ⟨v1, rfl, hO, hG⟩; obtain ⟨c1, c2⟩ := CC.out _ _ hG; obtain ⟨ao1, cap1, rfl, -, -, -, -, -⟩ := hO.form))
      go_ret
      simp only [List.length_append] at hO hG
      exact ST.out _ _ _ hO hG (HL2.out 1)
end
end Go.Proofs.Ytaceebgcaghocaa

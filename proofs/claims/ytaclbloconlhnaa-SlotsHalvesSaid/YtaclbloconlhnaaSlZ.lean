/- Layer 5: where cells are halved (middle); are two lists the same. -/
import Derived.Test.YtaclbloconlhnaaSlY
namespace Go.Proofs.Ytaclbloconlhnaa
open Go.RowKit

/-- The greater one of both parts' bytes. -/
def grt (ls : List (List UInt8)) (j : Nat) : Nat := max (takenN (ls.take j)) (takenN (ls.drop j))
def MidAt (ls : List (List UInt8)) (i n least : Nat) : Prop := (i = 0 → n = 0 ∧ least = takenN ls) ∧ (0 < i → 1 ≤ n ∧ n ≤ i ∧ least = grt ls n ∧ (∀ j, 1 ≤ j → j ≤ i → grt ls n ≤ grt ls j) ∧ ∀ j, 1 ≤ j → j < n → grt ls n < grt ls j)
theorem takenN_split (ls : List (List UInt8)) (i : Nat) : takenN ls = takenN (ls.take i) + takenN (ls.drop i) := by
  unfold takenN
  rw [← List.sum_append, ← List.map_append, List.take_append_drop]
theorem takenN_pos (ls : List (List UInt8)) (h : ls ≠ []) : 2 ≤ takenN ls := by
  cases ls with
  | nil => exact absurd rfl h
  | cons l ls => simp [takenN]; omega
theorem grt_lt {ls : List (List UInt8)} {i : Nat} (h1 : 1 ≤ i) (h2 : i < ls.length) : grt ls i < takenN ls := by
  have hs := takenN_split ls i
  have a := takenN_pos (ls.take i) (by intro e; have := congrArg List.length e; rw [List.length_take, List.length_nil] at this; omega)
  have b := takenN_pos (ls.drop i) (by intro e; have := congrArg List.length e; rw [List.length_drop, List.length_nil] at this; omega)
  unfold grt
  rw [hs]
  exact Nat.max_lt.2 ⟨by omega, by omega⟩
theorem mid_next {ls : List (List UInt8)} {i n least : Nat} (h : MidAt ls i n least) (hi : i + 1 < ls.length) :
    MidAt ls (i + 1) (if grt ls (i + 1) < least then i + 1 else n) (if grt ls (i + 1) < least then grt ls (i + 1) else least) := by
  refine ⟨fun h0 => by omega, fun _ => ?_⟩
  rcases Nat.eq_zero_or_pos i with rfl | hp
  · obtain ⟨rfl, rfl⟩ := h.1 rfl
    rw [if_pos (grt_lt (by omega) hi), if_pos (grt_lt (by omega) hi)]
    refine ⟨by omega, by omega, rfl, fun j h1 h2 => ?_, fun j h1 h2 => by omega⟩
    obtain rfl : j = 1 := by omega
    exact Nat.le_refl _
  · obtain ⟨h1, h2, rfl, h4, h5⟩ := h.2 hp
    by_cases hg : grt ls (i + 1) < grt ls n
    · rw [if_pos hg, if_pos hg]
      refine ⟨by omega, by omega, rfl, fun j k1 k2 => ?_, fun j k1 k2 => ?_⟩
      · rcases Nat.eq_or_lt_of_le k2 with rfl | k3
        · exact Nat.le_refl _
        · have := h4 j k1 (by omega); omega
      · have := h4 j k1 (by omega); omega
    · rw [if_neg hg, if_neg hg]
      refine ⟨h1, by omega, rfl, fun j k1 k2 => ?_, h5⟩
      rcases Nat.eq_or_lt_of_le k2 with rfl | k3
      · omega
      · exact h4 j k1 (by omega)
theorem run_sub {w : World} {g off : Nat} {ls : List (List UInt8)} (hg : g < w.heap.size) (h : ∀ j, j < ls.length → ∃ a' c', w.cell? ⟨g, off + j, none⟩ = some (.slice a' (ls.getD j []).length c')) (i : Nat) (hi : i < ls.length) : RunAt w (some ⟨g, off + i, none⟩) [ls.getD i []] := fun _ =>
  ⟨g, off + i, rfl, hg, fun j hj => by
    obtain rfl : j = 0 := by simpa using hj
    obtain ⟨a', c', h1⟩ := h i hi
    exact ⟨a', c', h1⟩⟩
def MidRel (ls : List (List UInt8)) (x y z u q : Value) : Prop := ∃ i n least : Nat, q = .int .i64 i ∧ i + 1 ≤ ls.length ∧ x = .int .i64 (takenN (ls.take i) : Nat) ∧ y = .int .i64 (takenN (ls.drop i) : Nat) ∧ z = .int .i64 n ∧ u = .int .i64 least ∧ MidAt ls i n least
def MidPost (ls : List (List UInt8)) (e : Ending) : Prop := ∃ n least : Nat, e = .returned (.int .i64 n) ∧ MidAt ls (ls.length - 1) n least
set_option maxRecDepth 100000 in
set_option maxHeartbeats 4000000 in
theorem middle_any (ls : List (List UInt8)) (a : Option Addr) (cap : Nat) (hcap : ls.length ≤ cap) (w : World) (hm : RunAt w a ls) (h2 : 2 ≤ ls.length) (hn : ls.length ≤ 1000) (hl : ∀ l ∈ ls, l.length ≤ 900) :
    Calls Try.prog 41 #[.slice a ls.length cap] w fun e w' => MidPost ls e ∧ w = w' := by
  have HM := Lib.hid (And.intro hm hl)
  have HT := Lib.hid (taken_any ls a cap w hm hn hl)
  have htl := takenN_le ls hl
  obtain ⟨T, hT⟩ : ∃ T, takenN ls = T := ⟨_, rfl⟩
  rw [hT] at HT htl
  have HTT := Lib.hid hT
  have hT2 : T ≤ 1000000 := by omega
  clear hm hl hT htl
  go_enter Try.func41, Try.ntmps41
  go_wp2_with fail
  refine HT.out.mono ?_
  rintro e w' ⟨rfl, rfl⟩
  go_wp2
  go_loopw [3, 4, 5, 6, 7, 8, 9, 16, 17, 18, 19, 20, 21, 22, 23, 24, 25, 26, 27, 28, 29, 30, 31, 32, 33, 34, 35, 36, 37, 38, 39, 40] (fun x y z u _ _ _ q _ _ _ _ _ _ _ _ _ _ _ _ _ _ _ _ _ _ _ _ _ _ _ _ wr => wr = w ∧ MidRel ls x y z u q) (fun _ _ _ _ _ _ _ q _ _ _ _ _ _ _ _ _ _ _ _ _ _ _ _ _ _ _ _ _ _ _ _ _ => ls.length - (intOf q).toNat)
  case atStart => exact ⟨rfl, 0, 0, T, rfl, by omega, rfl, by rw [List.drop_zero, HTT.out], rfl, rfl, fun _ => ⟨rfl, HTT.out.symm⟩, fun h => absurd h (by omega)⟩
  case round =>
    obtain ⟨rfl, i, n, least, rfl, hi, rfl, rfl, rfl, rfl, hmid⟩ := hrel
    by_cases hlt : i + 1 < ls.length
    · have hiL : (i : Int) < (ls.length : Int) - 1 := by omega
      obtain ⟨g, off, rfl, hg, hcs⟩ := HM.out.1 (by rintro rfl; simp at hlt)
      have hsub := run_sub hg hcs i (by omega)
      have hts := takenN_snoc ls i (by omega)
      have hsp := takenN_split ls i
      have hsp2 := takenN_split ls (i + 1)
      rw [HTT.out] at hsp hsp2
      have hnx := mid_next hmid hlt
      have h900 : (ls.getD i []).length ≤ 900 := HM.out.2 _ (by simp [List.getD, show i < ls.length by omega])
      have HT1 := Lib.hid (taken_any [ls.getD i []] (some ⟨g, off + i, none⟩) (cap - i) wr hsub (by simp) (by intro l hl; simp at hl; rw [hl]; exact h900))
      have h1 : takenN [ls.getD i []] = 2 + (ls.getD i []).length := by simp [takenN]
      rw [h1] at HT1
      have hg2 : grt ls (i + 1) = max (takenN (ls.take (i + 1))) (takenN (ls.drop (i + 1))) := rfl
      obtain ⟨m, hmm⟩ : ∃ m, (ls.getD i []).length = m := ⟨_, rfl⟩
      obtain ⟨A, hA⟩ : ∃ A, takenN (ls.take i) = A := ⟨_, rfl⟩
      obtain ⟨B, hB⟩ : ∃ B, takenN (ls.drop i) = B := ⟨_, rfl⟩
      obtain ⟨A2, hA2⟩ : ∃ A, takenN (ls.take (i + 1)) = A := ⟨_, rfl⟩
      obtain ⟨B2, hB2⟩ : ∃ B, takenN (ls.drop (i + 1)) = B := ⟨_, rfl⟩
      obtain ⟨G, hG⟩ : ∃ G, grt ls (i + 1) = G := ⟨_, rfl⟩
      rw [hmm, hA, hA2] at hts
      rw [hA, hB] at hsp ⊢
      rw [hA2, hB2] at hsp2 hg2
      rw [hG] at hg2 hnx
      rw [hmm] at HT1 h900
      have hB22 : B2 + (2 + m) = B := by omega
      have HMD := Lib.hid hmid
      have HX := Lib.hid (And.intro hnx (And.intro hA2 (And.intro hB2 hlt)))
      clear hsub hcs hmid hnx hmm hA hB hA2 hB2 hG h1 hg hsp2 hlt
      go_wp2_with fail
      refine HT1.out.mono ?_
      rintro e w' ⟨rfl, rfl⟩
      have hlb : least ≤ 1000000 := by
        rcases Nat.eq_zero_or_pos i with h0 | h0
        · rw [(HMD.out.1 h0).2, HTT.out]; exact hT2
        · rw [(HMD.out.2 h0).2.2.1]
          have a1 := takenN_split ls n
          rw [HTT.out] at a1
          unfold grt; omega
      have FIN := Lib.hid (show ∀ (x y z u q : Value) (x' y' z' u' q' : Int), x = .int .i64 x' → y = .int .i64 y' → z = .int .i64 z' → u = .int .i64 u' → q = .int .i64 q' → q' = (i : Int) + 1 → x' = (A : Int) + (2 + m) → y' = (B : Int) - (2 + m) → ((z' = (i : Int) + 1 ∧ u' = (G : Int) ∧ G < least) ∨ (z' = (n : Int) ∧ u' = (least : Int) ∧ ¬ G < least)) → MidRel ls x y z u q from by
        rintro x y z u q x' y' z' u' q' rfl rfl rfl rfl rfl rfl rfl rfl h
        refine ⟨i + 1, if G < least then i + 1 else n, if G < least then G else least, by go_num, HX.out.2.2.2, by rw [HX.out.2.1, hts]; go_num, by rw [HX.out.2.2.1]; congr 1; omega, ?_, ?_, HX.out.1⟩
        · rcases h with ⟨rfl, rfl, h⟩ | ⟨rfl, rfl, h⟩
          · rw [if_pos h]; go_num
          · rw [if_neg h]
        · rcases h with ⟨rfl, rfl, h⟩ | ⟨rfl, rfl, h⟩
          · rw [if_pos h]
          · rw [if_neg h])
      have HG2 := Lib.hid (And.intro hg2 (And.intro hts (And.intro hB22 HX.out.2.2.2)))
      clear hg2 hts hB22
      rcases Nat.le_total (A + (2 + m)) (B - (2 + m)) with hab | hab
      · have hGv : G = B - (2 + m) := by
          have h := HG2.out
          rw [h.1, Nat.max_eq_right (by omega)]; omega
        have habI : (A : Int) + (2 + (m : Int)) ≤ (B : Int) - (2 + (m : Int)) := by have := HG2.out.2.2.1; omega
        by_cases hgl : G < least
        · skip
          have hglI : (B : Int) - (2 + (m : Int)) < (least : Int) := by have := HG2.out.2.2.1; omega
          have HQ := Lib.hid (And.intro hGv (And.intro hgl hab))
          clear hGv hgl hab
          go_wp2
          all_goals exact ⟨⟨_, _, _, _, _, _, _, _, FIN.out _ _ _ _ _ _ _ _ _ _ rfl rfl rfl rfl rfl (by omega) rfl rfl (.inl ⟨rfl, by have := HQ.out; have := HG2.out.2.2.1; omega, HQ.out.2.1⟩), rfl, rfl, rfl, rfl, rfl, rfl, rfl, rfl⟩, by have := HG2.out.2.2.2; simp only [intOf]; omega⟩
        · skip
          have hglI : ¬ (B : Int) - (2 + (m : Int)) < (least : Int) := by have := HG2.out.2.2.1; omega
          have HQ := Lib.hid (And.intro hGv (And.intro hgl hab))
          clear hGv hgl hab
          go_wp2
          all_goals exact ⟨⟨_, _, _, _, _, _, _, _, FIN.out _ _ _ _ _ _ _ _ _ _ rfl rfl rfl rfl rfl (by omega) rfl rfl (.inr ⟨rfl, rfl, HQ.out.2.1⟩), rfl, rfl, rfl, rfl, rfl, rfl, rfl, rfl⟩, by have := HG2.out.2.2.2; simp only [intOf]; omega⟩
      · have hGv : G = A + (2 + m) := by
          have h := HG2.out
          rw [h.1, Nat.max_eq_left (by omega)]; omega
        have habI : (B : Int) - (2 + (m : Int)) ≤ (A : Int) + (2 + (m : Int)) := by have := HG2.out.2.2.1; omega
        by_cases hgl : G < least
        · skip
          have hglI : (A : Int) + (2 + (m : Int)) < (least : Int) := by have := HG2.out.2.2.1; omega
          have HQ := Lib.hid (And.intro hGv (And.intro hgl hab))
          clear hGv hgl hab
          go_wp2
          all_goals exact ⟨⟨_, _, _, _, _, _, _, _, FIN.out _ _ _ _ _ _ _ _ _ _ rfl rfl rfl rfl rfl (by omega) rfl rfl (.inl ⟨rfl, by have := HQ.out; have := HG2.out.2.2.1; omega, HQ.out.2.1⟩), rfl, rfl, rfl, rfl, rfl, rfl, rfl, rfl⟩, by have := HG2.out.2.2.2; simp only [intOf]; omega⟩
        · skip
          have hglI : ¬ (A : Int) + (2 + (m : Int)) < (least : Int) := by have := HG2.out.2.2.1; omega
          have HQ := Lib.hid (And.intro hGv (And.intro hgl hab))
          clear hGv hgl hab
          go_wp2
          all_goals exact ⟨⟨_, _, _, _, _, _, _, _, FIN.out _ _ _ _ _ _ _ _ _ _ rfl rfl rfl rfl rfl (by omega) rfl rfl (.inr ⟨rfl, rfl, HQ.out.2.1⟩), rfl, rfl, rfl, rfl, rfl, rfl, rfl, rfl⟩, by have := HG2.out.2.2.2; simp only [intOf]; omega⟩
    · obtain rfl : i = ls.length - 1 := by omega
      have hiL : ¬ (((ls.length - 1 : Nat) : Int) < (ls.length : Int) - 1) := by omega
      have HX := Lib.hid hmid
      clear hmid
      go_wp2
      go_ret
      exact ⟨⟨n, least, rfl, HX.out⟩, rfl⟩
end Go.Proofs.Ytaclbloconlhnaa

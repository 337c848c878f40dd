/- The document's number as bytes. -/
import Derived.Test.YtaceebgcaghocaaMakeB
import Derived.Test.YtaceebgcaghocaaOwnB
import Derived.Test.YtaceebgcaghocaaLDrop
namespace Go.Proofs.Ytaceebgcaghocaa
open Go.RowKit

theorem laidB_drop {n k m : Nat} (h0 : 0 < m) (hm : m ≤ k) : (laidB n k k).drop (m - 1) = UInt8.ofNat (n / 2 ^ (8 * (k - m))) :: (laidB n k k).drop m := by
  rw [drop_cons (d := 0) (by rw [laidB_len]; omega), show m - 1 + 1 = m by omega]
  congr 1
  simp only [laidB, List.getD, List.getElem?_map, List.getElem?_range (show m - 1 < k by omega), Option.map_some, Option.getD_some]
  rw [show k - 1 - (m - 1) = k - m by omega]
/-- The document's bytes of a number, from the last one on. -/
def fillB (n k m : Nat) : List UInt8 := List.replicate m 0 ++ (laidB n k k).drop m
theorem fillB_len {n k m : Nat} (hm : m ≤ k) : (fillB n k m).length = k := by
  unfold fillB; rw [List.length_append, List.length_replicate, List.length_drop, laidB_len]; omega
theorem fillB_set {n k m : Nat} (h0 : 0 < m) (hm : m ≤ k) : (fillB n k m).set (m - 1) (UInt8.ofNat (n / 2 ^ (8 * (k - m)))) = fillB n k (m - 1) := by
  unfold fillB
  rw [laidB_drop h0 hm]
  have e1 : List.replicate m (0 : UInt8) = List.replicate (m - 1) 0 ++ [0] := by
    conv => lhs; rw [show m = (m - 1) + 1 by omega]
    rw [List.replicate_succ']
  rw [e1, List.append_assoc, List.set_append_right _ _ (by rw [List.length_replicate]; omega), List.length_replicate, Nat.sub_self]
  rfl
theorem fillB_zero (n k : Nat) : fillB n k 0 = laidB n k k := by simp [fillB]
theorem fillB_all (n k : Nat) : fillB n k k = List.replicate k 0 := by
  unfold fillB; rw [List.drop_of_length_le (by rw [laidB_len]; omega), List.append_nil]

def RefNumPost (w : World) (n : Nat) (k : Int) (e : Ending) (w' : World) : Prop :=
  ((k < 1 ∨ 8 < k) ∧ e = .returned (.tuple #[.slice none 0 0, .bool false]) ∧ w = w') ∨
  (1 ≤ k ∧ k ≤ 8 ∧ ∃ g, e = .returned (.tuple #[.slice (some ⟨g, 0, none⟩) k.toNat k.toNat, .bool (decide (n < 2 ^ (8 * k.toNat)))]) ∧ OwnB w' w.heap.size (.slice (some ⟨g, 0, none⟩) k.toNat k.toNat) (laidB n k.toNat k.toNat) ∧ Below w.heap.size w w')
set_option maxHeartbeats 1000000 in
set_option maxRecDepth 100000 in
theorem refNum_any (n : Nat) (hn : n < 18446744073709551616) (k : Int) (w : World) : Calls Try.prog 43 #[.int .u64 n, .int .i64 k] w fun e w' => RefNumPost w n k e w' := by
  by_cases h1 : k < 1
  · have hd : decide (k < 1) = true := by simpa using h1
    have P : RefNumPost w n k (.returned (.tuple #[.slice none 0 0, .bool false])) w := .inl ⟨.inl h1, rfl, rfl⟩
    go_enter Try.func43, Try.ntmps43
    go_wp2
    go_ret2
    exact P
  · have hd : decide (k < 1) = false := by simpa using h1
    by_cases h2 : 8 < k
    · have hd2 : decide (8 < k) = true := by simpa using h2
      have P : RefNumPost w n k (.returned (.tuple #[.slice none 0 0, .bool false])) w := .inl ⟨.inr h2, rfl, rfl⟩
      go_enter Try.func43, Try.ntmps43
      go_wp2
      go_ret2
      exact P
    · have hd2 : decide (8 < k) = false := by simpa using h2
      obtain ⟨K, rfl⟩ : ∃ K : Nat, k = K := ⟨k.toNat, by omega⟩
      have FIN := Lib.hid (fun e w' g (he : e = Ending.returned (.tuple #[.slice (some ⟨g, 0, none⟩) K K, .bool (decide (n < 2 ^ (8 * K)))])) (hO : OwnB w' w.heap.size (.slice (some ⟨g, 0, none⟩) K K) (laidB n K K)) (hb : Below w.heap.size w w') => (show RefNumPost w n (K : Int) e w' from .inr ⟨by omega, by omega, g, by rw [Int.toNat_natCast]; exact he, by rw [Int.toNat_natCast]; exact hO, hb⟩))
      go_enter Try.func43, Try.ntmps43
      have hmk := makeB w K (by omega)
      have hb0 : Below w.heap.size w (w.alloc (.cells (byteVals (List.replicate K 0)).toArray 5)) := (Below.refl _ w).alloc (Nat.le_refl _) _
      have hO0 : OwnB (w.alloc (.cells (byteVals (List.replicate K 0)).toArray 5)) w.heap.size (.slice (some ⟨w.heap.size, 0, none⟩) K K) (fillB n K K) := by
        rw [fillB_all]
        refine ⟨by simp [byteVals], .inr ⟨w.heap.size, K, _, by simp, Nat.le_refl _, heap_alloc_new w _, by simp, by unfold maxLen; omega, by simp [byteVals], by simp [byteVals]⟩⟩
      obtain ⟨W, hW⟩ : ∃ W, w.alloc (.cells (byteVals (List.replicate K 0)).toArray 5) = W := ⟨_, rfl⟩
      rw [hW] at hmk hb0 hO0
      clear hW
      go_wp2
      go_loopw [0, 7] (fun x y wr => ∃ m : Nat, y = .int .i64 ((m : Int) - 1) ∧ m ≤ K ∧ x = .int .u64 (n / 2 ^ (8 * (K - m)) : Nat) ∧ OwnB wr w.heap.size (.slice (some ⟨w.heap.size, 0, none⟩) K K) (fillB n K m) ∧ Below w.heap.size w wr)
        (fun _ y _ => (intOf y + 1).toNat)
      case atStart => exact ⟨K, rfl, Nat.le_refl _, by simp, hO0, hb0⟩
      case round =>
        obtain ⟨m, rfl, hmK, rfl, hO, hb⟩ := hrel
        by_cases hm0 : m = 0
        · subst hm0
          rw [fillB_zero] at hO
          have hge : decide ((0 : Int) ≤ ((0 : Nat) : Int) - 1) = false := by decide
          rw [Nat.sub_zero]
          by_cases hfit : n < 2 ^ (8 * K)
          · have hq0 : n / 2 ^ (8 * K) = 0 := Nat.div_eq_of_lt hfit
            rw [hq0]
            have F := Lib.hid (FIN.out _ wr w.heap.size rfl hO hb)
            rw [decide_eq_true hfit] at F
            clear hO hb hO0 hb0 hq0 hfit
            go_wp2
            go_ret2
            exact F.out
          · have hq0 : 0 < n / 2 ^ (8 * K) := Nat.div_pos (by omega) (Nat.two_pow_pos _)
            obtain ⟨q, hq⟩ : ∃ q, n / 2 ^ (8 * K) = q := ⟨_, rfl⟩
            rw [hq] at hq0 ⊢
            have hqz : ((q : Int) == 0) = false := by simp; omega
            have F := Lib.hid (FIN.out _ wr w.heap.size rfl hO hb)
            rw [decide_eq_false hfit] at F
            clear hO hb hO0 hb0 hq hfit
            go_wp2
            go_ret2
            exact F.out
        · have hge : decide ((0 : Int) ≤ (m : Int) - 1) = true := decide_eq_true (by omega)
          have hge2 : (0 : Int) ≤ (m : Int) - 1 := by omega
          have hltK : (m : Int) - 1 < (K : Int) := by omega
          obtain ⟨q, hq⟩ : ∃ q, n / 2 ^ (8 * (K - m)) = q := ⟨_, rfl⟩
          have hq64 : q < 18446744073709551616 := by rw [← hq]; exact Nat.lt_of_le_of_lt (Nat.div_le_self _ _) hn
          have hset := hO.set (m - 1) (UInt8.ofNat q)
          rw [← hq, fillB_set (by omega) hmK, hq] at hset
          have hcell : wr.cell? ⟨w.heap.size, m - 1, none⟩ = some (.int .u8 (((fillB n K m)[m - 1]?.getD 0).toNat : Int)) ∧ wr.frozen? ⟨w.heap.size, m - 1, none⟩ = false := by
            rcases hO.bytes with ⟨e, -⟩ | ⟨g', c', e, -, -, -, -, -, hcc⟩
            · cases e
            · have hg' : w.heap.size = g' := by
                injection e with e1
                injection e1 with e2
                injection e2
              subst hg'
              exact hcc (m - 1) (by rw [fillB_len hmK]; omega)
          obtain ⟨c, hc⟩ : ∃ c, (fillB n K m)[m - 1]?.getD 0 = c := ⟨_, rfl⟩
          rw [hc] at hcell
          obtain ⟨hc1, hc2⟩ := hcell
          have hbyte : (((UInt8.ofNat q).toNat : Nat) : Int) = (q : Int) % 256 := by rw [UInt8.toNat_ofNat']; exact Int.natCast_emod _ _
          rw [hbyte] at hset
          have hqq : q / 256 = n / 2 ^ (8 * (K - (m - 1))) := by
            rw [← hq, Nat.div_div_eq_div_mul, show 8 * (K - (m - 1)) = 8 * (K - m) + 8 by omega, Nat.pow_add]
          rw [hq]
          have HS := Lib.hid hset
          have HB := Lib.hid (hb.setCell (p := ⟨w.heap.size, m - 1, none⟩) (Nat.le_refl _) (.int .u8 ((q : Int) % 256)))
          have HQ := Lib.hid hqq
          have hidx : ((m - 1 : Nat) : Int) = (m : Int) - 1 := by omega
          clear hset hO hc hbyte hqq hq
          obtain ⟨j, rfl⟩ : ∃ j, m = j + 1 := ⟨m - 1, by omega⟩
          simp only [Nat.add_sub_cancel] at hc1 hc2 HS HB HQ
          have e1 : (((j + 1 : Nat) : Int) - 1) = (j : Int) := by omega
          rw [e1] at hge hge2 hltK ⊢
          go_wp2
          exact ⟨⟨j, rfl, by omega, by rw [← HQ.out, show ((q / 256 : Nat) : Int) = (q : Int) / 256 by omega], HS.out, HB.out⟩, by simp only [intOf]; omega⟩
end Go.Proofs.Ytaceebgcaghocaa

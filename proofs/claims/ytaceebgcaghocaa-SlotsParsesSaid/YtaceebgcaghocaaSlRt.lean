/- Layer 5: what was laid is what is read: pure. -/
import Derived.Test.YtaceebgcaghocaaSlDo
namespace Go.Proofs.Ytaceebgcaghocaa
open Go.RowKit

theorem numOf_laid5 (n k i : Nat) (hi : i ≤ k) : numOf (laidB n k i) = n / 2 ^ (8 * (k - i)) % 256 ^ i := by
  induction i with
  | zero => simp [laidB, numOf, Nat.mod_one]
  | succ i ih =>
    rw [laidB_succ, numOf_snoc, ih (by omega)]
    have h1 : n / 2 ^ (8 * (k - i)) = n / 2 ^ (8 * (k - 1 - i)) / 256 := by
      rw [Nat.div_div_eq_div_mul, show 8 * (k - i) = 8 * (k - 1 - i) + 8 by omega, Nat.pow_add]
    rw [h1, show k - (i + 1) = k - 1 - i by omega]
    generalize n / 2 ^ (8 * (k - 1 - i)) = m
    rw [Nat.pow_succ, Nat.mul_comm (256 ^ i) 256, Nat.mod_mul, UInt8.toNat_ofNat']
    omega
theorem numOf_whole5 {n k : Nat} (h : n < 256 ^ k) : numOf (laidB n k k) = n := by
  rw [numOf_laid5 n k k (Nat.le_refl _), Nat.sub_self, Nat.mul_zero, Nat.pow_zero, Nat.div_one, Nat.mod_eq_of_lt h]
theorem take_laid5 (n k : Nat) (t : List UInt8) : (laidB n k k ++ t).take k = laidB n k k := by
  have := List.take_left (l₁ := laidB n k k) (l₂ := t)
  rwa [laidB_len] at this
theorem drop_laid5 (n k : Nat) (t : List UInt8) : (laidB n k k ++ t).drop k = t := by
  have := List.drop_left (l₁ := laidB n k k) (l₂ := t)
  rwa [laidB_len] at this
theorem num_take5 {n k : Nat} (h : n < 256 ^ k) (t : List UInt8) : numOf ((laidB n k k ++ t).take k) = n := by rw [take_laid5, numOf_whole5 h]
theorem bytes_back5 (s : ByteArray) : (⟨s.data.toList.toArray⟩ : ByteArray) = s := by
  obtain ⟨⟨d⟩⟩ := s; rfl
theorem numOf_one (n : Nat) (h : n < 256) : numOf [UInt8.ofNat n] = n := by
  have := numOf_whole5 (n := n) (k := 1) (by omega)
  rwa [laid1] at this
/-- A text that was laid is read. -/
theorem tx_back (s : ByteArray) (hs : s.size ≤ 255) (t : List UInt8) : TxOk ([UInt8.ofNat s.size] ++ (s.data.toList ++ t)) ∧ txS ([UInt8.ofNat s.size] ++ (s.data.toList ++ t)) = s ∧ txR ([UInt8.ofNat s.size] ++ (s.data.toList ++ t)) = t := by
  have h1 : numOf (([UInt8.ofNat s.size] ++ (s.data.toList ++ t)).take 1) = s.size := numOf_one _ (by omega)
  have hl : s.data.toList.length = s.size := data_len s
  refine ⟨?_, ?_, ?_⟩
  · unfold TxOk
    rw [h1]
    simp only [List.length_append, List.length_cons, List.length_nil]
    omega
  · unfold txS
    rw [h1, List.singleton_append, List.drop_one, List.tail_cons, ← hl, List.take_left]
  · unfold txR
    rw [h1, ← List.drop_drop, List.singleton_append, List.drop_one, List.tail_cons, ← hl, List.drop_left]
theorem same_has {leaf : Bool} {c : Cv} (h : CellOk leaf c) : hasOf leaf c = c := Cv.same_iff.1 h.1
theorem part_back {leaf : Bool} {c : Cv} (h : CellOk leaf c) (t : List UInt8) : readPart leaf ((handOf leaf c).1 ++ t) = some (c, t) := by
  obtain ⟨h1, h2, h3, h4, h5⟩ := may_facts h
  have hh := same_has h
  cases leaf
  · obtain ⟨p1, p2⟩ := h4 (.inl rfl)
    rw [hand_branch h, List.append_assoc, List.append_assoc]
    obtain ⟨k1, k2, k3⟩ := tx_back c.key (by omega) (laidB c.page.toNat 4 4 ++ t)
    have e : readPart false = readBranch := rfl
    rw [e]
    unfold readBranch
    rw [if_pos k1, k2, k3, if_pos (by simp only [List.length_append, laidB_len]; omega), num_take5 (by omega), drop_laid5]
    have hp : ((c.page.toNat : Nat) : Int) = c.page := Int.toNat_of_nonneg (by omega)
    have hb : branchHas c = c := hh
    rw [hp]
    exact congrArg (fun x => some (x, t)) hb
  · have e : readPart true = readLeaf := rfl
    have hb : leafHas c = c := hh
    unfold leafHas at hb
    cases hl : c.long
    · have t3 := h3 rfl hl
      rw [hl] at hb
      simp only [Bool.false_eq_true, if_false] at hb
      have e2 : (handOf true c).1 ++ t = [UInt8.ofNat c.key.size] ++ (c.key.data.toList ++ ([0] ++ ([UInt8.ofNat c.text.size] ++ (c.text.data.toList ++ t)))) := by
        rw [hand_short h hl]; simp
      rw [e, e2]
      obtain ⟨k1, k2, k3⟩ := tx_back c.key (by omega) ([0] ++ ([UInt8.ofNat c.text.size] ++ (c.text.data.toList ++ t)))
      obtain ⟨m1, m2, m3⟩ := tx_back c.text (by omega) t
      unfold readLeaf
      rw [if_pos k1, k2, k3]
      have n0 : numOf (([0] ++ ([UInt8.ofNat c.text.size] ++ (c.text.data.toList ++ t))).take 1) = 0 := rfl
      have d0 : ([0] ++ ([UInt8.ofNat c.text.size] ++ (c.text.data.toList ++ t))).drop 1 = ([UInt8.ofNat c.text.size] ++ (c.text.data.toList ++ t)) := rfl
      rw [n0, d0, if_neg (by simp only [List.length_append, List.length_cons]; omega), if_neg (by decide)]
      unfold readShort
      rw [if_pos m1, m2, m3]
      exact congrArg (fun x => some (x, t)) hb
    · obtain ⟨p1, p2⟩ := h4 (.inr hl)
      obtain ⟨s1, s2⟩ := h5 rfl hl
      rw [hl] at hb
      simp only [if_true] at hb
      have e2 : (handOf true c).1 ++ t = [UInt8.ofNat c.key.size] ++ (c.key.data.toList ++ ([1] ++ (laidB c.page.toNat 4 4 ++ (laidB c.size.toNat 4 4 ++ t)))) := by
        rw [hand_long h hl]; simp
      rw [e, e2]
      obtain ⟨k1, k2, k3⟩ := tx_back c.key (by omega) ([1] ++ (laidB c.page.toNat 4 4 ++ (laidB c.size.toNat 4 4 ++ t)))
      unfold readLeaf
      rw [if_pos k1, k2, k3]
      have n0 : numOf (([1] ++ (laidB c.page.toNat 4 4 ++ (laidB c.size.toNat 4 4 ++ t))).take 1) = 1 := rfl
      have d0 : ([1] ++ (laidB c.page.toNat 4 4 ++ (laidB c.size.toNat 4 4 ++ t))).drop 1 = (laidB c.page.toNat 4 4 ++ (laidB c.size.toNat 4 4 ++ t)) := rfl
      rw [n0, d0, if_neg (by simp only [List.length_append, List.length_cons]; omega), if_pos (by decide)]
      unfold readLong
      rw [drop_laid5, drop_laid5, num_take5 (by omega), num_take5 (by omega), if_pos (by simp only [List.length_append, laidB_len]; omega), if_pos (by simp only [List.length_append, laidB_len]; omega)]
      have hp : ((c.page.toNat : Nat) : Int) = c.page := Int.toNat_of_nonneg (by omega)
      have hs : ((c.size.toNat : Nat) : Int) = c.size := Int.toNat_of_nonneg (by omega)
      rw [hp, hs]
      exact congrArg (fun x => some (x, t)) hb
theorem count_back (ls : List (List UInt8)) (h : ls.length < 65536) : countOf (rawB ls) = ls.length := by
  unfold countOf rawB
  rw [List.append_assoc, num_take5 (by omega)]
theorem rest_back (ls : List (List UInt8)) : (rawB ls).drop (2 + 2 * ls.length) = ls.flatten := by
  unfold rawB
  have h1 : (laidB ls.length 2 2 ++ headsUpto ls ls.length).length = 2 + 2 * ls.length := by rw [List.length_append, laidB_len, headsUpto_len]
  rw [← h1, List.drop_left]
theorem heads_from (ls : List (List UInt8)) (i : Nat) : ∀ n, i + 1 ≤ n → ∃ t, headsUpto ls n = headsUpto ls i ++ (laidB (2 + 2 * ls.length + (ls.take i).flatten.length) 2 2 ++ t) := by
  intro n hn
  induction n with
  | zero => omega
  | succ n ih =>
    by_cases he : n = i
    · subst he
      exact ⟨[], by rw [headsUpto_succ, List.append_nil]⟩
    · obtain ⟨t, ht⟩ := ih (by omega)
      exact ⟨t ++ laidB (2 + 2 * ls.length + (ls.take n).flatten.length) 2 2, by rw [headsUpto_succ, ht]; simp⟩
theorem place_back (ls : List (List UInt8)) (i : Nat) (hi : i < ls.length) (h : 2 + 2 * ls.length + (ls.take i).flatten.length < 65536) : placeAt (rawB ls) i = 2 + 2 * ls.length + (ls.take i).flatten.length := by
  obtain ⟨t, ht⟩ := heads_from ls i ls.length hi
  unfold placeAt rawB
  have h1 : (laidB ls.length 2 2 ++ headsUpto ls i).length = 2 + 2 * i := by rw [List.length_append, laidB_len, headsUpto_len]
  have h2 : laidB ls.length 2 2 ++ headsUpto ls ls.length ++ ls.flatten = (laidB ls.length 2 2 ++ headsUpto ls i) ++ (laidB (2 + 2 * ls.length + (ls.take i).flatten.length) 2 2 ++ (t ++ ls.flatten)) := by
    rw [ht]; simp
  rw [h2, ← h1, List.drop_left, num_take5 (by omega)]
theorem upto_back {leaf : Bool} {L : List Cv} {ls : List (List UInt8)} (hls : bytesOf leaf L = ls) (hok : OkUpto leaf L L.length) (hb : 2 + takenN ls ≤ 232) : ∀ i, i ≤ L.length → readUpto leaf (rawB ls) i ls.flatten = some (L.take i, (ls.drop i).flatten) := by
  have hlen : ls.length = L.length := by rw [← hls, bytesOf_len]
  have hfl := takenN_flat ls
  intro i
  induction i with
  | zero => intro _; rw [readUpto]; simp
  | succ i ih =>
    intro hi
    have hiL : i < ls.length := by omega
    rw [readUpto, ih (by omega)]
    have e1 : ls.flatten = (ls.take i).flatten ++ (ls.drop i).flatten := by rw [← List.flatten_append, List.take_append_drop]
    have e2 : (ls.drop i).flatten = ls.getD i [] ++ (ls.drop (i + 1)).flatten := by
      rw [List.drop_eq_getElem_cons hiL, List.flatten_cons]; simp [List.getD, hiL]
    have e3 : ls.flatten.length = (ls.take i).flatten.length + (ls.drop i).flatten.length := by rw [← List.length_append, ← e1]
    have hget : ls.getD i [] = (handOf leaf (L.getD i default)).1 := by
      rw [← hls]; simp [bytesOf, List.getD, show i < L.length by omega]
    have hp := place_back ls i hiL (by omega)
    have hr := rawB_len ls
    simp only [Option.bind_some]
    rw [if_pos (by rw [hp, hr]; omega), e2, hget, part_back (hok i (by omega)).1]
    have e4 : L.take (i + 1) = L.take i ++ [L.getD i default] := by
      rw [List.take_add_one, List.getElem?_eq_getElem (show i < L.length by omega)]
      simp [List.getD, show i < L.length by omega]
    rw [e4]; rfl
/-- What was laid is read, and nothing else. -/
theorem parsed_raw {k : Int} {L : List Cv} (hr : RightC k L) (hb : 2 + takenN (bytesOf (k == 2) L) ≤ 232) : Parsed k (rawB (bytesOf (k == 2) L)) L := by
  obtain ⟨ls, hls⟩ : ∃ ls, bytesOf (k == 2) L = ls := ⟨_, rfl⟩
  have hlen : ls.length = L.length := by rw [← hls, bytesOf_len]
  rw [hls] at hb ⊢
  have hfl := takenN_flat ls
  have hrl := rawB_len ls
  have hc := count_back ls (by omega)
  refine ⟨by omega, by omega, by rw [hc]; omega, ?_, hr⟩
  rw [hc, rest_back, upto_back hls hr.2.2 hb ls.length (by omega)]
  rw [List.drop_of_length_le (Nat.le_refl _), List.take_of_length_le (by omega)]
  rfl
theorem parsed_one {k : Int} {b : List UInt8} {L M : List Cv} (h : Parsed k b L) (h' : Parsed k b M) : L = M := by
  have e := h.2.2.2.1.symm.trans h'.2.2.2.1
  simpa using e
end Go.Proofs.Ytaceebgcaghocaa

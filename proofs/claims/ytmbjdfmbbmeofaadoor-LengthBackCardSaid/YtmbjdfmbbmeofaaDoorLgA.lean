/- Layer 15, of no program: a length's bytes; what bytes tell; how they are cut into parts. -/
namespace Go.Proofs.YtmbjdfmbbmeofaaDoor

/-- How many bytes a length has. -/
def lgSize (n : Nat) : Nat := if n < 128 then 1 else if n < 16384 then 2 else if n < 2097152 then 3 else 4
/-- Its bytes. -/
def lgRaw (n : Nat) : List UInt8 :=
  if n < 128 then [UInt8.ofNat n] else if n < 16384 then [UInt8.ofNat (128 + n % 128), UInt8.ofNat (n / 128)]
  else if n < 2097152 then [UInt8.ofNat (128 + n % 128), UInt8.ofNat (128 + n / 128 % 128), UInt8.ofNat (n / 16384)]
  else [UInt8.ofNat (128 + n % 128), UInt8.ofNat (128 + n / 128 % 128), UInt8.ofNat (128 + n / 16384 % 128), UInt8.ofNat (n / 2097152)]
theorem lgRaw_len (n : Nat) : (lgRaw n).length = lgSize n := by unfold lgRaw lgSize; split <;> (try split) <;> (try split) <;> rfl
theorem lgSize_pos (n : Nat) : 1 ≤ lgSize n ∧ lgSize n ≤ 4 := by unfold lgSize; split <;> (try split) <;> (try split) <;> omega
/-- What Size tells of any number. -/
def lgSz (n : Int) : Int := if n < 0 ∨ 268435455 < n then 0 else (lgSize n.toNat : Int)
theorem lgSz_nat {n : Nat} (h : n ≤ 268435455) : lgSz n = lgSize n := by unfold lgSz; rw [if_neg (by omega)]; simp
theorem lgSz_no {n : Int} (h : n < 0 ∨ 268435455 < n) : lgSz n = 0 := by unfold lgSz; rw [if_pos h]
theorem lgSz_le (n : Int) : 0 ≤ lgSz n ∧ lgSz n ≤ 4 := by
  unfold lgSz; have := lgSize_pos n.toNat; split <;> omega
/-- A byte, of what is left of a length. -/
def lgNext (m : Nat) : Nat := if 0 < m / 128 then 128 + m % 128 else m % 128
theorem lgNext_lt (m : Nat) : lgNext m < 256 := by unfold lgNext; split <;> omega
theorem lgRaw_step {n : Nat} (h : n ≤ 268435455) (j : Nat) (hj : j < lgSize n) : (lgRaw n).take (j + 1) = (lgRaw n).take j ++ [UInt8.ofNat (lgNext (n / 128 ^ j))] := by
  unfold lgSize at hj
  unfold lgRaw lgNext
  rcases Nat.lt_or_ge n 128 with h1 | h1
  · rw [if_pos h1] at hj ⊢
    obtain rfl : j = 0 := by omega
    have : n / 128 ^ 0 / 128 = 0 := by simp; omega
    rw [if_neg (by omega)]; simp; rw [Nat.mod_eq_of_lt h1]
  rw [if_neg (by omega)] at hj ⊢
  rcases Nat.lt_or_ge n 16384 with h2 | h2
  · rw [if_pos h2] at hj ⊢
    obtain rfl | rfl : j = 0 ∨ j = 1 := by omega
    · rw [if_pos (by simp; omega)]; simp
    · rw [if_neg (by simp; omega)]; simp; rw [Nat.mod_eq_of_lt (by omega)]
  rw [if_neg (by omega)] at hj ⊢
  rcases Nat.lt_or_ge n 2097152 with h3 | h3
  · rw [if_pos h3] at hj ⊢
    obtain rfl | rfl | rfl : j = 0 ∨ j = 1 ∨ j = 2 := by omega
    · rw [if_pos (by simp; omega)]; simp
    · rw [if_pos (by simp; omega)]; simp
    · rw [if_neg (by simp; omega)]; simp; rw [Nat.mod_eq_of_lt (by omega)]
  rw [if_neg (by omega)] at hj ⊢
  obtain rfl | rfl | rfl | rfl : j = 0 ∨ j = 1 ∨ j = 2 ∨ j = 3 := by omega
  · rw [if_pos (by simp; omega)]; simp
  · rw [if_pos (by simp; omega)]; simp
  · rw [if_pos (by simp; omega)]; simp
  · rw [if_neg (by simp; omega)]; simp; rw [Nat.mod_eq_of_lt (by omega)]

/-- The i-th byte. -/
def lgAt (l : List UInt8) (i : Nat) : Nat := (l[i]?.getD 0).toNat
theorem lgAt_lt (l : List UInt8) (i : Nat) : lgAt l i < 256 := UInt8.toNat_lt _
/-- What the first k bytes tell. -/
def lgVal (l : List UInt8) : Nat → Nat
  | 0 => 0
  | k + 1 => lgVal l k + lgAt l k % 128 * 128 ^ k
theorem lgVal_lt (l : List UInt8) (k : Nat) : lgVal l k < 128 ^ k := by
  induction k with
  | zero => simp [lgVal]
  | succ k ih =>
    have h1 : lgAt l k % 128 ≤ 127 := by omega
    have h2 : lgAt l k % 128 * 128 ^ k ≤ 127 * 128 ^ k := Nat.mul_le_mul_right _ h1
    rw [Nat.pow_succ]
    simp only [lgVal]
    omega
/-- What is read from the k-th byte on, in at most f of them. -/
def lgFrom (l : List UInt8) : Nat → Nat → Nat × Nat × Nat
  | 0, _ => (0, 0, 250)
  | f + 1, k => if k = l.length then (0, 0, 0) else if 128 ≤ lgAt l k then lgFrom l f (k + 1) else if 0 < k ∧ lgAt l k = 0 then (0, 0, 250) else (lgVal l (k + 1), k + 1, 0)
/-- The length that stands first, in how many bytes, an error. -/
def lgRead (l : List UInt8) : Nat × Nat × Nat := lgFrom l 4 0
theorem lgFrom_step (l : List UInt8) {k : Nat} (h : k < 4) (hk : k ≠ l.length) (hx : 128 ≤ lgAt l k) : lgFrom l (4 - k) k = lgFrom l (4 - (k + 1)) (k + 1) := by
  rw [show 4 - k = (4 - (k + 1)) + 1 by omega]
  conv => lhs; unfold lgFrom
  rw [if_neg hk, if_pos hx]
theorem lgFrom_out (l : List UInt8) {k : Nat} (h : k < 4) (hk : k = l.length) : lgFrom l (4 - k) k = (0, 0, 0) := by
  rw [show 4 - k = (4 - (k + 1)) + 1 by omega]
  unfold lgFrom
  rw [if_pos hk]
theorem lgFrom_bad (l : List UInt8) {k : Nat} (h : k < 4) (hk : k ≠ l.length) (h0 : 0 < k) (hx : lgAt l k = 0) : lgFrom l (4 - k) k = (0, 0, 250) := by
  rw [show 4 - k = (4 - (k + 1)) + 1 by omega]
  unfold lgFrom
  rw [if_neg hk, if_neg (by omega), if_pos ⟨h0, hx⟩]
theorem lgFrom_good (l : List UInt8) {k : Nat} (h : k < 4) (hk : k ≠ l.length) (hx : lgAt l k < 128) (h0 : ¬ (0 < k ∧ lgAt l k = 0)) : lgFrom l (4 - k) k = (lgVal l (k + 1), k + 1, 0) := by
  rw [show 4 - k = (4 - (k + 1)) + 1 by omega]
  conv => lhs; unfold lgFrom
  rw [if_neg hk, if_neg (by omega), if_neg h0]
theorem pow128 {k : Nat} (h : k ≤ 4) : 128 ^ k ≤ 268435456 := by
  have : 128 ^ k ≤ 128 ^ 4 := Nat.pow_le_pow_right (by decide) h
  omega
theorem lgFrom_le (l : List UInt8) (f k : Nat) (h : f + k ≤ 4) : (lgFrom l f k).1 ≤ 268435455 ∧ (lgFrom l f k).2.1 ≤ 4 ∧ (lgFrom l f k).2.2 ≤ 250 := by
  induction f generalizing k with
  | zero => exact ⟨by simp [lgFrom], by simp [lgFrom], by simp [lgFrom]⟩
  | succ f ih =>
    unfold lgFrom
    have h1 := lgVal_lt l (k + 1)
    have h2 := pow128 (k := k + 1) (by omega)
    split
    · simp
    split
    · exact ih (k + 1) (by omega)
    split
    · simp
    · exact ⟨by simp only []; omega, by simp only []; omega, by simp⟩
theorem lgRead_le (l : List UInt8) : (lgRead l).1 ≤ 268435455 ∧ (lgRead l).2.1 ≤ 4 ∧ (lgRead l).2.2 ≤ 250 := lgFrom_le l 4 0 (by omega)
theorem lgFrom_none (l : List UInt8) (f k : Nat) (h : (lgFrom l f k).2.1 = 0) : (lgFrom l f k).1 = 0 := by
  induction f generalizing k with
  | zero => rfl
  | succ f ih =>
    unfold lgFrom at h ⊢
    split
    · rfl
    split
    · rename_i h1 h2
      rw [if_neg h1, if_pos h2] at h
      exact ih _ h
    split
    · rfl
    · rename_i h1 h2 h3
      rw [if_neg h1, if_neg h2, if_neg h3] at h
      simp at h
theorem lgRead_none (l : List UInt8) (h : (lgRead l).2.1 = 0) : (lgRead l).1 = 0 := lgFrom_none l 4 0 h
theorem lgFrom_size (l : List UInt8) (f k : Nat) (hk : k ≤ l.length) : (lgFrom l f k).2.1 ≤ l.length := by
  induction f generalizing k with
  | zero => simp [lgFrom]
  | succ f ih =>
    unfold lgFrom
    split
    · simp
    split
    · exact ih _ (by omega)
    split
    · simp
    · simp only []; omega
theorem lgRead_size (l : List UInt8) : (lgRead l).2.1 ≤ l.length := lgFrom_size l 4 0 (Nat.zero_le _)
theorem pow_cases {k : Nat} (h : k < 4) : k = 0 ∧ 128 ^ k = 1 ∨ k = 1 ∧ 128 ^ k = 128 ∨ k = 2 ∧ 128 ^ k = 16384 ∨ k = 3 ∧ 128 ^ k = 2097152 := by
  obtain rfl | rfl | rfl | rfl : k = 0 ∨ k = 1 ∨ k = 2 ∨ k = 3 := by omega
  · exact .inl ⟨rfl, rfl⟩
  · exact .inr (.inl ⟨rfl, rfl⟩)
  · exact .inr (.inr (.inl ⟨rfl, rfl⟩))
  · exact .inr (.inr (.inr ⟨rfl, rfl⟩))
/-- More bytes than it needs: just where the last one is none. -/
theorem lg_small (l : List UInt8) {k : Nat} (h : k < 4) (hx : lgAt l k < 128) : lgSize (lgVal l (k + 1)) ≤ k ↔ (0 < k ∧ lgAt l k = 0) := by
  have hv := lgVal_lt l k
  simp only [lgVal]
  rw [Nat.mod_eq_of_lt hx]
  generalize lgAt l k = x at *
  generalize lgVal l k = v at *
  unfold lgSize
  rcases pow_cases h with ⟨rfl, e⟩ | ⟨rfl, e⟩ | ⟨rfl, e⟩ | ⟨rfl, e⟩ <;> rw [e] at hv ⊢ <;> (split <;> (try split) <;> (try split) <;> omega)
theorem lgAt_app (a b : List UInt8) (i : Nat) (h : i < a.length) : lgAt (a ++ b) i = lgAt a i := by unfold lgAt; rw [List.getElem?_append_left h]
theorem ofNat_to {n : Nat} (h : n < 256) : (UInt8.ofNat n).toNat = n := UInt8.toNat_ofNat_of_lt' (by have : UInt8.size = 256 := rfl; omega)
/-- What was laid is read, with any bytes behind. -/
theorem lgRead_raw {n : Nat} (h : n ≤ 268435455) (r : List UInt8) : lgRead (lgRaw n ++ r) = (n, lgSize n, 0) := by
  unfold lgRaw lgSize lgRead
  rcases Nat.lt_or_ge n 128 with h1 | h1
  · rw [if_pos h1, if_pos h1]
    have e0 := ofNat_to (n := n) (by omega)
    simp only [lgFrom, lgAt, lgVal, List.cons_append, List.nil_append, List.length_cons, List.getElem?_cons_zero, Option.getD_some, e0]
    rw [if_neg (by omega), if_neg (by omega), if_neg (by omega)]
    simp; omega
  rw [if_neg (show ¬ n < 128 by omega), if_neg (show ¬ n < 128 by omega)]
  rcases Nat.lt_or_ge n 16384 with h2 | h2
  · rw [if_pos h2, if_pos h2]
    have e0 := ofNat_to (n := 128 + n % 128) (by omega)
    have e1 := ofNat_to (n := n / 128) (by omega)
    simp only [lgFrom, lgAt, lgVal, List.cons_append, List.nil_append, List.length_cons, List.getElem?_cons_zero, List.getElem?_cons_succ, Option.getD_some, e0, e1]
    rw [if_neg (by omega), if_pos (by omega), if_neg (by omega), if_neg (by omega), if_neg (by omega)]
    simp; omega
  rw [if_neg (show ¬ n < 16384 by omega), if_neg (show ¬ n < 16384 by omega)]
  rcases Nat.lt_or_ge n 2097152 with h3 | h3
  · rw [if_pos h3, if_pos h3]
    have e0 := ofNat_to (n := 128 + n % 128) (by omega)
    have e1 := ofNat_to (n := 128 + n / 128 % 128) (by omega)
    have e2 := ofNat_to (n := n / 16384) (by omega)
    simp only [lgFrom, lgAt, lgVal, List.cons_append, List.nil_append, List.length_cons, List.getElem?_cons_zero, List.getElem?_cons_succ, Option.getD_some, e0, e1, e2]
    rw [if_neg (by omega), if_pos (by omega), if_neg (by omega), if_pos (by omega), if_neg (by omega), if_neg (by omega), if_neg (by omega)]
    simp; omega
  rw [if_neg (show ¬ n < 2097152 by omega), if_neg (show ¬ n < 2097152 by omega)]
  have e0 := ofNat_to (n := 128 + n % 128) (by omega)
  have e1 := ofNat_to (n := 128 + n / 128 % 128) (by omega)
  have e2 := ofNat_to (n := 128 + n / 16384 % 128) (by omega)
  have e3 := ofNat_to (n := n / 2097152) (by omega)
  simp only [lgFrom, lgAt, lgVal, List.cons_append, List.nil_append, List.length_cons, List.getElem?_cons_zero, List.getElem?_cons_succ, Option.getD_some, e0, e1, e2, e3]
  rw [if_neg (by omega), if_pos (by omega), if_neg (by omega), if_pos (by omega), if_neg (by omega), if_pos (by omega), if_neg (by omega), if_neg (by omega), if_neg (by omega)]
  simp; omega
/-- Bytes that all go on, fewer than four, tell nothing yet. -/
theorem lgRead_go (l : List UInt8) (hl : l.length ≤ 3) (h : ∀ x ∈ l, 128 ≤ x.toNat) : lgRead l = (0, 0, 0) := by
  match l, hl, h with
  | [], _, _ => rfl
  | [a], _, h =>
    have h0 := h a (by simp)
    simp [lgRead, lgFrom, lgAt, h0]
  | [a, b], _, h =>
    have h0 := h a (by simp)
    have h1 := h b (by simp)
    simp [lgRead, lgFrom, lgAt, h0, h1]
  | [a, b, c], _, h =>
    have h0 := h a (by simp)
    have h1 := h b (by simp)
    have h2 := h c (by simp)
    simp [lgRead, lgFrom, lgAt, h0, h1, h2]
  | a :: b :: c :: d :: t, hl, _ => simp at hl
/-- Of a beginning that is not all of it nothing is read yet. -/
theorem lgRead_cut {n : Nat} {j : Nat} (hj : j < lgSize n) : lgRead ((lgRaw n).take j) = (0, 0, 0) := by
  have hsz := lgSize_pos n
  refine lgRead_go _ (by rw [List.length_take]; omega) ?_
  have e0 := ofNat_to (n := 128 + n % 128) (by omega)
  have e1 := ofNat_to (n := 128 + n / 128 % 128) (by omega)
  have e2 := ofNat_to (n := 128 + n / 16384 % 128) (by omega)
  unfold lgSize at hj
  unfold lgRaw
  generalize UInt8.ofNat (128 + n % 128) = b0 at *
  generalize UInt8.ofNat (128 + n / 128 % 128) = b1 at *
  generalize UInt8.ofNat (128 + n / 16384 % 128) = b2 at *
  intro x hx
  split at hx
  · rename_i h1
    rw [if_pos h1] at hj
    obtain rfl : j = 0 := by omega
    simp at hx
  rename_i h1
  rw [if_neg h1] at hj
  split at hx
  · rename_i h2
    rw [if_pos h2] at hj
    obtain rfl | rfl : j = 0 ∨ j = 1 := by omega
    · simp at hx
    · simp at hx; subst hx; omega
  rename_i h2
  rw [if_neg h2] at hj
  split at hx
  · rename_i h3
    rw [if_pos h3] at hj
    obtain rfl | rfl | rfl : j = 0 ∨ j = 1 ∨ j = 2 := by omega
    · simp at hx
    · simp at hx; subst hx; omega
    · simp at hx; rcases hx with rfl | rfl <;> omega
  rename_i h3
  rw [if_neg h3] at hj
  obtain rfl | rfl | rfl | rfl : j = 0 ∨ j = 1 ∨ j = 2 ∨ j = 3 := by omega
  · simp at hx
  · simp at hx; subst hx; omega
  · simp at hx; rcases hx with rfl | rfl <;> omega
  · simp at hx; rcases hx with rfl | rfl | rfl <;> omega

/-- What the iterator over parts hands over: where the length begins, how many bytes it has, the part's, an error. -/
structure LgX where
  head : Nat
  size : Nat
  many : Nat
  err : Nat
  h1 : head ≤ 1000000
  h2 : size ≤ 4
  h3 : many ≤ 268435455
  h4 : err ≤ 250
def lgX (l : List UInt8) (hl : l.length ≤ 1000000) (p : Nat) (hp : p < l.length) : LgX :=
  ⟨p, (lgRead (l.drop p)).2.1, (lgRead (l.drop p)).1, (lgRead (l.drop p)).2.2, by omega, (lgRead_le _).2.1, (lgRead_le _).1, (lgRead_le _).2.2⟩
def lgItems (l : List UInt8) (hl : l.length ≤ 1000000) : Nat → Nat → List LgX
  | 0, _ => []
  | f + 1, p => if hp : p < l.length then lgX l hl p hp :: (if (lgRead (l.drop p)).2.1 = 0 then [] else lgItems l hl f (p + (lgRead (l.drop p)).2.1 + (lgRead (l.drop p)).1)) else []
theorem lgItems_len (l : List UInt8) (hl : l.length ≤ 1000000) (f p : Nat) : (lgItems l hl f p).length ≤ f := by
  induction f generalizing p with
  | zero => exact Nat.le_refl _
  | succ f ih =>
    unfold lgItems
    split
    · split
      · simp
      · have := ih (p + (lgRead (l.drop p)).2.1 + (lgRead (l.drop p)).1)
        simp only [List.length_cons]; omega
    · simp
/-- What the loop knows: an error, the parts' places, where the last one ends. -/
structure LgS where
  err : Nat
  ps : List (Nat × Nat)
  en : Nat
/-- One round: none where it is the last one. -/
def lgOne (len most : Nat) (x : LgX) (s : LgS) : Option LgS :=
  if x.err ≠ 0 then none
  else if most < x.many then some ⟨3, s.ps, s.en⟩
  else if x.size = 0 ∨ len < x.head + x.size + x.many then none
  else some ⟨s.err, s.ps ++ [(x.head + x.size, x.head + x.size + x.many)], x.head + x.size + x.many⟩
/-- What the last one leaves. -/
def lgLast (x : LgX) (s : LgS) : LgS := if x.err ≠ 0 then ⟨x.err, s.ps, s.en⟩ else s
def lgFold (len most : Nat) : List LgX → LgS → Option LgS
  | [], s => some s
  | x :: t, s => (lgOne len most x s).bind (lgFold len most t)
theorem lgFold_snoc (len most : Nat) (l : List LgX) (x : LgX) (s : LgS) : lgFold len most (l ++ [x]) s = (lgFold len most l s).bind (lgOne len most x) := by
  induction l generalizing s with
  | nil => simp [lgFold]
  | cons y t ih =>
    simp only [List.cons_append, lgFold]
    cases lgOne len most y s with
    | none => rfl
    | some s' => simp [ih]
theorem lgFold_len {len most : Nat} {l : List LgX} {s s' : LgS} (h : lgFold len most l s = some s') : s'.ps.length ≤ s.ps.length + l.length := by
  induction l generalizing s with
  | nil =>
    simp only [lgFold, Option.some.injEq] at h
    subst h; simp
  | cons x t ih =>
    simp only [lgFold] at h
    cases h1 : lgOne len most x s with
    | none => rw [h1] at h; cases h
    | some s1 =>
      rw [h1] at h
      have h2 := ih h
      have h3 : s1.ps.length ≤ s.ps.length + 1 := by
        unfold lgOne at h1
        split at h1
        · cases h1
        split at h1
        · cases h1; simp
        split at h1
        · cases h1
        · cases h1; simp
      simp only [List.length_cons]; omega
theorem lgFold_en {len most : Nat} {l : List LgX} {s s' : LgS} (h : lgFold len most l s = some s') (h0 : s.en ≤ len) : s'.en ≤ len := by
  induction l generalizing s with
  | nil =>
    simp only [lgFold, Option.some.injEq] at h
    subst h; exact h0
  | cons x t ih =>
    simp only [lgFold] at h
    cases h1 : lgOne len most x s with
    | none => rw [h1] at h; cases h
    | some s1 =>
      rw [h1] at h
      refine ih h ?_
      unfold lgOne at h1
      split at h1
      · cases h1
      split at h1
      · cases h1; exact h0
      split at h1
      · cases h1
      · cases h1; simp only []; omega
/-- How bytes are cut. -/
def lgCut (l : List UInt8) (most : Nat) : Nat → Nat → LgS → LgS
  | 0, _, s => s
  | f + 1, p, s =>
    if p < l.length then
      if (lgRead (l.drop p)).2.2 ≠ 0 then ⟨(lgRead (l.drop p)).2.2, s.ps, s.en⟩
      else if most < (lgRead (l.drop p)).1 then lgCut l most f (p + (lgRead (l.drop p)).2.1 + (lgRead (l.drop p)).1) ⟨3, s.ps, s.en⟩
      else if (lgRead (l.drop p)).2.1 = 0 ∨ l.length < p + (lgRead (l.drop p)).2.1 + (lgRead (l.drop p)).1 then s
      else lgCut l most f (p + (lgRead (l.drop p)).2.1 + (lgRead (l.drop p)).1) ⟨s.err, s.ps ++ [(p + (lgRead (l.drop p)).2.1, p + (lgRead (l.drop p)).2.1 + (lgRead (l.drop p)).1)], p + (lgRead (l.drop p)).2.1 + (lgRead (l.drop p)).1⟩
    else s
def lgSplit (l : List UInt8) (most : Nat) : LgS := lgCut l most (l.length + 1) 0 ⟨0, [], 0⟩
theorem lg_none {l : List UInt8} {most : Nat} (h : (lgRead l).2.1 = 0) : ¬ most < (lgRead l).1 := by rw [lgRead_none l h]; omega
/-- All were handed over, and none was the last one. -/
theorem lgCut_all (l : List UInt8) (hl : l.length ≤ 1000000) (most f p : Nat) (s s' : LgS) (h : lgFold l.length most (lgItems l hl f p) s = some s') : lgCut l most f p s = s' := by
  induction f generalizing p s with
  | zero => simpa [lgItems, lgFold, lgCut] using h
  | succ f ih =>
    unfold lgItems at h
    unfold lgCut
    split at h
    · rename_i hp
      rw [if_pos hp]
      have e1 : (lgX l hl p hp).err = (lgRead (l.drop p)).2.2 := rfl
      have e2 : (lgX l hl p hp).many = (lgRead (l.drop p)).1 := rfl
      have e3 : (lgX l hl p hp).size = (lgRead (l.drop p)).2.1 := rfl
      have e4 : (lgX l hl p hp).head = p := rfl
      simp only [lgFold, lgOne, e1, e2, e3, e4] at h
      by_cases h1 : (lgRead (l.drop p)).2.2 ≠ 0
      · rw [if_pos h1] at h; simp at h
      rw [if_neg h1] at h ⊢
      by_cases h2 : most < (lgRead (l.drop p)).1
      · rw [if_pos h2] at h ⊢
        rw [if_neg (fun h0 => lg_none h0 h2)] at h
        simp only [Option.bind_some] at h
        exact ih _ _ h
      rw [if_neg h2] at h ⊢
      by_cases h3 : (lgRead (l.drop p)).2.1 = 0 ∨ l.length < p + (lgRead (l.drop p)).2.1 + (lgRead (l.drop p)).1
      · rw [if_pos h3] at h; simp at h
      rw [if_neg h3] at h ⊢
      rw [if_neg (fun h0 => h3 (.inl h0))] at h
      simp only [Option.bind_some] at h
      exact ih _ _ h
    · rename_i hp
      rw [if_neg hp]
      simpa [lgFold] using h
/-- One of them was the last one. -/
theorem lgCut_stop (l : List UInt8) (hl : l.length ≤ 1000000) (most f p : Nat) (s s' : LgS) (pre rest : List LgX) (x : LgX) (he : lgItems l hl f p = pre ++ x :: rest) (h : lgFold l.length most pre s = some s') (hx : lgOne l.length most x s' = none) : lgCut l most f p s = lgLast x s' := by
  induction f generalizing p s pre with
  | zero => simp [lgItems] at he
  | succ f ih =>
    unfold lgItems at he
    unfold lgCut
    split at he
    · rename_i hp
      rw [if_pos hp]
      have e1 : (lgX l hl p hp).err = (lgRead (l.drop p)).2.2 := rfl
      have e2 : (lgX l hl p hp).many = (lgRead (l.drop p)).1 := rfl
      have e3 : (lgX l hl p hp).size = (lgRead (l.drop p)).2.1 := rfl
      have e4 : (lgX l hl p hp).head = p := rfl
      cases pre with
      | nil =>
        simp only [lgFold, Option.some.injEq] at h
        subst h
        simp only [List.nil_append, List.cons.injEq] at he
        obtain ⟨rfl, -⟩ := he
        simp only [lgOne, e1, e2, e3, e4] at hx
        simp only [lgLast, e1]
        by_cases h1 : (lgRead (l.drop p)).2.2 ≠ 0
        · rw [if_pos h1, if_pos h1]
        rw [if_neg h1] at hx ⊢
        by_cases h2 : most < (lgRead (l.drop p)).1
        · rw [if_pos h2] at hx; cases hx
        rw [if_neg h2] at hx ⊢
        by_cases h3 : (lgRead (l.drop p)).2.1 = 0 ∨ l.length < p + (lgRead (l.drop p)).2.1 + (lgRead (l.drop p)).1
        · rw [if_pos h3, if_neg h1]
        rw [if_neg h3] at hx; cases hx
      | cons y t =>
        simp only [List.cons_append, List.cons.injEq] at he
        obtain ⟨rfl, he⟩ := he
        simp only [lgFold, lgOne, e1, e2, e3, e4] at h
        by_cases h1 : (lgRead (l.drop p)).2.2 ≠ 0
        · rw [if_pos h1] at h; simp at h
        rw [if_neg h1] at h ⊢
        by_cases h2 : most < (lgRead (l.drop p)).1
        · rw [if_pos h2] at h ⊢
          rw [if_neg (fun h0 => lg_none h0 h2)] at he
          simp only [Option.bind_some] at h
          exact ih _ _ _ he h
        rw [if_neg h2] at h ⊢
        by_cases h3 : (lgRead (l.drop p)).2.1 = 0 ∨ l.length < p + (lgRead (l.drop p)).2.1 + (lgRead (l.drop p)).1
        · rw [if_pos h3] at h; simp at h
        rw [if_neg h3] at h ⊢
        rw [if_neg (fun h0 => h3 (.inl h0))] at he
        simp only [Option.bind_some] at h
        exact ih _ _ _ he h
    · simp at he
end Go.Proofs.YtmbjdfmbbmeofaaDoor

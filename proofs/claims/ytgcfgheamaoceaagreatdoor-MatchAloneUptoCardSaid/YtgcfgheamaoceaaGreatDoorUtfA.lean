/- Layer 12, of no program: runes, their bytes, what bytes begin with, what runes a text has. -/
namespace Go.Proofs.YtgcfgheamaoceaaGreatDoor

/-- May a rune be? -/
def mayN (r : Nat) : Bool := decide (r < 55296 ∨ 57343 < r ∧ r ≤ 1114111)
/-- How many bytes stand behind a rune's first one. -/
def lenB (r : Nat) : Nat := if r < 128 then 0 else if r < 2048 then 1 else if r < 65536 then 2 else 3
/-- A rune's bytes. -/
def rawR (r : Nat) : List UInt8 :=
  if r < 128 then [UInt8.ofNat r] else if r < 2048 then [UInt8.ofNat (192 + r / 64), UInt8.ofNat (128 + r % 64)]
  else if r < 65536 then [UInt8.ofNat (224 + r / 4096), UInt8.ofNat (128 + r / 64 % 64), UInt8.ofNat (128 + r % 64)]
  else [UInt8.ofNat (240 + r / 262144), UInt8.ofNat (128 + r / 4096 % 64), UInt8.ofNat (128 + r / 64 % 64), UInt8.ofNat (128 + r % 64)]
theorem rawR_length (r : Nat) : (rawR r).length = lenB r + 1 := by unfold rawR lenB; split <;> (try split) <;> (try split) <;> rfl
theorem lenB_le (r : Nat) : lenB r ≤ 3 := by unfold lenB; split <;> (try split) <;> (try split) <;> omega
def bt (l : List UInt8) (i : Nat) : Nat := (l[i]?.getD 0).toNat
theorem bt_lt (l : List UInt8) (i : Nat) : bt l i < 256 := UInt8.toNat_lt _
def nOf (b : Nat) : Nat := if b < 192 then 0 else if b < 224 then 1 else if b < 240 then 2 else 3
def leadOf : Nat → Nat
  | 0 => 0
  | 1 => 192
  | 2 => 224
  | _ => 240
theorem nOf_le (b : Nat) : nOf b ≤ 3 := by unfold nOf; split <;> (try split) <;> (try split) <;> omega
/-- What the first bytes tell, six bits each behind the first one's. -/
def valN (l : List UInt8) : Nat → Nat
  | 0 => bt l 0 - leadOf (nOf (bt l 0))
  | k + 1 => valN l k * 64 + bt l (k + 1) % 64
/-- Do they go on? -/
def goOn (l : List UInt8) : Nat → Bool
  | 0 => true
  | k + 1 => goOn l k && decide (bt l (k + 1) / 64 = 2)
theorem goOn_mono {l : List UInt8} {k n : Nat} (h : goOn l n = true) (hk : k ≤ n) : goOn l k = true := by
  induction n with
  | zero => obtain rfl : k = 0 := by omega
            rfl
  | succ n ih =>
    simp only [goOn, Bool.and_eq_true] at h
    by_cases e : k = n + 1
    · subst e; simp only [goOn, Bool.and_eq_true]; exact h
    · exact ih h.1 (by omega)
theorem goOn_one {l : List UInt8} {k n : Nat} (h : goOn l n = true) (h1 : 1 ≤ k) (hk : k ≤ n) : bt l k / 64 = 2 := by
  obtain ⟨j, rfl⟩ : ∃ j, k = j + 1 := ⟨k - 1, by omega⟩
  have := goOn_mono h hk
  simp only [goOn, Bool.and_eq_true, decide_eq_true_eq] at this
  exact this.2
/-- The rune that stands first, whole, and how many bytes it has. -/
def dec (l : List UInt8) : Option (Nat × Nat) :=
  if l.length ≤ nOf (bt l 0) then none
  else if goOn l (nOf (bt l 0)) = false then none
  else if valN l (nOf (bt l 0)) = 0 ∨ mayN (valN l (nOf (bt l 0))) = false ∨ lenB (valN l (nOf (bt l 0))) ≠ nOf (bt l 0) then none
  else some (valN l (nOf (bt l 0)), nOf (bt l 0) + 1)
theorem ofNat_eq {n : Nat} {b : UInt8} (h : n = b.toNat) : UInt8.ofNat n = b := by
  subst h; simp
theorem bt0 (b : UInt8) (t : List UInt8) : bt (b :: t) 0 = b.toNat := rfl
theorem bt1 (a b : UInt8) (t : List UInt8) : bt (a :: b :: t) 1 = b.toNat := rfl
theorem bt2 (a b c : UInt8) (t : List UInt8) : bt (a :: b :: c :: t) 2 = c.toNat := rfl
theorem bt3 (a b c d : UInt8) (t : List UInt8) : bt (a :: b :: c :: d :: t) 3 = d.toNat := rfl
theorem toNat_of {n : Nat} (h : n < 256) : (UInt8.ofNat n).toNat = n := UInt8.toNat_ofNat_of_lt' (by have : UInt8.size = 256 := rfl; omega)
theorem dec_yes {l : List UInt8} {r n : Nat} (h : dec l = some (r, n)) : 0 < r ∧ mayN r = true ∧ rawR r <+: l ∧ n = lenB r + 1 := by
  unfold dec at h
  split at h
  · cases h
  split at h
  · cases h
  split at h
  · cases h
  rename_i h1 h2 h3
  obtain ⟨rfl, rfl⟩ : valN l (nOf (bt l 0)) = r ∧ nOf (bt l 0) + 1 = n := by simpa using h
  have h3' : 0 < valN l (nOf (bt l 0)) ∧ mayN (valN l (nOf (bt l 0))) = true ∧ lenB (valN l (nOf (bt l 0))) = nOf (bt l 0) := by
    refine ⟨?_, ?_, ?_⟩
    · omega
    · cases hm : mayN (valN l (nOf (bt l 0))) with
      | true => rfl
      | false => exact absurd (.inr (.inl hm)) h3
    · by_cases he : lenB (valN l (nOf (bt l 0))) = nOf (bt l 0)
      · exact he
      · exact absurd (.inr (.inr he)) h3
  obtain ⟨p1, p2, p3⟩ := h3'
  refine ⟨p1, p2, ?_, by omega⟩
  have h2' : goOn l (nOf (bt l 0)) = true := by cases hg : goOn l (nOf (bt l 0)) with
    | true => rfl
    | false => exact absurd hg h2
  clear h h2 h3 p1 p2
  have hc : ∀ k, 1 ≤ k → k ≤ nOf (bt l 0) → bt l k / 64 = 2 := fun k a b => goOn_one h2' a b
  clear h2'
  obtain ⟨b0, t, rfl⟩ : ∃ b0 t, l = b0 :: t := by
    cases l with
    | nil => simp at h1
    | cons b t => exact ⟨b, t, rfl⟩
  rw [bt0] at h1 p3 hc ⊢
  have hb0 := b0.toNat_lt
  obtain ⟨m, hm⟩ : ∃ m, valN (b0 :: t) (nOf b0.toNat) = m := ⟨_, rfl⟩
  rw [hm] at p3 ⊢
  have q0 : m < 128 → lenB m = 0 := fun h => by unfold lenB; rw [if_pos h]
  have q1 : ¬ m < 128 → m < 2048 → lenB m = 1 := fun h h' => by unfold lenB; rw [if_neg h, if_pos h']
  have q2 : ¬ m < 2048 → m < 65536 → lenB m = 2 := fun h h' => by unfold lenB; rw [if_neg (by omega), if_neg h, if_pos h']
  have q3 : ¬ m < 65536 → lenB m = 3 := fun h => by unfold lenB; rw [if_neg (by omega), if_neg (by omega), if_neg h]
  rcases Nat.lt_or_ge b0.toNat 192 with hA | hA
  · have hn : nOf b0.toNat = 0 := by unfold nOf; rw [if_pos hA]
    rw [hn] at p3 hm
    have hv : b0.toNat = m := by rw [← hm, valN, bt0, hn]; rfl
    have hl : m < 128 := by omega
    unfold rawR; rw [if_pos hl]
    rw [ofNat_eq (b := b0) (by omega)]; exact ⟨t, rfl⟩
  rcases Nat.lt_or_ge b0.toNat 224 with hB | hB
  · have hn : nOf b0.toNat = 1 := by unfold nOf; rw [if_neg (by omega), if_pos hB]
    rw [hn] at p3 hm h1 hc
    obtain ⟨b1, t, rfl⟩ : ∃ b1 t', t = b1 :: t' := by
      cases t with
      | nil => simp at h1
      | cons b t => exact ⟨b, t, rfl⟩
    have c1 := hc 1 (by omega) (by omega)
    have hv : (b0.toNat - 192) * 64 + b1.toNat % 64 = m := by rw [← hm]; show _ = (bt (b0 :: b1 :: t) 0 - leadOf (nOf (bt (b0 :: b1 :: t) 0))) * 64 + bt (b0 :: b1 :: t) 1 % 64; rw [bt0, bt1, hn]; rfl
    rw [bt1] at c1
    have hb1 := b1.toNat_lt
    have hl : ¬ m < 128 ∧ m < 2048 := by omega
    unfold rawR; rw [if_neg hl.1, if_pos hl.2]
    rw [ofNat_eq (b := b0) (by omega), ofNat_eq (b := b1) (by omega)]; exact ⟨t, rfl⟩
  rcases Nat.lt_or_ge b0.toNat 240 with hC | hC
  · have hn : nOf b0.toNat = 2 := by unfold nOf; rw [if_neg (by omega), if_neg (by omega), if_pos hC]
    rw [hn] at p3 hm h1 hc
    obtain ⟨b1, b2, t, rfl⟩ : ∃ b1 b2 t', t = b1 :: b2 :: t' := by
      rcases t with _ | ⟨b, _ | ⟨c, t⟩⟩
      · simp at h1
      · simp at h1
      · exact ⟨b, c, t, rfl⟩
    have c1 := hc 1 (by omega) (by omega)
    have c2 := hc 2 (by omega) (by omega)
    have hv : ((b0.toNat - 224) * 64 + b1.toNat % 64) * 64 + b2.toNat % 64 = m := by rw [← hm]; show _ = ((bt (b0 :: b1 :: b2 :: t) 0 - leadOf (nOf (bt (b0 :: b1 :: b2 :: t) 0))) * 64 + bt (b0 :: b1 :: b2 :: t) 1 % 64) * 64 + bt (b0 :: b1 :: b2 :: t) 2 % 64; rw [bt0, bt1, bt2, hn]; rfl
    rw [bt1] at c1
    rw [bt2] at c2
    have hb1 := b1.toNat_lt
    have hb2 := b2.toNat_lt
    have hl : ¬ m < 128 ∧ ¬ m < 2048 ∧ m < 65536 := by omega
    unfold rawR; rw [if_neg hl.1, if_neg hl.2.1, if_pos hl.2.2]
    rw [ofNat_eq (b := b0) (by omega), ofNat_eq (b := b1) (by omega), ofNat_eq (b := b2) (by omega)]; exact ⟨t, rfl⟩
  · have hn : nOf b0.toNat = 3 := by unfold nOf; rw [if_neg (by omega), if_neg (by omega), if_neg (by omega)]
    rw [hn] at p3 hm h1 hc
    obtain ⟨b1, b2, b3, t, rfl⟩ : ∃ b1 b2 b3 t', t = b1 :: b2 :: b3 :: t' := by
      rcases t with _ | ⟨b, _ | ⟨c, _ | ⟨d, t⟩⟩⟩
      · simp at h1
      · simp at h1
      · simp at h1
      · exact ⟨b, c, d, t, rfl⟩
    have c1 := hc 1 (by omega) (by omega)
    have c2 := hc 2 (by omega) (by omega)
    have c3 := hc 3 (by omega) (by omega)
    have hv : (((b0.toNat - 240) * 64 + b1.toNat % 64) * 64 + b2.toNat % 64) * 64 + b3.toNat % 64 = m := by rw [← hm]; show _ = (((bt (b0 :: b1 :: b2 :: b3 :: t) 0 - leadOf (nOf (bt (b0 :: b1 :: b2 :: b3 :: t) 0))) * 64 + bt (b0 :: b1 :: b2 :: b3 :: t) 1 % 64) * 64 + bt (b0 :: b1 :: b2 :: b3 :: t) 2 % 64) * 64 + bt (b0 :: b1 :: b2 :: b3 :: t) 3 % 64; rw [bt0, bt1, bt2, bt3, hn]; rfl
    rw [bt1] at c1
    rw [bt2] at c2
    rw [bt3] at c3
    have hb1 := b1.toNat_lt
    have hb2 := b2.toNat_lt
    have hb3 := b3.toNat_lt
    have hl : ¬ m < 128 ∧ ¬ m < 2048 ∧ ¬ m < 65536 := by omega
    unfold rawR; rw [if_neg hl.1, if_neg hl.2.1, if_neg hl.2.2]
    rw [ofNat_eq (b := b0) (by omega), ofNat_eq (b := b1) (by omega), ofNat_eq (b := b2) (by omega), ofNat_eq (b := b3) (by omega)]; exact ⟨t, rfl⟩
theorem mayN_lt {r : Nat} (h : mayN r = true) : r < 1114112 := by unfold mayN at h; simp at h; omega
theorem dec_raw (r : Nat) (t : List UInt8) (h0 : 0 < r) (hm : mayN r = true) : dec (rawR r ++ t) = some (r, lenB r + 1) := by
  have hlt := mayN_lt hm
  rcases Nat.lt_or_ge r 128 with hA | hA
  · have hraw : rawR r = [UInt8.ofNat r] := by unfold rawR; rw [if_pos hA]
    have hle : lenB r = 0 := by unfold lenB; rw [if_pos hA]
    have e0 : bt (rawR r ++ t) 0 = r := by rw [hraw]; exact toNat_of (by omega)
    have hn : nOf r = 0 := by unfold nOf; rw [if_pos (by omega)]
    have hv : valN (rawR r ++ t) 0 = r := by simp [valN, e0, hn, leadOf]
    have hL : (rawR r ++ t).length = 1 + t.length := by rw [hraw]; simp; omega
    unfold dec
    rw [e0, hn, if_neg (by omega), if_neg (by simp [goOn]), hv, if_neg (by rw [hm, hle]; simp; omega), hle]
  rcases Nat.lt_or_ge r 2048 with hB | hB
  · have hraw : rawR r = [UInt8.ofNat (192 + r / 64), UInt8.ofNat (128 + r % 64)] := by unfold rawR; rw [if_neg (by omega), if_pos hB]
    have hle : lenB r = 1 := by unfold lenB; rw [if_neg (by omega), if_pos hB]
    have e0 : bt (rawR r ++ t) 0 = 192 + r / 64 := by rw [hraw]; exact toNat_of (by omega)
    have e1 : bt (rawR r ++ t) 1 = 128 + r % 64 := by rw [hraw]; exact toNat_of (by omega)
    have hn : nOf (192 + r / 64) = 1 := by unfold nOf; rw [if_neg (by omega), if_pos (by omega)]
    have hv : valN (rawR r ++ t) 1 = r := by simp only [valN, e0, e1, hn, leadOf]; omega
    have hL : (rawR r ++ t).length = 2 + t.length := by rw [hraw]; simp; omega
    unfold dec
    rw [e0, hn, if_neg (by omega), if_neg (by simp [goOn, e1]; omega), hv, if_neg (by rw [hm, hle]; simp; omega), hle]
  rcases Nat.lt_or_ge r 65536 with hC | hC
  · have hraw : rawR r = [UInt8.ofNat (224 + r / 4096), UInt8.ofNat (128 + r / 64 % 64), UInt8.ofNat (128 + r % 64)] := by unfold rawR; rw [if_neg (by omega), if_neg (by omega), if_pos hC]
    have hle : lenB r = 2 := by unfold lenB; rw [if_neg (by omega), if_neg (by omega), if_pos hC]
    have e0 : bt (rawR r ++ t) 0 = 224 + r / 4096 := by rw [hraw]; exact toNat_of (by omega)
    have e1 : bt (rawR r ++ t) 1 = 128 + r / 64 % 64 := by rw [hraw]; exact toNat_of (by omega)
    have e2 : bt (rawR r ++ t) 2 = 128 + r % 64 := by rw [hraw]; exact toNat_of (by omega)
    have hn : nOf (224 + r / 4096) = 2 := by unfold nOf; rw [if_neg (by omega), if_neg (by omega), if_pos (by omega)]
    have hv : valN (rawR r ++ t) 2 = r := by simp only [valN, e0, e1, e2, hn, leadOf]; omega
    have hL : (rawR r ++ t).length = 3 + t.length := by rw [hraw]; simp; omega
    unfold dec
    rw [e0, hn, if_neg (by omega), if_neg (by simp [goOn, e1, e2]; omega), hv, if_neg (by rw [hm, hle]; simp; omega), hle]
  · have hraw : rawR r = [UInt8.ofNat (240 + r / 262144), UInt8.ofNat (128 + r / 4096 % 64), UInt8.ofNat (128 + r / 64 % 64), UInt8.ofNat (128 + r % 64)] := by unfold rawR; rw [if_neg (by omega), if_neg (by omega), if_neg (by omega)]
    have hle : lenB r = 3 := by unfold lenB; rw [if_neg (by omega), if_neg (by omega), if_neg (by omega)]
    have e0 : bt (rawR r ++ t) 0 = 240 + r / 262144 := by rw [hraw]; exact toNat_of (by omega)
    have e1 : bt (rawR r ++ t) 1 = 128 + r / 4096 % 64 := by rw [hraw]; exact toNat_of (by omega)
    have e2 : bt (rawR r ++ t) 2 = 128 + r / 64 % 64 := by rw [hraw]; exact toNat_of (by omega)
    have e3 : bt (rawR r ++ t) 3 = 128 + r % 64 := by rw [hraw]; exact toNat_of (by omega)
    have hn : nOf (240 + r / 262144) = 3 := by unfold nOf; rw [if_neg (by omega), if_neg (by omega), if_neg (by omega)]
    have hv : valN (rawR r ++ t) 3 = r := by simp only [valN, e0, e1, e2, e3, hn, leadOf]; omega
    have hL : (rawR r ++ t).length = 4 + t.length := by rw [hraw]; simp; omega
    unfold dec
    rw [e0, hn, if_neg (by omega), if_neg (by simp [goOn, e1, e2, e3]; omega), hv, if_neg (by rw [hm, hle]; simp; omega), hle]
theorem dec_iff {l : List UInt8} {r n : Nat} : dec l = some (r, n) ↔ 0 < r ∧ mayN r = true ∧ rawR r <+: l ∧ n = lenB r + 1 := by
  refine ⟨dec_yes, ?_⟩
  rintro ⟨h0, hm, ⟨t, rfl⟩, rfl⟩
  exact dec_raw r t h0 hm
theorem dec_nil : dec [] = none := by decide
/-- A rune that may be, and may stand in a text. -/
def Good (r : Nat) : Prop := 0 < r ∧ mayN r = true
/-- The bytes of runes. -/
def textR : List Nat → List UInt8
  | [] => []
  | r :: t => rawR r ++ textR t
theorem textR_append (a b : List Nat) : textR (a ++ b) = textR a ++ textR b := by
  induction a with
  | nil => rfl
  | cons r a ih => simp [textR, ih]
theorem textR_one (r : Nat) : textR [r] = rawR r := by simp [textR]
/-- The runes with which bytes begin, as far as they go. -/
def Reads (l : List UInt8) (rs : List Nat) : Prop := (∀ r ∈ rs, Good r) ∧ ∃ rest, l = textR rs ++ rest ∧ dec rest = none
theorem reads_some (l : List UInt8) : ∃ rs, Reads l rs := by
  induction hn : l.length using Nat.strongRecOn generalizing l with
  | ind n ih =>
    cases hd : dec l with
    | none => exact ⟨[], (fun _ h => by cases h), l, rfl, hd⟩
    | some p =>
      obtain ⟨r, k⟩ := p
      obtain ⟨h0, hm, ⟨t, rfl⟩, rfl⟩ := dec_yes hd
      have hL := rawR_length r
      obtain ⟨rs, hg, rest, ht, hdr⟩ := ih t.length (by rw [← hn]; simp; omega) t rfl
      refine ⟨r :: rs, ?_, rest, by rw [ht, textR, List.append_assoc], hdr⟩
      intro x hx
      rcases List.mem_cons.1 hx with rfl | hx
      · exact ⟨h0, hm⟩
      · exact hg x hx
theorem reads_one {l : List UInt8} {rs rs' : List Nat} (h : Reads l rs) (h' : Reads l rs') : rs = rs' := by
  induction rs generalizing l rs' with
  | nil =>
    obtain ⟨-, rest, rfl, hd⟩ := h
    cases rs' with
    | nil => rfl
    | cons r t =>
      obtain ⟨hg, rest', he, -⟩ := h'
      have := dec_raw r (textR t ++ rest') (hg r (by simp)).1 (hg r (by simp)).2
      simp only [textR, List.append_assoc] at he
      rw [← he, hd] at this
      cases this
  | cons r rs ih =>
    obtain ⟨hg, rest, hl, hd⟩ := h
    have h1 := dec_raw r (textR rs ++ rest) (hg r (by simp)).1 (hg r (by simp)).2
    cases rs' with
    | nil =>
      obtain ⟨-, rest', he, hd'⟩ := h'
      simp only [textR, List.nil_append] at he
      subst he
      rw [hl] at hd'
      simp only [textR, List.append_assoc] at hd'
      rw [h1] at hd'
      cases hd'
    | cons r' rs' =>
      obtain ⟨hg', rest', he, hd'⟩ := h'
      have h2 := dec_raw r' (textR rs' ++ rest') (hg' r' (by simp)).1 (hg' r' (by simp)).2
      simp only [textR, List.append_assoc] at hl he
      rw [← hl, he, h2] at h1
      obtain rfl : r' = r := by simpa using (congrArg (Option.map Prod.fst) h1)
      have hrest : textR rs ++ rest = textR rs' ++ rest' := List.append_cancel_left (hl.symm.trans he)
      rw [ih (l := textR rs ++ rest) ⟨fun x hx => hg x (by simp [hx]), rest, rfl, hd⟩ ⟨fun x hx => hg' x (by simp [hx]), rest', hrest, hd'⟩]
end Go.Proofs.YtgcfgheamaoceaaGreatDoor

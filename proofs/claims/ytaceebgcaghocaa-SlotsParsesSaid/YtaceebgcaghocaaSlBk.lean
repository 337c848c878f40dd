/- Layer 5: what is read was laid so (the way back); the document`s reading of cells, purely: what it reads and lays anew is what is read. -/
import Derived.Test.YtaceebgcaghocaaSlRt
namespace Go.Proofs.Ytaceebgcaghocaa
open Go.RowKit

theorem numOf_inj5 : ∀ (k : Nat) (l m : List UInt8), l.length = k → m.length = k → numOf l = numOf m → l = m
  | 0, l, m, hl, hm, _ => by rw [List.eq_nil_of_length_eq_zero hl, List.eq_nil_of_length_eq_zero hm]
  | k + 1, l, m, hl, hm, h => by
    have hl0 : l ≠ [] := by rintro rfl; simp at hl
    have hm0 : m ≠ [] := by rintro rfl; simp at hm
    rw [← List.dropLast_concat_getLast hl0, ← List.dropLast_concat_getLast hm0, numOf_snoc, numOf_snoc] at h
    have h1 := UInt8.toNat_lt (l.getLast hl0)
    have h2 := UInt8.toNat_lt (m.getLast hm0)
    have e1 := numOf_inj5 k l.dropLast m.dropLast (by simp [hl]) (by simp [hm]) (by omega)
    have e2 : l.getLast hl0 = m.getLast hm0 := UInt8.toNat_inj.1 (by omega)
    rw [← List.dropLast_concat_getLast hl0, ← List.dropLast_concat_getLast hm0, e1, e2]
theorem laid_numOf5 {l : List UInt8} {k : Nat} (h : l.length = k) : laidB (numOf l) k k = l :=
  numOf_inj5 k _ _ (laidB_len _ _ _) h (by
    have := numOf_lt l
    rw [h] at this
    exact numOf_whole5 this)
/-- A text that is read was laid so. -/
theorem tx_forth {r : List UInt8} (h : TxOk r) : r = [UInt8.ofNat (txS r).size] ++ ((txS r).data.toList ++ txR r) := by
  unfold TxOk at h
  cases r with
  | nil => exact absurd h (by simp)
  | cons b t =>
    have e1 : numOf ((b :: t).take 1) = b.toNat := by simp [numOf]
    rw [e1] at h
    simp only [List.length_cons] at h
    have e2 : txS (b :: t) = ⟨(t.take b.toNat).toArray⟩ := by unfold txS; rw [e1]; rfl
    have e3 : txR (b :: t) = t.drop b.toNat := by unfold txR; rw [e1, Nat.add_comm, List.drop_succ_cons]
    have e4 : (txS (b :: t)).size = b.toNat := by
      rw [e2]
      show (t.take b.toNat).toArray.size = b.toNat
      rw [List.size_toArray, List.length_take]
      omega
    rw [e4, e2, e3]
    show b :: t = [UInt8.ofNat b.toNat] ++ (t.take b.toNat ++ t.drop b.toNat)
    rw [List.take_append_drop, UInt8.ofNat_toNat]
    rfl
theorem four_of {r : List UInt8} (h : 4 ≤ r.length) : laidB ((numOf (r.take 4) : Int).toNat) 4 4 ++ r.drop 4 = r := by
  rw [Int.toNat_natCast, laid_numOf5 (by rw [List.length_take]; omega), List.take_append_drop]
theorem part_forth {leaf : Bool} {r t : List UInt8} {c : Cv} (hr : readPart leaf r = some (c, t)) (h : CellOk leaf c) : r = (handOf leaf c).1 ++ t := by
  cases leaf
  · have e : readPart false r = readBranch r := rfl
    rw [e] at hr
    unfold readBranch at hr
    split at hr
    · rename_i hx
      split at hr
      · rename_i h4
        simp only [Option.some.injEq, Prod.mk.injEq] at hr
        obtain ⟨rfl, rfl⟩ := hr
        rw [hand_branch h, List.append_assoc, List.append_assoc, four_of h4]
        exact tx_forth hx
      · cases hr
    · cases hr
  · have e : readPart true r = readLeaf r := rfl
    rw [e] at hr
    unfold readLeaf at hr
    split at hr
    · rename_i hx
      have ht := tx_forth hx
      obtain ⟨q, hq⟩ : ∃ q, txR r = q := ⟨_, rfl⟩
      rw [hq] at hr ht
      split at hr
      · cases hr
      · rename_i h1
        cases q with
        | nil => exact absurd h1 (by simp)
        | cons x q =>
          have e1 : numOf ((x :: q).take 1) = x.toNat := by simp [numOf]
          have e2 : (x :: q).drop 1 = q := rfl
          rw [e1] at h1 hr
          rw [e2] at hr
          split at hr
          · rename_i hx1
            have hx1 : x = 1 := UInt8.toNat_inj.1 (by simpa using hx1)
            unfold readLong at hr
            split at hr
            · rename_i h4
              split at hr
              · rename_i h8
                simp only [Option.some.injEq, Prod.mk.injEq] at hr
                obtain ⟨rfl, rfl⟩ := hr
                rw [hand_long h rfl]
                simp only [List.append_assoc]
                rw [four_of h8, four_of h4]
                subst hx1
                exact ht
              · cases hr
            · cases hr
          · rename_i hx1
            have hx0 : x = 0 := UInt8.toNat_inj.1 (by
              simp only [beq_iff_eq] at hx1
              have : ((0 : UInt8).toNat) = 0 := rfl
              omega)
            unfold readShort at hr
            split at hr
            · rename_i hy
              simp only [Option.some.injEq, Prod.mk.injEq] at hr
              obtain ⟨rfl, rfl⟩ := hr
              rw [hand_short h rfl]
              have hqq := tx_forth hy
              subst hx0
              refine ht.trans ?_
              simp only [List.append_assoc]
              rw [show ([0, UInt8.ofNat (txS q).size] : List UInt8) = [0] ++ [UInt8.ofNat (txS q).size] from rfl, List.append_assoc, ← hqq]
              rfl
            · cases hr
    · cases hr
/-- What was read of the words behind the head is their bytes; every place stands. -/
theorem upto_forth {leaf : Bool} {b rem : List UInt8} : ∀ {i : Nat} {L : List Cv} {r : List UInt8}, readUpto leaf b i rem = some (L, r) → (∀ c ∈ L, CellOk leaf c) →
    rem = (bytesOf leaf L).flatten ++ r ∧ ∀ j, j < i → placeAt b j = b.length - (rem.length - ((bytesOf leaf L).take j).flatten.length) := by
  intro i
  induction i with
  | zero => intro L r h _; rw [readUpto] at h; cases h; exact ⟨rfl, fun j hj => by omega⟩
  | succ i ih =>
    intro L r h hok
    rw [readUpto] at h
    cases hx : readUpto leaf b i rem with
    | none => rw [hx] at h; cases h
    | some x =>
      obtain ⟨M, m⟩ := x
      rw [hx] at h
      simp only [Option.bind_some] at h
      split at h
      · rename_i hp
        cases hy : readPart leaf m with
        | none => rw [hy] at h; cases h
        | some y =>
          obtain ⟨c, t⟩ := y
          rw [hy] at h
          simp only [Option.map_some, Option.some.injEq, Prod.mk.injEq] at h
          obtain ⟨rfl, rfl⟩ := h
          obtain ⟨h1, h2⟩ := ih hx (fun c hc => hok c (List.mem_append.2 (.inl hc)))
          have h3 := part_forth hy (hok c (List.mem_append.2 (.inr (List.mem_singleton.2 rfl))))
          have hM := readUpto_len hx
          have e1 : bytesOf leaf (M ++ [c]) = bytesOf leaf M ++ [(handOf leaf c).1] := by simp [bytesOf]
          have e2 : ∀ j, j ≤ i → (bytesOf leaf (M ++ [c])).take j = (bytesOf leaf M).take j := fun j hj => by
            rw [e1, List.take_append_of_le_length (by rw [bytesOf_len]; omega)]
          refine ⟨by rw [e1, List.flatten_append, List.flatten_singleton, List.append_assoc, ← h3]; exact h1, fun j hj => ?_⟩
          rw [e2 j (by omega)]
          by_cases hji : j = i
          · subst hji
            rw [List.take_of_length_le (by rw [bytesOf_len]; omega)]
            have h4 := congrArg List.length h1
            rw [List.length_append] at h4
            omega
          · exact h2 j (by omega)
      · cases h
/-- What is read has just these bytes. -/
theorem raw_forth {k : Int} {b : List UInt8} {L : List Cv} (h : Parsed k b L) : rawB (bytesOf (k == 2) L) = b := by
  obtain ⟨h232, h2, hn, hu, hr⟩ := h
  have hL := readUpto_len hu
  obtain ⟨n, hcn⟩ : ∃ n, countOf b = n := ⟨_, rfl⟩
  rw [hcn] at hn hu hL
  obtain ⟨h1, h3⟩ := upto_forth hu (fun c hc => by
    obtain ⟨j, hj, rfl⟩ := List.mem_iff_getElem.1 hc
    have := (hr.2.2 j hj).1
    rwa [show L.getD j default = L[j] by simp [List.getD, hj]] at this)
  rw [List.append_nil] at h1
  obtain ⟨ls, hls⟩ : ∃ ls, bytesOf (k == 2) L = ls := ⟨_, rfl⟩
  have hlen : ls.length = n := by rw [← hls, bytesOf_len]; exact hL
  rw [hls] at h1 h3 ⊢
  have hheads : ∀ i, i ≤ n → headsUpto ls i = (b.drop 2).take (2 * i) := by
    intro i
    induction i with
    | zero => intro _; simp [headsUpto]
    | succ i ih =>
      intro hi
      have e := h3 i (by omega)
      have el : (b.drop (2 + 2 * n)).length = b.length - (2 + 2 * n) := List.length_drop
      have ef : (ls.take i).flatten.length ≤ ls.flatten.length := by
        conv => rhs; rw [← List.take_append_drop i ls]
        rw [List.flatten_append, List.length_append]; omega
      rw [← h1, el] at ef
      rw [el] at e
      rw [headsUpto_succ, ih (by omega), hlen, show 2 + 2 * n + (ls.take i).flatten.length = placeAt b i by omega]
      have e5 : ((b.drop (2 + 2 * i)).take 2).length = 2 := by rw [List.length_take, List.length_drop]; omega
      unfold placeAt
      rw [laid_numOf5 e5, ← List.drop_drop, show 2 * (i + 1) = 2 * i + 2 by omega, List.take_add]
  unfold rawB
  rw [hheads ls.length (by omega), hlen, ← h1, ← hcn]
  unfold countOf
  rw [laid_numOf5 (by rw [List.length_take]; omega)]
  have e6 : b.drop (2 + 2 * numOf (b.take 2)) = (b.drop 2).drop (2 * numOf (b.take 2)) := by rw [List.drop_drop]
  rw [e6, List.append_assoc, List.take_append_drop, List.take_append_drop]
/-- The document's reading of a cell; of many; no place is looked at. -/
def docLeaf (r : List UInt8) : Option (Cv × List UInt8) :=
  if TxOk r then (if (txR r).length < 1 then none else if numOf ((txR r).take 1) == 1 then readLong (txS r) ((txR r).drop 1) else readShort (txS r) ((txR r).drop 1)) else none
def docPart (leaf : Bool) (r : List UInt8) : Option (Cv × List UInt8) := if leaf then docLeaf r else readBranch r
def docUpto (leaf : Bool) : Nat → List UInt8 → Option (List Cv × List UInt8)
  | 0, rem => some ([], rem)
  | i + 1, rem => (docUpto leaf i rem).bind fun x => (docPart leaf x.2).map fun y => (x.1 ++ [y.1], y.2)
theorem doc_read {leaf : Bool} {r : List UInt8} {x : Cv × List UInt8} (h : readPart leaf r = some x) : docPart leaf r = some x := by
  cases leaf
  · exact h
  · show docLeaf r = some x
    have h : readLeaf r = some x := h
    unfold readLeaf at h
    unfold docLeaf
    split at h
    · rename_i h1
      rw [if_pos h1]
      split at h
      · cases h
      · rename_i h2
        rw [if_neg (fun h3 => h2 (.inl h3))]
        exact h
    · cases h
theorem docUpto_read {leaf : Bool} {b rem : List UInt8} : ∀ {i : Nat} {x : List Cv × List UInt8}, readUpto leaf b i rem = some x → docUpto leaf i rem = some x := by
  intro i
  induction i with
  | zero => intro x h; rw [readUpto] at h; exact h
  | succ i ih =>
    intro x h
    rw [readUpto] at h
    cases hx : readUpto leaf b i rem with
    | none => rw [hx] at h; cases h
    | some y =>
      rw [hx] at h
      rw [docUpto, ih hx]
      simp only [Option.bind_some] at h ⊢
      split at h
      · cases hy : readPart leaf y.2 with
        | none => rw [hy] at h; cases h
        | some z => rw [hy] at h; rw [doc_read hy]; exact h
      · cases h
theorem docUpto_none {leaf : Bool} {rem : List UInt8} {i : Nat} (h : docUpto leaf i rem = none) : ∀ n, i ≤ n → docUpto leaf n rem = none := fun n hn => by
  induction n with
  | zero => obtain rfl : i = 0 := by omega
            exact h
  | succ n ih =>
    by_cases he : i = n + 1
    · rw [← he]; exact h
    · rw [docUpto, ih (by omega)]; rfl
/-- What the document reads and lays anew is what is read; and back. -/
theorem doc_parsed {k : Int} {b : List UInt8} {L : List Cv} (h232 : b.length ≤ 232) :
    Parsed k b L ↔ ∃ r, docUpto (k == 2) (countOf b) (b.drop (2 + 2 * countOf b)) = some (L, r) ∧ RightC k L ∧ rawB (bytesOf (k == 2) L) = b := by
  constructor
  · intro h
    exact ⟨[], docUpto_read h.2.2.2.1, h.2.2.2.2, raw_forth h⟩
  · rintro ⟨r, -, hr, hb⟩
    have hl := congrArg List.length hb
    rw [rawB_len] at hl
    have h := parsed_raw hr (by omega)
    rwa [hb] at h
end Go.Proofs.Ytaceebgcaghocaa

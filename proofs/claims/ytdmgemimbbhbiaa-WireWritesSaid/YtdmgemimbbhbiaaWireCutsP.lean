/- Layer 3: runs of texts, whole and cut short; a run of texts that came in. -/
import Derived.SliceStrings
import Derived.Test.YtdmgemimbbhbiaaWireP
namespace Go.Proofs.Ytdmgemimbbhbiaa
open Go.RowKit Go.ChangeShapes Go.WideShapes

def textB (s : ByteArray) : List UInt8 := laidB s.size 2 2 ++ s.data.toList
theorem textB_len (s : ByteArray) : (textB s).length = 2 + s.size := by unfold textB; rw [List.length_append, laidB_len, data_len]
def textsB (L : List ByteArray) : List UInt8 := L.flatMap textB
def tot (L : List ByteArray) : Nat := (L.map (·.size)).sum
theorem take_snoc {α : Type} {L : List α} {k : Nat} {d : α} (h : k < L.length) : L.take (k + 1) = L.take k ++ [L.getD k d] := by
  rw [List.take_succ_eq_append_getElem h]; simp [List.getD, h]
theorem drop_cons {α : Type} {L : List α} {k : Nat} {d : α} (h : k < L.length) : L.drop k = L.getD k d :: L.drop (k + 1) := by
  rw [List.drop_eq_getElem_cons h]; simp [List.getD, h]
theorem textsB_snoc {L : List ByteArray} {k : Nat} (h : k < L.length) : textsB (L.take (k + 1)) = textsB (L.take k) ++ textB (L.getD k ByteArray.empty) := by
  rw [take_snoc (d := ByteArray.empty) h]; simp [textsB]
theorem tot_snoc {L : List ByteArray} {k : Nat} (h : k < L.length) : tot (L.take (k + 1)) = tot (L.take k) + (L.getD k ByteArray.empty).size := by
  rw [take_snoc (d := ByteArray.empty) h]; simp [tot]
theorem textsB_len (L : List ByteArray) : (textsB L).length = 2 * L.length + tot L := by
  induction L with
  | nil => rfl
  | cons s L ih =>
    have h1 : textsB (s :: L) = textB s ++ textsB L := by simp [textsB]
    have h2 : tot (s :: L) = s.size + tot L := by simp [tot]
    rw [h1, h2, List.length_append, textB_len, ih, List.length_cons]; omega
theorem textsB_split (L : List ByteArray) (k : Nat) : textsB L = textsB (L.take k) ++ textsB (L.drop k) := by
  unfold textsB; rw [← List.flatMap_append, List.take_append_drop]
theorem textsB_cons {L : List ByteArray} {k : Nat} (h : k < L.length) : textsB (L.drop k) = textB (L.getD k ByteArray.empty) ++ textsB (L.drop (k + 1)) := by
  rw [drop_cons (d := ByteArray.empty) h]; simp [textsB]
theorem rText_cut (s : ByteArray) (hs : s.size ≤ 65535) (t : List UInt8) (m : Nat) :
    rText ((textB s ++ t).take m) = if m < 2 + s.size then ([], 130, (textB s ++ t).take m) else (s.data.toList, 0, t.take (m - (2 + s.size))) := by
  by_cases h : m < 2 + s.size
  · rw [if_pos h]
    apply rText_short
    by_cases h2 : m < 2
    · exact .inl (by rw [List.length_take]; omega)
    · refine .inr ?_
      have e1 : ((textB s ++ t).take m).take 2 = laidB s.size 2 2 := by
        rw [List.take_take, show min 2 m = 2 by omega]
        unfold textB
        rw [List.append_assoc, take_laid]
      rw [e1, numOf_whole (by omega), List.length_take]; omega
  · rw [if_neg h]
    have e1 : (textB s ++ t).take m = textB s ++ t.take (m - (2 + s.size)) := by
      rw [List.take_append, List.take_of_length_le (by rw [textB_len]; omega), textB_len]
    rw [e1]
    exact rText_text s hs _

/-- From the slice's address on lie these texts. -/
def StrsAt (n₀ : Nat) (W : World) (a : Option Addr) (L : List ByteArray) : Prop := L ≠ [] → ∃ b off, a = some ⟨b, off, none⟩ ∧ b < n₀ ∧ ∀ j, j < L.length → W.cell? ⟨b, off + j, none⟩ = some (.string (L.getD j ByteArray.empty))
section
variable {H : Type} {enc : TypeId × Value → H} {P : Program}
/-- An argument of texts, opened. -/
theorem open_strs {t e : TypeId} {base : Nat} {W : World} {v : Value} {d : DataW H} {ps : List MemPlace} (ht : P.underlying t = some (.slice e)) (he : P.underlying e = some .string) (hc : P.cellsOf e = 1)
    (hok : Value.okWide P W .any base t v) (h : DataW.Trod enc P W 0 (fun _ => true) true t v d ps) :
    ∃ a L cap, v = .slice a (L : List ByteArray).length cap ∧ L.length ≤ cap ∧ cap ≤ maxLen ∧ StrsAt W.heap.size W a L ∧ (∀ s ∈ L, s.size ≤ maxLen) := by
  obtain ⟨a0, len, cap, rfl⟩ := okWide_slice ht hok
  obtain ⟨fuel, hf⟩ := h
  rcases open_strings ht he hc hf with ⟨hcs, hx⟩ | ⟨a, len', cap', ss, hcs, _, hl, hm, hz, hx, hcell, hsz⟩
  · simp [Value.cells] at hcs
    obtain ⟨rfl, rfl, rfl⟩ := hcs
    exact ⟨none, [], 0, rfl, Nat.le_refl _, Nat.zero_le _, fun h => absurd rfl h, by simp⟩
  · simp [Value.cells] at hcs
    obtain ⟨rfl, rfl, rfl⟩ := hcs
    simp only [if_true] at hz
    have hlen : (ss.take len).length = len := by rw [List.length_take]; omega
    refine ⟨some a, ss.take len, cap, by rw [hlen], by omega, hm, ?_, fun s hs => hsz s (List.mem_of_mem_take hs)⟩
    intro hne
    have h0 : 0 < len := by
      rcases Nat.eq_zero_or_pos len with h0 | h0
      · subst h0; simp at hne
      · exact h0
    obtain ⟨b, off, spot⟩ := a
    have hspot : spot = none := by simpa [Addr.add] using World.cell?_spot (hcell 0 (by omega))
    subst hspot
    refine ⟨b, off, rfl, ?_, fun j hj => ?_⟩
    · have := cell_lt (hcell 0 (by omega)); simpa [Addr.add] using this
    · rw [hlen] at hj
      have h1 := hcell j (by omega)
      rw [addr_add] at h1
      rw [h1]
      simp [List.getD, hj]
end
end Go.Proofs.Ytdmgemimbbhbiaa

/- Layer 12: a slice of runes in memory; the iterator over it; Raw's look ahead. -/
import Derived.Test.YtgcfgheamaoceaaGreatDoorUtfF
namespace Go.Proofs.YtgcfgheamaoceaaGreatDoor
open Go.RowKit Go.Shelf

attribute [local go_sem] Oper.semAt_some

/-- From the slice's address on lie these numbers, in a block that K names. -/
def RnOn (K : Nat → Prop) (W : World) (a : Option Addr) (l : List Int) : Prop := l ≠ [] → ∃ b off, a = some ⟨b, off, none⟩ ∧ K b ∧ ∀ j, j < l.length → W.cell? ⟨b, off + j, none⟩ = some (.int .i32 (l[j]?.getD 0))
theorem RnOn.keeps {K : Nat → Prop} {A B : World} {a : Option Addr} {l : List Int} (h : KeepsOn K A B) (k : RnOn K A a l) : RnOn K B a l := fun hl => by
  obtain ⟨b, off, rfl, hb, hc⟩ := k hl
  exact ⟨b, off, rfl, hb, fun j hj => (h.cell hb).trans (hc j hj)⟩
theorem RnOn.mono {K K' : Nat → Prop} {A : World} {a : Option Addr} {l : List Int} (hn : ∀ b, K b → K' b) (k : RnOn K A a l) : RnOn K' A a l := fun hl => by
  obtain ⟨b, off, rfl, hb, hc⟩ := k hl
  exact ⟨b, off, rfl, hn b hb, hc⟩
abbrev Lt (n k : Nat) : Prop := k < n
def idxL : Nat → List Int → List (Nat × Int)
  | _, [] => []
  | a, r :: t => (a, r) :: idxL (a + 1) t
theorem idxL_snoc (a : Nat) (l : List Int) (r : Int) : idxL a (l ++ [r]) = idxL a l ++ [(a + l.length, r)] := by
  induction l generalizing a with
  | nil => simp [idxL]
  | cons x t ih => simp only [List.cons_append, idxL, ih, List.length_cons]; rw [show a + 1 + t.length = a + (t.length + 1) by omega]
theorem idxL_len (a : Nat) (l : List Int) : (idxL a l).length = l.length := by
  induction l generalizing a with
  | nil => rfl
  | cons x t ih => simp [idxL, ih]
theorem idxL_prefix (l : List Int) (k a : Nat) : idxL a (l.take k) <+: idxL a l := by
  induction l generalizing k a with
  | nil => simp
  | cons r t ih =>
    cases k with
    | zero => simp [idxL]
    | succ k =>
      have := ih k (a + 1)
      simpa [idxL] using this
theorem suchL_idx (p : Int → Bool) (a : Nat) (l : List Int) : (suchL p (idxL a l)).length = (l.filter p).length := by
  induction l generalizing a with
  | nil => rfl
  | cons r t ih =>
    have := ih (a + 1)
    unfold suchL at this ⊢
    rw [List.length_map] at this ⊢
    simp only [idxL, List.filter_cons]
    cases p r <;> simp [this]
/-- The error of runes, where all of them may be. -/
def RawPost (w : World) (b : List UInt8) (z : Int) (e : Ending) (w' : World) : Prop := e = .returned (.tuple #[.string ⟨b.toArray⟩, .int .i64 z]) ∧ Below w.heap.size w w'
/-- What lies ahead of Raw's loop. -/
def LookAt (w : World) (rs : List Int) (e : Ending) (w' : World) : Prop := ∃ a c, e = .returned (.slice a (rs.filter fun q => !mayZ q).length c) ∧ Below w.heap.size w w'
theorem filter_none {rs : List Int} (h : ∀ q ∈ rs, mayZ q = true) : (rs.filter fun q => !mayZ q).length = 0 := by
  rw [List.length_eq_zero_iff, List.filter_eq_nil_iff]
  intro q hq
  rw [h q hq]; decide
theorem filter_some {rs : List Int} (h : ¬ ∀ q ∈ rs, mayZ q = true) : 0 < (rs.filter fun q => !mayZ q).length := by
  rcases Nat.eq_zero_or_pos (rs.filter fun q => !mayZ q).length with h0 | h0
  · rw [List.length_eq_zero_iff, List.filter_eq_nil_iff] at h0
    refine absurd (fun q hq => ?_) h
    have := h0 q hq
    cases hm : mayZ q with
    | true => rfl
    | false => rw [hm] at this; exact absurd rfl this
  · exact h0
end Go.Proofs.YtgcfgheamaoceaaGreatDoor

/- Layer 13: which texts are filters: purely, as the program goes over their levels; a row of marks behind a loop. -/
import Derived.Test.YtgcfgheamaoceaaGreatDoorTopI
import Derived.Test.YtgcfgheamaoceaaGreatDoorTopB
namespace Go.Proofs.YtgcfgheamaoceaaGreatDoor
open Go.RowKit Go.Shelf

/-- The levels so far may be a filter's: is the last one a #? -/
def goes (e : Bool) : List (List UInt8) → Option Bool
  | [] => some e
  | x :: r => if e || (decide (1 < x.length) && hasS x) then none else goes (x == [35]) r
theorem goes_snoc (e : Bool) (p : List (List UInt8)) (x : List UInt8) : goes e (p ++ [x]) = (goes e p).bind fun e' => if e' || (decide (1 < x.length) && hasS x) then none else some (x == [35]) := by
  induction p generalizing e with
  | nil => rfl
  | cons y r ih =>
    rw [List.cons_append, goes, goes]
    split
    · rfl
    · exact ih _
theorem goes_app_none {e : Bool} {p : List (List UInt8)} (h : goes e p = none) (r : List (List UInt8)) : goes e (p ++ r) = none := by
  induction p generalizing e with
  | nil => cases h
  | cons y q ih =>
    rw [List.cons_append, goes]
    rw [goes] at h
    split
    · rfl
    · rename_i hc
      rw [if_neg hc] at h
      exact ih h
theorem sgn_one {x : List UInt8} (h : hasS x = true) (hl : ¬ 1 < x.length) : x = [43] ∨ x = [35] := by
  cases x with
  | nil => cases h
  | cons b t =>
    cases t with
    | nil => simpa [hasS, sgn] using h
    | cons c t => simp at hl
theorem goes_true (r : List (List UInt8)) : (goes true r).isSome = r.isEmpty := by
  cases r <;> rfl
theorem goes_ok (L : List (List UInt8)) : (goes false L).isSome = okF L := by
  induction L with
  | nil => rfl
  | cons x r ih =>
    rw [goes, okF]
    cases hs : hasS x with
    | false =>
      have hx : (x == [35]) = false := by simpa using hasS_hash hs
      simp [hx, ih]
    | true =>
      by_cases hl : 1 < x.length
      · have h1 : (x == [43]) = false := by simp; intro e; rw [e] at hl; simp at hl
        have h2 : (x == [35]) = false := by simp; intro e; rw [e] at hl; simp at hl
        simp [hl, h1, h2]
      · rcases sgn_one hs hl with rfl | rfl
        · simp [ih]
        · simp [goes_true]
          cases r <;> simp [okF]
theorem okF_of_goes {L : List (List UInt8)} {e : Bool} (h : goes false L = some e) : okF L = true := by rw [← goes_ok, h]; rfl
theorem okF_of_not {L p : List (List UInt8)} (h : goes false p = none) (hp : p <+: L) : okF L = false := by
  obtain ⟨r, rfl⟩ := hp
  rw [← goes_ok, goes_app_none h]; rfl
/-- A row of marks, each once, all still open. -/
def Marks (B : Nat) (Ds : List Nat) (w : World) : Prop := Ds.Nodup ∧ ∀ D ∈ Ds, B ≤ D ∧ D < w.heap.size ∧ w.heap[D]? = some (.deferred (some []))
def markD (D : Nat) : Deferred := { target := .collected D, args := #[] }
theorem marks_leave {F : Fence} {n : Nat} {P : Program} {fn : Func} {tmps : Array Value} {R : Ending → World → Prop} {B : Nat} {w0 : World} (hB : B ≤ w0.heap.size)
    (hend : ∀ w', Below B w0 w' → LeavesIn F n P fn tmps R [] .returning w') : ∀ (Ds : List Nat) (w : World), Marks B Ds w → Below B w0 w → LeavesInM F n P fn tmps R (Ds.map markD) .returning w := by
  intro Ds
  induction Ds with
  | nil => exact fun w _ hb => hend w hb
  | cons D Ds ih =>
    intro w hm hb
    obtain ⟨hD1, hD2, hD3⟩ := hm.2 D (by simp)
    refine ⟨by simp, .inl ⟨D, _, rfl, run_takeDeferred hD3, ih _ ⟨(List.nodup_cons.1 hm.1).2, fun E hE => ?_⟩ ?_⟩⟩
    · obtain ⟨h1, h2, h3⟩ := hm.2 E (by simp [hE])
      have hne : E ≠ D := fun e => (List.nodup_cons.1 hm.1).1 (e ▸ hE)
      have hg := grownBy_putObj' w D (.deferred none)
      exact ⟨h1, Nat.lt_of_lt_of_le h2 hg.size, (hg.block E h2 fun e => hne (Option.some.inj e)).trans h3⟩
    · exact hb.grown (grownBy_putObj' w D (.deferred none)) (Nat.le_trans hB hb.size) (fun k e => by cases e; exact hD1)
theorem Marks.below {B N : Nat} {Ds : List Nat} {w w' : World} (h : Marks B Ds w) (hb : Below N w w') (hN : w.heap.size ≤ N) : Marks B Ds w' :=
  ⟨h.1, fun D hD => by
    obtain ⟨h1, h2, h3⟩ := h.2 D hD
    exact ⟨h1, Nat.lt_of_lt_of_le h2 hb.size, (hb.block D (by omega)).trans h3⟩⟩
theorem Marks.cons {B : Nat} {Ds : List Nat} {w : World} {D : Nat} (h : Marks B Ds w) (hB : B ≤ D) (hn : ∀ E ∈ Ds, E < D) (hD : w.heap[D]? = some (.deferred (some []))) : Marks B (D :: Ds) w :=
  ⟨List.nodup_cons.2 ⟨fun e => Nat.lt_irrefl _ (hn D e), h.1⟩, fun E hE => by
    rcases List.mem_cons.1 hE with rfl | hE
    · exact ⟨hB, (Array.getElem?_eq_some_iff.1 hD).1, hD⟩
    · exact h.2 E hE⟩
/-- These texts stand in a block from its beginning on. -/
def StrsAt (W : World) (b : Nat) (l : List ByteArray) : Prop := b < W.heap.size ∧ ∀ j x, l[j]? = some x → W.cell? ⟨b, j, none⟩ = some (.string x)
theorem StrsAt.below {N : Nat} {w w' : World} {b : Nat} {l : List ByteArray} (h : StrsAt w b l) (hb : Below N w w') (hN : b < N) : StrsAt w' b l :=
  ⟨Nat.lt_of_lt_of_le h.1 hb.size, fun j x hj => (World.cell?_of_block (hb.block b hN)).trans (h.2 j x hj)⟩
noncomputable def allF (l : List ByteArray) : Bool := l.all fun x => filtL x.data.toList
end Go.Proofs.YtgcfgheamaoceaaGreatDoor

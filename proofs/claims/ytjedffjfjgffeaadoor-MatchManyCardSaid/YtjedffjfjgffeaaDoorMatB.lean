/- Layer 14: a tree of maps in memory: where its branches lie (by the levels that lead to them), what ends there, how much ends there or further on. -/
import Derived.Test.YtjedffjfjgffeaaDoorStrMap
import Derived.Test.YtjedffjfjgffeaaDoorMatA
import Derived.Test.YtjedffjfjgffeaaDoorKit
import Derived.Lib.Hide
import Derived.Test.YtjedffjfjgffeaaDoorProg
namespace Go.Proofs.YtjedffjfjgffeaaDoor
open Go.RowKit

def str (l : List UInt8) : ByteArray := ⟨l.toArray⟩
theorem str_toList (l : List UInt8) : (str l).data.toList = l := by simp [str]
theorem str_of (b : ByteArray) : str b.data.toList = b := rfl
def sbV (s : Sb) : Value := .agg #[.string (str s.f), .string (str s.c), .int .i64 (s.q : Int)]
def noSub : Value := .agg #[.string ⟨#[]⟩, .string ⟨#[]⟩, .int .i64 0]
/-- What a call leaves: all blocks that lay but those that F names. -/
structure Kp (F : Nat → Prop) (w w' : World) : Prop where
  low : Below 0 w w'
  block : ∀ k, k < w.heap.size → ¬ F k → w'.heap[k]? = w.heap[k]?
theorem Kp.refl (F : Nat → Prop) (w : World) : Kp F w w := ⟨Below.refl _ w, fun _ _ _ => rfl⟩
theorem Kp.size {F : Nat → Prop} {w w' : World} (h : Kp F w w') : w.heap.size ≤ w'.heap.size := h.low.size
theorem Kp.trans {F : Nat → Prop} {a b c : World} (h : Kp F a b) (g : Kp F b c) : Kp F a c := ⟨h.low.trans g.low, fun k hk hF => (g.block k (Nat.lt_of_lt_of_le hk h.size) hF).trans (h.block k hk hF)⟩
theorem Kp.trans' {F G : Nat → Prop} {a b c : World} (h : Kp F a b) (g : Kp G b c) (hG : ∀ k, k < a.heap.size → G k → F k) : Kp F a c := ⟨h.low.trans g.low, fun k hk hF => (g.block k (Nat.lt_of_lt_of_le hk h.size) fun hg => hF (hG k hk hg)).trans (h.block k hk hF)⟩
theorem Kp.of_below {F : Nat → Prop} {a b : World} (h : Below a.heap.size a b) : Kp F a b := ⟨h.mono (Nat.zero_le _), fun k hk _ => h.block k hk⟩
theorem Kp.of_grown {F : Nat → Prop} {a b : World} {row : Nat} (h : a.grownBy b (some row)) (hF : F row) : Kp F a b := by
  obtain ⟨h1, h2, h3, h4, h5⟩ := h
  exact ⟨⟨h1, h2, h3, h4, fun i hi => absurd hi (Nat.not_lt_zero i)⟩, fun k hk hk2 => h5 k hk fun e => hk2 (by injection e with e; exact e ▸ hF)⟩
theorem Kp.drew {F : Nat → Prop} {a b : World} (h : Kp F a b) : Kp F a b.drew := ⟨⟨h.low.os, h.low.tape, h.low.output, h.low.size, h.low.block⟩, h.block⟩
theorem Kp.below {F : Nat → Prop} {a b : World} {n : Nat} (h : Kp F a b) (hn : n ≤ a.heap.size) (hF : ∀ k, F k → n ≤ k) : Below n a b :=
  ⟨h.low.os, h.low.tape, h.low.output, h.low.size, fun i hi => h.block i (Nat.lt_of_lt_of_le hi hn) fun hf => absurd (hF i hf) (Nat.not_le.2 hi)⟩
theorem Kp.cell {F : Nat → Prop} {a b : World} (h : Kp F a b) {k j : Nat} {v : Value} (hc : a.cell? ⟨k, j, none⟩ = some v) (hF : ¬ F k) : b.cell? ⟨k, j, none⟩ = some v :=
  (World.cell?_of_block (a := ⟨k, j, none⟩) (h.block k (cell_lt hc) hF)).trans hc

/-- A branch: its own block, its map of what is next, its map of what ends. -/
structure Nd where
  b : Nat
  n : Nat
  e : Nat
def Nd.has (x : Nd) (k : Nat) : Prop := k = x.b ∨ k = x.n ∨ k = x.e
abbrev Tr := Pth → Option Nd
def Foot (t : Tr) (k : Nat) : Prop := ∃ p x, t p = some x ∧ x.has k
def kidV (t : Tr) (p : Pth) : Txt → Option Value := fun l => (t (p ++ [l])).map fun y => .pointer (some ⟨y.b, 0, none⟩)
def endV (En : Pth → Txt → Option Sb) (p : Pth) : Txt → Option Value := fun c => (En p c).map sbV
structure TreeAt (w : World) (t : Tr) (En : Pth → Txt → Option Sb) (C : Pth → Nat) (gs : List (Pth × Txt)) : Prop where
  row : ∀ p x, t p = some x → w.heap[x.b]? = some (.cells #[.map (some x.n), .map (some x.e), .int .i64 (C p : Int)] 52 (0, 0))
  kids : ∀ p x, t p = some x → SMap Tryd.prog 9 w x.n (kidV t p)
  ends : ∀ p x, t p = some x → SMap Tryd.prog 9 w x.e (endV En p)
  one : ∀ p q x y k, t p = some x → t q = some y → x.has k → y.has k → p = q
  own : ∀ p x, t p = some x → x.b ≠ x.n ∧ x.b ≠ x.e ∧ x.n ≠ x.e
  clos : ∀ q l, (t (q ++ [l])).isSome = true → (t q).isSome = true
  ent : ∀ q c, (En q c).isSome = true → (t q).isSome = true
  none' : ∀ q, t q = none → C q = 0
  cover : ∀ q, q ≠ [] → (t q).isSome = true → ∃ r ∈ gs, q <+: r.1
  ents : ∀ q c, (En q c).isSome = true → (q, c) ∈ gs
  few : gs.length ≤ 5000
  le : ∀ q, C q ≤ 5000

variable {w w' : World} {t : Tr} {En : Pth → Txt → Option Sb} {C : Pth → Nat} {gs : List (Pth × Txt)}
theorem TreeAt.lt (h : TreeAt w t En C gs) {k : Nat} (hk : Foot t k) : k < w.heap.size := by
  obtain ⟨p, x, hx, rfl | rfl | rfl⟩ := hk
  · exact (Array.getElem?_eq_some_iff.1 (h.row p x hx)).1
  · exact (h.kids p x hx).lt
  · exact (h.ends p x hx).lt
theorem TreeAt.keeps (h : TreeAt w t En C gs) (hk : ∀ k, Foot t k → w'.heap[k]? = w.heap[k]?) : TreeAt w' t En C gs :=
  { h with
    row := fun p x hx => (hk x.b ⟨p, x, hx, .inl rfl⟩).trans (h.row p x hx)
    kids := fun p x hx => (h.kids p x hx).at_block (hk x.n ⟨p, x, hx, .inr (.inl rfl)⟩)
    ends := fun p x hx => (h.ends p x hx).at_block (hk x.e ⟨p, x, hx, .inr (.inr rfl)⟩) }
theorem TreeAt.below (h : TreeAt w t En C gs) (hb : Below w.heap.size w w') : TreeAt w' t En C gs := h.keeps fun k hk => hb.block k (h.lt hk)
theorem TreeAt.kp (h : TreeAt w t En C gs) {F : Nat → Prop} (hb : Kp F w w') (hF : ∀ k, Foot t k → ¬ F k) : TreeAt w' t En C gs := h.keeps fun k hk => hb.block k (h.lt hk) (hF k hk)
theorem TreeAt.few_kids (h : TreeAt w t En C gs) (p : Pth) : Few (kidV t p) :=
  ⟨gs.map fun r => r.1.getD p.length [], by simpa using h.few, fun l hl => by
    unfold kidV at hl
    rw [Option.isSome_map] at hl
    obtain ⟨r, hr, s, hs⟩ := h.cover (p ++ [l]) (by simp) hl
    refine List.mem_map.2 ⟨r, hr, ?_⟩
    rw [← hs]
    simp [List.getD]⟩
theorem TreeAt.few_ends (h : TreeAt w t En C gs) (p : Pth) : Few (endV En p) :=
  ⟨gs.map fun r => r.2, by simpa using h.few, fun c hc => by
    unfold endV at hc
    rw [Option.isSome_map] at hc
    exact List.mem_map.2 ⟨_, h.ents p c hc, rfl⟩⟩
/-- All that leads to a branch is there. -/
theorem TreeAt.up (h : TreeAt w t En C gs) : ∀ (r p : Pth), (t (p ++ r)).isSome = true → (t p).isSome = true
  | [], p, hr => by simpa using hr
  | l :: r, p, hr => h.clos p l (TreeAt.up h r (p ++ [l]) (by simpa using hr))
theorem TreeAt.gone (h : TreeAt w t En C gs) {p : Pth} (hp : t p = none) (r : Pth) (c : Txt) : En (p ++ r) c = none := by
  cases he : En (p ++ r) c with
  | none => rfl
  | some s =>
    have := h.up r p (h.ent _ c (by rw [he]; rfl))
    rw [hp] at this
    cases this
theorem kidV_of {p : Pth} {l : Txt} {y : Nd} (h : t (p ++ [l]) = some y) : kidV t p l = some (.pointer (some ⟨y.b, 0, none⟩)) := by simp [kidV, h]
theorem kidV_none {p : Pth} {l : Txt} (h : t (p ++ [l]) = none) : kidV t p l = none := by simp [kidV, h]
end Go.Proofs.YtjedffjfjgffeaaDoor

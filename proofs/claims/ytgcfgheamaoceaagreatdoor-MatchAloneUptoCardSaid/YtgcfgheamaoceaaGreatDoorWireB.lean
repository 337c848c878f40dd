/- Layer 3: numbers as bytes, one behind the other; runs of bytes that a call has made, and where they lie. -/
import Derived.WalkKit
import Derived.OwnWalk
import Derived.Maps.AppendAt
import Derived.Lib.AppendStr
import Derived.LoopTactic
import Derived.Outline
import Derived.Lib.Hide
import Derived.Carry
import Derived.Test.YtgcfgheamaoceaaGreatDoorBytes
namespace Go.Proofs.YtgcfgheamaoceaaGreatDoor
open Go.RowKit

/-- The first i of k bytes of a number, its higher bytes first. -/
def laidB (n k i : Nat) : List UInt8 := (List.range i).map fun j => UInt8.ofNat (n / 2 ^ (8 * (k - 1 - j)))
theorem laidB_zero (n k : Nat) : laidB n k 0 = [] := rfl
theorem laidB_succ (n k i : Nat) : laidB n k (i + 1) = laidB n k i ++ [UInt8.ofNat (n / 2 ^ (8 * (k - 1 - i)))] := by simp [laidB, List.range_succ]
theorem laidB_len (n k i : Nat) : (laidB n k i).length = i := by simp [laidB]

/-- What an append turns: the slice's own block, and new ones; where the new slice lies. -/
structure Goes (w w' : World) (v v' : Value) : Prop where
  grown : w.grownBy w' v.ownBlock
  near : v'.ownBlock = v.ownBlock ∨ ∃ g, v'.ownBlock = some g ∧ w.heap.size ≤ g
theorem Goes.refl (w : World) (v : Value) : Goes w w v v := ⟨⟨rfl, rfl, rfl, Nat.le_refl _, fun _ _ _ => rfl⟩, .inl rfl⟩
theorem Goes.trans {a b c : World} {v v1 v2 : Value} (h : Goes a b v v1) (k : Goes b c v1 v2) : Goes a c v v2 := by
  refine ⟨⟨k.grown.os.trans h.grown.os, k.grown.tape.trans h.grown.tape, k.grown.output.trans h.grown.output, Nat.le_trans h.grown.size k.grown.size, fun i hi hne => ?_⟩, ?_⟩
  · have h1 : some i ≠ v1.ownBlock := by
      rcases h.near with e | ⟨g, e, hg⟩
      · rw [e]; exact hne
      · rw [e]; intro e2; cases e2; omega
    exact (k.grown.block i (Nat.lt_of_lt_of_le hi h.grown.size) h1).trans (h.grown.block i hi hne)
  · rcases k.near with e | ⟨g, e, hg⟩
    · rcases h.near with e2 | ⟨g, e2, hg⟩
      · exact .inl (e.trans e2)
      · exact .inr ⟨g, e.trans e2, hg⟩
    · exact .inr ⟨g, e, Nat.le_trans h.grown.size hg⟩
theorem Goes.alloc {w w' : World} {v v' : Value} {o : Obj} (h : Goes (w.alloc o) w' v v') : Goes w w' v v' := by
  have hs : (w.alloc o).heap.size = w.heap.size + 1 := by simp
  refine ⟨⟨h.grown.os, h.grown.tape, h.grown.output, by have := h.grown.size; omega, fun i hi hne => (h.grown.block i (by omega) hne).trans (Below.heap_alloc w o i hi)⟩, ?_⟩
  rcases h.near with e | ⟨g, e, hg⟩
  · exact .inl e
  · exact .inr ⟨g, e, by omega⟩
theorem Goes.below {n₀ : Nat} {w w' : World} {v v' : Value} (h : Goes w w' v v') (hn : n₀ ≤ w.heap.size) (hv : ∀ k, v.ownBlock = some k → n₀ ≤ k) : Below n₀ w w' := (Below.refl _ _).grown h.grown hn hv

theorem OwnB.form {w : World} {base : Nat} {v : Value} {l : List UInt8} (h : OwnB w base v l) : ∃ a cap, v = .slice a l.length cap ∧ BytesAt w.heap.size w a l ∧ l.length ≤ cap ∧ cap ≤ maxLen ∧ (a = none → cap = 0) ∧ (∀ b off s, a = some ⟨b, off, s⟩ → base ≤ b) := by
  rcases h.bytes with ⟨rfl, rfl⟩ | ⟨g, cap, rfl, h1, _, h2, h3, h4, _⟩
  · exact ⟨none, 0, rfl, .nil, Nat.le_refl _, Nat.zero_le _, fun _ => rfl, fun _ _ _ e => by cases e⟩
  · exact ⟨_, cap, rfl, h4, h2, h3, (fun e => by cases e), (fun b off s e => by cases e; exact h1)⟩
theorem OwnB.alloc {w : World} {base : Nat} {v : Value} {l : List UInt8} (h : OwnB w base v l) (o : Obj) : OwnB (w.alloc o) base v l := by
  refine ⟨h.1, ?_⟩
  rcases h.2 with hn | ⟨g, cap, cur, rfl, hb, hh, r⟩
  · exact .inl hn
  · exact .inr ⟨g, cap, cur, rfl, hb, (Below.heap_alloc w o g (Array.getElem?_eq_some_iff.1 hh).1).trans hh, r⟩

/-- append of bytes to a slice that the call made: where the new one lies. -/
theorem wpList_append_goes {w : World} {ops : Array Oper} {rest : List Oper} {o : Oper} {a : Act} {Q : Exit → Act → World → Prop} (hgd : o.guard = none) (s x : Operand)
    (ho : o.op = .call { callee := .builtin .append, args := #[s, x], argTypes := #[137, 137] }) (base n₀ : Nat) (v : Value) (l : List UInt8) (hs : a.eval s = v) (hown : OwnB w base v l)
    (ao : Addr) (m : List UInt8) (c : Nat) (hx : a.eval x = .slice (some ao) m.length c) (hm : BytesAt n₀ w (some ao) m) (hbound : l.length + m.length ≤ 1099511627776) (hbase : base ≤ w.heap.size)
    (h : ∀ v' w', OwnB w' base v' (l ++ m) → Goes w w' v v' → (v' = .slice none 0 0 ↔ v = .slice none 0 0 ∧ m.length = 0) → wpList Tryz.prog ops Q rest (a.put o.dst v') w') : wpList Tryz.prog ops Q (o :: rest) a w := by
  obtain ⟨i0, hi, hz0, hz1, hz2⟩ := info_parts infoU8
  refine wpList_append_own_at w hgd s x 137 ho base 5 i0 (.int .u8 0) 1 1 Tryz.underlying137 hi hz0 hz1 hz2 rfl (by decide) v l.length (byteVals l) hs hown ao m.length c (byteVals m) hx (by simp [byteVals]) ?_ ?_ (by unfold maxLen; omega) (by omega) hbase
      (fun v' w' h1 h2 h3 h4 => h v' w' (by simpa [OwnB, byteVals] using h1) ⟨h2, h4.imp id fun e => ⟨_, e, Nat.le_refl _⟩⟩ h3)
  · intro j u hu
    have hj : j < m.length := by
      have := (List.getElem?_eq_some_iff.1 hu).1; simpa [byteVals] using this
    obtain ⟨b, off, e, hb, hc⟩ := hm (by rintro rfl; simp at hj)
    cases e
    rw [addr_add, hc j hj]
    rw [byteVals, List.getElem?_map, List.getElem?_eq_getElem hj] at hu
    simp [hj] at hu ⊢
    exact hu
  · intro u hu
    simp only [byteVals, List.mem_map] at hu
    obtain ⟨y, _, rfl⟩ := hu
    simp [Value.oneCell']
theorem one_byte (w : World) (x : UInt8) : BytesAt (w.heap.size + 1) (w.alloc (.cells #[.int .u8 (x.toNat : Int)] 5)) (some ⟨w.heap.size, 0, none⟩) [x] := fun _ =>
  ⟨_, 0, rfl, by omega, fun j hj => by
    simp at hj; subst hj
    simp⟩

theorem byte_of (n m : Nat) : (((UInt8.ofNat (n / 2 ^ m)).toNat : Nat) : Int) = (n : Int) / 2 ^ m % 256 := by
  have h : ((n / 2 ^ m : Nat) : Int) = (n : Int) / 2 ^ m := by rw [Int.natCast_ediv, Int.natCast_pow]; rfl
  rw [← h, UInt8.toNat_ofNat']
  exact Int.natCast_emod _ _
theorem wrap64_eq {z : Int} (h : -9223372036854775808 ≤ z) (h2 : z < 9223372036854775808) : wrap64 z = z := by unfold wrap64; omega

end Go.Proofs.YtgcfgheamaoceaaGreatDoor

/- Layer 3: numbers as bytes, one behind the other; runs of bytes that a call has made, and where they lie. -/
import Derived.WalkKit
import Derived.OwnWalk
import Derived.Maps.AppendAt
import Derived.Lib.AppendStr
import Derived.LoopTactic
import Derived.Outline
import Derived.Lib.Hide
import Derived.Carry
import Derived.Test.YtaceebgcaghocaaBytes
namespace Go.Proofs.Ytaceebgcaghocaa
open Go.RowKit

/-- The first i of k bytes of a number, its higher bytes first. -/
def laidB (n k i : Nat) : List UInt8 := (List.range i).map fun j => UInt8.ofNat (n / 2 ^ (8 * (k - 1 - j)))
theorem laidB_zero (n k : Nat) : laidB n k 0 = [] := rfl
theorem laidB_succ (n k i : Nat) : laidB n k (i + 1) = laidB n k i ++ [UInt8.ofNat (n / 2 ^ (8 * (k - 1 - i)))] := by simp [laidB, List.range_succ]
theorem laidB_len (n k i : Nat) : (laidB n k i).length = i := by simp [laidB]

/-- What an append turns: the slice's own block, and new ones; where the new slice lies. -/
structure Goes (w w' : World) (v v' : Value) : Prop where
  grown : w.grownBy w' v.ownBlock
  near : v'.ownBlock = v.ownBlock ∨ ∃ g, v'.ownBlock = some g ∧ w.heap.size ≤ g
theorem Goes.refl (w : World) (v : Value) : Goes w w v v := ⟨⟨rfl, rfl, rfl, Nat.le_refl _, fun _ _ _ => rfl⟩, .inl rfl⟩
theorem Goes.trans {a b c : World} {v v1 v2 : Value} (h : Goes a b v v1) (k : Goes b c v1 v2) : Goes a c v v2 := by
  refine ⟨⟨k.grown.os.trans h.grown.os, k.grown.tape.trans h.grown.tape, k.grown.output.trans h.grown.output, Nat.le_trans h.grown.size k.grown.size, fun i hi hne => ?_⟩, ?_⟩
  · have h1 : some i ≠ v1.ownBlock := by
      rcases h.near with e | ⟨g, e, hg⟩
      · rw [e]; exact hne
      · rw [e]; intro e2; cases e2; omega
    exact (k.grown.block i (Nat.lt_of_lt_of_le hi h.grown.size) h1).trans (h.grown.block i hi hne)
  · rcases k.near with e | ⟨g, e, hg⟩
    · rcases h.near with e2 | ⟨g, e2, hg⟩
      · exact .inl (e.trans e2)
      · exact .inr ⟨g, e.trans e2, hg⟩
    · exact .inr ⟨g, e, Nat.le_trans h.grown.size hg⟩
theorem Goes.alloc {w w' : World} {v v' : Value} {o : Obj} (h : Goes (w.alloc o) w' v v') : Goes w w' v v' := by
  have hs : (w.alloc o).heap.size = w.heap.size + 1 := by simp
  refine ⟨⟨h.grown.os, h.grown.tape, h.grown.output, by have := h.grown.size; omega, fun i hi hne => (h.grown.block i (by omega) hne).trans (Below.heap_alloc w o i hi)⟩, ?_⟩
  rcases h.near with e | ⟨g, e, hg⟩
  · exact .inl e
  · exact .inr ⟨g, e, by omega⟩
theorem Goes.below {n₀ : Nat} {w w' : World} {v v' : Value} (h : Goes w w' v v') (hn : n₀ ≤ w.heap.size) (hv : ∀ k, v.ownBlock = some k → n₀ ≤ k) : Below n₀ w w' := (Below.refl _ _).grown h.grown hn hv

theorem OwnB.form {w : World} {base : Nat} {v : Value} {l : List UInt8} (h : OwnB w base v l) : ∃ a cap, v = .slice a l.length cap ∧ BytesAt w.heap.size w a l ∧ l.length ≤ cap ∧ cap ≤ maxLen ∧ (a = none → cap = 0) ∧ (∀ b off s, a = some ⟨b, off, s⟩ → base ≤ b) := by
  rcases h.bytes with ⟨rfl, rfl⟩ | ⟨g, cap, rfl, h1, _, h2, h3, h4, _⟩
  · exact ⟨none, 0, rfl, .nil, Nat.le_refl _, Nat.zero_le _, fun _ => rfl, fun _ _ _ e => by cases e⟩
  · exact ⟨_, cap, rfl, h4, h2, h3, (fun e => by cases e), (fun b off s e => by cases e; exact h1)⟩
theorem OwnB.alloc {w : World} {base : Nat} {v : Value} {l : List UInt8} (h : OwnB w base v l) (o : Obj) : OwnB (w.alloc o) base v l := by
  refine ⟨h.1, ?_⟩
  rcases h.2 with hn | ⟨g, cap, cur, rfl, hb, hh, r⟩
  · exact .inl hn
  · exact .inr ⟨g, cap, cur, rfl, hb, (Below.heap_alloc w o g (Array.getElem?_eq_some_iff.1 hh).1).trans hh, r⟩

/-- append of bytes to a slice that the call made: where the new one lies. -/
theorem wpList_append_goes {w : World} {ops : Array Oper} {rest : List Oper} {o : Oper} {a : Act} {Q : Exit → Act → World → Prop} (hgd : o.guard = none) (s x : Operand)
    (ho : o.op = .call { callee := .builtin .append, args := #[s, x], argTypes := #[23, 23] }) (base n₀ : Nat) (v : Value) (l : List UInt8) (hs : a.eval s = v) (hown : OwnB w base v l)
    (ao : Addr) (m : List UInt8) (c : Nat) (hx : a.eval x = .slice (some ao) m.length c) (hm : BytesAt n₀ w (some ao) m) (hbound : l.length + m.length ≤ 1099511627776) (hbase : base ≤ w.heap.size)
    (h : ∀ v' w', OwnB w' base v' (l ++ m) → Goes w w' v v' → (v' = .slice none 0 0 ↔ v = .slice none 0 0 ∧ m.length = 0) → wpList Try.prog ops Q rest (a.put o.dst v') w') : wpList Try.prog ops Q (o :: rest) a w := by
  obtain ⟨i0, hi, hz0, hz1, hz2⟩ := info_parts infoU8
  refine wpList_append_own_at w hgd s x 23 ho base 5 i0 (.int .u8 0) 1 1 Try.underlying23 hi hz0 hz1 hz2 rfl (by decide) v l.length (byteVals l) hs hown ao m.length c (byteVals m) hx (by simp [byteVals]) ?_ ?_ (by unfold maxLen; omega) (by omega) hbase
      (fun v' w' h1 h2 h3 h4 => h v' w' (by simpa [OwnB, byteVals] using h1) ⟨h2, h4.imp id fun e => ⟨_, e, Nat.le_refl _⟩⟩ h3)
  · intro j u hu
    have hj : j < m.length := by
      have := (List.getElem?_eq_some_iff.1 hu).1; simpa [byteVals] using this
    obtain ⟨b, off, e, hb, hc⟩ := hm (by rintro rfl; simp at hj)
    cases e
    rw [addr_add, hc j hj]
    rw [byteVals, List.getElem?_map, List.getElem?_eq_getElem hj] at hu
    simp [hj] at hu ⊢
    exact hu
  · intro u hu
    simp only [byteVals, List.mem_map] at hu
    obtain ⟨y, _, rfl⟩ := hu
    simp [Value.oneCell']
theorem one_byte (w : World) (x : UInt8) : BytesAt (w.heap.size + 1) (w.alloc (.cells #[.int .u8 (x.toNat : Int)] 5)) (some ⟨w.heap.size, 0, none⟩) [x] := fun _ =>
  ⟨_, 0, rfl, by omega, fun j hj => by
    simp at hj; subst hj
    simp⟩

theorem byte_of (n m : Nat) : (((UInt8.ofNat (n / 2 ^ m)).toNat : Nat) : Int) = (n : Int) / 2 ^ m % 256 := by
  have h : ((n / 2 ^ m : Nat) : Int) = (n : Int) / 2 ^ m := by rw [Int.natCast_ediv, Int.natCast_pow]; rfl
  rw [← h, UInt8.toNat_ofNat']
  exact Int.natCast_emod _ _
theorem wrap64_eq {z : Int} (h : -9223372036854775808 ≤ z) (h2 : z < 9223372036854775808) : wrap64 z = z := by unfold wrap64; omega

set_option maxHeartbeats 4000000 in
set_option maxRecDepth 100000 in
theorem lay64_any (n k : Nat) (hk : k ≤ 8) (w : World) (base : Nat) (v : Value) (l : List UInt8) (hO : OwnB w base v l) (hb : base ≤ w.heap.size) (hl : l.length ≤ 1000000) :
    Calls Try.prog 38 #[v, .int .u64 n, .int .i64 k] w fun e w' => ∃ v', e = .returned v' ∧ OwnB w' base v' (l ++ laidB n k k) ∧ Goes w w' v v' := by
  go_enter Try.func38, Try.ntmps38
  go_wp2
  go_loopw [0, 7, 9, 10, 11, 12, 13, 14, 15, 16, 17, 18, 19, 20, 21, 22, 23] (fun u _ i _ _ _ _ _ _ _ _ _ _ _ _ _ _ wr => ∃ j : Nat, j ≤ k ∧ i = .int .i64 j ∧ OwnB wr base u (l ++ laidB n k j) ∧ Goes w wr v u) (fun _ _ i _ _ _ _ _ _ _ _ _ _ _ _ _ _ _ => k - (intOf i).toNat)
  case atStart => exact ⟨0, Nat.zero_le _, rfl, by simpa [laidB_zero] using hO, Goes.refl _ _⟩
  case round =>
    obtain ⟨j, hj, rfl, hOr, hG⟩ := hrel
    by_cases hlt : j < k
    · have hjk : (j : Int) < k := by omega
      have hx : (((UInt8.ofNat (n / 2 ^ (8 * (k - 1 - j)))).toNat : Nat) : Int) = (n : Int) / 2 ^ (8 * (k - 1 - j)) % 256 := byte_of _ _
      have h1 := one_byte wr (UInt8.ofNat (n / 2 ^ (8 * (k - 1 - j))))
      rw [hx] at h1
      have hsz := hG.grown.size
      have hq : (l ++ laidB n k j).length + 1 ≤ 1099511627776 := by simp [laidB_len]; omega
      have e1 : wrap64 ((j : Int) + 1) = ((j + 1 : Nat) : Int) := by unfold wrap64; omega
      have E1 := Lib.hid e1
      have OA := hOr.alloc (.cells #[.int .u8 ((n : Int) / 2 ^ (8 * (k - 1 - j)) % 256)] 5)
      clear e1 hx
      go_wp2_with (at_builtin; refine wpList_append_goes rfl _ _ rfl base (wr.heap.size + 1) _ _ rfl OA ⟨wr.heap.size, 0, none⟩ [UInt8.ofNat (n / 2 ^ (8 * (k - 1 - j)))] 1 rfl h1 hq (by simp; omega) ?_; intro v' w' O' G' _)
      have e1 := E1.out
      generalize wrap64 ((j : Int) + 1) = q at e1 ⊢
      subst e1
      go_roundw
      case rel => exact ⟨j + 1, hlt, rfl, by rw [laidB_succ, ← List.append_assoc]; exact O', hG.trans G'.alloc⟩
      case measure => exact Nat.sub_lt_sub_left hlt (Nat.lt_succ_self j)
    · obtain rfl : j = k := by omega
      have hjk : ¬ ((j : Int) < j) := by omega
      go_wp2
      go_ret
      exact ⟨_, rfl, hOr, hG⟩
set_option maxHeartbeats 4000000 in
set_option maxRecDepth 100000 in
theorem lay8_any (n k : Nat) (hk : k ≤ 1) (hn : n < 256) (w : World) (base : Nat) (v : Value) (l : List UInt8) (hO : OwnB w base v l) (hb : base ≤ w.heap.size) (hl : l.length ≤ 1000000) :
    Calls Try.prog 73 #[v, .int .u8 n, .int .i64 k] w fun e w' => ∃ v', e = .returned v' ∧ OwnB w' base v' (l ++ laidB n k k) ∧ Goes w w' v v' := by
  go_enter Try.func73, Try.ntmps73
  go_wp2
  go_loopw [0, 7, 9, 10, 11, 12, 13, 14, 15, 16, 17, 18, 19, 20, 21, 22] (fun u _ i _ _ _ _ _ _ _ _ _ _ _ _ _ wr => ∃ j : Nat, j ≤ k ∧ i = .int .i64 j ∧ OwnB wr base u (l ++ laidB n k j) ∧ Goes w wr v u) (fun _ _ i _ _ _ _ _ _ _ _ _ _ _ _ _ _ => k - (intOf i).toNat)
  case atStart => exact ⟨0, Nat.zero_le _, rfl, by simpa [laidB_zero] using hO, Goes.refl _ _⟩
  case round =>
    obtain ⟨j, hj, rfl, hOr, hG⟩ := hrel
    by_cases hlt : j < k
    · have hjk : (j : Int) < k := by omega
      have hx : (((UInt8.ofNat (n / 2 ^ (8 * (k - 1 - j)))).toNat : Nat) : Int) = (n : Int) := by rw [byte_of]; obtain rfl : k = 1 := (by omega); obtain rfl : j = 0 := (by omega); simp; omega
      have h1 := one_byte wr (UInt8.ofNat (n / 2 ^ (8 * (k - 1 - j))))
      rw [hx] at h1
      have hsz := hG.grown.size
      have hq : (l ++ laidB n k j).length + 1 ≤ 1099511627776 := by simp [laidB_len]; omega
      have e1 : wrap64 ((j : Int) + 1) = ((j + 1 : Nat) : Int) := by unfold wrap64; omega
      have E1 := Lib.hid e1
      have OA := hOr.alloc (.cells #[.int .u8 (n : Int)] 5)
      clear e1 hx
      go_wp2_with (at_builtin; refine wpList_append_goes rfl _ _ rfl base (wr.heap.size + 1) _ _ rfl OA ⟨wr.heap.size, 0, none⟩ [UInt8.ofNat (n / 2 ^ (8 * (k - 1 - j)))] 1 rfl h1 hq (by simp; omega) ?_; intro v' w' O' G' _)
      have e1 := E1.out
      generalize wrap64 ((j : Int) + 1) = q at e1 ⊢
      subst e1
      go_roundw
      case rel => exact ⟨j + 1, hlt, rfl, by rw [laidB_succ, ← List.append_assoc]; exact O', hG.trans G'.alloc⟩
      case measure => exact Nat.sub_lt_sub_left hlt (Nat.lt_succ_self j)
    · obtain rfl : j = k := by omega
      have hjk : ¬ ((j : Int) < j) := by omega
      go_wp2
      go_ret
      exact ⟨_, rfl, hOr, hG⟩
end Go.Proofs.Ytaceebgcaghocaa

/- Slices of bytes that a call has made itself: appending bytes to them, and what they hold. -/
import Derived.WalkKit
import Derived.OwnWalk
import Derived.Laws.AppendOwn
import Derived.Laws.AppendOwnNone
import Derived.Test.YtgcfgheamaoceaaGreatDoorKit
import Derived.Test.YtgcfgheamaoceaaGreatDoorProg
namespace Go.Proofs.YtgcfgheamaoceaaGreatDoor
open Go.RowKit

theorem infoU8 : (Tryz.prog.info? 5).map (fun i => (i.zero, i.size, i.bytes)) = some (some (.int .u8 0), 1, 1) := by kernel_rfl
def byteVals (l : List UInt8) : List Value := l.map fun x => .int .u8 (x.toNat : Int)
/-- The slice value v, made since the heap had base blocks (or nil), holds the bytes l. -/
def OwnB (w : World) (base : Nat) (v : Value) (l : List UInt8) : Prop := w.ownsRow base 5 1 v l.length (byteVals l)
theorem OwnB.nil (w : World) (base : Nat) : OwnB w base (.slice none 0 0) [] := ⟨rfl, .inl ⟨rfl, rfl⟩⟩
theorem OwnB.bytes {w : World} {base : Nat} {v : Value} {l : List UInt8} (h : OwnB w base v l) :
    (v = .slice none 0 0 ∧ l = []) ∨ ∃ g cap, v = .slice (some ⟨g, 0, none⟩) l.length cap ∧ base ≤ g ∧ g < w.heap.size ∧ l.length ≤ cap ∧ cap ≤ maxLen ∧ BytesAt w.heap.size w (some ⟨g, 0, none⟩) l ∧
      (∀ j, j < l.length → w.cell? ⟨g, j, none⟩ = some (.int .u8 ((l[j]?.getD 0).toNat : Int)) ∧ w.frozen? ⟨g, j, none⟩ = false) := by
  obtain ⟨hlen, ⟨rfl, h0⟩ | ⟨g, cap, cur, rfl, hg, hh, hn, hcap, hsz, htk⟩⟩ := h
  · exact .inl ⟨rfl, List.eq_nil_of_length_eq_zero h0⟩
  · have hlt : g < w.heap.size := (Array.getElem?_eq_some_iff.1 hh).1
    have hcell : ∀ j, j < l.length → w.cell? ⟨g, j, none⟩ = some (.int .u8 ((l[j]?.getD 0).toNat : Int)) := fun j hj => by
      have h1 : (cur.toList.take (l.length * 1))[j]? = some (.int .u8 ((l[j]?.getD 0).toNat : Int)) := by
        rw [htk, byteVals, List.getElem?_map, List.getElem?_eq_getElem hj]; simp
      rw [List.getElem?_take, if_pos (by omega), Array.getElem?_toList] at h1
      unfold World.cell?; simp only [hh]; exact h1
    refine .inr ⟨g, cap, rfl, hg, hlt, hn, hcap, fun _ => ⟨g, 0, rfl, hlt, fun j hj => by rw [Nat.zero_add]; exact hcell j hj⟩, fun j hj => ⟨hcell j hj, ?_⟩⟩
    unfold World.frozen?; simp only [hh]; simp

theorem OwnB.block {w : World} {base : Nat} {v : Value} {l : List UInt8} (h : OwnB w base v l) : ∀ k, v.ownBlock = some k → base ≤ k := fun k hk => by
  rcases h.bytes with ⟨rfl, _⟩ | ⟨g, cap, rfl, hg, _⟩
  · cases hk
  · cases hk; exact hg
theorem OwnB.grown {w w' : World} {base : Nat} {v : Value} {l : List UInt8} (h : OwnB w base v l) (hg : w.grownBy w' v.ownBlock) {n : Nat} {a : World} (hb : Below n a w) (hn : n ≤ base) (hn2 : n ≤ w.heap.size) : Below n a w' :=
  hb.grown hg hn2 (fun k hk => Nat.le_trans hn (h.block k hk))

theorem below_grown {w w' : World} (h : Below w.heap.size w w') : w.grownBy w' none := ⟨h.os, h.tape, h.output, h.size, fun i hi _ => h.block i hi⟩
theorem OwnB.kept {w w' : World} {base : Nat} {v : Value} {l : List UInt8} {row : Option Nat} (h : OwnB w base v l) (hg : w.grownBy w' row) (hne : ∀ g, row = some g → g < base) : OwnB w' base v l :=
  World.ownsRow.kept h hg (by
    rcases h.bytes with ⟨rfl, _⟩ | ⟨g, cap, rfl, hg1, _⟩
    · exact .inl rfl
    · refine .inr fun e => ?_
      have := hne g e.symm; omega)
theorem OwnB.far {w : World} {base : Nat} {v : Value} {l : List UInt8} (h : OwnB w base v l) {C : Nat} (hC : w.heap.size ≤ C) : some C ≠ v.ownBlock := fun e => by
  rcases h.bytes with ⟨rfl, _⟩ | ⟨g, cap, rfl, _, hg1, _⟩
  · cases e
  · have : C = g := Option.some.inj e
    omega

theorem wpList_append_bytes {w : World} {ops : Array Oper} {rest : List Oper} {o : Oper} {a : Act} {Q : Exit → Act → World → Prop} (hgd : o.guard = none) (s x : Operand)
    (ho : o.op = .call { callee := .builtin .append, args := #[s, x], argTypes := #[137, 137] }) (base n₀ : Nat) (v : Value) (l : List UInt8) (hs : a.eval s = v) (hown : OwnB w base v l)
    (ao : Option Addr) (m : List UInt8) (c : Nat) (hx : a.eval x = .slice ao m.length c) (hnone : ao = none → c = 0) (hle : m.length ≤ c) (hm : BytesAt n₀ w ao m) (hbound : l.length + m.length ≤ 1099511627776) (hbase : base ≤ w.heap.size)
    (h : ∀ v' w', OwnB w' base v' (l ++ m) → w.grownBy w' v.ownBlock → wpList Tryz.prog ops Q rest (a.put o.dst v') w') : wpList Tryz.prog ops Q (o :: rest) a w := by
  obtain ⟨i0, hi, hz0, hz1, hz2⟩ := info_parts infoU8
  cases ao with
  | none =>
    obtain rfl := hnone rfl
    obtain rfl : m = [] := List.eq_nil_of_length_eq_zero (by omega)
    refine wpList_append_own_none hgd s x 137 ho base 5 i0 1 Tryz.underlying137 hi v l.length (byteVals l) hs hown hx (h v w (by simpa using hown) ?_)
    exact ⟨rfl, rfl, rfl, Nat.le_refl _, fun _ _ _ => rfl⟩
  | some ad =>
    refine wpList_append_own w hgd s x 137 ho base 5 i0 (.int .u8 0) 1 1 Tryz.underlying137 hi hz0 hz1 hz2 rfl (by decide) v l.length (byteVals l) hs hown ad m.length c (byteVals m) hx (by simp [byteVals]) ?_ ?_ (by unfold maxLen; omega) (by omega) hbase
      (fun v' w' h1 h2 _ => h v' w' (by simpa [OwnB, byteVals] using h1) h2)
    · intro j u hu
      have hj : j < m.length := by
        have := (List.getElem?_eq_some_iff.1 hu).1; simpa [byteVals] using this
      obtain ⟨b, off, e, hb, hc⟩ := hm (by rintro rfl; simp at hj)
      cases e
      rw [addr_add, hc j hj]
      rw [byteVals, List.getElem?_map, List.getElem?_eq_getElem hj] at hu
      simp [hj] at hu ⊢
      exact hu
    · intro u hu
      simp only [byteVals, List.mem_map] at hu
      obtain ⟨y, _, rfl⟩ := hu
      simp [Value.oneCell']
end Go.Proofs.YtgcfgheamaoceaaGreatDoor

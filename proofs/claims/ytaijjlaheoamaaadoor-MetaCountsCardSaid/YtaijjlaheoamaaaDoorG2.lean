/- Texts of the proof in one file, in build order: WireR, WireR2, WireR3, WireR4, Frames, WireR5, OwnB, PageA, PageB. -/
import Derived.WalkLawsBesides
import Derived.Deep.RegionHeld3
import Derived.Deep.Cut
import Derived.Deep.DeepCutAuto
import Derived.Test.YtaijjlaheoamaaaDoorG1
import GoSem.Core.Value
import Derived.WalkMore
import Derived.Deep.QuietTactic
import Derived.BigQuiet
import Derived.MapKept
/- Layer 3: a reader in memory, and the contracts of its small calls. -/
namespace Go.Proofs.YtaijjlaheoamaaaDoor
open Go.RowKit

/-- Block B is a reader of the bytes l that stands ahead of byte i; all of it lies from block n₀ on. -/
structure IsRdAt (n₀ : Nat) (w : World) (B : Nat) (v : Value) (l : List UInt8) (i : Nat) : Prop where
  cells : w.heap[B]? = some (.cells #[.bool true, v, .int .i64 i] 107 (0, 0))
  own : OwnB w n₀ v l
  lo : n₀ ≤ B
  le : i ≤ l.length
  len : l.length ≤ 1000000
/-- Block B is a reader that has the bytes r left. -/
def IsRd (n₀ : Nat) (w : World) (B : Nat) (r : List UInt8) : Prop := ∃ v l i, IsRdAt n₀ w B v l i ∧ r = l.drop i

section
variable {n₀ : Nat} {w : World} {B : Nat} {v : Value} {l : List UInt8} {i : Nat}
theorem IsRdAt.lt (h : IsRdAt n₀ w B v l i) : B < w.heap.size := (Array.getElem?_eq_some_iff.1 h.cells).1
theorem IsRdAt.n_le (h : IsRdAt n₀ w B v l i) : n₀ ≤ w.heap.size := Nat.le_trans h.lo (Nat.le_of_lt h.lt)
theorem IsRdAt.cell0 (h : IsRdAt n₀ w B v l i) : w.cell? ⟨B, 0, none⟩ = some (.bool true) := cell_of_row w B 0 _ _ _ h.cells
theorem IsRdAt.cell1 (h : IsRdAt n₀ w B v l i) : w.cell? ⟨B, 1, none⟩ = some v := cell_of_row w B 1 _ _ _ h.cells
theorem IsRdAt.cell2 (h : IsRdAt n₀ w B v l i) : w.cell? ⟨B, 2, none⟩ = some (.int .i64 i) := cell_of_row w B 2 _ _ _ h.cells
theorem IsRdAt.frozen (h : IsRdAt n₀ w B v l i) (j : Nat) : w.frozen? ⟨B, j, none⟩ = false := frozen_of_row w B j _ _ h.cells
theorem IsRdAt.kept {w' : World} {row : Option Nat} (h : IsRdAt n₀ w B v l i) (hg : w.grownBy w' row) (h1 : some B ≠ row) (h2 : v.ownBlock = none ∨ v.ownBlock ≠ row) : IsRdAt n₀ w' B v l i :=
  ⟨(hg.block B h.lt h1).trans h.cells, World.ownsRow.kept h.own hg h2, h.lo, h.le, h.len⟩
theorem IsRdAt.below {w' : World} (h : IsRdAt n₀ w B v l i) (hb : Below w.heap.size w w') : IsRdAt n₀ w' B v l i :=
  h.kept (below_grown hb) (by simp) (by cases v.ownBlock <;> simp)
theorem IsRdAt.ne (h : IsRdAt n₀ w B v l i) : v.ownBlock ≠ some B := fun e => by
  obtain ⟨cs, hb⟩ := own_block h.own B e
  rw [h.cells] at hb; cases hb
theorem set_grown (w : World) (p : Addr) (x : Value) : w.grownBy (w.setCell p x) (some p.block) :=
  ⟨rfl, rfl, rfl, by simp [World.setCell], fun i _ hne => Below.heap_setCell w p x i (fun e => hne (by rw [e]))⟩
/-- The reader is set to another place. -/
theorem IsRdAt.set (h : IsRdAt n₀ w B v l i) {j : Nat} (hj : j ≤ l.length) : IsRdAt n₀ (w.setCell ⟨B, 2, none⟩ (.int .i64 j)) B v l j := by
  refine ⟨?_, World.ownsRow.kept h.own (set_grown w ⟨B, 2, none⟩ _) (.inr h.ne), h.lo, hj, h.len⟩
  rw [heap_setCell_same w B 2 _ _ (.int .i64 j) h.cells]; rfl

theorem newReader_any (w : World) (ao : Option Addr) (l : List UInt8) (cap n₁ : Nat) (hm : BytesAt n₁ w ao l) (hnone : ao = none → cap = 0) (hle : l.length ≤ cap) (hl : l.length ≤ 1000000) :
    Calls Tryd.prog 34 #[.slice ao l.length cap] w fun e w' => ∃ B, e = .returned (wptr B) ∧ IsRd w.heap.size w' B l ∧ Below w.heap.size w w' := by
  have C := Lib.hid (clone_wire w ao l cap n₁ hm hnone hle hl)
  clear hm hnone hle
  go_enter Tryd.func34, Tryd.ntmps34
  go_wp2_with (go_at_call 51; refine C.out.mono ?_; rintro e w' ⟨v', rfl, hO, hB⟩; have HO := Lib.hid hO; obtain ⟨ao1, cap1, e3, -, -, -, -, -⟩ := hO.form; clear hO; generalize l.length = ll at e3; subst e3)
  go_ret
  refine ⟨_, rfl, ⟨_, l, 0, ⟨heap_alloc_new _ _, HO.out.alloc _, hB.size, Nat.zero_le _, hl⟩, rfl⟩, hB.alloc hB.size _⟩

theorem rthere_any (h : IsRdAt n₀ w B v l i) : Calls Tryd.prog 52 #[wptr B] w fun e w' => e = .returned (.bool true) ∧ w = w' := by
  have hc := h.cell0
  go_enter Tryd.func52, Tryd.ntmps52
  go_wp2
  go_ret
  exact ⟨rfl, rfl⟩
end
end Go.Proofs.YtaijjlaheoamaaaDoor
/- Layer 3: Rest; the parts of reading: hold, cut, number. -/
namespace Go.Proofs.YtaijjlaheoamaaaDoor
open Go.RowKit

section
variable {n₀ : Nat} {w : World} {B : Nat} {v : Value} {l : List UInt8} {i : Nat}
theorem grownBy_drew' {a w : World} {row : Option Nat} (h : a.grownBy w row) : a.grownBy w.drew row := ⟨h.os, h.tape, h.output, h.size, h.block⟩
theorem part_at {ao : Option Addr} {cap : Nat} (h : IsRdAt n₀ w B (.slice ao l.length cap) l i) (k : Nat) (x : Value) :
    BytesAt ((w.setCell ⟨B, 2, none⟩ x).drew.drew).heap.size (w.setCell ⟨B, 2, none⟩ x).drew.drew (ao.map (fun a => a.add i)) ((l.drop i).take k) := fun hne => by
  rcases h.own.bytes with ⟨e, hl⟩ | ⟨g, c, e, hg, hgl, -, -, -, hc⟩
  · exact absurd (by rw [hl]; simp) hne
  · cases e
    have hgB : g ≠ B := fun e => h.ne (by rw [e]; rfl)
    have hsz : (w.setCell ⟨B, 2, none⟩ x).drew.drew.heap.size = w.heap.size := by simp [World.setCell]
    refine ⟨g, i, by rw [Option.map_some, addr_add, Nat.zero_add], by rw [hsz]; exact hgl, fun j hj => ?_⟩
    simp only [List.length_take, List.length_drop] at hj
    have h1 := (hc (i + j) (by omega)).1
    have hg := (grownBy_drew' (grownBy_drew' (set_grown w ⟨B, 2, none⟩ x))).cell h1 (fun e => hgB (Option.some.inj e))
    rw [hg, List.getElem?_take, if_pos (by omega), List.getElem?_drop]
def CutPost (n₀ : Nat) (w : World) (B : Nat) (v : Value) (l : List UInt8) (i k : Nat) (e : Ending) (w' : World) : Prop :=
    (l.length < i + k ∧ e = .returned (.tuple #[.slice none 0 0, .bool false]) ∧ Below w.heap.size w w') ∨
    (i + k ≤ l.length ∧ ∃ ao, e = .returned (.tuple #[.slice ao k k, .bool true]) ∧ BytesAt w'.heap.size w' ao ((l.drop i).take k) ∧ IsRdAt n₀ w' B v l (i + k) ∧ w.grownBy w' (some B))
theorem cut_any (h : IsRdAt n₀ w B v l i) (k : Nat) (hk : k ≤ 1000000) : Calls Tryd.prog 69 #[wptr B, .int .i64 k] w fun e w' => CutPost n₀ w B v l i k e w' := by
  have hc1 := h.cell1
  have hc2 := h.cell2
  have hf2 := h.frozen 2
  have hle := h.le
  have hlen := h.len
  obtain ⟨ao, cap, rfl, hm, h1, h2, h3, -⟩ := h.own.form
  by_cases hfit : l.length < i + k
  · have hd : decide (((l.length : Int) - (i : Int)) < (k : Int)) = true := by simp; omega
    clear h
    go_enter Tryd.func69, Tryd.ntmps69
    go_wp2
    go_region
    go_wp2
    go_ret2
    exact .inl ⟨hfit, rfl, (Below.refl _ _).drew⟩
  · have hd : decide (((l.length : Int) - (i : Int)) < (k : Int)) = false := by simp; omega
    have HS := Lib.hid (fun (w2 : World) (h2 : IsRdAt n₀ w2 B (.slice ao l.length cap) l i) => h2.set (j := i + k) (by omega))
    have e1 : ((i + k : Nat) : Int) = (i : Int) + (k : Int) := by omega
    have h3' := Lib.hid h3
    have H := Lib.hid h
    have hm' := Lib.hid hm
    clear h h3 hm
    go_enter Tryd.func69, Tryd.ntmps69
    go_wp2
    go_region
    go_wp2
    go_region
    go_wp2
    · go_ret2
      obtain rfl : k = 0 := by omega
      refine .inr ⟨by omega, _, rfl, fun hne => absurd (by simp) hne, ?_, ?_⟩
      · rw [← e1]
        exact (HS.out _ H.out).below (((Below.refl _ _).drew).drew)
      · exact grownBy_drew' (grownBy_drew' (set_grown w ⟨B, 2, none⟩ _))
    · go_ret2
      refine .inr ⟨by omega, _, rfl, ?_, ?_, ?_⟩
      · rw [← e1]
        exact part_at H.out k _
      · rw [← e1]
        exact (HS.out _ H.out).below (((Below.refl _ _).drew).drew)
      · exact grownBy_drew' (grownBy_drew' (set_grown w ⟨B, 2, none⟩ _))

/-- The number of some bytes, the higher ones first. -/
def numOf (l : List UInt8) : Nat := l.foldl (fun n b => n * 256 + b.toNat) 0
theorem numOf_snoc (l : List UInt8) (b : UInt8) : numOf (l ++ [b]) = numOf l * 256 + b.toNat := by simp [numOf]
theorem numOf_take {l : List UInt8} {j : Nat} (hj : j < l.length) : numOf (l.take (j + 1)) = numOf (l.take j) * 256 + (l[j]?.getD 0).toNat := by
  rw [List.take_succ_eq_append_getElem hj, numOf_snoc, List.getElem?_eq_getElem hj]
  rfl
theorem numOf_lt (l : List UInt8) : numOf l < 256 ^ l.length := by
  generalize hn : l.length = n
  induction n generalizing l with
  | zero => obtain rfl : l = [] := List.eq_nil_of_length_eq_zero hn; simp [numOf]
  | succ n ih =>
    have h1 : l = l.take n ++ [l[n]?.getD 0] := by
      rw [List.getElem?_eq_getElem (by omega)]
      simp only [Option.getD_some]
      rw [← List.take_succ_eq_append_getElem (by omega), List.take_of_length_le (by omega)]
    rw [h1, numOf_snoc]
    have h2 := ih (l.take n) (by simp; omega)
    have h3 : (l[n]?.getD 0).toNat < 256 := UInt8.toNat_lt _
    rw [Nat.pow_succ]
    omega
theorem wrapU64 (n : Int) : IntKind.u64.wrap n = n % 18446744073709551616 := by simp [IntKind.wrap, IntKind.bits, IntKind.signed]
theorem or_byte (x y : Nat) (hx : x < 72057594037927936) (hy : y < 256) : bits .or .u64 (IntKind.u64.wrap ((x : Int) * 256)) (IntKind.u64.wrap (y : Int)) = ((x * 256 + y : Nat) : Int) := by
  have e1 : IntKind.u64.wrap ((x : Int) * 256) = ((x * 256 : Nat) : Int) := by rw [wrapU64]; omega
  have e2 : IntKind.u64.wrap (y : Int) = (y : Int) := by rw [wrapU64]; omega
  rw [e1, e2, u64_or_nat _ _ (by omega) (by omega)]
  have := Nat.two_pow_add_eq_or_of_lt (i := 8) (b := y) (by omega) x
  rw [show x * 256 = 2 ^ 8 * x by omega, ← this]
def NumPost (n₀ : Nat) (w : World) (B : Nat) (v : Value) (l : List UInt8) (i k : Nat) (e : Ending) (w' : World) : Prop :=
    (l.length < i + k ∧ e = .returned (.tuple #[.int .u64 0, .bool false]) ∧ Below w.heap.size w w') ∨
    (i + k ≤ l.length ∧ e = .returned (.tuple #[.int .u64 (numOf ((l.drop i).take k) : Nat), .bool true]) ∧ IsRdAt n₀ w' B v l (i + k) ∧ w.grownBy w' (some B))
set_option maxHeartbeats 1000000 in
set_option maxRecDepth 100000 in
theorem number_any (h : IsRdAt n₀ w B v l i) (k : Nat) (hk : k ≤ 8) : Calls Tryd.prog 55 #[wptr B, .int .i64 k] w fun e w' => NumPost n₀ w B v l i k e w' := by
  have C := Lib.hid (cut_any h k (by omega))
  have hle := h.le
  clear h
  go_enter Tryd.func55, Tryd.ntmps55
  go_wp2_with (go_at_call 69; refine C.out.mono ?_; rintro e w' hcut; rcases hcut with ⟨hs, rfl, hb⟩ | ⟨hs, ao, rfl, hm, hR, hg⟩)
  · go_ret2
    exact .inl ⟨hs, rfl, hb⟩
  · obtain ⟨pt, hpt⟩ : ∃ pt, (l.drop i).take k = pt := ⟨_, rfl⟩
    have hpl : pt.length = k := by rw [← hpt]; simp; omega
    rw [hpt] at hm
    have HF := Lib.hid (show NumPost n₀ w B v l i k (.returned (.tuple #[.int .u64 (numOf pt : Nat), .bool true])) w' from .inr ⟨hs, by rw [hpt], hR, hg⟩)
    clear hs hR hg hpt C hle
    go_wp2
    go_loopw [8, 9, 19, 20, 21, 22, 23, 24, 25, 26, 27, 28, 29] (fun x _ y _ _ _ _ _ _ _ _ _ _ wr => wr = w' ∧ ∃ j : Nat, j ≤ k ∧ y = .int .i64 j ∧ x = .int .u64 (numOf (pt.take j) : Nat)) (fun _ _ y _ _ _ _ _ _ _ _ _ _ _ => k - (intOf y).toNat)
    case atStart => exact ⟨rfl, 0, Nat.zero_le _, rfl, by simp [numOf]⟩
    case round =>
      obtain ⟨rfl, j, hj, rfl, rfl⟩ := hrel
      by_cases hlt : j < k
      · obtain ⟨b, off, rfl, hb, hc⟩ := hm (by rintro rfl; simp at hpl; omega)
        have hcj := hc j (by omega)
        have hjk : (j : Int) < k := by omega
        have e1 : wrap64 ((j : Int) + 1) = ((j + 1 : Nat) : Int) := by unfold wrap64; omega
        have E1 := Lib.hid e1
        have hlt2 := numOf_lt (pt.take j)
        rw [List.length_take, show min j pt.length = j by omega] at hlt2
        clear e1 hc
        obtain ⟨x, hx⟩ : ∃ x, numOf (pt.take j) = x := ⟨_, rfl⟩
        obtain ⟨y, hy⟩ : ∃ y, pt[j]?.getD 0 = y := ⟨_, rfl⟩
        rw [hx] at hlt2 ⊢
        rw [hy] at hcj
        have hor := or_byte x y.toNat (by have := Nat.pow_le_pow_right (n := 256) (by omega) (show j ≤ 7 by omega); omega) (UInt8.toNat_lt y)
        go_wp2
        refine ⟨⟨trivial, j + 1, hlt, by rw [show ((j + 1 : Nat) : Int) = (j : Int) + 1 by omega], ?_⟩, ?_⟩
        · rw [numOf_take (by omega), hx, hy, show ((x * 256 + y.toNat : Nat) : Int) = (x : Int) * 256 + (y.toNat : Int) by omega]
        · simp only [intOf]; omega
      · obtain rfl : j = k := by omega
        have hjk : ¬ ((j : Int) < j) := by omega
        rw [List.take_of_length_le (by omega)]
        go_wp2
        go_ret2
        exact HF.out
end
end Go.Proofs.YtaijjlaheoamaaaDoor
/- Layer 3: what a reader reads: numbers, truths, texts; what is left. -/
namespace Go.Proofs.YtaijjlaheoamaaaDoor
open Go.RowKit

section
variable {n₀ : Nat} {w : World} {B : Nat} {v : Value} {l : List UInt8} {i : Nat}
/-- What 'hold' hands back: a function over two new blocks. -/
def HoldPost (w : World) (B i : Nat) (e : Ending) (w' : World) : Prop := ∃ p q, e = .returned (.func (.func 68) #[] #[.pointer (some ⟨p, 0, none⟩), .pointer (some ⟨q, 0, none⟩)]) ∧
  w.heap.size ≤ p ∧ w.heap.size ≤ q ∧ w'.heap[p]? = some (.cells #[.int .i64 i] 3 (0, 0)) ∧ w'.heap[q]? = some (.cells #[wptr B] 77 (0, 0)) ∧ Below w.heap.size w w'
theorem hold_any (h : IsRdAt n₀ w B v l i) : Calls Tryd.prog 53 #[wptr B] w fun e w' => HoldPost w B i e w' := by
  have hc := h.cell2
  have hlt := h.lt
  have hc1 : (w.alloc (.cells #[wptr B] 77)).cell? ⟨B, 2, none⟩ = some (.int .i64 i) := (below_grown ((Below.refl w.heap.size w).alloc (Nat.le_refl _) _)).cell hc (by simp)
  clear h
  go_enter Tryd.func53, Tryd.ntmps53
  go_wp2
  go_ret
  refine ⟨w.heap.size + 1, w.heap.size, rfl, by omega, Nat.le_refl _, ?_, ?_, ((Below.refl _ _).alloc (Nat.le_refl _) _).alloc (by simp) _⟩
  · have := heap_alloc_new (w.alloc (.cells #[wptr B] 77)) (.cells #[.int .i64 i] 3)
    rw [World.size_alloc] at this
    exact this
  · exact (Below.heap_alloc _ _ _ (by simp)).trans (heap_alloc_new w _)
theorem hold1_any {p q : Nat} (h : IsRdAt n₀ w B v l i) {j : Nat} (hp : w.heap[p]? = some (.cells #[.int .i64 j] 3 (0, 0))) (hq : w.heap[q]? = some (.cells #[wptr B] 77 (0, 0))) :
    Calls Tryd.prog 68 #[.pointer (some ⟨p, 0, none⟩), .pointer (some ⟨q, 0, none⟩)] w fun e w' => e = .returned (.int .i64 130) ∧ w' = w.setCell ⟨B, 2, none⟩ (.int .i64 j) := by
  have hc := h.cell2
  have hf := h.frozen 2
  have hp1 : w.cell? ⟨p, 0, none⟩ = some (.int .i64 j) := cell_of_row w p 0 _ _ _ hp
  have hq1 : w.cell? ⟨q, 0, none⟩ = some (wptr B) := cell_of_row w q 0 _ _ _ hq
  clear h hp hq
  go_enter Tryd.func68, Tryd.ntmps68
  go_wp2
  go_ret
  exact ⟨rfl, rfl⟩

/-- What a call of the reader leaves: its results; the reader. -/
def RdPost (n₀ : Nat) (w : World) (B : Nat) (x : Value) (r : List UInt8) (e : Ending) (w' : World) : Prop := e = .returned x ∧ IsRd n₀ w' B r ∧ w.grownBy w' (some B)
theorem grown_below {row : Option Nat} {w w' : World} (h : Below w.heap.size w w') : w.grownBy w' row := ⟨h.os, h.tape, h.output, h.size, fun k hk _ => h.block k hk⟩
theorem rd_back {p q j : Nat} {w1 w2 : World} (h1 : IsRdAt n₀ w1 B v l i) (hp : w1.heap[p]? = some (.cells #[.int .i64 i] 3 (0, 0))) (hq : w1.heap[q]? = some (.cells #[wptr B] 77 (0, 0))) (h2 : IsRdAt n₀ w2 B v l j) (hg : w1.grownBy w2 (some B)) :
    w2.heap[p]? = some (.cells #[.int .i64 i] 3 (0, 0)) ∧ w2.heap[q]? = some (.cells #[wptr B] 77 (0, 0)) ∧ IsRdAt n₀ (w2.setCell ⟨B, 2, none⟩ (.int .i64 i)) B v l i ∧ w1.grownBy (w2.setCell ⟨B, 2, none⟩ (.int .i64 i)) (some B) := by
  have hpB : p ≠ B := fun e => by
    have hc := h1.cells
    rw [← e, hp] at hc; cases hc
  have hqB : q ≠ B := fun e => by
    have hc := h1.cells
    rw [← e, hq] at hc; cases hc
  refine ⟨(hg.block p (Array.getElem?_eq_some_iff.1 hp).1 (fun e => hpB (Option.some.inj e))).trans hp, (hg.block q (Array.getElem?_eq_some_iff.1 hq).1 (fun e => hqB (Option.some.inj e))).trans hq, h2.set h1.le, World.grownBy.trans hg (set_grown w2 ⟨B, 2, none⟩ _)⟩

def rNum (r : List UInt8) (k : Int) : Nat × Nat × List UInt8 :=
  if k < 1 ∨ 8 < k then (0, 2, r) else if r.length < k.toNat then (0, 130, r) else (numOf (r.take k.toNat), 0, r.drop k.toNat)
def RNumJump (w : World) (B : Nat) (k : Int) (a' : Act) (w' : World) : Prop :=
  Below w.heap.size w w' ∧ ∃ u6 u7 u8 u9 u10 u11 u12 u13 u14 u15 u16 u17 u18 u19 u20 u21 u22 u23 u24 u25 u26 : Value, a' = { tmps := #[wptr B, .int .i64 k, undef, undef, .int .u64 0, .int .i64 0, u6, u7, u8, u9, u10, u11, u12, u13, u14, u15, u16, u17, u18, u19, u20, u21, u22, u23, u24, u25, u26], defers := [] }
set_option maxHeartbeats 1000000 in
set_option maxRecDepth 100000 in
theorem rnum_any {r : List UInt8} (h : IsRd n₀ w B r) (k : Int) : Calls Tryd.prog 35 #[wptr B, .int .i64 k] w fun e w' => RdPost n₀ w B (.tuple #[.int .u64 (rNum r k).1, .int .i64 (rNum r k).2.1]) (rNum r k).2.2 e w' := by
  obtain ⟨v, l, i, h, rfl⟩ := h
  have T := Lib.hid (rthere_any h)
  have HH := Lib.hid (hold_any h)
  have S := Lib.hid (fun w => sized_any (w := w) k)
  by_cases hk : 1 ≤ k ∧ k ≤ 8
  · obtain ⟨m, rfl⟩ : ∃ m : Nat, k = m := ⟨k.toNat, by omega⟩
    have hd : decide (1 ≤ (m : Int) ∧ (m : Int) ≤ 8) = true := by simp; omega
    rw [hd] at S
    have hlen := h.le
    have N := Lib.hid (fun (w1 : World) (hb : Below w.heap.size w w1) => number_any (h.below hb) m (by omega))
    have P := Lib.hid (fun (w1 : World) (hb : Below w.heap.size w w1) => h.below hb)
    have e1 : rNum (l.drop i) m = if l.length < i + m then (0, 130, l.drop i) else (numOf ((l.drop i).take m), 0, (l.drop i).drop m) := by
      unfold rNum
      rw [if_neg (by omega), Int.toNat_natCast, List.length_drop]
      by_cases hx : l.length < i + m
      · rw [if_pos hx, if_pos (by omega)]
      · rw [if_neg hx, if_neg (by omega)]
    rw [e1]
    clear h e1 hd hk hlen
    go_enter Tryd.func35, Tryd.ntmps35
    go_wp2
    go_step3
    go_wp2_with (first
      | (go_at_call 52; refine T.out.mono ?_; rintro e w' ⟨rfl, rfl⟩)
      | (go_at_call 53; refine HH.out.mono ?_; rintro e w1 ⟨p, q, rfl, hp1, hq1, hp, hq, hb⟩)
      | (go_at_call 54; refine (S.out _).mono ?_; rintro e w' ⟨rfl, rfl⟩)
      | (go_at_call 55; refine (N.out _ hb).mono ?_; rintro e w2 hn; rcases hn with ⟨hs, rfl, hb2⟩ | ⟨hs, rfl, hR, hg⟩))
    · have h1 := P.out _ hb
      obtain ⟨hp2, hq2, h3, hg3⟩ := rd_back h1 hp hq (h1.below hb2) (grown_below hb2)
      have h2 := h1.below hb2
      have HS := Lib.hid hs
      clear hs
      go_wp2_with (go_at_call 68; refine (hold1_any h2 hp2 hq2).mono ?_; rintro e w3 ⟨rfl, rfl⟩)
      rw [Exit.noGoto_ret]
      go_ret2
      rw [if_pos HS.out]
      exact ⟨rfl, ⟨_, _, _, h3, rfl⟩, World.grownBy.trans (grown_below hb) hg3⟩
    · rw [Exit.noGoto_ret]
      go_ret2
      rw [if_neg (by omega)]
      exact ⟨rfl, ⟨_, _, _, hR, by rw [List.drop_drop]⟩, World.grownBy.trans (grown_below hb) hg⟩
  · have e1 : rNum (l.drop i) k = (0, 2, l.drop i) := by unfold rNum; rw [if_pos]; omega
    rw [e1]
    have hd : decide (1 ≤ k ∧ k ≤ 8) = false := by simp; omega
    rw [hd] at S
    have P := Lib.hid (fun (w1 : World) (hb : Below w.heap.size w w1) => h.below hb)
    clear h e1 hd hk
    go_enter Tryd.func35, Tryd.ntmps35
    go_wp2
    refine wp_scope_jumps 0 (RNumJump w B k) (fun _ _ => 0) rfl ?first ?pass
    case first =>
      go_wp2_with (first
        | (go_at_call 52; refine T.out.mono ?_; rintro e w' ⟨rfl, rfl⟩)
        | (go_at_call 53; refine HH.out.mono ?_; rintro e w1 ⟨p, q, rfl, hp1, hq1, hp, hq, hb⟩)
        | (go_at_call 54; refine (S.out _).mono ?_; rintro e w' ⟨rfl, rfl⟩))
      go_step3
      exact ⟨rfl, hb, _, _, _, _, _, _, _, _, _, _, _, _, _, _, _, _, _, _, _, _, _, rfl⟩
    case pass =>
      rintro a' w' ⟨hb, u6, u7, u8, u9, u10, u11, u12, u13, u14, u15, u16, u17, u18, u19, u20, u21, u22, u23, u24, u25, u26, rfl⟩
      go_wp2
      simp only [Exit.jump]
      go_ret2
      exact ⟨rfl, ⟨_, _, _, P.out _ hb, rfl⟩, grown_below hb⟩
end
end Go.Proofs.YtaijjlaheoamaaaDoor
/- Layer 3: truths and texts that are read; what is left. -/
namespace Go.Proofs.YtaijjlaheoamaaaDoor
open Go.RowKit

/-- string(b) of bytes that lie anywhere. -/
theorem conv_at (w : World) (ao : Option Addr) (l : List UInt8) (cap n₁ : Nat) (hm : BytesAt n₁ w ao l) : (convert 22 9 (.slice ao l.length cap)).run Tryd.prog w = .ok (.string ⟨l.toArray⟩) w := by
  cases l with
  | nil => cases ao <;> (simp [go_sem, convert, Conv.bytesToString]; try rfl)
  | cons x t =>
    obtain ⟨b, o, rfl, hb, hc⟩ := hm (by simp)
    generalize x :: t = l at hc
    have := run_convert_bytes_arg (P := Tryd.prog) (w := w) 22 5 Tryd.underlying22 Tryd.underlying5 b o l.length cap (l.map fun x => (x.toNat : Int)) (by simp) (fun i hi => by
      rw [hc i hi]
      simp [List.getD, hi]) 9 Tryd.underlying9
    rw [this]
    refine congrArg (fun s => Result.ok (Value.string s) w) ?_
    apply ByteArray.ext
    apply Array.toList_inj.1
    rw [strOfNums_data, List.map_map]
    show _ = l
    conv => rhs; rw [← List.map_id l]
    apply List.map_congr_left
    intro x _
    simp

def rTruth (r : List UInt8) : Bool × Nat × List UInt8 := if r.length < 1 ∨ 1 < numOf (r.take 1) then (false, 130, r) else (numOf (r.take 1) == 1, 0, r.drop 1)
def rText (r : List UInt8) : List UInt8 × Nat × List UInt8 :=
  if r.length < 2 ∨ r.length < 2 + numOf (r.take 2) then ([], 130, r) else ((r.drop 2).take (numOf (r.take 2)), 0, r.drop (2 + numOf (r.take 2)))
section
variable {n₀ : Nat} {w : World} {B : Nat}
theorem num1_cases {v : Value} {l : List UInt8} {i : Nat} {e : Ending} {w' : World} (h : NumPost n₀ w B v l i 1 e w') :
    (l.length < i + 1 ∧ e = .returned (.tuple #[.int .u64 0, .bool false]) ∧ Below w.heap.size w w') ∨
    (∃ n : Nat, (i + 1 ≤ l.length ∧ numOf ((l.drop i).take 1) = n ∧ 1 < n) ∧ decide ((1 : Int) < (n : Int)) = true ∧ e = .returned (.tuple #[.int .u64 n, .bool true]) ∧ IsRdAt n₀ w' B v l (i + 1) ∧ w.grownBy w' (some B)) ∨
    (∃ n : Nat, (i + 1 ≤ l.length ∧ numOf ((l.drop i).take 1) = n ∧ n ≤ 1) ∧ decide ((1 : Int) < (n : Int)) = false ∧ e = .returned (.tuple #[.int .u64 n, .bool true]) ∧ IsRdAt n₀ w' B v l (i + 1) ∧ w.grownBy w' (some B)) := by
  rcases h with h | ⟨hs, rfl, hR, hg⟩
  · exact .inl h
  · by_cases hn : 1 < numOf ((l.drop i).take 1)
    · exact .inr (.inl ⟨_, ⟨hs, rfl, hn⟩, by simp; omega, rfl, hR, hg⟩)
    · exact .inr (.inr ⟨_, ⟨hs, rfl, by omega⟩, by simp; omega, rfl, hR, hg⟩)
theorem num2_cases {v : Value} {l : List UInt8} {i : Nat} {e : Ending} {w' : World} (h : NumPost n₀ w B v l i 2 e w') :
    (l.length < i + 2 ∧ e = .returned (.tuple #[.int .u64 0, .bool false]) ∧ Below w.heap.size w w') ∨
    (∃ n : Nat, (i + 2 ≤ l.length ∧ numOf ((l.drop i).take 2) = n) ∧ n < 65536 ∧ e = .returned (.tuple #[.int .u64 n, .bool true]) ∧ IsRdAt n₀ w' B v l (i + 2) ∧ w.grownBy w' (some B)) := by
  rcases h with h | ⟨hs, rfl, hR, hg⟩
  · exact .inl h
  · refine .inr ⟨_, ⟨hs, rfl⟩, ?_, rfl, hR, hg⟩
    have := numOf_lt ((l.drop i).take 2)
    rw [List.length_take, List.length_drop, show min 2 (l.length - i) = 2 by omega] at this
    omega
theorem cutT_cases {v : Value} {l : List UInt8} {i k : Nat} {e : Ending} {w' : World} (h : CutPost n₀ w B v l i k e w') :
    (l.length < i + k ∧ e = .returned (.tuple #[.slice none 0 0, .bool false]) ∧ Below w.heap.size w w') ∨
    (i + k ≤ l.length ∧ ∃ ao, e = .returned (.tuple #[.slice ao k k, .bool true]) ∧ (convert 22 9 (.slice ao k k)).run Tryd.prog w' = .ok (.string ⟨((l.drop i).take k).toArray⟩) w' ∧ IsRdAt n₀ w' B v l (i + k) ∧ w.grownBy w' (some B)) := by
  rcases h with h | ⟨hs, ao, rfl, hm, hR, hg⟩
  · exact .inl h
  · refine .inr ⟨hs, ao, rfl, ?_, hR, hg⟩
    have hcl : ((l.drop i).take k).length = k := by rw [List.length_take, List.length_drop]; omega
    have hcv := conv_at w' ao _ k _ hm
    rw [hcl] at hcv
    exact hcv
end
end Go.Proofs.YtaijjlaheoamaaaDoor
/- Frames written out: an array of so many slots is these slots. -/
namespace Go.Proofs.YtaijjlaheoamaaaDoor
theorem chunk20 {l : List Value} {m : Nat} (h : l.length = m + 20) : ∃ t0 t1 t2 t3 t4 t5 t6 t7 t8 t9 t10 t11 t12 t13 t14 t15 t16 t17 t18 t19 r, l = t0 :: t1 :: t2 :: t3 :: t4 :: t5 :: t6 :: t7 :: t8 :: t9 :: t10 :: t11 :: t12 :: t13 :: t14 :: t15 :: t16 :: t17 :: t18 :: t19 :: r ∧ r.length = m := by
  match l, h with
  | t0 :: t1 :: t2 :: t3 :: t4 :: t5 :: t6 :: t7 :: t8 :: t9 :: t10 :: t11 :: t12 :: t13 :: t14 :: t15 :: t16 :: t17 :: t18 :: t19 :: r, h => exact ⟨_, _, _, _, _, _, _, _, _, _, _, _, _, _, _, _, _, _, _, _, r, rfl, by simpa using h⟩
set_option maxRecDepth 100000 in
theorem frame17 {T : Array Value} (h : T.size = 17) : ∃ t0 t1 t2 t3 t4 t5 t6 t7 t8 t9 t10 t11 t12 t13 t14 t15 t16, T = #[t0, t1, t2, t3, t4, t5, t6, t7, t8, t9, t10, t11, t12, t13, t14, t15, t16] := by
  obtain ⟨l⟩ := T
  have h0 : l.length = 17 := h
  match l, h0 with
  | [t0, t1, t2, t3, t4, t5, t6, t7, t8, t9, t10, t11, t12, t13, t14, t15, t16], _ => exact ⟨_, _, _, _, _, _, _, _, _, _, _, _, _, _, _, _, _, rfl⟩
set_option maxRecDepth 100000 in
theorem frame18 {T : Array Value} (h : T.size = 18) : ∃ t0 t1 t2 t3 t4 t5 t6 t7 t8 t9 t10 t11 t12 t13 t14 t15 t16 t17, T = #[t0, t1, t2, t3, t4, t5, t6, t7, t8, t9, t10, t11, t12, t13, t14, t15, t16, t17] := by
  obtain ⟨l⟩ := T
  have h0 : l.length = 18 := h
  match l, h0 with
  | [t0, t1, t2, t3, t4, t5, t6, t7, t8, t9, t10, t11, t12, t13, t14, t15, t16, t17], _ => exact ⟨_, _, _, _, _, _, _, _, _, _, _, _, _, _, _, _, _, _, rfl⟩
set_option maxRecDepth 100000 in
theorem frame23 {T : Array Value} (h : T.size = 23) : ∃ t0 t1 t2 t3 t4 t5 t6 t7 t8 t9 t10 t11 t12 t13 t14 t15 t16 t17 t18 t19 t20 t21 t22, T = #[t0, t1, t2, t3, t4, t5, t6, t7, t8, t9, t10, t11, t12, t13, t14, t15, t16, t17, t18, t19, t20, t21, t22] := by
  obtain ⟨l⟩ := T
  have h0 : l.length = 23 := h
  obtain ⟨t0, t1, t2, t3, t4, t5, t6, t7, t8, t9, t10, t11, t12, t13, t14, t15, t16, t17, t18, t19, r1, rfl, h1⟩ := chunk20 (m := 3) h0
  match r1, h1 with
  | [t20, t21, t22], _ => exact ⟨_, _, _, _, _, _, _, _, _, _, _, _, _, _, _, _, _, _, _, _, _, _, _, rfl⟩
set_option maxRecDepth 100000 in
theorem frame26 {T : Array Value} (h : T.size = 26) : ∃ t0 t1 t2 t3 t4 t5 t6 t7 t8 t9 t10 t11 t12 t13 t14 t15 t16 t17 t18 t19 t20 t21 t22 t23 t24 t25, T = #[t0, t1, t2, t3, t4, t5, t6, t7, t8, t9, t10, t11, t12, t13, t14, t15, t16, t17, t18, t19, t20, t21, t22, t23, t24, t25] := by
  obtain ⟨l⟩ := T
  have h0 : l.length = 26 := h
  obtain ⟨t0, t1, t2, t3, t4, t5, t6, t7, t8, t9, t10, t11, t12, t13, t14, t15, t16, t17, t18, t19, r1, rfl, h1⟩ := chunk20 (m := 6) h0
  match r1, h1 with
  | [t20, t21, t22, t23, t24, t25], _ => exact ⟨_, _, _, _, _, _, _, _, _, _, _, _, _, _, _, _, _, _, _, _, _, _, _, _, _, _, rfl⟩
set_option maxRecDepth 100000 in
theorem frame28 {T : Array Value} (h : T.size = 28) : ∃ t0 t1 t2 t3 t4 t5 t6 t7 t8 t9 t10 t11 t12 t13 t14 t15 t16 t17 t18 t19 t20 t21 t22 t23 t24 t25 t26 t27, T = #[t0, t1, t2, t3, t4, t5, t6, t7, t8, t9, t10, t11, t12, t13, t14, t15, t16, t17, t18, t19, t20, t21, t22, t23, t24, t25, t26, t27] := by
  obtain ⟨l⟩ := T
  have h0 : l.length = 28 := h
  obtain ⟨t0, t1, t2, t3, t4, t5, t6, t7, t8, t9, t10, t11, t12, t13, t14, t15, t16, t17, t18, t19, r1, rfl, h1⟩ := chunk20 (m := 8) h0
  match r1, h1 with
  | [t20, t21, t22, t23, t24, t25, t26, t27], _ => exact ⟨_, _, _, _, _, _, _, _, _, _, _, _, _, _, _, _, _, _, _, _, _, _, _, _, _, _, _, _, rfl⟩
set_option maxRecDepth 100000 in
theorem frame42 {T : Array Value} (h : T.size = 42) : ∃ t0 t1 t2 t3 t4 t5 t6 t7 t8 t9 t10 t11 t12 t13 t14 t15 t16 t17 t18 t19 t20 t21 t22 t23 t24 t25 t26 t27 t28 t29 t30 t31 t32 t33 t34 t35 t36 t37 t38 t39 t40 t41, T = #[t0, t1, t2, t3, t4, t5, t6, t7, t8, t9, t10, t11, t12, t13, t14, t15, t16, t17, t18, t19, t20, t21, t22, t23, t24, t25, t26, t27, t28, t29, t30, t31, t32, t33, t34, t35, t36, t37, t38, t39, t40, t41] := by
  obtain ⟨l⟩ := T
  have h0 : l.length = 42 := h
  obtain ⟨t0, t1, t2, t3, t4, t5, t6, t7, t8, t9, t10, t11, t12, t13, t14, t15, t16, t17, t18, t19, r1, rfl, h1⟩ := chunk20 (m := 22) h0
  obtain ⟨t20, t21, t22, t23, t24, t25, t26, t27, t28, t29, t30, t31, t32, t33, t34, t35, t36, t37, t38, t39, r2, rfl, h2⟩ := chunk20 (m := 2) h1
  match r2, h2 with
  | [t40, t41], _ => exact ⟨_, _, _, _, _, _, _, _, _, _, _, _, _, _, _, _, _, _, _, _, _, _, _, _, _, _, _, _, _, _, _, _, _, _, _, _, _, _, _, _, _, _, rfl⟩
set_option maxRecDepth 100000 in
theorem frame57 {T : Array Value} (h : T.size = 57) : ∃ t0 t1 t2 t3 t4 t5 t6 t7 t8 t9 t10 t11 t12 t13 t14 t15 t16 t17 t18 t19 t20 t21 t22 t23 t24 t25 t26 t27 t28 t29 t30 t31 t32 t33 t34 t35 t36 t37 t38 t39 t40 t41 t42 t43 t44 t45 t46 t47 t48 t49 t50 t51 t52 t53 t54 t55 t56, T = #[t0, t1, t2, t3, t4, t5, t6, t7, t8, t9, t10, t11, t12, t13, t14, t15, t16, t17, t18, t19, t20, t21, t22, t23, t24, t25, t26, t27, t28, t29, t30, t31, t32, t33, t34, t35, t36, t37, t38, t39, t40, t41, t42, t43, t44, t45, t46, t47, t48, t49, t50, t51, t52, t53, t54, t55, t56] := by
  obtain ⟨l⟩ := T
  have h0 : l.length = 57 := h
  obtain ⟨t0, t1, t2, t3, t4, t5, t6, t7, t8, t9, t10, t11, t12, t13, t14, t15, t16, t17, t18, t19, r1, rfl, h1⟩ := chunk20 (m := 37) h0
  obtain ⟨t20, t21, t22, t23, t24, t25, t26, t27, t28, t29, t30, t31, t32, t33, t34, t35, t36, t37, t38, t39, r2, rfl, h2⟩ := chunk20 (m := 17) h1
  match r2, h2 with
  | [t40, t41, t42, t43, t44, t45, t46, t47, t48, t49, t50, t51, t52, t53, t54, t55, t56], _ => exact ⟨_, _, _, _, _, _, _, _, _, _, _, _, _, _, _, _, _, _, _, _, _, _, _, _, _, _, _, _, _, _, _, _, _, _, _, _, _, _, _, _, _, _, _, _, _, _, _, _, _, _, _, _, _, _, _, _, _, rfl⟩
set_option maxRecDepth 100000 in
theorem frame59 {T : Array Value} (h : T.size = 59) : ∃ t0 t1 t2 t3 t4 t5 t6 t7 t8 t9 t10 t11 t12 t13 t14 t15 t16 t17 t18 t19 t20 t21 t22 t23 t24 t25 t26 t27 t28 t29 t30 t31 t32 t33 t34 t35 t36 t37 t38 t39 t40 t41 t42 t43 t44 t45 t46 t47 t48 t49 t50 t51 t52 t53 t54 t55 t56 t57 t58, T = #[t0, t1, t2, t3, t4, t5, t6, t7, t8, t9, t10, t11, t12, t13, t14, t15, t16, t17, t18, t19, t20, t21, t22, t23, t24, t25, t26, t27, t28, t29, t30, t31, t32, t33, t34, t35, t36, t37, t38, t39, t40, t41, t42, t43, t44, t45, t46, t47, t48, t49, t50, t51, t52, t53, t54, t55, t56, t57, t58] := by
  obtain ⟨l⟩ := T
  have h0 : l.length = 59 := h
  obtain ⟨t0, t1, t2, t3, t4, t5, t6, t7, t8, t9, t10, t11, t12, t13, t14, t15, t16, t17, t18, t19, r1, rfl, h1⟩ := chunk20 (m := 39) h0
  obtain ⟨t20, t21, t22, t23, t24, t25, t26, t27, t28, t29, t30, t31, t32, t33, t34, t35, t36, t37, t38, t39, r2, rfl, h2⟩ := chunk20 (m := 19) h1
  match r2, h2 with
  | [t40, t41, t42, t43, t44, t45, t46, t47, t48, t49, t50, t51, t52, t53, t54, t55, t56, t57, t58], _ => exact ⟨_, _, _, _, _, _, _, _, _, _, _, _, _, _, _, _, _, _, _, _, _, _, _, _, _, _, _, _, _, _, _, _, _, _, _, _, _, _, _, _, _, _, _, _, _, _, _, _, _, _, _, _, _, _, _, _, _, _, _, rfl⟩
set_option maxRecDepth 100000 in
theorem frame68 {T : Array Value} (h : T.size = 68) : ∃ t0 t1 t2 t3 t4 t5 t6 t7 t8 t9 t10 t11 t12 t13 t14 t15 t16 t17 t18 t19 t20 t21 t22 t23 t24 t25 t26 t27 t28 t29 t30 t31 t32 t33 t34 t35 t36 t37 t38 t39 t40 t41 t42 t43 t44 t45 t46 t47 t48 t49 t50 t51 t52 t53 t54 t55 t56 t57 t58 t59 t60 t61 t62 t63 t64 t65 t66 t67, T = #[t0, t1, t2, t3, t4, t5, t6, t7, t8, t9, t10, t11, t12, t13, t14, t15, t16, t17, t18, t19, t20, t21, t22, t23, t24, t25, t26, t27, t28, t29, t30, t31, t32, t33, t34, t35, t36, t37, t38, t39, t40, t41, t42, t43, t44, t45, t46, t47, t48, t49, t50, t51, t52, t53, t54, t55, t56, t57, t58, t59, t60, t61, t62, t63, t64, t65, t66, t67] := by
  obtain ⟨l⟩ := T
  have h0 : l.length = 68 := h
  obtain ⟨t0, t1, t2, t3, t4, t5, t6, t7, t8, t9, t10, t11, t12, t13, t14, t15, t16, t17, t18, t19, r1, rfl, h1⟩ := chunk20 (m := 48) h0
  obtain ⟨t20, t21, t22, t23, t24, t25, t26, t27, t28, t29, t30, t31, t32, t33, t34, t35, t36, t37, t38, t39, r2, rfl, h2⟩ := chunk20 (m := 28) h1
  obtain ⟨t40, t41, t42, t43, t44, t45, t46, t47, t48, t49, t50, t51, t52, t53, t54, t55, t56, t57, t58, t59, r3, rfl, h3⟩ := chunk20 (m := 8) h2
  match r3, h3 with
  | [t60, t61, t62, t63, t64, t65, t66, t67], _ => exact ⟨_, _, _, _, _, _, _, _, _, _, _, _, _, _, _, _, _, _, _, _, _, _, _, _, _, _, _, _, _, _, _, _, _, _, _, _, _, _, _, _, _, _, _, _, _, _, _, _, _, _, _, _, _, _, _, _, _, _, _, _, _, _, _, _, _, _, _, _, rfl⟩
set_option maxRecDepth 100000 in
theorem frame71 {T : Array Value} (h : T.size = 71) : ∃ t0 t1 t2 t3 t4 t5 t6 t7 t8 t9 t10 t11 t12 t13 t14 t15 t16 t17 t18 t19 t20 t21 t22 t23 t24 t25 t26 t27 t28 t29 t30 t31 t32 t33 t34 t35 t36 t37 t38 t39 t40 t41 t42 t43 t44 t45 t46 t47 t48 t49 t50 t51 t52 t53 t54 t55 t56 t57 t58 t59 t60 t61 t62 t63 t64 t65 t66 t67 t68 t69 t70, T = #[t0, t1, t2, t3, t4, t5, t6, t7, t8, t9, t10, t11, t12, t13, t14, t15, t16, t17, t18, t19, t20, t21, t22, t23, t24, t25, t26, t27, t28, t29, t30, t31, t32, t33, t34, t35, t36, t37, t38, t39, t40, t41, t42, t43, t44, t45, t46, t47, t48, t49, t50, t51, t52, t53, t54, t55, t56, t57, t58, t59, t60, t61, t62, t63, t64, t65, t66, t67, t68, t69, t70] := by
  obtain ⟨l⟩ := T
  have h0 : l.length = 71 := h
  obtain ⟨t0, t1, t2, t3, t4, t5, t6, t7, t8, t9, t10, t11, t12, t13, t14, t15, t16, t17, t18, t19, r1, rfl, h1⟩ := chunk20 (m := 51) h0
  obtain ⟨t20, t21, t22, t23, t24, t25, t26, t27, t28, t29, t30, t31, t32, t33, t34, t35, t36, t37, t38, t39, r2, rfl, h2⟩ := chunk20 (m := 31) h1
  obtain ⟨t40, t41, t42, t43, t44, t45, t46, t47, t48, t49, t50, t51, t52, t53, t54, t55, t56, t57, t58, t59, r3, rfl, h3⟩ := chunk20 (m := 11) h2
  match r3, h3 with
  | [t60, t61, t62, t63, t64, t65, t66, t67, t68, t69, t70], _ => exact ⟨_, _, _, _, _, _, _, _, _, _, _, _, _, _, _, _, _, _, _, _, _, _, _, _, _, _, _, _, _, _, _, _, _, _, _, _, _, _, _, _, _, _, _, _, _, _, _, _, _, _, _, _, _, _, _, _, _, _, _, _, _, _, _, _, _, _, _, _, _, _, _, rfl⟩
set_option maxRecDepth 100000 in
theorem frame82 {T : Array Value} (h : T.size = 82) : ∃ t0 t1 t2 t3 t4 t5 t6 t7 t8 t9 t10 t11 t12 t13 t14 t15 t16 t17 t18 t19 t20 t21 t22 t23 t24 t25 t26 t27 t28 t29 t30 t31 t32 t33 t34 t35 t36 t37 t38 t39 t40 t41 t42 t43 t44 t45 t46 t47 t48 t49 t50 t51 t52 t53 t54 t55 t56 t57 t58 t59 t60 t61 t62 t63 t64 t65 t66 t67 t68 t69 t70 t71 t72 t73 t74 t75 t76 t77 t78 t79 t80 t81, T = #[t0, t1, t2, t3, t4, t5, t6, t7, t8, t9, t10, t11, t12, t13, t14, t15, t16, t17, t18, t19, t20, t21, t22, t23, t24, t25, t26, t27, t28, t29, t30, t31, t32, t33, t34, t35, t36, t37, t38, t39, t40, t41, t42, t43, t44, t45, t46, t47, t48, t49, t50, t51, t52, t53, t54, t55, t56, t57, t58, t59, t60, t61, t62, t63, t64, t65, t66, t67, t68, t69, t70, t71, t72, t73, t74, t75, t76, t77, t78, t79, t80, t81] := by
  obtain ⟨l⟩ := T
  have h0 : l.length = 82 := h
  obtain ⟨t0, t1, t2, t3, t4, t5, t6, t7, t8, t9, t10, t11, t12, t13, t14, t15, t16, t17, t18, t19, r1, rfl, h1⟩ := chunk20 (m := 62) h0
  obtain ⟨t20, t21, t22, t23, t24, t25, t26, t27, t28, t29, t30, t31, t32, t33, t34, t35, t36, t37, t38, t39, r2, rfl, h2⟩ := chunk20 (m := 42) h1
  obtain ⟨t40, t41, t42, t43, t44, t45, t46, t47, t48, t49, t50, t51, t52, t53, t54, t55, t56, t57, t58, t59, r3, rfl, h3⟩ := chunk20 (m := 22) h2
  obtain ⟨t60, t61, t62, t63, t64, t65, t66, t67, t68, t69, t70, t71, t72, t73, t74, t75, t76, t77, t78, t79, r4, rfl, h4⟩ := chunk20 (m := 2) h3
  match r4, h4 with
  | [t80, t81], _ => exact ⟨_, _, _, _, _, _, _, _, _, _, _, _, _, _, _, _, _, _, _, _, _, _, _, _, _, _, _, _, _, _, _, _, _, _, _, _, _, _, _, _, _, _, _, _, _, _, _, _, _, _, _, _, _, _, _, _, _, _, _, _, _, _, _, _, _, _, _, _, _, _, _, _, _, _, _, _, _, _, _, _, _, _, rfl⟩
end Go.Proofs.YtaijjlaheoamaaaDoor
/- Layer 3: Rest: what is left, a copy. -/
namespace Go.Proofs.YtaijjlaheoamaaaDoor
open Go.RowKit

section
variable {n₀ : Nat} {w : World} {B : Nat}
theorem load_cellR {P : Program} {T : TypeId} {w : World} {a : Addr} {v : Value} (hT : (isAgg T).run P w = .ok false w) (h : w.cell? a = some v) : (Instr.loadAt T (.pointer (some a))).run P w = .ok v w := by
  simp [Instr.loadAt, Instr.sureAddr, loadVar, hT, go_sem, Result.andThen, h]
theorem fieldR98_0 (B : Nat) (w : World) : (Instr.fieldAt 107 (wptr B) 0).run Tryd.prog w = .ok (wptr B) w := by simp [go_sem]
theorem fieldR98_1 (B : Nat) (w : World) : (Instr.fieldAt 107 (wptr B) 1).run Tryd.prog w = .ok (.pointer (some ⟨B, 2, none⟩)) w := by simp [go_sem]
theorem fieldR94_1 (B : Nat) (w : World) : (Instr.fieldAt 105 (wptr B) 1).run Tryd.prog w = .ok (.pointer (some ⟨B, 1, none⟩)) w := by simp [go_sem]
def slFrom (ao : Option Addr) (c i : Nat) : Option Addr := if c = i then ao else ao.map fun x => x.add (i * 1)
theorem sliceFrom (w : World) (ao : Option Addr) (n c i : Nat) (hi : i ≤ n) : (Instr.sliceAt 22 (.slice ao n c) (some (.int .i64 i)) none none).run Tryd.prog w = .ok (.slice (slFrom ao c i) (n - i) (c - i)) w := by
  have hel : Tryd.prog.elem 22 = 5 := by kernel_rfl
  have hu : Tryd.prog.underlying 22 = some (.slice (Tryd.prog.elem 22)) := by rw [hel]; exact Tryd.underlying22
  have hs : (sizeOf 5).run Tryd.prog w = .ok 1 w := by kernel_rfl
  have h1 := (run_sliceAt_slice (P := Tryd.prog) w 22 _ _ _ _ hu).trans (run_slice_l (P := Tryd.prog) w 22 ao n c hu .i64 (i : Int) (by omega) (by omega))
  rw [hel, hs] at h1
  simp only [Result.andThen_ok, Int.toNat_natCast, sliced] at h1
  exact h1
theorem slFrom_none {ao : Option Addr} {c i : Nat} (h : ao = none → c = 0) (h2 : slFrom ao c i = none) : c - i = 0 := by
  cases ao with
  | none => have := h rfl; omega
  | some a =>
    unfold slFrom at h2
    split at h2 <;> cases h2
theorem rest_at {n₁ : Nat} {ao : Option Addr} {l : List UInt8} {c i : Nat} (hm : BytesAt n₁ w ao l) (hc : l.length ≤ c) : BytesAt n₁ w (slFrom ao c i) (l.drop i) := fun hne => by
  have hi : i < l.length := by
    rcases Nat.lt_or_ge i l.length with h | h
    · exact h
    · exact absurd (List.drop_of_length_le h) hne
  obtain ⟨b, off, rfl, hb, hcc⟩ := hm (by rintro rfl; simp at hi)
  refine ⟨b, off + i, ?_, hb, fun j hj => ?_⟩
  · unfold slFrom
    rw [if_neg (by omega), Option.map_some, Nat.mul_one, addr_add]
  · rw [List.length_drop] at hj
    rw [List.getElem?_drop, Nat.add_assoc]
    exact hcc (i + j) (by omega)

/-- What the operations of Rest's last statement yield. -/
def RestSp (B n₁ n c i : Nat) (ao : Option Addr) (r : List UInt8) : Nat → Value → World → Prop
  | 3, u, _ => u = .pointer (some ⟨B, 1, none⟩)
  | 4, u, _ => u = .slice ao n c
  | 7, u, _ => u = .pointer (some ⟨B, 2, none⟩)
  | 8, u, _ => u = .int .i64 i
  | 9, u, _ => u = .slice (slFrom ao c i) (n - i) (c - i)
  | 10, u, w => OwnB w n₁ u r
  | 11, u, w => OwnB w n₁ u r
  | _, u, _ => u = wptr B
theorem RestSp.below {B n₁ n c i : Nat} {ao : Option Addr} {r : List UInt8} {w w' : World} (hb : Below w.heap.size w w') : ∀ j u, RestSp B n₁ n c i ao r j u w → RestSp B n₁ n c i ao r j u w' := by
  intro j u h
  have hk : ∀ v l, OwnB w n₁ v l → OwnB w' n₁ v l := fun v l ho => World.ownsRow.kept ho (below_grown hb) (by cases v.ownBlock <;> simp)
  unfold RestSp at h ⊢
  split at h
  all_goals first
    | exact hk _ _ h
    | exact h
def RestPost (w : World) (r : List UInt8) (e : Ending) (w' : World) : Prop := ∃ v, e = .returned v ∧ OwnB w' w.heap.size v r ∧ Below w.heap.size w w'
set_option maxRecDepth 100000 in
set_option maxHeartbeats 1000000 in
theorem rrest_any {r : List UInt8} (h : IsRd n₀ w B r) : Calls Tryd.prog 67 #[wptr B] w fun e w' => RestPost w r e w' := by
  obtain ⟨v, l, i, h, rfl⟩ := h
  have T := Lib.hid (rthere_any h)
  obtain ⟨ao, cap, hv, hm, h1, h2, h3, -⟩ := h.own.form
  subst hv
  have hle := h.le
  have hlen := h.len
  go_enter Tryd.func67, Tryd.ntmps67
  have H := Lib.hid h
  have HM := Lib.hid hm
  have H3 := Lib.hid h3
  clear h hm h3
  go_wp2_with (go_at_call 52; refine T.out.mono ?_; rintro e w' ⟨rfl, rfl⟩)
  refine wp_region_l (fun _ w' => Below w.heap.size w w') (RestSp B w.heap.size l.length cap i ao (l.drop i)) (by kernel_rfl) (by kernel_rfl) (by kernel_rfl) (by kernel_rfl) (Below.refl _ _).drew ?step ?fin
  case step =>
    intro k o ho listed a w' hI hn hpre
    have hb := hI.inv
    have hR := H.out.below hb
    have hk : k < 12 := (Array.getElem?_eq_some_iff.1 ho).1
    match k, hk with
    | 0, _ => exact wpOp_val ho (by cases ho; rfl) (by cases ho; rfl) ⟨_, rfl, hb, fun _ => hI.kept (t := 0) (by kernel_rfl), fun _ _ _ h => h⟩
    | 1, _ =>
      cases ho
      exact wpOp_nilCheck rfl rfl rfl (hI.slot 0 6 rfl (hpre ⟨0, .data⟩ (by simp) rfl) rfl) ⟨_, rfl, hb, fun _ => rfl, fun _ _ _ h => h⟩
    | 2, _ =>
      cases ho
      exact wpOp_field rfl rfl rfl (hI.slot 1 7 rfl (hpre ⟨1, .data⟩ (by simp) rfl) rfl) (fieldR98_0 B w') ⟨_, rfl, hb, fun _ => rfl, fun _ _ _ h => h⟩
    | 3, _ =>
      cases ho
      exact wpOp_field rfl rfl rfl (hI.slot 2 8 rfl (hpre ⟨2, .data⟩ (by simp) rfl) rfl) (fieldR94_1 B w') ⟨_, rfl, hb, fun _ => rfl, fun _ _ _ h => h⟩
    | 4, _ =>
      cases ho
      exact wpOp_load rfl rfl rfl (hI.slot 3 9 rfl (hpre ⟨3, .data⟩ (by simp) rfl) rfl) (load_cellR (Tryd.isAgg22 w') hR.cell1) ⟨_, rfl, hb, fun _ => rfl, fun _ _ _ h => h⟩
    | 5, _ => exact wpOp_val ho (by cases ho; rfl) (by cases ho; rfl) ⟨_, rfl, hb, fun _ => hI.kept (t := 0) (by kernel_rfl), fun _ _ _ h => h⟩
    | 6, _ =>
      cases ho
      exact wpOp_nilCheck rfl rfl rfl (hI.slot 5 11 rfl (hpre ⟨5, .data⟩ (by simp) rfl) rfl) ⟨_, rfl, hb, fun _ => rfl, fun _ _ _ h => h⟩
    | 7, _ =>
      cases ho
      exact wpOp_field rfl rfl rfl (hI.slot 6 12 rfl (hpre ⟨6, .data⟩ (by simp) rfl) rfl) (fieldR98_1 B w') ⟨_, rfl, hb, fun _ => rfl, fun _ _ _ h => h⟩
    | 8, _ =>
      cases ho
      exact wpOp_load rfl rfl rfl (hI.slot 7 13 rfl (hpre ⟨7, .data⟩ (by simp) rfl) rfl) (load_cellR (Tryd.isAgg3 w') hR.cell2) ⟨_, rfl, hb, fun _ => rfl, fun _ _ _ h => h⟩
    | 9, _ =>
      cases ho
      have e4 : a.eval (.tmp 10) = .slice ao l.length cap := hI.slot 4 10 rfl (hpre ⟨4, .data⟩ (by simp) rfl) rfl
      have e8 : a.eval (.tmp 14) = .int .i64 i := hI.slot 8 14 rfl (hpre ⟨8, .data⟩ (by simp) rfl) rfl
      exact wpOp_slice rfl rfl rfl e4 (congrArg some e8) rfl rfl (sliceFrom w' ao l.length cap i hle) ⟨_, rfl, hb, fun _ => rfl, fun _ _ _ h => h⟩
    | 10, _ =>
      cases ho
      have e9 : a.eval (.tmp 15) = .slice (slFrom ao cap i) (l.length - i) (cap - i) := hI.slot 9 15 rfl (hpre ⟨9, .data⟩ (by simp) rfl) rfl
      have hcl := clone_wire w' (slFrom ao cap i) (l.drop i) (cap - i) w.heap.size (rest_at (HM.out.below hb) h1) (slFrom_none H3.out) (by rw [List.length_drop]; omega) (by rw [List.length_drop]; omega)
      rw [List.length_drop] at hcl
      refine wpOp_callFn rfl rfl rfl (vs := #[.slice (slFrom ao cap i) (l.length - i) (cap - i)]) (by simp only [List.map_toArray, List.map_cons, List.map_nil, e9]) (fun _ _ => by kernel_rfl) (hcl.mono ?_)
      rintro e w'' ⟨v', rfl, hO, hb2⟩
      refine ⟨_, rfl, _, rfl, hb.trans (hb2.mono hb.size), fun _ => ?_, fun j u _ h => RestSp.below hb2 j u h⟩
      refine ⟨hO.1, ?_⟩
      rcases hO.2 with e | ⟨g, cp, cur, e, hg, r⟩
      · exact .inl e
      · exact .inr ⟨g, cp, cur, e, Nat.le_trans hb.size hg, r⟩
    | 11, _ =>
      cases ho
      have e10 := hI.slot 10 16 rfl (hpre ⟨10, .data⟩ (by simp) rfl) rfl
      exact wpOp_move rfl rfl (.inr rfl) rfl ⟨_, rfl, hb, fun _ => e10, fun _ _ _ h => h⟩
  case fin =>
    intro listed a w' hI hall
    have hb := hI.inv
    have e2 : OwnB w' w.heap.size (a.eval (.tmp 2)) (l.drop i) := hI.slot 11 2 rfl (hall 11 (by decide)) rfl
    rcases a with ⟨T, D⟩
    obtain rfl : D = [] := hI.defers
    obtain ⟨t0, t1, t2, t3, t4, t5, t6, t7, t8, t9, t10, t11, t12, t13, t14, t15, t16, rfl⟩ := frame17 hI.len
    clear hI hall
    go_wp2
    go_ret
    exact ⟨_, rfl, e2, hb⟩
end
end Go.Proofs.YtaijjlaheoamaaaDoor
/- Rows of bytes that a call made: written, kept. -/
namespace Go.Proofs.YtaijjlaheoamaaaDoor
open Go.RowKit

theorem OwnB.set {w : World} {base g n cap : Nat} {l : List UInt8} (h : OwnB w base (.slice (some ⟨g, 0, none⟩) n cap) l) (i : Nat) (b : UInt8) :
    OwnB (w.setCell ⟨g, i, none⟩ (.int .u8 (b.toNat : Int))) base (.slice (some ⟨g, 0, none⟩) n cap) (l.set i b) := by
  obtain ⟨hlen, ⟨e, _⟩ | ⟨g', cap', cur, e, hb, hh, hn, hc, hs, ht⟩⟩ := h
  · cases e
  · cases e
    refine ⟨by simp [byteVals], .inr ⟨g, cap, _, by rw [List.length_set], hb, heap_setCell_same w g i cur _ _ hh, by simpa using hn, hc, by simpa using hs, ?_⟩⟩
    rw [Array.toList_setIfInBounds, List.length_set, List.take_set, ht]
    simp [byteVals, List.map_set]
theorem OwnB.below {w w' : World} {base : Nat} {v : Value} {l : List UInt8} (h : OwnB w base v l) (hb : Below w.heap.size w w') : OwnB w' base v l :=
  World.ownsRow.kept h (below_grown hb) (by cases v.ownBlock <;> simp)
theorem OwnB.mono {w : World} {b b' : Nat} {v : Value} {l : List UInt8} (h : OwnB w b v l) (hn : b' ≤ b) : OwnB w b' v l := by
  refine ⟨h.1, ?_⟩
  rcases h.2 with e | ⟨g, cp, cur, e, hg, r⟩
  · exact .inl e
  · exact .inr ⟨g, cp, cur, e, Nat.le_trans hn hg, r⟩
/-- Bytes that lie behind a writer's blocks stay when it writes. -/
theorem OwnB.kept2 {w w' : World} {base B : Nat} {u v v' : Value} {l : List UInt8} (h : OwnB w base u l) (hg : Goes2 w w' B v v') (hB : B < base) (hv : ∀ k, v.ownBlock = some k → k < base) : OwnB w' base u l := by
  refine ⟨h.1, ?_⟩
  rcases h.2 with e | ⟨g, cp, cur, e, hb, hh, r⟩
  · exact .inl e
  · exact .inr ⟨g, cp, cur, e, hb, (hg.block g (Array.getElem?_eq_some_iff.1 hh).1 (by omega) (fun e2 => by have := hv g e2.symm; omega)).trans hh, r⟩
theorem bumped (b : UInt8) : (((UInt8.ofNat (b.toNat + 1)).toNat : Nat) : Int) = ((b.toNat : Int) + 1) % 256 := by
  rw [UInt8.toNat_ofNat']; omega

end Go.Proofs.YtaijjlaheoamaaaDoor
/- Layer 4: whether a number, a kind, a page may be (the program's words and the document's). -/
namespace Go.Proofs.YtaijjlaheoamaaaDoor
open Go.RowKit

def numB (n : Int) : Bool := decide (0 ≤ n ∧ n ≤ 4095)
def kindB (k : Int) : Bool := decide (1 ≤ k ∧ k ≤ 5)
def rightB (k t x : Int) (n : Nat) : Bool := kindB k && decide (0 ≤ t) && decide (t ≤ 4611686018427387904) && numB x && decide (n ≤ 232)
abbrev pgv (k t x : Int) (a : Option Addr) (n c : Nat) : Value := .agg #[.int .i64 k, .int .i64 t, .int .i64 x, .slice a n c]

theorem isNumber_any (n : Int) (w : World) : Calls Tryd.prog 32 #[.int .i64 n] w fun e w' => e = .returned (.bool (numB n)) ∧ w = w' := by
  unfold numB
  by_cases h1 : 0 ≤ n
  · rw [show decide (0 ≤ n ∧ n ≤ 4095) = decide (n < 4096) from decide_eq_decide.2 (by omega)]
    go_enter Tryd.func32, Tryd.ntmps32
    go_wp2
    go_ret
    exact ⟨rfl, rfl⟩
  · rw [show decide (0 ≤ n ∧ n ≤ 4095) = false by simp [h1]]
    go_enter Tryd.func32, Tryd.ntmps32
    go_wp2
    go_ret
    exact ⟨rfl, rfl⟩
theorem isKind_any (n : Int) (w : World) : Calls Tryd.prog 58 #[.int .i64 n] w fun e w' => e = .returned (.bool (kindB n)) ∧ w = w' := by
  unfold kindB
  by_cases h1 : 0 < n
  · rw [show decide (1 ≤ n ∧ n ≤ 5) = decide (n < 6) from decide_eq_decide.2 (by omega)]
    go_enter Tryd.func58, Tryd.ntmps58
    go_wp2
    go_ret
    exact ⟨rfl, rfl⟩
  · rw [show decide (1 ≤ n ∧ n ≤ 5) = false by simp; omega]
    go_enter Tryd.func58, Tryd.ntmps58
    go_wp2
    go_ret
    exact ⟨rfl, rfl⟩
set_option maxHeartbeats 1000000 in
theorem check_any (k t x : Int) (a : Option Addr) (n c : Nat) (w : World) (hn : n ≤ 9223372036854775807) : Calls Tryd.prog 41 #[pgv k t x a n c] w fun e w' => e = .returned (.int .i64 (if rightB k t x n then 0 else 2)) ∧ Below w.heap.size w w' := by
  have hb : Below w.heap.size w (w.alloc (.cells #[.int .i64 k, .int .i64 t, .int .i64 x, .slice a n c] 55)) := (Below.refl _ _).alloc (Nat.le_refl _) _
  have HB := Lib.hid hb
  clear hb
  by_cases h1 : kindB k = true
  case neg =>
    have h1' : kindB k = false := by simpa using h1
    rw [show rightB k t x n = false by simp [rightB, h1']]
    go_enter Tryd.func41, Tryd.ntmps41
    go_wp2_with (first | (go_at_call 58; refine (isKind_any _ _).mono ?_; rintro e w' ⟨rfl, rfl⟩) | (go_at_call 32; refine (isNumber_any _ _).mono ?_; rintro e w' ⟨rfl, rfl⟩))
    go_ret
    exact ⟨rfl, HB.out⟩
  by_cases h2 : 0 ≤ t
  case neg =>
    rw [show rightB k t x n = false by simp [rightB, h2]]
    go_enter Tryd.func41, Tryd.ntmps41
    go_wp2_with (first | (go_at_call 58; refine (isKind_any _ _).mono ?_; rintro e w' ⟨rfl, rfl⟩) | (go_at_call 32; refine (isNumber_any _ _).mono ?_; rintro e w' ⟨rfl, rfl⟩))
    go_ret
    exact ⟨rfl, HB.out⟩
  by_cases h3 : t ≤ 4611686018427387904
  case neg =>
    rw [show rightB k t x n = false by simp [rightB, h3]]
    go_enter Tryd.func41, Tryd.ntmps41
    go_wp2_with (first | (go_at_call 58; refine (isKind_any _ _).mono ?_; rintro e w' ⟨rfl, rfl⟩) | (go_at_call 32; refine (isNumber_any _ _).mono ?_; rintro e w' ⟨rfl, rfl⟩))
    go_ret
    exact ⟨rfl, HB.out⟩
  by_cases h4 : numB x = true
  case neg =>
    have h4' : numB x = false := by simpa using h4
    rw [show rightB k t x n = false by simp [rightB, h4']]
    go_enter Tryd.func41, Tryd.ntmps41
    go_wp2_with (first | (go_at_call 58; refine (isKind_any _ _).mono ?_; rintro e w' ⟨rfl, rfl⟩) | (go_at_call 32; refine (isNumber_any _ _).mono ?_; rintro e w' ⟨rfl, rfl⟩))
    go_ret
    exact ⟨rfl, HB.out⟩
  by_cases h5 : n ≤ 232
  · rw [show rightB k t x n = true by simp [rightB, *]]
    have h5' : decide ((232 : Int) < (n : Int)) = false := by simp; omega
    go_enter Tryd.func41, Tryd.ntmps41
    go_wp2_with (first | (go_at_call 58; refine (isKind_any _ _).mono ?_; rintro e w' ⟨rfl, rfl⟩) | (go_at_call 32; refine (isNumber_any _ _).mono ?_; rintro e w' ⟨rfl, rfl⟩))
    go_ret
    exact ⟨rfl, HB.out⟩
  · rw [show rightB k t x n = false by simp [rightB, h5]]
    have h5' : decide ((232 : Int) < (n : Int)) = true := by simp; omega
    go_enter Tryd.func41, Tryd.ntmps41
    go_wp2_with (first | (go_at_call 58; refine (isKind_any _ _).mono ?_; rintro e w' ⟨rfl, rfl⟩) | (go_at_call 32; refine (isNumber_any _ _).mono ?_; rintro e w' ⟨rfl, rfl⟩))
    go_ret
    exact ⟨rfl, HB.out⟩
end Go.Proofs.YtaijjlaheoamaaaDoor
/- Layer 4: are two pages the same (the program's words and the document's); may a page be, in the document's words. -/
namespace Go.Proofs.YtaijjlaheoamaaaDoor
open Go.RowKit

def sameB (k t x : Int) (l : List UInt8) (k' t' x' : Int) (l' : List UInt8) : Bool := (k == k') && (t == t') && (x == x') && (l == l')
theorem ret_bool {a b : Bool} (h : a = b) : Ending.returned (.bool a) = .returned (.bool b) := by rw [h]
theorem equal_any (w : World) (n₁ : Nat) (a b : Option Addr) (l m : List UInt8) (c d : Nat) (ha : BytesAt n₁ w a l) (hb : BytesAt n₁ w b m) :
    Calls Tryd.prog 56 #[.slice a l.length c, .slice b m.length d] w fun e w' => e = .returned (.bool (l == m)) ∧ w = w' := by
  have h1 := conv_at w a l c n₁ ha
  have h2 := conv_at w b m d n₁ hb
  clear ha hb
  go_enter Tryd.func56, Tryd.ntmps56
  go_wp2
  go_ret
  exact ⟨rfl, rfl⟩
set_option maxHeartbeats 1000000 in
theorem right_any (k t x : Int) (a : Option Addr) (n c : Nat) (w : World) (hn : n ≤ 9223372036854775807) : Calls Tryd.prog 40 #[pgv k t x a n c] w fun e w' => e = .returned (.bool (rightB k t x n)) ∧ Below w.heap.size w w' := by
  have hb : Below w.heap.size w (w.alloc (.cells #[.int .i64 k, .int .i64 t, .int .i64 x, .slice a n c] 55)) := (Below.refl _ _).alloc (Nat.le_refl _) _
  have HB := Lib.hid hb
  clear hb
  go_enter Tryd.func40, Tryd.ntmps40
  go_wp2
  all_goals
    go_ret
    refine ⟨ret_bool ?_, HB.out⟩
    clear HB
    rw [Bool.eq_iff_iff]
    simp [rightB, kindB, numB]
    try omega
set_option maxRecDepth 100000 in
theorem psame_any (w : World) (n₁ : Nat) (hn : n₁ ≤ w.heap.size) (k t x : Int) (a : Option Addr) (l : List UInt8) (c : Nat) (k' t' x' : Int) (b : Option Addr) (m : List UInt8) (d : Nat) (ha : BytesAt n₁ w a l) (hb : BytesAt n₁ w b m) :
    Calls Tryd.prog 37 #[pgv k t x a l.length c, pgv k' t' x' b m.length d] w fun e w' => e = .returned (.bool (sameB k t x l k' t' x' m)) ∧ Below w.heap.size w w' := by
  have hbw : Below w.heap.size w ((w.alloc (.cells #[.int .i64 k, .int .i64 t, .int .i64 x, .slice a l.length c] 55)).alloc (.cells #[.int .i64 k', .int .i64 t', .int .i64 x', .slice b m.length d] 55)) := ((Below.refl _ _).alloc (Nat.le_refl _) _).alloc (by simp) _
  have HA := Lib.hid (ha.below (hbw.mono hn))
  have HC := Lib.hid (hb.below (hbw.mono hn))
  have HB := Lib.hid hbw
  clear hbw ha hb
  by_cases hk : k = k'
  case neg =>
    have e : (k == k') = false := by simpa using hk
    rw [show sameB k t x l k' t' x' m = false by simp [sameB, e]]
    clear hk
    go_enter Tryd.func37, Tryd.ntmps37
    go_wp2_with (go_at_call 56; refine (equal_any _ n₁ _ _ l m _ _ HA.out HC.out).mono ?_; rintro e w' ⟨rfl, rfl⟩)
    go_ret
    exact ⟨rfl, HB.out⟩
  subst hk
  by_cases ht : t = t'
  case neg =>
    have e : (t == t') = false := by simpa using ht
    rw [show sameB k t x l k t' x' m = false by simp [sameB, e]]
    clear ht
    go_enter Tryd.func37, Tryd.ntmps37
    go_wp2_with (go_at_call 56; refine (equal_any _ n₁ _ _ l m _ _ HA.out HC.out).mono ?_; rintro e w' ⟨rfl, rfl⟩)
    go_ret
    exact ⟨rfl, HB.out⟩
  subst ht
  by_cases hx : x = x'
  case neg =>
    have e : (x == x') = false := by simpa using hx
    rw [show sameB k t x l k t x' m = false by simp [sameB, e]]
    clear hx
    go_enter Tryd.func37, Tryd.ntmps37
    go_wp2_with (go_at_call 56; refine (equal_any _ n₁ _ _ l m _ _ HA.out HC.out).mono ?_; rintro e w' ⟨rfl, rfl⟩)
    go_ret
    exact ⟨rfl, HB.out⟩
  subst hx
  rw [show sameB k t x l k t x m = (l == m) by simp [sameB]]
  go_enter Tryd.func37, Tryd.ntmps37
  go_wp2_with (go_at_call 56; refine (equal_any _ n₁ _ _ l m _ _ HA.out HC.out).mono ?_; rintro e w' ⟨rfl, rfl⟩)
  go_ret
  exact ⟨rfl, HB.out⟩
end Go.Proofs.YtaijjlaheoamaaaDoor

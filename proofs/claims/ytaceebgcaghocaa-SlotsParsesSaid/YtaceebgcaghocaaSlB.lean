/- Layer 5: the hand that lays: a number, a truth, a text. -/
import Derived.Deep.RegionHeld3
import Derived.Test.YtaceebgcaghocaaSlA
namespace Go.Proofs.Ytaceebgcaghocaa
open Go.RowKit

/-- Block G is a hand that lays into the writer of block B, all of it from block n₀ on. -/
structure IsHand (n₀ : Nat) (w : World) (G B : Nat) (l : List UInt8) (bad : Bool) : Prop where
  row : w.heap[G]? = some (.cells #[wptr B, .bool bad] 82 (0, 0))
  lo : n₀ ≤ G
  wr : ∃ v, IsWr n₀ w B v l
def HandPost (n₀ : Nat) (w : World) (G B : Nat) (x : Value) (r : List UInt8 × Bool) (e : Ending) (w' : World) : Prop := e = .returned x ∧ IsHand n₀ w' G B r.1 r.2 ∧ Below n₀ w w' ∧ CellKeep w w'
theorem own_ge {w : World} {n₀ : Nat} {v : Value} {l : List UInt8} (h : OwnB w n₀ v l) {g : Nat} (hg : v.ownBlock = some g) : n₀ ≤ g := by
  rcases h.2 with ⟨rfl, _⟩ | ⟨g', cap, cur, rfl, h1, _⟩
  · cases hg
  · cases hg; exact h1
section
variable {n₀ : Nat} {w : World} {G B : Nat} {l : List UInt8} {bad : Bool}
theorem IsHand.lt (h : IsHand n₀ w G B l bad) : G < w.heap.size := (Array.getElem?_eq_some_iff.1 h.row).1
theorem IsHand.n_le (h : IsHand n₀ w G B l bad) : n₀ ≤ w.heap.size := Nat.le_trans h.lo (Nat.le_of_lt h.lt)
theorem IsHand.cell0 (h : IsHand n₀ w G B l bad) : w.cell? ⟨G, 0, none⟩ = some (wptr B) := cell_of_row w G 0 _ _ _ h.row
theorem IsHand.cell1 (h : IsHand n₀ w G B l bad) : w.cell? ⟨G, 1, none⟩ = some (.bool bad) := cell_of_row w G 1 _ _ _ h.row
theorem IsHand.frozen (h : IsHand n₀ w G B l bad) (i : Nat) : w.frozen? ⟨G, i, none⟩ = false := frozen_of_row w G i _ _ h.row
theorem IsHand.on (h : IsHand n₀ w G B l bad) {v v' : Value} {w' : World} {l' : List UInt8} (hw : IsWr n₀ w B v l) (hw' : IsWr n₀ w' B v' l') (hg : Goes2 w w' B v v') : IsHand n₀ w' G B l' bad ∧ Below n₀ w w' ∧ CellKeep w w' := by
  have hB := hw.cells
  refine ⟨⟨(hg.block G h.lt (fun e => ?_) (fun e => ?_)).trans h.row, h.lo, v', hw'⟩, hg.below h.n_le hw.lo (fun k hk => ?_), fun k cs fr hk => (hg.block k (Array.getElem?_eq_some_iff.1 hk).1 (fun e => ?_) (fun e => ?_)).trans hk⟩
  · have := h.row; rw [e, hB] at this; cases this
  · obtain ⟨cs, hx⟩ := own_block hw.own G e.symm
    rw [h.row] at hx; cases hx
  · exact own_ge hw.own hk
  · rw [e, hB] at hk; cases hk
  · obtain ⟨cs', hx⟩ := own_block hw.own k e.symm
    rw [hx] at hk; cases hk
theorem IsHand.below {w' : World} (h : IsHand n₀ w G B l bad) (hb : Below w.heap.size w w') : IsHand n₀ w' G B l bad := by
  obtain ⟨v, hv⟩ := h.wr
  exact ⟨go_row h.row hb, h.lo, v, hv.below hb⟩
theorem IsHand.besides {w' : World} {V : Nat} {cs : Array Value} {fr : Nat × Nat} (h : IsHand n₀ w G B l bad) (hV : w.heap[V]? = some (.cells cs 36 fr)) (hg : w.grownBy w' (some V)) : IsHand n₀ w' G B l bad := by
  obtain ⟨v, hv⟩ := h.wr
  refine ⟨(hg.block G h.lt (fun e => ?_)).trans h.row, h.lo, v, hv.kept hg (fun e => ?_) ?_⟩
  · cases e; have := h.row; rw [hV] at this; cases this
  · cases e; have := hv.cells; rw [hV] at this; cases this
  · cases hx : v.ownBlock with
    | none => exact .inl rfl
    | some g =>
      refine .inr fun e => ?_
      cases e
      obtain ⟨ds, hd⟩ := own_block hv.own V hx
      rw [hV] at hd; cases hd
theorem IsHand.spoil (h : IsHand n₀ w G B l bad) : IsHand n₀ (w.setCell ⟨G, 1, none⟩ (.bool true)) G B l true ∧ Below n₀ w (w.setCell ⟨G, 1, none⟩ (.bool true)) ∧ CellKeep w (w.setCell ⟨G, 1, none⟩ (.bool true)) := by
  obtain ⟨v, hv⟩ := h.wr
  have hg := set_grown w ⟨G, 1, none⟩ (.bool true)
  refine ⟨⟨heap_setCell_same w G 1 _ _ (.bool true) h.row, h.lo, v, hv.kept hg (fun e => ?_) ?_⟩, (Below.refl _ _).setCell h.lo _, CellKeep.of_grown h.row (by decide) hg⟩
  · cases e; have := hv.cells; rw [h.row] at this; cases this
  · cases hx : v.ownBlock with
    | none => exact .inl rfl
    | some g =>
      refine .inr fun e => ?_
      cases e
      obtain ⟨ds, hd⟩ := own_block hv.own G hx
      rw [h.row] at hd; cases hd
theorem wNum_fits {l : List UInt8} {n k : Nat} (h1 : 1 ≤ k) (h8 : k ≤ 8) (hn : n < 2 ^ (8 * k)) (hl : l.length + k ≤ 65536) : wNum l n (k : Int) = (0, l ++ laidB n k k) := by
  unfold wNum
  rw [if_neg (by rw [Int.toNat_natCast]; omega), Int.toNat_natCast, if_neg (by omega)]
def hNum (r : List UInt8 × Bool) (n lo hi : Int) : List UInt8 × Bool := if lo ≤ n ∧ n ≤ hi then (r.1 ++ laidB n.toNat 4 4, r.2) else (r.1, true)
set_option maxRecDepth 100000 in
set_option maxHeartbeats 1000000 in
theorem hnum_any (h : IsHand n₀ w G B l bad) (n lo hi : Int) (h0 : 0 ≤ lo) (h1 : hi ≤ 100000) (hl : l.length ≤ 1000) :
    Calls Try.prog 69 #[.pointer (some ⟨G, 0, none⟩), .int .i64 n, .int .i64 lo, .int .i64 hi] w fun e w' => HandPost n₀ w G B (.int .i64 n) (hNum (l, bad) n lo hi) e w' := by
  have c0 := h.cell0; have c1 := h.cell1; have f1 := h.frozen 1
  by_cases hin : lo ≤ n ∧ n ≤ hi
  · obtain ⟨a1, a2⟩ := hin
    obtain ⟨m, rfl⟩ : ∃ m : Nat, n = m := ⟨n.toNat, by omega⟩
    have d1 : decide ((m : Int) < lo) = false := by simp; omega
    have d2 : decide (hi < (m : Int)) = false := by simp; omega
    obtain ⟨v, hv⟩ := h.wr
    have HF := Lib.hid (wNum_fits (l := l) (n := m) (k := 4) (by omega) (by omega) (by have : (2:Nat) ^ (8 * 4) = 4294967296 := rfl; omega) (by omega))
    have HC := Lib.hid (wnum_any hv m 4)
    have HH := Lib.hid (And.intro h hv)
    have HN : hNum (l, bad) (m : Int) lo hi = (l ++ laidB m 4 4, bad) := by unfold hNum; rw [if_pos ⟨a1, a2⟩]; rfl
    rw [HN]
    clear h hv HN
    go_enter Try.func69, Try.ntmps69
    go_wp2_with fail
    refine HC.out.mono ?_
    rintro e w' ⟨he, v', hv', hg⟩
    have HP := Lib.hid (And.intro hv' hg)
    rw [show ((4 : Int)) = ((4 : Nat) : Int) from rfl] at HP
    rw [HF.out] at HP
    subst he
    clear hv' hg HF HC
    go_wp2
    go_ret
    exact ⟨rfl, HH.out.1.on HH.out.2 HP.out.1 HP.out.2⟩
  · rw [show hNum (l, bad) n lo hi = (l, true) by unfold hNum; rw [if_neg hin]]
    have HS := Lib.hid h.spoil
    clear h
    by_cases a1 : n < lo
    · clear hin
      go_enter Try.func69, Try.ntmps69
      go_wp2
      go_ret
      exact ⟨rfl, HS.out⟩
    · have a2 : hi < n := by omega
      clear hin
      go_enter Try.func69, Try.ntmps69
      go_wp2
      go_ret
      exact ⟨rfl, HS.out⟩
def hTruth (r : List UInt8 × Bool) (b : Bool) : List UInt8 × Bool := (r.1 ++ [if b then 1 else 0], r.2)
set_option maxRecDepth 100000 in
set_option maxHeartbeats 1000000 in
theorem htruth_any (h : IsHand n₀ w G B l bad) (b : Bool) (hl : l.length ≤ 1000) :
    Calls Try.prog 71 #[.pointer (some ⟨G, 0, none⟩), .bool b] w fun e w' => HandPost n₀ w G B (.bool b) (hTruth (l, bad) b) e w' := by
  have c0 := h.cell0; have c1 := h.cell1; have f1 := h.frozen 1
  obtain ⟨v, hv⟩ := h.wr
  have HC := Lib.hid (wtruth_any hv b)
  have HF := Lib.hid (show wTruth l b = (0, l ++ [if b then 1 else 0]) by unfold wTruth; rw [if_neg (by omega)])
  have HH := Lib.hid (And.intro h hv)
  clear h hv
  go_enter Try.func71, Try.ntmps71
  go_wp2_with fail
  refine HC.out.mono ?_
  rintro e w' ⟨he, v', hv', hg⟩
  have HP := Lib.hid (And.intro hv' hg)
  rw [HF.out] at HP
  subst he
  clear hv' hg HF HC
  go_wp2
  go_ret
  exact ⟨rfl, HH.out.1.on HH.out.2 HP.out.1 HP.out.2⟩
end
end Go.Proofs.Ytaceebgcaghocaa

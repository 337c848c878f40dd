/- Layer 3: what a reader reads: numbers, truths, texts; what is left. -/
import Derived.Test.YtaceebgcaghocaaWireR2
namespace Go.Proofs.Ytaceebgcaghocaa
open Go.RowKit

section
variable {n₀ : Nat} {w : World} {B : Nat} {v : Value} {l : List UInt8} {i : Nat}
/-- What 'hold' hands back: a function over two new blocks. -/
def HoldPost (w : World) (B i : Nat) (e : Ending) (w' : World) : Prop := ∃ p q, e = .returned (.func (.func 46) #[] #[.pointer (some ⟨p, 0, none⟩), .pointer (some ⟨q, 0, none⟩)]) ∧
  w.heap.size ≤ p ∧ w.heap.size ≤ q ∧ w'.heap[p]? = some (.cells #[.int .i64 i] 3 (0, 0)) ∧ w'.heap[q]? = some (.cells #[wptr B] 70 (0, 0)) ∧ Below w.heap.size w w'
theorem hold_any (h : IsRdAt n₀ w B v l i) : Calls Try.prog 44 #[wptr B] w fun e w' => HoldPost w B i e w' := by
  have hc := h.cell2
  have hlt := h.lt
  have hc1 : (w.alloc (.cells #[wptr B] 70)).cell? ⟨B, 2, none⟩ = some (.int .i64 i) := (below_grown ((Below.refl w.heap.size w).alloc (Nat.le_refl _) _)).cell hc (by simp)
  clear h
  go_enter Try.func44, Try.ntmps44
  go_wp2
  go_ret
  refine ⟨w.heap.size + 1, w.heap.size, rfl, by omega, Nat.le_refl _, ?_, ?_, ((Below.refl _ _).alloc (Nat.le_refl _) _).alloc (by simp) _⟩
  · have := heap_alloc_new (w.alloc (.cells #[wptr B] 70)) (.cells #[.int .i64 i] 3)
    rw [World.size_alloc] at this
    exact this
  · exact (Below.heap_alloc _ _ _ (by simp)).trans (heap_alloc_new w _)
theorem hold1_any {p q : Nat} (h : IsRdAt n₀ w B v l i) {j : Nat} (hp : w.heap[p]? = some (.cells #[.int .i64 j] 3 (0, 0))) (hq : w.heap[q]? = some (.cells #[wptr B] 70 (0, 0))) :
    Calls Try.prog 46 #[.pointer (some ⟨p, 0, none⟩), .pointer (some ⟨q, 0, none⟩)] w fun e w' => e = .returned (.int .i64 130) ∧ w' = w.setCell ⟨B, 2, none⟩ (.int .i64 j) := by
  have hc := h.cell2
  have hf := h.frozen 2
  have hp1 : w.cell? ⟨p, 0, none⟩ = some (.int .i64 j) := cell_of_row w p 0 _ _ _ hp
  have hq1 : w.cell? ⟨q, 0, none⟩ = some (wptr B) := cell_of_row w q 0 _ _ _ hq
  clear h hp hq
  go_enter Try.func46, Try.ntmps46
  go_wp2
  go_ret
  exact ⟨rfl, rfl⟩

/-- What a call of the reader leaves: its results; the reader. -/
def RdPost (n₀ : Nat) (w : World) (B : Nat) (x : Value) (r : List UInt8) (e : Ending) (w' : World) : Prop := e = .returned x ∧ IsRd n₀ w' B r ∧ w.grownBy w' (some B)
theorem grown_below {row : Option Nat} {w w' : World} (h : Below w.heap.size w w') : w.grownBy w' row := ⟨h.os, h.tape, h.output, h.size, fun k hk _ => h.block k hk⟩
theorem rd_back {p q j : Nat} {w1 w2 : World} (h1 : IsRdAt n₀ w1 B v l i) (hp : w1.heap[p]? = some (.cells #[.int .i64 i] 3 (0, 0))) (hq : w1.heap[q]? = some (.cells #[wptr B] 70 (0, 0))) (h2 : IsRdAt n₀ w2 B v l j) (hg : w1.grownBy w2 (some B)) :
    w2.heap[p]? = some (.cells #[.int .i64 i] 3 (0, 0)) ∧ w2.heap[q]? = some (.cells #[wptr B] 70 (0, 0)) ∧ IsRdAt n₀ (w2.setCell ⟨B, 2, none⟩ (.int .i64 i)) B v l i ∧ w1.grownBy (w2.setCell ⟨B, 2, none⟩ (.int .i64 i)) (some B) := by
  have hpB : p ≠ B := fun e => by
    have hc := h1.cells
    rw [← e, hp] at hc; cases hc
  have hqB : q ≠ B := fun e => by
    have hc := h1.cells
    rw [← e, hq] at hc; cases hc
  refine ⟨(hg.block p (Array.getElem?_eq_some_iff.1 hp).1 (fun e => hpB (Option.some.inj e))).trans hp, (hg.block q (Array.getElem?_eq_some_iff.1 hq).1 (fun e => hqB (Option.some.inj e))).trans hq, h2.set h1.le, World.grownBy.trans hg (set_grown w2 ⟨B, 2, none⟩ _)⟩

def rNum (r : List UInt8) (k : Int) : Nat × Nat × List UInt8 :=
  if k < 1 ∨ 8 < k then (0, 2, r) else if r.length < k.toNat then (0, 130, r) else (numOf (r.take k.toNat), 0, r.drop k.toNat)
def RNumJump (w : World) (B : Nat) (k : Int) (a' : Act) (w' : World) : Prop :=
  Below w.heap.size w w' ∧ ∃ u6 u7 u8 u9 u10 u11 u12 u13 u14 u15 u16 u17 u18 u19 u20 u21 u22 u23 u24 u25 u26 : Value, a' = { tmps := #[wptr B, .int .i64 k, undef, undef, .int .u64 0, .int .i64 0, u6, u7, u8, u9, u10, u11, u12, u13, u14, u15, u16, u17, u18, u19, u20, u21, u22, u23, u24, u25, u26], defers := [] }
set_option maxHeartbeats 1000000 in
set_option maxRecDepth 100000 in
theorem rnum_any {r : List UInt8} (h : IsRd n₀ w B r) (k : Int) : Calls Try.prog 41 #[wptr B, .int .i64 k] w fun e w' => RdPost n₀ w B (.tuple #[.int .u64 (rNum r k).1, .int .i64 (rNum r k).2.1]) (rNum r k).2.2 e w' := by
  obtain ⟨v, l, i, h, rfl⟩ := h
  have T := Lib.hid (rthere_any h)
  have HH := Lib.hid (hold_any h)
  have S := Lib.hid (fun w => sized_any (w := w) k)
  by_cases hk : 1 ≤ k ∧ k ≤ 8
  · obtain ⟨m, rfl⟩ : ∃ m : Nat, k = m := ⟨k.toNat, by omega⟩
    have hd : decide (1 ≤ (m : Int) ∧ (m : Int) ≤ 8) = true := by simp; omega
    rw [hd] at S
    have hlen := h.le
    have N := Lib.hid (fun (w1 : World) (hb : Below w.heap.size w w1) => number_any (h.below hb) m (by omega))
    have P := Lib.hid (fun (w1 : World) (hb : Below w.heap.size w w1) => h.below hb)
    have e1 : rNum (l.drop i) m = if l.length < i + m then (0, 130, l.drop i) else (numOf ((l.drop i).take m), 0, (l.drop i).drop m) := by
      unfold rNum
      rw [if_neg (by omega), Int.toNat_natCast, List.length_drop]
      by_cases hx : l.length < i + m
      · rw [if_pos hx, if_pos (by omega)]
      · rw [if_neg hx, if_neg (by omega)]
    rw [e1]
    clear h e1 hd hk hlen
    go_enter Try.func41, Try.ntmps41
    go_wp2
    go_step3
    go_wp2_with (first
      | (go_at_call 42; refine T.out.mono ?_; rintro e w' ⟨rfl, rfl⟩)
      | (go_at_call 44; refine HH.out.mono ?_; rintro e w1 ⟨p, q, rfl, hp1, hq1, hp, hq, hb⟩)
      | (go_at_call 36; refine (S.out _).mono ?_; rintro e w' ⟨rfl, rfl⟩)
      | (go_at_call 45; refine (N.out _ hb).mono ?_; rintro e w2 hn; rcases hn with ⟨hs, rfl, hb2⟩ | ⟨hs, rfl, hR, hg⟩))
    · have h1 := P.out _ hb
      obtain ⟨hp2, hq2, h3, hg3⟩ := rd_back h1 hp hq (h1.below hb2) (grown_below hb2)
      have h2 := h1.below hb2
      have HS := Lib.hid hs
      clear hs
      go_wp2_with (go_at_call 46; refine (hold1_any h2 hp2 hq2).mono ?_; rintro e w3 ⟨rfl, rfl⟩)
      rw [Exit.noGoto_ret]
      go_ret2
      rw [if_pos HS.out]
      exact ⟨rfl, ⟨_, _, _, h3, rfl⟩, World.grownBy.trans (grown_below hb) hg3⟩
    · rw [Exit.noGoto_ret]
      go_ret2
      rw [if_neg (by omega)]
      exact ⟨rfl, ⟨_, _, _, hR, by rw [List.drop_drop]⟩, World.grownBy.trans (grown_below hb) hg⟩
  · have e1 : rNum (l.drop i) k = (0, 2, l.drop i) := by unfold rNum; rw [if_pos]; omega
    rw [e1]
    have hd : decide (1 ≤ k ∧ k ≤ 8) = false := by simp; omega
    rw [hd] at S
    have P := Lib.hid (fun (w1 : World) (hb : Below w.heap.size w w1) => h.below hb)
    clear h e1 hd hk
    go_enter Try.func41, Try.ntmps41
    go_wp2
    refine wp_scope_jumps 0 (RNumJump w B k) (fun _ _ => 0) rfl ?first ?pass
    case first =>
      go_wp2_with (first
        | (go_at_call 42; refine T.out.mono ?_; rintro e w' ⟨rfl, rfl⟩)
        | (go_at_call 44; refine HH.out.mono ?_; rintro e w1 ⟨p, q, rfl, hp1, hq1, hp, hq, hb⟩)
        | (go_at_call 36; refine (S.out _).mono ?_; rintro e w' ⟨rfl, rfl⟩))
      go_step3
      exact ⟨rfl, hb, _, _, _, _, _, _, _, _, _, _, _, _, _, _, _, _, _, _, _, _, _, rfl⟩
    case pass =>
      rintro a' w' ⟨hb, u6, u7, u8, u9, u10, u11, u12, u13, u14, u15, u16, u17, u18, u19, u20, u21, u22, u23, u24, u25, u26, rfl⟩
      go_wp2
      simp only [Exit.jump]
      go_ret2
      exact ⟨rfl, ⟨_, _, _, P.out _ hb, rfl⟩, grown_below hb⟩
end
end Go.Proofs.Ytaceebgcaghocaa

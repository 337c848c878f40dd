/- Layer 5: the reader of bytes, and that it reads the same bytes on. -/
import Derived.Test.YtaceebgcaghocaaWireR4
import Derived.Test.YtaceebgcaghocaaSlE
namespace Go.Proofs.Ytaceebgcaghocaa
open Go.RowKit

def RdIn (n₀ : Nat) (w : World) (B : Nat) (v : Value) (l r : List UInt8) : Prop := ∃ i, IsRdAt n₀ w B v l i ∧ r = l.drop i
def RdPostV (n₀ : Nat) (w : World) (B : Nat) (v : Value) (l : List UInt8) (x : Value) (r : List UInt8) (e : Ending) (w' : World) : Prop := e = .returned x ∧ RdIn n₀ w' B v l r ∧ w.grownBy w' (some B)
section
variable {n₀ : Nat} {w : World} {B : Nat} {v : Value} {l : List UInt8} {i : Nat}
set_option maxHeartbeats 1000000 in
set_option maxRecDepth 100000 in
theorem rnum_v {r : List UInt8} (h : RdIn n₀ w B v l r) (k : Int) : Calls Try.prog 41 #[wptr B, .int .i64 k] w fun e w' => RdPostV n₀ w B v l (.tuple #[.int .u64 (rNum r k).1, .int .i64 (rNum r k).2.1]) (rNum r k).2.2 e w' := by
  obtain ⟨i, h, rfl⟩ := h
  have T := Lib.hid (rthere_any h)
  have HH := Lib.hid (hold_any h)
  have S := Lib.hid (fun w => sized_any (w := w) k)
  by_cases hk : 1 ≤ k ∧ k ≤ 8
  · obtain ⟨m, rfl⟩ : ∃ m : Nat, k = m := ⟨k.toNat, by omega⟩
    have hd : decide (1 ≤ (m : Int) ∧ (m : Int) ≤ 8) = true := by simp; omega
    rw [hd] at S
    have hlen := h.le
    have N := Lib.hid (fun (w1 : World) (hb : Below w.heap.size w w1) => number_any (h.below hb) m (by omega))
    have P := Lib.hid (fun (w1 : World) (hb : Below w.heap.size w w1) => h.below hb)
    have e1 : rNum (l.drop i) m = if l.length < i + m then (0, 130, l.drop i) else (numOf ((l.drop i).take m), 0, (l.drop i).drop m) := by
      unfold rNum
      rw [if_neg (by omega), Int.toNat_natCast, List.length_drop]
      by_cases hx : l.length < i + m
      · rw [if_pos hx, if_pos (by omega)]
      · rw [if_neg hx, if_neg (by omega)]
    rw [e1]
    clear h e1 hd hk hlen
    go_enter Try.func41, Try.ntmps41
    go_wp2
    go_step3
    go_wp2_with (first
      | (go_at_call 42; refine T.out.mono ?_; rintro e w' ⟨rfl, rfl⟩)
      | (go_at_call 44; refine HH.out.mono ?_; rintro e w1 ⟨p, q, rfl, hp1, hq1, hp, hq, hb⟩)
      | (go_at_call 36; refine (S.out _).mono ?_; rintro e w' ⟨rfl, rfl⟩)
      | (go_at_call 45; refine (N.out _ hb).mono ?_; rintro e w2 hn; rcases hn with ⟨hs, rfl, hb2⟩ | ⟨hs, rfl, hR, hg⟩))
    · have h1 := P.out _ hb
      obtain ⟨hp2, hq2, h3, hg3⟩ := rd_back h1 hp hq (h1.below hb2) (grown_below hb2)
      have h2 := h1.below hb2
      have HS := Lib.hid hs
      clear hs
      go_wp2_with (go_at_call 46; refine (hold1_any h2 hp2 hq2).mono ?_; rintro e w3 ⟨rfl, rfl⟩)
      rw [Exit.noGoto_ret]
      go_ret2
      rw [if_pos HS.out]
      exact ⟨rfl, ⟨_, h3, rfl⟩, World.grownBy.trans (grown_below hb) hg3⟩
    · rw [Exit.noGoto_ret]
      go_ret2
      rw [if_neg (by omega)]
      exact ⟨rfl, ⟨_, hR, by rw [List.drop_drop]⟩, World.grownBy.trans (grown_below hb) hg⟩
  · have e1 : rNum (l.drop i) k = (0, 2, l.drop i) := by unfold rNum; rw [if_pos]; omega
    rw [e1]
    have hd : decide (1 ≤ k ∧ k ≤ 8) = false := by simp; omega
    rw [hd] at S
    have P := Lib.hid (fun (w1 : World) (hb : Below w.heap.size w w1) => h.below hb)
    clear h e1 hd hk
    go_enter Try.func41, Try.ntmps41
    go_wp2
    refine wp_scope_jumps 0 (RNumJump w B k) (fun _ _ => 0) rfl ?first ?pass
    case first =>
      go_wp2_with (first
        | (go_at_call 42; refine T.out.mono ?_; rintro e w' ⟨rfl, rfl⟩)
        | (go_at_call 44; refine HH.out.mono ?_; rintro e w1 ⟨p, q, rfl, hp1, hq1, hp, hq, hb⟩)
        | (go_at_call 36; refine (S.out _).mono ?_; rintro e w' ⟨rfl, rfl⟩))
      go_step3
      exact ⟨rfl, hb, _, _, _, _, _, _, _, _, _, _, _, _, _, _, _, _, _, _, _, _, _, rfl⟩
    case pass =>
      rintro a' w' ⟨hb, u6, u7, u8, u9, u10, u11, u12, u13, u14, u15, u16, u17, u18, u19, u20, u21, u22, u23, u24, u25, u26, rfl⟩
      go_wp2
      simp only [Exit.jump]
      go_ret2
      exact ⟨rfl, ⟨_, P.out _ hb, rfl⟩, grown_below hb⟩
set_option maxHeartbeats 1000000 in
set_option maxRecDepth 100000 in
theorem rtruth_v {r : List UInt8} (h : RdIn n₀ w B v l r) : Calls Try.prog 68 #[wptr B] w fun e w' => RdPostV n₀ w B v l (.tuple #[.bool (rTruth r).1, .int .i64 (rTruth r).2.1]) (rTruth r).2.2 e w' := by
  obtain ⟨i, h, rfl⟩ := h
  have T := Lib.hid (rthere_any h)
  have HH := Lib.hid (hold_any h)
  have hlen := h.le
  have N := Lib.hid (fun (w1 : World) (hb : Below w.heap.size w w1) => number_any (h.below hb) 1 (by omega))
  have P := Lib.hid (fun (w1 : World) (hb : Below w.heap.size w w1) => h.below hb)
  have e1 : rTruth (l.drop i) = if l.length < i + 1 then (false, 130, l.drop i) else if 1 < numOf ((l.drop i).take 1) then (false, 130, l.drop i) else (numOf ((l.drop i).take 1) == 1, 0, (l.drop i).drop 1) := by
    unfold rTruth
    rw [List.length_drop]
    by_cases hx : l.length < i + 1
    · rw [if_pos hx, if_pos (by omega)]
    · rw [if_neg hx]
      by_cases hy : 1 < numOf ((l.drop i).take 1)
      · rw [if_pos hy, if_pos (by omega)]
      · rw [if_neg hy, if_neg (by omega)]
  generalize rTruth (l.drop i) = R at e1 ⊢
  have HE := Lib.hid e1
  clear h e1 hlen
  go_enter Try.func68, Try.ntmps68
  go_wp2_with (first
    | (go_at_call 42; refine T.out.mono ?_; rintro e w' ⟨rfl, rfl⟩)
    | (go_at_call 44; refine HH.out.mono ?_; rintro e w1 ⟨p, q, rfl, hp1, hq1, hp, hq, hb⟩)
    | (go_at_call 45; refine (N.out _ hb).mono ?_; rintro e w2 hn; rcases num1_cases hn with ⟨hs, rfl, hb2⟩ | ⟨n, hs, hd, rfl, hR, hg⟩ | ⟨n, hs, hd, rfl, hR, hg⟩ <;> have HS := Lib.hid hs <;> clear hs hn))
  · have h1 := P.out _ hb
    obtain ⟨hp2, hq2, h3, hg3⟩ := rd_back h1 hp hq (h1.below hb2) (grown_below hb2)
    have h2 := h1.below hb2
    go_wp2_with (go_at_call 46; refine (hold1_any h2 hp2 hq2).mono ?_; rintro e w3 ⟨rfl, rfl⟩)
    go_ret2
    have e1 := HE.out
    rw [if_pos HS.out] at e1
    subst e1
    exact ⟨rfl, ⟨_, h3, rfl⟩, World.grownBy.trans (grown_below hb) hg3⟩
  · have h1 := P.out _ hb
    obtain ⟨hp2, hq2, h3, hg3⟩ := rd_back h1 hp hq hR hg
    go_wp2_with (go_at_call 46; refine (hold1_any hR hp2 hq2).mono ?_; rintro e w3 ⟨rfl, rfl⟩)
    go_ret2
    have e1 := HE.out
    obtain ⟨h4, h5, h6⟩ := HS.out
    rw [if_neg (by omega), h5, if_pos h6] at e1
    subst e1
    exact ⟨rfl, ⟨_, h3, rfl⟩, World.grownBy.trans (grown_below hb) hg3⟩
  · go_ret2
    have e1 := HE.out
    obtain ⟨h4, h5, h6⟩ := HS.out
    rw [if_neg (by omega), h5, if_neg (by omega)] at e1
    subst e1
    refine ⟨?_, ⟨_, hR, by rw [List.drop_drop]⟩, World.grownBy.trans (grown_below hb) hg⟩
    obtain rfl | rfl : n = 0 ∨ n = 1 := by omega
    all_goals rfl
theorem RdIn.lt {r : List UInt8} (h : RdIn n₀ w B v l r) : B < w.heap.size := by obtain ⟨i, h, -⟩ := h; exact h.lt
theorem RdIn.lo {r : List UInt8} (h : RdIn n₀ w B v l r) : n₀ ≤ B := by obtain ⟨i, h, -⟩ := h; exact h.lo
theorem RdIn.below {r : List UInt8} {w' : World} (h : RdIn n₀ w B v l r) (hb : Below w.heap.size w w') : RdIn n₀ w' B v l r := by
  obtain ⟨i, h, e⟩ := h; exact ⟨i, h.below hb, e⟩
theorem RdIn.cell {r : List UInt8} (h : RdIn n₀ w B v l r) : ∃ cs, w.heap[B]? = some (.cells cs 93 (0, 0)) := by obtain ⟨i, h, -⟩ := h; exact ⟨_, h.cells⟩
/-- A block that is no reader's, nor the reader's own bytes, may be turned. -/
theorem RdIn.kept {r : List UInt8} {w' : World} {V : Option Nat} (h : RdIn n₀ w B v l r) (hg : w.grownBy w' V) (h1 : some B ≠ V) (h2 : v.ownBlock = none ∨ v.ownBlock ≠ V) : RdIn n₀ w' B v l r := by
  obtain ⟨i, h, e⟩ := h; exact ⟨i, h.kept hg h1 h2, e⟩
theorem RdIn.besides {r : List UInt8} {w' : World} {V : Nat} {cs : Array Value} {T : TypeId} {fr : Nat × Nat} (h : RdIn n₀ w B v l r) (hV : w.heap[V]? = some (.cells cs T fr)) (hT : T ≠ 5) (hT2 : T ≠ 93) (hg : w.grownBy w' (some V)) : RdIn n₀ w' B v l r := by
  refine h.kept hg (fun e => ?_) ?_
  · cases e
    obtain ⟨ds, hd⟩ := h.cell
    rw [hV] at hd; cases hd; exact hT2 rfl
  · obtain ⟨i, h, -⟩ := h
    cases hx : v.ownBlock with
    | none => exact .inl rfl
    | some g =>
      refine .inr fun e => ?_
      cases e
      obtain ⟨ds, hd⟩ := own_block h.own V hx
      rw [hV] at hd; cases hd; exact hT rfl
theorem RdIn.own_lt {r : List UInt8} (h : RdIn n₀ w B v l r) (g : Nat) (hg : v.ownBlock = some g) : g < w.heap.size := by
  obtain ⟨i, h, -⟩ := h
  obtain ⟨cs, hd⟩ := own_block h.own g hg
  exact (Array.getElem?_eq_some_iff.1 hd).1
end
end Go.Proofs.Ytaceebgcaghocaa

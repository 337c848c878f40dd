/- Layer 3: the law's own 'known'. -/
import Derived.Test.YtdmgemimbbhbiaaWireR5
namespace Go.Proofs.Ytdmgemimbbhbiaa
open Go.RowKit

section
variable {n₀ : Nat} {w w' : World} {B : Nat} {r : List UInt8}
theorem IsRd.lo (h : IsRd n₀ w B r) : n₀ ≤ B := by obtain ⟨_, _, _, h, _⟩ := h; exact h.lo
theorem IsRd.lt (h : IsRd n₀ w B r) : B < w.heap.size := by obtain ⟨_, _, _, h, _⟩ := h; exact h.lt
theorem IsRd.below (h : IsRd n₀ w B r) (hb : Below w.heap.size w w') : IsRd n₀ w' B r := by obtain ⟨v, l, i, h, e⟩ := h; exact ⟨v, l, i, h.below hb, e⟩
theorem rd_below (h : IsRd n₀ w B r) (hg : w.grownBy w' (some B)) : Below n₀ w w' := (Below.refl n₀ w).grown hg (Nat.le_trans h.lo (Nat.le_of_lt h.lt)) (fun k e => by cases e; exact h.lo)
end
theorem IsRd.mono {n₀ n₁ : Nat} {w : World} {B : Nat} {r : List UInt8} (h : IsRd n₀ w B r) (hn : n₁ ≤ n₀) : IsRd n₁ w B r := by
  obtain ⟨v, l, i, h, e⟩ := h
  refine ⟨v, l, i, ⟨h.cells, ⟨h.own.1, ?_⟩, Nat.le_trans hn h.lo, h.le, h.len⟩, e⟩
  rcases h.own.2 with e | ⟨g, cp, cur, e, hg, r⟩
  · exact .inl e
  · exact .inr ⟨g, cp, cur, e, Nat.le_trans hn hg, r⟩
theorem rleft_of {n₀ : Nat} {w : World} {B : Nat} {r : List UInt8} (h : IsRd n₀ w B r) : Calls Try.prog 49 #[wptr B] w fun e w' => e = .returned (.int .i64 r.length) ∧ Below w.heap.size w w' := by
  obtain ⟨v, l, i, h, rfl⟩ := h
  rw [List.length_drop]
  exact rleft_any h
theorem some_bytes (w : World) (l : List UInt8) : BytesAt (w.heap.size + 1) (w.alloc (.cells (byteVals l).toArray 5)) (some ⟨w.heap.size, 0, none⟩) l := fun _ =>
  ⟨_, 0, rfl, by omega, fun j hj => by
    rw [Nat.zero_add, cell_of_row _ w.heap.size j _ _ _ (heap_alloc_new w _)]
    simp [byteVals, hj]⟩
def kl1 : List UInt8 := (wNum [] 258 3).2
def kl2 : List UInt8 := (wTextS kl1 ⟨#[97, 98]⟩).2
def kl3 : List UInt8 := (wTruth kl2 true).2
theorem kw1 : wNum [] 258 3 = (0, kl1) := by kernel_rfl
theorem kw2 : wTextS kl1 ⟨#[97, 98]⟩ = (0, kl2) := by kernel_rfl
theorem kw3 : wTruth kl2 true = (0, kl3) := by kernel_rfl
theorem kw4 : kl3 = [0, 1, 2, 0, 2, 97, 98, 1] := by kernel_rfl
theorem kr1 : rText [0, 3, 97] = ([], 130, [0, 3, 97]) := by kernel_rfl
theorem kr2 : rNum [0, 3, 97] 2 = (3, 0, [97]) := by kernel_rfl
theorem kr3 : rTruth [97] = (false, 130, [97]) := by kernel_rfl

set_option maxRecDepth 100000 in
set_option maxHeartbeats 4000000 in
theorem wknown_any (w : World) : Calls Try.prog 35 #[] w fun e w' => e = .returned (.bool true) ∧ Below w.heap.size w w' := by
  go_enter Try.func35, Try.ntmps35
  go_wp2_with (first
    | (go_at_call 36; refine (newWriter_any _).mono ?_; rintro e w1 ⟨rfl, hW1, hb1⟩)
    | (go_at_call 38; refine (wnum_any hW1 258 3).mono ?_; rw [kw1]; rintro e w2 ⟨rfl, v2, hW2, hg2⟩; have hb2 := hb1.trans (hg2.below hb1.size hW1.lo (fun k e => by cases e)); clear hW1 hg2 hb1)
    | (go_at_call 40; refine (wtext_any hW2 ⟨#[97, 98]⟩ (by decide)).mono ?_; rw [kw2]; rintro e w3 ⟨rfl, v3, hW3, hg3⟩; have hb3 := hb2.trans (hg3.below hb2.size hW2.lo hW2.own.block); clear hW2 hg3 hb2)
    | (go_at_call 41; refine (wtruth_any hW3 true).mono ?_; rw [kw3, kw4]; rintro e w4 ⟨rfl, v4, hW4, hg4⟩; have hb4 := hb3.trans (hg4.below hb3.size hW3.lo hW3.own.block); clear hW3 hg4 hb3; have hm4 : BytesAt (w4.heap.size + 1) (w4.alloc (.cells #[.int .u8 0, .int .u8 3, .int .u8 97] 5)) (some ⟨w4.heap.size, 0, none⟩) [0, 3, 97] := some_bytes w4 [0, 3, 97]; have hA4 : Below w4.heap.size w4 (w4.alloc (.cells #[.int .u8 0, .int .u8 3, .int .u8 97] 5)) := (Below.refl _ _).alloc (Nat.le_refl _) _; have hS4 := Lib.hid (World.size_alloc w4 (.cells #[.int .u8 0, .int .u8 3, .int .u8 97] 5)))
    | (go_at_call 44; refine (newReader_any _ _ [0, 3, 97] 3 _ hm4 (by simp) (by simp) (by simp)).mono ?_; rintro e w5 ⟨R, rfl, hR5, hb5⟩; rw [hS4.out] at hR5 hb5; replace hb5 := hA4.trans (hb5.mono (Nat.le_succ _)); replace hR5 := hR5.mono (Nat.le_succ w4.heap.size); clear hm4 hA4)
    | (go_at_call 47; refine (rtext_any hR5).mono ?_; rw [kr1]; rintro e w6 ⟨rfl, hR6, hg6⟩; have hb6 := hb5.trans (rd_below hR5 hg6); clear hR5 hg6 hb5)
    | (go_at_call 45; refine (rnum_any hR6 2).mono ?_; rw [kr2]; rintro e w7 ⟨rfl, hR7, hg7⟩; have hb7 := hb6.trans (rd_below hR6 hg7); clear hR6 hg7 hb6)
    | (go_at_call 48; refine (rtruth_any hR7).mono ?_; rw [kr3]; rintro e w8 ⟨rfl, hR8, hg8⟩; have hb8 := hb7.trans (rd_below hR7 hg8); clear hR7 hg8 hb7)
    | (go_at_call 42; refine (wbytes_any (hW4.below hb8)).mono ?_; rintro e w9 ⟨v9, rfl, hO9, hb9⟩; obtain ⟨ao, cap, rfl, hm9, -, -, -, -⟩ := hO9.form; have hc9 := conv_at w9 ao _ cap _ hm9; change (convert 40 9 (.slice ao 8 cap)).run Try.prog w9 = .ok (.string ⟨#[0, 1, 2, 0, 2, 97, 98, 1]⟩) w9 at hc9; clear hO9 hm9)
    | (go_at_call 49; refine (rleft_of (hR8.below hb9)).mono ?_; rintro e w10 ⟨rfl, hb10⟩))
  go_ret
  have q1 := hb8.trans (hb9.mono hb8.size)
  have q2 := q1.trans (hb10.mono q1.size)
  exact ⟨rfl, hb4.trans (q2.mono hb4.size)⟩
end Go.Proofs.Ytdmgemimbbhbiaa

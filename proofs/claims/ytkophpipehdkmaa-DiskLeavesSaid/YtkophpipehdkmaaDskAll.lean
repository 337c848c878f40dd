/- The laws' own all: a page of one byte. -/
import Derived.WalkKit
import Derived.Outline
import Derived.BigQuiet
import Derived.LoopTactic
import Derived.Test.YtkophpipehdkmaaDskWrite
namespace Go.Proofs.Ytkophpipehdkmaa
open Go.RowKit

def upTo (x : UInt8) (k : Nat) : Page := (List.range 256).map fun i => if i < k then x else 0
theorem upTo_len (x : UInt8) (k : Nat) : (upTo x k).length = 256 := by simp [upTo]
theorem upTo_zero (x : UInt8) : upTo x 0 = noughts := by
  apply List.ext_getElem?
  intro i
  unfold upTo noughts
  rw [List.getElem?_map, List.getElem?_replicate]
  by_cases h : i < 256
  · rw [List.getElem?_range h, if_pos h]; rfl
  · rw [if_neg h, List.getElem?_eq_none (by rw [List.length_range]; omega)]; rfl
theorem upTo_all (x : UInt8) : upTo x 256 = List.replicate 256 x := by
  apply List.ext_getElem?
  intro i
  unfold upTo
  rw [List.getElem?_map, List.getElem?_replicate]
  by_cases h : i < 256
  · rw [List.getElem?_range h, if_pos h, Option.map_some, if_pos h]
  · rw [if_neg h, List.getElem?_eq_none (by rw [List.length_range]; omega)]; rfl
theorem upTo_set (x : UInt8) (k : Nat) (h : k < 256) : (byteVals (upTo x k)).toArray.setIfInBounds k (.int .u8 (x.toNat : Int)) = (byteVals (upTo x (k + 1))).toArray := by
  apply Array.ext_getElem?
  intro i
  rw [Array.getElem?_setIfInBounds]
  simp only [List.getElem?_toArray, byteVals, List.getElem?_map, upTo, List.size_toArray, List.length_map, List.length_range]
  by_cases hi : i < 256
  · by_cases hk : k = i
    · subst hk; simp [hi]
    · have : (i < k) ↔ (i < k + 1) := by omega
      simp [hi, hk, this]
  · have hk : k ≠ i := by omega
    simp [hi, hk]
/-- 256 bytes in a block of their own. -/
def RowAt (w : World) (g : Nat) (l : Page) : Prop := w.heap[g]? = some (.cells (byteVals l).toArray 5 (0, 0))
theorem made (n : Nat) : madeCells (Value.int .u8 0).cells n = (byteVals (List.replicate n 0)).toArray := by
  apply Array.ext_getElem?
  intro i
  by_cases h : i < n
  · simp [madeCells, byteVals, h, Value.cells, Nat.mod_one]
  · simp [madeCells, byteVals, h, Value.cells, Nat.mod_one]
theorem make40 (w : World) (n : Nat) (hn : n ≤ 16777216) : (Instr.makeSlice 31 (.int .i64 n) (.int .i64 n)).run Try.prog w = .ok (.slice (some ⟨w.heap.size, 0, none⟩) n n) (w.alloc (.cells (byteVals (List.replicate n 0)).toArray 5)) := by
  obtain ⟨i, hi, hz, hs, hb⟩ := info_parts infoU8
  have := run_makeSlice (P := Try.prog) w 31 5 i _ Try.underlying31 hi hz .i64 .i64 n n (by omega) (Int.le_refl _) (by rw [hs]; simpa using hn) (by rw [hb]; omega) (by omega)
  rw [this, hs, Nat.mul_one, Int.toNat_natCast, made]
set_option maxRecDepth 100000 in
set_option maxHeartbeats 2000000 in
theorem all_any (x : UInt8) (w : World) :
    Calls Try.prog 20 #[.int .u8 (x.toNat : Int)] w fun e w' => e = .returned (.slice (some ⟨w.heap.size, 0, none⟩) 256 256) ∧ RowAt w' w.heap.size (List.replicate 256 x) ∧ Below w.heap.size w w' := by
  have hmk := make40 w 256 (by omega)
  have h0 : RowAt (w.alloc (.cells (byteVals (List.replicate 256 0)).toArray 5)) w.heap.size (upTo x 0) := by
    rw [upTo_zero]; exact heap_alloc_last w _
  have hb0 : Below w.heap.size w (w.alloc (.cells (byteVals (List.replicate 256 0)).toArray 5)) := (Below.refl _ w).alloc (Nat.le_refl _) _
  obtain ⟨W, hW⟩ : ∃ W, w.alloc (.cells (byteVals (List.replicate 256 0)).toArray 5) = W := ⟨_, rfl⟩
  rw [hW] at hmk h0 hb0
  clear hW
  replace hmk : (Instr.makeSlice 31 (.int .i64 256) (.int .i64 256)).run Try.prog w = .ok (.slice (some ⟨w.heap.size, 0, none⟩) 256 256) W := hmk
  go_enter Try.func20, Try.ntmps20
  go_wp2
  go_loopw [4, 6, 7, 8, 9, 10, 11, 12, 13, 14, 15] (fun y _ _ _ _ _ _ _ _ _ _ wr => ∃ k : Nat, y = .int .i64 k ∧ k ≤ 256 ∧ RowAt wr w.heap.size (upTo x k) ∧ Below w.heap.size w wr)
    (fun y _ _ _ _ _ _ _ _ _ _ _ => 256 - (intOf y).toNat)
  case atStart => exact ⟨0, rfl, by omega, h0, hb0⟩
  case round =>
    obtain ⟨k, rfl, hk, hrow, hb⟩ := hrel
    by_cases hk2 : k < 256
    · have hkz : (k : Int) < 256 := by omega
      have e1 : wrap64 ((k : Int) + 1) = ((k + 1 : Nat) : Int) := by unfold wrap64; omega
      have hc : wr.cell? ⟨w.heap.size, k, none⟩ = some (.int .u8 ((upTo x k).getD k 0).toNat) := by
        rw [cell_of_row wr _ k _ _ _ hrow, List.getElem?_toArray]
        simp [byteVals, upTo, hk2]
      have hf := frozen_of_row wr w.heap.size k _ _ hrow
      have hrow2 : RowAt (wr.setCell ⟨w.heap.size, k, none⟩ (.int .u8 (x.toNat : Int))) w.heap.size (upTo x (k + 1)) := by
        have := heap_setCell_same wr w.heap.size k _ _ (.int .u8 (x.toNat : Int)) hrow
        unfold RowAt
        rw [this, upTo_set x k hk2]
      have hb2 := hb.setCell (p := ⟨w.heap.size, k, none⟩) (Nat.le_refl _) (.int .u8 (x.toNat : Int))
      go_wp2
      generalize wrap64 ((k : Int) + 1) = q at e1 ⊢
      subst e1
      go_roundw
      case rel => exact ⟨k + 1, rfl, hk2, hrow2, hb2⟩
      case measure => exact Nat.sub_lt_sub_left hk2 (Nat.lt_succ_self k)
    · obtain rfl : k = 256 := by omega
      have hkz : ¬ (((256 : Nat) : Int) < 256) := by omega
      rw [upTo_all] at hrow
      go_wp2
      go_ret
      exact ⟨rfl, hrow, hb⟩
end Go.Proofs.Ytkophpipehdkmaa

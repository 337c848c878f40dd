/- Layer 2: the laws' own calls on a disk: what they write. -/
import Derived.Test.YtkophpipehdkmaaFours
import Derived.Test.YtkophpipehdkmaaDskAll
namespace Go.Proofs.Ytkophpipehdkmaa
open Go.ChangeShapes Go.WideShapes Go.RowKit

/-- 256 bytes, the first k sectors' heads marked. -/
def markB (x : UInt8) (k : Nat) : List UInt8 := (List.range 256).map fun j => if j % 64 = 0 ∧ j / 64 < k then UInt8.ofNat (j / 64) else x
theorem markB_len (x : UInt8) (k : Nat) : (markB x k).length = 256 := by simp [markB]
theorem markB_zero (x : UInt8) : markB x 0 = List.replicate 256 x := by
  apply List.ext_getElem
  · rw [markB_len, List.length_replicate]
  · intro i h1 h2
    simp only [markB, List.getElem_map, List.getElem_range, List.getElem_replicate]
    rw [if_neg (by omega)]
theorem markB_set (x : UInt8) (k : Nat) : (markB x k).set (64 * k) (UInt8.ofNat k) = markB x (k + 1) := by
  apply List.ext_getElem
  · rw [List.length_set, markB_len, markB_len]
  · intro i h1 h2
    rw [List.getElem_set]
    simp only [markB, List.getElem_map, List.getElem_range]
    by_cases h : 64 * k = i
    · subst h
      rw [if_pos rfl, if_pos ⟨by omega, by omega⟩, show 64 * k / 64 = k by omega]
    · rw [if_neg h]
      by_cases h3 : i % 64 = 0 ∧ i / 64 < k
      · rw [if_pos h3, if_pos ⟨h3.1, by omega⟩]
      · rw [if_neg h3, if_neg (by omega)]
theorem row_set {w : World} {g : Nat} {l : List UInt8} (h : RowAt w g l) (i : Nat) (b : UInt8) : RowAt (w.setCell ⟨g, i, none⟩ (.int .u8 (b.toNat : Int))) g (l.set i b) := by
  unfold RowAt
  rw [heap_setCell_same w g i _ _ (.int .u8 (b.toNat : Int)) h]
  simp [byteVals, List.map_set]
/-- The bytes that a call writes. -/
def actL (p : Int) (x : UInt8) : List UInt8 := if x.toNat = 255 then List.replicate (max 0 (min p 300)).toNat 0 else markB x 4
def actV (k p : Int) (x : UInt8) (r : Int) : Value := .agg #[.int .i64 k, .int .i64 p, .int .u8 (x.toNat : Int), .int .i64 r]
def ActPost (w : World) (l : List UInt8) (e : Ending) (w' : World) : Prop := ∃ g, e = .returned (.slice (some ⟨g, 0, none⟩) l.length l.length) ∧ RowAt w' g l ∧ w.heap.size ≤ g ∧ Below w.heap.size w w'
set_option maxRecDepth 100000 in
set_option maxHeartbeats 4000000 in
theorem actBytes_any (k p : Int) (x : UInt8) (r : Int) (w : World) : Calls Try.prog 17 #[actV k p x r] w fun e w' => ActPost w (actL p x) e w' := by
  unfold actV
  have hb0 : Below w.heap.size w (w.alloc (.cells #[.int .i64 k, .int .i64 p, .int .u8 (x.toNat : Int), .int .i64 r] 39)) := (Below.refl _ _).alloc (Nat.le_refl _) _
  by_cases hx : x.toNat = 255
  · have hmk : ∀ n : Nat, n ≤ 16777216 → (Instr.makeSlice 31 (.int .i64 n) (.int .i64 n)).run Try.prog (w.alloc (.cells #[.int .i64 k, .int .i64 p, .int .u8 255, .int .i64 r] 39)) = .ok (.slice (some ⟨w.heap.size + 1, 0, none⟩) n n) ((w.alloc (.cells #[.int .i64 k, .int .i64 p, .int .u8 255, .int .i64 r] 39)).alloc (.cells (byteVals (List.replicate n 0)).toArray 5)) := fun n hn => by
      have := make40 (w.alloc (.cells #[.int .i64 k, .int .i64 p, .int .u8 255, .int .i64 r] 39)) n hn
      rw [World.size_alloc] at this
      exact this
    have FIN : ∀ n : Nat, (max 0 (min p 300)).toNat = n → ActPost w (actL p x) (.returned (.slice (some ⟨w.heap.size + 1, 0, none⟩) n n)) ((w.alloc (.cells #[.int .i64 k, .int .i64 p, .int .u8 255, .int .i64 r] 39)).alloc (.cells (byteVals (List.replicate n 0)).toArray 5)) := fun n hn => by
      have e1 : actL p x = List.replicate n 0 := by unfold actL; rw [if_pos hx, hn]
      rw [e1]
      refine ⟨w.heap.size + 1, by rw [List.length_replicate], ?_, by omega, ((Below.refl _ _).alloc (Nat.le_refl _) _).alloc (by simp) _⟩
      have := heap_alloc_new (w.alloc (.cells #[.int .i64 k, .int .i64 p, .int .u8 255, .int .i64 r] 39)) (.cells (byteVals (List.replicate n 0)).toArray 5)
      rw [World.size_alloc] at this
      exact this
    have HF := Lib.hid FIN
    have e255 : (x.toNat : Int) = 255 := by omega
    rw [e255]
    clear FIN hb0 hx e255
    by_cases hp0 : p ≤ 0
    · have hm0 := hmk 0 (by omega)
      have F := Lib.hid (HF.out 0 (by omega))
      generalize hW : (w.alloc (.cells #[.int .i64 k, .int .i64 p, .int .u8 255, .int .i64 r] 39)).alloc (.cells (byteVals (List.replicate 0 0)).toArray 5) = W at hm0 F
      have hm0' : (Instr.makeSlice 31 (.int .i64 0) (.int .i64 0)).run Try.prog (w.alloc (.cells #[.int .i64 k, .int .i64 p, .int .u8 255, .int .i64 r] 39)) = .ok (.slice (some ⟨w.heap.size + 1, 0, none⟩) 0 0) W := hm0
      have h300 : p ≤ 300 := by omega
      clear hmk HF hm0 hW
      go_enter Try.func17, Try.ntmps17
      go_wp2
      go_ret
      exact F.out
    · by_cases hp3 : p ≤ 300
      · obtain ⟨m, rfl⟩ : ∃ m : Nat, p = m := ⟨p.toNat, by omega⟩
        have hm0 := hmk m (by omega)
        have F := Lib.hid (HF.out m (by omega))
        generalize hW : (w.alloc (.cells #[.int .i64 k, .int .i64 m, .int .u8 255, .int .i64 r] 39)).alloc (.cells (byteVals (List.replicate m 0)).toArray 5) = W at hm0 F
        clear hmk HF hW
        go_enter Try.func17, Try.ntmps17
        go_wp2
        go_ret
        exact F.out
      · have hm0 := hmk 300 (by omega)
        have F := Lib.hid (HF.out 300 (by omega))
        generalize hW : (w.alloc (.cells #[.int .i64 k, .int .i64 p, .int .u8 255, .int .i64 r] 39)).alloc (.cells (byteVals (List.replicate 300 0)).toArray 5) = W at hm0 F
        have hm0' : (Instr.makeSlice 31 (.int .i64 300) (.int .i64 300)).run Try.prog (w.alloc (.cells #[.int .i64 k, .int .i64 p, .int .u8 255, .int .i64 r] 39)) = .ok (.slice (some ⟨w.heap.size + 1, 0, none⟩) 300 300) W := hm0
        clear hmk HF hm0 hW
        go_enter Try.func17, Try.ntmps17
        go_wp2
        go_ret
        exact F.out
  · have hx8 := UInt8.toNat_lt x
    have hxz : ((x.toNat : Int) == 255) = false := by simp; omega
    have e1 : actL p x = markB x 4 := by unfold actL; rw [if_neg hx]
    rw [e1]
    have HA := Lib.hid (fun w => all_any x w)
    clear e1
    go_enter Try.func17, Try.ntmps17
    go_wp2_with (go_at_call 20; refine (HA.out _).mono ?_; rintro e w2 ⟨rfl, hrow, hb2⟩; rw [World.size_alloc] at hrow)
    have hbB := hb0.trans (hb2.mono hb0.size)
    rw [← markB_zero] at hrow
    go_loopw [4] (fun y wr => ∃ j : Nat, y = .int .i64 j ∧ j ≤ 4 ∧ RowAt wr (w.heap.size + 1) (markB x j) ∧ Below w.heap.size w wr) (fun y _ => 4 - (intOf y).toNat)
    case atStart => exact ⟨0, rfl, by omega, hrow, hbB⟩
    case round =>
      clear hrow hbB hb2
      obtain ⟨j, rfl, hj, hrow, hb⟩ := hrel
      by_cases hlt : j < 4
      · have hj4 : (j : Int) < 4 := by omega
        have hc : wr.cell? ⟨w.heap.size + 1, 64 * j, none⟩ = some (.int .u8 (((markB x j)[64 * j]?.getD 0).toNat : Int)) := by
          rw [cell_of_row wr _ _ _ _ _ hrow, List.getElem?_toArray]
          have : 64 * j < (markB x j).length := by rw [markB_len]; omega
          simp [byteVals, this]
        have hf := frozen_of_row wr (w.heap.size + 1) (64 * j) _ _ hrow
        have hset := row_set hrow (64 * j) (UInt8.ofNat j)
        rw [markB_set] at hset
        have hbj : (((UInt8.ofNat j).toNat : Nat) : Int) = (j : Int) := by rw [UInt8.toNat_ofNat']; omega
        rw [hbj] at hset
        have HS := Lib.hid hset
        have HB := Lib.hid (hb.setCell (p := ⟨w.heap.size + 1, 64 * j, none⟩) (by show w.heap.size ≤ w.heap.size + 1; omega) (.int .u8 (j : Int)))
        clear hset hrow hb hbj
        go_wp2
        exact ⟨⟨j + 1, by rw [show ((j + 1 : Nat) : Int) = (j : Int) + 1 by omega], hlt, HS.out, HB.out⟩, by simp only [intOf]; omega⟩
      · obtain rfl : j = 4 := by omega
        have hj4 : ¬ (((4 : Nat) : Int) < 4) := by omega
        go_wp2
        go_ret
        exact ⟨_, by rw [markB_len]; rfl, hrow, by omega, hb⟩
end Go.Proofs.Ytkophpipehdkmaa

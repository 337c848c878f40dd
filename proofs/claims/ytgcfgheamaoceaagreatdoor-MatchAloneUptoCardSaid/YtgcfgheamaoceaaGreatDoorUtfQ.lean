/- Layer 12: the document's rune and its bytes. -/
import Derived.Test.YtgcfgheamaoceaaGreatDoorUtfJ
namespace Go.Proofs.YtgcfgheamaoceaaGreatDoor
open Go.RowKit

set_option maxRecDepth 100000 in
theorem refMay_any (r : Int) (w : World) : Calls Tryz.prog 127 #[.int .i32 r] w fun e w' => e = .returned (.bool (mayZ r)) ∧ w = w' := by
  rcases Int.lt_or_le r 0 with h0 | h0
  · rw [show mayZ r = false by simp [mayZ]; omega]
    have d0 : decide (0 ≤ r) = false := by simp; omega
    have d2 : decide (57343 < r) = false := by simp; omega
    go_enter Tryz.func127, Tryz.ntmps127
    go_wp2
    go_ret
    exact ⟨rfl, rfl⟩
  rcases Int.lt_or_le 1114111 r with h1 | h1
  · rw [show mayZ r = false by simp [mayZ]; omega]
    have d1 : decide (r < 55296) = false := by simp; omega
    have d3 : decide (r ≤ 1114111) = false := by simp; omega
    go_enter Tryz.func127, Tryz.ntmps127
    go_wp2
    go_ret
    exact ⟨rfl, rfl⟩
  rcases Int.lt_or_le r 55296 with h2 | h2
  · rw [show mayZ r = true by simp [mayZ]; omega]
    go_enter Tryz.func127, Tryz.ntmps127
    go_wp2
    go_ret
    exact ⟨rfl, rfl⟩
  rcases Int.lt_or_le 57343 r with h3 | h3
  · rw [show mayZ r = true by simp [mayZ]; omega]
    have d1 : decide (r < 55296) = false := by simp; omega
    go_enter Tryz.func127, Tryz.ntmps127
    go_wp2
    go_ret
    exact ⟨rfl, rfl⟩
  · rw [show mayZ r = false by simp [mayZ]; omega]
    have d1 : decide (r < 55296) = false := by simp; omega
    have d2 : decide (57343 < r) = false := by simp; omega
    go_enter Tryz.func127, Tryz.ntmps127
    go_wp2
    go_ret
    exact ⟨rfl, rfl⟩
theorem six_any (z : Int) (h0 : 0 ≤ z) (h1 : z ≤ 2000000) (w : World) : Calls Tryz.prog 144 #[.int .i64 z] w fun e w' => e = .returned (.int .u8 (128 + z % 64)) ∧ w = w' := by
  go_enter Tryz.func144, Tryz.ntmps144
  go_wp2
  go_ret
  exact ⟨rfl, rfl⟩
theorem conv_new (w : World) (l : List UInt8) (c : Nat) (cs : Array Value) (hcs : cs = (byteVals l).toArray) : (convert 137 9 (.slice (some ⟨w.heap.size, 0, none⟩) l.length c)).run Tryz.prog (w.alloc (.cells cs 5)) = .ok (.string ⟨l.toArray⟩) (w.alloc (.cells cs 5)) := by
  refine conv_at _ _ l c (w.heap.size + 1) fun _ => ⟨w.heap.size, 0, rfl, by omega, fun j hj => ?_⟩
  have hr : (w.alloc (.cells cs 5)).heap[w.heap.size]? = some (.cells cs 5 (0, 0)) := World.alloc_heap_new w _
  rw [Nat.zero_add, cell_of_row _ _ j _ _ _ hr, hcs]
  unfold byteVals
  simp [hj]
def StrPost (w : World) (l : List UInt8) (e : Ending) (w' : World) : Prop := e = .returned (.string ⟨l.toArray⟩) ∧ Below w.heap.size w w'
set_option maxRecDepth 100000 in
set_option maxHeartbeats 2000000 in
theorem refRaw_any (n : Nat) (hn : n < 1114112) (w : World) : Calls Tryz.prog 128 #[.int .i32 n] w fun e w' => StrPost w (rawR n) e w' := by
  have h00 : (0 : Int) ≤ n := by omega
  have hn0 : (n : Int) < 1114112 := by omega
  rcases Nat.lt_or_ge n 128 with h | h
  · have hraw : rawR n = [UInt8.ofNat n] := by unfold rawR; rw [if_pos h]
    have hcv := conv_new w (rawR n) 1 #[.int .u8 (n : Int)] (by rw [hraw]; simp [byteVals, toNat_of (show n < 256 by omega)])
    rw [show (rawR n).length = 1 by rw [hraw]; rfl] at hcv
    have hlt : (n : Int) < 128 := by omega
    clear hn h hraw
    generalize rawR n = l at *
    generalize (n : Int) = z at *
    go_enter Tryz.func128, Tryz.ntmps128
    go_wp2
    go_ret
    exact ⟨rfl, (Below.refl _ w).alloc (Nat.le_refl _) _⟩
  rcases Nat.lt_or_ge n 2048 with h' | h'
  · have hraw : rawR n = [UInt8.ofNat (192 + n / 64), UInt8.ofNat (128 + n % 64)] := by unfold rawR; rw [if_neg (by omega), if_pos h']
    have hcv := conv_new w (rawR n) 2 #[.int .u8 (192 + (n : Int) / 64), .int .u8 (128 + (n : Int) % 64)] (by rw [hraw]; simp [byteVals]; omega)
    rw [show (rawR n).length = 2 by rw [hraw]; rfl] at hcv
    have hlo : 128 ≤ (n : Int) := by omega
    have hlt : (n : Int) < 2048 := by omega
    clear hn h h' hraw
    generalize rawR n = l at *
    generalize (n : Int) = z at *
    go_enter Tryz.func128, Tryz.ntmps128
    go_wp2_with (go_at_call 144; refine (six_any _ (by omega) (by omega) _).mono ?_; rintro e w' ⟨rfl, rfl⟩)
    go_ret
    exact ⟨rfl, (Below.refl _ w).alloc (Nat.le_refl _) _⟩
  rcases Nat.lt_or_ge n 65536 with h'' | h''
  · have hraw : rawR n = [UInt8.ofNat (224 + n / 4096), UInt8.ofNat (128 + n / 64 % 64), UInt8.ofNat (128 + n % 64)] := by unfold rawR; rw [if_neg (by omega), if_neg (by omega), if_pos h'']
    have hcv := conv_new w (rawR n) 3 #[.int .u8 (224 + (n : Int) / 4096), .int .u8 (128 + (n : Int) / 64 % 64), .int .u8 (128 + (n : Int) % 64)] (by rw [hraw]; simp [byteVals]; omega)
    rw [show (rawR n).length = 3 by rw [hraw]; rfl] at hcv
    have hlo : 2048 ≤ (n : Int) := by omega
    have hlt : (n : Int) < 65536 := by omega
    clear hn h h' h'' hraw
    generalize rawR n = l at *
    generalize (n : Int) = z at *
    go_enter Tryz.func128, Tryz.ntmps128
    go_wp2_with (go_at_call 144; refine (six_any _ (by omega) (by omega) _).mono ?_; rintro e w' ⟨rfl, rfl⟩)
    go_ret
    exact ⟨rfl, (Below.refl _ w).alloc (Nat.le_refl _) _⟩
  · have hraw : rawR n = [UInt8.ofNat (240 + n / 262144), UInt8.ofNat (128 + n / 4096 % 64), UInt8.ofNat (128 + n / 64 % 64), UInt8.ofNat (128 + n % 64)] := by unfold rawR; rw [if_neg (by omega), if_neg (by omega), if_neg (by omega)]
    have hcv := conv_new w (rawR n) 4 #[.int .u8 (240 + (n : Int) / 262144), .int .u8 (128 + (n : Int) / 4096 % 64), .int .u8 (128 + (n : Int) / 64 % 64), .int .u8 (128 + (n : Int) % 64)] (by rw [hraw]; simp [byteVals]; omega)
    rw [show (rawR n).length = 4 by rw [hraw]; rfl] at hcv
    have hlo : 65536 ≤ (n : Int) := by omega
    clear hn h h' h'' hraw
    generalize rawR n = l at *
    generalize (n : Int) = z at *
    go_enter Tryz.func128, Tryz.ntmps128
    go_wp2_with (go_at_call 144; refine (six_any _ (by omega) (by omega) _).mono ?_; rintro e w' ⟨rfl, rfl⟩)
    go_ret
    exact ⟨rfl, (Below.refl _ w).alloc (Nat.le_refl _) _⟩
end Go.Proofs.YtgcfgheamaoceaaGreatDoor

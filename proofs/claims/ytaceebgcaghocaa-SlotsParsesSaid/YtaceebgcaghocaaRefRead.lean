/- The document's number out of bytes. -/
import Derived.Test.YtaceebgcaghocaaOwnB
namespace Go.Proofs.Ytaceebgcaghocaa
open Go.RowKit

def RefReadPost (w : World) (l : List UInt8) (k : Nat) (e : Ending) (w' : World) : Prop :=
  e = .returned (if l.length < k then .tuple #[.int .u64 0, .bool false] else .tuple #[.int .u64 (numOf (l.take k) : Nat), .bool true]) ∧ w = w'
set_option maxHeartbeats 1000000 in
set_option maxRecDepth 100000 in
/-- The document's Read. -/
theorem refRead_any (ao : Option Addr) (l : List UInt8) (cap k n₁ : Nat) (hk : k ≤ 8) (w : World) (hm : BytesAt n₁ w ao l) (hl : l.length ≤ 1000000) :
    Calls Try.prog 15 #[.slice ao l.length cap, .int .i64 k] w fun e w' => RefReadPost w l k e w' := by
  by_cases hs : l.length < k
  · have hd : decide ((l.length : Int) < (k : Int)) = true := by simp; omega
    have P : RefReadPost w l k (.returned (.tuple #[.int .u64 0, .bool false])) w := ⟨by rw [if_pos hs], rfl⟩
    go_enter Try.func15, Try.ntmps15
    go_wp2
    go_ret2
    exact P
  · have hd : decide ((l.length : Int) < (k : Int)) = false := by simp; omega
    have P : RefReadPost w l k (.returned (.tuple #[.int .u64 (numOf (l.take k) : Nat), .bool true])) w := ⟨by rw [if_neg hs], rfl⟩
    have HP := Lib.hid P
    clear P
    go_enter Try.func15, Try.ntmps15
    go_wp2
    go_loopw [6, 7, 12, 13, 14, 15, 16, 17, 18, 19, 20, 21, 22, 23, 24] (fun x y _ _ _ _ _ _ _ _ _ _ _ _ _ wr => wr = w ∧ ∃ j : Nat, j ≤ k ∧ y = .int .i64 j ∧ x = .int .u64 (numOf (l.take j) : Nat)) (fun _ y _ _ _ _ _ _ _ _ _ _ _ _ _ _ => k - (intOf y).toNat)
    case atStart => exact ⟨rfl, 0, Nat.zero_le _, rfl, by simp [numOf]⟩
    case round =>
      obtain ⟨rfl, j, hj, rfl, rfl⟩ := hrel
      by_cases hlt : j < k
      · obtain ⟨b, off, rfl, hb, hc⟩ := hm (by rintro rfl; simp at hs; omega)
        have hcj := hc j (by omega)
        have hjk : (j : Int) < k := by omega
        have hjl : (j : Int) < l.length := by omega
        have hlt2 := numOf_lt (l.take j)
        rw [List.length_take, show min j l.length = j by omega] at hlt2
        have hnt := numOf_take (l := l) (j := j) (by omega)
        obtain ⟨x, hx⟩ : ∃ x, numOf (l.take j) = x := ⟨_, rfl⟩
        obtain ⟨y, hy⟩ : ∃ y, l[j]?.getD 0 = y := ⟨_, rfl⟩
        rw [hx] at hlt2 hnt ⊢
        rw [hy] at hcj hnt
        have hx2 : x < 72057594037927936 := by have := Nat.pow_le_pow_right (n := 256) (by omega) (show j ≤ 7 by omega); omega
        have hy2 := UInt8.toNat_lt y
        have HNT := Lib.hid hnt
        clear hc hnt
        go_wp2
        exact ⟨⟨trivial, j + 1, hlt, by rw [show ((j + 1 : Nat) : Int) = (j : Int) + 1 by omega], by rw [HNT.out, show ((x * 256 + y.toNat : Nat) : Int) = 256 * (x : Int) + (y.toNat : Int) by omega]⟩, by simp only [intOf]; omega⟩
      · obtain rfl : j = k := by omega
        have hjk : ¬ ((j : Int) < j) := by omega
        go_wp2
        go_ret2
        exact HP.out
end Go.Proofs.Ytaceebgcaghocaa

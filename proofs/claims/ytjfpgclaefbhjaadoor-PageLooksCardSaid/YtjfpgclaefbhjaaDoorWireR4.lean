/- Layer 3: truths and texts that are read; what is left. -/
import Derived.Test.YtjfpgclaefbhjaaDoorWireR3
namespace Go.Proofs.YtjfpgclaefbhjaaDoor
open Go.RowKit

/-- string(b) of bytes that lie anywhere. -/
theorem conv_at (w : World) (ao : Option Addr) (l : List UInt8) (cap n₁ : Nat) (hm : BytesAt n₁ w ao l) : (convert 23 9 (.slice ao l.length cap)).run Tryd.prog w = .ok (.string ⟨l.toArray⟩) w := by
  cases l with
  | nil => cases ao <;> (simp [go_sem, convert, Conv.bytesToString]; try rfl)
  | cons x t =>
    obtain ⟨b, o, rfl, hb, hc⟩ := hm (by simp)
    generalize x :: t = l at hc
    have := run_convert_bytes_arg (P := Tryd.prog) (w := w) 23 5 Tryd.underlying23 Tryd.underlying5 b o l.length cap (l.map fun x => (x.toNat : Int)) (by simp) (fun i hi => by
      rw [hc i hi]
      simp [List.getD, hi]) 9 Tryd.underlying9
    rw [this]
    refine congrArg (fun s => Result.ok (Value.string s) w) ?_
    apply ByteArray.ext
    apply Array.toList_inj.1
    rw [strOfNums_data, List.map_map]
    show _ = l
    conv => rhs; rw [← List.map_id l]
    apply List.map_congr_left
    intro x _
    simp

def rTruth (r : List UInt8) : Bool × Nat × List UInt8 := if r.length < 1 ∨ 1 < numOf (r.take 1) then (false, 130, r) else (numOf (r.take 1) == 1, 0, r.drop 1)
def rText (r : List UInt8) : List UInt8 × Nat × List UInt8 :=
  if r.length < 2 ∨ r.length < 2 + numOf (r.take 2) then ([], 130, r) else ((r.drop 2).take (numOf (r.take 2)), 0, r.drop (2 + numOf (r.take 2)))
section
variable {n₀ : Nat} {w : World} {B : Nat}
theorem num1_cases {v : Value} {l : List UInt8} {i : Nat} {e : Ending} {w' : World} (h : NumPost n₀ w B v l i 1 e w') :
    (l.length < i + 1 ∧ e = .returned (.tuple #[.int .u64 0, .bool false]) ∧ Below w.heap.size w w') ∨
    (∃ n : Nat, (i + 1 ≤ l.length ∧ numOf ((l.drop i).take 1) = n ∧ 1 < n) ∧ decide ((1 : Int) < (n : Int)) = true ∧ e = .returned (.tuple #[.int .u64 n, .bool true]) ∧ IsRdAt n₀ w' B v l (i + 1) ∧ w.grownBy w' (some B)) ∨
    (∃ n : Nat, (i + 1 ≤ l.length ∧ numOf ((l.drop i).take 1) = n ∧ n ≤ 1) ∧ decide ((1 : Int) < (n : Int)) = false ∧ e = .returned (.tuple #[.int .u64 n, .bool true]) ∧ IsRdAt n₀ w' B v l (i + 1) ∧ w.grownBy w' (some B)) := by
  rcases h with h | ⟨hs, rfl, hR, hg⟩
  · exact .inl h
  · by_cases hn : 1 < numOf ((l.drop i).take 1)
    · exact .inr (.inl ⟨_, ⟨hs, rfl, hn⟩, by simp; omega, rfl, hR, hg⟩)
    · exact .inr (.inr ⟨_, ⟨hs, rfl, by omega⟩, by simp; omega, rfl, hR, hg⟩)
theorem num2_cases {v : Value} {l : List UInt8} {i : Nat} {e : Ending} {w' : World} (h : NumPost n₀ w B v l i 2 e w') :
    (l.length < i + 2 ∧ e = .returned (.tuple #[.int .u64 0, .bool false]) ∧ Below w.heap.size w w') ∨
    (∃ n : Nat, (i + 2 ≤ l.length ∧ numOf ((l.drop i).take 2) = n) ∧ n < 65536 ∧ e = .returned (.tuple #[.int .u64 n, .bool true]) ∧ IsRdAt n₀ w' B v l (i + 2) ∧ w.grownBy w' (some B)) := by
  rcases h with h | ⟨hs, rfl, hR, hg⟩
  · exact .inl h
  · refine .inr ⟨_, ⟨hs, rfl⟩, ?_, rfl, hR, hg⟩
    have := numOf_lt ((l.drop i).take 2)
    rw [List.length_take, List.length_drop, show min 2 (l.length - i) = 2 by omega] at this
    omega
theorem cutT_cases {v : Value} {l : List UInt8} {i k : Nat} {e : Ending} {w' : World} (h : CutPost n₀ w B v l i k e w') :
    (l.length < i + k ∧ e = .returned (.tuple #[.slice none 0 0, .bool false]) ∧ Below w.heap.size w w') ∨
    (i + k ≤ l.length ∧ ∃ ao, e = .returned (.tuple #[.slice ao k k, .bool true]) ∧ (convert 23 9 (.slice ao k k)).run Tryd.prog w' = .ok (.string ⟨((l.drop i).take k).toArray⟩) w' ∧ IsRdAt n₀ w' B v l (i + k) ∧ w.grownBy w' (some B)) := by
  rcases h with h | ⟨hs, ao, rfl, hm, hR, hg⟩
  · exact .inl h
  · refine .inr ⟨hs, ao, rfl, ?_, hR, hg⟩
    have hcl : ((l.drop i).take k).length = k := by rw [List.length_take, List.length_drop]; omega
    have hcv := conv_at w' ao _ k _ hm
    rw [hcl] at hcv
    exact hcv
end
end Go.Proofs.YtjfpgclaefbhjaaDoor

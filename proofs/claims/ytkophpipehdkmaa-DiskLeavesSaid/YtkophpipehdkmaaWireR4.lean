/- Layer 3: truths and texts that are read; what is left. -/
import Derived.Test.YtkophpipehdkmaaWireR3
namespace Go.Proofs.Ytkophpipehdkmaa
open Go.RowKit

/-- string(b) of bytes that lie anywhere. -/
theorem conv_at (w : World) (ao : Option Addr) (l : List UInt8) (cap n₁ : Nat) (hm : BytesAt n₁ w ao l) : (convert 31 9 (.slice ao l.length cap)).run Try.prog w = .ok (.string ⟨l.toArray⟩) w := by
  cases l with
  | nil => cases ao <;> (simp [go_sem, convert, Conv.bytesToString]; try rfl)
  | cons x t =>
    obtain ⟨b, o, rfl, hb, hc⟩ := hm (by simp)
    generalize x :: t = l at hc
    have := run_convert_bytes_arg (P := Try.prog) (w := w) 31 5 Try.underlying31 Try.underlying5 b o l.length cap (l.map fun x => (x.toNat : Int)) (by simp) (fun i hi => by
      rw [hc i hi]
      simp [List.getD, hi]) 9 Try.underlying9
    rw [this]
    refine congrArg (fun s => Result.ok (Value.string s) w) ?_
    apply ByteArray.ext
    apply Array.toList_inj.1
    rw [strOfNums_data, List.map_map]
    show _ = l
    conv => rhs; rw [← List.map_id l]
    apply List.map_congr_left
    intro x _
    simp

def rTruth (r : List UInt8) : Bool × Nat × List UInt8 := if r.length < 1 ∨ 1 < numOf (r.take 1) then (false, 130, r) else (numOf (r.take 1) == 1, 0, r.drop 1)
def rText (r : List UInt8) : List UInt8 × Nat × List UInt8 :=
  if r.length < 2 ∨ r.length < 2 + numOf (r.take 2) then ([], 130, r) else ((r.drop 2).take (numOf (r.take 2)), 0, r.drop (2 + numOf (r.take 2)))
section
variable {n₀ : Nat} {w : World} {B : Nat}
end
end Go.Proofs.Ytkophpipehdkmaa

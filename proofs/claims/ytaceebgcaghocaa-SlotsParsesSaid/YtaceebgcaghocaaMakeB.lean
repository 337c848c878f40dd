/- make of bytes. -/
import Derived.Laws.MakeOwn
import Derived.Test.YtaceebgcaghocaaBytes
namespace Go.Proofs.Ytaceebgcaghocaa
open Go.RowKit

theorem made (n : Nat) : madeCells (Value.int .u8 0).cells n = (byteVals (List.replicate n 0)).toArray := by
  apply Array.ext_getElem?
  intro i
  by_cases h : i < n
  · simp [madeCells, byteVals, h, Value.cells, Nat.mod_one]
  · simp [madeCells, byteVals, h, Value.cells, Nat.mod_one]
theorem makeB (w : World) (n : Nat) (hn : n ≤ 16777216) : (Instr.makeSlice 23 (.int .i64 n) (.int .i64 n)).run Try.prog w = .ok (.slice (some ⟨w.heap.size, 0, none⟩) n n) (w.alloc (.cells (byteVals (List.replicate n 0)).toArray 5)) := by
  obtain ⟨i, hi, hz, hs, hb⟩ := info_parts infoU8
  have := run_makeSlice (P := Try.prog) w 23 5 i _ Try.underlying23 hi hz .i64 .i64 n n (by omega) (Int.le_refl _) (by rw [hs]; simpa using hn) (by rw [hb]; omega) (by omega)
  rw [this, hs, Nat.mul_one, Int.toNat_natCast, made]
end Go.Proofs.Ytaceebgcaghocaa

/- The contracts of layer 1's small functions: a byte's word, one step of a sum. -/
import Derived.WalkKit
import Derived.Outline
import Derived.LoopTactic
import Derived.LoopN
import Derived.Lib.LaidTab
import Derived.Lib.Hide
import Derived.Test.YtjfpgclaefbhjaaDoorCrcMath
import Derived.Test.YtjfpgclaefbhjaaDoorRows
namespace Go.Proofs.YtjfpgclaefbhjaaDoor
open Go.RowKit

/-- The table's cells hold its sixteen numbers. -/
def Tab (w : World) : Prop := ∀ i, i < 16 → w.cell? ⟨1, i, none⟩ = some (.int .u32 (crcT i : Int))

theorem word_any (b : Nat) (hb : b < 256) (w : World) (ht : Tab w) :
    Calls Tryd.prog 49 #[.int .u8 b] w fun e w' => e = .returned (.int .u32 (crcWord b : Int)) ∧ w = w' := by
  have l1 : crcHalf b < 4294967296 := crcHalf_lt (by omega)
  have a1 := and15 (x := b) (by omega)
  have c1 := ht (b % 16) (by omega)
  have x1 : bits .xor .u32 (crcT (b % 16) : Int) ((b : Int) / 16) = (crcHalf b : Int) := by
    have := xor32 (crcT_lt (b % 16)) (y := b / 16) (by omega)
    rw [show crcHalf b = crcT (b % 16) ^^^ b / 16 from rfl]; simpa using this
  have a2 := and15 l1
  have c2 := ht (crcHalf b % 16) (by omega)
  have x2 : bits .xor .u32 (crcT (crcHalf b % 16) : Int) ((crcHalf b : Int) / 16) = (crcWord b : Int) := by
    have := xor32 (crcT_lt (crcHalf b % 16)) (y := crcHalf b / 16) (by omega)
    rw [show crcWord b = crcT (crcHalf b % 16) ^^^ crcHalf b / 16 from rfl]; simpa using this
  clear ht
  go_enter Tryd.func49, Tryd.ntmps49
  go_wp2
  refine wp_loop_rounds 3 ?_; rw [rounds_succ]
  go_wp2
  rw [rounds_succ]
  go_wp2
  rw [rounds_succ]
  go_wp2
  go_ret
  exact ⟨rfl, rfl⟩

theorem step_any (s : Nat) (b : UInt8) (hs : s < 4294967296) (w : World) (ht : Tab w) :
    Calls Tryd.prog 34 #[.int .u32 s, .int .u8 b.toNat] w fun e w' => e = .returned (.int .u32 (crcStep s b.toNat : Int)) ∧ w = w' := by
  have hb := UInt8.toNat_lt b
  have x8 : bits .xor .u8 ((s : Int) % 256) (b.toNat : Int) = (((s % 256) ^^^ b.toNat : Nat) : Int) := by
    have := xor8 (x := s % 256) (y := b.toNat) (by omega) hb
    simpa using this
  have hx : (s % 256) ^^^ b.toNat < 256 := xor_lt8 (by omega) hb
  have x32 : bits .xor .u32 (crcWord ((s % 256) ^^^ b.toNat) : Int) ((s : Int) / 256) = (crcStep s b.toNat : Int) := by
    have := xor32 (crcWord_lt hx) (y := s / 256) (by omega)
    rw [show crcStep s b.toNat = crcWord ((s % 256) ^^^ b.toNat) ^^^ s / 256 from rfl]; simpa using this
  go_enter Tryd.func34, Tryd.ntmps34
  go_wp2_with (go_at_call 49; refine (word_any _ hx _ ht).mono ?_; rintro e w' ⟨rfl, rfl⟩)
  go_ret
  exact ⟨rfl, rfl⟩
end Go.Proofs.YtjfpgclaefbhjaaDoor

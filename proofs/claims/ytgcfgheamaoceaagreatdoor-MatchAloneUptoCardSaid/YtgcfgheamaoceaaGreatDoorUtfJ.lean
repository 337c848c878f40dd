/- Layer 12: Raw. -/
import Derived.Lib.SlBytesConst
import Derived.Test.YtgcfgheamaoceaaGreatDoorUtfH
import Derived.Test.YtgcfgheamaoceaaGreatDoorUtfI
namespace Go.Proofs.YtgcfgheamaoceaaGreatDoor
open Go.RowKit Go.Shelf

theorem conv_at (w : World) (ao : Option Addr) (l : List UInt8) (cap n₁ : Nat) (hm : BytesAt n₁ w ao l) : (convert 137 9 (.slice ao l.length cap)).run Tryz.prog w = .ok (.string ⟨l.toArray⟩) w := by
  cases l with
  | nil => cases ao <;> (simp [go_sem, convert, Conv.bytesToString]; try rfl)
  | cons x t =>
    obtain ⟨b, o, rfl, hb, hc⟩ := hm (by simp)
    generalize x :: t = l at hc
    have := run_convert_bytes_arg (P := Tryz.prog) (w := w) 137 5 Tryz.underlying137 Tryz.underlying5 b o l.length cap (l.map fun x => (x.toNat : Int)) (by simp) (fun i hi => by
      rw [hc i hi]
      simp [List.getD, hi]) 9 Tryz.underlying9
    rw [this]
    refine congrArg (fun s => Result.ok (Value.string s) w) ?_
    apply ByteArray.ext
    apply Array.toList_inj.1
    rw [strOfNums_data, List.map_map]
    show _ = l
    conv => rhs; rw [← List.map_id l]
    apply List.map_congr_left
    intro x _
    simp

/-- May runes, all of which may be, be said? -/
def okR (ns : List Nat) : Prop := (∀ r ∈ ns, 0 < r) ∧ (textR ns).length ≤ 65535
theorem okR_nil : okR [] := ⟨(fun _ h => by cases h), by decide⟩
theorem okR_take {ns : List Nat} (h : okR ns) (k : Nat) : okR (ns.take k) := ⟨fun r hr => h.1 r (List.mem_of_mem_take hr), Nat.le_trans (textR_take_le ns k) h.2⟩
def RawsPost (w : World) (ns : List Nat) (e : Ending) (w' : World) : Prop := (okR ns ∧ RawPost w (textR ns) 0 e w') ∨ (¬ okR ns ∧ RawPost w [] 220 e w')
def RawJ (w : World) (ns : List Nat) (a' : Act) (w' : World) : Prop := ¬ okR ns ∧ a'.defers = [] ∧ a'.tmps.size = 31 ∧ Below w.heap.size w w'
theorem raw_jump {w w' : World} {T : Array Value} (hT : T.size = 31) (hb : Below w.heap.size w w') :
    RawPost w [] 220 (.returned (.tuple #[((T.setIfInBounds 2 (Value.string { data := #[] })).setIfInBounds 3 (Value.int IntKind.i64 220)).getD 2 undef, ((T.setIfInBounds 2 (Value.string { data := #[] })).setIfInBounds 3 (Value.int IntKind.i64 220)).getD 3 undef])) w' := by
  refine ⟨?_, hb⟩
  simp [Array.getD_eq_getD_getElem?, hT]
end Go.Proofs.YtgcfgheamaoceaaGreatDoor

/-
  No cell of these rows narrows 'for every input' (looked for: loops, veiled, ifaces, maps, wideKeys, modest, calm, conditions, laid).
  DERIVED. THE GIVEN ROWS OF THIS SEAT. 7 by the template 'for every input the law returns true; each argument reads behind the call as it read before'; 0 by the template 'total and deterministic' (their statements: YtaclbloconlhnaaTotals.lean).
  GIVEN WITH THE SEED: the statements are not yours to turn. If you find one false, say at which input.
  Laid BY PROGRAM, IN A SANDBOX (cutbox-rows.mjs): the forced cells as the released guide's own fill.sh prints them over the translation 45d0a7511013b508… (all of the seat's roots in one cut). By AI agents, Wed Nov 11 2026. No macro, syntax, notation, axiom, sorry.
-/
import Derived.Test.YtaclbloconlhnaaChecked
import GoSem.Claim
import GoSem.ClaimJoined
import GoSem.ClaimMapViews
import Derived.JoinedTies
import Derived.KernelRfl
namespace Go.Proofs.Ytaclbloconlhnaa
/- THE CELL 'sum', in the pinned program and in every row, IS THE sha256 OF THE DUMP (.gsa) THAT YtaclbloconlhnaaProg.lean LOADS. Nothing in Lean hashes anything: it is a label: what it is worth is what the hold of that sum in a sandbox is worth. -/
noncomputable def Try.pinned : Pinned := { name := "ytaclbloconlhnaa", sum := "45d0a7511013b508b15965458cfd1f870159a33cf5b3693e74e0d61eff42bc96", checked := Try.checked }
namespace Rows
def none {H : Type} : Left H := { results := [], args := [] }

/-- 'pigeonrylaw05.SlotsRaw': WHATEVER THE INPUT: true; the input reads as it did. -/
def slotsRawSpec : ChangeSpec := { name := "slotsRaw", fn := fun _ => fun
  | [d1, d2] => { results := [.lit (.bool true)], args := [d1, d2] }
  | _ => none }
def slotsRawRow : OpenClaim := { program := "ytaclbloconlhnaa", sum := "45d0a7511013b508b15965458cfd1f870159a33cf5b3693e74e0d61eff42bc96", func := "pigeonry/pigeonrylaw05.SlotsRaw", spec := "slotsRaw", unfollowed := true, recurses := true, apart := false }
def SlotsRawSaid : Prop := slotsRawRow.holds Try.pinned (OpenSpec.ofChange slotsRawSpec)

/-- ITS FALSE NEIGHBOUR: 'it returns false'. Refute it at one input. -/
def slotsRawWrong : ChangeSpec := { name := "slotsRaw", fn := fun _ => fun
  | [d1, d2] => { results := [.lit (.bool false)], args := [d1, d2] }
  | _ => none }
def SlotsRawWrongFalsely : Prop := slotsRawRow.holds Try.pinned (OpenSpec.ofChange slotsRawWrong)

/-- 'pigeonrylaw05.SlotsParses': WHATEVER THE INPUT: true; the input reads as it did. -/
def slotsParsesSpec : ChangeSpec := { name := "slotsParses", fn := fun _ => fun
  | [d1, d2] => { results := [.lit (.bool true)], args := [d1, d2] }
  | _ => none }
def slotsParsesRow : OpenClaim := { program := "ytaclbloconlhnaa", sum := "45d0a7511013b508b15965458cfd1f870159a33cf5b3693e74e0d61eff42bc96", func := "pigeonry/pigeonrylaw05.SlotsParses", spec := "slotsParses", unfollowed := true, recurses := true, apart := false }
def SlotsParsesSaid : Prop := slotsParsesRow.holds Try.pinned (OpenSpec.ofChange slotsParsesSpec)

/-- ITS FALSE NEIGHBOUR: 'it returns false'. Refute it at one input. -/
def slotsParsesWrong : ChangeSpec := { name := "slotsParses", fn := fun _ => fun
  | [d1, d2] => { results := [.lit (.bool false)], args := [d1, d2] }
  | _ => none }
def SlotsParsesWrongFalsely : Prop := slotsParsesRow.holds Try.pinned (OpenSpec.ofChange slotsParsesWrong)

/-- 'pigeonrylaw05.SlotsFinds': WHATEVER THE INPUT: true; the input reads as it did. -/
def slotsFindsSpec : ChangeSpec := { name := "slotsFinds", fn := fun _ => fun
  | [d1, d2, d3] => { results := [.lit (.bool true)], args := [d1, d2, d3] }
  | _ => none }
def slotsFindsRow : OpenClaim := { program := "ytaclbloconlhnaa", sum := "45d0a7511013b508b15965458cfd1f870159a33cf5b3693e74e0d61eff42bc96", func := "pigeonry/pigeonrylaw05.SlotsFinds", spec := "slotsFinds", unfollowed := true, recurses := true, apart := false }
def SlotsFindsSaid : Prop := slotsFindsRow.holds Try.pinned (OpenSpec.ofChange slotsFindsSpec)

/-- ITS FALSE NEIGHBOUR: 'it returns false'. Refute it at one input. -/
def slotsFindsWrong : ChangeSpec := { name := "slotsFinds", fn := fun _ => fun
  | [d1, d2, d3] => { results := [.lit (.bool false)], args := [d1, d2, d3] }
  | _ => none }
def SlotsFindsWrongFalsely : Prop := slotsFindsRow.holds Try.pinned (OpenSpec.ofChange slotsFindsWrong)

/-- 'pigeonrylaw05.SlotsHalves': WHATEVER THE INPUT: true; the input reads as it did. -/
def slotsHalvesSpec : ChangeSpec := { name := "slotsHalves", fn := fun _ => fun
  | [d1, d2, d3] => { results := [.lit (.bool true)], args := [d1, d2, d3] }
  | _ => none }
def slotsHalvesRow : OpenClaim := { program := "ytaclbloconlhnaa", sum := "45d0a7511013b508b15965458cfd1f870159a33cf5b3693e74e0d61eff42bc96", func := "pigeonry/pigeonrylaw05.SlotsHalves", spec := "slotsHalves", unfollowed := true, recurses := true, apart := false }
def SlotsHalvesSaid : Prop := slotsHalvesRow.holds Try.pinned (OpenSpec.ofChange slotsHalvesSpec)

/-- ITS FALSE NEIGHBOUR: 'it returns false'. Refute it at one input. -/
def slotsHalvesWrong : ChangeSpec := { name := "slotsHalves", fn := fun _ => fun
  | [d1, d2, d3] => { results := [.lit (.bool false)], args := [d1, d2, d3] }
  | _ => none }
def SlotsHalvesWrongFalsely : Prop := slotsHalvesRow.holds Try.pinned (OpenSpec.ofChange slotsHalvesWrong)

/-- 'pigeonrylaw05.SlotsSame': WHATEVER THE INPUT: true; the input reads as it did. -/
def slotsSameSpec : ChangeSpec := { name := "slotsSame", fn := fun _ => fun
  | [d1, d2, d3] => { results := [.lit (.bool true)], args := [d1, d2, d3] }
  | _ => none }
def slotsSameRow : OpenClaim := { program := "ytaclbloconlhnaa", sum := "45d0a7511013b508b15965458cfd1f870159a33cf5b3693e74e0d61eff42bc96", func := "pigeonry/pigeonrylaw05.SlotsSame", spec := "slotsSame", unfollowed := true, recurses := true, apart := false }
def SlotsSameSaid : Prop := slotsSameRow.holds Try.pinned (OpenSpec.ofChange slotsSameSpec)

/-- ITS FALSE NEIGHBOUR: 'it returns false'. Refute it at one input. -/
def slotsSameWrong : ChangeSpec := { name := "slotsSame", fn := fun _ => fun
  | [d1, d2, d3] => { results := [.lit (.bool false)], args := [d1, d2, d3] }
  | _ => none }
def SlotsSameWrongFalsely : Prop := slotsSameRow.holds Try.pinned (OpenSpec.ofChange slotsSameWrong)

/-- 'pigeonrylaw05.SlotsSizes': WHATEVER THE INPUT: true; the input reads as it did. -/
def slotsSizesSpec : ChangeSpec := { name := "slotsSizes", fn := fun _ => fun
  | [d1, d2] => { results := [.lit (.bool true)], args := [d1, d2] }
  | _ => none }
def slotsSizesRow : OpenClaim := { program := "ytaclbloconlhnaa", sum := "45d0a7511013b508b15965458cfd1f870159a33cf5b3693e74e0d61eff42bc96", func := "pigeonry/pigeonrylaw05.SlotsSizes", spec := "slotsSizes", unfollowed := true, recurses := true, apart := false }
def SlotsSizesSaid : Prop := slotsSizesRow.holds Try.pinned (OpenSpec.ofChange slotsSizesSpec)

/-- ITS FALSE NEIGHBOUR: 'it returns false'. Refute it at one input. -/
def slotsSizesWrong : ChangeSpec := { name := "slotsSizes", fn := fun _ => fun
  | [d1, d2] => { results := [.lit (.bool false)], args := [d1, d2] }
  | _ => none }
def SlotsSizesWrongFalsely : Prop := slotsSizesRow.holds Try.pinned (OpenSpec.ofChange slotsSizesWrong)

/-- 'pigeonrylaw05.SlotsAll': WHATEVER THE INPUT: true; the input reads as it did. -/
def slotsAllSpec : ChangeSpec := { name := "slotsAll", fn := fun _ => fun
  | [d1, d2] => { results := [.lit (.bool true)], args := [d1, d2] }
  | _ => none }
def slotsAllRow : OpenClaim := { program := "ytaclbloconlhnaa", sum := "45d0a7511013b508b15965458cfd1f870159a33cf5b3693e74e0d61eff42bc96", func := "pigeonry/pigeonrylaw05.SlotsAll", spec := "slotsAll", unfollowed := true, recurses := true, apart := false }
def SlotsAllSaid : Prop := slotsAllRow.holds Try.pinned (OpenSpec.ofChange slotsAllSpec)

/-- ITS FALSE NEIGHBOUR: 'it returns false'. Refute it at one input. -/
def slotsAllWrong : ChangeSpec := { name := "slotsAll", fn := fun _ => fun
  | [d1, d2] => { results := [.lit (.bool false)], args := [d1, d2] }
  | _ => none }
def SlotsAllWrongFalsely : Prop := slotsAllRow.holds Try.pinned (OpenSpec.ofChange slotsAllWrong)

/- THE SECOND FORM. 'bulk': how many values and letters a reading holds, each counted each time it is reached (what is shared counts as often as it is met; a slice's spare places count too). A statement '..UptoSaid' is the law's where the arguments, and the package variables that the reading takes, are together of bulk at most 1048576: NARROWER than '..Said'. Prove '..Said' where nothing that the law and all that it calls make is longer than what came in: it says more and counts as full. Else prove '..UptoSaid'. A law counts once. -/
mutual
def uptoBulk {H : Type} : DataW H → Nat
  | .lit (.string bytes) => bytes.length + 1
  | .lit _ => 1
  | .nil => 1
  | .ptr d => uptoBulk d + 1
  | .slice elems spare => uptoBulkAll elems + uptoBulkAll spare + 1
  | .agg parts => uptoBulkAll parts + 1
  | .iface _ d => uptoBulk d + 1
  | .map entries => uptoBulkEntries entries + 1
  | .held _ => 1
def uptoBulkAll {H : Type} : List (DataW H) → Nat
  | [] => 0
  | d :: r => uptoBulk d + uptoBulkAll r
def uptoBulkEntries {H : Type} : List (Lit × DataW H) → Nat
  | [] => 0
  | x :: r => uptoBulkEntry x + uptoBulkEntries r
def uptoBulkEntry {H : Type} : Lit × DataW H → Nat
  | (.string bytes, d) => bytes.length + uptoBulk d + 1
  | (_, d) => uptoBulk d + 1
 end
def uptoSmall : (H : Type) → List (DataW H) → Bool := fun _ ds => decide (uptoBulkAll ds ≤ 1048576)
def OpenSpec.upto (s : _root_.Go.ChangeSpec) : _root_.Go.OpenSpec := { _root_.Go.OpenSpec.ofChange s with cond := some uptoSmall }

/-- 'pigeonrylaw05.SlotsRaw', WHERE WHAT IT READS IS OF BULK AT MOST 1048576: true; the input reads as it did. -/
def slotsRawUptoRow : OpenClaim := { program := "ytaclbloconlhnaa", sum := "45d0a7511013b508b15965458cfd1f870159a33cf5b3693e74e0d61eff42bc96", func := "pigeonry/pigeonrylaw05.SlotsRaw", spec := "slotsRaw", unfollowed := true, recurses := true, apart := false, narrowed := true }
def SlotsRawUptoSaid : Prop := slotsRawUptoRow.holds Try.pinned (OpenSpec.upto slotsRawSpec)

/-- 'pigeonrylaw05.SlotsParses', WHERE WHAT IT READS IS OF BULK AT MOST 1048576: true; the input reads as it did. -/
def slotsParsesUptoRow : OpenClaim := { program := "ytaclbloconlhnaa", sum := "45d0a7511013b508b15965458cfd1f870159a33cf5b3693e74e0d61eff42bc96", func := "pigeonry/pigeonrylaw05.SlotsParses", spec := "slotsParses", unfollowed := true, recurses := true, apart := false, narrowed := true }
def SlotsParsesUptoSaid : Prop := slotsParsesUptoRow.holds Try.pinned (OpenSpec.upto slotsParsesSpec)

/-- 'pigeonrylaw05.SlotsFinds', WHERE WHAT IT READS IS OF BULK AT MOST 1048576: true; the input reads as it did. -/
def slotsFindsUptoRow : OpenClaim := { program := "ytaclbloconlhnaa", sum := "45d0a7511013b508b15965458cfd1f870159a33cf5b3693e74e0d61eff42bc96", func := "pigeonry/pigeonrylaw05.SlotsFinds", spec := "slotsFinds", unfollowed := true, recurses := true, apart := false, narrowed := true }
def SlotsFindsUptoSaid : Prop := slotsFindsUptoRow.holds Try.pinned (OpenSpec.upto slotsFindsSpec)

/-- 'pigeonrylaw05.SlotsHalves', WHERE WHAT IT READS IS OF BULK AT MOST 1048576: true; the input reads as it did. -/
def slotsHalvesUptoRow : OpenClaim := { program := "ytaclbloconlhnaa", sum := "45d0a7511013b508b15965458cfd1f870159a33cf5b3693e74e0d61eff42bc96", func := "pigeonry/pigeonrylaw05.SlotsHalves", spec := "slotsHalves", unfollowed := true, recurses := true, apart := false, narrowed := true }
def SlotsHalvesUptoSaid : Prop := slotsHalvesUptoRow.holds Try.pinned (OpenSpec.upto slotsHalvesSpec)

/-- 'pigeonrylaw05.SlotsSame', WHERE WHAT IT READS IS OF BULK AT MOST 1048576: true; the input reads as it did. -/
def slotsSameUptoRow : OpenClaim := { program := "ytaclbloconlhnaa", sum := "45d0a7511013b508b15965458cfd1f870159a33cf5b3693e74e0d61eff42bc96", func := "pigeonry/pigeonrylaw05.SlotsSame", spec := "slotsSame", unfollowed := true, recurses := true, apart := false, narrowed := true }
def SlotsSameUptoSaid : Prop := slotsSameUptoRow.holds Try.pinned (OpenSpec.upto slotsSameSpec)

/-- 'pigeonrylaw05.SlotsSizes', WHERE WHAT IT READS IS OF BULK AT MOST 1048576: true; the input reads as it did. -/
def slotsSizesUptoRow : OpenClaim := { program := "ytaclbloconlhnaa", sum := "45d0a7511013b508b15965458cfd1f870159a33cf5b3693e74e0d61eff42bc96", func := "pigeonry/pigeonrylaw05.SlotsSizes", spec := "slotsSizes", unfollowed := true, recurses := true, apart := false, narrowed := true }
def SlotsSizesUptoSaid : Prop := slotsSizesUptoRow.holds Try.pinned (OpenSpec.upto slotsSizesSpec)

/-- 'pigeonrylaw05.SlotsAll', WHERE WHAT IT READS IS OF BULK AT MOST 1048576: true; the input reads as it did. -/
def slotsAllUptoRow : OpenClaim := { program := "ytaclbloconlhnaa", sum := "45d0a7511013b508b15965458cfd1f870159a33cf5b3693e74e0d61eff42bc96", func := "pigeonry/pigeonrylaw05.SlotsAll", spec := "slotsAll", unfollowed := true, recurses := true, apart := false, narrowed := true }
def SlotsAllUptoSaid : Prop := slotsAllUptoRow.holds Try.pinned (OpenSpec.upto slotsAllSpec)

end Rows
end Go.Proofs.Ytaclbloconlhnaa

/-
  NARROWER THAN 'FOR EVERY INPUT', by the rows' own cells (each row's printed sentence says how): UtfReads: laid · UtfRaws: laid · UtfCuts: laid · UtfParts: laid · UtfOne: laid.
  DERIVED. THE GIVEN ROWS OF THIS SEAT. 5 by the template 'for every input the law returns true; each argument reads behind the call as it read before'; 0 by the template 'total and deterministic' (their statements: YtbmnngcogdamkaaDoorTotals.lean).
  GIVEN WITH THE SEED: the statements are not yours to turn. If you find one false, say at which input.
  Laid BY PROGRAM, IN A SANDBOX (cutbox-rows.mjs): the forced cells as the released guide's own fill.sh prints them over the translation 6fa463934bd34c61… (all of the seat's roots in one cut). By AI agents, Wed Nov 11 2026. No macro, syntax, notation, axiom, sorry.
-/
import Derived.Test.YtbmnngcogdamkaaDoorChecked
import GoSem.Claim
import GoSem.ClaimJoined
import GoSem.ClaimMapViews
import Derived.JoinedTies
import Derived.KernelRfl
namespace Go.Proofs.YtbmnngcogdamkaaDoor
/- THE CELL 'sum', in the pinned program and in every row, IS THE sha256 OF THE DUMP (.gsa) THAT YtbmnngcogdamkaaDoorProg.lean LOADS. Nothing in Lean hashes anything: it is a label: what it is worth is what the hold of that sum in a sandbox is worth. -/
noncomputable def Tryd.pinned : Pinned := { name := "ytbmnngcogdamkaadoor", sum := "6fa463934bd34c61466608dd8a4644b9fd8b0230ad12b6260905348fe738155d", checked := Tryd.checked }
namespace Rows
def none {H : Type} : Left H := { results := [], args := [] }

/- WHAT THE LISTED PACKAGE-LEVEL VARIABLES READ AS WHEN THE CALL BEGINS. Each datum BY PROGRAM (the guide's laid-datum.mjs) off the statement by which the dump's own 'gosem.cut.vars' lays the variable. In a bare row this is a premise. The card (YtbmnngcogdamkaaDoorCards.lean) ties it to the program's text. -/
def laid_pigeonry_utf_bounds {H : Type} : DataW H := .agg [.lit (.int .i32 128), .lit (.int .i32 2048), .lit (.int .i32 65536)]
def laid_pigeonry_utf_leads {H : Type} : DataW H := .agg [.lit (.int .u8 0), .lit (.int .u8 192), .lit (.int .u8 224), .lit (.int .u8 240)]

/-- 'pigeonrylaw12.UtfReads': WHATEVER THE INPUT: true; the input reads as it did. -/
def utfReadsSpec : ChangeSpec := { name := "utfReads", fn := fun _ => fun
  | [d] => { results := [.lit (.bool true)], args := [d] }
  | _ => none }
def utfReadsRow : OpenClaim := { program := "ytbmnngcogdamkaadoor", sum := "6fa463934bd34c61466608dd8a4644b9fd8b0230ad12b6260905348fe738155d", func := "pigeonry/pigeonrylaw12.UtfReads", spec := "utfReads", unfollowed := true, recurses := true, named := ["pigeonry/utf.leads", "pigeonry/utf.bounds"], apart := false, laid := [("pigeonry/utf.bounds", laid_pigeonry_utf_bounds), ("pigeonry/utf.leads", laid_pigeonry_utf_leads)] }
def UtfReadsSaid : Prop := utfReadsRow.holds Tryd.pinned (OpenSpec.ofChange utfReadsSpec)

/-- ITS FALSE NEIGHBOUR: 'it returns false'. Refute it at one input. -/
def utfReadsWrong : ChangeSpec := { name := "utfReads", fn := fun _ => fun
  | [d] => { results := [.lit (.bool false)], args := [d] }
  | _ => none }
def UtfReadsWrongFalsely : Prop := utfReadsRow.holds Tryd.pinned (OpenSpec.ofChange utfReadsWrong)

/-- 'pigeonrylaw12.UtfRaws': WHATEVER THE INPUT: true; the input reads as it did. -/
def utfRawsSpec : ChangeSpec := { name := "utfRaws", fn := fun _ => fun
  | [d] => { results := [.lit (.bool true)], args := [d] }
  | _ => none }
def utfRawsRow : OpenClaim := { program := "ytbmnngcogdamkaadoor", sum := "6fa463934bd34c61466608dd8a4644b9fd8b0230ad12b6260905348fe738155d", func := "pigeonry/pigeonrylaw12.UtfRaws", spec := "utfRaws", unfollowed := true, recurses := true, named := ["pigeonry/utf.leads", "pigeonry/utf.bounds"], apart := false, laid := [("pigeonry/utf.bounds", laid_pigeonry_utf_bounds), ("pigeonry/utf.leads", laid_pigeonry_utf_leads)] }
def UtfRawsSaid : Prop := utfRawsRow.holds Tryd.pinned (OpenSpec.ofChange utfRawsSpec)

/-- ITS FALSE NEIGHBOUR: 'it returns false'. Refute it at one input. -/
def utfRawsWrong : ChangeSpec := { name := "utfRaws", fn := fun _ => fun
  | [d] => { results := [.lit (.bool false)], args := [d] }
  | _ => none }
def UtfRawsWrongFalsely : Prop := utfRawsRow.holds Tryd.pinned (OpenSpec.ofChange utfRawsWrong)

/-- 'pigeonrylaw12.UtfCuts': WHATEVER THE INPUT: true; the input reads as it did. -/
def utfCutsSpec : ChangeSpec := { name := "utfCuts", fn := fun _ => fun
  | [d1, d2] => { results := [.lit (.bool true)], args := [d1, d2] }
  | _ => none }
def utfCutsRow : OpenClaim := { program := "ytbmnngcogdamkaadoor", sum := "6fa463934bd34c61466608dd8a4644b9fd8b0230ad12b6260905348fe738155d", func := "pigeonry/pigeonrylaw12.UtfCuts", spec := "utfCuts", unfollowed := true, recurses := true, named := ["pigeonry/utf.leads", "pigeonry/utf.bounds"], apart := false, laid := [("pigeonry/utf.bounds", laid_pigeonry_utf_bounds), ("pigeonry/utf.leads", laid_pigeonry_utf_leads)] }
def UtfCutsSaid : Prop := utfCutsRow.holds Tryd.pinned (OpenSpec.ofChange utfCutsSpec)

/-- ITS FALSE NEIGHBOUR: 'it returns false'. Refute it at one input. -/
def utfCutsWrong : ChangeSpec := { name := "utfCuts", fn := fun _ => fun
  | [d1, d2] => { results := [.lit (.bool false)], args := [d1, d2] }
  | _ => none }
def UtfCutsWrongFalsely : Prop := utfCutsRow.holds Tryd.pinned (OpenSpec.ofChange utfCutsWrong)

/-- 'pigeonrylaw12.UtfParts': WHATEVER THE INPUT: true; the input reads as it did. -/
def utfPartsSpec : ChangeSpec := { name := "utfParts", fn := fun _ => fun
  | [d1, d2] => { results := [.lit (.bool true)], args := [d1, d2] }
  | _ => none }
def utfPartsRow : OpenClaim := { program := "ytbmnngcogdamkaadoor", sum := "6fa463934bd34c61466608dd8a4644b9fd8b0230ad12b6260905348fe738155d", func := "pigeonry/pigeonrylaw12.UtfParts", spec := "utfParts", unfollowed := true, recurses := true, named := ["pigeonry/utf.leads", "pigeonry/utf.bounds"], apart := false, laid := [("pigeonry/utf.bounds", laid_pigeonry_utf_bounds), ("pigeonry/utf.leads", laid_pigeonry_utf_leads)] }
def UtfPartsSaid : Prop := utfPartsRow.holds Tryd.pinned (OpenSpec.ofChange utfPartsSpec)

/-- ITS FALSE NEIGHBOUR: 'it returns false'. Refute it at one input. -/
def utfPartsWrong : ChangeSpec := { name := "utfParts", fn := fun _ => fun
  | [d1, d2] => { results := [.lit (.bool false)], args := [d1, d2] }
  | _ => none }
def UtfPartsWrongFalsely : Prop := utfPartsRow.holds Tryd.pinned (OpenSpec.ofChange utfPartsWrong)

/-- 'pigeonrylaw12.UtfOne': WHATEVER THE INPUT: true; the input reads as it did. -/
def utfOneSpec : ChangeSpec := { name := "utfOne", fn := fun _ => fun
  | [d] => { results := [.lit (.bool true)], args := [d] }
  | _ => none }
def utfOneRow : OpenClaim := { program := "ytbmnngcogdamkaadoor", sum := "6fa463934bd34c61466608dd8a4644b9fd8b0230ad12b6260905348fe738155d", func := "pigeonry/pigeonrylaw12.UtfOne", spec := "utfOne", unfollowed := true, recurses := true, named := ["pigeonry/utf.leads", "pigeonry/utf.bounds"], apart := false, laid := [("pigeonry/utf.bounds", laid_pigeonry_utf_bounds), ("pigeonry/utf.leads", laid_pigeonry_utf_leads)] }
def UtfOneSaid : Prop := utfOneRow.holds Tryd.pinned (OpenSpec.ofChange utfOneSpec)

/-- ITS FALSE NEIGHBOUR: 'it returns false'. Refute it at one input. -/
def utfOneWrong : ChangeSpec := { name := "utfOne", fn := fun _ => fun
  | [d] => { results := [.lit (.bool false)], args := [d] }
  | _ => none }
def UtfOneWrongFalsely : Prop := utfOneRow.holds Tryd.pinned (OpenSpec.ofChange utfOneWrong)

/- THE SECOND FORM. 'bulk': how many values and letters a reading holds, each counted each time it is reached (what is shared counts as often as it is met; a slice's spare places count too). A statement '..UptoSaid' is the law's where the arguments, and the package variables that the reading takes, are together of bulk at most 1048576: NARROWER than '..Said'. Prove '..Said' where nothing that the law and all that it calls make is longer than what came in: it says more and counts as full. Else prove '..UptoSaid'. A law counts once. -/
mutual
def uptoBulk {H : Type} : DataW H → Nat
  | .lit (.string bytes) => bytes.length + 1
  | .lit _ => 1
  | .nil => 1
  | .ptr d => uptoBulk d + 1
  | .slice elems spare => uptoBulkAll elems + uptoBulkAll spare + 1
  | .agg parts => uptoBulkAll parts + 1
  | .iface _ d => uptoBulk d + 1
  | .map entries => uptoBulkEntries entries + 1
  | .held _ => 1
def uptoBulkAll {H : Type} : List (DataW H) → Nat
  | [] => 0
  | d :: r => uptoBulk d + uptoBulkAll r
def uptoBulkEntries {H : Type} : List (Lit × DataW H) → Nat
  | [] => 0
  | x :: r => uptoBulkEntry x + uptoBulkEntries r
def uptoBulkEntry {H : Type} : Lit × DataW H → Nat
  | (.string bytes, d) => bytes.length + uptoBulk d + 1
  | (_, d) => uptoBulk d + 1
 end
def uptoSmall : (H : Type) → List (DataW H) → Bool := fun _ ds => decide (uptoBulkAll ds ≤ 1048576)
def OpenSpec.upto (s : _root_.Go.ChangeSpec) : _root_.Go.OpenSpec := { _root_.Go.OpenSpec.ofChange s with cond := some uptoSmall }

/-- 'pigeonrylaw12.UtfReads', WHERE WHAT IT READS IS OF BULK AT MOST 1048576: true; the input reads as it did. -/
def utfReadsUptoRow : OpenClaim := { program := "ytbmnngcogdamkaadoor", sum := "6fa463934bd34c61466608dd8a4644b9fd8b0230ad12b6260905348fe738155d", func := "pigeonry/pigeonrylaw12.UtfReads", spec := "utfReads", unfollowed := true, recurses := true, named := ["pigeonry/utf.leads", "pigeonry/utf.bounds"], apart := false, laid := [("pigeonry/utf.bounds", laid_pigeonry_utf_bounds), ("pigeonry/utf.leads", laid_pigeonry_utf_leads)], narrowed := true }
def UtfReadsUptoSaid : Prop := utfReadsUptoRow.holds Tryd.pinned (OpenSpec.upto utfReadsSpec)

/-- 'pigeonrylaw12.UtfRaws', WHERE WHAT IT READS IS OF BULK AT MOST 1048576: true; the input reads as it did. -/
def utfRawsUptoRow : OpenClaim := { program := "ytbmnngcogdamkaadoor", sum := "6fa463934bd34c61466608dd8a4644b9fd8b0230ad12b6260905348fe738155d", func := "pigeonry/pigeonrylaw12.UtfRaws", spec := "utfRaws", unfollowed := true, recurses := true, named := ["pigeonry/utf.leads", "pigeonry/utf.bounds"], apart := false, laid := [("pigeonry/utf.bounds", laid_pigeonry_utf_bounds), ("pigeonry/utf.leads", laid_pigeonry_utf_leads)], narrowed := true }
def UtfRawsUptoSaid : Prop := utfRawsUptoRow.holds Tryd.pinned (OpenSpec.upto utfRawsSpec)

/-- 'pigeonrylaw12.UtfCuts', WHERE WHAT IT READS IS OF BULK AT MOST 1048576: true; the input reads as it did. -/
def utfCutsUptoRow : OpenClaim := { program := "ytbmnngcogdamkaadoor", sum := "6fa463934bd34c61466608dd8a4644b9fd8b0230ad12b6260905348fe738155d", func := "pigeonry/pigeonrylaw12.UtfCuts", spec := "utfCuts", unfollowed := true, recurses := true, named := ["pigeonry/utf.leads", "pigeonry/utf.bounds"], apart := false, laid := [("pigeonry/utf.bounds", laid_pigeonry_utf_bounds), ("pigeonry/utf.leads", laid_pigeonry_utf_leads)], narrowed := true }
def UtfCutsUptoSaid : Prop := utfCutsUptoRow.holds Tryd.pinned (OpenSpec.upto utfCutsSpec)

/-- 'pigeonrylaw12.UtfParts', WHERE WHAT IT READS IS OF BULK AT MOST 1048576: true; the input reads as it did. -/
def utfPartsUptoRow : OpenClaim := { program := "ytbmnngcogdamkaadoor", sum := "6fa463934bd34c61466608dd8a4644b9fd8b0230ad12b6260905348fe738155d", func := "pigeonry/pigeonrylaw12.UtfParts", spec := "utfParts", unfollowed := true, recurses := true, named := ["pigeonry/utf.leads", "pigeonry/utf.bounds"], apart := false, laid := [("pigeonry/utf.bounds", laid_pigeonry_utf_bounds), ("pigeonry/utf.leads", laid_pigeonry_utf_leads)], narrowed := true }
def UtfPartsUptoSaid : Prop := utfPartsUptoRow.holds Tryd.pinned (OpenSpec.upto utfPartsSpec)

/-- 'pigeonrylaw12.UtfOne', WHERE WHAT IT READS IS OF BULK AT MOST 1048576: true; the input reads as it did. -/
def utfOneUptoRow : OpenClaim := { program := "ytbmnngcogdamkaadoor", sum := "6fa463934bd34c61466608dd8a4644b9fd8b0230ad12b6260905348fe738155d", func := "pigeonry/pigeonrylaw12.UtfOne", spec := "utfOne", unfollowed := true, recurses := true, named := ["pigeonry/utf.leads", "pigeonry/utf.bounds"], apart := false, laid := [("pigeonry/utf.bounds", laid_pigeonry_utf_bounds), ("pigeonry/utf.leads", laid_pigeonry_utf_leads)], narrowed := true }
def UtfOneUptoSaid : Prop := utfOneUptoRow.holds Tryd.pinned (OpenSpec.upto utfOneSpec)

end Rows
end Go.Proofs.YtbmnngcogdamkaaDoor

/-
  NARROWER THAN 'FOR EVERY INPUT', by the rows' own cells (each row's printed sentence says how): LengthRaws: laid · LengthReads: laid · LengthBack: laid · LengthOrder: laid.
  DERIVED. THE GIVEN ROWS OF THIS SEAT. 4 by the template 'for every input the law returns true; each argument reads behind the call as it read before'; 0 by the template 'total and deterministic' (their statements: YtmbjdfmbbmeofaaDoorTotals.lean).
  GIVEN WITH THE SEED: the statements are not yours to turn. If you find one false, say at which input.
  Laid BY PROGRAM, IN A SANDBOX (cutbox-rows.mjs): the forced cells as the released guide's own fill.sh prints them over the translation 16c2e4dcb45a33cc… (all of the seat's roots in one cut). By AI agents, Wed Nov 11 2026. No macro, syntax, notation, axiom, sorry.
-/
import Derived.Test.YtmbjdfmbbmeofaaDoorChecked
import GoSem.Claim
import GoSem.ClaimJoined
import GoSem.ClaimMapViews
import Derived.JoinedTies
import Derived.KernelRfl
namespace Go.Proofs.YtmbjdfmbbmeofaaDoor
/- THE CELL 'sum', in the pinned program and in every row, IS THE sha256 OF THE DUMP (.gsa) THAT YtmbjdfmbbmeofaaDoorProg.lean LOADS. Nothing in Lean hashes anything: it is a label: what it is worth is what the hold of that sum in a sandbox is worth. -/
noncomputable def Tryd.pinned : Pinned := { name := "ytmbjdfmbbmeofaadoor", sum := "16c2e4dcb45a33ccd39c189818ad4c2bf4dccdd23954c64c5e1d4a2866d66179", checked := Tryd.checked }
namespace Rows
def none {H : Type} : Left H := { results := [], args := [] }

/- WHAT THE LISTED PACKAGE-LEVEL VARIABLES READ AS WHEN THE CALL BEGINS. Each datum BY PROGRAM (the guide's laid-datum.mjs) off the statement by which the dump's own 'gosem.cut.vars' lays the variable. In a bare row this is a premise. The card (YtmbjdfmbbmeofaaDoorCards.lean) ties it to the program's text. -/
def laid_pigeonry_length_bounds {H : Type} : DataW H := .agg [.lit (.int .i64 127), .lit (.int .i64 16383), .lit (.int .i64 2097151), .lit (.int .i64 268435455)]

/-- 'pigeonrylaw15.LengthRaws': WHATEVER THE INPUT: true; the input reads as it did. -/
def lengthRawsSpec : ChangeSpec := { name := "lengthRaws", fn := fun _ => fun
  | [d1, d2] => { results := [.lit (.bool true)], args := [d1, d2] }
  | _ => none }
def lengthRawsRow : OpenClaim := { program := "ytmbjdfmbbmeofaadoor", sum := "16c2e4dcb45a33ccd39c189818ad4c2bf4dccdd23954c64c5e1d4a2866d66179", func := "pigeonry/pigeonrylaw15.LengthRaws", spec := "lengthRaws", unfollowed := true, recurses := true, named := ["pigeonry/length.bounds"], apart := false, laid := [("pigeonry/length.bounds", laid_pigeonry_length_bounds)] }
def LengthRawsSaid : Prop := lengthRawsRow.holds Tryd.pinned (OpenSpec.ofChange lengthRawsSpec)

/-- ITS FALSE NEIGHBOUR: 'it returns false'. Refute it at one input. -/
def lengthRawsWrong : ChangeSpec := { name := "lengthRaws", fn := fun _ => fun
  | [d1, d2] => { results := [.lit (.bool false)], args := [d1, d2] }
  | _ => none }
def LengthRawsWrongFalsely : Prop := lengthRawsRow.holds Tryd.pinned (OpenSpec.ofChange lengthRawsWrong)

/-- 'pigeonrylaw15.LengthReads': WHATEVER THE INPUT: true; the input reads as it did. -/
def lengthReadsSpec : ChangeSpec := { name := "lengthReads", fn := fun _ => fun
  | [d] => { results := [.lit (.bool true)], args := [d] }
  | _ => none }
def lengthReadsRow : OpenClaim := { program := "ytmbjdfmbbmeofaadoor", sum := "16c2e4dcb45a33ccd39c189818ad4c2bf4dccdd23954c64c5e1d4a2866d66179", func := "pigeonry/pigeonrylaw15.LengthReads", spec := "lengthReads", unfollowed := true, recurses := true, named := ["pigeonry/length.bounds"], apart := false, laid := [("pigeonry/length.bounds", laid_pigeonry_length_bounds)] }
def LengthReadsSaid : Prop := lengthReadsRow.holds Tryd.pinned (OpenSpec.ofChange lengthReadsSpec)

/-- ITS FALSE NEIGHBOUR: 'it returns false'. Refute it at one input. -/
def lengthReadsWrong : ChangeSpec := { name := "lengthReads", fn := fun _ => fun
  | [d] => { results := [.lit (.bool false)], args := [d] }
  | _ => none }
def LengthReadsWrongFalsely : Prop := lengthReadsRow.holds Tryd.pinned (OpenSpec.ofChange lengthReadsWrong)

/-- 'pigeonrylaw15.LengthBack': WHATEVER THE INPUT: true; the input reads as it did. -/
def lengthBackSpec : ChangeSpec := { name := "lengthBack", fn := fun _ => fun
  | [d1, d2] => { results := [.lit (.bool true)], args := [d1, d2] }
  | _ => none }
def lengthBackRow : OpenClaim := { program := "ytmbjdfmbbmeofaadoor", sum := "16c2e4dcb45a33ccd39c189818ad4c2bf4dccdd23954c64c5e1d4a2866d66179", func := "pigeonry/pigeonrylaw15.LengthBack", spec := "lengthBack", unfollowed := true, recurses := true, named := ["pigeonry/length.bounds"], apart := false, laid := [("pigeonry/length.bounds", laid_pigeonry_length_bounds)] }
def LengthBackSaid : Prop := lengthBackRow.holds Tryd.pinned (OpenSpec.ofChange lengthBackSpec)

/-- ITS FALSE NEIGHBOUR: 'it returns false'. Refute it at one input. -/
def lengthBackWrong : ChangeSpec := { name := "lengthBack", fn := fun _ => fun
  | [d1, d2] => { results := [.lit (.bool false)], args := [d1, d2] }
  | _ => none }
def LengthBackWrongFalsely : Prop := lengthBackRow.holds Tryd.pinned (OpenSpec.ofChange lengthBackWrong)

/-- 'pigeonrylaw15.LengthOrder': WHATEVER THE INPUT: true; the input reads as it did. -/
def lengthOrderSpec : ChangeSpec := { name := "lengthOrder", fn := fun _ => fun
  | [d1, d2] => { results := [.lit (.bool true)], args := [d1, d2] }
  | _ => none }
def lengthOrderRow : OpenClaim := { program := "ytmbjdfmbbmeofaadoor", sum := "16c2e4dcb45a33ccd39c189818ad4c2bf4dccdd23954c64c5e1d4a2866d66179", func := "pigeonry/pigeonrylaw15.LengthOrder", spec := "lengthOrder", unfollowed := true, recurses := true, named := ["pigeonry/length.bounds"], apart := false, laid := [("pigeonry/length.bounds", laid_pigeonry_length_bounds)] }
def LengthOrderSaid : Prop := lengthOrderRow.holds Tryd.pinned (OpenSpec.ofChange lengthOrderSpec)

/-- ITS FALSE NEIGHBOUR: 'it returns false'. Refute it at one input. -/
def lengthOrderWrong : ChangeSpec := { name := "lengthOrder", fn := fun _ => fun
  | [d1, d2] => { results := [.lit (.bool false)], args := [d1, d2] }
  | _ => none }
def LengthOrderWrongFalsely : Prop := lengthOrderRow.holds Tryd.pinned (OpenSpec.ofChange lengthOrderWrong)

/- THE SECOND FORM. 'bulk': how many values and letters a reading holds, each counted each time it is reached (what is shared counts as often as it is met; a slice's spare places count too). A statement '..UptoSaid' is the law's where the arguments, and the package variables that the reading takes, are together of bulk at most 1048576: NARROWER than '..Said'. Prove '..Said' where nothing that the law and all that it calls make is longer than what came in: it says more and counts as full. Else prove '..UptoSaid'. A law counts once. -/
mutual
def uptoBulk {H : Type} : DataW H → Nat
  | .lit (.string bytes) => bytes.length + 1
  | .lit _ => 1
  | .nil => 1
  | .ptr d => uptoBulk d + 1
  | .slice elems spare => uptoBulkAll elems + uptoBulkAll spare + 1
  | .agg parts => uptoBulkAll parts + 1
  | .iface _ d => uptoBulk d + 1
  | .map entries => uptoBulkEntries entries + 1
  | .held _ => 1
def uptoBulkAll {H : Type} : List (DataW H) → Nat
  | [] => 0
  | d :: r => uptoBulk d + uptoBulkAll r
def uptoBulkEntries {H : Type} : List (Lit × DataW H) → Nat
  | [] => 0
  | x :: r => uptoBulkEntry x + uptoBulkEntries r
def uptoBulkEntry {H : Type} : Lit × DataW H → Nat
  | (.string bytes, d) => bytes.length + uptoBulk d + 1
  | (_, d) => uptoBulk d + 1
 end
def uptoSmall : (H : Type) → List (DataW H) → Bool := fun _ ds => decide (uptoBulkAll ds ≤ 1048576)
def OpenSpec.upto (s : _root_.Go.ChangeSpec) : _root_.Go.OpenSpec := { _root_.Go.OpenSpec.ofChange s with cond := some uptoSmall }

/-- 'pigeonrylaw15.LengthRaws', WHERE WHAT IT READS IS OF BULK AT MOST 1048576: true; the input reads as it did. -/
def lengthRawsUptoRow : OpenClaim := { program := "ytmbjdfmbbmeofaadoor", sum := "16c2e4dcb45a33ccd39c189818ad4c2bf4dccdd23954c64c5e1d4a2866d66179", func := "pigeonry/pigeonrylaw15.LengthRaws", spec := "lengthRaws", unfollowed := true, recurses := true, named := ["pigeonry/length.bounds"], apart := false, laid := [("pigeonry/length.bounds", laid_pigeonry_length_bounds)], narrowed := true }
def LengthRawsUptoSaid : Prop := lengthRawsUptoRow.holds Tryd.pinned (OpenSpec.upto lengthRawsSpec)

/-- 'pigeonrylaw15.LengthReads', WHERE WHAT IT READS IS OF BULK AT MOST 1048576: true; the input reads as it did. -/
def lengthReadsUptoRow : OpenClaim := { program := "ytmbjdfmbbmeofaadoor", sum := "16c2e4dcb45a33ccd39c189818ad4c2bf4dccdd23954c64c5e1d4a2866d66179", func := "pigeonry/pigeonrylaw15.LengthReads", spec := "lengthReads", unfollowed := true, recurses := true, named := ["pigeonry/length.bounds"], apart := false, laid := [("pigeonry/length.bounds", laid_pigeonry_length_bounds)], narrowed := true }
def LengthReadsUptoSaid : Prop := lengthReadsUptoRow.holds Tryd.pinned (OpenSpec.upto lengthReadsSpec)

/-- 'pigeonrylaw15.LengthBack', WHERE WHAT IT READS IS OF BULK AT MOST 1048576: true; the input reads as it did. -/
def lengthBackUptoRow : OpenClaim := { program := "ytmbjdfmbbmeofaadoor", sum := "16c2e4dcb45a33ccd39c189818ad4c2bf4dccdd23954c64c5e1d4a2866d66179", func := "pigeonry/pigeonrylaw15.LengthBack", spec := "lengthBack", unfollowed := true, recurses := true, named := ["pigeonry/length.bounds"], apart := false, laid := [("pigeonry/length.bounds", laid_pigeonry_length_bounds)], narrowed := true }
def LengthBackUptoSaid : Prop := lengthBackUptoRow.holds Tryd.pinned (OpenSpec.upto lengthBackSpec)

/-- 'pigeonrylaw15.LengthOrder', WHERE WHAT IT READS IS OF BULK AT MOST 1048576: true; the input reads as it did. -/
def lengthOrderUptoRow : OpenClaim := { program := "ytmbjdfmbbmeofaadoor", sum := "16c2e4dcb45a33ccd39c189818ad4c2bf4dccdd23954c64c5e1d4a2866d66179", func := "pigeonry/pigeonrylaw15.LengthOrder", spec := "lengthOrder", unfollowed := true, recurses := true, named := ["pigeonry/length.bounds"], apart := false, laid := [("pigeonry/length.bounds", laid_pigeonry_length_bounds)], narrowed := true }
def LengthOrderUptoSaid : Prop := lengthOrderUptoRow.holds Tryd.pinned (OpenSpec.upto lengthOrderSpec)

end Rows
end Go.Proofs.YtmbjdfmbbmeofaaDoor

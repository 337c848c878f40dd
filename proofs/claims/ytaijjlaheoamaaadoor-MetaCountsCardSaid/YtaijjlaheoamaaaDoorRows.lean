/-
  NARROWER THAN 'FOR EVERY INPUT', by the rows' own cells (each row's printed sentence says how): MetaCounts: laid · MetaRaws: laid · MetaTorn: laid · MetaNewer: laid · MetaFirst: laid.
  DERIVED. THE GIVEN ROWS OF THIS SEAT. 5 by the template 'for every input the law returns true; each argument reads behind the call as it read before'; 0 by the template 'total and deterministic' (their statements: YtaijjlaheoamaaaDoorTotals.lean).
  GIVEN WITH THE SEED: the statements are not yours to turn. If you find one false, say at which input.
  Laid BY PROGRAM, IN A SANDBOX (cutbox-rows.mjs): the forced cells as the released guide's own fill.sh prints them over the translation b851be53ef6a2bbb… (all of the seat's roots in one cut). By AI agents, Wed Nov 11 2026. No macro, syntax, notation, axiom, sorry.
-/
import Derived.Test.YtaijjlaheoamaaaDoorChecked
import GoSem.Claim
import GoSem.ClaimJoined
import GoSem.ClaimMapViews
import Derived.JoinedTies
import Derived.KernelRfl
namespace Go.Proofs.YtaijjlaheoamaaaDoor
/- THE CELL 'sum', in the pinned program and in every row, IS THE sha256 OF THE DUMP (.gsa) THAT YtaijjlaheoamaaaDoorProg.lean LOADS. Nothing in Lean hashes anything: it is a label: what it is worth is what the hold of that sum in a sandbox is worth. -/
noncomputable def Tryd.pinned : Pinned := { name := "ytaijjlaheoamaaadoor", sum := "b851be53ef6a2bbb45ee6156f665379dad1b054525d81f22ea8d6cc86371ac7c", checked := Tryd.checked }
namespace Rows
def none {H : Type} : Left H := { results := [], args := [] }

/- WHAT THE LISTED PACKAGE-LEVEL VARIABLES READ AS WHEN THE CALL BEGINS. Each datum BY PROGRAM (the guide's laid-datum.mjs) off the statement by which the dump's own 'gosem.cut.vars' lays the variable. In a bare row this is a premise. The card (YtaijjlaheoamaaaDoorCards.lean) ties it to the program's text. -/
def laid_pigeonry_crc_words {H : Type} : DataW H := .agg [.lit (.int .u32 0), .lit (.int .u32 498536548), .lit (.int .u32 997073096), .lit (.int .u32 651767980), .lit (.int .u32 1994146192), .lit (.int .u32 1802195444), .lit (.int .u32 1303535960), .lit (.int .u32 1342533948), .lit (.int .u32 3988292384), .lit (.int .u32 4027552580), .lit (.int .u32 3604390888), .lit (.int .u32 3412177804), .lit (.int .u32 2607071920), .lit (.int .u32 2262029012), .lit (.int .u32 2685067896), .lit (.int .u32 3183342108)]

/-- 'pigeonrylaw06.MetaCounts': WHATEVER THE INPUT: true; the input reads as it did. -/
def metaCountsSpec : ChangeSpec := { name := "metaCounts", fn := fun _ => fun
  | [d1, d2, d3] => { results := [.lit (.bool true)], args := [d1, d2, d3] }
  | _ => none }
def metaCountsRow : OpenClaim := { program := "ytaijjlaheoamaaadoor", sum := "b851be53ef6a2bbb45ee6156f665379dad1b054525d81f22ea8d6cc86371ac7c", func := "pigeonry/pigeonrylaw06.MetaCounts", spec := "metaCounts", unfollowed := true, recurses := true, named := ["pigeonry/crc.words"], apart := false, laid := [("pigeonry/crc.words", laid_pigeonry_crc_words)] }
def MetaCountsSaid : Prop := metaCountsRow.holds Tryd.pinned (OpenSpec.ofChange metaCountsSpec)

/-- ITS FALSE NEIGHBOUR: 'it returns false'. Refute it at one input. -/
def metaCountsWrong : ChangeSpec := { name := "metaCounts", fn := fun _ => fun
  | [d1, d2, d3] => { results := [.lit (.bool false)], args := [d1, d2, d3] }
  | _ => none }
def MetaCountsWrongFalsely : Prop := metaCountsRow.holds Tryd.pinned (OpenSpec.ofChange metaCountsWrong)

/-- 'pigeonrylaw06.MetaRaws': WHATEVER THE INPUT: true; the input reads as it did. -/
def metaRawsSpec : ChangeSpec := { name := "metaRaws", fn := fun _ => fun
  | [d] => { results := [.lit (.bool true)], args := [d] }
  | _ => none }
def metaRawsRow : OpenClaim := { program := "ytaijjlaheoamaaadoor", sum := "b851be53ef6a2bbb45ee6156f665379dad1b054525d81f22ea8d6cc86371ac7c", func := "pigeonry/pigeonrylaw06.MetaRaws", spec := "metaRaws", unfollowed := true, recurses := true, named := ["pigeonry/crc.words"], apart := false, laid := [("pigeonry/crc.words", laid_pigeonry_crc_words)] }
def MetaRawsSaid : Prop := metaRawsRow.holds Tryd.pinned (OpenSpec.ofChange metaRawsSpec)

/-- ITS FALSE NEIGHBOUR: 'it returns false'. Refute it at one input. -/
def metaRawsWrong : ChangeSpec := { name := "metaRaws", fn := fun _ => fun
  | [d] => { results := [.lit (.bool false)], args := [d] }
  | _ => none }
def MetaRawsWrongFalsely : Prop := metaRawsRow.holds Tryd.pinned (OpenSpec.ofChange metaRawsWrong)

/-- 'pigeonrylaw06.MetaTorn': WHATEVER THE INPUT: true; the input reads as it did. -/
def metaTornSpec : ChangeSpec := { name := "metaTorn", fn := fun _ => fun
  | [d1, d2, d3] => { results := [.lit (.bool true)], args := [d1, d2, d3] }
  | _ => none }
def metaTornRow : OpenClaim := { program := "ytaijjlaheoamaaadoor", sum := "b851be53ef6a2bbb45ee6156f665379dad1b054525d81f22ea8d6cc86371ac7c", func := "pigeonry/pigeonrylaw06.MetaTorn", spec := "metaTorn", unfollowed := true, recurses := true, named := ["pigeonry/crc.words"], apart := false, laid := [("pigeonry/crc.words", laid_pigeonry_crc_words)] }
def MetaTornSaid : Prop := metaTornRow.holds Tryd.pinned (OpenSpec.ofChange metaTornSpec)

/-- ITS FALSE NEIGHBOUR: 'it returns false'. Refute it at one input. -/
def metaTornWrong : ChangeSpec := { name := "metaTorn", fn := fun _ => fun
  | [d1, d2, d3] => { results := [.lit (.bool false)], args := [d1, d2, d3] }
  | _ => none }
def MetaTornWrongFalsely : Prop := metaTornRow.holds Tryd.pinned (OpenSpec.ofChange metaTornWrong)

/-- 'pigeonrylaw06.MetaNewer': WHATEVER THE INPUT: true; the input reads as it did. -/
def metaNewerSpec : ChangeSpec := { name := "metaNewer", fn := fun _ => fun
  | [d1, d2] => { results := [.lit (.bool true)], args := [d1, d2] }
  | _ => none }
def metaNewerRow : OpenClaim := { program := "ytaijjlaheoamaaadoor", sum := "b851be53ef6a2bbb45ee6156f665379dad1b054525d81f22ea8d6cc86371ac7c", func := "pigeonry/pigeonrylaw06.MetaNewer", spec := "metaNewer", unfollowed := true, recurses := true, named := ["pigeonry/crc.words"], apart := false, laid := [("pigeonry/crc.words", laid_pigeonry_crc_words)] }
def MetaNewerSaid : Prop := metaNewerRow.holds Tryd.pinned (OpenSpec.ofChange metaNewerSpec)

/-- ITS FALSE NEIGHBOUR: 'it returns false'. Refute it at one input. -/
def metaNewerWrong : ChangeSpec := { name := "metaNewer", fn := fun _ => fun
  | [d1, d2] => { results := [.lit (.bool false)], args := [d1, d2] }
  | _ => none }
def MetaNewerWrongFalsely : Prop := metaNewerRow.holds Tryd.pinned (OpenSpec.ofChange metaNewerWrong)

/-- 'pigeonrylaw06.MetaFirst': WHATEVER THE INPUT: true; the input reads as it did. -/
def metaFirstSpec : ChangeSpec := { name := "metaFirst", fn := fun _ => fun
  | [d1, d2] => { results := [.lit (.bool true)], args := [d1, d2] }
  | _ => none }
def metaFirstRow : OpenClaim := { program := "ytaijjlaheoamaaadoor", sum := "b851be53ef6a2bbb45ee6156f665379dad1b054525d81f22ea8d6cc86371ac7c", func := "pigeonry/pigeonrylaw06.MetaFirst", spec := "metaFirst", unfollowed := true, recurses := true, named := ["pigeonry/crc.words"], apart := false, laid := [("pigeonry/crc.words", laid_pigeonry_crc_words)] }
def MetaFirstSaid : Prop := metaFirstRow.holds Tryd.pinned (OpenSpec.ofChange metaFirstSpec)

/-- ITS FALSE NEIGHBOUR: 'it returns false'. Refute it at one input. -/
def metaFirstWrong : ChangeSpec := { name := "metaFirst", fn := fun _ => fun
  | [d1, d2] => { results := [.lit (.bool false)], args := [d1, d2] }
  | _ => none }
def MetaFirstWrongFalsely : Prop := metaFirstRow.holds Tryd.pinned (OpenSpec.ofChange metaFirstWrong)

/- THE SECOND FORM. 'bulk': how many values and letters a reading holds, each counted each time it is reached (what is shared counts as often as it is met; a slice's spare places count too). A statement '..UptoSaid' is the law's where the arguments, and the package variables that the reading takes, are together of bulk at most 1048576: NARROWER than '..Said'. Prove '..Said' where nothing that the law and all that it calls make is longer than what came in: it says more and counts as full. Else prove '..UptoSaid'. A law counts once. -/
mutual
def uptoBulk {H : Type} : DataW H → Nat
  | .lit (.string bytes) => bytes.length + 1
  | .lit _ => 1
  | .nil => 1
  | .ptr d => uptoBulk d + 1
  | .slice elems spare => uptoBulkAll elems + uptoBulkAll spare + 1
  | .agg parts => uptoBulkAll parts + 1
  | .iface _ d => uptoBulk d + 1
  | .map entries => uptoBulkEntries entries + 1
  | .held _ => 1
def uptoBulkAll {H : Type} : List (DataW H) → Nat
  | [] => 0
  | d :: r => uptoBulk d + uptoBulkAll r
def uptoBulkEntries {H : Type} : List (Lit × DataW H) → Nat
  | [] => 0
  | x :: r => uptoBulkEntry x + uptoBulkEntries r
def uptoBulkEntry {H : Type} : Lit × DataW H → Nat
  | (.string bytes, d) => bytes.length + uptoBulk d + 1
  | (_, d) => uptoBulk d + 1
 end
def uptoSmall : (H : Type) → List (DataW H) → Bool := fun _ ds => decide (uptoBulkAll ds ≤ 1048576)
def OpenSpec.upto (s : _root_.Go.ChangeSpec) : _root_.Go.OpenSpec := { _root_.Go.OpenSpec.ofChange s with cond := some uptoSmall }

/-- 'pigeonrylaw06.MetaCounts', WHERE WHAT IT READS IS OF BULK AT MOST 1048576: true; the input reads as it did. -/
def metaCountsUptoRow : OpenClaim := { program := "ytaijjlaheoamaaadoor", sum := "b851be53ef6a2bbb45ee6156f665379dad1b054525d81f22ea8d6cc86371ac7c", func := "pigeonry/pigeonrylaw06.MetaCounts", spec := "metaCounts", unfollowed := true, recurses := true, named := ["pigeonry/crc.words"], apart := false, laid := [("pigeonry/crc.words", laid_pigeonry_crc_words)], narrowed := true }
def MetaCountsUptoSaid : Prop := metaCountsUptoRow.holds Tryd.pinned (OpenSpec.upto metaCountsSpec)

/-- 'pigeonrylaw06.MetaRaws', WHERE WHAT IT READS IS OF BULK AT MOST 1048576: true; the input reads as it did. -/
def metaRawsUptoRow : OpenClaim := { program := "ytaijjlaheoamaaadoor", sum := "b851be53ef6a2bbb45ee6156f665379dad1b054525d81f22ea8d6cc86371ac7c", func := "pigeonry/pigeonrylaw06.MetaRaws", spec := "metaRaws", unfollowed := true, recurses := true, named := ["pigeonry/crc.words"], apart := false, laid := [("pigeonry/crc.words", laid_pigeonry_crc_words)], narrowed := true }
def MetaRawsUptoSaid : Prop := metaRawsUptoRow.holds Tryd.pinned (OpenSpec.upto metaRawsSpec)

/-- 'pigeonrylaw06.MetaTorn', WHERE WHAT IT READS IS OF BULK AT MOST 1048576: true; the input reads as it did. -/
def metaTornUptoRow : OpenClaim := { program := "ytaijjlaheoamaaadoor", sum := "b851be53ef6a2bbb45ee6156f665379dad1b054525d81f22ea8d6cc86371ac7c", func := "pigeonry/pigeonrylaw06.MetaTorn", spec := "metaTorn", unfollowed := true, recurses := true, named := ["pigeonry/crc.words"], apart := false, laid := [("pigeonry/crc.words", laid_pigeonry_crc_words)], narrowed := true }
def MetaTornUptoSaid : Prop := metaTornUptoRow.holds Tryd.pinned (OpenSpec.upto metaTornSpec)

/-- 'pigeonrylaw06.MetaNewer', WHERE WHAT IT READS IS OF BULK AT MOST 1048576: true; the input reads as it did. -/
def metaNewerUptoRow : OpenClaim := { program := "ytaijjlaheoamaaadoor", sum := "b851be53ef6a2bbb45ee6156f665379dad1b054525d81f22ea8d6cc86371ac7c", func := "pigeonry/pigeonrylaw06.MetaNewer", spec := "metaNewer", unfollowed := true, recurses := true, named := ["pigeonry/crc.words"], apart := false, laid := [("pigeonry/crc.words", laid_pigeonry_crc_words)], narrowed := true }
def MetaNewerUptoSaid : Prop := metaNewerUptoRow.holds Tryd.pinned (OpenSpec.upto metaNewerSpec)

/-- 'pigeonrylaw06.MetaFirst', WHERE WHAT IT READS IS OF BULK AT MOST 1048576: true; the input reads as it did. -/
def metaFirstUptoRow : OpenClaim := { program := "ytaijjlaheoamaaadoor", sum := "b851be53ef6a2bbb45ee6156f665379dad1b054525d81f22ea8d6cc86371ac7c", func := "pigeonry/pigeonrylaw06.MetaFirst", spec := "metaFirst", unfollowed := true, recurses := true, named := ["pigeonry/crc.words"], apart := false, laid := [("pigeonry/crc.words", laid_pigeonry_crc_words)], narrowed := true }
def MetaFirstUptoSaid : Prop := metaFirstUptoRow.holds Tryd.pinned (OpenSpec.upto metaFirstSpec)

end Rows
end Go.Proofs.YtaijjlaheoamaaaDoor

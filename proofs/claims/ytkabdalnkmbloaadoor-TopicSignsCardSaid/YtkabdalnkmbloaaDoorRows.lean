/-
  NARROWER THAN 'FOR EVERY INPUT', by the rows' own cells (each row's printed sentence says how): TopicMeets: laid · TopicTells: laid · TopicWithin: laid · TopicThree: laid · TopicSigns: laid.
  DERIVED. THE GIVEN ROWS OF THIS SEAT. 5 by the template 'for every input the law returns true; each argument reads behind the call as it read before'; 0 by the template 'total and deterministic' (their statements: YtkabdalnkmbloaaDoorTotals.lean).
  GIVEN WITH THE SEED: the statements are not yours to turn. If you find one false, say at which input.
  Laid BY PROGRAM, IN A SANDBOX (cutbox-rows.mjs): the forced cells as the released guide's own fill.sh prints them over the translation 310d1db3a7f6bdbe… (all of the seat's roots in one cut). By AI agents, Wed Nov 11 2026. No macro, syntax, notation, axiom, sorry.
-/
import Derived.Test.YtkabdalnkmbloaaDoorChecked
import GoSem.Claim
import GoSem.ClaimJoined
import GoSem.ClaimMapViews
import Derived.JoinedTies
import Derived.KernelRfl
namespace Go.Proofs.YtkabdalnkmbloaaDoor
/- THE CELL 'sum', in the pinned program and in every row, IS THE sha256 OF THE DUMP (.gsa) THAT YtkabdalnkmbloaaDoorProg.lean LOADS. Nothing in Lean hashes anything: it is a label: what it is worth is what the hold of that sum in a sandbox is worth. -/
noncomputable def Tryd.pinned : Pinned := { name := "ytkabdalnkmbloaadoor", sum := "310d1db3a7f6bdbe0933fc04622ebdf79afeee8ba4b2fa2418846aafd22b796f", checked := Tryd.checked }
namespace Rows
def none {H : Type} : Left H := { results := [], args := [] }

/- WHAT THE LISTED PACKAGE-LEVEL VARIABLES READ AS WHEN THE CALL BEGINS. Each datum BY PROGRAM (the guide's laid-datum.mjs) off the statement by which the dump's own 'gosem.cut.vars' lays the variable. In a bare row this is a premise. The card (YtkabdalnkmbloaaDoorCards.lean) ties it to the program's text. -/
def laid_pigeonry_utf_bounds {H : Type} : DataW H := .agg [.lit (.int .i32 128), .lit (.int .i32 2048), .lit (.int .i32 65536)]
def laid_pigeonry_utf_leads {H : Type} : DataW H := .agg [.lit (.int .u8 0), .lit (.int .u8 192), .lit (.int .u8 224), .lit (.int .u8 240)]

/-- 'pigeonrylaw13.TopicMeets': WHATEVER THE INPUT: true; the input reads as it did. -/
def topicMeetsSpec : ChangeSpec := { name := "topicMeets", fn := fun _ => fun
  | [d1, d2] => { results := [.lit (.bool true)], args := [d1, d2] }
  | _ => none }
def topicMeetsRow : OpenClaim := { program := "ytkabdalnkmbloaadoor", sum := "310d1db3a7f6bdbe0933fc04622ebdf79afeee8ba4b2fa2418846aafd22b796f", func := "pigeonry/pigeonrylaw13.TopicMeets", spec := "topicMeets", inPlace := ["internal/bytealg.IndexByteString", "internal/bytealg.IndexString"], unfollowed := true, recurses := true, named := ["pigeonry/utf.leads", "pigeonry/utf.bounds", "internal/bytealg.MaxLen"], apart := false, laid := [("pigeonry/utf.bounds", laid_pigeonry_utf_bounds), ("pigeonry/utf.leads", laid_pigeonry_utf_leads)] }
def TopicMeetsSaid : Prop := topicMeetsRow.holds Tryd.pinned (OpenSpec.ofChange topicMeetsSpec)

/-- ITS FALSE NEIGHBOUR: 'it returns false'. Refute it at one input. -/
def topicMeetsWrong : ChangeSpec := { name := "topicMeets", fn := fun _ => fun
  | [d1, d2] => { results := [.lit (.bool false)], args := [d1, d2] }
  | _ => none }
def TopicMeetsWrongFalsely : Prop := topicMeetsRow.holds Tryd.pinned (OpenSpec.ofChange topicMeetsWrong)

/-- 'pigeonrylaw13.TopicTells': WHATEVER THE INPUT: true; the input reads as it did. -/
def topicTellsSpec : ChangeSpec := { name := "topicTells", fn := fun _ => fun
  | [d] => { results := [.lit (.bool true)], args := [d] }
  | _ => none }
def topicTellsRow : OpenClaim := { program := "ytkabdalnkmbloaadoor", sum := "310d1db3a7f6bdbe0933fc04622ebdf79afeee8ba4b2fa2418846aafd22b796f", func := "pigeonry/pigeonrylaw13.TopicTells", spec := "topicTells", inPlace := ["internal/bytealg.IndexByteString", "internal/bytealg.IndexString"], unfollowed := true, recurses := true, named := ["pigeonry/utf.leads", "pigeonry/utf.bounds", "internal/bytealg.MaxLen"], apart := false, laid := [("pigeonry/utf.bounds", laid_pigeonry_utf_bounds), ("pigeonry/utf.leads", laid_pigeonry_utf_leads)] }
def TopicTellsSaid : Prop := topicTellsRow.holds Tryd.pinned (OpenSpec.ofChange topicTellsSpec)

/-- ITS FALSE NEIGHBOUR: 'it returns false'. Refute it at one input. -/
def topicTellsWrong : ChangeSpec := { name := "topicTells", fn := fun _ => fun
  | [d] => { results := [.lit (.bool false)], args := [d] }
  | _ => none }
def TopicTellsWrongFalsely : Prop := topicTellsRow.holds Tryd.pinned (OpenSpec.ofChange topicTellsWrong)

/-- 'pigeonrylaw13.TopicWithin': WHATEVER THE INPUT: true; the input reads as it did. -/
def topicWithinSpec : ChangeSpec := { name := "topicWithin", fn := fun _ => fun
  | [d1, d2, d3] => { results := [.lit (.bool true)], args := [d1, d2, d3] }
  | _ => none }
def topicWithinRow : OpenClaim := { program := "ytkabdalnkmbloaadoor", sum := "310d1db3a7f6bdbe0933fc04622ebdf79afeee8ba4b2fa2418846aafd22b796f", func := "pigeonry/pigeonrylaw13.TopicWithin", spec := "topicWithin", inPlace := ["internal/bytealg.IndexByteString", "internal/bytealg.IndexString"], unfollowed := true, recurses := true, named := ["pigeonry/utf.leads", "pigeonry/utf.bounds", "internal/bytealg.MaxLen"], apart := false, laid := [("pigeonry/utf.bounds", laid_pigeonry_utf_bounds), ("pigeonry/utf.leads", laid_pigeonry_utf_leads)] }
def TopicWithinSaid : Prop := topicWithinRow.holds Tryd.pinned (OpenSpec.ofChange topicWithinSpec)

/-- ITS FALSE NEIGHBOUR: 'it returns false'. Refute it at one input. -/
def topicWithinWrong : ChangeSpec := { name := "topicWithin", fn := fun _ => fun
  | [d1, d2, d3] => { results := [.lit (.bool false)], args := [d1, d2, d3] }
  | _ => none }
def TopicWithinWrongFalsely : Prop := topicWithinRow.holds Tryd.pinned (OpenSpec.ofChange topicWithinWrong)

/-- 'pigeonrylaw13.TopicThree': WHATEVER THE INPUT: true; the input reads as it did. -/
def topicThreeSpec : ChangeSpec := { name := "topicThree", fn := fun _ => fun
  | [d1, d2, d3] => { results := [.lit (.bool true)], args := [d1, d2, d3] }
  | _ => none }
def topicThreeRow : OpenClaim := { program := "ytkabdalnkmbloaadoor", sum := "310d1db3a7f6bdbe0933fc04622ebdf79afeee8ba4b2fa2418846aafd22b796f", func := "pigeonry/pigeonrylaw13.TopicThree", spec := "topicThree", inPlace := ["internal/bytealg.IndexByteString", "internal/bytealg.IndexString"], unfollowed := true, recurses := true, named := ["pigeonry/utf.leads", "pigeonry/utf.bounds", "internal/bytealg.MaxLen"], apart := false, laid := [("pigeonry/utf.bounds", laid_pigeonry_utf_bounds), ("pigeonry/utf.leads", laid_pigeonry_utf_leads)] }
def TopicThreeSaid : Prop := topicThreeRow.holds Tryd.pinned (OpenSpec.ofChange topicThreeSpec)

/-- ITS FALSE NEIGHBOUR: 'it returns false'. Refute it at one input. -/
def topicThreeWrong : ChangeSpec := { name := "topicThree", fn := fun _ => fun
  | [d1, d2, d3] => { results := [.lit (.bool false)], args := [d1, d2, d3] }
  | _ => none }
def TopicThreeWrongFalsely : Prop := topicThreeRow.holds Tryd.pinned (OpenSpec.ofChange topicThreeWrong)

/-- 'pigeonrylaw13.TopicSigns': WHATEVER THE INPUT: true; the input reads as it did. -/
def topicSignsSpec : ChangeSpec := { name := "topicSigns", fn := fun _ => fun
  | [d1, d2] => { results := [.lit (.bool true)], args := [d1, d2] }
  | _ => none }
def topicSignsRow : OpenClaim := { program := "ytkabdalnkmbloaadoor", sum := "310d1db3a7f6bdbe0933fc04622ebdf79afeee8ba4b2fa2418846aafd22b796f", func := "pigeonry/pigeonrylaw13.TopicSigns", spec := "topicSigns", inPlace := ["internal/bytealg.IndexByteString", "internal/bytealg.IndexString"], unfollowed := true, recurses := true, named := ["pigeonry/utf.leads", "pigeonry/utf.bounds", "internal/bytealg.MaxLen"], apart := false, laid := [("pigeonry/utf.bounds", laid_pigeonry_utf_bounds), ("pigeonry/utf.leads", laid_pigeonry_utf_leads)] }
def TopicSignsSaid : Prop := topicSignsRow.holds Tryd.pinned (OpenSpec.ofChange topicSignsSpec)

/-- ITS FALSE NEIGHBOUR: 'it returns false'. Refute it at one input. -/
def topicSignsWrong : ChangeSpec := { name := "topicSigns", fn := fun _ => fun
  | [d1, d2] => { results := [.lit (.bool false)], args := [d1, d2] }
  | _ => none }
def TopicSignsWrongFalsely : Prop := topicSignsRow.holds Tryd.pinned (OpenSpec.ofChange topicSignsWrong)

/- THE SECOND FORM. 'bulk': how many values and letters a reading holds, each counted each time it is reached (what is shared counts as often as it is met; a slice's spare places count too). A statement '..UptoSaid' is the law's where the arguments, and the package variables that the reading takes, are together of bulk at most 1048576: NARROWER than '..Said'. Prove '..Said' where nothing that the law and all that it calls make is longer than what came in: it says more and counts as full. Else prove '..UptoSaid'. A law counts once. -/
mutual
def uptoBulk {H : Type} : DataW H → Nat
  | .lit (.string bytes) => bytes.length + 1
  | .lit _ => 1
  | .nil => 1
  | .ptr d => uptoBulk d + 1
  | .slice elems spare => uptoBulkAll elems + uptoBulkAll spare + 1
  | .agg parts => uptoBulkAll parts + 1
  | .iface _ d => uptoBulk d + 1
  | .map entries => uptoBulkEntries entries + 1
  | .held _ => 1
def uptoBulkAll {H : Type} : List (DataW H) → Nat
  | [] => 0
  | d :: r => uptoBulk d + uptoBulkAll r
def uptoBulkEntries {H : Type} : List (Lit × DataW H) → Nat
  | [] => 0
  | x :: r => uptoBulkEntry x + uptoBulkEntries r
def uptoBulkEntry {H : Type} : Lit × DataW H → Nat
  | (.string bytes, d) => bytes.length + uptoBulk d + 1
  | (_, d) => uptoBulk d + 1
 end
def uptoSmall : (H : Type) → List (DataW H) → Bool := fun _ ds => decide (uptoBulkAll ds ≤ 1048576)
def OpenSpec.upto (s : _root_.Go.ChangeSpec) : _root_.Go.OpenSpec := { _root_.Go.OpenSpec.ofChange s with cond := some uptoSmall }

/-- 'pigeonrylaw13.TopicMeets', WHERE WHAT IT READS IS OF BULK AT MOST 1048576: true; the input reads as it did. -/
def topicMeetsUptoRow : OpenClaim := { program := "ytkabdalnkmbloaadoor", sum := "310d1db3a7f6bdbe0933fc04622ebdf79afeee8ba4b2fa2418846aafd22b796f", func := "pigeonry/pigeonrylaw13.TopicMeets", spec := "topicMeets", inPlace := ["internal/bytealg.IndexByteString", "internal/bytealg.IndexString"], unfollowed := true, recurses := true, named := ["pigeonry/utf.leads", "pigeonry/utf.bounds", "internal/bytealg.MaxLen"], apart := false, laid := [("pigeonry/utf.bounds", laid_pigeonry_utf_bounds), ("pigeonry/utf.leads", laid_pigeonry_utf_leads)], narrowed := true }
def TopicMeetsUptoSaid : Prop := topicMeetsUptoRow.holds Tryd.pinned (OpenSpec.upto topicMeetsSpec)

/-- 'pigeonrylaw13.TopicTells', WHERE WHAT IT READS IS OF BULK AT MOST 1048576: true; the input reads as it did. -/
def topicTellsUptoRow : OpenClaim := { program := "ytkabdalnkmbloaadoor", sum := "310d1db3a7f6bdbe0933fc04622ebdf79afeee8ba4b2fa2418846aafd22b796f", func := "pigeonry/pigeonrylaw13.TopicTells", spec := "topicTells", inPlace := ["internal/bytealg.IndexByteString", "internal/bytealg.IndexString"], unfollowed := true, recurses := true, named := ["pigeonry/utf.leads", "pigeonry/utf.bounds", "internal/bytealg.MaxLen"], apart := false, laid := [("pigeonry/utf.bounds", laid_pigeonry_utf_bounds), ("pigeonry/utf.leads", laid_pigeonry_utf_leads)], narrowed := true }
def TopicTellsUptoSaid : Prop := topicTellsUptoRow.holds Tryd.pinned (OpenSpec.upto topicTellsSpec)

/-- 'pigeonrylaw13.TopicWithin', WHERE WHAT IT READS IS OF BULK AT MOST 1048576: true; the input reads as it did. -/
def topicWithinUptoRow : OpenClaim := { program := "ytkabdalnkmbloaadoor", sum := "310d1db3a7f6bdbe0933fc04622ebdf79afeee8ba4b2fa2418846aafd22b796f", func := "pigeonry/pigeonrylaw13.TopicWithin", spec := "topicWithin", inPlace := ["internal/bytealg.IndexByteString", "internal/bytealg.IndexString"], unfollowed := true, recurses := true, named := ["pigeonry/utf.leads", "pigeonry/utf.bounds", "internal/bytealg.MaxLen"], apart := false, laid := [("pigeonry/utf.bounds", laid_pigeonry_utf_bounds), ("pigeonry/utf.leads", laid_pigeonry_utf_leads)], narrowed := true }
def TopicWithinUptoSaid : Prop := topicWithinUptoRow.holds Tryd.pinned (OpenSpec.upto topicWithinSpec)

/-- 'pigeonrylaw13.TopicThree', WHERE WHAT IT READS IS OF BULK AT MOST 1048576: true; the input reads as it did. -/
def topicThreeUptoRow : OpenClaim := { program := "ytkabdalnkmbloaadoor", sum := "310d1db3a7f6bdbe0933fc04622ebdf79afeee8ba4b2fa2418846aafd22b796f", func := "pigeonry/pigeonrylaw13.TopicThree", spec := "topicThree", inPlace := ["internal/bytealg.IndexByteString", "internal/bytealg.IndexString"], unfollowed := true, recurses := true, named := ["pigeonry/utf.leads", "pigeonry/utf.bounds", "internal/bytealg.MaxLen"], apart := false, laid := [("pigeonry/utf.bounds", laid_pigeonry_utf_bounds), ("pigeonry/utf.leads", laid_pigeonry_utf_leads)], narrowed := true }
def TopicThreeUptoSaid : Prop := topicThreeUptoRow.holds Tryd.pinned (OpenSpec.upto topicThreeSpec)

/-- 'pigeonrylaw13.TopicSigns', WHERE WHAT IT READS IS OF BULK AT MOST 1048576: true; the input reads as it did. -/
def topicSignsUptoRow : OpenClaim := { program := "ytkabdalnkmbloaadoor", sum := "310d1db3a7f6bdbe0933fc04622ebdf79afeee8ba4b2fa2418846aafd22b796f", func := "pigeonry/pigeonrylaw13.TopicSigns", spec := "topicSigns", inPlace := ["internal/bytealg.IndexByteString", "internal/bytealg.IndexString"], unfollowed := true, recurses := true, named := ["pigeonry/utf.leads", "pigeonry/utf.bounds", "internal/bytealg.MaxLen"], apart := false, laid := [("pigeonry/utf.bounds", laid_pigeonry_utf_bounds), ("pigeonry/utf.leads", laid_pigeonry_utf_leads)], narrowed := true }
def TopicSignsUptoSaid : Prop := topicSignsUptoRow.holds Tryd.pinned (OpenSpec.upto topicSignsSpec)

end Rows
end Go.Proofs.YtkabdalnkmbloaaDoor

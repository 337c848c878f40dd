/-
  NARROWER THAN 'FOR EVERY INPUT', by the rows' own cells (each row's printed sentence says how): PageRaws: laid · PageLooks: laid · PageTurned: laid · PageSame: laid · PageMoves: laid.
  DERIVED. THE GIVEN ROWS OF THIS SEAT. 5 by the template 'for every input the law returns true; each argument reads behind the call as it read before'; 0 by the template 'total and deterministic' (their statements: YtjfpgclaefbhjaaDoorTotals.lean).
  GIVEN WITH THE SEED: the statements are not yours to turn. If you find one false, say at which input.
  Laid BY PROGRAM, IN A SANDBOX (cutbox-rows.mjs): the forced cells as the released guide's own fill.sh prints them over the translation 1ac381f36a02ab08… (all of the seat's roots in one cut). By AI agents, Wed Nov 11 2026. No macro, syntax, notation, axiom, sorry.
-/
import Derived.Test.YtjfpgclaefbhjaaDoorChecked
import GoSem.Claim
import GoSem.ClaimJoined
import GoSem.ClaimMapViews
import Derived.JoinedTies
import Derived.KernelRfl
namespace Go.Proofs.YtjfpgclaefbhjaaDoor
/- THE CELL 'sum', in the pinned program and in every row, IS THE sha256 OF THE DUMP (.gsa) THAT YtjfpgclaefbhjaaDoorProg.lean LOADS. Nothing in Lean hashes anything: it is a label: what it is worth is what the hold of that sum in a sandbox is worth. -/
noncomputable def Tryd.pinned : Pinned := { name := "ytjfpgclaefbhjaadoor", sum := "1ac381f36a02ab08f8071ecdaf4d4a890e76a08c1d5c6c7ec7db055f05842b5d", checked := Tryd.checked }
namespace Rows
def none {H : Type} : Left H := { results := [], args := [] }

/- WHAT THE LISTED PACKAGE-LEVEL VARIABLES READ AS WHEN THE CALL BEGINS. Each datum BY PROGRAM (the guide's laid-datum.mjs) off the statement by which the dump's own 'gosem.cut.vars' lays the variable. In a bare row this is a premise. The card (YtjfpgclaefbhjaaDoorCards.lean) ties it to the program's text. -/
def laid_pigeonry_crc_words {H : Type} : DataW H := .agg [.lit (.int .u32 0), .lit (.int .u32 498536548), .lit (.int .u32 997073096), .lit (.int .u32 651767980), .lit (.int .u32 1994146192), .lit (.int .u32 1802195444), .lit (.int .u32 1303535960), .lit (.int .u32 1342533948), .lit (.int .u32 3988292384), .lit (.int .u32 4027552580), .lit (.int .u32 3604390888), .lit (.int .u32 3412177804), .lit (.int .u32 2607071920), .lit (.int .u32 2262029012), .lit (.int .u32 2685067896), .lit (.int .u32 3183342108)]
def laid_pigeonry_page_texts {H : Type} : DataW H := .agg [.lit (.string []), .lit (.string [109, 101, 116, 97]), .lit (.string [108, 101, 97, 102]), .lit (.string [98, 114, 97, 110, 99, 104]), .lit (.string [99, 104, 97, 105, 110]), .lit (.string [102, 114, 101, 101])]

/-- 'pigeonrylaw04.PageRaws': WHATEVER THE INPUT: true; the input reads as it did. -/
def pageRawsSpec : ChangeSpec := { name := "pageRaws", fn := fun _ => fun
  | [d1, d2] => { results := [.lit (.bool true)], args := [d1, d2] }
  | _ => none }
def pageRawsRow : OpenClaim := { program := "ytjfpgclaefbhjaadoor", sum := "1ac381f36a02ab08f8071ecdaf4d4a890e76a08c1d5c6c7ec7db055f05842b5d", func := "pigeonry/pigeonrylaw04.PageRaws", spec := "pageRaws", unfollowed := true, recurses := true, named := ["pigeonry/crc.words", "pigeonry/page.texts"], apart := false, laid := [("pigeonry/crc.words", laid_pigeonry_crc_words), ("pigeonry/page.texts", laid_pigeonry_page_texts)] }
def PageRawsSaid : Prop := pageRawsRow.holds Tryd.pinned (OpenSpec.ofChange pageRawsSpec)

/-- ITS FALSE NEIGHBOUR: 'it returns false'. Refute it at one input. -/
def pageRawsWrong : ChangeSpec := { name := "pageRaws", fn := fun _ => fun
  | [d1, d2] => { results := [.lit (.bool false)], args := [d1, d2] }
  | _ => none }
def PageRawsWrongFalsely : Prop := pageRawsRow.holds Tryd.pinned (OpenSpec.ofChange pageRawsWrong)

/-- 'pigeonrylaw04.PageLooks': WHATEVER THE INPUT: true; the input reads as it did. -/
def pageLooksSpec : ChangeSpec := { name := "pageLooks", fn := fun _ => fun
  | [d1, d2] => { results := [.lit (.bool true)], args := [d1, d2] }
  | _ => none }
def pageLooksRow : OpenClaim := { program := "ytjfpgclaefbhjaadoor", sum := "1ac381f36a02ab08f8071ecdaf4d4a890e76a08c1d5c6c7ec7db055f05842b5d", func := "pigeonry/pigeonrylaw04.PageLooks", spec := "pageLooks", unfollowed := true, recurses := true, named := ["pigeonry/crc.words", "pigeonry/page.texts"], apart := false, laid := [("pigeonry/crc.words", laid_pigeonry_crc_words), ("pigeonry/page.texts", laid_pigeonry_page_texts)] }
def PageLooksSaid : Prop := pageLooksRow.holds Tryd.pinned (OpenSpec.ofChange pageLooksSpec)

/-- ITS FALSE NEIGHBOUR: 'it returns false'. Refute it at one input. -/
def pageLooksWrong : ChangeSpec := { name := "pageLooks", fn := fun _ => fun
  | [d1, d2] => { results := [.lit (.bool false)], args := [d1, d2] }
  | _ => none }
def PageLooksWrongFalsely : Prop := pageLooksRow.holds Tryd.pinned (OpenSpec.ofChange pageLooksWrong)

/-- 'pigeonrylaw04.PageTurned': WHATEVER THE INPUT: true; the input reads as it did. -/
def pageTurnedSpec : ChangeSpec := { name := "pageTurned", fn := fun _ => fun
  | [d1, d2, d3] => { results := [.lit (.bool true)], args := [d1, d2, d3] }
  | _ => none }
def pageTurnedRow : OpenClaim := { program := "ytjfpgclaefbhjaadoor", sum := "1ac381f36a02ab08f8071ecdaf4d4a890e76a08c1d5c6c7ec7db055f05842b5d", func := "pigeonry/pigeonrylaw04.PageTurned", spec := "pageTurned", unfollowed := true, recurses := true, named := ["pigeonry/crc.words", "pigeonry/page.texts"], apart := false, laid := [("pigeonry/crc.words", laid_pigeonry_crc_words), ("pigeonry/page.texts", laid_pigeonry_page_texts)] }
def PageTurnedSaid : Prop := pageTurnedRow.holds Tryd.pinned (OpenSpec.ofChange pageTurnedSpec)

/-- ITS FALSE NEIGHBOUR: 'it returns false'. Refute it at one input. -/
def pageTurnedWrong : ChangeSpec := { name := "pageTurned", fn := fun _ => fun
  | [d1, d2, d3] => { results := [.lit (.bool false)], args := [d1, d2, d3] }
  | _ => none }
def PageTurnedWrongFalsely : Prop := pageTurnedRow.holds Tryd.pinned (OpenSpec.ofChange pageTurnedWrong)

/-- 'pigeonrylaw04.PageSame': WHATEVER THE INPUT: true; the input reads as it did. -/
def pageSameSpec : ChangeSpec := { name := "pageSame", fn := fun _ => fun
  | [d1, d2, d3] => { results := [.lit (.bool true)], args := [d1, d2, d3] }
  | _ => none }
def pageSameRow : OpenClaim := { program := "ytjfpgclaefbhjaadoor", sum := "1ac381f36a02ab08f8071ecdaf4d4a890e76a08c1d5c6c7ec7db055f05842b5d", func := "pigeonry/pigeonrylaw04.PageSame", spec := "pageSame", unfollowed := true, recurses := true, named := ["pigeonry/crc.words", "pigeonry/page.texts"], apart := false, laid := [("pigeonry/crc.words", laid_pigeonry_crc_words), ("pigeonry/page.texts", laid_pigeonry_page_texts)] }
def PageSameSaid : Prop := pageSameRow.holds Tryd.pinned (OpenSpec.ofChange pageSameSpec)

/-- ITS FALSE NEIGHBOUR: 'it returns false'. Refute it at one input. -/
def pageSameWrong : ChangeSpec := { name := "pageSame", fn := fun _ => fun
  | [d1, d2, d3] => { results := [.lit (.bool false)], args := [d1, d2, d3] }
  | _ => none }
def PageSameWrongFalsely : Prop := pageSameRow.holds Tryd.pinned (OpenSpec.ofChange pageSameWrong)

/-- 'pigeonrylaw04.PageMoves': WHATEVER THE INPUT: true; the input reads as it did. -/
def pageMovesSpec : ChangeSpec := { name := "pageMoves", fn := fun _ => fun
  | [d1, d2, d3] => { results := [.lit (.bool true)], args := [d1, d2, d3] }
  | _ => none }
def pageMovesRow : OpenClaim := { program := "ytjfpgclaefbhjaadoor", sum := "1ac381f36a02ab08f8071ecdaf4d4a890e76a08c1d5c6c7ec7db055f05842b5d", func := "pigeonry/pigeonrylaw04.PageMoves", spec := "pageMoves", unfollowed := true, recurses := true, named := ["pigeonry/crc.words", "pigeonry/page.texts"], apart := false, laid := [("pigeonry/crc.words", laid_pigeonry_crc_words), ("pigeonry/page.texts", laid_pigeonry_page_texts)] }
def PageMovesSaid : Prop := pageMovesRow.holds Tryd.pinned (OpenSpec.ofChange pageMovesSpec)

/-- ITS FALSE NEIGHBOUR: 'it returns false'. Refute it at one input. -/
def pageMovesWrong : ChangeSpec := { name := "pageMoves", fn := fun _ => fun
  | [d1, d2, d3] => { results := [.lit (.bool false)], args := [d1, d2, d3] }
  | _ => none }
def PageMovesWrongFalsely : Prop := pageMovesRow.holds Tryd.pinned (OpenSpec.ofChange pageMovesWrong)

/- THE SECOND FORM. 'bulk': how many values and letters a reading holds, each counted each time it is reached (what is shared counts as often as it is met; a slice's spare places count too). A statement '..UptoSaid' is the law's where the arguments, and the package variables that the reading takes, are together of bulk at most 1048576: NARROWER than '..Said'. Prove '..Said' where nothing that the law and all that it calls make is longer than what came in: it says more and counts as full. Else prove '..UptoSaid'. A law counts once. -/
mutual
def uptoBulk {H : Type} : DataW H → Nat
  | .lit (.string bytes) => bytes.length + 1
  | .lit _ => 1
  | .nil => 1
  | .ptr d => uptoBulk d + 1
  | .slice elems spare => uptoBulkAll elems + uptoBulkAll spare + 1
  | .agg parts => uptoBulkAll parts + 1
  | .iface _ d => uptoBulk d + 1
  | .map entries => uptoBulkEntries entries + 1
  | .held _ => 1
def uptoBulkAll {H : Type} : List (DataW H) → Nat
  | [] => 0
  | d :: r => uptoBulk d + uptoBulkAll r
def uptoBulkEntries {H : Type} : List (Lit × DataW H) → Nat
  | [] => 0
  | x :: r => uptoBulkEntry x + uptoBulkEntries r
def uptoBulkEntry {H : Type} : Lit × DataW H → Nat
  | (.string bytes, d) => bytes.length + uptoBulk d + 1
  | (_, d) => uptoBulk d + 1
 end
def uptoSmall : (H : Type) → List (DataW H) → Bool := fun _ ds => decide (uptoBulkAll ds ≤ 1048576)
def OpenSpec.upto (s : _root_.Go.ChangeSpec) : _root_.Go.OpenSpec := { _root_.Go.OpenSpec.ofChange s with cond := some uptoSmall }

/-- 'pigeonrylaw04.PageRaws', WHERE WHAT IT READS IS OF BULK AT MOST 1048576: true; the input reads as it did. -/
def pageRawsUptoRow : OpenClaim := { program := "ytjfpgclaefbhjaadoor", sum := "1ac381f36a02ab08f8071ecdaf4d4a890e76a08c1d5c6c7ec7db055f05842b5d", func := "pigeonry/pigeonrylaw04.PageRaws", spec := "pageRaws", unfollowed := true, recurses := true, named := ["pigeonry/crc.words", "pigeonry/page.texts"], apart := false, laid := [("pigeonry/crc.words", laid_pigeonry_crc_words), ("pigeonry/page.texts", laid_pigeonry_page_texts)], narrowed := true }
def PageRawsUptoSaid : Prop := pageRawsUptoRow.holds Tryd.pinned (OpenSpec.upto pageRawsSpec)

/-- 'pigeonrylaw04.PageLooks', WHERE WHAT IT READS IS OF BULK AT MOST 1048576: true; the input reads as it did. -/
def pageLooksUptoRow : OpenClaim := { program := "ytjfpgclaefbhjaadoor", sum := "1ac381f36a02ab08f8071ecdaf4d4a890e76a08c1d5c6c7ec7db055f05842b5d", func := "pigeonry/pigeonrylaw04.PageLooks", spec := "pageLooks", unfollowed := true, recurses := true, named := ["pigeonry/crc.words", "pigeonry/page.texts"], apart := false, laid := [("pigeonry/crc.words", laid_pigeonry_crc_words), ("pigeonry/page.texts", laid_pigeonry_page_texts)], narrowed := true }
def PageLooksUptoSaid : Prop := pageLooksUptoRow.holds Tryd.pinned (OpenSpec.upto pageLooksSpec)

/-- 'pigeonrylaw04.PageTurned', WHERE WHAT IT READS IS OF BULK AT MOST 1048576: true; the input reads as it did. -/
def pageTurnedUptoRow : OpenClaim := { program := "ytjfpgclaefbhjaadoor", sum := "1ac381f36a02ab08f8071ecdaf4d4a890e76a08c1d5c6c7ec7db055f05842b5d", func := "pigeonry/pigeonrylaw04.PageTurned", spec := "pageTurned", unfollowed := true, recurses := true, named := ["pigeonry/crc.words", "pigeonry/page.texts"], apart := false, laid := [("pigeonry/crc.words", laid_pigeonry_crc_words), ("pigeonry/page.texts", laid_pigeonry_page_texts)], narrowed := true }
def PageTurnedUptoSaid : Prop := pageTurnedUptoRow.holds Tryd.pinned (OpenSpec.upto pageTurnedSpec)

/-- 'pigeonrylaw04.PageSame', WHERE WHAT IT READS IS OF BULK AT MOST 1048576: true; the input reads as it did. -/
def pageSameUptoRow : OpenClaim := { program := "ytjfpgclaefbhjaadoor", sum := "1ac381f36a02ab08f8071ecdaf4d4a890e76a08c1d5c6c7ec7db055f05842b5d", func := "pigeonry/pigeonrylaw04.PageSame", spec := "pageSame", unfollowed := true, recurses := true, named := ["pigeonry/crc.words", "pigeonry/page.texts"], apart := false, laid := [("pigeonry/crc.words", laid_pigeonry_crc_words), ("pigeonry/page.texts", laid_pigeonry_page_texts)], narrowed := true }
def PageSameUptoSaid : Prop := pageSameUptoRow.holds Tryd.pinned (OpenSpec.upto pageSameSpec)

/-- 'pigeonrylaw04.PageMoves', WHERE WHAT IT READS IS OF BULK AT MOST 1048576: true; the input reads as it did. -/
def pageMovesUptoRow : OpenClaim := { program := "ytjfpgclaefbhjaadoor", sum := "1ac381f36a02ab08f8071ecdaf4d4a890e76a08c1d5c6c7ec7db055f05842b5d", func := "pigeonry/pigeonrylaw04.PageMoves", spec := "pageMoves", unfollowed := true, recurses := true, named := ["pigeonry/crc.words", "pigeonry/page.texts"], apart := false, laid := [("pigeonry/crc.words", laid_pigeonry_crc_words), ("pigeonry/page.texts", laid_pigeonry_page_texts)], narrowed := true }
def PageMovesUptoSaid : Prop := pageMovesUptoRow.holds Tryd.pinned (OpenSpec.upto pageMovesSpec)

end Rows
end Go.Proofs.YtjfpgclaefbhjaaDoor

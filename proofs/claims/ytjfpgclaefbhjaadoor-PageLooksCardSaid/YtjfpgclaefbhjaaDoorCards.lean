/-
  DERIVED. GIVEN WITH THE SEED: THE CARDS: each row of YtjfpgclaefbhjaaDoorRows.lean that lists a variable, with what it lists TIED to the program's text (the seventh form; the later family's looks); each row that meets fmt, with fmt's text TOLD by the authors' own Lean function (tested against real Go, not proved from fmt's source: count such statements apart). THE CARD IS WHAT COUNTS. Prove the row's statement (the work); the ties are given (YtjfpgclaefbhjaaDoorTie.lean); close each card by the builder's one call (the guide's Derived/Test/ToyasCard.lean, 'card_holds'). Laid BY PROGRAM, IN A SANDBOX (cutbox-door.mjs). By AI agents, Wed Nov 11 2026. No macro, syntax, notation, axiom, sorry.
-/
import Derived.Test.YtjfpgclaefbhjaaDoorRows
import GoSem.ClaimSeven
namespace Go.Proofs.YtjfpgclaefbhjaaDoor
namespace Rows

/-- THE TIED CARD OF 'pigeonrylaw04.PageRaws'. -/
def pageRawsCard : Claim7 := { stood := { row := pageRawsRow, standIns := [], harness := (true, "4b2bbc87c9ad252dc87cf0dfb2f8069a410002758d965795d89bc797bcf9d9ea"), looks := true }, kinds := [], alts := [], laidByText := true, laidKinds := [.data, .data], laidTests := true, laidLooks := .later }
def PageRawsCardSaid : Prop := Claim7.holds Tryd.pinned (.plain (OpenSpec.ofChange pageRawsSpec)) pageRawsCard

/-- THE TIED CARD OF 'pigeonrylaw04.PageLooks'. -/
def pageLooksCard : Claim7 := { stood := { row := pageLooksRow, standIns := [], harness := (true, "4b2bbc87c9ad252dc87cf0dfb2f8069a410002758d965795d89bc797bcf9d9ea"), looks := true }, kinds := [], alts := [], laidByText := true, laidKinds := [.data, .data], laidTests := true, laidLooks := .later }
def PageLooksCardSaid : Prop := Claim7.holds Tryd.pinned (.plain (OpenSpec.ofChange pageLooksSpec)) pageLooksCard

/-- THE TIED CARD OF 'pigeonrylaw04.PageTurned'. -/
def pageTurnedCard : Claim7 := { stood := { row := pageTurnedRow, standIns := [], harness := (true, "4b2bbc87c9ad252dc87cf0dfb2f8069a410002758d965795d89bc797bcf9d9ea"), looks := true }, kinds := [], alts := [], laidByText := true, laidKinds := [.data, .data], laidTests := true, laidLooks := .later }
def PageTurnedCardSaid : Prop := Claim7.holds Tryd.pinned (.plain (OpenSpec.ofChange pageTurnedSpec)) pageTurnedCard

/-- THE TIED CARD OF 'pigeonrylaw04.PageSame'. -/
def pageSameCard : Claim7 := { stood := { row := pageSameRow, standIns := [], harness := (true, "4b2bbc87c9ad252dc87cf0dfb2f8069a410002758d965795d89bc797bcf9d9ea"), looks := true }, kinds := [], alts := [], laidByText := true, laidKinds := [.data, .data], laidTests := true, laidLooks := .later }
def PageSameCardSaid : Prop := Claim7.holds Tryd.pinned (.plain (OpenSpec.ofChange pageSameSpec)) pageSameCard

/-- THE TIED CARD OF 'pigeonrylaw04.PageMoves'. -/
def pageMovesCard : Claim7 := { stood := { row := pageMovesRow, standIns := [], harness := (true, "4b2bbc87c9ad252dc87cf0dfb2f8069a410002758d965795d89bc797bcf9d9ea"), looks := true }, kinds := [], alts := [], laidByText := true, laidKinds := [.data, .data], laidTests := true, laidLooks := .later }
def PageMovesCardSaid : Prop := Claim7.holds Tryd.pinned (.plain (OpenSpec.ofChange pageMovesSpec)) pageMovesCard

/-- THE SECOND FORM's CARD OF 'pigeonrylaw04.PageRaws'. -/
def pageRawsUptoCard : Claim7 := { stood := { row := pageRawsUptoRow, standIns := [], harness := (true, "4b2bbc87c9ad252dc87cf0dfb2f8069a410002758d965795d89bc797bcf9d9ea"), looks := true }, kinds := [], alts := [], laidByText := true, laidKinds := [.data, .data], laidTests := true, laidLooks := .later }
def PageRawsUptoCardSaid : Prop := Claim7.holds Tryd.pinned (.plain (OpenSpec.upto pageRawsSpec)) pageRawsUptoCard

/-- THE SECOND FORM's CARD OF 'pigeonrylaw04.PageLooks'. -/
def pageLooksUptoCard : Claim7 := { stood := { row := pageLooksUptoRow, standIns := [], harness := (true, "4b2bbc87c9ad252dc87cf0dfb2f8069a410002758d965795d89bc797bcf9d9ea"), looks := true }, kinds := [], alts := [], laidByText := true, laidKinds := [.data, .data], laidTests := true, laidLooks := .later }
def PageLooksUptoCardSaid : Prop := Claim7.holds Tryd.pinned (.plain (OpenSpec.upto pageLooksSpec)) pageLooksUptoCard

/-- THE SECOND FORM's CARD OF 'pigeonrylaw04.PageTurned'. -/
def pageTurnedUptoCard : Claim7 := { stood := { row := pageTurnedUptoRow, standIns := [], harness := (true, "4b2bbc87c9ad252dc87cf0dfb2f8069a410002758d965795d89bc797bcf9d9ea"), looks := true }, kinds := [], alts := [], laidByText := true, laidKinds := [.data, .data], laidTests := true, laidLooks := .later }
def PageTurnedUptoCardSaid : Prop := Claim7.holds Tryd.pinned (.plain (OpenSpec.upto pageTurnedSpec)) pageTurnedUptoCard

/-- THE SECOND FORM's CARD OF 'pigeonrylaw04.PageSame'. -/
def pageSameUptoCard : Claim7 := { stood := { row := pageSameUptoRow, standIns := [], harness := (true, "4b2bbc87c9ad252dc87cf0dfb2f8069a410002758d965795d89bc797bcf9d9ea"), looks := true }, kinds := [], alts := [], laidByText := true, laidKinds := [.data, .data], laidTests := true, laidLooks := .later }
def PageSameUptoCardSaid : Prop := Claim7.holds Tryd.pinned (.plain (OpenSpec.upto pageSameSpec)) pageSameUptoCard

/-- THE SECOND FORM's CARD OF 'pigeonrylaw04.PageMoves'. -/
def pageMovesUptoCard : Claim7 := { stood := { row := pageMovesUptoRow, standIns := [], harness := (true, "4b2bbc87c9ad252dc87cf0dfb2f8069a410002758d965795d89bc797bcf9d9ea"), looks := true }, kinds := [], alts := [], laidByText := true, laidKinds := [.data, .data], laidTests := true, laidLooks := .later }
def PageMovesUptoCardSaid : Prop := Claim7.holds Tryd.pinned (.plain (OpenSpec.upto pageMovesSpec)) pageMovesUptoCard
end Rows
end Go.Proofs.YtjfpgclaefbhjaaDoor

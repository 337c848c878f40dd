/-
  DERIVED. GIVEN WITH THE SEED: THE CARDS: each row of YtmbjdfmbbmeofaaDoorRows.lean that lists a variable, with what it lists TIED to the program's text (the seventh form; the later family's looks); each row that meets fmt, with fmt's text TOLD by the authors' own Lean function (tested against real Go, not proved from fmt's source: count such statements apart). THE CARD IS WHAT COUNTS. Prove the row's statement (the work); the ties are given (YtmbjdfmbbmeofaaDoorTie.lean); close each card by the builder's one call (the guide's Derived/Test/ToyasCard.lean, 'card_holds'). Laid BY PROGRAM, IN A SANDBOX (cutbox-door.mjs). By AI agents, Wed Nov 11 2026. No macro, syntax, notation, axiom, sorry.
-/
import Derived.Test.YtmbjdfmbbmeofaaDoorRows
import GoSem.ClaimSeven
namespace Go.Proofs.YtmbjdfmbbmeofaaDoor
namespace Rows

/-- THE TIED CARD OF 'pigeonrylaw15.LengthRaws'. -/
def lengthRawsCard : Claim7 := { stood := { row := lengthRawsRow, standIns := [], harness := (true, "498f64f2fac813d00e8a13dd9a4e2090d764943aec71646b581197f6e9730328"), looks := false }, kinds := [], alts := [], laidByText := true, laidKinds := [.data], laidTests := true, laidLooks := .later }
def LengthRawsCardSaid : Prop := Claim7.holds Tryd.pinned (.plain (OpenSpec.ofChange lengthRawsSpec)) lengthRawsCard

/-- THE TIED CARD OF 'pigeonrylaw15.LengthReads'. -/
def lengthReadsCard : Claim7 := { stood := { row := lengthReadsRow, standIns := [], harness := (true, "498f64f2fac813d00e8a13dd9a4e2090d764943aec71646b581197f6e9730328"), looks := false }, kinds := [], alts := [], laidByText := true, laidKinds := [.data], laidTests := true, laidLooks := .later }
def LengthReadsCardSaid : Prop := Claim7.holds Tryd.pinned (.plain (OpenSpec.ofChange lengthReadsSpec)) lengthReadsCard

/-- THE TIED CARD OF 'pigeonrylaw15.LengthBack'. -/
def lengthBackCard : Claim7 := { stood := { row := lengthBackRow, standIns := [], harness := (true, "498f64f2fac813d00e8a13dd9a4e2090d764943aec71646b581197f6e9730328"), looks := false }, kinds := [], alts := [], laidByText := true, laidKinds := [.data], laidTests := true, laidLooks := .later }
def LengthBackCardSaid : Prop := Claim7.holds Tryd.pinned (.plain (OpenSpec.ofChange lengthBackSpec)) lengthBackCard

/-- THE TIED CARD OF 'pigeonrylaw15.LengthOrder'. -/
def lengthOrderCard : Claim7 := { stood := { row := lengthOrderRow, standIns := [], harness := (true, "498f64f2fac813d00e8a13dd9a4e2090d764943aec71646b581197f6e9730328"), looks := false }, kinds := [], alts := [], laidByText := true, laidKinds := [.data], laidTests := true, laidLooks := .later }
def LengthOrderCardSaid : Prop := Claim7.holds Tryd.pinned (.plain (OpenSpec.ofChange lengthOrderSpec)) lengthOrderCard

/-- THE SECOND FORM's CARD OF 'pigeonrylaw15.LengthRaws'. -/
def lengthRawsUptoCard : Claim7 := { stood := { row := lengthRawsUptoRow, standIns := [], harness := (true, "498f64f2fac813d00e8a13dd9a4e2090d764943aec71646b581197f6e9730328"), looks := false }, kinds := [], alts := [], laidByText := true, laidKinds := [.data], laidTests := true, laidLooks := .later }
def LengthRawsUptoCardSaid : Prop := Claim7.holds Tryd.pinned (.plain (OpenSpec.upto lengthRawsSpec)) lengthRawsUptoCard

/-- THE SECOND FORM's CARD OF 'pigeonrylaw15.LengthReads'. -/
def lengthReadsUptoCard : Claim7 := { stood := { row := lengthReadsUptoRow, standIns := [], harness := (true, "498f64f2fac813d00e8a13dd9a4e2090d764943aec71646b581197f6e9730328"), looks := false }, kinds := [], alts := [], laidByText := true, laidKinds := [.data], laidTests := true, laidLooks := .later }
def LengthReadsUptoCardSaid : Prop := Claim7.holds Tryd.pinned (.plain (OpenSpec.upto lengthReadsSpec)) lengthReadsUptoCard

/-- THE SECOND FORM's CARD OF 'pigeonrylaw15.LengthBack'. -/
def lengthBackUptoCard : Claim7 := { stood := { row := lengthBackUptoRow, standIns := [], harness := (true, "498f64f2fac813d00e8a13dd9a4e2090d764943aec71646b581197f6e9730328"), looks := false }, kinds := [], alts := [], laidByText := true, laidKinds := [.data], laidTests := true, laidLooks := .later }
def LengthBackUptoCardSaid : Prop := Claim7.holds Tryd.pinned (.plain (OpenSpec.upto lengthBackSpec)) lengthBackUptoCard

/-- THE SECOND FORM's CARD OF 'pigeonrylaw15.LengthOrder'. -/
def lengthOrderUptoCard : Claim7 := { stood := { row := lengthOrderUptoRow, standIns := [], harness := (true, "498f64f2fac813d00e8a13dd9a4e2090d764943aec71646b581197f6e9730328"), looks := false }, kinds := [], alts := [], laidByText := true, laidKinds := [.data], laidTests := true, laidLooks := .later }
def LengthOrderUptoCardSaid : Prop := Claim7.holds Tryd.pinned (.plain (OpenSpec.upto lengthOrderSpec)) lengthOrderUptoCard
end Rows
end Go.Proofs.YtmbjdfmbbmeofaaDoor

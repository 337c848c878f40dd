/-
  DERIVED. GIVEN WITH THE SEED: THE CARDS: each row of YtkabdalnkmbloaaDoorRows.lean that lists a variable, with what it lists TIED to the program's text (the seventh form; the later family's looks); each row that meets fmt, with fmt's text TOLD by the authors' own Lean function (tested against real Go, not proved from fmt's source: count such statements apart). THE CARD IS WHAT COUNTS. Prove the row's statement (the work); the ties are given (YtkabdalnkmbloaaDoorTie.lean); close each card by the builder's one call (the guide's Derived/Test/ToyasCard.lean, 'card_holds'). Laid BY PROGRAM, IN A SANDBOX (cutbox-door.mjs). By AI agents, Wed Nov 11 2026. No macro, syntax, notation, axiom, sorry.
-/
import Derived.Test.YtkabdalnkmbloaaDoorRows
import GoSem.ClaimSeven
namespace Go.Proofs.YtkabdalnkmbloaaDoor
namespace Rows

/-- THE TIED CARD OF 'pigeonrylaw13.TopicMeets'. -/
def topicMeetsCard : Claim7 := { stood := { row := topicMeetsRow, standIns := [], harness := (true, "f6c455f10f24db02b2412216fc3739bf112dc98b673fb9c1b6035be3d25ed72a"), looks := false }, kinds := [], alts := [], laidByText := true, laidKinds := [.data, .data], laidTests := true, laidLooks := .later }
def TopicMeetsCardSaid : Prop := Claim7.holds Tryd.pinned (.plain (OpenSpec.ofChange topicMeetsSpec)) topicMeetsCard

/-- THE TIED CARD OF 'pigeonrylaw13.TopicTells'. -/
def topicTellsCard : Claim7 := { stood := { row := topicTellsRow, standIns := [], harness := (true, "f6c455f10f24db02b2412216fc3739bf112dc98b673fb9c1b6035be3d25ed72a"), looks := false }, kinds := [], alts := [], laidByText := true, laidKinds := [.data, .data], laidTests := true, laidLooks := .later }
def TopicTellsCardSaid : Prop := Claim7.holds Tryd.pinned (.plain (OpenSpec.ofChange topicTellsSpec)) topicTellsCard

/-- THE TIED CARD OF 'pigeonrylaw13.TopicWithin'. -/
def topicWithinCard : Claim7 := { stood := { row := topicWithinRow, standIns := [], harness := (true, "f6c455f10f24db02b2412216fc3739bf112dc98b673fb9c1b6035be3d25ed72a"), looks := false }, kinds := [], alts := [], laidByText := true, laidKinds := [.data, .data], laidTests := true, laidLooks := .later }
def TopicWithinCardSaid : Prop := Claim7.holds Tryd.pinned (.plain (OpenSpec.ofChange topicWithinSpec)) topicWithinCard

/-- THE TIED CARD OF 'pigeonrylaw13.TopicThree'. -/
def topicThreeCard : Claim7 := { stood := { row := topicThreeRow, standIns := [], harness := (true, "f6c455f10f24db02b2412216fc3739bf112dc98b673fb9c1b6035be3d25ed72a"), looks := false }, kinds := [], alts := [], laidByText := true, laidKinds := [.data, .data], laidTests := true, laidLooks := .later }
def TopicThreeCardSaid : Prop := Claim7.holds Tryd.pinned (.plain (OpenSpec.ofChange topicThreeSpec)) topicThreeCard

/-- THE TIED CARD OF 'pigeonrylaw13.TopicSigns'. -/
def topicSignsCard : Claim7 := { stood := { row := topicSignsRow, standIns := [], harness := (true, "f6c455f10f24db02b2412216fc3739bf112dc98b673fb9c1b6035be3d25ed72a"), looks := false }, kinds := [], alts := [], laidByText := true, laidKinds := [.data, .data], laidTests := true, laidLooks := .later }
def TopicSignsCardSaid : Prop := Claim7.holds Tryd.pinned (.plain (OpenSpec.ofChange topicSignsSpec)) topicSignsCard

/-- THE SECOND FORM's CARD OF 'pigeonrylaw13.TopicMeets'. -/
def topicMeetsUptoCard : Claim7 := { stood := { row := topicMeetsUptoRow, standIns := [], harness := (true, "f6c455f10f24db02b2412216fc3739bf112dc98b673fb9c1b6035be3d25ed72a"), looks := false }, kinds := [], alts := [], laidByText := true, laidKinds := [.data, .data], laidTests := true, laidLooks := .later }
def TopicMeetsUptoCardSaid : Prop := Claim7.holds Tryd.pinned (.plain (OpenSpec.upto topicMeetsSpec)) topicMeetsUptoCard

/-- THE SECOND FORM's CARD OF 'pigeonrylaw13.TopicTells'. -/
def topicTellsUptoCard : Claim7 := { stood := { row := topicTellsUptoRow, standIns := [], harness := (true, "f6c455f10f24db02b2412216fc3739bf112dc98b673fb9c1b6035be3d25ed72a"), looks := false }, kinds := [], alts := [], laidByText := true, laidKinds := [.data, .data], laidTests := true, laidLooks := .later }
def TopicTellsUptoCardSaid : Prop := Claim7.holds Tryd.pinned (.plain (OpenSpec.upto topicTellsSpec)) topicTellsUptoCard

/-- THE SECOND FORM's CARD OF 'pigeonrylaw13.TopicWithin'. -/
def topicWithinUptoCard : Claim7 := { stood := { row := topicWithinUptoRow, standIns := [], harness := (true, "f6c455f10f24db02b2412216fc3739bf112dc98b673fb9c1b6035be3d25ed72a"), looks := false }, kinds := [], alts := [], laidByText := true, laidKinds := [.data, .data], laidTests := true, laidLooks := .later }
def TopicWithinUptoCardSaid : Prop := Claim7.holds Tryd.pinned (.plain (OpenSpec.upto topicWithinSpec)) topicWithinUptoCard

/-- THE SECOND FORM's CARD OF 'pigeonrylaw13.TopicThree'. -/
def topicThreeUptoCard : Claim7 := { stood := { row := topicThreeUptoRow, standIns := [], harness := (true, "f6c455f10f24db02b2412216fc3739bf112dc98b673fb9c1b6035be3d25ed72a"), looks := false }, kinds := [], alts := [], laidByText := true, laidKinds := [.data, .data], laidTests := true, laidLooks := .later }
def TopicThreeUptoCardSaid : Prop := Claim7.holds Tryd.pinned (.plain (OpenSpec.upto topicThreeSpec)) topicThreeUptoCard

/-- THE SECOND FORM's CARD OF 'pigeonrylaw13.TopicSigns'. -/
def topicSignsUptoCard : Claim7 := { stood := { row := topicSignsUptoRow, standIns := [], harness := (true, "f6c455f10f24db02b2412216fc3739bf112dc98b673fb9c1b6035be3d25ed72a"), looks := false }, kinds := [], alts := [], laidByText := true, laidKinds := [.data, .data], laidTests := true, laidLooks := .later }
def TopicSignsUptoCardSaid : Prop := Claim7.holds Tryd.pinned (.plain (OpenSpec.upto topicSignsSpec)) topicSignsUptoCard
end Rows
end Go.Proofs.YtkabdalnkmbloaaDoor

/-
  DERIVED. GIVEN WITH THE SEED: THE CARDS: each row of YtaijjlaheoamaaaDoorRows.lean that lists a variable, with what it lists TIED to the program's text (the seventh form; the later family's looks); each row that meets fmt, with fmt's text TOLD by the authors' own Lean function (tested against real Go, not proved from fmt's source: count such statements apart). THE CARD IS WHAT COUNTS. Prove the row's statement (the work); the ties are given (YtaijjlaheoamaaaDoorTie.lean); close each card by the builder's one call (the guide's Derived/Test/ToyasCard.lean, 'card_holds'). Laid BY PROGRAM, IN A SANDBOX (cutbox-door.mjs). By AI agents, Wed Nov 11 2026. No macro, syntax, notation, axiom, sorry.
-/
import Derived.Test.YtaijjlaheoamaaaDoorRows
import GoSem.ClaimSeven
namespace Go.Proofs.YtaijjlaheoamaaaDoor
namespace Rows

/-- THE TIED CARD OF 'pigeonrylaw06.MetaCounts'. -/
def metaCountsCard : Claim7 := { stood := { row := metaCountsRow, standIns := [], harness := (true, "bc99df42dfabd93c4494e290c87850f5e0eaf5b3efcfdd7c17c894edf62afe01"), looks := true }, kinds := [], alts := [], laidByText := true, laidKinds := [.data], laidTests := true, laidLooks := .later }
def MetaCountsCardSaid : Prop := Claim7.holds Tryd.pinned (.plain (OpenSpec.ofChange metaCountsSpec)) metaCountsCard

/-- THE TIED CARD OF 'pigeonrylaw06.MetaRaws'. -/
def metaRawsCard : Claim7 := { stood := { row := metaRawsRow, standIns := [], harness := (true, "bc99df42dfabd93c4494e290c87850f5e0eaf5b3efcfdd7c17c894edf62afe01"), looks := true }, kinds := [], alts := [], laidByText := true, laidKinds := [.data], laidTests := true, laidLooks := .later }
def MetaRawsCardSaid : Prop := Claim7.holds Tryd.pinned (.plain (OpenSpec.ofChange metaRawsSpec)) metaRawsCard

/-- THE TIED CARD OF 'pigeonrylaw06.MetaTorn'. -/
def metaTornCard : Claim7 := { stood := { row := metaTornRow, standIns := [], harness := (true, "bc99df42dfabd93c4494e290c87850f5e0eaf5b3efcfdd7c17c894edf62afe01"), looks := true }, kinds := [], alts := [], laidByText := true, laidKinds := [.data], laidTests := true, laidLooks := .later }
def MetaTornCardSaid : Prop := Claim7.holds Tryd.pinned (.plain (OpenSpec.ofChange metaTornSpec)) metaTornCard

/-- THE TIED CARD OF 'pigeonrylaw06.MetaNewer'. -/
def metaNewerCard : Claim7 := { stood := { row := metaNewerRow, standIns := [], harness := (true, "bc99df42dfabd93c4494e290c87850f5e0eaf5b3efcfdd7c17c894edf62afe01"), looks := true }, kinds := [], alts := [], laidByText := true, laidKinds := [.data], laidTests := true, laidLooks := .later }
def MetaNewerCardSaid : Prop := Claim7.holds Tryd.pinned (.plain (OpenSpec.ofChange metaNewerSpec)) metaNewerCard

/-- THE TIED CARD OF 'pigeonrylaw06.MetaFirst'. -/
def metaFirstCard : Claim7 := { stood := { row := metaFirstRow, standIns := [], harness := (true, "bc99df42dfabd93c4494e290c87850f5e0eaf5b3efcfdd7c17c894edf62afe01"), looks := true }, kinds := [], alts := [], laidByText := true, laidKinds := [.data], laidTests := true, laidLooks := .later }
def MetaFirstCardSaid : Prop := Claim7.holds Tryd.pinned (.plain (OpenSpec.ofChange metaFirstSpec)) metaFirstCard

/-- THE SECOND FORM's CARD OF 'pigeonrylaw06.MetaCounts'. -/
def metaCountsUptoCard : Claim7 := { stood := { row := metaCountsUptoRow, standIns := [], harness := (true, "bc99df42dfabd93c4494e290c87850f5e0eaf5b3efcfdd7c17c894edf62afe01"), looks := true }, kinds := [], alts := [], laidByText := true, laidKinds := [.data], laidTests := true, laidLooks := .later }
def MetaCountsUptoCardSaid : Prop := Claim7.holds Tryd.pinned (.plain (OpenSpec.upto metaCountsSpec)) metaCountsUptoCard

/-- THE SECOND FORM's CARD OF 'pigeonrylaw06.MetaRaws'. -/
def metaRawsUptoCard : Claim7 := { stood := { row := metaRawsUptoRow, standIns := [], harness := (true, "bc99df42dfabd93c4494e290c87850f5e0eaf5b3efcfdd7c17c894edf62afe01"), looks := true }, kinds := [], alts := [], laidByText := true, laidKinds := [.data], laidTests := true, laidLooks := .later }
def MetaRawsUptoCardSaid : Prop := Claim7.holds Tryd.pinned (.plain (OpenSpec.upto metaRawsSpec)) metaRawsUptoCard

/-- THE SECOND FORM's CARD OF 'pigeonrylaw06.MetaTorn'. -/
def metaTornUptoCard : Claim7 := { stood := { row := metaTornUptoRow, standIns := [], harness := (true, "bc99df42dfabd93c4494e290c87850f5e0eaf5b3efcfdd7c17c894edf62afe01"), looks := true }, kinds := [], alts := [], laidByText := true, laidKinds := [.data], laidTests := true, laidLooks := .later }
def MetaTornUptoCardSaid : Prop := Claim7.holds Tryd.pinned (.plain (OpenSpec.upto metaTornSpec)) metaTornUptoCard

/-- THE SECOND FORM's CARD OF 'pigeonrylaw06.MetaNewer'. -/
def metaNewerUptoCard : Claim7 := { stood := { row := metaNewerUptoRow, standIns := [], harness := (true, "bc99df42dfabd93c4494e290c87850f5e0eaf5b3efcfdd7c17c894edf62afe01"), looks := true }, kinds := [], alts := [], laidByText := true, laidKinds := [.data], laidTests := true, laidLooks := .later }
def MetaNewerUptoCardSaid : Prop := Claim7.holds Tryd.pinned (.plain (OpenSpec.upto metaNewerSpec)) metaNewerUptoCard

/-- THE SECOND FORM's CARD OF 'pigeonrylaw06.MetaFirst'. -/
def metaFirstUptoCard : Claim7 := { stood := { row := metaFirstUptoRow, standIns := [], harness := (true, "bc99df42dfabd93c4494e290c87850f5e0eaf5b3efcfdd7c17c894edf62afe01"), looks := true }, kinds := [], alts := [], laidByText := true, laidKinds := [.data], laidTests := true, laidLooks := .later }
def MetaFirstUptoCardSaid : Prop := Claim7.holds Tryd.pinned (.plain (OpenSpec.upto metaFirstSpec)) metaFirstUptoCard
end Rows
end Go.Proofs.YtaijjlaheoamaaaDoor

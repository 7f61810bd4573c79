/-
  DERIVED. GIVEN WITH THE SEED: THE CARDS: each row of YtplmflagffloeaaDoorRows.lean that lists a variable, with what it lists TIED to the program's text (the seventh form; the later family's looks); each row that meets fmt, with fmt's text TOLD by the authors' own Lean function (tested against real Go, not proved from fmt's source: count such statements apart). THE CARD IS WHAT COUNTS. Prove the row's statement (the work); the ties are given (YtplmflagffloeaaDoorTie.lean); close each card by the builder's one call (the guide's Derived/Test/ToyasCard.lean, 'card_holds'). Laid BY PROGRAM, IN A SANDBOX (cutbox-door.mjs). By AI agents, Wed Nov 11 2026. No macro, syntax, notation, axiom, sorry.
-/
import Derived.Test.YtplmflagffloeaaDoorRows
import GoSem.ClaimSeven
namespace Go.Proofs.YtplmflagffloeaaDoor
namespace Rows

/-- THE TIED CARD OF 'glacierlaw09.TermBack'. -/
def termBackCard : Claim7 := { stood := { row := termBackRow, standIns := [], harness := (true, "8c337780e5920ae9d858595e9bfa57d51b899c34e55642b04a54c9f8b57b8d1a"), looks := false }, kinds := [], alts := [], laidByText := true, laidKinds := [.data], laidTests := true, laidLooks := .later }
def TermBackCardSaid : Prop := Claim7.holds Tryd.pinned (.plain (OpenSpec.ofChange termBackSpec)) termBackCard

/-- THE TIED CARD OF 'glacierlaw09.TermOld'. -/
def termOldCard : Claim7 := { stood := { row := termOldRow, standIns := [], harness := (true, "8c337780e5920ae9d858595e9bfa57d51b899c34e55642b04a54c9f8b57b8d1a"), looks := false }, kinds := [], alts := [], laidByText := true, laidKinds := [.data], laidTests := true, laidLooks := .later }
def TermOldCardSaid : Prop := Claim7.holds Tryd.pinned (.plain (OpenSpec.ofChange termOldSpec)) termOldCard

/-- THE TIED CARD OF 'glacierlaw09.TermParts'. -/
def termPartsCard : Claim7 := { stood := { row := termPartsRow, standIns := [], harness := (true, "8c337780e5920ae9d858595e9bfa57d51b899c34e55642b04a54c9f8b57b8d1a"), looks := false }, kinds := [], alts := [], laidByText := true, laidKinds := [.data], laidTests := true, laidLooks := .later }
def TermPartsCardSaid : Prop := Claim7.holds Tryd.pinned (.plain (OpenSpec.ofChange termPartsSpec)) termPartsCard

/-- THE TIED CARD OF 'glacierlaw09.TermVotes'. -/
def termVotesCard : Claim7 := { stood := { row := termVotesRow, standIns := [], harness := (true, "8c337780e5920ae9d858595e9bfa57d51b899c34e55642b04a54c9f8b57b8d1a"), looks := false }, kinds := [], alts := [], laidByText := true, laidKinds := [.data], laidTests := true, laidLooks := .later }
def TermVotesCardSaid : Prop := Claim7.holds Tryd.pinned (.plain (OpenSpec.ofChange termVotesSpec)) termVotesCard

/-- THE SECOND FORM's CARD OF 'glacierlaw09.TermBack'. -/
def termBackUptoCard : Claim7 := { stood := { row := termBackUptoRow, standIns := [], harness := (true, "8c337780e5920ae9d858595e9bfa57d51b899c34e55642b04a54c9f8b57b8d1a"), looks := false }, kinds := [], alts := [], laidByText := true, laidKinds := [.data], laidTests := true, laidLooks := .later }
def TermBackUptoCardSaid : Prop := Claim7.holds Tryd.pinned (.plain (OpenSpec.upto termBackSpec)) termBackUptoCard

/-- THE SECOND FORM's CARD OF 'glacierlaw09.TermOld'. -/
def termOldUptoCard : Claim7 := { stood := { row := termOldUptoRow, standIns := [], harness := (true, "8c337780e5920ae9d858595e9bfa57d51b899c34e55642b04a54c9f8b57b8d1a"), looks := false }, kinds := [], alts := [], laidByText := true, laidKinds := [.data], laidTests := true, laidLooks := .later }
def TermOldUptoCardSaid : Prop := Claim7.holds Tryd.pinned (.plain (OpenSpec.upto termOldSpec)) termOldUptoCard

/-- THE SECOND FORM's CARD OF 'glacierlaw09.TermParts'. -/
def termPartsUptoCard : Claim7 := { stood := { row := termPartsUptoRow, standIns := [], harness := (true, "8c337780e5920ae9d858595e9bfa57d51b899c34e55642b04a54c9f8b57b8d1a"), looks := false }, kinds := [], alts := [], laidByText := true, laidKinds := [.data], laidTests := true, laidLooks := .later }
def TermPartsUptoCardSaid : Prop := Claim7.holds Tryd.pinned (.plain (OpenSpec.upto termPartsSpec)) termPartsUptoCard

/-- THE SECOND FORM's CARD OF 'glacierlaw09.TermVotes'. -/
def termVotesUptoCard : Claim7 := { stood := { row := termVotesUptoRow, standIns := [], harness := (true, "8c337780e5920ae9d858595e9bfa57d51b899c34e55642b04a54c9f8b57b8d1a"), looks := false }, kinds := [], alts := [], laidByText := true, laidKinds := [.data], laidTests := true, laidLooks := .later }
def TermVotesUptoCardSaid : Prop := Claim7.holds Tryd.pinned (.plain (OpenSpec.upto termVotesSpec)) termVotesUptoCard
end Rows
end Go.Proofs.YtplmflagffloeaaDoor

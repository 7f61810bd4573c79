/-
  DERIVED. GIVEN WITH THE SEED: THE CARDS: each row of YtniecodpdmjppaaDoorRows.lean that lists a variable, with what it lists TIED to the program's text (the seventh form; the later family's looks); each row that meets fmt, with fmt's text TOLD by the authors' own Lean function (tested against real Go, not proved from fmt's source: count such statements apart). THE CARD IS WHAT COUNTS. Prove the row's statement (the work); the ties are given (YtniecodpdmjppaaDoorTie.lean); close each card by the builder's one call (the guide's Derived/Test/ToyasCard.lean, 'card_holds'). Laid BY PROGRAM, IN A SANDBOX (cutbox-door.mjs). By AI agents, Wed Nov 11 2026. No macro, syntax, notation, axiom, sorry.
-/
import Derived.Test.YtniecodpdmjppaaDoorRows
import GoSem.ClaimSeven
namespace Go.Proofs.YtniecodpdmjppaaDoor
namespace Rows

/-- THE TIED CARD OF 'glacierlaw08.LibraryBlobs'. -/
def libraryBlobsCard : Claim7 := { stood := { row := libraryBlobsRow, standIns := [], harness := (true, "3ced94df42090d9f4d119f1912643e9648089eab4f01aa0b16506d060e10da10"), looks := false }, kinds := [], alts := [], laidByText := true, laidKinds := [.data], laidTests := true, laidLooks := .later }
def LibraryBlobsCardSaid : Prop := Claim7.holds Tryd.pinned (.plain (OpenSpec.ofChange libraryBlobsSpec)) libraryBlobsCard

/-- THE TIED CARD OF 'glacierlaw08.LibraryErased'. -/
def libraryErasedCard : Claim7 := { stood := { row := libraryErasedRow, standIns := [], harness := (true, "3ced94df42090d9f4d119f1912643e9648089eab4f01aa0b16506d060e10da10"), looks := false }, kinds := [], alts := [], laidByText := true, laidKinds := [.data], laidTests := true, laidLooks := .later }
def LibraryErasedCardSaid : Prop := Claim7.holds Tryd.pinned (.plain (OpenSpec.ofChange libraryErasedSpec)) libraryErasedCard

/-- THE SECOND FORM's CARD OF 'glacierlaw08.LibraryBlobs'. -/
def libraryBlobsUptoCard : Claim7 := { stood := { row := libraryBlobsUptoRow, standIns := [], harness := (true, "3ced94df42090d9f4d119f1912643e9648089eab4f01aa0b16506d060e10da10"), looks := false }, kinds := [], alts := [], laidByText := true, laidKinds := [.data], laidTests := true, laidLooks := .later }
def LibraryBlobsUptoCardSaid : Prop := Claim7.holds Tryd.pinned (.plain (OpenSpec.upto libraryBlobsSpec)) libraryBlobsUptoCard

/-- THE SECOND FORM's CARD OF 'glacierlaw08.LibraryErased'. -/
def libraryErasedUptoCard : Claim7 := { stood := { row := libraryErasedUptoRow, standIns := [], harness := (true, "3ced94df42090d9f4d119f1912643e9648089eab4f01aa0b16506d060e10da10"), looks := false }, kinds := [], alts := [], laidByText := true, laidKinds := [.data], laidTests := true, laidLooks := .later }
def LibraryErasedUptoCardSaid : Prop := Claim7.holds Tryd.pinned (.plain (OpenSpec.upto libraryErasedSpec)) libraryErasedUptoCard
end Rows
end Go.Proofs.YtniecodpdmjppaaDoor

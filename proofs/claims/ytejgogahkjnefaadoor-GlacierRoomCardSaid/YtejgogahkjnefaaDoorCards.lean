/-
  DERIVED. GIVEN WITH THE SEED: THE CARDS: each row of YtejgogahkjnefaaDoorRows.lean that lists a variable, with what it lists TIED to the program's text (the seventh form; the later family's looks); each row that meets fmt, with fmt's text TOLD by the authors' own Lean function (tested against real Go, not proved from fmt's source: count such statements apart). THE CARD IS WHAT COUNTS. Prove the row's statement (the work); the ties are given (YtejgogahkjnefaaDoorTie.lean); close each card by the builder's one call (the guide's Derived/Test/ToyasCard.lean, 'card_holds'). Laid BY PROGRAM, IN A SANDBOX (cutbox-door.mjs). By AI agents, Wed Nov 11 2026. No macro, syntax, notation, axiom, sorry.
-/
import Derived.Test.YtejgogahkjnefaaDoorRows
import GoSem.ClaimSeven
namespace Go.Proofs.YtejgogahkjnefaaDoor
namespace Rows

/-- THE TIED CARD OF 'glacierlaw07.TapefmtTorn'. -/
def tapefmtTornCard : Claim7 := { stood := { row := tapefmtTornRow, standIns := [], harness := (true, "70b7c0b5011de30ee96bd5f31663e4514d45b9df2042311254d29063014223fa"), looks := false }, kinds := [], alts := [], laidByText := true, laidKinds := [.data], laidTests := true, laidLooks := .later }
def TapefmtTornCardSaid : Prop := Claim7.holds Tryd.pinned (.plain (OpenSpec.ofChange tapefmtTornSpec)) tapefmtTornCard

/-- THE TIED CARD OF 'glacierlaw08.LibraryBlobs'. -/
def libraryBlobsCard : Claim7 := { stood := { row := libraryBlobsRow, standIns := [], harness := (true, "70b7c0b5011de30ee96bd5f31663e4514d45b9df2042311254d29063014223fa"), looks := false }, kinds := [], alts := [], laidByText := true, laidKinds := [.data], laidTests := true, laidLooks := .later }
def LibraryBlobsCardSaid : Prop := Claim7.holds Tryd.pinned (.plain (OpenSpec.ofChange libraryBlobsSpec)) libraryBlobsCard

/-- THE TIED CARD OF 'glacierlaw08.LibraryErased'. -/
def libraryErasedCard : Claim7 := { stood := { row := libraryErasedRow, standIns := [], harness := (true, "70b7c0b5011de30ee96bd5f31663e4514d45b9df2042311254d29063014223fa"), looks := false }, kinds := [], alts := [], laidByText := true, laidKinds := [.data], laidTests := true, laidLooks := .later }
def LibraryErasedCardSaid : Prop := Claim7.holds Tryd.pinned (.plain (OpenSpec.ofChange libraryErasedSpec)) libraryErasedCard

/-- THE TIED CARD OF 'glaciertop.GlacierRoom'. -/
def glacierRoomCard : Claim7 := { stood := { row := glacierRoomRow, standIns := [], harness := (true, "70b7c0b5011de30ee96bd5f31663e4514d45b9df2042311254d29063014223fa"), looks := false }, kinds := [], alts := [], laidByText := true, laidKinds := [.data, .data, .data, .data], laidTests := true, laidLooks := .later }
def GlacierRoomCardSaid : Prop := Claim7.holds Tryd.pinned (.plain (OpenSpec.ofChange glacierRoomSpec)) glacierRoomCard

/-- THE SECOND FORM's CARD OF 'glacierlaw07.TapefmtTorn'. -/
def tapefmtTornUptoCard : Claim7 := { stood := { row := tapefmtTornUptoRow, standIns := [], harness := (true, "70b7c0b5011de30ee96bd5f31663e4514d45b9df2042311254d29063014223fa"), looks := false }, kinds := [], alts := [], laidByText := true, laidKinds := [.data], laidTests := true, laidLooks := .later }
def TapefmtTornUptoCardSaid : Prop := Claim7.holds Tryd.pinned (.plain (OpenSpec.upto tapefmtTornSpec)) tapefmtTornUptoCard

/-- THE SECOND FORM's CARD OF 'glacierlaw08.LibraryBlobs'. -/
def libraryBlobsUptoCard : Claim7 := { stood := { row := libraryBlobsUptoRow, standIns := [], harness := (true, "70b7c0b5011de30ee96bd5f31663e4514d45b9df2042311254d29063014223fa"), looks := false }, kinds := [], alts := [], laidByText := true, laidKinds := [.data], laidTests := true, laidLooks := .later }
def LibraryBlobsUptoCardSaid : Prop := Claim7.holds Tryd.pinned (.plain (OpenSpec.upto libraryBlobsSpec)) libraryBlobsUptoCard

/-- THE SECOND FORM's CARD OF 'glacierlaw08.LibraryErased'. -/
def libraryErasedUptoCard : Claim7 := { stood := { row := libraryErasedUptoRow, standIns := [], harness := (true, "70b7c0b5011de30ee96bd5f31663e4514d45b9df2042311254d29063014223fa"), looks := false }, kinds := [], alts := [], laidByText := true, laidKinds := [.data], laidTests := true, laidLooks := .later }
def LibraryErasedUptoCardSaid : Prop := Claim7.holds Tryd.pinned (.plain (OpenSpec.upto libraryErasedSpec)) libraryErasedUptoCard

/-- THE SECOND FORM's CARD OF 'glaciertop.GlacierRoom'. -/
def glacierRoomUptoCard : Claim7 := { stood := { row := glacierRoomUptoRow, standIns := [], harness := (true, "70b7c0b5011de30ee96bd5f31663e4514d45b9df2042311254d29063014223fa"), looks := false }, kinds := [], alts := [], laidByText := true, laidKinds := [.data, .data, .data, .data], laidTests := true, laidLooks := .later }
def GlacierRoomUptoCardSaid : Prop := Claim7.holds Tryd.pinned (.plain (OpenSpec.upto glacierRoomSpec)) glacierRoomUptoCard
end Rows
end Go.Proofs.YtejgogahkjnefaaDoor

/-
  DERIVED. GIVEN WITH THE SEED: THE CARDS: each row of YtpjllcengnolkaaGreatDoorRows.lean that lists a variable, with what it lists TIED to the program's text (the seventh form; the later family's looks); each row that meets fmt, with fmt's text TOLD by the authors' own Lean function (tested against real Go, not proved from fmt's source: count such statements apart). THE CARD IS WHAT COUNTS. Prove the row's statement (the work); the ties are given (YtpjllcengnolkaaGreatDoorTie.lean); close each card by the builder's one call (the guide's Derived/Test/ToyasCard.lean, 'card_holds'). Laid BY PROGRAM, IN A SANDBOX (cutbox-door.mjs). By AI agents, Wed Nov 11 2026. No macro, syntax, notation, axiom, sorry.
-/
import Derived.Test.YtpjllcengnolkaaGreatDoorRows
import GoSem.ClaimSeven
namespace Go.Proofs.YtpjllcengnolkaaGreatDoor
namespace Rows

/-- THE TIED CARD OF 'bolterlaw07.ReaderMay'. -/
def readerMayCard : Claim7 := { stood := { row := readerMayRow, standIns := [], harness := (true, "fef10d1093feff337912687e3ba751afac7a3ceb9845ad763df1e041cf582739"), looks := true }, kinds := [], alts := [], laidByText := true, laidKinds := [.data, .pinned], laidTests := true, laidLooks := .later }
def ReaderMayCardSaid : Prop := Claim7.holds Tryz.pinned (.plain (OpenSpec.ofChange readerMaySpec)) readerMayCard

/-- THE TIED CARD OF 'bolterlaw07.ReaderAhead'. -/
def readerAheadCard : Claim7 := { stood := { row := readerAheadRow, standIns := [], harness := (true, "fef10d1093feff337912687e3ba751afac7a3ceb9845ad763df1e041cf582739"), looks := true }, kinds := [], alts := [], laidByText := true, laidKinds := [.data, .pinned], laidTests := true, laidLooks := .later }
def ReaderAheadCardSaid : Prop := Claim7.holds Tryz.pinned (.plain (OpenSpec.ofChange readerAheadSpec)) readerAheadCard

/-- THE TIED CARD OF 'bolterlaw07.ReaderShort'. -/
def readerShortCard : Claim7 := { stood := { row := readerShortRow, standIns := [], harness := (true, "fef10d1093feff337912687e3ba751afac7a3ceb9845ad763df1e041cf582739"), looks := true }, kinds := [], alts := [], laidByText := true, laidKinds := [.data, .pinned], laidTests := true, laidLooks := .later }
def ReaderShortCardSaid : Prop := Claim7.holds Tryz.pinned (.plain (OpenSpec.ofChange readerShortSpec)) readerShortCard

/-- THE TIED CARD OF 'bolterlaw07.ReaderSpaces'. -/
def readerSpacesCard : Claim7 := { stood := { row := readerSpacesRow, standIns := [], harness := (true, "fef10d1093feff337912687e3ba751afac7a3ceb9845ad763df1e041cf582739"), looks := true }, kinds := [], alts := [], laidByText := true, laidKinds := [.data, .pinned], laidTests := true, laidLooks := .later }
def ReaderSpacesCardSaid : Prop := Claim7.holds Tryz.pinned (.plain (OpenSpec.ofChange readerSpacesSpec)) readerSpacesCard

/-- THE SECOND FORM's CARD OF 'bolterlaw07.ReaderMay'. -/
def readerMayUptoCard : Claim7 := { stood := { row := readerMayUptoRow, standIns := [], harness := (true, "fef10d1093feff337912687e3ba751afac7a3ceb9845ad763df1e041cf582739"), looks := true }, kinds := [], alts := [], laidByText := true, laidKinds := [.data, .pinned], laidTests := true, laidLooks := .later }
def ReaderMayUptoCardSaid : Prop := Claim7.holds Tryz.pinned (.plain (OpenSpec.upto readerMaySpec)) readerMayUptoCard

/-- THE SECOND FORM's CARD OF 'bolterlaw07.ReaderAhead'. -/
def readerAheadUptoCard : Claim7 := { stood := { row := readerAheadUptoRow, standIns := [], harness := (true, "fef10d1093feff337912687e3ba751afac7a3ceb9845ad763df1e041cf582739"), looks := true }, kinds := [], alts := [], laidByText := true, laidKinds := [.data, .pinned], laidTests := true, laidLooks := .later }
def ReaderAheadUptoCardSaid : Prop := Claim7.holds Tryz.pinned (.plain (OpenSpec.upto readerAheadSpec)) readerAheadUptoCard

/-- THE SECOND FORM's CARD OF 'bolterlaw07.ReaderShort'. -/
def readerShortUptoCard : Claim7 := { stood := { row := readerShortUptoRow, standIns := [], harness := (true, "fef10d1093feff337912687e3ba751afac7a3ceb9845ad763df1e041cf582739"), looks := true }, kinds := [], alts := [], laidByText := true, laidKinds := [.data, .pinned], laidTests := true, laidLooks := .later }
def ReaderShortUptoCardSaid : Prop := Claim7.holds Tryz.pinned (.plain (OpenSpec.upto readerShortSpec)) readerShortUptoCard

/-- THE SECOND FORM's CARD OF 'bolterlaw07.ReaderSpaces'. -/
def readerSpacesUptoCard : Claim7 := { stood := { row := readerSpacesUptoRow, standIns := [], harness := (true, "fef10d1093feff337912687e3ba751afac7a3ceb9845ad763df1e041cf582739"), looks := true }, kinds := [], alts := [], laidByText := true, laidKinds := [.data, .pinned], laidTests := true, laidLooks := .later }
def ReaderSpacesUptoCardSaid : Prop := Claim7.holds Tryz.pinned (.plain (OpenSpec.upto readerSpacesSpec)) readerSpacesUptoCard
end Rows
end Go.Proofs.YtpjllcengnolkaaGreatDoor

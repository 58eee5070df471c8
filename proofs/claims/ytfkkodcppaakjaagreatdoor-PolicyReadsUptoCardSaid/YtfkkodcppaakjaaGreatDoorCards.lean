/-
  DERIVED. GIVEN WITH THE SEED: THE CARDS: each row of YtfkkodcppaakjaaGreatDoorRows.lean that lists a variable, with what it lists TIED to the program's text (the seventh form; the later family's looks); each row that meets fmt, with fmt's text TOLD by the authors' own Lean function (tested against real Go, not proved from fmt's source: count such statements apart). THE CARD IS WHAT COUNTS. Prove the row's statement (the work); the ties are given (YtfkkodcppaakjaaGreatDoorTie.lean); close each card by the builder's one call (the guide's Derived/Test/ToyasCard.lean, 'card_holds'). Laid BY PROGRAM, IN A SANDBOX (cutbox-door.mjs). By AI agents, Wed Nov 11 2026. No macro, syntax, notation, axiom, sorry.
-/
import Derived.Test.YtfkkodcppaakjaaGreatDoorRows
import GoSem.ClaimSeven
namespace Go.Proofs.YtfkkodcppaakjaaGreatDoor
namespace Rows

/-- THE TIED CARD OF 'scrimlaw03.PolicyReads'. -/
def policyReadsCard : Claim7 := { stood := { row := policyReadsRow, standIns := [], harness := (true, "a8581aa30c8dc48fcf1449f8fc12c03919fa969fc1b0ee0924d6a860ceca7b62"), looks := true }, kinds := [], alts := [], laidByText := true, laidKinds := [.data, .data, .data, .data, .sentinel, .sentinel, .pinned], laidTests := true, laidLooks := .later }
def PolicyReadsCardSaid : Prop := Claim7.holds Tryz.pinned (.plain (OpenSpec.ofChange policyReadsSpec)) policyReadsCard

/-- THE TIED CARD OF 'scrimlaw05.DocNames'. -/
def docNamesCard : Claim7 := { stood := { row := docNamesRow, standIns := [], harness := (true, "a8581aa30c8dc48fcf1449f8fc12c03919fa969fc1b0ee0924d6a860ceca7b62"), looks := true }, kinds := [], alts := [], laidByText := true, laidKinds := [.data, .data, .data, .data, .sentinel, .sentinel, .pinned], laidTests := true, laidLooks := .later }
def DocNamesCardSaid : Prop := Claim7.holds Tryz.pinned (.plain (OpenSpec.ofChange docNamesSpec)) docNamesCard

/-- THE TIED CARD OF 'scrimlaw05.DocPlays'. -/
def docPlaysCard : Claim7 := { stood := { row := docPlaysRow, standIns := [], harness := (true, "a8581aa30c8dc48fcf1449f8fc12c03919fa969fc1b0ee0924d6a860ceca7b62"), looks := true }, kinds := [], alts := [], laidByText := true, laidKinds := [.data, .data, .data], laidTests := true, laidLooks := .later }
def DocPlaysCardSaid : Prop := Claim7.holds Tryz.pinned (.plain (OpenSpec.ofChange docPlaysSpec)) docPlaysCard

/-- THE TIED CARD OF 'scrimlaw05.DocReads'. -/
def docReadsCard : Claim7 := { stood := { row := docReadsRow, standIns := [], harness := (true, "a8581aa30c8dc48fcf1449f8fc12c03919fa969fc1b0ee0924d6a860ceca7b62"), looks := true }, kinds := [], alts := [], laidByText := true, laidKinds := [.data, .data, .data, .data, .sentinel, .sentinel, .pinned], laidTests := true, laidLooks := .later }
def DocReadsCardSaid : Prop := Claim7.holds Tryz.pinned (.plain (OpenSpec.ofChange docReadsSpec)) docReadsCard

/-- THE TIED CARD OF 'scrimlaw05.DocBack'. -/
def docBackCard : Claim7 := { stood := { row := docBackRow, standIns := [], harness := (true, "a8581aa30c8dc48fcf1449f8fc12c03919fa969fc1b0ee0924d6a860ceca7b62"), looks := true }, kinds := [], alts := [], laidByText := true, laidKinds := [.data, .data, .data, .data, .sentinel, .sentinel, .pinned], laidTests := true, laidLooks := .later }
def DocBackCardSaid : Prop := Claim7.holds Tryz.pinned (.plain (OpenSpec.ofChange docBackSpec)) docBackCard

/-- THE TIED CARD OF 'scrimlaw05.DocOthers'. -/
def docOthersCard : Claim7 := { stood := { row := docOthersRow, standIns := [], harness := (true, "a8581aa30c8dc48fcf1449f8fc12c03919fa969fc1b0ee0924d6a860ceca7b62"), looks := true }, kinds := [], alts := [], laidByText := true, laidKinds := [.data, .data, .data, .data, .sentinel, .sentinel, .pinned], laidTests := true, laidLooks := .later }
def DocOthersCardSaid : Prop := Claim7.holds Tryz.pinned (.plain (OpenSpec.ofChange docOthersSpec)) docOthersCard

/-- THE SECOND FORM's CARD OF 'scrimlaw03.PolicyReads'. -/
def policyReadsUptoCard : Claim7 := { stood := { row := policyReadsUptoRow, standIns := [], harness := (true, "a8581aa30c8dc48fcf1449f8fc12c03919fa969fc1b0ee0924d6a860ceca7b62"), looks := true }, kinds := [], alts := [], laidByText := true, laidKinds := [.data, .data, .data, .data, .sentinel, .sentinel, .pinned], laidTests := true, laidLooks := .later }
def PolicyReadsUptoCardSaid : Prop := Claim7.holds Tryz.pinned (.plain (OpenSpec.upto policyReadsSpec)) policyReadsUptoCard

/-- THE SECOND FORM's CARD OF 'scrimlaw05.DocNames'. -/
def docNamesUptoCard : Claim7 := { stood := { row := docNamesUptoRow, standIns := [], harness := (true, "a8581aa30c8dc48fcf1449f8fc12c03919fa969fc1b0ee0924d6a860ceca7b62"), looks := true }, kinds := [], alts := [], laidByText := true, laidKinds := [.data, .data, .data, .data, .sentinel, .sentinel, .pinned], laidTests := true, laidLooks := .later }
def DocNamesUptoCardSaid : Prop := Claim7.holds Tryz.pinned (.plain (OpenSpec.upto docNamesSpec)) docNamesUptoCard

/-- THE SECOND FORM's CARD OF 'scrimlaw05.DocPlays'. -/
def docPlaysUptoCard : Claim7 := { stood := { row := docPlaysUptoRow, standIns := [], harness := (true, "a8581aa30c8dc48fcf1449f8fc12c03919fa969fc1b0ee0924d6a860ceca7b62"), looks := true }, kinds := [], alts := [], laidByText := true, laidKinds := [.data, .data, .data], laidTests := true, laidLooks := .later }
def DocPlaysUptoCardSaid : Prop := Claim7.holds Tryz.pinned (.plain (OpenSpec.upto docPlaysSpec)) docPlaysUptoCard

/-- THE SECOND FORM's CARD OF 'scrimlaw05.DocReads'. -/
def docReadsUptoCard : Claim7 := { stood := { row := docReadsUptoRow, standIns := [], harness := (true, "a8581aa30c8dc48fcf1449f8fc12c03919fa969fc1b0ee0924d6a860ceca7b62"), looks := true }, kinds := [], alts := [], laidByText := true, laidKinds := [.data, .data, .data, .data, .sentinel, .sentinel, .pinned], laidTests := true, laidLooks := .later }
def DocReadsUptoCardSaid : Prop := Claim7.holds Tryz.pinned (.plain (OpenSpec.upto docReadsSpec)) docReadsUptoCard

/-- THE SECOND FORM's CARD OF 'scrimlaw05.DocBack'. -/
def docBackUptoCard : Claim7 := { stood := { row := docBackUptoRow, standIns := [], harness := (true, "a8581aa30c8dc48fcf1449f8fc12c03919fa969fc1b0ee0924d6a860ceca7b62"), looks := true }, kinds := [], alts := [], laidByText := true, laidKinds := [.data, .data, .data, .data, .sentinel, .sentinel, .pinned], laidTests := true, laidLooks := .later }
def DocBackUptoCardSaid : Prop := Claim7.holds Tryz.pinned (.plain (OpenSpec.upto docBackSpec)) docBackUptoCard

/-- THE SECOND FORM's CARD OF 'scrimlaw05.DocOthers'. -/
def docOthersUptoCard : Claim7 := { stood := { row := docOthersUptoRow, standIns := [], harness := (true, "a8581aa30c8dc48fcf1449f8fc12c03919fa969fc1b0ee0924d6a860ceca7b62"), looks := true }, kinds := [], alts := [], laidByText := true, laidKinds := [.data, .data, .data, .data, .sentinel, .sentinel, .pinned], laidTests := true, laidLooks := .later }
def DocOthersUptoCardSaid : Prop := Claim7.holds Tryz.pinned (.plain (OpenSpec.upto docOthersSpec)) docOthersUptoCard
end Rows
end Go.Proofs.YtfkkodcppaakjaaGreatDoor

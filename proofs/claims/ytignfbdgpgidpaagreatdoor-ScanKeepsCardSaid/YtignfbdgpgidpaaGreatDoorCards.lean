/-
  DERIVED. GIVEN WITH THE SEED: THE CARDS: each row of YtignfbdgpgidpaaGreatDoorRows.lean that lists a variable, with what it lists TIED to the program's text (the seventh form; the later family's looks); each row that meets fmt, with fmt's text TOLD by the authors' own Lean function (tested against real Go, not proved from fmt's source: count such statements apart). THE CARD IS WHAT COUNTS. Prove the row's statement (the work); the ties are given (YtignfbdgpgidpaaGreatDoorTie.lean); close each card by the builder's one call (the guide's Derived/Test/ToyasCard.lean, 'card_holds'). Laid BY PROGRAM, IN A SANDBOX (cutbox-door.mjs). By AI agents, Wed Nov 11 2026. No macro, syntax, notation, axiom, sorry.
-/
import Derived.Test.YtignfbdgpgidpaaGreatDoorRows
import GoSem.ClaimSeven
namespace Go.Proofs.YtignfbdgpgidpaaGreatDoor
namespace Rows

/-- THE TIED CARD OF 'chainmanlaw22.ScanSweeps'. -/
def scanSweepsCard : Claim7 := { stood := { row := scanSweepsRow, standIns := [], harness := (true, "5cd68afcb9ed6da0acd7bbebbf77a50a3cf06ce5e33d9c2beb645bca1aa7441b"), looks := false }, kinds := [], alts := [], laidByText := true, laidKinds := [.data, .data, .data], laidTests := true, laidLooks := .later }
def ScanSweepsCardSaid : Prop := Claim7.holds Tryz.pinned (.plain (OpenSpec.ofChange scanSweepsSpec)) scanSweepsCard

/-- THE TIED CARD OF 'chainmanlaw22.ScanKeeps'. -/
def scanKeepsCard : Claim7 := { stood := { row := scanKeepsRow, standIns := [], harness := (true, "5cd68afcb9ed6da0acd7bbebbf77a50a3cf06ce5e33d9c2beb645bca1aa7441b"), looks := false }, kinds := [], alts := [], laidByText := true, laidKinds := [.data, .data, .data], laidTests := true, laidLooks := .later }
def ScanKeepsCardSaid : Prop := Claim7.holds Tryz.pinned (.plain (OpenSpec.ofChange scanKeepsSpec)) scanKeepsCard

/-- THE TIED CARD OF 'chainmanlaw22.ScanWhole'. -/
def scanWholeCard : Claim7 := { stood := { row := scanWholeRow, standIns := [], harness := (true, "5cd68afcb9ed6da0acd7bbebbf77a50a3cf06ce5e33d9c2beb645bca1aa7441b"), looks := false }, kinds := [], alts := [], laidByText := true, laidKinds := [.data, .data, .data], laidTests := true, laidLooks := .later }
def ScanWholeCardSaid : Prop := Claim7.holds Tryz.pinned (.plain (OpenSpec.ofChange scanWholeSpec)) scanWholeCard

/-- THE SECOND FORM's CARD OF 'chainmanlaw22.ScanSweeps'. -/
def scanSweepsUptoCard : Claim7 := { stood := { row := scanSweepsUptoRow, standIns := [], harness := (true, "5cd68afcb9ed6da0acd7bbebbf77a50a3cf06ce5e33d9c2beb645bca1aa7441b"), looks := false }, kinds := [], alts := [], laidByText := true, laidKinds := [.data, .data, .data], laidTests := true, laidLooks := .later }
def ScanSweepsUptoCardSaid : Prop := Claim7.holds Tryz.pinned (.plain (OpenSpec.upto scanSweepsSpec)) scanSweepsUptoCard

/-- THE SECOND FORM's CARD OF 'chainmanlaw22.ScanKeeps'. -/
def scanKeepsUptoCard : Claim7 := { stood := { row := scanKeepsUptoRow, standIns := [], harness := (true, "5cd68afcb9ed6da0acd7bbebbf77a50a3cf06ce5e33d9c2beb645bca1aa7441b"), looks := false }, kinds := [], alts := [], laidByText := true, laidKinds := [.data, .data, .data], laidTests := true, laidLooks := .later }
def ScanKeepsUptoCardSaid : Prop := Claim7.holds Tryz.pinned (.plain (OpenSpec.upto scanKeepsSpec)) scanKeepsUptoCard

/-- THE SECOND FORM's CARD OF 'chainmanlaw22.ScanWhole'. -/
def scanWholeUptoCard : Claim7 := { stood := { row := scanWholeUptoRow, standIns := [], harness := (true, "5cd68afcb9ed6da0acd7bbebbf77a50a3cf06ce5e33d9c2beb645bca1aa7441b"), looks := false }, kinds := [], alts := [], laidByText := true, laidKinds := [.data, .data, .data], laidTests := true, laidLooks := .later }
def ScanWholeUptoCardSaid : Prop := Claim7.holds Tryz.pinned (.plain (OpenSpec.upto scanWholeSpec)) scanWholeUptoCard
end Rows
end Go.Proofs.YtignfbdgpgidpaaGreatDoor

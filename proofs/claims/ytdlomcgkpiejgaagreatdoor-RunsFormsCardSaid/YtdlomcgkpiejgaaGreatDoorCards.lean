/-
  DERIVED. GIVEN WITH THE SEED: THE CARDS: each row of YtdlomcgkpiejgaaGreatDoorRows.lean that lists a variable, with what it lists TIED to the program's text (the seventh form; the later family's looks); each row that meets fmt, with fmt's text TOLD by the authors' own Lean function (tested against real Go, not proved from fmt's source: count such statements apart). THE CARD IS WHAT COUNTS. Prove the row's statement (the work); the ties are given (YtdlomcgkpiejgaaGreatDoorTie.lean); close each card by the builder's one call (the guide's Derived/Test/ToyasCard.lean, 'card_holds'). Laid BY PROGRAM, IN A SANDBOX (cutbox-door.mjs). By AI agents, Wed Nov 11 2026. No macro, syntax, notation, axiom, sorry.
-/
import Derived.Test.YtdlomcgkpiejgaaGreatDoorRows
import GoSem.ClaimSeven
namespace Go.Proofs.YtdlomcgkpiejgaaGreatDoor
namespace Rows

/-- THE TIED CARD OF 'chainmanlaw16.RunsForms'. -/
def runsFormsCard : Claim7 := { stood := { row := runsFormsRow, standIns := [], harness := (true, "ce3aa0357e1792e79562c643a08077147cbc1edb575011b4bc61b15678bd6074"), looks := false }, kinds := [], alts := [], laidByText := true, laidKinds := [.data, .data, .data], laidTests := true, laidLooks := .later }
def RunsFormsCardSaid : Prop := Claim7.holds Tryz.pinned (.plain (OpenSpec.ofChange runsFormsSpec)) runsFormsCard

/-- THE TIED CARD OF 'chainmanlaw16.RunsFails'. -/
def runsFailsCard : Claim7 := { stood := { row := runsFailsRow, standIns := [], harness := (true, "ce3aa0357e1792e79562c643a08077147cbc1edb575011b4bc61b15678bd6074"), looks := false }, kinds := [], alts := [], laidByText := true, laidKinds := [.data, .data, .data], laidTests := true, laidLooks := .later }
def RunsFailsCardSaid : Prop := Claim7.holds Tryz.pinned (.plain (OpenSpec.ofChange runsFailsSpec)) runsFailsCard

/-- THE SECOND FORM's CARD OF 'chainmanlaw16.RunsForms'. -/
def runsFormsUptoCard : Claim7 := { stood := { row := runsFormsUptoRow, standIns := [], harness := (true, "ce3aa0357e1792e79562c643a08077147cbc1edb575011b4bc61b15678bd6074"), looks := false }, kinds := [], alts := [], laidByText := true, laidKinds := [.data, .data, .data], laidTests := true, laidLooks := .later }
def RunsFormsUptoCardSaid : Prop := Claim7.holds Tryz.pinned (.plain (OpenSpec.upto runsFormsSpec)) runsFormsUptoCard

/-- THE SECOND FORM's CARD OF 'chainmanlaw16.RunsFails'. -/
def runsFailsUptoCard : Claim7 := { stood := { row := runsFailsUptoRow, standIns := [], harness := (true, "ce3aa0357e1792e79562c643a08077147cbc1edb575011b4bc61b15678bd6074"), looks := false }, kinds := [], alts := [], laidByText := true, laidKinds := [.data, .data, .data], laidTests := true, laidLooks := .later }
def RunsFailsUptoCardSaid : Prop := Claim7.holds Tryz.pinned (.plain (OpenSpec.upto runsFailsSpec)) runsFailsUptoCard
end Rows
end Go.Proofs.YtdlomcgkpiejgaaGreatDoor

/-
  DERIVED. GIVEN WITH THE SEED: THE CARDS: each row of YtjplkmmhjfpdaaaGreatDoorRows.lean that lists a variable, with what it lists TIED to the program's text (the seventh form; the later family's looks); each row that meets fmt, with fmt's text TOLD by the authors' own Lean function (tested against real Go, not proved from fmt's source: count such statements apart). THE CARD IS WHAT COUNTS. Prove the row's statement (the work); the ties are given (YtjplkmmhjfpdaaaGreatDoorTie.lean); close each card by the builder's one call (the guide's Derived/Test/ToyasCard.lean, 'card_holds'). Laid BY PROGRAM, IN A SANDBOX (cutbox-door.mjs). By AI agents, Wed Nov 11 2026. No macro, syntax, notation, axiom, sorry.
-/
import Derived.Test.YtjplkmmhjfpdaaaGreatDoorRows
import GoSem.ClaimSeven
namespace Go.Proofs.YtjplkmmhjfpdaaaGreatDoor
namespace Rows

/-- THE TIED CARD OF 'chainmanlaw18.XsortSorts'. -/
def xsortSortsCard : Claim7 := { stood := { row := xsortSortsRow, standIns := [], harness := (true, "1f854b5b918df0a6d6d6530d34e0e6afbc13c03b9428d5998497edc4627eac0c"), looks := false }, kinds := [], alts := [], laidByText := true, laidKinds := [.data, .data, .data, .data, .pinned], laidTests := true, laidLooks := .later }
def XsortSortsCardSaid : Prop := Claim7.holds Tryz.pinned (.plain (OpenSpec.ofChange xsortSortsSpec)) xsortSortsCard

/-- THE TIED CARD OF 'chainmanlaw18.XsortFails'. -/
def xsortFailsCard : Claim7 := { stood := { row := xsortFailsRow, standIns := [], harness := (true, "1f854b5b918df0a6d6d6530d34e0e6afbc13c03b9428d5998497edc4627eac0c"), looks := false }, kinds := [], alts := [], laidByText := true, laidKinds := [.data, .data, .data, .data, .pinned], laidTests := true, laidLooks := .later }
def XsortFailsCardSaid : Prop := Claim7.holds Tryz.pinned (.plain (OpenSpec.ofChange xsortFailsSpec)) xsortFailsCard

/-- THE TIED CARD OF 'chainmanlaw18.XsortPasses'. -/
def xsortPassesCard : Claim7 := { stood := { row := xsortPassesRow, standIns := [], harness := (true, "1f854b5b918df0a6d6d6530d34e0e6afbc13c03b9428d5998497edc4627eac0c"), looks := false }, kinds := [], alts := [], laidByText := true, laidKinds := [.data, .data, .data, .data, .pinned], laidTests := true, laidLooks := .later }
def XsortPassesCardSaid : Prop := Claim7.holds Tryz.pinned (.plain (OpenSpec.ofChange xsortPassesSpec)) xsortPassesCard

/-- THE SECOND FORM's CARD OF 'chainmanlaw18.XsortSorts'. -/
def xsortSortsUptoCard : Claim7 := { stood := { row := xsortSortsUptoRow, standIns := [], harness := (true, "1f854b5b918df0a6d6d6530d34e0e6afbc13c03b9428d5998497edc4627eac0c"), looks := false }, kinds := [], alts := [], laidByText := true, laidKinds := [.data, .data, .data, .data, .pinned], laidTests := true, laidLooks := .later }
def XsortSortsUptoCardSaid : Prop := Claim7.holds Tryz.pinned (.plain (OpenSpec.upto xsortSortsSpec)) xsortSortsUptoCard

/-- THE SECOND FORM's CARD OF 'chainmanlaw18.XsortFails'. -/
def xsortFailsUptoCard : Claim7 := { stood := { row := xsortFailsUptoRow, standIns := [], harness := (true, "1f854b5b918df0a6d6d6530d34e0e6afbc13c03b9428d5998497edc4627eac0c"), looks := false }, kinds := [], alts := [], laidByText := true, laidKinds := [.data, .data, .data, .data, .pinned], laidTests := true, laidLooks := .later }
def XsortFailsUptoCardSaid : Prop := Claim7.holds Tryz.pinned (.plain (OpenSpec.upto xsortFailsSpec)) xsortFailsUptoCard

/-- THE SECOND FORM's CARD OF 'chainmanlaw18.XsortPasses'. -/
def xsortPassesUptoCard : Claim7 := { stood := { row := xsortPassesUptoRow, standIns := [], harness := (true, "1f854b5b918df0a6d6d6530d34e0e6afbc13c03b9428d5998497edc4627eac0c"), looks := false }, kinds := [], alts := [], laidByText := true, laidKinds := [.data, .data, .data, .data, .pinned], laidTests := true, laidLooks := .later }
def XsortPassesUptoCardSaid : Prop := Claim7.holds Tryz.pinned (.plain (OpenSpec.upto xsortPassesSpec)) xsortPassesUptoCard
end Rows
end Go.Proofs.YtjplkmmhjfpdaaaGreatDoor

/-
  No cell of these rows narrows 'for every input' (looked for: loops, veiled, ifaces, maps, wideKeys, modest, calm, conditions, laid).
  DERIVED. THE GIVEN ROWS OF THIS SEAT. 4 by the template 'for every input the law returns true; each argument reads behind the call as it read before'; 0 by the template 'total and deterministic' (their statements: YtipfdildnnfmkaaTotals.lean).
  GIVEN WITH THE SEED: the statements are not yours to turn. If you find one false, say at which input.
  Laid BY PROGRAM, IN A SANDBOX (cutbox-rows.mjs): the forced cells as the released guide's own fill.sh prints them over the translation 2082cf5ba366665b… (all of the seat's roots in one cut). By AI agents, Wed Nov 11 2026. No macro, syntax, notation, axiom, sorry.
-/
import Derived.Test.YtipfdildnnfmkaaChecked
import GoSem.Claim
import GoSem.ClaimJoined
import GoSem.ClaimMapViews
import Derived.JoinedTies
import Derived.KernelRfl
namespace Go.Proofs.Ytipfdildnnfmkaa
/- THE CELL 'sum', in the pinned program and in every row, IS THE sha256 OF THE DUMP (.gsa) THAT YtipfdildnnfmkaaProg.lean LOADS. Nothing in Lean hashes anything: it is a label: what it is worth is what the hold of that sum in a sandbox is worth. -/
noncomputable def Try.pinned : Pinned := { name := "ytipfdildnnfmkaa", sum := "2082cf5ba366665bb47d370e098d69b10890a71af1cb633e9621605d147821ce", checked := Try.checked }
namespace Rows
def none {H : Type} : Left H := { results := [], args := [] }

/-- 'chainmanlaw23.CellTells': WHATEVER THE INPUT: true; the input reads as it did. -/
def cellTellsSpec : ChangeSpec := { name := "cellTells", fn := fun _ => fun
  | [d1, d2, d3, d4, d5] => { results := [.lit (.bool true)], args := [d1, d2, d3, d4, d5] }
  | _ => none }
def cellTellsRow : OpenClaim := { program := "ytipfdildnnfmkaa", sum := "2082cf5ba366665bb47d370e098d69b10890a71af1cb633e9621605d147821ce", func := "chainman/chainmanlaw23.CellTells", spec := "cellTells", apart := false }
def CellTellsSaid : Prop := cellTellsRow.holds Try.pinned (OpenSpec.ofChange cellTellsSpec)

/-- ITS FALSE NEIGHBOUR: 'it returns false'. Refute it at one input. -/
def cellTellsWrong : ChangeSpec := { name := "cellTells", fn := fun _ => fun
  | [d1, d2, d3, d4, d5] => { results := [.lit (.bool false)], args := [d1, d2, d3, d4, d5] }
  | _ => none }
def CellTellsWrongFalsely : Prop := cellTellsRow.holds Try.pinned (OpenSpec.ofChange cellTellsWrong)

/-- 'chainmanlaw23.CellGoes': WHATEVER THE INPUT: true; the input reads as it did. -/
def cellGoesSpec : ChangeSpec := { name := "cellGoes", fn := fun _ => fun
  | [d1, d2, d3] => { results := [.lit (.bool true)], args := [d1, d2, d3] }
  | _ => none }
def cellGoesRow : OpenClaim := { program := "ytipfdildnnfmkaa", sum := "2082cf5ba366665bb47d370e098d69b10890a71af1cb633e9621605d147821ce", func := "chainman/chainmanlaw23.CellGoes", spec := "cellGoes", apart := false }
def CellGoesSaid : Prop := cellGoesRow.holds Try.pinned (OpenSpec.ofChange cellGoesSpec)

/-- ITS FALSE NEIGHBOUR: 'it returns false'. Refute it at one input. -/
def cellGoesWrong : ChangeSpec := { name := "cellGoes", fn := fun _ => fun
  | [d1, d2, d3] => { results := [.lit (.bool false)], args := [d1, d2, d3] }
  | _ => none }
def CellGoesWrongFalsely : Prop := cellGoesRow.holds Try.pinned (OpenSpec.ofChange cellGoesWrong)

/-- 'chainmanlaw23.CellOnce': WHATEVER THE INPUT: true; the input reads as it did. -/
def cellOnceSpec : ChangeSpec := { name := "cellOnce", fn := fun _ => fun
  | [d1, d2, d3, d4] => { results := [.lit (.bool true)], args := [d1, d2, d3, d4] }
  | _ => none }
def cellOnceRow : OpenClaim := { program := "ytipfdildnnfmkaa", sum := "2082cf5ba366665bb47d370e098d69b10890a71af1cb633e9621605d147821ce", func := "chainman/chainmanlaw23.CellOnce", spec := "cellOnce", apart := false }
def CellOnceSaid : Prop := cellOnceRow.holds Try.pinned (OpenSpec.ofChange cellOnceSpec)

/-- ITS FALSE NEIGHBOUR: 'it returns false'. Refute it at one input. -/
def cellOnceWrong : ChangeSpec := { name := "cellOnce", fn := fun _ => fun
  | [d1, d2, d3, d4] => { results := [.lit (.bool false)], args := [d1, d2, d3, d4] }
  | _ => none }
def CellOnceWrongFalsely : Prop := cellOnceRow.holds Try.pinned (OpenSpec.ofChange cellOnceWrong)

/-- 'chainmanlaw23.CellNear': WHATEVER THE INPUT: true; the input reads as it did. -/
def cellNearSpec : ChangeSpec := { name := "cellNear", fn := fun _ => fun
  | [d1, d2, d3] => { results := [.lit (.bool true)], args := [d1, d2, d3] }
  | _ => none }
def cellNearRow : OpenClaim := { program := "ytipfdildnnfmkaa", sum := "2082cf5ba366665bb47d370e098d69b10890a71af1cb633e9621605d147821ce", func := "chainman/chainmanlaw23.CellNear", spec := "cellNear", apart := false }
def CellNearSaid : Prop := cellNearRow.holds Try.pinned (OpenSpec.ofChange cellNearSpec)

/-- ITS FALSE NEIGHBOUR: 'it returns false'. Refute it at one input. -/
def cellNearWrong : ChangeSpec := { name := "cellNear", fn := fun _ => fun
  | [d1, d2, d3] => { results := [.lit (.bool false)], args := [d1, d2, d3] }
  | _ => none }
def CellNearWrongFalsely : Prop := cellNearRow.holds Try.pinned (OpenSpec.ofChange cellNearWrong)

/- THE SECOND FORM. 'bulk': how many values and letters a reading holds, each counted each time it is reached (what is shared counts as often as it is met; a slice's spare places count too). A statement '..UptoSaid' is the law's where the arguments, and the package variables that the reading takes, are together of bulk at most 1048576: NARROWER than '..Said'. Prove '..Said' where nothing that the law and all that it calls make is longer than what came in: it says more and counts as full. Else prove '..UptoSaid'. A law counts once. -/
mutual
def uptoBulk {H : Type} : DataW H → Nat
  | .lit (.string bytes) => bytes.length + 1
  | .lit _ => 1
  | .nil => 1
  | .ptr d => uptoBulk d + 1
  | .slice elems spare => uptoBulkAll elems + uptoBulkAll spare + 1
  | .agg parts => uptoBulkAll parts + 1
  | .iface _ d => uptoBulk d + 1
  | .map entries => uptoBulkEntries entries + 1
  | .held _ => 1
def uptoBulkAll {H : Type} : List (DataW H) → Nat
  | [] => 0
  | d :: r => uptoBulk d + uptoBulkAll r
def uptoBulkEntries {H : Type} : List (Lit × DataW H) → Nat
  | [] => 0
  | x :: r => uptoBulkEntry x + uptoBulkEntries r
def uptoBulkEntry {H : Type} : Lit × DataW H → Nat
  | (.string bytes, d) => bytes.length + uptoBulk d + 1
  | (_, d) => uptoBulk d + 1
 end
def uptoSmall : (H : Type) → List (DataW H) → Bool := fun _ ds => decide (uptoBulkAll ds ≤ 1048576)
def OpenSpec.upto (s : _root_.Go.ChangeSpec) : _root_.Go.OpenSpec := { _root_.Go.OpenSpec.ofChange s with cond := some uptoSmall }

/-- 'chainmanlaw23.CellTells', WHERE WHAT IT READS IS OF BULK AT MOST 1048576: true; the input reads as it did. -/
def cellTellsUptoRow : OpenClaim := { program := "ytipfdildnnfmkaa", sum := "2082cf5ba366665bb47d370e098d69b10890a71af1cb633e9621605d147821ce", func := "chainman/chainmanlaw23.CellTells", spec := "cellTells", apart := false, narrowed := true }
def CellTellsUptoSaid : Prop := cellTellsUptoRow.holds Try.pinned (OpenSpec.upto cellTellsSpec)

/-- 'chainmanlaw23.CellGoes', WHERE WHAT IT READS IS OF BULK AT MOST 1048576: true; the input reads as it did. -/
def cellGoesUptoRow : OpenClaim := { program := "ytipfdildnnfmkaa", sum := "2082cf5ba366665bb47d370e098d69b10890a71af1cb633e9621605d147821ce", func := "chainman/chainmanlaw23.CellGoes", spec := "cellGoes", apart := false, narrowed := true }
def CellGoesUptoSaid : Prop := cellGoesUptoRow.holds Try.pinned (OpenSpec.upto cellGoesSpec)

/-- 'chainmanlaw23.CellOnce', WHERE WHAT IT READS IS OF BULK AT MOST 1048576: true; the input reads as it did. -/
def cellOnceUptoRow : OpenClaim := { program := "ytipfdildnnfmkaa", sum := "2082cf5ba366665bb47d370e098d69b10890a71af1cb633e9621605d147821ce", func := "chainman/chainmanlaw23.CellOnce", spec := "cellOnce", apart := false, narrowed := true }
def CellOnceUptoSaid : Prop := cellOnceUptoRow.holds Try.pinned (OpenSpec.upto cellOnceSpec)

/-- 'chainmanlaw23.CellNear', WHERE WHAT IT READS IS OF BULK AT MOST 1048576: true; the input reads as it did. -/
def cellNearUptoRow : OpenClaim := { program := "ytipfdildnnfmkaa", sum := "2082cf5ba366665bb47d370e098d69b10890a71af1cb633e9621605d147821ce", func := "chainman/chainmanlaw23.CellNear", spec := "cellNear", apart := false, narrowed := true }
def CellNearUptoSaid : Prop := cellNearUptoRow.holds Try.pinned (OpenSpec.upto cellNearSpec)

end Rows
end Go.Proofs.Ytipfdildnnfmkaa

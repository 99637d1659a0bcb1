/- The document's Few of vectors; its comparison of two lists, and of two lists of lists, says that they are one, where they hold the same. -/
import Derived.Test.YtipfdildnnfmkaaDsRow
import Derived.RegionTactic
import Derived.BigRegion
import Derived.Deep.RegionHeld3
namespace Go.Proofs.Ytipfdildnnfmkaa
open Go.RowKit
set_option linter.unusedVariables false
set_option linter.unusedSimpArgs false
set_option maxRecDepth 20000
theorem take_on {α : Type} {l : List α} {j : Nat} (hj : j < l.length) : ∃ x, l[j]? = some x ∧ l.take (j + 1) = l.take j ++ [x] ∧ x ∈ l :=
  ⟨l[j], List.getElem?_eq_getElem hj, List.take_succ_eq_append_getElem hj, List.getElem_mem hj⟩
theorem retb11 {a b : Bool} (h : a = b) : Ending.returned (.bool a) = .returned (.bool b) := by rw [h]
def few10 (L : List (List Int)) (m k : Nat) : Bool := decide (L.length ≤ m) && (L.take m).all (fun v => decide (v.length ≤ k))
theorem few10_yes {L : List (List Int)} {m k : Nat} (h : few10 L m k = true) : L.length ≤ m ∧ ∀ v ∈ L, v.length ≤ k := by
  unfold few10 at h
  simp only [Bool.and_eq_true, decide_eq_true_eq, List.all_eq_true] at h
  refine ⟨h.1, fun s hs => h.2 s ?_⟩
  rw [List.take_of_length_le h.1]; exact hs
def Few10At (L : List (List Int)) (m k : Nat) (w : World) (i : Value) (wr : World) : Prop := ∃ j : Nat, j ≤ m ∧ j ≤ L.length ∧ i = .int .i64 j ∧ wr = w ∧ (L.take j).all (fun v => decide (v.length ≤ k)) = true
def SamAt (n : Nat) (w : World) (i : Value) (wr : World) : Prop := ∃ j : Nat, j ≤ n ∧ i = .int .i64 j ∧ Below w.heap.size w wr
end Go.Proofs.Ytipfdildnnfmkaa

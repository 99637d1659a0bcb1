/- Contracts of the document's Get. -/
import Derived.Test.YtckgdnaocmefjaaOctPut
import Derived.Test.YtckgdnaocmefjaaOctPlain2
import Derived.Lib.Hide
namespace Go.Proofs.Ytckgdnaocmefjaa
open Go.RowKit OctPlain
set_option linter.unusedVariables false
set_option linter.unusedSimpArgs false

def GetAt (s : ByteArray) (p k : Nat) (w : World) (n i : Value) (wr : World) : Prop :=
  ∃ j : Nat, wr = w ∧ j ≤ k ∧ i = .int .i64 j ∧ n = .int .i64 (num ((cutL s p k).take j) : Int) ∧ num ((cutL s p k).take j) < 9223372036854775808

theorem ret_ibr {a b : Int} {p q : Bool} (h : a = b) (k : p = q) : Ending.returned (.tuple #[.int .i64 a, .bool p]) = .returned (.tuple #[.int .i64 b, .bool q]) := by rw [h, k]
end Go.Proofs.Ytckgdnaocmefjaa

/- A slice of bytes as a string, by its cells. -/
import Derived.Test.YtifpiekajbcoiaaBase
import Derived.Laws.IdiomStrings
namespace Go.Proofs.Ytifpiekajbcoiaa
open Go.RowKit
set_option linter.unusedVariables false
set_option linter.unusedSimpArgs false
set_option maxRecDepth 20000
theorem conv_list (W : World) (a : Addr) (k : Nat) (l : List UInt8) (hl : l.length = k) (hc : ∀ j x, l[j]? = some x → W.cell? (a.add j) = some (.int .u8 (x.toNat : Int))) :
    (convert 43 9 (.slice (some a) k k)).run Try.prog W = .ok (.string (bs l)) W := by
  subst hl
  exact run_convert_bytes_back (P := Try.prog) W 43 9 5 a l.length l Try.underlying43 Try.underlying5 Try.underlying9 (fun j hj => hc j l[j] (by simp))
end Go.Proofs.Ytifpiekajbcoiaa

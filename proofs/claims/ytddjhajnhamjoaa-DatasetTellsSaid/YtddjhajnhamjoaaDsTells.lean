/- How many vectors and numbers a short text may have. -/
import Derived.Test.YtddjhajnhamjoaaDsAwake
import Derived.Test.YtddjhajnhamjoaaDsRparse
namespace Go.Proofs.Ytddjhajnhamjoaa
open Go.RowKit OctPlain DsPlain
set_option linter.unusedVariables false
set_option linter.unusedSimpArgs false
set_option maxRecDepth 20000
theorem vL_small (s : ByteArray) (d : Int) : (vL s d).length ≤ 1000000 := by
  unfold vL
  split
  · rename_i h
    unfold vB dB at h
    simp only [Bool.and_eq_true, decide_eq_true_eq] at h
    rw [nums_length]; omega
  · simp
theorem pL_small (s : ByteArray) (hs : s.size ≤ 1000000) : (pL s).length ≤ 1000000 ∧ ∀ l ∈ pL s, l.length ≤ 1000000 := by
  cases h : pB s
  · rw [pL_no h]; simp
  · have hb : shB (hd s) s.size = true := by
      unfold pB at h
      rw [Bool.and_eq_true] at h
      exact h.1
    obtain ⟨n, d, hn, hd, _, _, hz, _⟩ := sh_nat hb
    have h1 : n * 1 ≤ n * (d * 4) := Nat.mul_le_mul_left n (by omega)
    rw [pL_yes h, hn, hd, Int.toNat_natCast, Int.toNat_natCast]
    refine ⟨by rw [rows_length]; omega, fun l hl => ?_⟩
    rw [rows_mem hl]; omega
end Go.Proofs.Ytddjhajnhamjoaa

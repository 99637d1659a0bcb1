/- The chapter's example comes out as the statement asks: by the contracts. -/
import Derived.Test.YtcbjfecddkmfgaaCrcOpen
import Derived.KernelRfl
namespace Go.Proofs.Ytcbjfecddkmfgaa
open Go.RowKit CrcPlain
set_option linter.unusedVariables false
set_option linter.unusedSimpArgs false
set_option maxHeartbeats 1000000 in
theorem awake_c (w : World) : Calls Try.prog 6 #[] w fun e w' => e = .returned (.bool true) ∧ Gr w w' := by
  have e1 : opB ⟨#[97, 98, 99]⟩ = false := by unfold opB; rw [decide_eq_false_iff_not]; intro h; exact absurd h.1 (by decide)
  have e2 := opS_no e1
  have e3 : more 0 (ByteArray.mk #[49, 50, 51, 52, 53, 54, 55, 56, 57]).data.toList = 3421780262 := by kernel_rfl
  have e4 : (cl ⟨#[]⟩).size = 4 := cl_size _
  go_enter Try.func6, Try.ntmps6
  go_wp2_with fail
  refine (open_c _ (by decide) _).mono ?_; rintro e w1 ⟨rfl, g1⟩
  rw [e1, e2]
  go_wp2_with fail
  refine (of_c _ (by decide) _).mono ?_; rintro e w2 ⟨rfl, g2⟩
  rw [e3]
  go_wp2_with fail
  refine (close_c _ (by decide) _).mono ?_; rintro e w3 ⟨rfl, g3⟩
  go_wp2_with fail
  go_ret
  exact ⟨rfl, (g1.trans g2).trans g3⟩
end Go.Proofs.Ytcbjfecddkmfgaa

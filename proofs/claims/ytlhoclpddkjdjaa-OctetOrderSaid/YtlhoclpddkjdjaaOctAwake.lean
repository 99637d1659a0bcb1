/- The chapter's examples come out as the statement asks: by the contracts. -/
import Derived.Test.YtlhoclpddkjdjaaOctRput
namespace Go.Proofs.Ytlhoclpddkjdjaa
open Go.RowKit OctPlain
set_option linter.unusedVariables false
set_option linter.unusedSimpArgs false

set_option maxHeartbeats 1000000 in
theorem awake_c (w : World) : Calls Try.prog 6 #[] w fun e w' => e = .returned (.bool true) ∧ Gr w w' := by
  have e1 : fitsB 258 2 = true := by decide
  have e2 : putS 258 2 = ⟨#[1, 2]⟩ := by decide
  have e3 : coordB (-1) = true := by rw [coordB_yes (by decide) (by decide)]; decide
  have e4 : coordS (-1) = ⟨#[127, 255, 255, 255]⟩ := by rw [coordS_yes (by decide) (by decide)]; decide
  have e5 : fitsB 256 1 = false := by decide
  have e6 : putS 256 1 = ⟨#[]⟩ := put_no e5
  go_enter Try.func6, Try.ntmps6
  go_wp2_with fail
  refine (put_c 258 2 ⟨by decide, by decide⟩ ⟨by decide, by decide⟩ _).mono ?_; rintro e w1 ⟨rfl, g1⟩
  go_wp2_with fail
  refine (coord_c (-1) ⟨by decide, by decide⟩ _).mono ?_; rintro e w2 ⟨rfl, g2⟩
  go_wp2_with fail
  refine (put_c 256 1 ⟨by decide, by decide⟩ ⟨by decide, by decide⟩ _).mono ?_; rintro e w3 ⟨rfl, g3⟩
  go_wp2_with fail
  go_ret
  exact ⟨rfl, (g1.trans g2).trans g3⟩
end Go.Proofs.Ytlhoclpddkjdjaa

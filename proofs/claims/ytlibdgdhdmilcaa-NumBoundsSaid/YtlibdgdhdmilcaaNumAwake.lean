/- The chapter's examples come out as the statement asks: by the contracts. -/
import Derived.Test.YtlibdgdhdmilcaaNumCalls2
import Derived.Test.YtlibdgdhdmilcaaNumRoots
namespace Go.Proofs.Ytlibdgdhdmilcaa
open Go.RowKit NumPlain
set_option linter.unusedVariables false

set_option maxHeartbeats 400000 in
theorem awake_any (w : World) : Calls Try.prog 20 #[] w fun e w' => e = .returned (.bool true) ∧ Gr w w' := by
  have e1 : floorF (-7) 2 = -4 := by decide
  have e2 : restF (-7) 2 = 1 := by decide
  have e3 : ceilF (-7) 2 = -3 := by decide
  have e4 : mulF 1099511627776 1099511627776 100 = 100 := by decide
  have e5 : holdF 5 7 9 = 7 := by decide
  go_enter Try.func20, Try.ntmps20
  go_wp2_with fail
  refine (floor_any _ _ _ ⟨by decide, by decide⟩ ⟨by decide, by decide⟩).mono ?_; rintro e w1 ⟨rfl, rfl⟩
  go_wp2_with fail
  refine (rest_any _ _ _ ⟨by decide, by decide⟩ ⟨by decide, by decide⟩).mono ?_; rintro e w1 ⟨rfl, rfl⟩
  go_wp2_with fail
  refine (ceil_any _ _ _ ⟨by decide, by decide⟩ ⟨by decide, by decide⟩).mono ?_; rintro e w1 ⟨rfl, g1⟩
  go_wp2_with fail
  refine (mul_any _ _ _ _ ⟨by decide, by decide⟩ ⟨by decide, by decide⟩ ⟨by decide, by decide⟩).mono ?_; rintro e w2 ⟨rfl, g2⟩
  go_wp2_with fail
  refine (root_all _ _).mono ?_; rintro e w3 ⟨⟨r, hr, rfl⟩, g3⟩
  obtain rfl : r = 3 := root_one hr (.inr (by decide))
  go_wp2_with fail
  refine (hold_any _ _ _ _).mono ?_; rintro e w4 ⟨rfl, g4⟩
  go_wp2_with fail
  go_ret
  exact ⟨rfl, ((g1.trans g2).trans g3).trans g4⟩
end Go.Proofs.Ytlibdgdhdmilcaa

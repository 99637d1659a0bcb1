/- The chapter's example. -/
import Derived.Test.YtllfecgaadfkoaaTkProg
import Derived.Test.YtllfecgaadfkoaaTkOwn
namespace Go.Proofs.Ytllfecgaadfkoaa
open Go.RowKit TkPlain
set_option linter.unusedVariables false
set_option linter.unusedSimpArgs false
set_option maxRecDepth 20000
set_option maxHeartbeats 1000000 in
theorem awake12_c (w : World) : Calls Try.prog 4 #[] w fun e w' => e = .returned (.bool true) ∧ Gr w w' := by
  have A1 := fun (x : World) (v : Value) (h : LiesN x v [⟨9, 5, false⟩, ⟨9, 2, false⟩, ⟨1, 7, false⟩]) => best_c h (by decide) 2 ⟨by decide, by decide⟩
  rw [show bestL [⟨9, 5, false⟩, ⟨9, 2, false⟩, ⟨1, 7, false⟩] 2 = [⟨1, 7, false⟩, ⟨9, 2, false⟩] by kernel_rfl] at A1
  have A2 := fun (x : World) (v1 v2 : Value) (h1 : LiesN x v1 [⟨1, 7, false⟩, ⟨9, 2, false⟩]) (h2 : LiesN x v2 [⟨1, 7, false⟩, ⟨9, 2, false⟩]) => rsame12_c (by decide) h1 h2
  have A3 := fun (x : World) (v : Value) (h : LiesN x v [⟨1, 7, false⟩, ⟨9, 2, false⟩]) => tright_c h (by decide) 2 ⟨by decide, by decide⟩
  have A4 := fun (x : World) (v : Value) (h : LiesN x v [⟨1, 7, false⟩, ⟨9, 2, false⟩]) => tright_c h (by decide) 1 ⟨by decide, by decide⟩
  have A5 := fun (x : World) (v : Value) (h : LiesN x v [⟨1, 7, false⟩, ⟨9, 2, false⟩]) => thas_c h (by decide) 7
  rw [show rightN [⟨1, 7, false⟩, ⟨9, 2, false⟩] 2 = true by kernel_rfl] at A3
  rw [show rightN [⟨1, 7, false⟩, ⟨9, 2, false⟩] 1 = false by kernel_rfl] at A4
  rw [show hasN [⟨1, 7, false⟩, ⟨9, 2, false⟩] 7 = true by kernel_rfl] at A5
  have H1 := Lib.hid A1
  have H2 := Lib.hid A2
  have H3 := Lib.hid A3
  have H4 := Lib.hid A4
  have H5 := Lib.hid A5
  clear A1 A2 A3 A4 A5
  go_enter Try.func4, Try.ntmps4
  go_wp2_with fail
  refine (H1.out _ _ (liesN_new w [⟨9, 5, false⟩, ⟨9, 2, false⟩, ⟨1, 7, false⟩] 26)).mono ?_; rintro e u ⟨v1, rfl, hv, g⟩
  have g1 := (grA _ _).trans g
  clear g
  have HV := Lib.hid hv
  clear hv
  go_wp2_with fail
  refine (H2.out _ _ _ (HV.out.gr (grA _ _)) (liesN_new u [⟨1, 7, false⟩, ⟨9, 2, false⟩] 26)).mono ?_; rintro e u2 ⟨rfl, g⟩
  have g2 : Gr u u2 := (grA _ _).trans g
  clear g
  go_wp2_with fail
  refine (H3.out _ _ (HV.out.gr g2)).mono ?_; rintro e u3 ⟨rfl, g⟩
  have g3 : Gr u u3 := g2.trans g
  clear g
  go_wp2_with fail
  refine (H4.out _ _ (HV.out.gr g3)).mono ?_; rintro e u4 ⟨rfl, g⟩
  have g4 : Gr u u4 := g3.trans g
  clear g
  go_wp2_with fail
  refine (H5.out _ _ (HV.out.gr g4)).mono ?_; rintro e u5 ⟨rfl, g⟩
  go_wp2_with fail
  go_ret
  exact ⟨rfl, g1.trans (g4.trans g)⟩
end Go.Proofs.Ytllfecgaadfkoaa

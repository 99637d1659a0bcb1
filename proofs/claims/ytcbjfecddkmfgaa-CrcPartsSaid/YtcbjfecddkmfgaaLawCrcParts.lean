/- Rows.CrcPartsSaid holds: for every input the law returns true and leaves its arguments as they were. Conditions: none beside the row's own. -/
import Derived.Test.YtcbjfecddkmfgaaRows
import Derived.WalkKit
import Derived.ProofKit
import Derived.OpenShut
import Derived.ShutString
import Derived.Test.YtcbjfecddkmfgaaCrcBack
import Derived.Test.YtcbjfecddkmfgaaCrcAwake
namespace Go.Proofs.Ytcbjfecddkmfgaa.crcParts
open Go.ChangeShapes Go.WideShapes Go.ChangeAt Go.RowKit
open Go.ChangeMaps (open_string shut_string)
open CrcPlain
set_option linter.unusedVariables false
set_option linter.unusedSimpArgs false

theorem own : ownKnob Try.prog.godebug = none := by kernel_rfl

set_option maxHeartbeats 1000000 in
theorem walk (a0 : ByteArray) (a1 : Int) (w0 : a0.size ≤ maxLen) (w1 : (Lit.int .u16 a1).wf = true) (w : World) :
    Calls Try.prog 4 #[.string a0, .int .u16 a1] w fun e w' => e = .returned (.bool true) ∧ Gr w w' := by
  have b1 := bounds_u16 w1
  obtain ⟨m, rfl⟩ : ∃ m : Nat, a1 = m := ⟨a1.toNat, by omega⟩
  unfold maxLen at w0
  clear w1
  by_cases hs : a0.size ≤ 400
  · have hz : a0.size ≤ 1000 := by omega
    obtain ⟨k, hk, hk2⟩ : ∃ k : Nat, (m : Int) % ((a0.size : Int) + 1) = (k : Int) ∧ k ≤ a0.size := by
      refine ⟨m % (a0.size + 1), ?_, ?_⟩
      · rw [Int.natCast_emod]; rfl
      · have := Nat.mod_lt m (show 0 < a0.size + 1 by omega); omega
    have hz1 : (a0.extract 0 k).size ≤ 1000 := by rw [ByteArray.size_extract]; omega
    have hz2 : (a0.extract k a0.size).size ≤ 1000 := by rw [ByteArray.size_extract]; omega
    have hn1 := more_lt (sum := 0) (by decide) (a0.extract 0 k).data.toList
    have C1 := fun w => of_c (a0.extract 0 k) hz1 w
    have C3 := fun w => of_c a0 hz w
    have C2 := fun w => more_c _ hn1 (a0.extract k a0.size) hz2 w
    have he : more (more 0 (a0.extract 0 k).data.toList) (a0.extract k a0.size).data.toList = more 0 a0.data.toList := by
      rw [more_app, ← Array.toList_append, ← ByteArray.data_append, parts a0 k hk2]
    rw [he] at C2
    generalize more 0 (a0.extract 0 k).data.toList = n1 at C1 C2
    generalize more 0 a0.data.toList = n at C2 C3
    clear he hn1
    go_enter Try.func4, Try.ntmps4
    go_wp2_with fail
    go_region_held3 (fun w' => True) (trivial) ((first | (go_at_call 9; ((with_reducible refine (C1 _).mono ?_); rintro e u1 ⟨rfl, g1⟩)) | (go_at_call 9; ((with_reducible refine (C3 _).mono ?_); rintro e u3 ⟨rfl, g3⟩)) | (go_at_call 11; ((with_reducible refine (C2 _).mono ?_); rintro e u2 ⟨rfl, g2⟩)) | (go_at_call 6; ((with_reducible refine (awake_c _).mono ?_); rintro e u7 ⟨rfl, g7⟩))))
    all_goals
      go_wp2_with fail
      go_ret
      exact ⟨rfl, ((((Gr.ofDrew g1).trans g2).trans g3).trans g7)⟩
  · go_enter Try.func4, Try.ntmps4
    go_wp2_with fail
    refine (awake_c _).mono ?_; rintro e u7 ⟨rfl, g7⟩
    go_wp2_with fail
    go_ret
    exact ⟨rfl, g7⟩

set_option maxRecDepth 100000 in
theorem lifted (os : Os) (started : os.Started) (H : Type) (enc : TypeId × Value → H) :
    ReturnsInHanded {} Try.checked os 4 .any (Rows.crcPartsSpec.pre6 enc Try.prog Try.f4 Rows.crcPartsRow.domain false) (Rows.crcPartsSpec.post enc Try.prog Try.f4 false true false false) := by
  refine returnsInHanded_of_change (C := Try.checked) own started (by kernel_rfl) Try.func4
    (ChangeSpec.witness6 (enc := enc) (C := Try.checked) false ⟨#[], #[.string ByteArray.empty, .int .u16 0], []⟩ 8 (by kernel_rfl) (by kernel_rfl) (by kernel_rfl) (by kernel_rfl)) ?_
  intro W base args ds gs before hval0 hW hcnd _
  have hval : ∀ (j : Nat) t v, Try.f4.params[j]? = some t → args[j]? = some v → Value.okWide Try.prog W .any base t v := hval0
  have hW' := hW
  obtain ⟨p, q, hA0, hV, rfl, hfz, hnd⟩ := hW
  have hA : DataW.TrodAll enc Try.prog W 0 (fun _ => true) true Try.f4.params.toList args.toList ds p := hA0
  rw [Try.params4] at hA hval
  obtain ⟨v0, vs0, d0, ds0, p0, q0, hargs, rfl, rfl, h0, r0⟩ := trodAll_cons hA
  obtain ⟨v1, vs1, d1, ds1, p1, q1, rfl, rfl, rfl, h1, r1⟩ := trodAll_cons r0
  obtain ⟨rfl, rfl, rfl⟩ := trodAll_nil r1
  obtain rfl : args = #[v0, v1] := by cases args; simp_all
  obtain ⟨rfl, rfl⟩ := trodVars_none hV
  obtain ⟨a0, rfl, rfl, rfl, w0⟩ := open_string Try.underlying9 (hval 0 9 v0 rfl rfl) h0
  obtain ⟨a1, rfl, rfl, rfl, w1⟩ := open_int Try.underlying30 (hval 1 30 v1 rfl rfl) h1
  clear hA0 hval0
  refine (walk a0 a1 w0 w1 W).mono fun e W' ⟨he, hg⟩ => ?_
  subst he
  exact ⟨_, rfl, _, _, _, [], _, [], hW', (trodAll_cons_mk (shut_bool Try.underlying4 _) trodAll_mk0), (trodAll_cons_mk (shut_string Try.underlying9 w0) (trodAll_cons_mk (shut_int Try.underlying30 w1) trodAll_mk0)), rfl, hg.frame _, fun h => by cases h⟩

theorem over : Rows.crcPartsRow.holds Try.pinned (OpenSpec.ofChange Rows.crcPartsSpec) :=
  OpenClaim.holds_of_wide 4 Try.f4 rfl rfl rfl rfl rfl rfl rfl ⟨rfl, rfl, rfl, rfl, rfl⟩ rfl rfl rfl rfl rfl (by kernel_rfl) Try.func4 (by kernel_rfl)
    (of_decide_eq_true (by kernel_rfl)) (by unfold Func.isWrapper; first | (rw [if_pos (by decide +kernel)]; kernel_rfl) | (rw [if_neg (by decide +kernel)]; exact ⟨rfl, rfl⟩))
    (fun os started H enc _ => lifted os started H enc)

theorem proved : Rows.CrcPartsSaid :=
  over
#print axioms proved
end Go.Proofs.Ytcbjfecddkmfgaa.crcParts

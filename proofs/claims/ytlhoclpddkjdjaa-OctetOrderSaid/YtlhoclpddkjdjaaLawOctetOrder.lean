/- Rows.OctetOrderSaid holds: for every input the law returns true and leaves its arguments as they were. Conditions: none beside the row's own. -/
import Derived.Test.YtlhoclpddkjdjaaRows
import Derived.WalkKit
import Derived.ProofKit
import Derived.OpenShut
import Derived.ShutString
import Derived.Test.YtlhoclpddkjdjaaOctOrd
import Derived.Test.YtlhoclpddkjdjaaOctAwake
namespace Go.Proofs.Ytlhoclpddkjdjaa.octetOrder
open Go.ChangeShapes Go.WideShapes Go.ChangeAt Go.RowKit
open Go.ChangeMaps (open_string shut_string)
open OctPlain
set_option linter.unusedVariables false
set_option linter.unusedSimpArgs false

theorem own : ownKnob Try.prog.godebug = none := by kernel_rfl

set_option maxHeartbeats 1000000 in
theorem walk (a0 : Int) (a1 : Int) (a2 : Int) (a3 : Int) (w0 : (Lit.int .i64 a0).wf = true) (w1 : (Lit.int .i64 a1).wf = true) (w2 : (Lit.int .i32 a2).wf = true) (w3 : (Lit.int .i32 a3).wf = true) (w : World) :
    Calls Try.prog 5 #[.int .i64 a0, .int .i64 a1, .int .i32 a2, .int .i32 a3] w fun e w' => e = .returned (.bool true) ∧ Gr w w' := by
  have b0 : I64 a0 := bounds_i64 w0
  have b1 : I64 a1 := bounds_i64 w1
  have b2 := bounds_i32 w2
  have b3 := bounds_i32 w3
  clear w0 w1 w2 w3
  obtain ⟨c1, c2, c3, c4⟩ := coord_ok (x := a2) (by omega) (by omega)
  obtain ⟨d1, d2, d3, d4⟩ := coord_ok (x := a3) (by omega) (by omega)
  have hl := coord_less (x := a2) (y := a3) (by omega) (by omega) (by omega) (by omega)
  by_cases h0 : a0 < 0
  · go_enter Try.func5, Try.ntmps5
    go_wp2_with fail
    refine (coord_c a2 (by unfold I64; omega) _).mono ?_; rintro e u1 ⟨rfl, g1⟩
    go_wp2_with fail
    refine (coord_c a3 (by unfold I64; omega) _).mono ?_; rintro e u2 ⟨rfl, g2⟩
    go_wp2_with fail
    refine (gcoord_c _ 0 (by unfold I64; omega) _ (by omega)).mono ?_; rintro e u3 ⟨rfl, g3⟩
    go_wp2_with fail
    refine (awake_c _).mono ?_; rintro e u7 ⟨rfl, g7⟩
    go_wp2_with fail
    go_ret
    exact ⟨rfl, ((g1.trans g2).trans g3).trans g7⟩
  · by_cases h1 : a1 < 0
    · go_enter Try.func5, Try.ntmps5
      go_wp2_with fail
      refine (coord_c a2 (by unfold I64; omega) _).mono ?_; rintro e u1 ⟨rfl, g1⟩
      go_wp2_with fail
      refine (coord_c a3 (by unfold I64; omega) _).mono ?_; rintro e u2 ⟨rfl, g2⟩
      go_wp2_with fail
      refine (gcoord_c _ 0 (by unfold I64; omega) _ (by omega)).mono ?_; rintro e u3 ⟨rfl, g3⟩
      go_wp2_with fail
      refine (awake_c _).mono ?_; rintro e u7 ⟨rfl, g7⟩
      go_wp2_with fail
      go_ret
      exact ⟨rfl, ((g1.trans g2).trans g3).trans g7⟩
    · have e1 := fits8 (n := a0) (by omega) b0
      have e2 := fits8 (n := a1) (by omega) b1
      have e3 := put_size e1
      have e4 := put_size e2
      have e5 := put_less e1 e2
      obtain ⟨e6, e7⟩ := get_put e1 e2 b1
      have e8 : (putS a0 8 ++ putS a1 8).size ≤ 1000 := by rw [ByteArray.size_append, e3, e4]; decide
      have n8 : (8 : Int).toNat = 8 := rfl
      rw [n8] at e3 e4
      go_enter Try.func5, Try.ntmps5
      go_wp2_with fail
      refine (coord_c a2 (by unfold I64; omega) _).mono ?_; rintro e u1 ⟨rfl, g1⟩
      go_wp2_with fail
      refine (coord_c a3 (by unfold I64; omega) _).mono ?_; rintro e u2 ⟨rfl, g2⟩
      go_wp2_with fail
      refine (gcoord_c _ 0 (by unfold I64; omega) _ (by omega)).mono ?_; rintro e u3 ⟨rfl, g3⟩
      go_wp2_with fail
      refine (put_c a0 8 b0 ⟨by decide, by decide⟩ _).mono ?_; rintro e u4 ⟨rfl, g4⟩
      go_wp2_with fail
      refine (put_c a1 8 b1 ⟨by decide, by decide⟩ _).mono ?_; rintro e u5 ⟨rfl, g5⟩
      go_wp2_with fail
      refine (get_c (putS a0 8 ++ putS a1 8) 8 8 (by unfold I64; omega) (by unfold I64; omega) _ e8).mono ?_; rintro e u6 ⟨rfl, g6⟩
      go_wp2_with fail
      refine (awake_c _).mono ?_; rintro e u7 ⟨rfl, g7⟩
      go_wp2_with fail
      go_ret
      exact ⟨rfl, (((((g1.trans g2).trans g3).trans g4).trans g5).trans g6).trans g7⟩

set_option maxRecDepth 100000 in
theorem lifted (os : Os) (started : os.Started) (H : Type) (enc : TypeId × Value → H) :
    ReturnsInHanded {} Try.checked os 5 .any (Rows.octetOrderSpec.pre6 enc Try.prog Try.f5 Rows.octetOrderRow.domain false) (Rows.octetOrderSpec.post enc Try.prog Try.f5 false true false false) := by
  refine returnsInHanded_of_change (C := Try.checked) own started (by kernel_rfl) Try.func5
    (ChangeSpec.witness6 (enc := enc) (C := Try.checked) false ⟨#[], #[.int .i64 0, .int .i64 0, .int .i32 0, .int .i32 0], []⟩ 8 (by kernel_rfl) (by kernel_rfl) (by kernel_rfl) (by kernel_rfl)) ?_
  intro W base args ds gs before hval0 hW hcnd _
  have hval : ∀ (j : Nat) t v, Try.f5.params[j]? = some t → args[j]? = some v → Value.okWide Try.prog W .any base t v := hval0
  have hW' := hW
  obtain ⟨p, q, hA0, hV, rfl, hfz, hnd⟩ := hW
  have hA : DataW.TrodAll enc Try.prog W 0 (fun _ => true) true Try.f5.params.toList args.toList ds p := hA0
  rw [Try.params5] at hA hval
  obtain ⟨v0, vs0, d0, ds0, p0, q0, hargs, rfl, rfl, h0, r0⟩ := trodAll_cons hA
  obtain ⟨v1, vs1, d1, ds1, p1, q1, rfl, rfl, rfl, h1, r1⟩ := trodAll_cons r0
  obtain ⟨v2, vs2, d2, ds2, p2, q2, rfl, rfl, rfl, h2, r2⟩ := trodAll_cons r1
  obtain ⟨v3, vs3, d3, ds3, p3, q3, rfl, rfl, rfl, h3, r3⟩ := trodAll_cons r2
  obtain ⟨rfl, rfl, rfl⟩ := trodAll_nil r3
  obtain rfl : args = #[v0, v1, v2, v3] := by cases args; simp_all
  obtain ⟨rfl, rfl⟩ := trodVars_none hV
  obtain ⟨a0, rfl, rfl, rfl, w0⟩ := open_int Try.underlying3 (hval 0 3 v0 rfl rfl) h0
  obtain ⟨a1, rfl, rfl, rfl, w1⟩ := open_int Try.underlying3 (hval 1 3 v1 rfl rfl) h1
  obtain ⟨a2, rfl, rfl, rfl, w2⟩ := open_int Try.underlying21 (hval 2 21 v2 rfl rfl) h2
  obtain ⟨a3, rfl, rfl, rfl, w3⟩ := open_int Try.underlying21 (hval 3 21 v3 rfl rfl) h3
  clear hA0 hval0
  refine (walk a0 a1 a2 a3 w0 w1 w2 w3 W).mono fun e W' ⟨he, hg⟩ => ?_
  subst he
  exact ⟨_, rfl, _, _, _, [], _, [], hW', (trodAll_cons_mk (shut_bool Try.underlying4 _) trodAll_mk0), (trodAll_cons_mk (shut_int Try.underlying3 w0) (trodAll_cons_mk (shut_int Try.underlying3 w1) (trodAll_cons_mk (shut_int Try.underlying21 w2) (trodAll_cons_mk (shut_int Try.underlying21 w3) trodAll_mk0)))), rfl, hg.frame _, fun h => by cases h⟩

theorem over : Rows.octetOrderRow.holds Try.pinned (OpenSpec.ofChange Rows.octetOrderSpec) :=
  OpenClaim.holds_of_wide 5 Try.f5 rfl rfl rfl rfl rfl rfl rfl ⟨rfl, rfl, rfl, rfl, rfl⟩ rfl rfl rfl rfl rfl (by kernel_rfl) Try.func5 (by kernel_rfl)
    (of_decide_eq_true (by kernel_rfl)) (by unfold Func.isWrapper; first | (rw [if_pos (by decide +kernel)]; kernel_rfl) | (rw [if_neg (by decide +kernel)]; exact ⟨rfl, rfl⟩))
    (fun os started H enc _ => lifted os started H enc)

theorem proved : Rows.OctetOrderSaid :=
  over
#print axioms proved
end Go.Proofs.Ytlhoclpddkjdjaa.octetOrder

/- Rows.DistTellsSaid holds: for every input the law returns true and leaves its arguments as they were. Conditions: none beside the row's own. -/
import Derived.Test.YtjlcdhafidgkiaaRows
import Derived.WalkKit
import Derived.ProofKit
import Derived.OpenShut
import Derived.ShutString
import Derived.ChangeOld
import Derived.Below
import Derived.Test.YtjlcdhafidgkiaaArgs
import Derived.Test.YtjlcdhafidgkiaaDiAwake
namespace Go.Proofs.Ytjlcdhafidgkiaa.distTells
open Go.ChangeShapes Go.WideShapes Go.ChangeAt Go.RowKit
open Go.ChangeMaps (open_string shut_string)
open DiPlain
set_option linter.unusedVariables false
set_option linter.unusedSimpArgs false

theorem own : ownKnob Try.prog.godebug = none := by kernel_rfl
theorem laidOut : laidOutB Try.prog = true := by kernel_rfl


set_option maxRecDepth 100000 in
set_option maxHeartbeats 4000000 in
theorem walk (v0 v1 v2 : Value) (w : World) (w0 : Rd Try.prog w 22 v0) (w1 : Rd Try.prog w 22 v1) (w2 : Rd Try.prog w 3 v2) :
    Calls Try.prog 3 #[v0, v1, v2] w fun e w' => e = .returned (.bool true) ∧ Gr w w' := by
  obtain ⟨a, ha, hal, _⟩ := liesI_in Try.underlying22 w0
  obtain ⟨b, hb, hbl, _⟩ := liesI_in Try.underlying22 w1
  obtain ⟨eps, rfl, _⟩ := rd_int Try.underlying3 w2
  unfold maxLen at hal hbl
  clear w0 w1 w2
  have HA := Lib.hid (fun u (g : Gr w u) => ha.gr g)
  have HB := Lib.hid (fun u (g : Gr w u) => hb.gr g)
  obtain ⟨a0, c0, rfl, _, _⟩ := ha
  obtain ⟨b0, d0, rfl, _, _⟩ := hb
  by_cases h1 : a.length ≤ 30
  · by_cases h2 : b.length ≤ 30
    · have S := Lib.hid (fun u (g : Gr w u) => dsquare_c (HA.out u g) (HB.out u g) (by omega) (by omega))
      have RS := Lib.hid (fun u (g : Gr w u) => rsquare_c (HA.out u g) (HB.out u g) (by omega) (by omega))
      have R := Lib.hid (fun u (g : Gr w u) => dright_c (HA.out u g) (by omega))
      have RR := Lib.hid (fun u (g : Gr w u) => rright11_c (HA.out u g) (by omega))
      have W := Lib.hid (fun u (g : Gr w u) => dwithin_c (HA.out u g) (HB.out u g) (by omega) (by omega) eps)
      have RW := Lib.hid (fun u (g : Gr w u) => rwithin_c (HA.out u g) (HB.out u g) (by omega) (by omega) eps)
      generalize squareN a b = n at S RS
      generalize squareE a b = e0 at S RS
      generalize rightV a = r at R RR
      generalize withinB a b eps = q at W RW
      have q1 : (r == r) = true := by simp
      have q2 : (q == q) = true := by simp
      go_enter Try.func3, Try.ntmps3
      go_wp2_with fail
      refine (S.out _ (Gr.refl _)).mono ?_; rintro e u1 ⟨rfl, g1⟩
      go_wp2_with fail
      refine (RS.out _ g1).mono ?_; rintro e u2 ⟨rfl, g2⟩
      go_wp2_with fail
      refine (R.out _ (g1.trans g2)).mono ?_; rintro e u3 ⟨rfl, rfl⟩
      go_wp2_with fail
      refine (RR.out _ (g1.trans g2)).mono ?_; rintro e u3 ⟨rfl, rfl⟩
      go_wp2_with fail
      refine (W.out _ (g1.trans g2)).mono ?_; rintro e u3 ⟨rfl, g3⟩
      go_wp2_with fail
      refine (RW.out _ ((g1.trans g2).trans g3)).mono ?_; rintro e u4 ⟨rfl, g4⟩
      go_wp2_with fail
      refine (awake11_c _).mono ?_; rintro e u5 ⟨rfl, g5⟩
      go_wp2_with fail
      go_ret
      exact ⟨rfl, (((g1.trans g2).trans g3).trans g4).trans g5⟩
    · have t1 : ¬ (30 : Int) < a.length := by omega
      have t2 : (30 : Int) < b.length := by omega
      go_enter Try.func3, Try.ntmps3
      go_wp2_with fail
      refine (awake11_c _).mono ?_; rintro e u5 ⟨rfl, g5⟩
      go_wp2_with fail
      go_ret
      exact ⟨rfl, g5⟩
  · have t1 : (30 : Int) < a.length := by omega
    go_enter Try.func3, Try.ntmps3
    go_wp2_with fail
    refine (awake11_c _).mono ?_; rintro e u5 ⟨rfl, g5⟩
    go_wp2_with fail
    go_ret
    exact ⟨rfl, g5⟩

set_option maxRecDepth 100000 in
theorem lifted (os : Os) (started : os.Started) (H : Type) (enc : TypeId × Value → H) :
    ReturnsInHanded {} Try.checked os 3 .any (Rows.distTellsSpec.pre6 enc Try.prog Try.f3 Rows.distTellsRow.domain false) (Rows.distTellsSpec.post enc Try.prog Try.f3 false true false false) := by
  refine returnsInHanded_of_change (C := Try.checked) own started (by kernel_rfl) Try.func3
    (ChangeSpec.witness6 (enc := enc) (C := Try.checked) false ⟨#[], #[.slice none 0 0, .slice none 0 0, .int .i64 0], []⟩ 8 (by kernel_rfl) (by kernel_rfl) (by kernel_rfl) (by kernel_rfl)) ?_
  intro W base args ds gs before hval0 hW hcnd _
  have hval : ∀ (j : Nat) t v, Try.f3.params[j]? = some t → args[j]? = some v → Value.okWide Try.prog W .any base t v := hval0
  have hW' := hW
  obtain ⟨p, q, hA0, hV, rfl, hfz, hnd⟩ := hW
  have hA : DataW.TrodAll enc Try.prog W 0 (fun _ => true) true Try.f3.params.toList args.toList ds p := hA0
  rw [Try.params3] at hA hval
  obtain ⟨v0, vs0, d0, ds0, p0, q0, hargs, rfl, rfl, h0, r0⟩ := trodAll_cons hA
  obtain ⟨v1, vs1, d1, ds1, p1, q1, rfl, rfl, rfl, h1, r1⟩ := trodAll_cons r0
  obtain ⟨v2, vs2, d2, ds2, p2, q2, rfl, rfl, rfl, h2, r2⟩ := trodAll_cons r1
  obtain ⟨rfl, rfl, rfl⟩ := trodAll_nil r2
  obtain rfl : args = #[v0, v1, v2] := by cases args; simp_all
  obtain ⟨rfl, rfl⟩ := trodVars_none hV
  have k0 := h0
  have lt0 : ∀ x ∈ p0, x.block < W.heap.size := by obtain ⟨m, hm⟩ := k0; exact DataW.trod_lt m _ _ _ hm
  obtain ⟨a0, l0, c0, e0⟩ := okWide_slice Try.underlying22 (hval 0 22 v0 rfl rfl)
  have w0 : Rd Try.prog W 22 v0 := by
    obtain ⟨fuel, hf⟩ := h0
    subst e0
    exact ⟨H, enc, fuel, _, by simpa [Value.cells] using hf⟩
  have k1 := h1
  have lt1 : ∀ x ∈ p1, x.block < W.heap.size := by obtain ⟨m, hm⟩ := k1; exact DataW.trod_lt m _ _ _ hm
  obtain ⟨a1, l1, c1, e1⟩ := okWide_slice Try.underlying22 (hval 1 22 v1 rfl rfl)
  have w1 : Rd Try.prog W 22 v1 := by
    obtain ⟨fuel, hf⟩ := h1
    subst e1
    exact ⟨H, enc, fuel, _, by simpa [Value.cells] using hf⟩
  have k2 := h2
  have lt2 : ∀ x ∈ p2, x.block < W.heap.size := by obtain ⟨m, hm⟩ := k2; exact DataW.trod_lt m _ _ _ hm
  obtain ⟨n2, e2⟩ := okWide_int Try.underlying3 (hval 2 3 v2 rfl rfl)
  have w2 : Rd Try.prog W 3 v2 := by
    obtain ⟨fuel, hf⟩ := h2
    subst e2
    exact ⟨H, enc, fuel, _, by simpa [Value.cells] using hf⟩
  clear hA0 hval0
  refine (walk v0 v1 v2 W w0 w1 w2).mono fun e W' ⟨he, bel⟩ => ?_
  subst he
  exact ⟨_, rfl, _, _, _, [], _, [], hW', trodAll_mk1 (shut_bool Try.underlying4 _), (trodAll_cons_mk (Below.trod laidOut (by kernel_rfl) (of_decide_eq_true (by kernel_rfl)) k0 bel lt0) (trodAll_cons_mk (Below.trod laidOut (by kernel_rfl) (of_decide_eq_true (by kernel_rfl)) k1 bel lt1) (trodAll_cons_mk (Below.trod laidOut (by kernel_rfl) (of_decide_eq_true (by kernel_rfl)) k2 bel lt2) trodAll_mk0))), rfl, bel.frame _, fun h => by cases h⟩

theorem over : Rows.distTellsRow.holds Try.pinned (OpenSpec.ofChange Rows.distTellsSpec) :=
  OpenClaim.holds_of_wide 3 Try.f3 rfl rfl rfl rfl rfl rfl rfl ⟨rfl, rfl, rfl, rfl, rfl⟩ rfl rfl rfl rfl rfl (by kernel_rfl) Try.func3 (by kernel_rfl)
    (of_decide_eq_true (by kernel_rfl)) (by unfold Func.isWrapper; first | (rw [if_pos (by decide +kernel)]; kernel_rfl) | (rw [if_neg (by decide +kernel)]; exact ⟨rfl, rfl⟩))
    (fun os started H enc _ => lifted os started H enc)

theorem proved : Rows.DistTellsSaid := over
#print axioms proved
end Go.Proofs.Ytjlcdhafidgkiaa.distTells

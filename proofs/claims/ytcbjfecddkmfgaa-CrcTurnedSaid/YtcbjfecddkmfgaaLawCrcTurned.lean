/- Rows.CrcTurnedSaid holds: for every input the law returns true and leaves its arguments as they were. Conditions: none beside the row's own. -/
import Derived.Test.YtcbjfecddkmfgaaRows
import Derived.WalkKit
import Derived.ProofKit
import Derived.OpenShut
import Derived.ShutString
import Derived.Test.YtcbjfecddkmfgaaCrcBack
import Derived.Test.YtcbjfecddkmfgaaCrcAwake
namespace Go.Proofs.Ytcbjfecddkmfgaa.crcTurned
open Go.ChangeShapes Go.WideShapes Go.ChangeAt Go.RowKit
open Go.ChangeMaps (open_string shut_string)
open CrcPlain
set_option linter.unusedVariables false
set_option linter.unusedSimpArgs false

theorem own : ownKnob Try.prog.godebug = none := by kernel_rfl

set_option maxHeartbeats 1000000 in
theorem walk (a0 : ByteArray) (a1 : Int) (a2 : Int) (w0 : a0.size ≤ maxLen) (w1 : (Lit.int .u16 a1).wf = true) (w2 : (Lit.int .u32 a2).wf = true) (w : World) :
    Calls Try.prog 5 #[.string a0, .int .u16 a1, .int .u32 a2] w fun e w' => e = .returned (.bool true) ∧ Gr w w' := by
  have b1 := bounds_u16 w1
  have b2 := bounds_u32 w2
  obtain ⟨m, rfl⟩ : ∃ m : Nat, a1 = m := ⟨a1.toNat, by omega⟩
  obtain ⟨b, rfl⟩ : ∃ b : Nat, a2 = b := ⟨a2.toNat, by omega⟩
  have hb : b < 4294967296 := by omega
  unfold maxLen at w0
  clear w1 w2
  by_cases hs : a0.size ≤ 400
  · have hz : a0.size ≤ 1000 := by omega
    have hcs := cl_size a0
    have hzc : (cl a0).size ≤ 1000 := by omega
    obtain ⟨o1, o2⟩ := op_cl a0
    obtain ⟨k, hk, hk2⟩ : ∃ k : Nat, (m : Int) % (8 * ((a0.size : Int) + 4)) = (k : Int) ∧ k < 8 * (cl a0).size := by
      refine ⟨m % (8 * (a0.size + 4)), ?_, ?_⟩
      · rw [Int.natCast_emod]; rfl
      · have := Nat.mod_lt m (show 0 < 8 * (a0.size + 4) by omega); omega
    have OC := fun w => open_c (cl a0) hzc w
    rw [o1, o2] at OC
    have HO1 := Lib.hid o1
    have HO2 := Lib.hid o2
    clear o1 o2
    have ha0 : (a0.toList == a0.toList) = true := by simp
    go_enter Try.func5, Try.ntmps5
    go_wp2_with fail
    refine (close_c a0 hz _).mono ?_; rintro e u1 ⟨rfl, g1⟩
    go_wp2_with fail
    refine (OC _).mono ?_; rintro e u2 ⟨rfl, g2⟩
    go_wp2_with fail
    refine (turned_c (cl a0) k b hzc hk2 hb _).mono ?_; rintro e u3 ⟨l, v, c, hv, ht, hc, rfl, g3⟩
    have HT := Lib.hid ht
    have hlz : (bs l).size ≤ 1000 := by rw [bs_size, ht.1]; simpa using hzc
    have OT := fun w => open_c (bs l) hlz w
    clear hcs hk
    by_cases h0 : v = 0
    · have hsame := op_same ht h0
      rw [hsame, HO1.out, HO2.out] at OT
      obtain rfl : c = false := by rw [hc]; simp [h0]
      rw [hsame]
      clear ht hc hsame h0
      go_wp2_with fail
      refine (OT _).mono ?_; rintro e u4 ⟨rfl, g4⟩
      go_wp2_with fail
      refine (awake_c _).mono ?_; rintro e u7 ⟨rfl, g7⟩
      go_wp2_with fail
      go_ret
      exact ⟨rfl, (((g1.trans g2).trans g3).trans g4).trans g7⟩
    · have hno := op_turned ht hk2 hv h0
      rw [hno, opS_no hno] at OT
      obtain rfl : c = true := by rw [hc]; simp [h0]
      clear ht hc hno h0
      go_wp2_with fail
      refine (OT _).mono ?_; rintro e u4 ⟨rfl, g4⟩
      go_wp2_with fail
      refine (awake_c _).mono ?_; rintro e u7 ⟨rfl, g7⟩
      go_wp2_with fail
      go_ret
      exact ⟨rfl, (((g1.trans g2).trans g3).trans g4).trans g7⟩
  · go_enter Try.func5, Try.ntmps5
    go_wp2_with fail
    refine (awake_c _).mono ?_; rintro e u7 ⟨rfl, g7⟩
    go_wp2_with fail
    go_ret
    exact ⟨rfl, g7⟩

set_option maxRecDepth 100000 in
theorem lifted (os : Os) (started : os.Started) (H : Type) (enc : TypeId × Value → H) :
    ReturnsInHanded {} Try.checked os 5 .any (Rows.crcTurnedSpec.pre6 enc Try.prog Try.f5 Rows.crcTurnedRow.domain false) (Rows.crcTurnedSpec.post enc Try.prog Try.f5 false true false false) := by
  refine returnsInHanded_of_change (C := Try.checked) own started (by kernel_rfl) Try.func5
    (ChangeSpec.witness6 (enc := enc) (C := Try.checked) false ⟨#[], #[.string ByteArray.empty, .int .u16 0, .int .u32 0], []⟩ 8 (by kernel_rfl) (by kernel_rfl) (by kernel_rfl) (by kernel_rfl)) ?_
  intro W base args ds gs before hval0 hW hcnd _
  have hval : ∀ (j : Nat) t v, Try.f5.params[j]? = some t → args[j]? = some v → Value.okWide Try.prog W .any base t v := hval0
  have hW' := hW
  obtain ⟨p, q, hA0, hV, rfl, hfz, hnd⟩ := hW
  have hA : DataW.TrodAll enc Try.prog W 0 (fun _ => true) true Try.f5.params.toList args.toList ds p := hA0
  rw [Try.params5] at hA hval
  obtain ⟨v0, vs0, d0, ds0, p0, q0, hargs, rfl, rfl, h0, r0⟩ := trodAll_cons hA
  obtain ⟨v1, vs1, d1, ds1, p1, q1, rfl, rfl, rfl, h1, r1⟩ := trodAll_cons r0
  obtain ⟨v2, vs2, d2, ds2, p2, q2, rfl, rfl, rfl, h2, r2⟩ := trodAll_cons r1
  obtain ⟨rfl, rfl, rfl⟩ := trodAll_nil r2
  obtain rfl : args = #[v0, v1, v2] := by cases args; simp_all
  obtain ⟨rfl, rfl⟩ := trodVars_none hV
  obtain ⟨a0, rfl, rfl, rfl, w0⟩ := open_string Try.underlying9 (hval 0 9 v0 rfl rfl) h0
  obtain ⟨a1, rfl, rfl, rfl, w1⟩ := open_int Try.underlying30 (hval 1 30 v1 rfl rfl) h1
  obtain ⟨a2, rfl, rfl, rfl, w2⟩ := open_int Try.underlying22 (hval 2 22 v2 rfl rfl) h2
  clear hA0 hval0
  refine (walk a0 a1 a2 w0 w1 w2 W).mono fun e W' ⟨he, hg⟩ => ?_
  subst he
  exact ⟨_, rfl, _, _, _, [], _, [], hW', (trodAll_cons_mk (shut_bool Try.underlying4 _) trodAll_mk0), (trodAll_cons_mk (shut_string Try.underlying9 w0) (trodAll_cons_mk (shut_int Try.underlying30 w1) (trodAll_cons_mk (shut_int Try.underlying22 w2) trodAll_mk0))), rfl, hg.frame _, fun h => by cases h⟩

theorem over : Rows.crcTurnedRow.holds Try.pinned (OpenSpec.ofChange Rows.crcTurnedSpec) :=
  OpenClaim.holds_of_wide 5 Try.f5 rfl rfl rfl rfl rfl rfl rfl ⟨rfl, rfl, rfl, rfl, rfl⟩ rfl rfl rfl rfl rfl (by kernel_rfl) Try.func5 (by kernel_rfl)
    (of_decide_eq_true (by kernel_rfl)) (by unfold Func.isWrapper; first | (rw [if_pos (by decide +kernel)]; kernel_rfl) | (rw [if_neg (by decide +kernel)]; exact ⟨rfl, rfl⟩))
    (fun os started H enc _ => lifted os started H enc)

theorem proved : Rows.CrcTurnedSaid :=
  over
#print axioms proved
end Go.Proofs.Ytcbjfecddkmfgaa.crcTurned

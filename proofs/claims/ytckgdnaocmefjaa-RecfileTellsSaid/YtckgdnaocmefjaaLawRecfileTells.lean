/- Rows.RecfileTellsSaid holds: for every input the law returns true and leaves its arguments as they were. Conditions: none beside the row's own. -/
import Derived.Test.YtckgdnaocmefjaaRows
import Derived.WalkKit
import Derived.ProofKit
import Derived.OpenShut
import Derived.ShutString
import Derived.ChangeOld
import Derived.Below
import Derived.Test.YtckgdnaocmefjaaArgs
import Derived.Test.YtckgdnaocmefjaaRecBoth
namespace Go.Proofs.Ytckgdnaocmefjaa.recfileTells
open Go.ChangeShapes Go.WideShapes Go.ChangeAt Go.RowKit
open Go.ChangeMaps (open_string shut_string)
open CrcPlain OctPlain FramePlain RecPlain
set_option linter.unusedVariables false
set_option linter.unusedSimpArgs false

theorem own : ownKnob Try.prog.godebug = none := by kernel_rfl
theorem laidOut : laidOutB Try.prog = true := by kernel_rfl


set_option maxRecDepth 100000 in
set_option maxHeartbeats 4000000 in
theorem walk (v0 v1 v2 v3 : Value) (w : World) (w0 : Rd Try.prog w 3 v0) (w1 : Rd Try.prog w 22 v1) (w2 : Rd Try.prog w 9 v2) (w3 : Rd Try.prog w 3 v3) :
    Calls Try.prog 3 #[v0, v1, v2, v3] w fun e w' => e = .returned (.bool true) ∧ Gr w w' := by
  obtain ⟨size, rfl, hw0⟩ := rd_int Try.underlying3 w0
  have hk : I64 size := bounds_i64 hw0
  obtain ⟨l, hl, hlm, hls⟩ := lies_in Try.underlying22 w1
  obtain ⟨s, rfl, hsm⟩ := rd_string Try.underlying9 w2
  obtain ⟨n, rfl, hw3⟩ := rd_int Try.underlying3 w3
  have hn : I64 n := bounds_i64 hw3
  clear w0 w1 w2 w3 hw0 hw3 hls
  unfold maxLen at hsm hlm
  have F := few6_c hl 30 (by omega) (by omega)
  have HL := Lib.hid (fun u (g : Gr w u) => hl.gr g)
  clear hl
  cases hf : few6 l 30
  · rw [hf] at F
    clear hf
    go_enter Try.func3, Try.ntmps3
    go_wp2_with fail
    refine F.mono ?_; rintro e u ⟨rfl, rfl⟩
    go_wp2_with fail
    refine (awake6_c _).mono ?_; rintro e u7 ⟨rfl, g7⟩
    go_wp2_with fail
    go_ret
    exact ⟨rfl, g7⟩
  · by_cases hs : s.size ≤ 800
    · obtain ⟨hl30, hl80⟩ := few6_yes hf
      rw [hf] at F
      have hl8 : ∀ s ∈ l, s.size ≤ 1000 := fun s hs => by have := hl80 s hs; omega
      have P := Lib.hid (fun u (g : Gr w u) => lay_c (HL.out u g) size hk (by omega) hl8)
      have RP := Lib.hid (fun u (g : Gr w u) => rlay_c (HL.out u g) size hk (by omega) hl8)
      have SM := Lib.hid (fun u (g : Gr w u) => sum_c (HL.out u g) (by omega) hl8)
      have RSM := Lib.hid (fun u (g : Gr w u) => rsum_c (HL.out u g) (by omega) hl8)
      obtain ⟨LL, c, m, k, hLL, hc, hm, PC, RPC⟩ := both_c size hk s hs
      have t1 : decide ((800 : Int) < s.size) = false := by rw [decide_eq_false_iff_not]; omega
      have HLL := Lib.hid hLL
      clear hl30 hl80 hf hl8 hLL hs hlm hsm
      go_enter Try.func3, Try.ntmps3
      go_wp2_with fail
      refine F.mono ?_; rintro e u ⟨rfl, rfl⟩
      go_wp2_with fail
      refine (P.out _ (Gr.refl _)).mono ?_; rintro e u1 ⟨rfl, g1⟩
      go_wp2_with fail
      refine (RP.out _ g1).mono ?_; rintro e u2 ⟨rfl, g2⟩
      go_wp2_with fail
      refine (PC _).mono ?_; rintro e u3 ⟨v1, rfl, o1, g3⟩
      have L1 := Lib.hid o1
      clear o1
      go_wp2_with fail
      refine (RPC _).mono ?_; rintro e u4 ⟨v2, rfl, o2, g4⟩
      have L2 := Lib.hid o2
      clear o2
      go_wp2_with fail
      refine (puthead_c size hk _).mono ?_; rintro e u5 ⟨rfl, g5⟩
      go_wp2_with fail
      refine (rputhead_c size hk _).mono ?_; rintro e u6 ⟨rfl, g6⟩
      go_wp2_with fail
      refine (gethead_c s _).mono ?_; rintro e u7 ⟨rfl, g7⟩
      go_wp2_with fail
      refine (rgethead_c s _).mono ?_; rintro e u8 ⟨rfl, g8⟩
      have q8 := ((g5.trans g6).trans g7).trans g8
      have q4 := (gral u4 (.cells #[.int .i64 c, .int .u32 m] 29)).trans q8
      have q3 := ((gral u3 (.cells #[.int .i64 c, .int .u32 m] 29)).trans g4).trans q4
      have SL := same_lies (by have := HLL.out; omega) (L1.out.gr q3) (L2.out.gr q4)
      have Q := Lib.hid (((g1.trans g2).trans g3).trans q3)
      have Q8 := Lib.hid q8
      have Q34 := Lib.hid ((g4.trans (gral u4 (.cells #[.int .i64 c, .int .u32 m] 29))).trans q8)
      clear q3 q4 q8 g1 g2 g3 g4 g5 g6 g7 g8
      go_wp2_with fail
      refine SL.mono ?_; rintro e u9 ⟨rfl, g9⟩
      obtain ⟨x0, x1⟩ := (two_new _ _ _ _ (Q34.out.trans g9)).cells
      obtain ⟨y0, y1⟩ := (two_new _ _ _ _ (Q8.out.trans g9)).cells
      clear SL
      go_wp2_with fail
      refine (length_c size n hk hn _).mono ?_; rintro e u ⟨rfl, rfl⟩
      go_wp2_with fail
      refine (rlength_c size n hk hn _).mono ?_; rintro e u ⟨rfl, rfl⟩
      clear x0 x1 y0 y1
      go_wp2_with fail
      refine (SM.out _ (Q.out.trans g9)).mono ?_; rintro e u10 ⟨rfl, g10⟩
      go_wp2_with fail
      refine (RSM.out _ ((Q.out.trans g9).trans g10)).mono ?_; rintro e u11 ⟨rfl, g11⟩
      go_wp2_with fail
      refine (awake6_c _).mono ?_; rintro e u12 ⟨rfl, g12⟩
      go_wp2_with fail
      go_ret
      exact ⟨rfl, (((Q.out.trans g9).trans g10).trans g11).trans g12⟩
    · rw [hf] at F
      have t1 : decide ((800 : Int) < s.size) = true := by rw [decide_eq_true_iff]; omega
      clear hf
      go_enter Try.func3, Try.ntmps3
      go_wp2_with fail
      refine F.mono ?_; rintro e u ⟨rfl, rfl⟩
      go_wp2_with fail
      refine (awake6_c _).mono ?_; rintro e u7 ⟨rfl, g7⟩
      go_wp2_with fail
      go_ret
      exact ⟨rfl, g7⟩

set_option maxRecDepth 100000 in
theorem lifted (os : Os) (started : os.Started) (H : Type) (enc : TypeId × Value → H) :
    ReturnsInHanded {} Try.checked os 3 .any (Rows.recfileTellsSpec.pre6 enc Try.prog Try.f3 Rows.recfileTellsRow.domain false) (Rows.recfileTellsSpec.post enc Try.prog Try.f3 false true false false) := by
  refine returnsInHanded_of_change (C := Try.checked) own started (by kernel_rfl) Try.func3
    (ChangeSpec.witness6 (enc := enc) (C := Try.checked) false ⟨#[], #[.int .i64 0, .slice none 0 0, .string ByteArray.empty, .int .i64 0], []⟩ 8 (by kernel_rfl) (by kernel_rfl) (by kernel_rfl) (by kernel_rfl)) ?_
  intro W base args ds gs before hval0 hW hcnd _
  have hval : ∀ (j : Nat) t v, Try.f3.params[j]? = some t → args[j]? = some v → Value.okWide Try.prog W .any base t v := hval0
  have hW' := hW
  obtain ⟨p, q, hA0, hV, rfl, hfz, hnd⟩ := hW
  have hA : DataW.TrodAll enc Try.prog W 0 (fun _ => true) true Try.f3.params.toList args.toList ds p := hA0
  rw [Try.params3] at hA hval
  obtain ⟨v0, vs0, d0, ds0, p0, q0, hargs, rfl, rfl, h0, r0⟩ := trodAll_cons hA
  obtain ⟨v1, vs1, d1, ds1, p1, q1, rfl, rfl, rfl, h1, r1⟩ := trodAll_cons r0
  obtain ⟨v2, vs2, d2, ds2, p2, q2, rfl, rfl, rfl, h2, r2⟩ := trodAll_cons r1
  obtain ⟨v3, vs3, d3, ds3, p3, q3, rfl, rfl, rfl, h3, r3⟩ := trodAll_cons r2
  obtain ⟨rfl, rfl, rfl⟩ := trodAll_nil r3
  obtain rfl : args = #[v0, v1, v2, v3] := by cases args; simp_all
  obtain ⟨rfl, rfl⟩ := trodVars_none hV
  have k0 := h0
  have lt0 : ∀ x ∈ p0, x.block < W.heap.size := by obtain ⟨m, hm⟩ := k0; exact DataW.trod_lt m _ _ _ hm
  obtain ⟨n0, e0⟩ := okWide_int Try.underlying3 (hval 0 3 v0 rfl rfl)
  have w0 : Rd Try.prog W 3 v0 := by
    obtain ⟨fuel, hf⟩ := h0
    subst e0
    exact ⟨H, enc, fuel, _, by simpa [Value.cells] using hf⟩
  have k1 := h1
  have lt1 : ∀ x ∈ p1, x.block < W.heap.size := by obtain ⟨m, hm⟩ := k1; exact DataW.trod_lt m _ _ _ hm
  obtain ⟨a1, l1, c1, e1⟩ := okWide_slice Try.underlying22 (hval 1 22 v1 rfl rfl)
  have w1 : Rd Try.prog W 22 v1 := by
    obtain ⟨fuel, hf⟩ := h1
    subst e1
    exact ⟨H, enc, fuel, _, by simpa [Value.cells] using hf⟩
  have k2 := h2
  have lt2 : ∀ x ∈ p2, x.block < W.heap.size := by obtain ⟨m, hm⟩ := k2; exact DataW.trod_lt m _ _ _ hm
  obtain ⟨n2, e2⟩ := okWide_string Try.underlying9 (hval 2 9 v2 rfl rfl)
  have w2 : Rd Try.prog W 9 v2 := by
    obtain ⟨fuel, hf⟩ := h2
    subst e2
    exact ⟨H, enc, fuel, _, by simpa [Value.cells] using hf⟩
  have k3 := h3
  have lt3 : ∀ x ∈ p3, x.block < W.heap.size := by obtain ⟨m, hm⟩ := k3; exact DataW.trod_lt m _ _ _ hm
  obtain ⟨n3, e3⟩ := okWide_int Try.underlying3 (hval 3 3 v3 rfl rfl)
  have w3 : Rd Try.prog W 3 v3 := by
    obtain ⟨fuel, hf⟩ := h3
    subst e3
    exact ⟨H, enc, fuel, _, by simpa [Value.cells] using hf⟩
  clear hA0 hval0
  refine (walk v0 v1 v2 v3 W w0 w1 w2 w3).mono fun e W' ⟨he, bel⟩ => ?_
  subst he
  exact ⟨_, rfl, _, _, _, [], _, [], hW', trodAll_mk1 (shut_bool Try.underlying4 _), (trodAll_cons_mk (Below.trod laidOut (by kernel_rfl) (of_decide_eq_true (by kernel_rfl)) k0 bel lt0) (trodAll_cons_mk (Below.trod laidOut (by kernel_rfl) (of_decide_eq_true (by kernel_rfl)) k1 bel lt1) (trodAll_cons_mk (Below.trod laidOut (by kernel_rfl) (of_decide_eq_true (by kernel_rfl)) k2 bel lt2) (trodAll_cons_mk (Below.trod laidOut (by kernel_rfl) (of_decide_eq_true (by kernel_rfl)) k3 bel lt3) trodAll_mk0)))), rfl, bel.frame _, fun h => by cases h⟩

theorem over : Rows.recfileTellsRow.holds Try.pinned (OpenSpec.ofChange Rows.recfileTellsSpec) :=
  OpenClaim.holds_of_wide 3 Try.f3 rfl rfl rfl rfl rfl rfl rfl ⟨rfl, rfl, rfl, rfl, rfl⟩ rfl rfl rfl rfl rfl (by kernel_rfl) Try.func3 (by kernel_rfl)
    (of_decide_eq_true (by kernel_rfl)) (by unfold Func.isWrapper; first | (rw [if_pos (by decide +kernel)]; kernel_rfl) | (rw [if_neg (by decide +kernel)]; exact ⟨rfl, rfl⟩))
    (fun os started H enc _ => lifted os started H enc)

theorem proved : Rows.RecfileTellsSaid := over
#print axioms proved
end Go.Proofs.Ytckgdnaocmefjaa.recfileTells

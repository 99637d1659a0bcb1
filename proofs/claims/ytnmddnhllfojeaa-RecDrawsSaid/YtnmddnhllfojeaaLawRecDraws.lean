/- Rows.RecDrawsSaid holds: for every input the law returns true and leaves its arguments as they were. Conditions: none beside the row's own. -/
import Derived.Test.YtnmddnhllfojeaaRows
import Derived.WalkKit
import Derived.ProofKit
import Derived.OpenShut
import Derived.ShutString
import Derived.ChangeOld
import Derived.Below
import Derived.Test.YtnmddnhllfojeaaArgs
import Derived.Test.YtnmddnhllfojeaaRcAwake
import Derived.Test.YtnmddnhllfojeaaRcBack
import Derived.Test.YtnmddnhllfojeaaRcDr
namespace Go.Proofs.Ytnmddnhllfojeaa.recDraws
open Go.ChangeShapes Go.WideShapes Go.ChangeAt Go.RowKit
open Go.ChangeMaps (open_string shut_string)
open OctPlain RcPlain
set_option linter.unusedVariables false
set_option linter.unusedSimpArgs false

theorem own : ownKnob Try.prog.godebug = none := by kernel_rfl
theorem laidOut : laidOutB Try.prog = true := by kernel_rfl


set_option maxRecDepth 100000 in
set_option maxHeartbeats 4000000 in
theorem walk (v0 v1 : Value) (w : World) (w0 : RdAgg Try.prog w 31 v0) (w1 : RdAgg Try.prog w 31 v1) :
    Calls Try.prog 6 #[v0, v1] w fun e w' => e = .returned (.bool true) ∧ Gr w w' := by
  obtain ⟨o, k, l, i, rfl, ho, hk, hl, hi⟩ := draw_in w0
  obtain ⟨o', k', l', i', rfl, ho', hk', hl', hi'⟩ := draw_in w1
  clear w0 w1
  obtain ⟨W1, hW1⟩ : ∃ W1, W1 = w.alloc (.cells #[.int .i64 o, .int .i64 k, .int .i64 l, .int .i64 i] 31) := ⟨_, rfl⟩
  obtain ⟨W2, hW2⟩ : ∃ W2, W2 = W1.alloc (.cells #[.int .i64 o', .int .i64 k', .int .i64 l', .int .i64 i'] 31) := ⟨_, rfl⟩
  have z1 : W1.heap.size = w.heap.size + 1 := by rw [hW1]; simp
  have g2 : Gr W1 W2 := by rw [hW2]; exact gral14 _ _
  have g1 : Gr w W2 := Gr.trans (by rw [hW1]; exact gral14 _ _) g2
  have m1 : Four14 w.heap.size 31 (.int .i64 o) (.int .i64 k) (.int .i64 l) (.int .i64 i) W2 := Four14.gr (by rw [hW1]; exact Four14.new _ _ _ _ _ _) g2
  have m2 : Four14 (w.heap.size + 1) 31 (.int .i64 o') (.int .i64 k') (.int .i64 l') (.int .i64 i') W2 := by rw [hW2, ← z1]; exact Four14.new _ _ _ _ _ _
  have HY := Lib.hid (show w.heap.size + 1 < W2.heap.size from lt_of_block m2)
  have M1 := Lib.hid (fun u (g : Gr W2 u) => (m1.gr g).at.1)
  have M2 := Lib.hid (fun u (g : Gr W2 u) => (m2.gr g).at.1)
  rw [hW1] at hW2
  have HW := Lib.hid hW2
  clear hW2 hW1 m1 m2 z1 g2
  have PD := Lib.hid (fun u => putdraw_c o k l i ho hk hl hi u)
  have PD' := Lib.hid (fun u => putdraw_c o' k' l' i' ho' hk' hl' hi' u)
  have GD := Lib.hid (fun (h : drawB o k l i = true) (u : World) => (by
    obtain ⟨e1, e2, e3, e4, e6, e5⟩ := draw_backs hl h
    have := getdraw_c (drawS o k l i) (by omega) u
    rwa [e1, e2, e3, e4, e6] at this :
    Calls Try.prog 22 #[.string (drawS o k l i)] u fun e w' => e = .returned (.tuple #[.agg #[.int .i64 o, .int .i64 k, .int .i64 l, .int .i64 i], .bool true]) ∧ Gr u w'))
  have ZD := Lib.hid (fun (h : drawB o k l i = true) => (by have := (draw_backs hl h).2.2.2.2.2; simp; omega : (((drawS o k l i).size : Int) == 17) = true))
  have LD := Lib.hid (fun (h : drawB o k l i = true) (h' : drawB o' k' l' i' = true) => draw_less hl hl' h h')
  generalize drawS o k l i = s1 at PD GD ZD LD
  generalize drawB o k l i = c1 at PD GD ZD LD
  generalize drawS o' k' l' i' = s2 at PD' LD
  generalize drawB o' k' l' i' = c2 at PD' LD
  have de := draw_eq o k l i
  clear ho hk hl hi ho' hk' hl' hi'
  go_enter Try.func6, Try.ntmps6
  go_wp2_with fail
  rw [← HW.out]
  go_upto_region 1 with (fail)
  go_cut [5, 6] (fun s5 s6 wx => DrSt W2 37 (.int .i64 o) (.int .i64 k) (.int .i64 l) (.int .i64 i) (.int .i64 o') (.int .i64 k') (.int .i64 l') (.int .i64 i') s5 s6 wx)
  case first =>
    have y2 : w.heap.size + 1 < W2.heap.size := HY.out
    have y1 : w.heap.size < W2.heap.size := by omega
    obtain ⟨c1, c2, c3, c4⟩ := M1.out _ (Gr.refl _)
    obtain ⟨d1, d2, d3, d4⟩ := M2.out _ (Gr.refl _)
    have SH := Lib.hid (fun u (g : Gr W2 u) => (⟨g, M1.out u (g), M2.out u (g)⟩ : Gr W2 u ∧ (u.cell? ⟨w.heap.size, 0, none⟩ = some (.int .i64 o) ∧ u.cell? ⟨w.heap.size, 1, none⟩ = some (.int .i64 k) ∧ u.cell? ⟨w.heap.size, 2, none⟩ = some (.int .i64 l) ∧ u.cell? ⟨w.heap.size, 3, none⟩ = some (.int .i64 i)) ∧ u.cell? ⟨w.heap.size + 1, 0, none⟩ = some (.int .i64 o') ∧ u.cell? ⟨w.heap.size + 1, 1, none⟩ = some (.int .i64 k') ∧ u.cell? ⟨w.heap.size + 1, 2, none⟩ = some (.int .i64 l') ∧ u.cell? ⟨w.heap.size + 1, 3, none⟩ = some (.int .i64 i')))
    go_region_held3 (fun u => Gr W2 u ∧ (u.cell? ⟨w.heap.size, 0, none⟩ = some (.int .i64 o) ∧ u.cell? ⟨w.heap.size, 1, none⟩ = some (.int .i64 k) ∧ u.cell? ⟨w.heap.size, 2, none⟩ = some (.int .i64 l) ∧ u.cell? ⟨w.heap.size, 3, none⟩ = some (.int .i64 i)) ∧ u.cell? ⟨w.heap.size + 1, 0, none⟩ = some (.int .i64 o') ∧ u.cell? ⟨w.heap.size + 1, 1, none⟩ = some (.int .i64 k') ∧ u.cell? ⟨w.heap.size + 1, 2, none⟩ = some (.int .i64 l') ∧ u.cell? ⟨w.heap.size + 1, 3, none⟩ = some (.int .i64 i'))
      (first | exact SH.out _ (by repeat (first | assumption | exact Gr.refl _ | refine Below.drew ?_ | refine Gr.trans ?_ (gral14 _ _) | refine Below.setCell ?_ (by simp) _)) | go_keep)
      ((first | (fail_if_success skip)))
    all_goals
      go_wp2_with fail
      go_meet
    · exact drSt_one W2 _ _ _ _ _ _ _ _ _
    · exact drSt_two W2 _ _ _ _ _ _ _ _ _
  case rest =>
  obtain ⟨p, q, rfl, rfl, hp, hq, mp, mq, g3⟩ := hcut
  have MP := Lib.hid (fun u (g : Gr wc u) => (mp.gr g).at.1)
  have MQ := Lib.hid (fun u (g : Gr wc u) => (mq.gr g).at.1)
  have HP := Lib.hid (fun u (g : Gr wc u) => Nat.lt_of_lt_of_le (lt_of_block mp) g.size)
  clear mp mq
  obtain ⟨a1, a2, a3, a4⟩ := MP.out _ (Gr.refl _)
  go_wp2_with fail
  refine (PD.out _).mono ?_; rintro e u1 ⟨rfl, h1⟩
  clear a1 a2 a3 a4
  obtain ⟨a1, a2, a3, a4⟩ := MQ.out _ h1
  go_wp2_with fail
  refine (PD'.out _).mono ?_; rintro e u2 ⟨rfl, h2⟩
  clear a1 a2 a3 a4
  have h2 := h1.trans h2
  clear h1
  cases c1
  · go_wp2_with fail
    refine (awake14_c _).mono ?_; rintro e u9 ⟨rfl, h9⟩
    go_wp2_with fail
    go_ret
    exact ⟨rfl, (g1.trans g3).trans (h2.trans h9)⟩
  · cases c2
    · go_wp2_with fail
      refine (awake14_c _).mono ?_; rintro e u9 ⟨rfl, h9⟩
      go_wp2_with fail
      go_ret
      exact ⟨rfl, (g1.trans g3).trans (h2.trans h9)⟩
    · go_wp2_with fail
      refine (GD.out (by simp) _).mono ?_; rintro e u3 ⟨rfl, h3⟩
      have h3 := h2.trans h3
      clear h2
      obtain ⟨V, hV⟩ : ∃ V, V = u3.alloc (.cells #[.int .i64 o, .int .i64 k, .int .i64 l, .int .i64 i] 37) := ⟨_, rfl⟩
      have mz : Four14 u3.heap.size 37 (.int .i64 o) (.int .i64 k) (.int .i64 l) (.int .i64 i) V := by rw [hV]; exact Four14.new _ _ _ _ _ _
      have h4 : Gr wc V := h3.trans (by rw [hV]; exact gral14 _ _)
      have h5 : Gr W2 V := g3.trans h4
      have MZ := Lib.hid (fun u (g : Gr V u) => (mz.gr g).at.1)
      have HV := Lib.hid hV
      clear hV mz
      go_upto_region 7 with (fail)
      rw [← HV.out]
      go_cut [13, 14] (fun s5 s6 wx => DrSt V 54 (.int .i64 o) (.int .i64 k) (.int .i64 l) (.int .i64 i) (.int .i64 o') (.int .i64 k') (.int .i64 l') (.int .i64 i') s5 s6 wx)
      case first =>
        have y2 : w.heap.size + 1 < V.heap.size := Nat.lt_of_lt_of_le HY.out h5.size
        have y1 : w.heap.size < V.heap.size := by omega
        obtain ⟨c1, c2, c3, c4⟩ := M1.out _ h5
        obtain ⟨d1, d2, d3, d4⟩ := M2.out _ h5
        have SH := Lib.hid (fun u (g : Gr V u) => (⟨g, M1.out u (h5.trans g), M2.out u (h5.trans g)⟩ : Gr V u ∧ (u.cell? ⟨w.heap.size, 0, none⟩ = some (.int .i64 o) ∧ u.cell? ⟨w.heap.size, 1, none⟩ = some (.int .i64 k) ∧ u.cell? ⟨w.heap.size, 2, none⟩ = some (.int .i64 l) ∧ u.cell? ⟨w.heap.size, 3, none⟩ = some (.int .i64 i)) ∧ u.cell? ⟨w.heap.size + 1, 0, none⟩ = some (.int .i64 o') ∧ u.cell? ⟨w.heap.size + 1, 1, none⟩ = some (.int .i64 k') ∧ u.cell? ⟨w.heap.size + 1, 2, none⟩ = some (.int .i64 l') ∧ u.cell? ⟨w.heap.size + 1, 3, none⟩ = some (.int .i64 i')))
        go_region_held3 (fun u => Gr V u ∧ (u.cell? ⟨w.heap.size, 0, none⟩ = some (.int .i64 o) ∧ u.cell? ⟨w.heap.size, 1, none⟩ = some (.int .i64 k) ∧ u.cell? ⟨w.heap.size, 2, none⟩ = some (.int .i64 l) ∧ u.cell? ⟨w.heap.size, 3, none⟩ = some (.int .i64 i)) ∧ u.cell? ⟨w.heap.size + 1, 0, none⟩ = some (.int .i64 o') ∧ u.cell? ⟨w.heap.size + 1, 1, none⟩ = some (.int .i64 k') ∧ u.cell? ⟨w.heap.size + 1, 2, none⟩ = some (.int .i64 l') ∧ u.cell? ⟨w.heap.size + 1, 3, none⟩ = some (.int .i64 i'))
          (first | exact SH.out _ (by repeat (first | assumption | exact Gr.refl _ | refine Below.drew ?_ | refine Gr.trans ?_ (gral14 _ _) | refine Below.setCell ?_ (by simp) _)) | go_keep)
          ((first | (fail_if_success skip)))
        all_goals
          go_wp2_with fail
          go_meet
        · exact drSt_one V _ _ _ _ _ _ _ _ _
        · exact drSt_two V _ _ _ _ _ _ _ _ _
      case rest =>
      obtain ⟨r, t, rfl, rfl, hr, ht, mr, mt, h6⟩ := hcut
      have MR := Lib.hid (fun u (g : Gr wc u) => (fun j (hj : j < 4) => four_nth (mr.gr g) hj))
      have MT := Lib.hid (fun u (g : Gr wc u) => (fun j (hj : j < 4) => four_nth (mt.gr g) hj))
      clear mr mt
      go_wp2_with fail
      go_loopw [15, 16] (fun sl si wr => DrAt wc o k l i o' k' l' i' sl si wr) (fun _ si _ => 4 - (intOf si).toNat)
      case atStart => exact ⟨0, by omega, rfl, rfl, fun q hq => by omega, Gr.refl _⟩
      case round =>
        obtain ⟨j, hj, rfl, rfl, heq, g7⟩ := hrel
        by_cases hlt : j < 4
        · have ca := MR.out _ g7 j hlt
          have cb := MT.out _ g7 j hlt
          by_cases hxy : nthD o k l i j = nthD o' k' l' i' j
          · have HE := Lib.hid (show ∀ q, q < j + 1 → nthD o k l i q = nthD o' k' l' i' q from fun q hq => by
              rcases Nat.lt_succ_iff_lt_or_eq.1 hq with h | h
              · exact heq q h
              · rw [h]; exact hxy)
            generalize nthD o k l i j = x at ca hxy
            generalize nthD o' k' l' i' j = y at cb hxy
            subst hxy
            have t1 : (x != x) = false := by simp
            clear heq
            go_wp2_with fail
            go_quiet (fail)
            go_wp2_with fail
            refine ⟨⟨j + 1, by omega, rfl, rfl, HE.out, g7.trans (grN _ _)⟩, ?_⟩
            simp [intOf]; omega
          · have hls := less_at hlt heq hxy
            generalize nthD o k l i j = x at ca hxy hls
            generalize nthD o' k' l' i' j = y at cb hxy hls
            have t1 : (x != y) = true := by simp; exact hxy
            obtain ⟨L, hL⟩ : ∃ L, decide (x < y) = L := ⟨_, rfl⟩
            have hl := LD.out (by simp) (by simp)
            rw [hls, hL] at hl
            have zd := ZD.out (by simp)
            have q1 : (L == L) = true := by simp
            have h8 : Gr _ wr := h6.trans g7
            obtain ⟨z1, z2, z3, z4⟩ := MZ.out _ h8
            obtain ⟨a1, a2, a3, a4⟩ := MP.out _ (h4.trans h8)
            clear heq hls
            go_wp2_with fail
            go_quiet (fail)
            go_wp2_with fail
            go_quiet (fail)
            go_wp2_with fail
            refine (awake14_c _).mono ?_; rintro e u9 ⟨rfl, h9⟩
            go_wp2_with fail
            go_ret
            refine ⟨rfl, (g1.trans (h5.trans h8)).trans (Gr.trans ?_ h9)⟩
            first | exact (grN _ _).trans (grN _ _) | exact grN _ _
        · obtain rfl : j = 4 := by omega
          have hls := less_end heq
          have hl := LD.out (by simp) (by simp)
          rw [hls] at hl
          have zd := ZD.out (by simp)
          have h8 : Gr _ wr := h6.trans g7
          obtain ⟨z1, z2, z3, z4⟩ := MZ.out _ h8
          obtain ⟨a1, a2, a3, a4⟩ := MP.out _ (h4.trans h8)
          clear heq hls
          go_wp2_with fail
          refine (awake14_c _).mono ?_; rintro e u9 ⟨rfl, h9⟩
          go_wp2_with fail
          go_ret
          exact ⟨rfl, (g1.trans (h5.trans h8)).trans h9⟩

set_option maxRecDepth 100000 in
theorem lifted (os : Os) (started : os.Started) (H : Type) (enc : TypeId × Value → H) :
    ReturnsInHanded {} Try.checked os 6 .any (Rows.recDrawsSpec.pre6 enc Try.prog Try.f6 Rows.recDrawsRow.domain false) (Rows.recDrawsSpec.post enc Try.prog Try.f6 false true false false) := by
  refine returnsInHanded_of_change (C := Try.checked) own started (by kernel_rfl) Try.func6
    (ChangeSpec.witness6 (enc := enc) (C := Try.checked) false ⟨#[], #[.agg #[.int .i64 0, .int .i64 0, .int .i64 0, .int .i64 0], .agg #[.int .i64 0, .int .i64 0, .int .i64 0, .int .i64 0]], []⟩ 8 (by kernel_rfl) (by kernel_rfl) (by kernel_rfl) (by kernel_rfl)) ?_
  intro W base args ds gs before hval0 hW hcnd _
  have hval : ∀ (j : Nat) t v, Try.f6.params[j]? = some t → args[j]? = some v → Value.okWide Try.prog W .any base t v := hval0
  have hW' := hW
  obtain ⟨p, q, hA0, hV, rfl, hfz, hnd⟩ := hW
  have hA : DataW.TrodAll enc Try.prog W 0 (fun _ => true) true Try.f6.params.toList args.toList ds p := hA0
  rw [Try.params6] at hA hval
  obtain ⟨v0, vs0, d0, ds0, p0, q0, hargs, rfl, rfl, h0, r0⟩ := trodAll_cons hA
  obtain ⟨v1, vs1, d1, ds1, p1, q1, rfl, rfl, rfl, h1, r1⟩ := trodAll_cons r0
  obtain ⟨rfl, rfl, rfl⟩ := trodAll_nil r1
  obtain rfl : args = #[v0, v1] := by cases args; simp_all
  obtain ⟨rfl, rfl⟩ := trodVars_none hV
  have k0 := h0
  have lt0 : ∀ x ∈ p0, x.block < W.heap.size := by obtain ⟨m, hm⟩ := k0; exact DataW.trod_lt m _ _ _ hm
  have w0 : RdAgg Try.prog W 31 v0 := rd_agg Try.underlying31 (by kernel_rfl) (by kernel_rfl) (hval 0 31 v0 rfl rfl) h0
  have k1 := h1
  have lt1 : ∀ x ∈ p1, x.block < W.heap.size := by obtain ⟨m, hm⟩ := k1; exact DataW.trod_lt m _ _ _ hm
  have w1 : RdAgg Try.prog W 31 v1 := rd_agg Try.underlying31 (by kernel_rfl) (by kernel_rfl) (hval 1 31 v1 rfl rfl) h1
  clear hA0 hval0
  refine (walk v0 v1 W w0 w1).mono fun e W' ⟨he, bel⟩ => ?_
  subst he
  exact ⟨_, rfl, _, _, _, [], _, [], hW', trodAll_mk1 (shut_bool Try.underlying4 _), (trodAll_cons_mk (Below.trod laidOut (by kernel_rfl) (of_decide_eq_true (by kernel_rfl)) k0 bel lt0) (trodAll_cons_mk (Below.trod laidOut (by kernel_rfl) (of_decide_eq_true (by kernel_rfl)) k1 bel lt1) trodAll_mk0)), rfl, bel.frame _, fun h => by cases h⟩

theorem over : Rows.recDrawsRow.holds Try.pinned (OpenSpec.ofChange Rows.recDrawsSpec) :=
  OpenClaim.holds_of_wide 6 Try.f6 rfl rfl rfl rfl rfl rfl rfl ⟨rfl, rfl, rfl, rfl, rfl⟩ rfl rfl rfl rfl rfl (by kernel_rfl) Try.func6 (by kernel_rfl)
    (of_decide_eq_true (by kernel_rfl)) (by unfold Func.isWrapper; first | (rw [if_pos (by decide +kernel)]; kernel_rfl) | (rw [if_neg (by decide +kernel)]; exact ⟨rfl, rfl⟩))
    (fun os started H enc _ => lifted os started H enc)

theorem proved : Rows.RecDrawsSaid := over
#print axioms proved
end Go.Proofs.Ytnmddnhllfojeaa.recDraws

/- Rows.CellGoesSaid holds: for every input the law returns true and leaves its arguments as they were. Conditions: none beside the row's own. -/
import Derived.Test.YtipfdildnnfmkaaRows
import Derived.WalkKit
import Derived.ProofKit
import Derived.OpenShut
import Derived.ShutString
import Derived.ChangeOld
import Derived.Below
import Derived.Test.YtipfdildnnfmkaaArgs
import Derived.Test.YtipfdildnnfmkaaCeGoes
import Derived.Test.YtipfdildnnfmkaaText
namespace Go.Proofs.Ytipfdildnnfmkaa.cellGoes
open Go.ChangeShapes Go.WideShapes Go.ChangeAt Go.RowKit
open Go.ChangeMaps (open_string shut_string)
open DiPlain NumPlain CePlain Flt
set_option linter.unusedVariables false
set_option linter.unusedSimpArgs false

theorem own : ownKnob Try.prog.godebug = none := by kernel_rfl
theorem laidOut : laidOutB Try.prog = true := by kernel_rfl


set_option maxRecDepth 100000 in
set_option maxHeartbeats 8000000 in
theorem walk (v0 v1 v2 : Value) (w : World) (w0 : RdAgg Try.prog w 24 v0) (w1 : Rd Try.prog w 31 v1) (w2 : Rd Try.prog w 31 v2) :
    Calls Try.prog 4 #[v0, v1, v2] w fun e w' => e = .returned (.bool true) ∧ Gr w w' := by
  obtain ⟨px, py, rfl, hpx, hpy⟩ := place_in w0
  obtain ⟨x, rfl, hx0⟩ := rd_int Try.underlying31 w1
  obtain ⟨y, rfl, hy0⟩ := rd_int Try.underlying31 w2
  obtain ⟨bx1, bx2⟩ := bounds_i8 hx0
  obtain ⟨by1, by2⟩ := bounds_i8 hy0
  clear w0 w1 w2 hx0 hy0 hpx hpy
  have AW := Lib.hid (fun u => awake23_c u)
  have WA := Lib.hid (fun u => ways23_c u)
  have SP := Lib.hid (fun u => rsteps23_c u)
  have RG := Lib.hid (fun (i : Int) (hi : -1 ≤ i ∧ i < 4) (t : World) => rgo23_c i hi px py t)
  go_enter Try.func4, Try.ntmps4
  go_wp2_with fail
  obtain ⟨V, hV⟩ : ∃ V, w.alloc (.cells #[.int .i64 px, .int .i64 py] 24) = V := ⟨_, rfl⟩
  have AT := Lib.hid (fun u (g : Gr (w.alloc (.cells #[.int .i64 px, .int .i64 py] 24)) u) => (pl_cells (pl_new23 w px py u g)))
  have GV := Lib.hid (gr23 w (.cells #[.int .i64 px, .int .i64 py] 24))
  rw [hV] at AT GV ⊢
  refine (WA.out V).mono ?_; rintro e u1 ⟨rfl, g1⟩
  unfold waysV
  have G1 := Lib.hid g1
  clear g1 hV
  go_wp2_with fail
  obtain ⟨W0, hW0⟩ : ∃ W, u1.alloc (.cells ways4 33) = W := ⟨_, rfl⟩
  obtain ⟨zw, hzw⟩ : ∃ z, u1.heap.size = z := ⟨_, rfl⟩
  have CW := Lib.hid (fun u (g : Gr (u1.alloc (.cells ways4 33)) u) => (Below.block g u1.heap.size (by simp)).trans (heap_alloc_new u1 _))
  have CP := Lib.hid (fun u (g : Gr (u1.alloc (.cells ways4 33)) u) => AT.out u (G1.out.trans ((gr23 u1 _).trans g)))
  have GW := Lib.hid (GV.out.trans (G1.out.trans (gr23 u1 (.cells ways4 33))))
  rw [hW0] at CW CP GW
  rw [hzw] at CW
  rw [show u1.alloc (.cells #[.complex .f64 4607182418800017408 0, .complex .f64 13830554455654793216 4607182418800017408, .complex .f64 0 4607182418800017408, .complex .f64 4607182418800017408 4607182418800017408] 33) = W0 from hW0, hzw]
  clear hW0 hzw G1 AT GV
  go_loopw [8] (fun iv wr => ∃ i : Int, -1 ≤ i ∧ i ≤ 4 ∧ iv = .int .i64 i ∧ Gr W0 wr) (fun iv _ => (4 - intOf iv).toNat)
  case atStart => exact ⟨-1, by omega, by omega, rfl, Gr.refl _⟩
  case round =>
    obtain ⟨i, hi1, hi2, rfl, g7⟩ := hrel
    have G7 := Lib.hid g7
    clear g7
    by_cases hlt : i < 4
    · have R2 := Lib.hid (RG.out i ⟨hi1, hlt⟩)
      obtain ⟨p0, p1, _, _⟩ := CP.out wr G7.out
      have KC := Lib.hid (fun u (g : Gr wr u) => (⟨(CP.out u (G7.out.trans g)).1, (CP.out u (G7.out.trans g)).2.1⟩ : u.cell? ⟨w.heap.size, 0, none⟩ = some (.int .i64 px) ∧ u.cell? ⟨w.heap.size, 1, none⟩ = some (.int .i64 py)))
      obtain ⟨gx, hgx⟩ : ∃ v, goX px py (growX i) (growY i) = v := ⟨_, rfl⟩
      obtain ⟨gy, hgy⟩ : ∃ v, goY px py (growX i) (growY i) = v := ⟨_, rfl⟩
      obtain ⟨gb, hgb⟩ : ∃ v, goB px py (growX i) (growY i) = v := ⟨_, rfl⟩
      rw [hgx, hgy, hgb] at R2
      have NE := pl_neq gx gy gx gy true (by simp)
      have q1 : (i : Int) < 4 := hlt
      have main : ∃ A B, (∀ t, Calls Try.prog 17 #[.agg #[.int .i64 px, .int .i64 py], .complex .f64 A B] t fun e w' => e = .returned (.tuple #[.agg #[.int .i64 gx, .int .i64 gy], .bool gb]) ∧ Gr t w') ∧ ((i < 0 ∧ A = 0 ∧ B = 0) ∨ (0 ≤ i ∧ wr.cell? ⟨zw, i.toNat, none⟩ = some (.complex .f64 A B))) := by
        by_cases hneg : i < 0
        · obtain rfl : i = -1 := by omega
          refine ⟨0, 0, fun t => ?_, .inl ⟨by omega, rfl, rfl⟩⟩
          have h := go23_c rep_zero rep_zero px py t
          rw [show growX (-1) = 0 from rfl, show growY (-1) = 0 from rfl] at hgx hgy hgb
          rw [hgx, hgy, hgb] at h
          exact h
        · obtain ⟨j, rfl⟩ : ∃ j : Nat, i = j := ⟨i.toNat, by omega⟩
          have hj : j < 4 := by omega
          refine ⟨wayA j, wayB j, fun t => ?_, .inr ⟨by omega, by rw [Int.toNat_natCast]; exact way_cell (CW.out wr G7.out) hj⟩⟩
          have h := go23_c (way_rep hj).1 (way_rep hj).2 px py t
          rw [(grow_nat j).1, (grow_nat j).2] at hgx hgy hgb
          rw [hgx, hgy, hgb] at h
          exact h
      obtain ⟨A, B, hgo, hcase⟩ := main
      have GO := Lib.hid hgo
      clear hgo hgx hgy hgb
      have eb : (gb != gb) = false := by cases gb <;> rfl
      rcases hcase with ⟨hneg, rfl, rfl⟩ | ⟨hpos, hcell⟩
      all_goals
        go_wp2_with fail
        refine (GO.out _).mono ?_; rintro e u2 ⟨rfl, g2⟩
        obtain ⟨a0, a1⟩ := KC.out _ (g2.trans (gr23 u2 (.cells #[.int .i64 gx, .int .i64 gy] 24)))
        have N2 := Lib.hid (pl_new23 u2 gx gy)
        have G2 := Lib.hid (g2.trans (gr23 u2 (.cells #[.int .i64 gx, .int .i64 gy] 24)))
        clear g2
        go_wp2_with fail
        refine (R2.out _).mono ?_; rintro e u3 ⟨rfl, g3⟩
        obtain ⟨b0, b1, _, _⟩ := pl_cells (N2.out _ (g3.trans (gr23 u3 (.cells #[.int .i64 gx, .int .i64 gy] 24))))
        have G3 := Lib.hid (G7.out.trans (G2.out.trans (g3.trans (gr23 u3 (.cells #[.int .i64 gx, .int .i64 gy] 24)))))
        clear g3
        go_wp2_with fail
        go_roundw
        case rel => exact ⟨i + 1, by omega, by omega, rfl, G3.out⟩
        case measure => simp [intOf]; omega
    · obtain rfl : i = 4 := by omega
      clear RG hi1 hi2 hlt
      go_upto_region 12 with (fail)
      go_cut [14] (fun v wx => v = .bool (knB x y 0) ∧ wx = wr)
      case first =>
        by_cases h1 : x = 0
        · by_cases h2 : y = 0
          · have hk : knB x y 0 = true := by unfold knB; rw [decide_eq_true h1, decide_eq_true h2]; rfl
            have HK := Lib.hid hk
            subst h1 h2
            clear hk
            go_wp2_with fail
            go_meet
            exact ⟨by rw [HK.out], rfl⟩
          · have hk : knB x y 0 = false := by unfold knB; rw [decide_eq_false h2, Bool.and_false]
            have HK := Lib.hid hk
            have e1 : (y == 0) = false := by simpa using h2
            subst h1
            clear hk
            go_wp2_with fail
            go_meet
            exact ⟨by rw [HK.out], rfl⟩
        · have hk : knB x y 0 = false := by unfold knB; rw [decide_eq_false h1]; rfl
          have HK := Lib.hid hk
          have e1 : (x == 0) = false := by simpa using h1
          clear hk
          go_wp2_with fail
          go_meet
          exact ⟨by rw [HK.out], rfl⟩
      case rest =>
      obtain ⟨rfl, rfl⟩ := hcut
      rename World => wC
      go_wp2_with fail
      refine (SP.out _).mono ?_; rintro e u2 ⟨rfl, hu2⟩
      have ST := Lib.hid (fun (j : Nat) (hj : j < 4) u (g : Gr u2 u) => steps_at (V := wC) hj u (hu2 ▸ g))
      have G2 := Lib.hid (show Gr W0 u2 from hu2 ▸ G7.out.trans (gr23 _ _))
      obtain ⟨zs, hzs⟩ : ∃ z, wC.heap.size = z := ⟨_, rfl⟩
      rw [hzs] at ST ⊢
      clear hu2 hzs
      go_wp2_with fail
      go_loopw [14, 16] (fun kv iv wr => ∃ j : Nat, j ≤ 4 ∧ kv = .bool (knB x y j) ∧ iv = .int .i64 (j : Int) ∧ Gr u2 wr) (fun _ iv _ => (4 - intOf iv).toNat)
      case atStart => exact ⟨0, by omega, rfl, rfl, Gr.refl _⟩
      case round =>
        obtain ⟨j, hj, rfl, rfl, g8⟩ := hrel
        have G8 := Lib.hid g8
        clear g8
        by_cases hlt : j < 4
        · have hks : knB x y (j + 1) = (knB x y j || (decide (x = stepX j) && decide (y = stepY j))) := rfl
          obtain ⟨fw1, fw2⟩ := float_way hlt
          have KC := Lib.hid (fun u (g : Gr wr u) => (⟨g, way_cell (CW.out u (G2.out.trans (G8.out.trans g))) hlt, ST.out j hlt u (G8.out.trans g)⟩ : Gr wr u ∧ u.cell? ⟨zw, j, none⟩ = some (.complex .f64 (wayA j) (wayB j)) ∧ u.cell? ⟨zs, j * 2, none⟩ = some (.int .i64 (stepX j)) ∧ u.cell? ⟨zs, j * 2 + 1, none⟩ = some (.int .i64 (stepY j))))
          obtain ⟨A, hA⟩ : ∃ v, wayA j = v := ⟨_, rfl⟩
          obtain ⟨B, hB⟩ : ∃ v, wayB j = v := ⟨_, rfl⟩
          obtain ⟨sx, hsx⟩ : ∃ v, stepX j = v := ⟨_, rfl⟩
          obtain ⟨sy, hsy⟩ : ∃ v, stepY j = v := ⟨_, rfl⟩
          obtain ⟨k, hk⟩ : ∃ v, knB x y j = v := ⟨_, rfl⟩
          obtain ⟨k', hk'⟩ : ∃ v, knB x y (j + 1) = v := ⟨_, rfl⟩
          rw [hA, hsx] at fw1
          rw [hB, hsy] at fw2
          rw [hA, hB, hsx, hsy] at KC
          rw [hk, hk', hsx, hsy] at hks
          rw [hk]
          have HK := Lib.hid hks
          have HK' := Lib.hid hk'
          have q1 : (j : Int) < 4 := by omega
          obtain ⟨_, _, s0, s1⟩ := KC.out wr (Gr.refl _)
          clear hA hB hsx hsy hk hks hk' hj hlt
          go_upto_region 17 with (fail)
          go_cut [14] from 58 to 106 (fun v wx => v = .bool k' ∧ wx = wr)
          case first =>
            have HK := Lib.hid HK.out
            clear fw1 fw2 KC
            cases k with
            | true =>
              go_wp2_with fail
              go_meet
              exact ⟨by rw [HK.out]; rfl, rfl⟩
            | false =>
              by_cases h1 : x = sx
              · by_cases h2 : y = sy
                · have H := Lib.hid (show k' = true by rw [HK.out, decide_eq_true h1, decide_eq_true h2]; rfl)
                  subst h1 h2
                  go_wp2_with fail
                  go_meet
                  exact ⟨by rw [H.out], rfl⟩
                · have H := Lib.hid (show k' = false by rw [HK.out, decide_eq_false h2, Bool.and_false]; rfl)
                  have e1 : (y == sy) = false := by simpa using h2
                  subst h1
                  go_wp2_with fail
                  go_meet
                  exact ⟨by rw [H.out], rfl⟩
              · have H := Lib.hid (show k' = false by rw [HK.out, decide_eq_false h1]; rfl)
                have e1 : (x == sx) = false := by simpa using h1
                go_wp2_with fail
                go_meet
                exact ⟨by rw [H.out], rfl⟩
          case rest =>
          obtain ⟨rfl, rfl⟩ := hcut
          rename World => wD
          obtain ⟨fx, hfx⟩ : ∃ v, floatOfInt .f64 sx = v := ⟨_, rfl⟩
          obtain ⟨fy, hfy⟩ : ∃ v, floatOfInt .f64 sy = v := ⟨_, rfl⟩
          rw [hfx] at fw1
          rw [hfy] at fw2
          have fz1 : (FloatKind.f64.format.order A fx == some Ordering.eq) = true := by simpa [bne] using fw1
          have fz2 : (FloatKind.f64.format.order B fy == some Ordering.eq) = true := by simpa [bne] using fw2
          have gd : Gr wD wD.drew := Below.drew (Gr.refl _)
          clear s0 s1 HK
          go_wp2_with fail
          refine text_region (S := fun u => Gr wD u ∧ u.cell? ⟨zw, j, none⟩ = some (.complex .f64 A B) ∧ u.cell? ⟨zs, j * 2, none⟩ = some (.int .i64 sx) ∧ u.cell? ⟨zs, j * 2 + 1, none⟩ = some (.int .i64 sy)) (by kernel_rfl) (by kernel_rfl) (by kernel_rfl) (KC.out _ gd) ?_
          iterate 24 (refine text_val (v := ?_) (by rfl) ?_ ?_; rotate_left 1; (· intro u hu; (try dsimp only at hu); go_simp <;> with_reducible rfl); (try simp only [Act.put, List.setIfInBounds_toArray, List.set_cons_zero, List.set_cons_succ]))
          refine text_done (fun u hu => ?_)
          have gu := Lib.hid hu.1
          clear hu
          go_wp2_with fail
          go_roundw
          case rel => exact ⟨j + 1, by omega, by rw [HK'.out], rfl, G8.out.trans gu.out⟩
          case measure => simp [intOf]; omega
        · obtain rfl : j = 4 := by omega
          have hkl := kn_four x y
          obtain ⟨kl, hl⟩ : ∃ v, ledB x y = v := ⟨_, rfl⟩
          obtain ⟨m, hm⟩ : ∃ v, (mayB px && mayB py) = v := ⟨_, rfl⟩
          have hgb : goB px py x y = (m && kl) := by unfold goB; rw [hm, hl]
          have hgr : goB px py (growX (-1)) (growY (-1)) = m := by rw [go_grow (by omega), hm]
          have GO := Lib.hid (fun t => go23_c (go_float (n := x) (by omega)) (go_float (n := y) (by omega)) px py t)
          have R2 := Lib.hid (fun t => rgo23_c (-1) (by omega) px py t)
          rw [hgb] at GO
          rw [hgr] at R2
          rw [hkl, hl]
          obtain ⟨gx, hgx⟩ : ∃ v, goX px py x y = v := ⟨_, rfl⟩
          obtain ⟨gy, hgy⟩ : ∃ v, goY px py x y = v := ⟨_, rfl⟩
          obtain ⟨rx, hrx⟩ : ∃ v, goX px py (growX (-1)) (growY (-1)) = v := ⟨_, rfl⟩
          obtain ⟨ry, hry⟩ : ∃ v, goY px py (growX (-1)) (growY (-1)) = v := ⟨_, rfl⟩
          rw [hgx, hgy] at GO
          rw [hrx, hry] at R2
          obtain ⟨fx, hfx⟩ : ∃ v, floatOfInt .f64 x = v := ⟨_, rfl⟩
          obtain ⟨fy, hfy⟩ : ∃ v, floatOfInt .f64 y = v := ⟨_, rfl⟩
          rw [hfx, hfy] at GO
          have gwr := G2.out.trans G8.out
          have KC := Lib.hid (fun u (g : Gr wr u) => (⟨(CP.out u (gwr.trans g)).1, (CP.out u (gwr.trans g)).2.1⟩ : u.cell? ⟨w.heap.size, 0, none⟩ = some (.int .i64 px) ∧ u.cell? ⟨w.heap.size, 1, none⟩ = some (.int .i64 py)))
          have GG := Lib.hid (GW.out.trans gwr)
          obtain ⟨p0, p1⟩ := KC.out wr (Gr.refl _)
          clear hkl hl hm hgb hgr hgx hgy hrx hry hj hlt gwr CP CW ST G2 G7 G8 GW SP WA
          go_wp2_with fail
          refine (GO.out _).mono ?_; rintro e u3 ⟨rfl, g3⟩
          obtain ⟨a0, a1⟩ := KC.out _ (g3.trans (gr23 u3 (.cells #[.int .i64 gx, .int .i64 gy] 24)))
          have G3 := Lib.hid (GG.out.trans (g3.trans (gr23 u3 (.cells #[.int .i64 gx, .int .i64 gy] 24))))
          clear g3
          go_wp2_with fail
          refine (R2.out _).mono ?_; rintro e u4 ⟨rfl, g4⟩
          have G4 := Lib.hid (G3.out.trans (g4.trans (gr23 u4 (.cells #[.int .i64 rx, .int .i64 ry] 24))))
          clear g4 a0 a1
          cases m <;> cases kl
          all_goals
            go_wp2_with fail
            refine (AW.out _).mono ?_; rintro e u5 ⟨rfl, g5⟩
            have G5 := Lib.hid (G4.out.trans g5)
            clear g5
            go_wp2_with fail
            go_ret
            exact ⟨rfl, G5.out⟩

set_option maxRecDepth 100000 in
theorem lifted (os : Os) (started : os.Started) (H : Type) (enc : TypeId × Value → H) :
    ReturnsInHanded {} Try.checked os 4 .any (Rows.cellGoesSpec.pre6 enc Try.prog Try.f4 Rows.cellGoesRow.domain false) (Rows.cellGoesSpec.post enc Try.prog Try.f4 false true false false) := by
  refine returnsInHanded_of_change (C := Try.checked) own started (by kernel_rfl) Try.func4
    (ChangeSpec.witness6 (enc := enc) (C := Try.checked) false ⟨#[], #[.agg #[.int .i64 0, .int .i64 0], .int .i8 0, .int .i8 0], []⟩ 8 (by kernel_rfl) (by kernel_rfl) (by kernel_rfl) (by kernel_rfl)) ?_
  intro W base args ds gs before hval0 hW hcnd _
  have hval : ∀ (j : Nat) t v, Try.f4.params[j]? = some t → args[j]? = some v → Value.okWide Try.prog W .any base t v := hval0
  have hW' := hW
  obtain ⟨p, q, hA0, hV, rfl, hfz, hnd⟩ := hW
  have hA : DataW.TrodAll enc Try.prog W 0 (fun _ => true) true Try.f4.params.toList args.toList ds p := hA0
  rw [Try.params4] at hA hval
  obtain ⟨v0, vs0, d0, ds0, p0, q0, hargs, rfl, rfl, h0, r0⟩ := trodAll_cons hA
  obtain ⟨v1, vs1, d1, ds1, p1, q1, rfl, rfl, rfl, h1, r1⟩ := trodAll_cons r0
  obtain ⟨v2, vs2, d2, ds2, p2, q2, rfl, rfl, rfl, h2, r2⟩ := trodAll_cons r1
  obtain ⟨rfl, rfl, rfl⟩ := trodAll_nil r2
  obtain rfl : args = #[v0, v1, v2] := by cases args; simp_all
  obtain ⟨rfl, rfl⟩ := trodVars_none hV
  have k0 := h0
  have lt0 : ∀ x ∈ p0, x.block < W.heap.size := by obtain ⟨m, hm⟩ := k0; exact DataW.trod_lt m _ _ _ hm
  have w0 : RdAgg Try.prog W 24 v0 := rd_agg Try.underlying24 (by kernel_rfl) (by kernel_rfl) (hval 0 24 v0 rfl rfl) h0
  have k1 := h1
  have lt1 : ∀ x ∈ p1, x.block < W.heap.size := by obtain ⟨m, hm⟩ := k1; exact DataW.trod_lt m _ _ _ hm
  obtain ⟨n1, e1⟩ := okWide_int Try.underlying31 (hval 1 31 v1 rfl rfl)
  have w1 : Rd Try.prog W 31 v1 := by
    obtain ⟨fuel, hf⟩ := h1
    subst e1
    exact ⟨H, enc, fuel, _, by simpa [Value.cells] using hf⟩
  have k2 := h2
  have lt2 : ∀ x ∈ p2, x.block < W.heap.size := by obtain ⟨m, hm⟩ := k2; exact DataW.trod_lt m _ _ _ hm
  obtain ⟨n2, e2⟩ := okWide_int Try.underlying31 (hval 2 31 v2 rfl rfl)
  have w2 : Rd Try.prog W 31 v2 := by
    obtain ⟨fuel, hf⟩ := h2
    subst e2
    exact ⟨H, enc, fuel, _, by simpa [Value.cells] using hf⟩
  clear hA0 hval0
  refine (walk v0 v1 v2 W w0 w1 w2).mono fun e W' ⟨he, bel⟩ => ?_
  subst he
  exact ⟨_, rfl, _, _, _, [], _, [], hW', trodAll_mk1 (shut_bool Try.underlying4 _), (trodAll_cons_mk (Below.trod laidOut (by kernel_rfl) (of_decide_eq_true (by kernel_rfl)) k0 bel lt0) (trodAll_cons_mk (Below.trod laidOut (by kernel_rfl) (of_decide_eq_true (by kernel_rfl)) k1 bel lt1) (trodAll_cons_mk (Below.trod laidOut (by kernel_rfl) (of_decide_eq_true (by kernel_rfl)) k2 bel lt2) trodAll_mk0))), rfl, bel.frame _, fun h => by cases h⟩

theorem over : Rows.cellGoesRow.holds Try.pinned (OpenSpec.ofChange Rows.cellGoesSpec) :=
  OpenClaim.holds_of_wide 4 Try.f4 rfl rfl rfl rfl rfl rfl rfl ⟨rfl, rfl, rfl, rfl, rfl⟩ rfl rfl rfl rfl rfl (by kernel_rfl) Try.func4 (by kernel_rfl)
    (of_decide_eq_true (by kernel_rfl)) (by unfold Func.isWrapper; first | (rw [if_pos (by decide +kernel)]; kernel_rfl) | (rw [if_neg (by decide +kernel)]; exact ⟨rfl, rfl⟩))
    (fun os started H enc _ => lifted os started H enc)

theorem proved : Rows.CellGoesSaid := over
#print axioms proved
end Go.Proofs.Ytipfdildnnfmkaa.cellGoes

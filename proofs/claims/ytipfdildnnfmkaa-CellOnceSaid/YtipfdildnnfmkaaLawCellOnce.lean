/- Rows.CellOnceSaid holds: for every input the law returns true and leaves its arguments as they were. Conditions: none beside the row's own. -/
import Derived.Test.YtipfdildnnfmkaaRows
import Derived.WalkKit
import Derived.ProofKit
import Derived.OpenShut
import Derived.ShutString
import Derived.ChangeOld
import Derived.Below
import Derived.Test.YtipfdildnnfmkaaArgs
import Derived.Test.YtipfdildnnfmkaaCeOnce
import Derived.Test.YtipfdildnnfmkaaText
namespace Go.Proofs.Ytipfdildnnfmkaa.cellOnce
open Go.ChangeShapes Go.WideShapes Go.ChangeAt Go.RowKit
open Go.ChangeMaps (open_string shut_string)
open DiPlain NumPlain CePlain
set_option linter.unusedVariables false
set_option linter.unusedSimpArgs false

theorem own : ownKnob Try.prog.godebug = none := by kernel_rfl
theorem laidOut : laidOutB Try.prog = true := by kernel_rfl


set_option maxRecDepth 100000 in
set_option maxHeartbeats 8000000 in
theorem walk (v0 v1 v2 v3 : Value) (w : World) (w0 : Rd Try.prog w 21 v0) (w1 : Rd Try.prog w 21 v1) (w2 : Rd Try.prog w 31 v2) (w3 : Rd Try.prog w 31 v3) :
    Calls Try.prog 5 #[v0, v1, v2, v3] w fun e w' => e = .returned (.bool true) ∧ Gr w w' := by
  obtain ⟨x, rfl, hx0⟩ := rd_int Try.underlying21 w0
  obtain ⟨y, rfl, hy0⟩ := rd_int Try.underlying21 w1
  obtain ⟨ex, rfl, hex0⟩ := rd_int Try.underlying31 w2
  obtain ⟨ey, rfl, hey0⟩ := rd_int Try.underlying31 w3
  have bx := half_bd (bounds_i32 hx0)
  have by' := half_bd (bounds_i32 hy0)
  have bdx := rem_bd ex
  have bdy := rem_bd ey
  obtain ⟨wx1, wx2⟩ := bounds_i32 hx0
  obtain ⟨wy1, wy2⟩ := bounds_i32 hy0
  obtain ⟨we1, we2⟩ := bounds_i8 hex0
  obtain ⟨wf1, wf2⟩ := bounds_i8 hey0
  clear w0 w1 w2 w3 hx0 hy0 hex0 hey0
  have AW := Lib.hid (fun u => awake23_c u)
  have WA := Lib.hid (fun u => ways23_c u)
  obtain ⟨px, hpx⟩ : ∃ v, x.tdiv 2 = v := ⟨_, rfl⟩
  obtain ⟨py, hpy⟩ : ∃ v, y.tdiv 2 = v := ⟨_, rfl⟩
  obtain ⟨dx, hdx⟩ : ∃ v, ex.tmod 4 = v := ⟨_, rfl⟩
  obtain ⟨dy, hdy⟩ : ∃ v, ey.tmod 4 = v := ⟨_, rfl⟩
  rw [hpx] at bx
  rw [hpy] at by'
  rw [hdx] at bdx
  rw [hdy] at bdy
  obtain ⟨bx1, bx2⟩ := bx
  obtain ⟨by1, by2⟩ := by'
  obtain ⟨bdx1, bdx2⟩ := bdx
  obtain ⟨bdy1, bdy2⟩ := bdy
  go_enter Try.func5, Try.ntmps5
  go_wp2_with fail
  obtain ⟨qx, hqx⟩ : ∃ v, px + dx = v := ⟨_, rfl⟩
  obtain ⟨qy, hqy⟩ : ∃ v, py + dy = v := ⟨_, rfl⟩
  rw [hqx, hqy]
  obtain ⟨V, hV⟩ : ∃ V, PlV w px py qx qy = V := ⟨_, rfl⟩
  have AT := Lib.hid (fun u (g : Gr (PlV w px py qx qy) u) => plv_at g)
  rw [hV] at AT
  rw [show (w.alloc (.cells #[.int .i64 px, .int .i64 py] 24)).alloc (.cells #[.int .i64 qx, .int .i64 qy] 24) = V from hV]
  have bq : (-1073741827 ≤ qx ∧ qx ≤ 1073741827) ∧ (-1073741827 ≤ qy ∧ qy ≤ 1073741827) := by omega
  obtain ⟨⟨bqx1, bqx2⟩, bqy1, bqy2⟩ := bq
  have HQX := Lib.hid hqx
  have HQY := Lib.hid hqy
  clear wx1 wx2 wy1 wy2 we1 we2 wf1 wf2 hV hqx hqy hpx hpy hdx hdy bdx1 bdx2 bdy1 bdy2
  refine (WA.out V).mono ?_; rintro e u1 ⟨rfl, g1⟩
  unfold waysV
  have G1 := Lib.hid g1
  clear g1
  go_wp2_with fail
  obtain ⟨W0, hW0⟩ : ∃ W, u1.alloc (.cells ways4 33) = W := ⟨_, rfl⟩
  obtain ⟨zw, hzw⟩ : ∃ z, u1.heap.size = z := ⟨_, rfl⟩
  have CW := Lib.hid (fun u (g : Gr (u1.alloc (.cells ways4 33)) u) => (Below.block g u1.heap.size (by simp)).trans (heap_alloc_new u1 _))
  have CP := Lib.hid (fun u (g : Gr (u1.alloc (.cells ways4 33)) u) => AT.out u (G1.out.trans ((gr23 u1 _).trans g)))
  rw [hW0] at CW CP
  rw [hzw] at CW
  rw [show u1.alloc (.cells #[.complex .f64 4607182418800017408 0, .complex .f64 13830554455654793216 4607182418800017408, .complex .f64 0 4607182418800017408, .complex .f64 4607182418800017408 4607182418800017408] 33) = W0 from hW0, hzw]
  clear hW0 hzw G1 AT
  go_loopw [12, 13] (fun nv iv wr => ∃ j : Nat, j ≤ 4 ∧ nv = .int .i64 (cntW (qx - px) (qy - py) j) ∧ iv = .int .i64 (j : Int) ∧ Gr W0 wr) (fun _ iv _ => 4 - (intOf iv).toNat)
  case atStart => exact ⟨0, by omega, rfl, rfl, Gr.refl _⟩
  case round =>
    obtain ⟨j, hj, rfl, rfl, g7⟩ := hrel
    have G7 := Lib.hid g7
    clear g7
    by_cases hlt : j < 4
    · have hstep := cnt_step px py qx qy j
      obtain ⟨c1, c2⟩ := cntW_bd (qx - px) (qy - py) j
      obtain ⟨⟨s1, s2⟩, s3, s4⟩ := step_bd j
      have k0 := way_cell (CW.out wr G7.out) hlt
      obtain ⟨⟨p0, p1, r0, r1⟩, gw⟩ := CP.out wr G7.out
      have GO1 := Lib.hid (fun t => go23_c (way_rep hlt).1 (way_rep hlt).2 px py t)
      have GO2 := Lib.hid (fun t => go23_c (way_rep hlt).1 (way_rep hlt).2 qx qy t)
      have e1 := go_step (px := px) (py := py) hlt (by omega) (by omega)
      have e2 := go_step (px := qx) (py := qy) hlt (by omega) (by omega)
      rw [(go_yes e1).1, (go_yes e1).2, e1] at GO1
      rw [(go_yes e2).1, (go_yes e2).2, e2] at GO2
      have KC := Lib.hid (fun u (g : Gr wr u) => (⟨g, way_cell (CW.out u (G7.out.trans g)) hlt, (CP.out u (G7.out.trans g)).1⟩ : Gr wr u ∧ u.cell? ⟨zw, j, none⟩ = some (.complex .f64 (wayA j) (wayB j)) ∧ u.cell? ⟨w.heap.size, 0, none⟩ = some (.int .i64 px) ∧ u.cell? ⟨w.heap.size, 1, none⟩ = some (.int .i64 py) ∧ u.cell? ⟨w.heap.size + 1, 0, none⟩ = some (.int .i64 qx) ∧ u.cell? ⟨w.heap.size + 1, 1, none⟩ = some (.int .i64 qy)))
      obtain ⟨ax, hax⟩ : ∃ v, px + stepX j = v := ⟨_, rfl⟩
      obtain ⟨ay, hay⟩ : ∃ v, py + stepY j = v := ⟨_, rfl⟩
      obtain ⟨cx, hcx⟩ : ∃ v, qx + stepX j = v := ⟨_, rfl⟩
      obtain ⟨cy, hcy⟩ : ∃ v, qy + stepY j = v := ⟨_, rfl⟩
      rw [hax, hay] at GO1 hstep
      rw [hcx, hcy] at GO2 hstep
      obtain ⟨A, hA⟩ : ∃ v, wayA j = v := ⟨_, rfl⟩
      obtain ⟨B, hB⟩ : ∃ v, wayB j = v := ⟨_, rfl⟩
      rw [hA, hB] at GO1 GO2 k0 KC
      have HST := Lib.hid hstep
      obtain ⟨n, hn⟩ : ∃ v, cntW (qx - px) (qy - py) j = v := ⟨_, rfl⟩
      rw [hn] at HST c1 c2 ⊢
      have c3 : n ≤ 8 := by omega
      have q1 : (j : Int) < 4 := by omega
      have jc : (j : Int) ≤ 8 := by omega
      clear hstep s1 s2 s3 s4 e1 e2 hax hay hcx hcy hA hB c2 hn gw hj
      go_upto_region 8 with (fail)
      go_cut [14, 15] from 39 to 74 (fun vx vb wx => PCut wr ax ay true vx vb wx)
      case first =>
        go_region_held3 (fun t => Gr wr t ∧ t.cell? ⟨zw, j, none⟩ = some (.complex .f64 A B) ∧ t.cell? ⟨w.heap.size, 0, none⟩ = some (.int .i64 px) ∧ t.cell? ⟨w.heap.size, 1, none⟩ = some (.int .i64 py) ∧ t.cell? ⟨w.heap.size + 1, 0, none⟩ = some (.int .i64 qx) ∧ t.cell? ⟨w.heap.size + 1, 1, none⟩ = some (.int .i64 qy))
          (first | assumption | exact KC.out _ (by repeat (first | assumption | exact Gr.refl _ | refine grd23 ?_ | refine gra23 ?_ | refine grs23 ?_ (by first | exact Nat.le_refl _ | exact q4.size))) | go_keep)
          (first
            | (go_at_call 17; (with_reducible refine (GO1.out _).mono ?_); rintro e t4 ⟨rfl, g4⟩; have q4 : Gr wr t4 := Gr.trans (by repeat (first | assumption | exact Gr.refl _ | refine grd23 ?_ | refine gra23 ?_)) g4; (first | (have zb := pl_zero23 g4; obtain ⟨z0, z1, z2, z3⟩ := pl_cells zb) | (have zb := pl_zero23d g4; obtain ⟨z0, z1, z2, z3⟩ := pl_cells zb) | skip)))
        all_goals
          go_wp2_with fail
          go_meet
        all_goals first
          | exact pcut_set q4 (Nat.le_refl _) zb
          | exact pcut_set q4 q4.size zb
          | exact pcut_new (by repeat (first | assumption | exact Gr.refl _ | refine grd23 ?_ | refine gra23 ?_))
      case rest =>
      rename World => wA
      obtain ⟨pa, rfl, rfl, ha, ga⟩ := hcut
      have KC2 := Lib.hid (fun u (g : Gr wA u) => (⟨g, (KC.out u (ga.trans g)).2⟩ : Gr wA u ∧ u.cell? ⟨zw, j, none⟩ = some (.complex .f64 A B) ∧ u.cell? ⟨w.heap.size, 0, none⟩ = some (.int .i64 px) ∧ u.cell? ⟨w.heap.size, 1, none⟩ = some (.int .i64 py) ∧ u.cell? ⟨w.heap.size + 1, 0, none⟩ = some (.int .i64 qx) ∧ u.cell? ⟨w.heap.size + 1, 1, none⟩ = some (.int .i64 qy)))
      have HPA := Lib.hid (fun u (g : Gr wA u) => (pl_cells ((Below.block g pa (lt_block23 ha)).trans ha)))
      have GA := Lib.hid (G7.out.trans ga)
      clear k0 p0 p1 r0 r1 ha ga KC GO1
      obtain ⟨_, k0, p0, p1, r0, r1⟩ := KC2.out wA (Gr.refl _)
      go_upto_region 9 with (fail)
      go_cut [16, 17] from 39 to 74 (fun vx vb wx => PCut wA cx cy true vx vb wx)
      case first =>
        go_region_held3 (fun t => Gr wA t ∧ t.cell? ⟨zw, j, none⟩ = some (.complex .f64 A B) ∧ t.cell? ⟨w.heap.size, 0, none⟩ = some (.int .i64 px) ∧ t.cell? ⟨w.heap.size, 1, none⟩ = some (.int .i64 py) ∧ t.cell? ⟨w.heap.size + 1, 0, none⟩ = some (.int .i64 qx) ∧ t.cell? ⟨w.heap.size + 1, 1, none⟩ = some (.int .i64 qy))
          (first | assumption | exact KC2.out _ (by repeat (first | assumption | exact Gr.refl _ | refine grd23 ?_ | refine gra23 ?_ | refine grs23 ?_ (by first | exact Nat.le_refl _ | exact q4.size))) | go_keep)
          (first
            | (go_at_call 17; (with_reducible refine (GO2.out _).mono ?_); rintro e t4 ⟨rfl, g4⟩; have q4 : Gr wA t4 := Gr.trans (by repeat (first | assumption | exact Gr.refl _ | refine grd23 ?_ | refine gra23 ?_)) g4; (first | (have zb := pl_zero23 g4; obtain ⟨z0, z1, z2, z3⟩ := pl_cells zb) | (have zb := pl_zero23d g4; obtain ⟨z0, z1, z2, z3⟩ := pl_cells zb) | skip)))
        all_goals
          go_wp2_with fail
          go_meet
        all_goals first
          | exact pcut_set q4 (Nat.le_refl _) zb
          | exact pcut_set q4 q4.size zb
          | exact pcut_new (by repeat (first | assumption | exact Gr.refl _ | refine grd23 ?_ | refine gra23 ?_))
      case rest =>
      rename World => wB
      obtain ⟨pb, rfl, rfl, hb, gb⟩ := hcut
      clear k0 p0 p1 r0 r1
      obtain ⟨_, k0, p0, p1, r0, r1⟩ := KC2.out wB gb
      obtain ⟨y0, y1, _, _⟩ := HPA.out wB gb
      obtain ⟨v0, v1, _, _⟩ := pl_cells hb
      have GB := Lib.hid (GA.out.trans gb)
      clear hb gb KC2 HPA GO2 GA G7
      obtain ⟨t1, ht1⟩ : ∃ t, decide (ax = qx ∧ ay = qy) = t := ⟨_, rfl⟩
      obtain ⟨t2, ht2⟩ : ∃ t, decide (cx = px ∧ cy = py) = t := ⟨_, rfl⟩
      have PE1 := pl_eql ax ay qx qy t1 ht1
      have PE2 := pl_eql cx cy px py t2 ht2
      have hst := HST.out
      have i1 : (if ax = qx ∧ ay = qy then (1 : Int) else 0) = if t1 = true then 1 else 0 := one_same (by rw [← ht1, decide_eq_true_iff])
      have i2 : (if cx = px ∧ cy = py then (1 : Int) else 0) = if t2 = true then 1 else 0 := one_same (by rw [← ht2, decide_eq_true_iff])
      rw [i1, i2] at hst
      have HS2 := Lib.hid hst
      clear hst i1 i2 ht1 ht2 HST
      cases t1 <;> cases t2
      all_goals
        go_wp2_with fail
        go_roundw
        case rel => exact ⟨j + 1, by omega, by rw [HS2.out]; simp, by simp, GB.out⟩
        case measure => simp [intOf]; omega
    · obtain rfl : j = 4 := by omega
      have hcb := cnt_beside px py qx qy
      have hbb := beside_back px py qx qy
      obtain ⟨⟨p0, p1, r0, r1⟩, gw⟩ := CP.out wr G7.out
      have KC := Lib.hid (fun u (g : Gr wr u) => (⟨g, (CP.out u (G7.out.trans g)).1⟩ : Gr wr u ∧ u.cell? ⟨w.heap.size, 0, none⟩ = some (.int .i64 px) ∧ u.cell? ⟨w.heap.size, 1, none⟩ = some (.int .i64 py) ∧ u.cell? ⟨w.heap.size + 1, 0, none⟩ = some (.int .i64 qx) ∧ u.cell? ⟨w.heap.size + 1, 1, none⟩ = some (.int .i64 qy)))
      have B1 := Lib.hid (fun u => beside23_c px py qx qy (by unfold I64; omega) (by unfold I64; omega) (by unfold I64; omega) (by unfold I64; omega) u)
      have B2 := Lib.hid (fun u => beside23_c qx qy px py (by unfold I64; omega) (by unfold I64; omega) (by unfold I64; omega) (by unfold I64; omega) u)
      have L1 := Lib.hid (fun u => less23_c px py qx qy u)
      have L2 := Lib.hid (fun u => less23_c qx qy px py u)
      have LO := Lib.hid (fun h : besideB px py qx qy = true => less_other h)
      have GW := Lib.hid gw
      obtain ⟨l1, hl1⟩ : ∃ t, lessB px py qx qy = t := ⟨_, rfl⟩
      obtain ⟨l2, hl2⟩ : ∃ t, lessB qx qy px py = t := ⟨_, rfl⟩
      rw [hl1] at L1 LO
      rw [hl2] at L2 LO
      rw [hbb] at B2
      obtain ⟨bb, hb⟩ : ∃ t, besideB px py qx qy = t := ⟨_, rfl⟩
      rw [hb] at B1 B2 LO hcb
      clear hl1 hl2 hbb hb gw hlt hj
      cases bb with
      | false =>
        rw [hcb, if_neg (by simp)]
        clear hcb
        go_wp2_with fail
        refine (B1.out wr).mono ?_; rintro e u2 ⟨rfl, g2⟩
        have G2 := Lib.hid (KC.out u2 g2).1
        clear g2
        go_wp2_with fail
        refine (AW.out u2).mono ?_; rintro e u3 ⟨rfl, g3⟩
        have G3 := Lib.hid (GW.out.trans (G2.out.trans g3))
        clear g3
        go_wp2_with fail
        go_ret
        exact ⟨rfl, G3.out⟩
      | true =>
        rw [hcb, if_pos rfl]
        have lo : (l1 = true ∧ l2 = false) ∨ (l1 = false ∧ l2 = true) := by
          have := LO.out rfl
          revert this
          cases l1 <;> cases l2 <;> simp
        clear LO
        clear hcb
        rcases lo with ⟨rfl, rfl⟩ | ⟨rfl, rfl⟩
        all_goals
          go_wp2_with fail
          refine (B1.out wr).mono ?_; rintro e u2 ⟨rfl, g2⟩
          have G2 := Lib.hid g2
          have KD := Lib.hid (fun u (g : Gr u2 u) => (⟨g, (KC.out u (G2.out.trans g)).2⟩ : Gr u2 u ∧ u.cell? ⟨w.heap.size, 0, none⟩ = some (.int .i64 px) ∧ u.cell? ⟨w.heap.size, 1, none⟩ = some (.int .i64 py) ∧ u.cell? ⟨w.heap.size + 1, 0, none⟩ = some (.int .i64 qx) ∧ u.cell? ⟨w.heap.size + 1, 1, none⟩ = some (.int .i64 qy)))
          have gd : Gr u2 u2.drew := Below.drew (Gr.refl _)
          have C1 := Lib.hid (fun u (g : Gr u2 u) => (B2.out u).mono fun e w' (h : e = .returned (.bool true) ∧ Gr u w') => (⟨h.1, g.trans h.2⟩ : e = .returned (.bool true) ∧ Gr u2 w'))
          have C2 := Lib.hid (fun u (g : Gr u2 u) => (L1.out u).mono fun e w' (h : e = .returned (.bool _) ∧ Gr u w') => (⟨h.1, g.trans h.2⟩ : e = .returned (.bool _) ∧ Gr u2 w'))
          have C3 := Lib.hid (fun u (g : Gr u2 u) => (L2.out u).mono fun e w' (h : e = .returned (.bool _) ∧ Gr u w') => (⟨h.1, g.trans h.2⟩ : e = .returned (.bool _) ∧ Gr u2 w'))
          have C4 := Lib.hid (fun u (g : Gr u2 u) => (AW.out u).mono fun e w' (h : e = .returned (.bool true) ∧ Gr u w') => (⟨h.1, g.trans h.2⟩ : e = .returned (.bool true) ∧ Gr u2 w'))
          clear g2 p0 p1 r0 r1
          go_wp2_with fail
          refine text_region (S := fun u => Gr u2 u ∧ u.cell? ⟨w.heap.size, 0, none⟩ = some (.int .i64 px) ∧ u.cell? ⟨w.heap.size, 1, none⟩ = some (.int .i64 py) ∧ u.cell? ⟨w.heap.size + 1, 0, none⟩ = some (.int .i64 qx) ∧ u.cell? ⟨w.heap.size + 1, 1, none⟩ = some (.int .i64 qy)) (by kernel_rfl) (by kernel_rfl) (by kernel_rfl) (KD.out _ gd) ?_
          iterate 5 (refine text_val (v := ?_) (by rfl) ?_ ?_; rotate_left 1; (· intro u hu; (try dsimp only at hu); go_simp <;> with_reducible rfl); (try simp only [Act.put, List.setIfInBounds_toArray, List.set_cons_zero, List.set_cons_succ]))
          (refine text_call (fun u hu => ((C1.out u hu.1).mono (fun e w' h => ⟨h.1, KD.out w' h.2⟩))) (by rfl) ?_ ?_; (· intro u; go_simp); (try simp only [Act.put, List.setIfInBounds_toArray, List.set_cons_zero, List.set_cons_succ]))
          iterate 4 (refine text_val (v := ?_) (by rfl) ?_ ?_; rotate_left 1; (· intro u hu; (try dsimp only at hu); go_simp <;> with_reducible rfl); (try simp only [Act.put, List.setIfInBounds_toArray, List.set_cons_zero, List.set_cons_succ]))
          (refine text_call (fun u hu => ((C2.out u hu.1).mono (fun e w' h => ⟨h.1, KD.out w' h.2⟩))) (by rfl) ?_ ?_; (· intro u; go_simp); (try simp only [Act.put, List.setIfInBounds_toArray, List.set_cons_zero, List.set_cons_succ]))
          iterate 2 (refine text_val (v := ?_) (by rfl) ?_ ?_; rotate_left 1; (· intro u hu; (try dsimp only at hu); go_simp <;> with_reducible rfl); (try simp only [Act.put, List.setIfInBounds_toArray, List.set_cons_zero, List.set_cons_succ]))
          (refine text_call (fun u hu => ((C3.out u hu.1).mono (fun e w' h => ⟨h.1, KD.out w' h.2⟩))) (by rfl) ?_ ?_; (· intro u; go_simp); (try simp only [Act.put, List.setIfInBounds_toArray, List.set_cons_zero, List.set_cons_succ]))
          iterate 3 (refine text_val (v := ?_) (by rfl) ?_ ?_; rotate_left 1; (· intro u hu; (try dsimp only at hu); go_simp <;> with_reducible rfl); (try simp only [Act.put, List.setIfInBounds_toArray, List.set_cons_zero, List.set_cons_succ]))
          (refine text_call (fun u hu => ((C4.out u hu.1).mono (fun e w' h => ⟨h.1, KD.out w' h.2⟩))) (by rfl) ?_ ?_; (· intro u; go_simp); (try simp only [Act.put, List.setIfInBounds_toArray, List.set_cons_zero, List.set_cons_succ]))
          iterate 2 (refine text_val (v := ?_) (by rfl) ?_ ?_; rotate_left 1; (· intro u hu; (try dsimp only at hu); go_simp <;> with_reducible rfl); (try simp only [Act.put, List.setIfInBounds_toArray, List.set_cons_zero, List.set_cons_succ]))
          refine text_done (fun u hu => ?_)
          have gu := Lib.hid (GW.out.trans (G2.out.trans hu.1))
          clear hu
          go_wp2_with fail
          go_ret
          exact ⟨rfl, gu.out⟩

set_option maxRecDepth 100000 in
theorem lifted (os : Os) (started : os.Started) (H : Type) (enc : TypeId × Value → H) :
    ReturnsInHanded {} Try.checked os 5 .any (Rows.cellOnceSpec.pre6 enc Try.prog Try.f5 Rows.cellOnceRow.domain false) (Rows.cellOnceSpec.post enc Try.prog Try.f5 false true false false) := by
  refine returnsInHanded_of_change (C := Try.checked) own started (by kernel_rfl) Try.func5
    (ChangeSpec.witness6 (enc := enc) (C := Try.checked) false ⟨#[], #[.int .i32 0, .int .i32 0, .int .i8 0, .int .i8 0], []⟩ 8 (by kernel_rfl) (by kernel_rfl) (by kernel_rfl) (by kernel_rfl)) ?_
  intro W base args ds gs before hval0 hW hcnd _
  have hval : ∀ (j : Nat) t v, Try.f5.params[j]? = some t → args[j]? = some v → Value.okWide Try.prog W .any base t v := hval0
  have hW' := hW
  obtain ⟨p, q, hA0, hV, rfl, hfz, hnd⟩ := hW
  have hA : DataW.TrodAll enc Try.prog W 0 (fun _ => true) true Try.f5.params.toList args.toList ds p := hA0
  rw [Try.params5] at hA hval
  obtain ⟨v0, vs0, d0, ds0, p0, q0, hargs, rfl, rfl, h0, r0⟩ := trodAll_cons hA
  obtain ⟨v1, vs1, d1, ds1, p1, q1, rfl, rfl, rfl, h1, r1⟩ := trodAll_cons r0
  obtain ⟨v2, vs2, d2, ds2, p2, q2, rfl, rfl, rfl, h2, r2⟩ := trodAll_cons r1
  obtain ⟨v3, vs3, d3, ds3, p3, q3, rfl, rfl, rfl, h3, r3⟩ := trodAll_cons r2
  obtain ⟨rfl, rfl, rfl⟩ := trodAll_nil r3
  obtain rfl : args = #[v0, v1, v2, v3] := by cases args; simp_all
  obtain ⟨rfl, rfl⟩ := trodVars_none hV
  have k0 := h0
  have lt0 : ∀ x ∈ p0, x.block < W.heap.size := by obtain ⟨m, hm⟩ := k0; exact DataW.trod_lt m _ _ _ hm
  obtain ⟨n0, e0⟩ := okWide_int Try.underlying21 (hval 0 21 v0 rfl rfl)
  have w0 : Rd Try.prog W 21 v0 := by
    obtain ⟨fuel, hf⟩ := h0
    subst e0
    exact ⟨H, enc, fuel, _, by simpa [Value.cells] using hf⟩
  have k1 := h1
  have lt1 : ∀ x ∈ p1, x.block < W.heap.size := by obtain ⟨m, hm⟩ := k1; exact DataW.trod_lt m _ _ _ hm
  obtain ⟨n1, e1⟩ := okWide_int Try.underlying21 (hval 1 21 v1 rfl rfl)
  have w1 : Rd Try.prog W 21 v1 := by
    obtain ⟨fuel, hf⟩ := h1
    subst e1
    exact ⟨H, enc, fuel, _, by simpa [Value.cells] using hf⟩
  have k2 := h2
  have lt2 : ∀ x ∈ p2, x.block < W.heap.size := by obtain ⟨m, hm⟩ := k2; exact DataW.trod_lt m _ _ _ hm
  obtain ⟨n2, e2⟩ := okWide_int Try.underlying31 (hval 2 31 v2 rfl rfl)
  have w2 : Rd Try.prog W 31 v2 := by
    obtain ⟨fuel, hf⟩ := h2
    subst e2
    exact ⟨H, enc, fuel, _, by simpa [Value.cells] using hf⟩
  have k3 := h3
  have lt3 : ∀ x ∈ p3, x.block < W.heap.size := by obtain ⟨m, hm⟩ := k3; exact DataW.trod_lt m _ _ _ hm
  obtain ⟨n3, e3⟩ := okWide_int Try.underlying31 (hval 3 31 v3 rfl rfl)
  have w3 : Rd Try.prog W 31 v3 := by
    obtain ⟨fuel, hf⟩ := h3
    subst e3
    exact ⟨H, enc, fuel, _, by simpa [Value.cells] using hf⟩
  clear hA0 hval0
  refine (walk v0 v1 v2 v3 W w0 w1 w2 w3).mono fun e W' ⟨he, bel⟩ => ?_
  subst he
  exact ⟨_, rfl, _, _, _, [], _, [], hW', trodAll_mk1 (shut_bool Try.underlying4 _), (trodAll_cons_mk (Below.trod laidOut (by kernel_rfl) (of_decide_eq_true (by kernel_rfl)) k0 bel lt0) (trodAll_cons_mk (Below.trod laidOut (by kernel_rfl) (of_decide_eq_true (by kernel_rfl)) k1 bel lt1) (trodAll_cons_mk (Below.trod laidOut (by kernel_rfl) (of_decide_eq_true (by kernel_rfl)) k2 bel lt2) (trodAll_cons_mk (Below.trod laidOut (by kernel_rfl) (of_decide_eq_true (by kernel_rfl)) k3 bel lt3) trodAll_mk0)))), rfl, bel.frame _, fun h => by cases h⟩

theorem over : Rows.cellOnceRow.holds Try.pinned (OpenSpec.ofChange Rows.cellOnceSpec) :=
  OpenClaim.holds_of_wide 5 Try.f5 rfl rfl rfl rfl rfl rfl rfl ⟨rfl, rfl, rfl, rfl, rfl⟩ rfl rfl rfl rfl rfl (by kernel_rfl) Try.func5 (by kernel_rfl)
    (of_decide_eq_true (by kernel_rfl)) (by unfold Func.isWrapper; first | (rw [if_pos (by decide +kernel)]; kernel_rfl) | (rw [if_neg (by decide +kernel)]; exact ⟨rfl, rfl⟩))
    (fun os started H enc _ => lifted os started H enc)

theorem proved : Rows.CellOnceSaid := over
#print axioms proved
end Go.Proofs.Ytipfdildnnfmkaa.cellOnce

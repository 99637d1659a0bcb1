/- Rows.CellTellsSaid holds: for every input the law returns true and leaves its arguments as they were. Conditions: none beside the row's own. -/
import Derived.Test.YtipfdildnnfmkaaRows
import Derived.WalkKit
import Derived.ProofKit
import Derived.OpenShut
import Derived.ShutString
import Derived.ChangeOld
import Derived.Below
import Derived.Test.YtipfdildnnfmkaaArgs
import Derived.Test.YtipfdildnnfmkaaCeAwake
import Derived.Test.YtipfdildnnfmkaaCeLaw
import Derived.Test.YtipfdildnnfmkaaText
namespace Go.Proofs.Ytipfdildnnfmkaa.cellTells
open Go.ChangeShapes Go.WideShapes Go.ChangeAt Go.RowKit
open Go.ChangeMaps (open_string shut_string)
open DiPlain NumPlain CePlain
set_option linter.unusedVariables false
set_option linter.unusedSimpArgs false

theorem own : ownKnob Try.prog.godebug = none := by kernel_rfl
theorem laidOut : laidOutB Try.prog = true := by kernel_rfl


set_option maxRecDepth 100000 in
set_option maxHeartbeats 8000000 in
theorem walk (v0 v1 v2 v3 v4 : Value) (w : World) (w0 : Rd Try.prog w 22 v0) (w1 : Rd Try.prog w 3 v1) (w2 : RdAgg Try.prog w 24 v2) (w3 : RdAgg Try.prog w 24 v3) (w4 : Rd Try.prog w 3 v4) :
    Calls Try.prog 3 #[v0, v1, v2, v3, v4] w fun e w' => e = .returned (.bool true) ∧ Gr w w' := by
  obtain ⟨l, hl, hlm, _⟩ := liesI_in Try.underlying22 w0
  obtain ⟨m, rfl, hm0⟩ := rd_int Try.underlying3 w1
  obtain ⟨px, py, rfl, hpx, hpy⟩ := place_in w2
  obtain ⟨qx, qy, rfl, hqx, hqy⟩ := place_in w3
  obtain ⟨eps, rfl, he0⟩ := rd_int Try.underlying3 w4
  have hm := bounds_i64 hm0
  clear w0 w1 w2 w3 w4 hm0 he0
  unfold maxLen at hlm
  have AW := Lib.hid (fun u => awake23_c u)
  obtain ⟨aa, ac, rfl, hac, -⟩ := id hl
  by_cases h30 : 30 < l.length
  · obtain ⟨n, hn⟩ : ∃ n, l.length = n := ⟨_, rfl⟩
    rw [hn] at hl hlm h30 hac ⊢
    have q1 : (30 : Int) < (n : Int) := by omega
    clear hl hlm h30 hac hpx hpy hqx hqy hm hn
    go_enter Try.func3, Try.ntmps3
    go_wp2_with fail
    refine (AW.out _).mono ?_; rintro e u ⟨rfl, g⟩
    have G := Lib.hid ((gr23 _ _).trans ((gr23 _ _).trans g))
    clear g
    go_wp2_with fail
    go_ret
    exact ⟨rfl, G.out⟩
  obtain ⟨V, hV⟩ : ∃ V, PlV w px py qx qy = V := ⟨_, rfl⟩
  have AT := Lib.hid (fun u (g : Gr (PlV w px py qx qy) u) => plv_at g)
  rw [hV] at AT
  have HV := Lib.hid (show (w.alloc (.cells #[.int .i64 px, .int .i64 py] 24)).alloc (.cells #[.int .i64 qx, .int .i64 qy] 24) = V from hV)
  have OA := Lib.hid (fun u (g : Gr w u) => of23_c (hl.gr g) (by omega) m hm)
  have OB := Lib.hid (fun u (g : Gr w u) => rof23_c (hl.gr g) (by omega) m hm)
  have B1 := Lib.hid (fun u => beside23_c px py qx qy hpx hpy hqx hqy u)
  have B2 := Lib.hid (fun u => rbeside23_c px py qx qy hpx hpy hqx hqy u)
  have L1 := Lib.hid (fun u => less23_c px py qx qy u)
  have L2 := Lib.hid (fun u => rless23_c px py qx qy u)
  have F1 := Lib.hid (fun u => fits23_c eps m u)
  have F2 := Lib.hid (fun u => rfits23_c eps m u)
  obtain ⟨n, hn⟩ : ∃ n, l.length = n := ⟨_, rfl⟩
  rw [hn] at OA OB
  rw [hn] at h30 hac ⊢
  have q1 : ¬ (30 : Int) < (n : Int) := by omega
  obtain ⟨ax, hax⟩ : ∃ f, ofX l m = f := ⟨_, rfl⟩
  obtain ⟨ay, hay⟩ : ∃ f, ofY l m = f := ⟨_, rfl⟩
  obtain ⟨b0, hb0⟩ : ∃ f, ofB l m = f := ⟨_, rfl⟩
  rw [hax, hay, hb0] at OA OB
  obtain ⟨b1, hb1⟩ : ∃ f, besideB px py qx qy = f := ⟨_, rfl⟩
  obtain ⟨b2, hb2⟩ : ∃ f, lessB px py qx qy = f := ⟨_, rfl⟩
  obtain ⟨b3, hb3⟩ : ∃ f, fitsB eps m = f := ⟨_, rfl⟩
  rw [hb1] at B1 B2
  rw [hb2] at L1 L2
  rw [hb3] at F1 F2
  have IE := pl_eql ax ay ax ay true (by simp)
  clear hl hlm h30 hac hax hay hb0 hb1 hb2 hb3 hn hm hpx hpy hqx hqy hV
  go_enter Try.func3, Try.ntmps3
  go_wp2_with fail
  rw [HV.out]
  refine (OA.out V (AT.out V (Gr.refl _)).2).mono ?_; rintro e u3 ⟨rfl, g3⟩
  have G3 := Lib.hid g3
  clear g3
  go_wp2_with fail
  have g3a := gr23 u3 (.cells #[.int .i64 ax, .int .i64 ay] 24)
  refine (OB.out _ ((AT.out _ (G3.out.trans g3a)).2)).mono ?_; rintro e u4 ⟨rfl, g4⟩
  have G4 := Lib.hid g4
  clear g4 g3a
  go_wp2_with fail
  have SH := Lib.hid (fun u (g : Gr (u4.alloc (.cells #[.int .i64 ax, .int .i64 ay] 24)) u) => by
    have k1 := pl_cells (pl_new23 u4 ax ay u g)
    have k2 := pl_cells (pl_new23 u3 ax ay u (G4.out.trans ((gr23 _ _).trans g)))
    have k3 := (AT.out u (G3.out.trans ((gr23 _ _).trans (G4.out.trans ((gr23 _ _).trans g))))).1
    exact (⟨g, k2.1, k2.2.1, k1.1, k1.2.1, k3.1, k3.2.1, k3.2.2.1, k3.2.2.2⟩ : Gr (u4.alloc (.cells #[.int .i64 ax, .int .i64 ay] 24)) u ∧ u.cell? ⟨u3.heap.size, 0, none⟩ = some (.int .i64 ax) ∧ u.cell? ⟨u3.heap.size, 1, none⟩ = some (.int .i64 ay) ∧ u.cell? ⟨u4.heap.size, 0, none⟩ = some (.int .i64 ax) ∧ u.cell? ⟨u4.heap.size, 1, none⟩ = some (.int .i64 ay) ∧ u.cell? ⟨w.heap.size, 0, none⟩ = some (.int .i64 px) ∧ u.cell? ⟨w.heap.size, 1, none⟩ = some (.int .i64 py) ∧ u.cell? ⟨w.heap.size + 1, 0, none⟩ = some (.int .i64 qx) ∧ u.cell? ⟨w.heap.size + 1, 1, none⟩ = some (.int .i64 qy)))
  have GW := Lib.hid (fun u (g : Gr (u4.alloc (.cells #[.int .i64 ax, .int .i64 ay] 24)) u) => (AT.out u (G3.out.trans ((gr23 _ _).trans (G4.out.trans ((gr23 _ _).trans g))))).2)
  obtain ⟨wr, hwr⟩ : ∃ x, u4.alloc (.cells #[.int .i64 ax, .int .i64 ay] 24) = x := ⟨_, rfl⟩
  rw [hwr] at SH GW ⊢
  have gd : Gr wr wr.drew := Below.drew (Gr.refl _)
  have C1 := Lib.hid (fun u (g : Gr wr u) => (B1.out u).mono fun e w' (h : e = .returned (.bool b1) ∧ Gr u w') => (⟨h.1, g.trans h.2⟩ : e = .returned (.bool b1) ∧ Gr wr w'))
  have C2 := Lib.hid (fun u (g : Gr wr u) => (B2.out u).mono fun e w' (h : e = .returned (.bool b1) ∧ Gr u w') => (⟨h.1, g.trans h.2⟩ : e = .returned (.bool b1) ∧ Gr wr w'))
  have C3 := Lib.hid (fun u (g : Gr wr u) => (L1.out u).mono fun e w' (h : e = .returned (.bool b2) ∧ Gr u w') => (⟨h.1, g.trans h.2⟩ : e = .returned (.bool b2) ∧ Gr wr w'))
  have C4 := Lib.hid (fun u (g : Gr wr u) => (L2.out u).mono fun e w' (h : e = .returned (.bool b2) ∧ Gr u w') => (⟨h.1, g.trans h.2⟩ : e = .returned (.bool b2) ∧ Gr wr w'))
  have C5 := Lib.hid (fun u (g : Gr wr u) => (F1.out u).mono fun e w' (h : e = .returned (.bool b3) ∧ u = w') => (⟨h.1, h.2 ▸ g⟩ : e = .returned (.bool b3) ∧ Gr wr w'))
  have C6 := Lib.hid (fun u (g : Gr wr u) => (F2.out u).mono fun e w' (h : e = .returned (.bool b3) ∧ u = w') => (⟨h.1, h.2 ▸ g⟩ : e = .returned (.bool b3) ∧ Gr wr w'))
  have C7 := Lib.hid (fun u (g : Gr wr u) => (AW.out u).mono fun e w' (h : e = .returned (.bool true) ∧ Gr u w') => (⟨h.1, g.trans h.2⟩ : e = .returned (.bool true) ∧ Gr wr w'))
  have e0 : (b0 == b0) = true := by cases b0 <;> rfl
  have e1 : (b1 == b1) = true := by cases b1 <;> rfl
  have e2 : (b2 == b2) = true := by cases b2 <;> rfl
  have e3 : (b3 == b3) = true := by cases b3 <;> rfl
  clear hwr
  refine text_region (S := fun u => Gr wr u ∧ u.cell? ⟨u3.heap.size, 0, none⟩ = some (.int .i64 ax) ∧ u.cell? ⟨u3.heap.size, 1, none⟩ = some (.int .i64 ay) ∧ u.cell? ⟨u4.heap.size, 0, none⟩ = some (.int .i64 ax) ∧ u.cell? ⟨u4.heap.size, 1, none⟩ = some (.int .i64 ay) ∧ u.cell? ⟨w.heap.size, 0, none⟩ = some (.int .i64 px) ∧ u.cell? ⟨w.heap.size, 1, none⟩ = some (.int .i64 py) ∧ u.cell? ⟨w.heap.size + 1, 0, none⟩ = some (.int .i64 qx) ∧ u.cell? ⟨w.heap.size + 1, 1, none⟩ = some (.int .i64 qy)) (by kernel_rfl) (by kernel_rfl) (by kernel_rfl) (SH.out _ gd) ?_
  repeat (first
    | (refine text_skip (by rfl) ?_; (try simp only [Act.put, List.setIfInBounds_toArray, List.set_cons_zero, List.set_cons_succ]))
    | (refine text_val (v := ?_) (by rfl) ?_ ?_; rotate_left 1; (· intro u hu; (try dsimp only at hu); go_simp <;> with_reducible rfl); (try simp only [Act.put, List.setIfInBounds_toArray, List.set_cons_zero, List.set_cons_succ]))
    | (refine text_call (fun u hu => ((C1.out u hu.1).mono (fun e w' h => ⟨h.1, SH.out w' h.2⟩))) (by rfl) ?_ ?_; (· intro u; go_simp); (try simp only [Act.put, List.setIfInBounds_toArray, List.set_cons_zero, List.set_cons_succ]))
    | (refine text_call (fun u hu => ((C2.out u hu.1).mono (fun e w' h => ⟨h.1, SH.out w' h.2⟩))) (by rfl) ?_ ?_; (· intro u; go_simp); (try simp only [Act.put, List.setIfInBounds_toArray, List.set_cons_zero, List.set_cons_succ]))
    | (refine text_call (fun u hu => ((C3.out u hu.1).mono (fun e w' h => ⟨h.1, SH.out w' h.2⟩))) (by rfl) ?_ ?_; (· intro u; go_simp); (try simp only [Act.put, List.setIfInBounds_toArray, List.set_cons_zero, List.set_cons_succ]))
    | (refine text_call (fun u hu => ((C4.out u hu.1).mono (fun e w' h => ⟨h.1, SH.out w' h.2⟩))) (by rfl) ?_ ?_; (· intro u; go_simp); (try simp only [Act.put, List.setIfInBounds_toArray, List.set_cons_zero, List.set_cons_succ]))
    | (refine text_call (fun u hu => ((C5.out u hu.1).mono (fun e w' h => ⟨h.1, SH.out w' h.2⟩))) (by rfl) ?_ ?_; (· intro u; go_simp); (try simp only [Act.put, List.setIfInBounds_toArray, List.set_cons_zero, List.set_cons_succ]))
    | (refine text_call (fun u hu => ((C6.out u hu.1).mono (fun e w' h => ⟨h.1, SH.out w' h.2⟩))) (by rfl) ?_ ?_; (· intro u; go_simp); (try simp only [Act.put, List.setIfInBounds_toArray, List.set_cons_zero, List.set_cons_succ]))
    | (refine text_call (fun u hu => ((C7.out u hu.1).mono (fun e w' h => ⟨h.1, SH.out w' h.2⟩))) (by rfl) ?_ ?_; (· intro u; go_simp); (try simp only [Act.put, List.setIfInBounds_toArray, List.set_cons_zero, List.set_cons_succ])))
  refine text_done (fun u hu => ?_)
  have gu := Lib.hid (GW.out u hu.1)
  clear hu
  go_wp2_with fail
  go_ret
  exact ⟨rfl, gu.out⟩

set_option maxRecDepth 100000 in
theorem lifted (os : Os) (started : os.Started) (H : Type) (enc : TypeId × Value → H) :
    ReturnsInHanded {} Try.checked os 3 .any (Rows.cellTellsSpec.pre6 enc Try.prog Try.f3 Rows.cellTellsRow.domain false) (Rows.cellTellsSpec.post enc Try.prog Try.f3 false true false false) := by
  refine returnsInHanded_of_change (C := Try.checked) own started (by kernel_rfl) Try.func3
    (ChangeSpec.witness6 (enc := enc) (C := Try.checked) false ⟨#[], #[.slice none 0 0, .int .i64 0, .agg #[.int .i64 0, .int .i64 0], .agg #[.int .i64 0, .int .i64 0], .int .i64 0], []⟩ 8 (by kernel_rfl) (by kernel_rfl) (by kernel_rfl) (by kernel_rfl)) ?_
  intro W base args ds gs before hval0 hW hcnd _
  have hval : ∀ (j : Nat) t v, Try.f3.params[j]? = some t → args[j]? = some v → Value.okWide Try.prog W .any base t v := hval0
  have hW' := hW
  obtain ⟨p, q, hA0, hV, rfl, hfz, hnd⟩ := hW
  have hA : DataW.TrodAll enc Try.prog W 0 (fun _ => true) true Try.f3.params.toList args.toList ds p := hA0
  rw [Try.params3] at hA hval
  obtain ⟨v0, vs0, d0, ds0, p0, q0, hargs, rfl, rfl, h0, r0⟩ := trodAll_cons hA
  obtain ⟨v1, vs1, d1, ds1, p1, q1, rfl, rfl, rfl, h1, r1⟩ := trodAll_cons r0
  obtain ⟨v2, vs2, d2, ds2, p2, q2, rfl, rfl, rfl, h2, r2⟩ := trodAll_cons r1
  obtain ⟨v3, vs3, d3, ds3, p3, q3, rfl, rfl, rfl, h3, r3⟩ := trodAll_cons r2
  obtain ⟨v4, vs4, d4, ds4, p4, q4, rfl, rfl, rfl, h4, r4⟩ := trodAll_cons r3
  obtain ⟨rfl, rfl, rfl⟩ := trodAll_nil r4
  obtain rfl : args = #[v0, v1, v2, v3, v4] := by cases args; simp_all
  obtain ⟨rfl, rfl⟩ := trodVars_none hV
  have k0 := h0
  have lt0 : ∀ x ∈ p0, x.block < W.heap.size := by obtain ⟨m, hm⟩ := k0; exact DataW.trod_lt m _ _ _ hm
  obtain ⟨a0, l0, c0, e0⟩ := okWide_slice Try.underlying22 (hval 0 22 v0 rfl rfl)
  have w0 : Rd Try.prog W 22 v0 := by
    obtain ⟨fuel, hf⟩ := h0
    subst e0
    exact ⟨H, enc, fuel, _, by simpa [Value.cells] using hf⟩
  have k1 := h1
  have lt1 : ∀ x ∈ p1, x.block < W.heap.size := by obtain ⟨m, hm⟩ := k1; exact DataW.trod_lt m _ _ _ hm
  obtain ⟨n1, e1⟩ := okWide_int Try.underlying3 (hval 1 3 v1 rfl rfl)
  have w1 : Rd Try.prog W 3 v1 := by
    obtain ⟨fuel, hf⟩ := h1
    subst e1
    exact ⟨H, enc, fuel, _, by simpa [Value.cells] using hf⟩
  have k2 := h2
  have lt2 : ∀ x ∈ p2, x.block < W.heap.size := by obtain ⟨m, hm⟩ := k2; exact DataW.trod_lt m _ _ _ hm
  have w2 : RdAgg Try.prog W 24 v2 := rd_agg Try.underlying24 (by kernel_rfl) (by kernel_rfl) (hval 2 24 v2 rfl rfl) h2
  have k3 := h3
  have lt3 : ∀ x ∈ p3, x.block < W.heap.size := by obtain ⟨m, hm⟩ := k3; exact DataW.trod_lt m _ _ _ hm
  have w3 : RdAgg Try.prog W 24 v3 := rd_agg Try.underlying24 (by kernel_rfl) (by kernel_rfl) (hval 3 24 v3 rfl rfl) h3
  have k4 := h4
  have lt4 : ∀ x ∈ p4, x.block < W.heap.size := by obtain ⟨m, hm⟩ := k4; exact DataW.trod_lt m _ _ _ hm
  obtain ⟨n4, e4⟩ := okWide_int Try.underlying3 (hval 4 3 v4 rfl rfl)
  have w4 : Rd Try.prog W 3 v4 := by
    obtain ⟨fuel, hf⟩ := h4
    subst e4
    exact ⟨H, enc, fuel, _, by simpa [Value.cells] using hf⟩
  clear hA0 hval0
  refine (walk v0 v1 v2 v3 v4 W w0 w1 w2 w3 w4).mono fun e W' ⟨he, bel⟩ => ?_
  subst he
  exact ⟨_, rfl, _, _, _, [], _, [], hW', trodAll_mk1 (shut_bool Try.underlying4 _), (trodAll_cons_mk (Below.trod laidOut (by kernel_rfl) (of_decide_eq_true (by kernel_rfl)) k0 bel lt0) (trodAll_cons_mk (Below.trod laidOut (by kernel_rfl) (of_decide_eq_true (by kernel_rfl)) k1 bel lt1) (trodAll_cons_mk (Below.trod laidOut (by kernel_rfl) (of_decide_eq_true (by kernel_rfl)) k2 bel lt2) (trodAll_cons_mk (Below.trod laidOut (by kernel_rfl) (of_decide_eq_true (by kernel_rfl)) k3 bel lt3) (trodAll_cons_mk (Below.trod laidOut (by kernel_rfl) (of_decide_eq_true (by kernel_rfl)) k4 bel lt4) trodAll_mk0))))), rfl, bel.frame _, fun h => by cases h⟩

theorem over : Rows.cellTellsRow.holds Try.pinned (OpenSpec.ofChange Rows.cellTellsSpec) :=
  OpenClaim.holds_of_wide 3 Try.f3 rfl rfl rfl rfl rfl rfl rfl ⟨rfl, rfl, rfl, rfl, rfl⟩ rfl rfl rfl rfl rfl (by kernel_rfl) Try.func3 (by kernel_rfl)
    (of_decide_eq_true (by kernel_rfl)) (by unfold Func.isWrapper; first | (rw [if_pos (by decide +kernel)]; kernel_rfl) | (rw [if_neg (by decide +kernel)]; exact ⟨rfl, rfl⟩))
    (fun os started H enc _ => lifted os started H enc)

theorem proved : Rows.CellTellsSaid := over
#print axioms proved
end Go.Proofs.Ytipfdildnnfmkaa.cellTells

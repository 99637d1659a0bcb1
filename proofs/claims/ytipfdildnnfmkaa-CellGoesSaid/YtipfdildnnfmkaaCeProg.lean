/- The program's layer 23: Beside, Less, Fits, Of. -/
import Derived.Test.YtipfdildnnfmkaaCeGo2
namespace Go.Proofs.Ytipfdildnnfmkaa
open Go.RowKit DiPlain NumPlain CePlain Flt
set_option linter.unusedVariables false
set_option linter.unusedSimpArgs false
set_option maxRecDepth 20000
theorem beside23_c (px py qx qy : Int) (h1 : I64 px) (h2 : I64 py) (h3 : I64 qx) (h4 : I64 qy) (w : World) : Calls Try.prog 10 #[.agg #[.int .i64 px, .int .i64 py], .agg #[.int .i64 qx, .int .i64 qy]] w fun e w' => e = .returned (.bool (besideB px py qx qy)) ∧ Gr w w' := by
  obtain ⟨V, hV⟩ : ∃ V, PlV w px py qx qy = V := ⟨_, rfl⟩
  obtain ⟨⟨c0, c1, c2, c3⟩, g⟩ := plv_at (w := w) (px := px) (py := py) (qx := qx) (qy := qy) (Gr.refl _)
  rw [hV] at c0 c1 c2 c3 g
  have G := Lib.hid g
  have HV := Lib.hid (show (w.alloc (.cells #[.int .i64 px, .int .i64 py] 24)).alloc (.cells #[.int .i64 qx, .int .i64 qy] 24) = V from hV)
  have N1 := Lib.hid (touch23_c px qx h1 h3 V)
  have N2 := Lib.hid (touch23_c py qy h2 h4 V)
  obtain ⟨b0, hb0⟩ : ∃ b, decide (px = qx ∧ py = qy) = b := ⟨_, rfl⟩
  have NE := pl_neq px py qx qy b0 hb0
  obtain ⟨b1, hb1⟩ : ∃ b, nearB px qx = b := ⟨_, rfl⟩
  obtain ⟨b2, hb2⟩ : ∃ b, nearB py qy = b := ⟨_, rfl⟩
  rw [hb1] at N1
  rw [hb2] at N2
  have hr : besideB px py qx qy = (!b0 && (b1 && b2)) := by
    unfold besideB
    rw [hb1, hb2, ← hb0]
    by_cases e : px = qx ∧ py = qy
    · rw [decide_eq_true e, decide_eq_false (fun k => k e)]; rfl
    · rw [decide_eq_false e, decide_eq_true e]; rfl
  rw [hr]
  clear hV g hb0 hb1 hb2 hr h1 h2 h3 h4
  cases b0 with
  | true =>
    go_enter Try.func10, Try.ntmps10
    go_wp2_with fail
    rw [HV.out]
    try go_wp2_with fail
    go_ret
    exact ⟨rfl, G.out⟩
  | false =>
    cases b1 with
    | false =>
      go_enter Try.func10, Try.ntmps10
      go_wp2_with fail
      rw [HV.out]
      refine N1.out.mono ?_; rintro e u ⟨rfl, rfl⟩
      go_wp2_with fail
      go_ret
      exact ⟨rfl, G.out⟩
    | true =>
      cases b2 <;>
      · go_enter Try.func10, Try.ntmps10
        go_wp2_with fail
        rw [HV.out]
        refine N1.out.mono ?_; rintro e u ⟨rfl, rfl⟩
        go_wp2_with fail
        refine N2.out.mono ?_; rintro e u ⟨rfl, rfl⟩
        go_wp2_with fail
        go_ret
        exact ⟨rfl, G.out⟩
theorem less23_c (px py qx qy : Int) (w : World) : Calls Try.prog 12 #[.agg #[.int .i64 px, .int .i64 py], .agg #[.int .i64 qx, .int .i64 qy]] w fun e w' => e = .returned (.bool (lessB px py qx qy)) ∧ Gr w w' := by
  obtain ⟨V, hV⟩ : ∃ V, PlV w px py qx qy = V := ⟨_, rfl⟩
  obtain ⟨_, g⟩ := plv_at (w := w) (px := px) (py := py) (qx := qx) (qy := qy) (Gr.refl _)
  rw [hV] at g
  have G := Lib.hid g
  have HV := Lib.hid (show (w.alloc (.cells #[.int .i64 px, .int .i64 py] 24)).alloc (.cells #[.int .i64 qx, .int .i64 qy] 24) = V from hV)
  obtain ⟨r, hr⟩ : ∃ r, lessB px py qx qy = r := ⟨_, rfl⟩
  rw [hr]
  unfold lessB at hr
  clear hV g
  by_cases h2 : px = qx
  · subst h2
    obtain rfl : decide (py < qy) = r := by
      rw [← hr]
      by_cases h3 : py < qy
      · rw [decide_eq_true h3, decide_eq_true (.inr ⟨rfl, h3⟩)]
      · rw [decide_eq_false h3, decide_eq_false (by omega)]
    clear hr
    by_cases h3 : py < qy
    · rw [decide_eq_true h3]
      go_enter Try.func12, Try.ntmps12
      go_wp2_with fail
      go_ret
      exact ⟨rfl, by rw [HV.out]; exact G.out⟩
    · rw [decide_eq_false h3]
      go_enter Try.func12, Try.ntmps12
      go_wp2_with fail
      go_ret
      exact ⟨rfl, by rw [HV.out]; exact G.out⟩
  · have e0 : ((px : Int) != qx) = true := by simpa using h2
    have e1 : ((px : Int) == qx) = false := by simpa using h2
    by_cases h1 : px < qx
    · obtain rfl : r = true := by rw [← hr]; exact decide_eq_true (.inl h1)
      clear hr
      go_enter Try.func12, Try.ntmps12
      go_wp2_with fail
      go_ret
      exact ⟨rfl, by rw [HV.out]; exact G.out⟩
    · obtain rfl : r = false := by rw [← hr]; exact decide_eq_false (by omega)
      clear hr
      go_enter Try.func12, Try.ntmps12
      go_wp2_with fail
      go_ret
      exact ⟨rfl, by rw [HV.out]; exact G.out⟩
theorem fits23_c (eps w0 : Int) (w : World) : Calls Try.prog 14 #[.int .i64 eps, .int .i64 w0] w fun e w' => e = .returned (.bool (fitsB eps w0)) ∧ w = w' := by
  obtain ⟨r, hr⟩ : ∃ r, fitsB eps w0 = r := ⟨_, rfl⟩
  rw [hr]
  have C := Lib.hid (wide23_c w0 w)
  obtain ⟨q, hq⟩ : ∃ q, wideB w0 = q := ⟨_, rfl⟩
  rw [hq] at C
  unfold fitsB at hr
  rw [hq] at hr
  cases q with
  | false =>
    obtain rfl : r = false := by rw [← hr]; rfl
    clear hr hq
    go_enter Try.func14, Try.ntmps14
    go_wp2_with fail
    refine C.out.mono ?_; rintro e u ⟨rfl, rfl⟩
    go_wp2_with fail
    go_ret
    exact ⟨rfl, rfl⟩
  | true =>
    obtain ⟨h1, h2⟩ : 1 ≤ w0 ∧ w0 ≤ 2147483648 := of_decide_eq_true hq
    have hm : 0 ≤ w0 * w0 ∧ w0 * w0 ≤ 2147483648 * 2147483648 := ⟨Int.mul_nonneg (by omega) (by omega), Int.mul_le_mul h2 h2 (by omega) (by omega)⟩
    have hw64 : wrap64 (w0 * w0) = w0 * w0 := by unfold wrap64; omega
    rw [Bool.true_and] at hr
    by_cases h3 : 0 ≤ eps
    · by_cases h5 : eps ≤ w0 * w0
      · obtain rfl : r = true := by rw [← hr]; exact decide_eq_true (by omega)
        clear hr hq hm h1 h2
        go_enter Try.func14, Try.ntmps14
        go_wp2_with fail
        refine C.out.mono ?_; rintro e u ⟨rfl, rfl⟩
        go_wp2_with fail
        go_ret
        exact ⟨rfl, rfl⟩
      · obtain rfl : r = false := by rw [← hr]; exact decide_eq_false (fun k => h5 k.2)
        have h6 : decide (eps ≤ w0 * w0) = false := decide_eq_false h5
        clear hr hq hm h1 h2 h5
        go_enter Try.func14, Try.ntmps14
        go_wp2_with fail
        refine C.out.mono ?_; rintro e u ⟨rfl, rfl⟩
        go_wp2_with fail
        go_ret
        exact ⟨rfl, rfl⟩
    · obtain rfl : r = false := by rw [← hr]; exact decide_eq_false (fun k => h3 k.1.1)
      clear hr hq hm h1 h2
      go_enter Try.func14, Try.ntmps14
      go_wp2_with fail
      refine C.out.mono ?_; rintro e u ⟨rfl, rfl⟩
      go_wp2_with fail
      go_ret
      exact ⟨rfl, rfl⟩
set_option maxHeartbeats 2000000 in
theorem of23_c {w : World} {v : Value} {l : List Int} (h : LiesI w v l) (hl : l.length ≤ 4000) (w0 : Int) (hw : I64 w0) :
    Calls Try.prog 8 #[v, .int .i64 w0] w fun e w' => e = .returned (.tuple #[.agg #[.int .i64 (ofX l w0), .int .i64 (ofY l w0)], .bool (ofB l w0)]) ∧ Gr w w' := by
  have y0 := heap_alloc_new w (.cells #[.int .i64 0, .int .i64 0] 24)
  have g0 := gr23 w (.cells #[.int .i64 0, .int .i64 0] 24)
  obtain ⟨V, hV⟩ : ∃ V, w.alloc (.cells #[.int .i64 0, .int .i64 0] 24) = V := ⟨_, rfl⟩
  have hVz : V.heap.size = w.heap.size + 1 := by rw [← hV]; simp
  rw [hV] at y0 g0
  obtain ⟨z, hz⟩ : ∃ z, w.heap.size = z := ⟨_, rfl⟩
  rw [hz] at y0 hVz
  have HZ := Lib.hid hz
  have HV := Lib.hid hV
  have HY := Lib.hid y0
  have G0 := Lib.hid g0
  have HVZ := Lib.hid hVz
  have hR := dright_c (h.gr g0) (by omega)
  have WI := Lib.hid (wide23_c w0 V)
  obtain ⟨a, c, rfl, hc, hh⟩ := id h
  obtain ⟨d0, d1, f0, f1⟩ := pl_cells y0
  obtain ⟨n, hn⟩ : ∃ n, l.length = n := ⟨_, rfl⟩
  rw [hn] at hc hR ⊢
  have ST := Lib.hid (fun u (g : Gr V u) (x y : Value) => pl_store ((Below.block g z (by rw [HVZ.out]; omega)).trans HY.out) x y)
  have GS := Lib.hid (fun u (g : Gr V u) (x y : Value) => (show Gr w ((u.setCell ⟨z, 0, none⟩ x).setCell ⟨z, 1, none⟩ y) from Below.setCell (Below.setCell (G0.out.trans g) (by rw [HZ.out]; exact Nat.le_refl _) _) (by rw [HZ.out]; exact Nat.le_refl _) _))
  obtain ⟨qw, hqw⟩ : ∃ q, wideB w0 = q := ⟨_, rfl⟩
  rw [hqw] at WI
  have bad : ofB l w0 = false → (qw = false ∨ (qw = true ∧ rightV l = false)) → Calls Try.prog 8 #[.slice a n c, .int .i64 w0] w fun e w' => e = .returned (.tuple #[.agg #[.int .i64 (ofX l w0), .int .i64 (ofY l w0)], .bool (ofB l w0)]) ∧ Gr w w' := by
    intro e2 hcase
    have e := of_zero e2
    rw [e.1, e.2, e2]
    have RR := Lib.hid hR
    clear h hh hV hz g0 y0 hVz hR e e2 hqw hw
    rcases hcase with h1 | ⟨h1, h2⟩
    · rw [h1] at WI
      clear h1
      go_enter Try.func8, Try.ntmps8
      go_wp2_with fail
      rw [HZ.out, HV.out]
      refine WI.out.mono ?_; rintro e u ⟨rfl, rfl⟩
      go_wp2_with fail
      exact bodyPost_ret (by exact pl_results rfl rfl rfl (ST.out V (Gr.refl _) (.int .i64 0) (.int .i64 0))) rfl ⟨rfl, GS.out V (Gr.refl _) (.int .i64 0) (.int .i64 0)⟩
    · rw [h1] at WI
      rw [h2] at RR
      clear h1 h2
      go_enter Try.func8, Try.ntmps8
      go_wp2_with fail
      rw [HZ.out, HV.out]
      refine WI.out.mono ?_; rintro e u ⟨rfl, rfl⟩
      go_wp2_with fail
      refine RR.out.mono ?_; rintro e u ⟨rfl, rfl⟩
      go_wp2_with fail
      exact bodyPost_ret (by exact pl_results rfl rfl rfl (ST.out V (Gr.refl _) (.int .i64 0) (.int .i64 0))) rfl ⟨rfl, GS.out V (Gr.refl _) (.int .i64 0) (.int .i64 0)⟩
  cases qw with
  | false => exact bad (by unfold ofB; rw [hqw, Bool.and_false]) (.inl rfl)
  | true =>
  cases hr : rightV l with
  | false => exact bad (ofB_no1 hr) (.inr ⟨rfl, hr⟩)
  | true =>
    clear bad
    have hob : ofB l w0 = true := by unfold ofB; rw [hr, hqw]; rfl
    obtain ⟨⟨hn1, hn2⟩, hfit⟩ := rightV_parts hr
    obtain ⟨b, off, rfl, hrow⟩ := hh.resolve_left (fun e => by rw [e] at hn1; cases hn1)
    have hrowV := hrow.gr g0
    obtain ⟨x0, hx0⟩ : ∃ x, l[0]? = some x := ⟨_, List.getElem?_eq_getElem (by omega)⟩
    have k0 : V.cell? ⟨b, off, none⟩ = some (.int .i64 x0) := by
      have := hrowV.2 0 (.int .i64 x0) (by unfold ints; rw [List.getElem?_map, hx0]; rfl)
      simpa using this
    have b0 := hfit x0 (List.mem_of_getElem? hx0)
    have FL0 := Lib.hid (floor_any x0 w0 V ⟨by omega, by omega⟩ hw)
    have hX : ofX l w0 = floorF x0 w0 := by unfold ofX; rw [if_pos hob, List.getD_eq_getElem?_getD, hx0]; rfl
    rw [hob, hX]
    rw [hr] at hR
    have RR := Lib.hid hR
    obtain ⟨f0', hf0⟩ : ∃ f, floorF x0 w0 = f := ⟨_, rfl⟩
    rw [hf0] at FL0 ⊢
    have gX := gr23 V (.cells #[.int .i64 f0', .int .i64 0] 24)
    have q0 : (0 : Int) < (n : Int) := by omega
    have q0' : 0 < n := by omega
    by_cases hn3 : 1 < n
    · obtain ⟨x1, hx1⟩ : ∃ x, l[1]? = some x := ⟨_, List.getElem?_eq_getElem (by omega)⟩
      have hY : ofY l w0 = floorF x1 w0 := by unfold ofY; rw [if_pos ⟨hob, by omega⟩, List.getD_eq_getElem?_getD, hx1]; rfl
      have b1 := hfit x1 (List.mem_of_getElem? hx1)
      rw [hY]
      have k1 : (V.alloc (.cells #[.int .i64 f0', .int .i64 0] 24)).cell? ⟨b, off + 1, none⟩ = some (.int .i64 x1) := (hrowV.gr gX).2 1 (.int .i64 x1) (by unfold ints; rw [List.getElem?_map, hx1]; rfl)
      have FL1 := Lib.hid (fun u => floor_any x1 w0 u ⟨by omega, by omega⟩ hw)
      obtain ⟨f1', hf1⟩ : ∃ f, floorF x1 w0 = f := ⟨_, rfl⟩
      rw [hf1] at FL1 ⊢
      have gX2 := gr23 V (.cells #[.int .i64 f0', .int .i64 f1'] 24)
      have zx := pl_cells ((Below.block gX2 z (by omega)).trans y0)
      obtain ⟨zx0, zx1, zx2, zx3⟩ := zx
      have q1 : (1 : Int) < (n : Int) := by omega
      have GX := Lib.hid gX2
      clear h hh hV hz g0 y0 hVz hR hrow hrowV hfit hx0 hx1 hX hY hf0 hf1 b0 b1 gX gX2 hob hr hqw hw
      go_enter Try.func8, Try.ntmps8
      go_wp2_with fail
      rw [HZ.out, HV.out]
      refine WI.out.mono ?_; rintro e u ⟨rfl, rfl⟩
      go_wp2_with fail
      refine RR.out.mono ?_; rintro e u ⟨rfl, rfl⟩
      go_wp2_with fail
      refine FL0.out.mono ?_; rintro e u ⟨rfl, rfl⟩
      go_wp2_with fail
      refine (FL1.out _).mono ?_; rintro e u ⟨rfl, rfl⟩
      go_wp2_with fail
      exact bodyPost_ret (by exact pl_results rfl rfl rfl (ST.out _ GX.out _ _)) rfl ⟨rfl, GS.out _ GX.out _ _⟩
    · have hY : ofY l w0 = 0 := by unfold ofY; rw [if_neg (fun k => by omega)]
      rw [hY]
      have zx := pl_cells ((Below.block gX z (by omega)).trans y0)
      obtain ⟨zx0, zx1, zx2, zx3⟩ := zx
      have q1 : ¬ (1 : Int) < (n : Int) := by omega
      have GX := Lib.hid gX
      clear h hh hV hz g0 y0 hVz hR hrow hrowV hfit hx0 hX hY hf0 b0 gX hob hr hqw hw
      go_enter Try.func8, Try.ntmps8
      go_wp2_with fail
      rw [HZ.out, HV.out]
      refine WI.out.mono ?_; rintro e u ⟨rfl, rfl⟩
      go_wp2_with fail
      refine RR.out.mono ?_; rintro e u ⟨rfl, rfl⟩
      go_wp2_with fail
      refine FL0.out.mono ?_; rintro e u ⟨rfl, rfl⟩
      go_wp2_with fail
      exact bodyPost_ret (by exact pl_results rfl rfl rfl (ST.out _ GX.out _ _)) rfl ⟨rfl, GS.out _ GX.out _ _⟩
end Go.Proofs.Ytipfdildnnfmkaa

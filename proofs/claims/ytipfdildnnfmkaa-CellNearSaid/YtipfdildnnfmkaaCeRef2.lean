/- The document's layer 23: Beside, Less, Steps, Of, Go. -/
import Derived.Test.YtipfdildnnfmkaaCeRef
import Derived.Deep.DeepCutAuto
namespace Go.Proofs.Ytipfdildnnfmkaa
open Go.RowKit DiPlain NumPlain CePlain
set_option linter.unusedVariables false
set_option linter.unusedSimpArgs false
set_option maxRecDepth 20000
theorem pl_on (n m : Int) (w : World) : (Op.equalIn 10000 24 (.agg #[.int .i64 n, .int .i64 m]) (.agg #[.int .i64 n, .int .i64 m])).run Try.prog w = .ok true w := by
  rw [run_equalIn_agg w 9999 _ _ _ (by kernel_rfl) (by kernel_rfl)]
  simp [go_sem]
theorem pl_off (n m n' m' : Int) (h : ¬ (n = n' ∧ m = m')) (w : World) : (Op.equalIn 10000 24 (.agg #[.int .i64 n, .int .i64 m]) (.agg #[.int .i64 n', .int .i64 m'])).run Try.prog w = .ok false w := by
  rw [run_equalIn_agg w 9999 _ _ _ (by kernel_rfl) (by kernel_rfl)]
  by_cases h1 : n = n'
  · have h2 : ¬ m = m' := fun e => h ⟨h1, e⟩
    simp [go_sem, h1, h2]
  · simp [go_sem, h1]
theorem pl_eql (n m n' m' : Int) (r : Bool) (h : decide (n = n' ∧ m = m') = r) (w : World) : (binOp .eql 24 (.agg #[.int .i64 n, .int .i64 m]) (.agg #[.int .i64 n', .int .i64 m'])).run Try.prog w = .ok (.bool r) w := by
  subst h
  rw [run_eql_struct]
  by_cases h : n = n' ∧ m = m'
  · rw [h.1, h.2, pl_on]
    simp [go_sem]
  · rw [pl_off n m n' m' h, decide_eq_false h]
    rfl
theorem pl_neq (n m n' m' : Int) (r : Bool) (h : decide (n = n' ∧ m = m') = r) (w : World) : (binOp .neq 24 (.agg #[.int .i64 n, .int .i64 m]) (.agg #[.int .i64 n', .int .i64 m'])).run Try.prog w = .ok (.bool !r) w := by
  subst h
  rw [run_neq_struct]
  by_cases h : n = n' ∧ m = m'
  · rw [h.1, h.2, pl_on]
    simp [go_sem]
  · rw [pl_off n m n' m' h, decide_eq_false h]
    rfl
theorem pl_results {fn : Func} {p q : Tmp} (hfn : fn.results = #[.cell p 24, .tmp q]) {tmps : Array Value} {o : Nat} {x y v : Value} {w : World} (hp : tmps.getD p undef = .pointer (some ⟨o, 0, none⟩)) (hv : tmps.getD q undef = v) (hb : w.heap[o]? = some (.cells #[x, y] 24 (0, 0))) :
    (results fn tmps).run Try.prog w = .ok (.tuple #[.agg #[x, y], v]) w := by
  have c0 : w.cell? ⟨o, 0, none⟩ = some x := by rw [cells_at hb]; rfl
  have c1 : w.cell? ⟨o, 1, none⟩ = some y := by rw [cells_at hb]; rfl
  rw [results_cell_tmp hfn, hp, hv]
  simp [go_sem, c0, c1]
/-- Two places in blocks of their own. -/
def PlV (w : World) (px py qx qy : Int) : World := (w.alloc (.cells #[.int .i64 px, .int .i64 py] 24)).alloc (.cells #[.int .i64 qx, .int .i64 qy] 24)
theorem plv_at {w u : World} {px py qx qy : Int} (g : Gr (PlV w px py qx qy) u) : (u.cell? ⟨w.heap.size, 0, none⟩ = some (.int .i64 px) ∧ u.cell? ⟨w.heap.size, 1, none⟩ = some (.int .i64 py) ∧ u.cell? ⟨w.heap.size + 1, 0, none⟩ = some (.int .i64 qx) ∧ u.cell? ⟨w.heap.size + 1, 1, none⟩ = some (.int .i64 qy)) ∧ Gr w u := by
  have h1 : (w.alloc (.cells #[.int .i64 px, .int .i64 py] 24)).heap.size = w.heap.size + 1 := by simp
  have hz : (PlV w px py qx qy).heap.size = w.heap.size + 2 := by simp [PlV]
  have e0 : u.heap[w.heap.size]? = some (.cells #[.int .i64 px, .int .i64 py] 24 (0, 0)) := by
    rw [Below.block g _ (by omega)]
    unfold PlV
    rw [Below.block (gr23 _ _) _ (by omega)]
    exact heap_alloc_new w _
  have e1 : u.heap[w.heap.size + 1]? = some (.cells #[.int .i64 qx, .int .i64 qy] 24 (0, 0)) := by
    rw [Below.block g _ (by omega), ← h1]
    exact heap_alloc_new _ _
  exact ⟨⟨by rw [cells_at e0]; rfl, by rw [cells_at e0]; rfl, by rw [cells_at e1]; rfl, by rw [cells_at e1]; rfl⟩, (gr23 w _).trans ((gr23 _ _).trans g)⟩
theorem rbeside23_c (px py qx qy : Int) (h1 : I64 px) (h2 : I64 py) (h3 : I64 qx) (h4 : I64 qy) (w : World) : Calls Try.prog 11 #[.agg #[.int .i64 px, .int .i64 py], .agg #[.int .i64 qx, .int .i64 qy]] w fun e w' => e = .returned (.bool (besideB px py qx qy)) ∧ Gr w w' := by
  obtain ⟨V, hV⟩ : ∃ V, PlV w px py qx qy = V := ⟨_, rfl⟩
  obtain ⟨⟨c0, c1, c2, c3⟩, g⟩ := plv_at (w := w) (px := px) (py := py) (qx := qx) (qy := qy) (Gr.refl _)
  rw [hV] at c0 c1 c2 c3 g
  have G := Lib.hid g
  have HV := Lib.hid (show (w.alloc (.cells #[.int .i64 px, .int .i64 py] 24)).alloc (.cells #[.int .i64 qx, .int .i64 qy] 24) = V from hV)
  have N1 := Lib.hid (rnear23_c px qx h1 h3 V)
  have N2 := Lib.hid (rnear23_c py qy h2 h4 V)
  obtain ⟨b0, hb0⟩ : ∃ b, decide (px = qx ∧ py = qy) = b := ⟨_, rfl⟩
  have NE := pl_neq px py qx qy b0 hb0
  obtain ⟨b1, hb1⟩ : ∃ b, nearB px qx = b := ⟨_, rfl⟩
  obtain ⟨b2, hb2⟩ : ∃ b, nearB py qy = b := ⟨_, rfl⟩
  rw [hb1] at N1
  rw [hb2] at N2
  have hr : besideB px py qx qy = (!b0 && (b1 && b2)) := by
    unfold besideB
    rw [hb1, hb2, ← hb0]
    by_cases e : px = qx ∧ py = qy
    · rw [decide_eq_true e, decide_eq_false (fun k => k e)]; rfl
    · rw [decide_eq_false e, decide_eq_true e]; rfl
  rw [hr]
  clear hV g hb0 hb1 hb2 hr h1 h2 h3 h4
  cases b0 with
  | true =>
    go_enter Try.func11, Try.ntmps11
    go_wp2_with fail
    rw [HV.out]
    try go_wp2_with fail
    go_ret
    exact ⟨rfl, G.out⟩
  | false =>
    cases b1 with
    | false =>
      go_enter Try.func11, Try.ntmps11
      go_wp2_with fail
      rw [HV.out]
      refine N1.out.mono ?_; rintro e u ⟨rfl, rfl⟩
      go_wp2_with fail
      go_ret
      exact ⟨rfl, G.out⟩
    | true =>
      cases b2 <;>
      · go_enter Try.func11, Try.ntmps11
        go_wp2_with fail
        rw [HV.out]
        refine N1.out.mono ?_; rintro e u ⟨rfl, rfl⟩
        go_wp2_with fail
        refine N2.out.mono ?_; rintro e u ⟨rfl, rfl⟩
        go_wp2_with fail
        go_ret
        exact ⟨rfl, G.out⟩
theorem rless23_c (px py qx qy : Int) (w : World) : Calls Try.prog 13 #[.agg #[.int .i64 px, .int .i64 py], .agg #[.int .i64 qx, .int .i64 qy]] w fun e w' => e = .returned (.bool (lessB px py qx qy)) ∧ Gr w w' := by
  obtain ⟨V, hV⟩ : ∃ V, PlV w px py qx qy = V := ⟨_, rfl⟩
  obtain ⟨⟨c0, c1, c2, c3⟩, g⟩ := plv_at (w := w) (px := px) (py := py) (qx := qx) (qy := qy) (Gr.refl _)
  rw [hV] at c0 c1 c2 c3 g
  have G := Lib.hid g
  have HV := Lib.hid (show (w.alloc (.cells #[.int .i64 px, .int .i64 py] 24)).alloc (.cells #[.int .i64 qx, .int .i64 qy] 24) = V from hV)
  obtain ⟨r, hr⟩ : ∃ r, lessB px py qx qy = r := ⟨_, rfl⟩
  rw [hr]
  unfold lessB at hr
  clear hV g
  by_cases h1 : px < qx
  · obtain rfl : r = true := by rw [← hr]; exact decide_eq_true (.inl h1)
    clear hr c0 c1 c2 c3
    go_enter Try.func13, Try.ntmps13
    go_wp2_with fail
    go_ret
    exact ⟨rfl, by rw [HV.out]; exact G.out⟩
  · by_cases h2 : px = qx
    · by_cases h3 : py < qy
      · obtain rfl : r = true := by rw [← hr]; exact decide_eq_true (.inr ⟨h2, h3⟩)
        subst h2
        clear hr c0 c1 c2 c3
        go_enter Try.func13, Try.ntmps13
        go_wp2_with fail
        go_ret
        exact ⟨rfl, by rw [HV.out]; exact G.out⟩
      · obtain rfl : r = false := by rw [← hr]; exact decide_eq_false (by omega)
        subst h2
        clear hr c0 c1 c2 c3
        go_enter Try.func13, Try.ntmps13
        go_wp2_with fail
        go_ret
        exact ⟨rfl, by rw [HV.out]; exact G.out⟩
    · obtain rfl : r = false := by rw [← hr]; exact decide_eq_false (by omega)
      have e0 : ((px : Int) == qx) = false := by simpa using h2
      clear hr c0 c1 c2 c3
      go_enter Try.func13, Try.ntmps13
      go_wp2_with fail
      go_ret
      exact ⟨rfl, by rw [HV.out]; exact G.out⟩
end Go.Proofs.Ytipfdildnnfmkaa

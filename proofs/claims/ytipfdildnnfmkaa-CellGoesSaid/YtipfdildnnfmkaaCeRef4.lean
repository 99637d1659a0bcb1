/- The document's layer 23: Steps, Go. -/
import Derived.Test.YtipfdildnnfmkaaCeAwake
namespace Go.Proofs.Ytipfdildnnfmkaa
open Go.RowKit DiPlain NumPlain CePlain Flt
set_option linter.unusedVariables false
set_option linter.unusedSimpArgs false
set_option maxRecDepth 20000
def stepsO : Obj := .cells #[.int .i64 1, .int .i64 0, .int .i64 (-1), .int .i64 1, .int .i64 0, .int .i64 1, .int .i64 1, .int .i64 1] 39 (0, 0)
theorem rsteps23_c (w : World) : Calls Try.prog 19 #[] w fun e w' => e = .returned (.slice (some ⟨w.heap.size, 0, none⟩) 4 4) ∧ w' = w.alloc stepsO := by
  go_enter Try.func19, Try.ntmps19
  go_wp2_with fail
  go_ret
  exact ⟨rfl, rfl⟩
namespace CePlain
/-- What X and Y grow by, by the i-th way; below 0: by none. -/
def growX (i : Int) : Int := if i < 0 then 0 else stepX i.toNat
def growY (i : Int) : Int := if i < 0 then 0 else stepY i.toNat
theorem grow_led {i : Int} (h : -1 ≤ i ∧ i < 4) : ledB (growX i) (growY i) = true := by
  obtain rfl | rfl | rfl | rfl | rfl : i = -1 ∨ i = 0 ∨ i = 1 ∨ i = 2 ∨ i = 3 := by omega
  all_goals decide
theorem go_grow {px py i : Int} (h : -1 ≤ i ∧ i < 4) : goB px py (growX i) (growY i) = (mayB px && mayB py) := by
  unfold goB; rw [grow_led h, Bool.and_true]
end CePlain
theorem rgo_bad (i px py : Int) (h : (mayB px && mayB py) = false) (w : World) :
    Calls Try.prog 18 #[.agg #[.int .i64 px, .int .i64 py], .int .i64 i] w fun e w' => e = .returned (.tuple #[.agg #[.int .i64 0, .int .i64 0], .bool false]) ∧ Gr w w' := by
  obtain ⟨V, hV⟩ : ∃ V, PzV w px py = V := ⟨_, rfl⟩
  have at' := pzv_at (w := w) (px := px) (py := py) (Gr.refl _)
  rw [hV] at at'
  obtain ⟨⟨c0, c1⟩, z1, g2⟩ := at'
  have HV := Lib.hid (show (w.alloc (.cells #[.int .i64 px, .int .i64 py] 24)).alloc (.cells #[.int .i64 0, .int .i64 0] 24) = V from hV)
  obtain ⟨d0, d1, f0, f1⟩ := pl_cells z1
  have Z := Lib.hid z1
  have G := Lib.hid g2
  have M1 := Lib.hid (rmay23_c px V)
  have M2 := Lib.hid (rmay23_c py V)
  obtain ⟨q1, hq1⟩ : ∃ q, mayB px = q := ⟨_, rfl⟩
  obtain ⟨q2, hq2⟩ : ∃ q, mayB py = q := ⟨_, rfl⟩
  rw [hq1] at M1 h
  rw [hq2] at M2 h
  clear hV z1 g2 hq1 hq2
  cases q1 with
  | false =>
    clear h
    go_enter Try.func18, Try.ntmps18
    go_wp2_with fail
    rw [HV.out]
    refine M1.out.mono ?_; rintro e u ⟨rfl, rfl⟩
    go_wp2_with fail
    exact bodyPost_ret (by exact pl_results rfl rfl rfl (pl_store Z.out _ _)) rfl ⟨rfl, pl_set_gr G.out (Nat.le_succ _) _ _⟩
  | true =>
    cases q2 with
    | true => cases h
    | false =>
      clear h
      go_enter Try.func18, Try.ntmps18
      go_wp2_with fail
      rw [HV.out]
      refine M1.out.mono ?_; rintro e u ⟨rfl, rfl⟩
      go_wp2_with fail
      refine M2.out.mono ?_; rintro e u ⟨rfl, rfl⟩
      go_wp2_with fail
      exact bodyPost_ret (by exact pl_results rfl rfl rfl (pl_store Z.out _ _)) rfl ⟨rfl, pl_set_gr G.out (Nat.le_succ _) _ _⟩
theorem rgo_off (px py : Int) (h : (mayB px && mayB py) = true) (w : World) :
    Calls Try.prog 18 #[.agg #[.int .i64 px, .int .i64 py], .int .i64 (-1)] w fun e w' => e = .returned (.tuple #[.agg #[.int .i64 px, .int .i64 py], .bool true]) ∧ Gr w w' := by
  obtain ⟨V, hV⟩ : ∃ V, PzV w px py = V := ⟨_, rfl⟩
  have at' := pzv_at (w := w) (px := px) (py := py) (Gr.refl _)
  rw [hV] at at'
  obtain ⟨⟨c0, c1⟩, z1, g2⟩ := at'
  have HV := Lib.hid (show (w.alloc (.cells #[.int .i64 px, .int .i64 py] 24)).alloc (.cells #[.int .i64 0, .int .i64 0] 24) = V from hV)
  obtain ⟨d0, d1, f0, f1⟩ := pl_cells z1
  have Z := Lib.hid z1
  have G := Lib.hid g2
  rw [Bool.and_eq_true] at h
  have M1 := Lib.hid (rmay23_c px V)
  have M2 := Lib.hid (rmay23_c py V)
  rw [h.1] at M1
  rw [h.2] at M2
  clear hV z1 g2 h
  go_enter Try.func18, Try.ntmps18
  go_wp2_with fail
  rw [HV.out]
  refine M1.out.mono ?_; rintro e u ⟨rfl, rfl⟩
  go_wp2_with fail
  refine M2.out.mono ?_; rintro e u ⟨rfl, rfl⟩
  go_wp2_with fail
  exact bodyPost_ret (by exact pl_results rfl rfl rfl (pl_store Z.out _ _)) rfl ⟨rfl, pl_set_gr G.out (Nat.le_succ _) _ _⟩
theorem steps_cell (V : World) (j : Nat) (x : Value) (h : (#[.int .i64 1, .int .i64 0, .int .i64 (-1), .int .i64 1, .int .i64 0, .int .i64 1, .int .i64 1, .int .i64 1] : Array Value)[j]? = some x) (u : World) (g : Gr (V.alloc stepsO) u) : u.cell? ⟨V.heap.size, j, none⟩ = some x := by
  have e : u.heap[V.heap.size]? = some stepsO := by
    rw [Below.block g _ (by simp)]
    exact heap_alloc_new V _
  rw [cells_at e]
  exact h
theorem pl_store_al {u : World} {q : Nat} {x0 y0 : Value} (hc : u.heap[q]? = some (.cells #[x0, y0] 24 (0, 0))) (x y : Value) (o : Obj) :
    (((u.setCell ⟨q, 0, none⟩ x).setCell ⟨q, 1, none⟩ y).alloc o).heap[q]? = some (.cells #[x, y] 24 (0, 0)) := by
  have h := pl_store hc x y
  rw [Below.block (gr23 _ o) _ (lt_block23 h)]
  exact h
set_option maxHeartbeats 2000000 in
theorem rgo_at (i : Int) (hi : 0 ≤ i ∧ i < 4) (px py : Int) (h : (mayB px && mayB py) = true) (w : World) :
    Calls Try.prog 18 #[.agg #[.int .i64 px, .int .i64 py], .int .i64 i] w fun e w' => e = .returned (.tuple #[.agg #[.int .i64 (px + growX i), .int .i64 (py + growY i)], .bool true]) ∧ Gr w w' := by
  obtain ⟨V, hV⟩ : ∃ V, PzV w px py = V := ⟨_, rfl⟩
  have AT := Lib.hid (fun u (g : Gr (PzV w px py) u) => pzv_at g)
  rw [hV] at AT
  obtain ⟨⟨c0, c1⟩, z1, g2⟩ := AT.out V (Gr.refl _)
  have hlt := lt_block23 z1
  have HV := Lib.hid (show (w.alloc (.cells #[.int .i64 px, .int .i64 py] 24)).alloc (.cells #[.int .i64 0, .int .i64 0] 24) = V from hV)
  rw [Bool.and_eq_true] at h
  have h1 : -2147483648 < px ∧ px < 2147483647 := of_decide_eq_true h.1
  have h2 : -2147483648 < py ∧ py < 2147483647 := of_decide_eq_true h.2
  have M1 := Lib.hid (rmay23_c px V)
  have M2 := Lib.hid (rmay23_c py V)
  have SP := Lib.hid (rsteps23_c V)
  rw [h.1] at M1
  rw [h.2] at M2
  have s0 := steps_cell V 0 (.int .i64 1) rfl (V.alloc stepsO) (Gr.refl _)
  have s1 := steps_cell V 1 (.int .i64 0) rfl (V.alloc stepsO) (Gr.refl _)
  have s2 := steps_cell V 2 (.int .i64 (-1)) rfl (V.alloc stepsO) (Gr.refl _)
  have s3 := steps_cell V 3 (.int .i64 1) rfl (V.alloc stepsO) (Gr.refl _)
  have s4 := steps_cell V 4 (.int .i64 0) rfl (V.alloc stepsO) (Gr.refl _)
  have s5 := steps_cell V 5 (.int .i64 1) rfl (V.alloc stepsO) (Gr.refl _)
  have s6 := steps_cell V 6 (.int .i64 1) rfl (V.alloc stepsO) (Gr.refl _)
  have s7 := steps_cell V 7 (.int .i64 1) rfl (V.alloc stepsO) (Gr.refl _)
  obtain ⟨U, hU⟩ : ∃ U, V.alloc stepsO = U := ⟨_, rfl⟩
  have gU : Gr V U := by rw [← hU]; exact gr23 V _
  rw [hU] at SP s0 s1 s2 s3 s4 s5 s6 s7
  have hz : U.heap.size = V.heap.size + 1 := by rw [← hU]; simp
  obtain ⟨⟨y0, y1⟩, zu, gwu⟩ := AT.out U gU
  have l1 : w.heap.size < U.heap.size := by omega
  have l2 : w.heap.size + 1 < U.heap.size := by omega
  have ZU := Lib.hid zu
  have GU := Lib.hid gwu
  obtain ⟨d0, d1, f0, f1⟩ := pl_cells zu
  clear hV z1 g2 h hU hz gU zu hlt gwu
  obtain rfl | rfl | rfl | rfl : i = 0 ∨ i = 1 ∨ i = 2 ∨ i = 3 := by omega
  all_goals
    first
    | rw [show growX 0 = 1 from rfl, show growY 0 = 0 from rfl]
    | rw [show growX 1 = -1 from rfl, show growY 1 = 1 from rfl]
    | rw [show growX 2 = 0 from rfl, show growY 2 = 1 from rfl]
    | rw [show growX 3 = 1 from rfl, show growY 3 = 1 from rfl]
    clear hi
    go_enter Try.func18, Try.ntmps18
    go_wp2_with fail
    rw [HV.out]
    refine M1.out.mono ?_; rintro e u ⟨rfl, rfl⟩
    go_wp2_with fail
    refine M2.out.mono ?_; rintro e u ⟨rfl, rfl⟩
    go_wp2_with fail
    refine SP.out.mono ?_; rintro e u ⟨rfl, rfl⟩
    go_wp2_with fail
    exact bodyPost_ret (by exact pl_results rfl rfl rfl (pl_store_al ZU.out _ _ _)) rfl ⟨by simp, (pl_set_gr GU.out (Nat.le_succ _) _ _).trans (gr23 _ _)⟩
theorem rgo23_c (i : Int) (hi : -1 ≤ i ∧ i < 4) (px py : Int) (w : World) :
    Calls Try.prog 18 #[.agg #[.int .i64 px, .int .i64 py], .int .i64 i] w fun e w' => e = .returned (.tuple #[.agg #[.int .i64 (goX px py (growX i) (growY i)), .int .i64 (goY px py (growX i) (growY i))], .bool (goB px py (growX i) (growY i))]) ∧ Gr w w' := by
  cases h : (mayB px && mayB py) with
  | false =>
    have e : goB px py (growX i) (growY i) = false := by rw [go_grow hi, h]
    rw [(go_no e).1, (go_no e).2, e]
    exact rgo_bad i px py h w
  | true =>
    have e : goB px py (growX i) (growY i) = true := by rw [go_grow hi, h]
    rw [(go_yes e).1, (go_yes e).2, e]
    by_cases hn : i < 0
    · obtain rfl : i = -1 := by omega
      rw [show growX (-1) = 0 from rfl, show growY (-1) = 0 from rfl, Int.add_zero, Int.add_zero]
      exact rgo_off px py h w
    · exact rgo_at i (by omega) px py h w
end Go.Proofs.Ytipfdildnnfmkaa

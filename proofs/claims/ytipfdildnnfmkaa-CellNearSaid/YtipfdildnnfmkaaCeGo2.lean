/- The program's layer 23: Go. -/
import Derived.Test.YtipfdildnnfmkaaCeGo
namespace Go.Proofs.Ytipfdildnnfmkaa
open Go.RowKit DiPlain NumPlain CePlain Flt
set_option linter.unusedVariables false
set_option linter.unusedSimpArgs false
set_option maxRecDepth 20000
namespace CePlain
def goX (px py x y : Int) : Int := if goB px py x y = true then px + x else 0
def goY (px py x y : Int) : Int := if goB px py x y = true then py + y else 0
theorem go_yes {px py x y : Int} (h : goB px py x y = true) : goX px py x y = px + x ∧ goY px py x y = py + y := by
  unfold goX goY; rw [h]; exact ⟨rfl, rfl⟩
theorem go_no {px py x y : Int} (h : goB px py x y = false) : goX px py x y = 0 ∧ goY px py x y = 0 := by
  unfold goX goY; rw [h]; exact ⟨rfl, rfl⟩
theorem led_small {x y : Int} (h : ledB x y = true) : (-1 ≤ x ∧ x ≤ 1) ∧ (-1 ≤ y ∧ y ≤ 1) := by
  unfold ledB at h
  rw [decide_eq_true_iff] at h
  omega
end CePlain
/-- A place in a block of its own, and a zero place behind it. -/
def PzV (w : World) (px py : Int) : World := (w.alloc (.cells #[.int .i64 px, .int .i64 py] 24)).alloc (.cells #[.int .i64 0, .int .i64 0] 24)
theorem pzv_at {w u : World} {px py : Int} (g : Gr (PzV w px py) u) : (u.cell? ⟨w.heap.size, 0, none⟩ = some (.int .i64 px) ∧ u.cell? ⟨w.heap.size, 1, none⟩ = some (.int .i64 py)) ∧ u.heap[w.heap.size + 1]? = some (.cells #[.int .i64 0, .int .i64 0] 24 (0, 0)) ∧ Gr w u := by
  have h1 : (w.alloc (.cells #[.int .i64 px, .int .i64 py] 24)).heap.size = w.heap.size + 1 := by simp
  have hz : (PzV w px py).heap.size = w.heap.size + 2 := by simp [PzV]
  have e0 : u.heap[w.heap.size]? = some (.cells #[.int .i64 px, .int .i64 py] 24 (0, 0)) := by
    rw [Below.block g _ (by omega)]
    unfold PzV
    rw [Below.block (gr23 _ _) _ (by omega)]
    exact heap_alloc_new w _
  have e1 : u.heap[w.heap.size + 1]? = some (.cells #[.int .i64 0, .int .i64 0] 24 (0, 0)) := by
    rw [Below.block g _ (by omega), ← h1]
    exact heap_alloc_new _ _
  exact ⟨⟨by rw [cells_at e0]; rfl, by rw [cells_at e0]; rfl⟩, e1, (gr23 w _).trans ((gr23 _ _).trans g)⟩
theorem pl_set_gr {w u : World} {z : Nat} (g : Gr w u) (h : w.heap.size ≤ z) (x y : Value) : Gr w ((u.setCell ⟨z, 0, none⟩ x).setCell ⟨z, 1, none⟩ y) := Below.setCell (Below.setCell g h _) h _
theorem go_float {n : Int} (h : -2147483648 ≤ n ∧ n ≤ 2147483648) : Rep (floatOfInt .f64 n) n := of_int n (by omega)
theorem go_sum {A B a b : Nat} {px py x y : Int} (hA : Rep A px) (hB : Rep B py) (ha : Rep a x) (hb : Rep b y) (h1 : -2147483648 ≤ px + x ∧ px + x ≤ 2147483648) (h2 : -2147483648 ≤ py + y ∧ py + y ≤ 2147483648) :
    ∃ R I, (∀ w : World, (binOp .add 32 (.complex .f64 A B) (.complex .f64 a b)).run Try.prog w = .ok (.complex .f64 R I) w) ∧ (∀ w : World, (convert 40 3 (.float .f64 R)).run Try.prog w = .ok (.int .i64 (px + x)) w) ∧ (∀ w : World, (convert 40 3 (.float .f64 I)).run Try.prog w = .ok (.int .i64 (py + y)) w) := by
  obtain ⟨R, hR, rR⟩ := sum_rep hA ha (by omega)
  obtain ⟨I, hI, rI⟩ := sum_rep hB hb (by omega)
  refine ⟨R, I, fun w => ?_, fun w => ?_, fun w => ?_⟩
  · refine run_complex_sum w .add (.inl rfl) _ .f64 A B a b R I ?_
    unfold cSumBits
    rw [show floatBits .add .f64 A a = some R from hR, show floatBits .add .f64 B b = some I from hI]
    rfl
  · exact run_convert_float_int w _ _ .f64 .i64 R _ (by kernel_rfl) (by kernel_rfl) (to_i64 rR (by omega) (by omega))
  · exact run_convert_float_int w _ _ .f64 .i64 I _ (by kernel_rfl) (by kernel_rfl) (to_i64 rI (by omega) (by omega))
theorem go23_c {a b : Nat} {x y : Int} (ha : Rep a x) (hb : Rep b y) (px py : Int) (w : World) :
    Calls Try.prog 17 #[.agg #[.int .i64 px, .int .i64 py], .complex .f64 a b] w fun e w' => e = .returned (.tuple #[.agg #[.int .i64 (goX px py x y), .int .i64 (goY px py x y)], .bool (goB px py x y)]) ∧ Gr w w' := by
  obtain ⟨V, hV⟩ : ∃ V, PzV w px py = V := ⟨_, rfl⟩
  have AT := Lib.hid (fun u (g : Gr (PzV w px py) u) => pzv_at g)
  rw [hV] at AT
  have HV := Lib.hid (show (w.alloc (.cells #[.int .i64 px, .int .i64 py] 24)).alloc (.cells #[.int .i64 0, .int .i64 0] 24) = V from hV)
  obtain ⟨⟨c0, c1⟩, _, _⟩ := AT.out V (Gr.refl _)
  have IN := Lib.hid (inner23_c px py V)
  have LE := Lib.hid (fun u => leads23_c ha hb u)
  obtain ⟨q1, hq1⟩ : ∃ q, (mayB px && mayB py) = q := ⟨_, rfl⟩
  obtain ⟨q2, hq2⟩ : ∃ q, ledB x y = q := ⟨_, rfl⟩
  have hgo : goB px py x y = (q1 && q2) := by unfold goB; rw [hq1, hq2]
  rw [hq1] at IN
  rw [hq2] at LE
  clear hV
  cases q1 with
  | false =>
    have E : goB px py x y = false := hgo
    rw [(go_no E).1, (go_no E).2, E]
    clear hgo E hq1 hq2
    go_enter Try.func17, Try.ntmps17
    go_wp2_with fail
    rw [HV.out]
    refine IN.out.mono ?_; rintro e u ⟨rfl, g1⟩
    obtain ⟨_, z1, g2⟩ := AT.out u g1
    obtain ⟨d0, d1, f0, f1⟩ := pl_cells z1
    have Z := Lib.hid z1
    have G := Lib.hid g2
    clear z1 g2
    go_wp2_with fail
    exact bodyPost_ret (by exact pl_results rfl rfl rfl (pl_store Z.out _ _)) rfl ⟨rfl, pl_set_gr G.out (Nat.le_succ _) _ _⟩
  | true =>
    cases q2 with
    | false =>
      have E : goB px py x y = false := hgo
      rw [(go_no E).1, (go_no E).2, E]
      clear hgo E hq1 hq2
      go_enter Try.func17, Try.ntmps17
      go_wp2_with fail
      rw [HV.out]
      refine IN.out.mono ?_; rintro e u ⟨rfl, g1⟩
      go_wp2_with fail
      refine (LE.out u).mono ?_; rintro e t ⟨rfl, g3⟩
      obtain ⟨_, z1, g2⟩ := AT.out t (g1.trans g3)
      obtain ⟨d0, d1, f0, f1⟩ := pl_cells z1
      have Z := Lib.hid z1
      have G := Lib.hid g2
      clear z1 g2
      go_wp2_with fail
      exact bodyPost_ret (by exact pl_results rfl rfl rfl (pl_store Z.out _ _)) rfl ⟨rfl, pl_set_gr G.out (Nat.le_succ _) _ _⟩
    | true =>
      have E : goB px py x y = true := hgo
      rw [(go_yes E).1, (go_yes E).2, E]
      rw [Bool.and_eq_true] at hq1
      have h1 : -2147483648 < px ∧ px < 2147483647 := of_decide_eq_true hq1.1
      have h2 : -2147483648 < py ∧ py < 2147483647 := of_decide_eq_true hq1.2
      obtain ⟨h3, h4⟩ := led_small hq2
      obtain ⟨R, I, ADD, CX, CY⟩ := go_sum (go_float (n := px) (by omega)) (go_float (n := py) (by omega)) ha hb (by omega) (by omega)
      obtain ⟨A, hA⟩ : ∃ A, floatOfInt .f64 px = A := ⟨_, rfl⟩
      obtain ⟨B, hB⟩ : ∃ B, floatOfInt .f64 py = B := ⟨_, rfl⟩
      rw [hA, hB] at ADD
      obtain ⟨sx, hsx⟩ : ∃ s, px + x = s := ⟨_, rfl⟩
      obtain ⟨sy, hsy⟩ : ∃ s, py + y = s := ⟨_, rfl⟩
      rw [hsx] at CX ⊢
      rw [hsy] at CY ⊢
      clear hgo E hq1 hq2 h1 h2 h3 h4 hsx hsy
      go_enter Try.func17, Try.ntmps17
      go_wp2_with fail
      rw [HV.out]
      refine IN.out.mono ?_; rintro e u ⟨rfl, g1⟩
      go_wp2_with fail
      refine (LE.out u).mono ?_; rintro e t ⟨rfl, g3⟩
      obtain ⟨⟨y0, y1⟩, z1, g2⟩ := AT.out t (g1.trans g3)
      obtain ⟨d0, d1, f0, f1⟩ := pl_cells z1
      have Z := Lib.hid z1
      have G := Lib.hid g2
      clear z1 g2
      go_wp2_with fail
      exact bodyPost_ret (by exact pl_results rfl rfl rfl (pl_store Z.out _ _)) rfl ⟨rfl, pl_set_gr G.out (Nat.le_succ _) _ _⟩
end Go.Proofs.Ytipfdildnnfmkaa

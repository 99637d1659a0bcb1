/- For the law of Go: which numbers are known, by the ways. -/
import Derived.Test.YtipfdildnnfmkaaCeOnce
namespace Go.Proofs.Ytipfdildnnfmkaa
open Go.RowKit DiPlain NumPlain CePlain Flt
set_option linter.unusedVariables false
set_option linter.unusedSimpArgs false
set_option maxRecDepth 20000
namespace CePlain
/-- Is it 0, or one of the first ways? -/
def knB (x y : Int) : Nat → Bool
  | 0 => decide (x = 0) && decide (y = 0)
  | j + 1 => knB x y j || (decide (x = stepX j) && decide (y = stepY j))
theorem kn_four (x y : Int) : knB x y 4 = ledB x y := by
  unfold knB knB knB knB knB ledB
  rw [Bool.eq_iff_iff, decide_eq_true_iff]
  simp only [Bool.or_eq_true, Bool.and_eq_true, decide_eq_true_iff, stepX, stepY]
  omega
theorem grow_nat (j : Nat) : growX (j : Int) = stepX j ∧ growY (j : Int) = stepY j := by
  unfold growX growY
  rw [if_neg (by omega), if_neg (by omega)]
  exact ⟨rfl, rfl⟩
theorem float_way {j : Nat} (hj : j < 4) : (FloatKind.f64.format.order (wayA j) (floatOfInt .f64 (stepX j)) != some Ordering.eq) = false ∧ (FloatKind.f64.format.order (wayB j) (floatOfInt .f64 (stepY j)) != some Ordering.eq) = false := by
  obtain ⟨⟨b1, b2⟩, b3, b4⟩ := step_bd j
  have h1 := order_rep (way_rep hj).1 (go_float (n := stepX j) (by omega))
  have h2 := order_rep (way_rep hj).2 (go_float (n := stepY j) (by omega))
  rw [decide_eq_true rfl] at h1 h2
  exact ⟨by show (!(Ieee.double.order _ _ == some .eq)) = false; rw [h1]; rfl, by show (!(Ieee.double.order _ _ == some .eq)) = false; rw [h2]; rfl⟩
end CePlain
def stepsA : Array Value := #[.int .i64 1, .int .i64 0, .int .i64 (-1), .int .i64 1, .int .i64 0, .int .i64 1, .int .i64 1, .int .i64 1]
theorem stepsA_at {j : Nat} (h : j < 4) : stepsA[j * 2]? = some (.int .i64 (stepX j)) ∧ stepsA[j * 2 + 1]? = some (.int .i64 (stepY j)) := by
  match j, h with
  | 0, _ => exact ⟨rfl, rfl⟩
  | 1, _ => exact ⟨rfl, rfl⟩
  | 2, _ => exact ⟨rfl, rfl⟩
  | 3, _ => exact ⟨rfl, rfl⟩
theorem steps_at {V : World} {j : Nat} (hj : j < 4) (u : World) (g : Gr (V.alloc stepsO) u) : u.cell? ⟨V.heap.size, j * 2, none⟩ = some (.int .i64 (stepX j)) ∧ u.cell? ⟨V.heap.size, j * 2 + 1, none⟩ = some (.int .i64 (stepY j)) :=
  ⟨steps_cell V _ _ (stepsA_at hj).1 u g, steps_cell V _ _ (stepsA_at hj).2 u g⟩
end Go.Proofs.Ytipfdildnnfmkaa

/- The program's layer 23: the ways, what may be moved, who touches. -/
import Derived.Test.YtipfdildnnfmkaaCeRef3
import Derived.Test.YtipfdildnnfmkaaDiProg
import Derived.Test.YtipfdildnnfmkaaFlt
import Derived.WalkLawsBesides
import Derived.Laws.Rows
namespace Go.Proofs.Ytipfdildnnfmkaa
open Go.RowKit DiPlain NumPlain CePlain Flt
set_option linter.unusedVariables false
set_option linter.unusedSimpArgs false
set_option maxRecDepth 20000
namespace CePlain
/-- The words of 1 and -1. -/
def oneW : Nat := 4607182418800017408
def negW : Nat := 13830554455654793216
def ledB (x y : Int) : Bool := decide ((x = 1 ∧ y = 0) ∨ (x = -1 ∧ y = 1) ∨ (x = 0 ∧ y = 1) ∨ (x = 1 ∧ y = 1) ∨ (x = 0 ∧ y = 0))
def goB (px py x y : Int) : Bool := (mayB px && mayB py) && ledB x y
theorem rep_one : Rep 4607182418800017408 1 := ⟨false, 4503599627370496, 52, by decide +kernel, by decide +kernel⟩
theorem rep_neg : Rep 13830554455654793216 (-1) := ⟨true, 4503599627370496, 52, by decide +kernel, by decide +kernel⟩
theorem rep_zero : Rep 0 0 := ⟨false, 0, 1074, by decide +kernel, by rw [Int.zero_mul]; rfl⟩
theorem rep_two : Rep 4611686018427387904 2 := ⟨false, 4503599627370496, 51, by decide +kernel, by decide +kernel⟩
end CePlain
@[go_sem] theorem run_store_cplx {P : Program} {w : World} (a : Addr) (k : FloatKind) (x y : Nat) (m : Mode) : (store a (.complex k x y) m).run P w = stored P w a (.complex k x y) m := run_store P w a _ m rfl
/-- The four ways, as the program has them. -/
def waysV : Value := .agg #[.complex .f64 4607182418800017408 0, .complex .f64 13830554455654793216 4607182418800017408, .complex .f64 0 4607182418800017408, .complex .f64 4607182418800017408 4607182418800017408]
theorem ways23_c (w : World) : Calls Try.prog 16 #[] w fun e w' => e = .returned waysV ∧ Gr w w' := by
  go_enter Try.func16, Try.ntmps16
  go_wp2_with fail
  exact bodyPost_ret (by exact results_cell_row rfl _ _ w.heap.size _ _ (0, 0) (.array 4 32) rfl (heap_alloc_new w _) (by kernel_rfl) rfl (by kernel_rfl)) rfl ⟨rfl, gr23 w _⟩
theorem wide23_c (n : Int) (w : World) : Calls Try.prog 22 #[.int .i64 n] w fun e w' => e = .returned (.bool (wideB n)) ∧ w = w' := by
  by_cases h1 : 1 ≤ n
  · by_cases h2 : n ≤ 2147483648
    · rw [show wideB n = true from decide_eq_true ⟨h1, h2⟩]
      go_enter Try.func22, Try.ntmps22
      go_wp2_with fail
      go_ret
      exact ⟨rfl, rfl⟩
    · rw [show wideB n = false from decide_eq_false (fun h => h2 h.2)]
      go_enter Try.func22, Try.ntmps22
      go_wp2_with fail
      go_ret
      exact ⟨rfl, rfl⟩
  · rw [show wideB n = false from decide_eq_false (fun h => h1 h.1)]
    go_enter Try.func22, Try.ntmps22
    go_wp2_with fail
    go_ret
    exact ⟨rfl, rfl⟩
theorem touch23_c (a b : Int) (ha : I64 a) (hb : I64 b) (w : World) : Calls Try.prog 26 #[.int .i64 a, .int .i64 b] w fun e w' => e = .returned (.bool (nearB a b)) ∧ w = w' := by
  unfold I64 at ha hb
  obtain ⟨r, hr⟩ : ∃ r, nearB a b = r := ⟨_, rfl⟩
  rw [hr]
  unfold nearB at hr
  rcases Int.lt_trichotomy a b with h | h | h
  · have e0 : (a == b) = false := by simp; omega
    have hm : min a b = a := by omega
    have hM : max a b = b := by omega
    have e1 : (a + 1 == b) = r := by
      rw [← hr]
      by_cases k : a + 1 = b
      · rw [decide_eq_true (by omega), k]; simp
      · rw [decide_eq_false (by omega)]; simpa using k
    clear hr
    cases r <;>
    · go_enter Try.func26, Try.ntmps26
      go_wp2_with fail
      go_ret
      exact ⟨rfl, rfl⟩
  · subst h
    obtain rfl : r = true := by rw [← hr]; exact decide_eq_true ⟨by omega, by omega⟩
    clear hr
    go_enter Try.func26, Try.ntmps26
    go_wp2_with fail
    go_ret
    exact ⟨rfl, rfl⟩
  · have e0 : (a == b) = false := by simp; omega
    have hm : min a b = b := by omega
    have hM : max a b = a := by omega
    have e1 : (b + 1 == a) = r := by
      rw [← hr]
      by_cases k : b + 1 = a
      · rw [decide_eq_true (by omega), k]; simp
      · rw [decide_eq_false (by omega)]; simpa using k
    clear hr
    cases r <;>
    · go_enter Try.func26, Try.ntmps26
      go_wp2_with fail
      go_ret
      exact ⟨rfl, rfl⟩
theorem inner23_c (x y : Int) (w : World) : Calls Try.prog 28 #[.agg #[.int .i64 x, .int .i64 y]] w fun e w' => e = .returned (.bool (mayB x && mayB y)) ∧ Gr w w' := by
  have G := Lib.hid (gr23 w (.cells #[.int .i64 x, .int .i64 y] 24))
  obtain ⟨r, hr⟩ : ∃ r, (mayB x && mayB y) = r := ⟨_, rfl⟩
  rw [hr]
  have YES : ((-2147483648 < x ∧ x < 2147483647) ∧ (-2147483648 < y ∧ y < 2147483647)) → r = true := fun h => by
    rw [← hr]; unfold mayB; rw [decide_eq_true h.1, decide_eq_true h.2]; rfl
  have NO : ¬ ((-2147483648 < x ∧ x < 2147483647) ∧ (-2147483648 < y ∧ y < 2147483647)) → r = false := fun h => by
    rw [← hr]; unfold mayB
    rw [Bool.and_eq_false_iff, decide_eq_false_iff_not, decide_eq_false_iff_not]; omega
  clear hr
  rcases Int.lt_trichotomy x y with h | h | h
  · have hle : x ≤ y := by omega
    have hnl : ¬ y ≤ x := by omega
    clear h
    by_cases h1 : -2147483647 ≤ x
    · by_cases h2 : y ≤ 2147483646
      · obtain rfl := YES (by omega)
        clear YES NO
        go_enter Try.func28, Try.ntmps28
        go_wp2_with fail
        go_ret
        exact ⟨rfl, G.out⟩
      · obtain rfl := NO (by omega)
        clear YES NO
        go_enter Try.func28, Try.ntmps28
        go_wp2_with fail
        go_ret
        exact ⟨rfl, G.out⟩
    · obtain rfl := NO (by omega)
      clear YES NO
      go_enter Try.func28, Try.ntmps28
      go_wp2_with fail
      go_ret
      exact ⟨rfl, G.out⟩
  · subst h
    by_cases h1 : -2147483647 ≤ x
    · by_cases h2 : x ≤ 2147483646
      · obtain rfl := YES (by omega)
        clear YES NO
        go_enter Try.func28, Try.ntmps28
        go_wp2_with fail
        go_ret
        exact ⟨rfl, G.out⟩
      · obtain rfl := NO (by omega)
        clear YES NO
        go_enter Try.func28, Try.ntmps28
        go_wp2_with fail
        go_ret
        exact ⟨rfl, G.out⟩
    · obtain rfl := NO (by omega)
      clear YES NO
      go_enter Try.func28, Try.ntmps28
      go_wp2_with fail
      go_ret
      exact ⟨rfl, G.out⟩
  · have hle : y ≤ x := by omega
    have hnl : ¬ x ≤ y := by omega
    clear h
    by_cases h1 : -2147483647 ≤ y
    · by_cases h2 : x ≤ 2147483646
      · obtain rfl := YES (by omega)
        clear YES NO
        go_enter Try.func28, Try.ntmps28
        go_wp2_with fail
        go_ret
        exact ⟨rfl, G.out⟩
      · obtain rfl := NO (by omega)
        clear YES NO
        go_enter Try.func28, Try.ntmps28
        go_wp2_with fail
        go_ret
        exact ⟨rfl, G.out⟩
    · obtain rfl := NO (by omega)
      clear YES NO
      go_enter Try.func28, Try.ntmps28
      go_wp2_with fail
      go_ret
      exact ⟨rfl, G.out⟩
end Go.Proofs.Ytipfdildnnfmkaa

/- The document's layer 23: may, near, Beside, Less, Fits. -/
import Derived.Test.YtipfdildnnfmkaaCePlain
import Derived.Test.YtipfdildnnfmkaaOnly
import Derived.Test.YtipfdildnnfmkaaDiRef
import Derived.Test.YtipfdildnnfmkaaNumCalls
namespace Go.Proofs.Ytipfdildnnfmkaa
open Go.RowKit DiPlain NumPlain CePlain
set_option linter.unusedVariables false
set_option linter.unusedSimpArgs false
set_option maxRecDepth 20000
theorem gr23 (w : World) (o : Obj) : Gr w (w.alloc o) := (Gr.refl w).alloc (Nat.le_refl _) o
theorem rmay23_c (n : Int) (w : World) : Calls Try.prog 30 #[.int .i64 n] w fun e w' => e = .returned (.bool (mayB n)) ∧ w = w' := by
  by_cases h1 : -2147483648 < n
  · by_cases h2 : n < 2147483647
    · rw [show mayB n = true from decide_eq_true ⟨h1, h2⟩]
      go_enter Try.func30, Try.ntmps30
      go_wp2_with fail
      go_ret
      exact ⟨rfl, rfl⟩
    · rw [show mayB n = false from decide_eq_false (fun h => h2 h.2)]
      go_enter Try.func30, Try.ntmps30
      go_wp2_with fail
      go_ret
      exact ⟨rfl, rfl⟩
  · rw [show mayB n = false from decide_eq_false (fun h => h1 h.1)]
    go_enter Try.func30, Try.ntmps30
    go_wp2_with fail
    go_ret
    exact ⟨rfl, rfl⟩
theorem rnear23_c (a b : Int) (ha : I64 a) (hb : I64 b) (w : World) : Calls Try.prog 27 #[.int .i64 a, .int .i64 b] w fun e w' => e = .returned (.bool (nearB a b)) ∧ w = w' := by
  unfold I64 at ha hb
  obtain ⟨r, hr⟩ : ∃ r, nearB a b = r := ⟨_, rfl⟩
  rw [hr]
  unfold nearB at hr
  rcases Int.lt_trichotomy a b with h | h | h
  · have e0 : (a == b) = false := by simp; omega
    by_cases k : b - 1 ≤ a
    · obtain rfl : r = true := by rw [← hr]; exact decide_eq_true ⟨by omega, by omega⟩
      clear hr
      go_enter Try.func27, Try.ntmps27
      go_wp2_with fail
      go_ret
      exact ⟨rfl, rfl⟩
    · obtain rfl : r = false := by rw [← hr]; exact decide_eq_false (by omega)
      have k2 : ¬ b < a := by omega
      clear hr
      go_enter Try.func27, Try.ntmps27
      go_wp2_with fail
      go_ret
      exact ⟨rfl, rfl⟩
  · subst h
    obtain rfl : r = true := by rw [← hr]; exact decide_eq_true ⟨by omega, by omega⟩
    clear hr
    go_enter Try.func27, Try.ntmps27
    go_wp2_with fail
    go_ret
    exact ⟨rfl, rfl⟩
  · have e0 : (a == b) = false := by simp; omega
    have k2 : ¬ a < b := by omega
    by_cases k : a - 1 ≤ b
    · obtain rfl : r = true := by rw [← hr]; exact decide_eq_true ⟨by omega, by omega⟩
      clear hr
      go_enter Try.func27, Try.ntmps27
      go_wp2_with fail
      go_ret
      exact ⟨rfl, rfl⟩
    · obtain rfl : r = false := by rw [← hr]; exact decide_eq_false (by omega)
      clear hr
      go_enter Try.func27, Try.ntmps27
      go_wp2_with fail
      go_ret
      exact ⟨rfl, rfl⟩
theorem rfits23_c (eps w0 : Int) (w : World) : Calls Try.prog 15 #[.int .i64 eps, .int .i64 w0] w fun e w' => e = .returned (.bool (fitsB eps w0)) ∧ w = w' := by
  obtain ⟨r, hr⟩ : ∃ r, fitsB eps w0 = r := ⟨_, rfl⟩
  rw [hr]
  have YES : ((1 ≤ w0 ∧ w0 ≤ 2147483648) ∧ (0 ≤ eps ∧ eps ≤ 4611686018427387904) ∧ eps ≤ w0 * w0) → r = true := fun h => by
    rw [← hr]
    unfold fitsB wideB
    rw [decide_eq_true h.1, decide_eq_true h.2]
    rfl
  have NO : ¬ ((1 ≤ w0 ∧ w0 ≤ 2147483648) ∧ (0 ≤ eps ∧ eps ≤ 4611686018427387904) ∧ eps ≤ w0 * w0) → r = false := fun h => by
    rw [← hr]
    unfold fitsB wideB
    rw [Bool.and_eq_false_iff, decide_eq_false_iff_not, decide_eq_false_iff_not]
    exact Decidable.not_and_iff_or_not.1 h
  clear hr
  by_cases h1 : 1 ≤ w0
  · by_cases h2 : w0 ≤ 2147483648
    · by_cases h3 : 0 ≤ eps
      · by_cases h4 : eps ≤ 4611686018427387904
        · have hm : 0 ≤ w0 * w0 ∧ w0 * w0 ≤ 2147483648 * 2147483648 := ⟨Int.mul_nonneg (by omega) (by omega), Int.mul_le_mul h2 h2 (by omega) (by omega)⟩
          have hw64 : wrap64 (w0 * w0) = w0 * w0 := by unfold wrap64; omega
          clear hm
          by_cases h5 : eps ≤ w0 * w0
          · obtain rfl := YES ⟨⟨h1, h2⟩, ⟨h3, h4⟩, h5⟩
            clear YES NO
            go_enter Try.func15, Try.ntmps15
            go_wp2_with fail
            go_ret
            exact ⟨rfl, rfl⟩
          · obtain rfl := NO (fun k => h5 k.2.2)
            clear YES NO
            go_enter Try.func15, Try.ntmps15
            go_wp2_with fail
            go_ret
            exact ⟨rfl, rfl⟩
        · obtain rfl := NO (fun k => h4 k.2.1.2)
          clear YES NO
          go_enter Try.func15, Try.ntmps15
          go_wp2_with fail
          go_ret
          exact ⟨rfl, rfl⟩
      · obtain rfl := NO (fun k => h3 k.2.1.1)
        clear YES NO
        go_enter Try.func15, Try.ntmps15
        go_wp2_with fail
        go_ret
        exact ⟨rfl, rfl⟩
    · obtain rfl := NO (fun k => h2 k.1.2)
      clear YES NO
      go_enter Try.func15, Try.ntmps15
      go_wp2_with fail
      go_ret
      exact ⟨rfl, rfl⟩
  · obtain rfl := NO (fun k => h1 k.1.1)
    clear YES NO
    go_enter Try.func15, Try.ntmps15
    go_wp2_with fail
    go_ret
    exact ⟨rfl, rfl⟩
end Go.Proofs.Ytipfdildnnfmkaa

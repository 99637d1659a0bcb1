/- Contracts of the document's sums and products, and of both roots, each by a walk of its text. -/
import Derived.Test.YtlibdgdhdmilcaaNumCalls
namespace Go.Proofs.Ytlibdgdhdmilcaa
open Go.RowKit NumPlain
set_option linter.unusedVariables false

set_option maxHeartbeats 1000000 in
theorem radd_any (a b m : Int) (w : World) (ha : I64 a) (hb : I64 b) (hm : I64 m) :
    Calls Try.prog 15 #[.int .i64 a, .int .i64 b, .int .i64 m] w fun e w' => e = .returned (.int .i64 (addF a b m)) ∧ w = w' := by
  obtain ⟨ha1, ha2⟩ := ha
  obtain ⟨hb1, hb2⟩ := hb
  obtain ⟨hm1, hm2⟩ := hm
  by_cases h1 : a < 0
  · have H := Lib.hid (addF_not (a := a) (b := b) (m := m) (by omega))
    go_enter Try.func15, Try.ntmps15
    go_wp2
    go_ret
    exact ⟨ret_i H.out.symm, rfl⟩
  · by_cases h2 : b < 0
    · have H := Lib.hid (addF_not (a := a) (b := b) (m := m) (by omega))
      go_enter Try.func15, Try.ntmps15
      go_wp2
      go_ret
      exact ⟨ret_i H.out.symm, rfl⟩
    · by_cases h3 : m < 0
      · have H := Lib.hid (addF_not (a := a) (b := b) (m := m) (by omega))
        go_enter Try.func15, Try.ntmps15
        go_wp2
        go_ret
        exact ⟨ret_i H.out.symm, rfl⟩
      · have H := Lib.hid (addF_pos (a := a) (b := b) (m := m) (by omega) (by omega) (by omega))
        by_cases h4 : m < a
        · go_enter Try.func15, Try.ntmps15
          go_wp2
          go_ret
          exact ⟨ret_i (by rw [H.out]; omega), rfl⟩
        · by_cases h5 : m - a < b
          · go_enter Try.func15, Try.ntmps15
            go_wp2
            go_ret
            exact ⟨ret_i (by rw [H.out]; omega), rfl⟩
          · go_enter Try.func15, Try.ntmps15
            go_wp2
            go_ret
            exact ⟨ret_i (by rw [H.out]; omega), rfl⟩
set_option maxHeartbeats 1000000 in
theorem rmul_any (a b m : Int) (w : World) (ha : I64 a) (hb : I64 b) (hm : I64 m) :
    Calls Try.prog 17 #[.int .i64 a, .int .i64 b, .int .i64 m] w fun e w' => e = .returned (.int .i64 (mulF a b m)) ∧ w = w' := by
  obtain ⟨ha1, ha2⟩ := ha
  obtain ⟨hb1, hb2⟩ := hb
  obtain ⟨hm1, hm2⟩ := hm
  by_cases h1 : a < 0
  · have H := Lib.hid (mulF_not (a := a) (b := b) (m := m) (by omega))
    go_enter Try.func17, Try.ntmps17
    go_wp2
    go_ret
    exact ⟨ret_i H.out.symm, rfl⟩
  · by_cases h2 : b < 0
    · have H := Lib.hid (mulF_not (a := a) (b := b) (m := m) (by omega))
      go_enter Try.func17, Try.ntmps17
      go_wp2
      go_ret
      exact ⟨ret_i H.out.symm, rfl⟩
    · by_cases h3 : m < 0
      · have H := Lib.hid (mulF_not (a := a) (b := b) (m := m) (by omega))
        go_enter Try.func17, Try.ntmps17
        go_wp2
        go_ret
        exact ⟨ret_i H.out.symm, rfl⟩
      · have H := Lib.hid (mulF_pos (a := a) (b := b) (m := m) (by omega) (by omega) (by omega))
        by_cases h4 : a = 0
        · subst h4
          go_enter Try.func17, Try.ntmps17
          go_wp2
          all_goals
            go_ret
            exact ⟨ret_i (by rw [H.out]; simp; omega), rfl⟩
        · have h4b : (a == 0) = false := by simpa using h4
          by_cases h5 : b = 0
          · subst h5
            clear h4
            go_enter Try.func17, Try.ntmps17
            go_wp2
            all_goals
              go_ret
              exact ⟨ret_i (by rw [H.out]; simp; omega), rfl⟩
          · have hb0 : 1 ≤ b := by omega
            have h5b : (b == 0) = false := by simpa using h5
            clear h4 h5
            have hd := div_bd (a := m) (b := b) hb0
            by_cases hc : m / b < a
            · have hk := mul_over hb0 (by omega) hc
              have K := Lib.hid hk
              clear hk
              go_enter Try.func17, Try.ntmps17
              go_wp2
              go_ret
              exact ⟨ret_i (by rw [H.out, K.out]), rfl⟩
            · obtain ⟨hk1, hk2⟩ := mul_under hb0 (by omega) (by omega) (by omega : a ≤ m / b)
              go_enter Try.func17, Try.ntmps17
              go_wp2
              go_ret
              exact ⟨ret_i (by rw [H.out]; omega), rfl⟩
end Go.Proofs.Ytlibdgdhdmilcaa

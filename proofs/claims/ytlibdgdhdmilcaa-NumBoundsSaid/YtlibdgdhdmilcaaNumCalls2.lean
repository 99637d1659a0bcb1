/- Contracts of layer num's sums, products and roots, and of the document's, each by a walk of its text. -/
import Derived.Test.YtlibdgdhdmilcaaNumCalls
import Derived.WalkLawsBesides
import Derived.Deep.RegionWith
namespace Go.Proofs.Ytlibdgdhdmilcaa
open Go.RowKit NumPlain
set_option linter.unusedVariables false

set_option maxHeartbeats 1000000 in
theorem add_any (a b m : Int) (w : World) (ha : I64 a) (hb : I64 b) (hm : I64 m) :
    Calls Try.prog 14 #[.int .i64 a, .int .i64 b, .int .i64 m] w fun e w' => e = .returned (.int .i64 (addF a b m)) ∧ Gr w w' := by
  obtain ⟨ha1, ha2⟩ := ha
  obtain ⟨hb1, hb2⟩ := hb
  obtain ⟨hm1, hm2⟩ := hm
  by_cases h : a < 0 ∨ b < 0 ∨ m < 0
  · have H := Lib.hid (addF_not h)
    have hmin : min (min a b) m < 0 := by omega
    clear h
    go_enter Try.func14, Try.ntmps14
    go_wp2
    all_goals
      go_ret
      exact ⟨ret_i H.out.symm, Gr.refl _⟩
  · obtain ⟨h1, h2, h3⟩ : 0 ≤ a ∧ 0 ≤ b ∧ 0 ≤ m := by omega
    have H := Lib.hid (addF_pos h1 h2 h3)
    clear h
    go_enter Try.func14, Try.ntmps14
    go_wp2_with (first | (go_at_call_of 24 (Value.int .i64 a); refine (held_top a m _ _ (by simp) (by go_simp) (by go_simp)).mono ?_; rintro e w1 ⟨rfl, hg1⟩) | (go_at_call 24; refine (held_top b (m - min a m) _ _ (by simp) (by go_simp) (by go_simp)).mono ?_; rintro e w2 ⟨rfl, hg2⟩) | go_in)
    all_goals
      go_ret
      exact ⟨ret_i (by rw [H.out]; omega), ((Gr.of (by go_grown)).trans hg1).trans ((Gr.of (by go_grown)).trans hg2)⟩
set_option maxHeartbeats 400000 in
theorem passed_top (x a : Int) (w : World) : Calls Try.prog 25 #[.agg #[.int .i64 a, .bool true], .int .i64 x] w fun e w' => e = .returned (.bool (decide (a < x))) ∧ Gr w w' := by
  go_enter Try.func25, Try.ntmps25
  go_wp2
  go_ret
  exact ⟨rfl, Gr.of (by go_grown)⟩
set_option maxHeartbeats 1000000 in
theorem mul_any (a b m : Int) (w : World) (ha : I64 a) (hb : I64 b) (hm : I64 m) :
    Calls Try.prog 16 #[.int .i64 a, .int .i64 b, .int .i64 m] w fun e w' => e = .returned (.int .i64 (mulF a b m)) ∧ Gr w w' := by
  obtain ⟨ha1, ha2⟩ := ha
  obtain ⟨hb1, hb2⟩ := hb
  obtain ⟨hm1, hm2⟩ := hm
  by_cases h : a < 0 ∨ b < 0 ∨ m < 0
  · have H := Lib.hid (mulF_not h)
    have hmin : min (min a b) m < 0 := by omega
    clear h
    go_enter Try.func16, Try.ntmps16
    go_wp2
    all_goals
      go_ret
      exact ⟨ret_i H.out.symm, Gr.refl _⟩
  · obtain ⟨h1, h2, h3⟩ : 0 ≤ a ∧ 0 ≤ b ∧ 0 ≤ m := by omega
    have H := Lib.hid (mulF_pos h1 h2 h3)
    clear h
    by_cases h0 : b = 0
    · subst h0
      go_enter Try.func16, Try.ntmps16
      go_wp2
      all_goals
        go_ret
        exact ⟨ret_i (by rw [H.out]; simp; omega), Gr.refl _⟩
    · have hb0 : 1 ≤ b := by omega
      have hbb : (b == 0) = false := by simpa using h0
      clear h0
      have hd := div_bd (a := m) (b := b) hb0
      by_cases hc : m / b < a
      · have hk := mul_over hb0 h3 hc
        have K := Lib.hid hk
        clear hk
        go_enter Try.func16, Try.ntmps16
        go_wp2_with (first | (go_at_call 25; refine (passed_top _ _ _).mono ?_; rintro e w1 ⟨rfl, hg1⟩) | go_in)
        all_goals
          go_ret
          exact ⟨ret_i (by rw [H.out, K.out]), (Gr.of (by go_grown)).trans hg1⟩
      · obtain ⟨hk1, hk2⟩ := mul_under hb0 h1 h3 (by omega : a ≤ m / b)
        go_enter Try.func16, Try.ntmps16
        go_wp2_with (first | (go_at_call 25; refine (passed_top _ _ _).mono ?_; rintro e w1 ⟨rfl, hg1⟩) | go_in)
        all_goals
          go_ret
          exact ⟨ret_i (by rw [H.out]; omega), (Gr.of (by go_grown)).trans hg1⟩
end Go.Proofs.Ytlibdgdhdmilcaa

/- The main way of NumBounds: sums, products and roots of what is in range. -/
import Derived.Test.YtlibdgdhdmilcaaNumAwake
import Derived.Test.YtlibdgdhdmilcaaNumCalls3
namespace Go.Proofs.Ytlibdgdhdmilcaa
open Go.RowKit NumPlain
set_option linter.unusedVariables false
set_option maxHeartbeats 2000000 in
theorem bounds_11 (a0 a1 a2 : Int) (w : World) (x0 : 0 ≤ a0) (x1 : a0 ≤ 2147483648) (x2 : 0 ≤ a1) (x3 : a1 ≤ 2147483648) (x4 : 0 ≤ a2) (x5 : a2 ≤ 9223372036854775807) (c1 : a2 < a0 + a1) (c2 : a2 < a0 * a1) :
    Calls Try.prog 5 #[.int .i64 a0, .int .i64 a1, .int .i64 a2] w fun e w' => e = .returned (.bool true) ∧ Gr w w' := by
    have hm : a0 * a1 ≤ 4611686018427387904 := Int.le_trans (Int.mul_le_mul x1 x3 x2 (by decide)) (by decide)
    have hm0 : 0 ≤ a0 * a1 := Int.mul_nonneg x0 x2
    have hs : a0 * a0 ≤ 4611686018427387904 := Int.le_trans (Int.mul_le_mul x1 x1 x0 (by decide)) (by decide)
    have hs0 : 0 ≤ a0 * a0 := Int.mul_nonneg x0 x0
    have I0 : I64 a0 := ⟨by omega, by omega⟩
    have I1 : I64 a1 := ⟨by omega, by omega⟩
    have I2 : I64 a2 := ⟨by omega, by omega⟩
    have E1 := Lib.hid (show addF a0 a1 a2 = a2 by rw [addF_pos x0 x2 x4]; omega)
    have E2 := Lib.hid (show mulF a0 a1 a2 = a2 by rw [mulF_pos x0 x2 x4]; omega)
    have E3 := Lib.hid (show addF a1 a0 a2 = a2 by rw [addF_pos x2 x0 x4]; omega)
    have E4 := Lib.hid (show mulF a1 a0 a2 = a2 by rw [mulF_pos x2 x0 x4, Int.mul_comm]; omega)
    go_enter Try.func5, Try.ntmps5
    go_wp2_with fail
    refine (add_any _ _ _ _ I0 I1 I2).mono ?_; rintro e u1 ⟨rfl, g1⟩
    rw [E1.out]
    go_wp2_with fail
    refine (mul_any _ _ _ _ I0 I1 I2).mono ?_; rintro e u2 ⟨rfl, g2⟩
    rw [E2.out]
    go_wp2_with fail
    refine (root_all _ _).mono ?_; rintro e u3 ⟨⟨r, hr, rfl⟩, g3⟩
    obtain ⟨r1, r2, r3, r4⟩ := NumPlain.root_small x0 x1 hr
    have r5 : (r + 1) * (r + 1) ≤ 4295098369 := Int.le_trans (Int.mul_le_mul (show r + 1 ≤ 65537 by omega) (show r + 1 ≤ 65537 by omega) (by omega) (by omega)) (by decide)
    have r6 : 0 ≤ r * r := Int.mul_nonneg r1 r1
    clear hr
    go_wp2_with fail
    refine (add_any _ _ _ _ I1 I0 I2).mono ?_; rintro e u4 ⟨rfl, g4⟩
    rw [E3.out]
    go_wp2_with fail
    refine (mul_any _ _ _ _ I1 I0 I2).mono ?_; rintro e u5 ⟨rfl, g5⟩
    rw [E4.out]
    go_wp2_with fail
    refine (root_all _ _).mono ?_; rintro e u6 ⟨⟨s, hs, rfl⟩, g6⟩
    obtain rfl : s = a0 := NumPlain.root_one hs (NumPlain.root_sq x0 x1)
    clear hs
    go_wp2_with fail
    refine (awake_any _).mono ?_; rintro e u7 ⟨rfl, g7⟩
    go_wp2_with fail
    go_ret
    exact ⟨rfl, (((((g1.trans g2).trans g3).trans g4).trans g5).trans g6).trans g7⟩
set_option maxHeartbeats 2000000 in
theorem bounds_10 (a0 a1 a2 : Int) (w : World) (x0 : 0 ≤ a0) (x1 : a0 ≤ 2147483648) (x2 : 0 ≤ a1) (x3 : a1 ≤ 2147483648) (x4 : 0 ≤ a2) (x5 : a2 ≤ 9223372036854775807) (c1 : a2 < a0 + a1) (c2 : a0 * a1 ≤ a2) :
    Calls Try.prog 5 #[.int .i64 a0, .int .i64 a1, .int .i64 a2] w fun e w' => e = .returned (.bool true) ∧ Gr w w' := by
    have hm : a0 * a1 ≤ 4611686018427387904 := Int.le_trans (Int.mul_le_mul x1 x3 x2 (by decide)) (by decide)
    have hm0 : 0 ≤ a0 * a1 := Int.mul_nonneg x0 x2
    have hs : a0 * a0 ≤ 4611686018427387904 := Int.le_trans (Int.mul_le_mul x1 x1 x0 (by decide)) (by decide)
    have hs0 : 0 ≤ a0 * a0 := Int.mul_nonneg x0 x0
    have I0 : I64 a0 := ⟨by omega, by omega⟩
    have I1 : I64 a1 := ⟨by omega, by omega⟩
    have I2 : I64 a2 := ⟨by omega, by omega⟩
    have E1 := Lib.hid (show addF a0 a1 a2 = a2 by rw [addF_pos x0 x2 x4]; omega)
    have E2 := Lib.hid (show mulF a0 a1 a2 = a0 * a1 by rw [mulF_pos x0 x2 x4]; omega)
    have E3 := Lib.hid (show addF a1 a0 a2 = a2 by rw [addF_pos x2 x0 x4]; omega)
    have E4 := Lib.hid (show mulF a1 a0 a2 = a0 * a1 by rw [mulF_pos x2 x0 x4, Int.mul_comm]; omega)
    go_enter Try.func5, Try.ntmps5
    go_wp2_with fail
    refine (add_any _ _ _ _ I0 I1 I2).mono ?_; rintro e u1 ⟨rfl, g1⟩
    rw [E1.out]
    go_wp2_with fail
    refine (mul_any _ _ _ _ I0 I1 I2).mono ?_; rintro e u2 ⟨rfl, g2⟩
    rw [E2.out]
    go_wp2_with fail
    refine (root_all _ _).mono ?_; rintro e u3 ⟨⟨r, hr, rfl⟩, g3⟩
    obtain ⟨r1, r2, r3, r4⟩ := NumPlain.root_small x0 x1 hr
    have r5 : (r + 1) * (r + 1) ≤ 4295098369 := Int.le_trans (Int.mul_le_mul (show r + 1 ≤ 65537 by omega) (show r + 1 ≤ 65537 by omega) (by omega) (by omega)) (by decide)
    have r6 : 0 ≤ r * r := Int.mul_nonneg r1 r1
    clear hr
    go_wp2_with fail
    refine (add_any _ _ _ _ I1 I0 I2).mono ?_; rintro e u4 ⟨rfl, g4⟩
    rw [E3.out]
    go_wp2_with fail
    refine (mul_any _ _ _ _ I1 I0 I2).mono ?_; rintro e u5 ⟨rfl, g5⟩
    rw [E4.out]
    go_wp2_with fail
    refine (root_all _ _).mono ?_; rintro e u6 ⟨⟨s, hs, rfl⟩, g6⟩
    obtain rfl : s = a0 := NumPlain.root_one hs (NumPlain.root_sq x0 x1)
    clear hs
    go_wp2_with fail
    refine (awake_any _).mono ?_; rintro e u7 ⟨rfl, g7⟩
    go_wp2_with fail
    go_ret
    exact ⟨rfl, (((((g1.trans g2).trans g3).trans g4).trans g5).trans g6).trans g7⟩
set_option maxHeartbeats 2000000 in
theorem bounds_01 (a0 a1 a2 : Int) (w : World) (x0 : 0 ≤ a0) (x1 : a0 ≤ 2147483648) (x2 : 0 ≤ a1) (x3 : a1 ≤ 2147483648) (x4 : 0 ≤ a2) (x5 : a2 ≤ 9223372036854775807) (c1 : a0 + a1 ≤ a2) (c2 : a2 < a0 * a1) :
    Calls Try.prog 5 #[.int .i64 a0, .int .i64 a1, .int .i64 a2] w fun e w' => e = .returned (.bool true) ∧ Gr w w' := by
    have hm : a0 * a1 ≤ 4611686018427387904 := Int.le_trans (Int.mul_le_mul x1 x3 x2 (by decide)) (by decide)
    have hm0 : 0 ≤ a0 * a1 := Int.mul_nonneg x0 x2
    have hs : a0 * a0 ≤ 4611686018427387904 := Int.le_trans (Int.mul_le_mul x1 x1 x0 (by decide)) (by decide)
    have hs0 : 0 ≤ a0 * a0 := Int.mul_nonneg x0 x0
    have I0 : I64 a0 := ⟨by omega, by omega⟩
    have I1 : I64 a1 := ⟨by omega, by omega⟩
    have I2 : I64 a2 := ⟨by omega, by omega⟩
    have E1 := Lib.hid (show addF a0 a1 a2 = a0 + a1 by rw [addF_pos x0 x2 x4]; omega)
    have E2 := Lib.hid (show mulF a0 a1 a2 = a2 by rw [mulF_pos x0 x2 x4]; omega)
    have E3 := Lib.hid (show addF a1 a0 a2 = a0 + a1 by rw [addF_pos x2 x0 x4]; omega)
    have E4 := Lib.hid (show mulF a1 a0 a2 = a2 by rw [mulF_pos x2 x0 x4, Int.mul_comm]; omega)
    go_enter Try.func5, Try.ntmps5
    go_wp2_with fail
    refine (add_any _ _ _ _ I0 I1 I2).mono ?_; rintro e u1 ⟨rfl, g1⟩
    rw [E1.out]
    go_wp2_with fail
    refine (mul_any _ _ _ _ I0 I1 I2).mono ?_; rintro e u2 ⟨rfl, g2⟩
    rw [E2.out]
    go_wp2_with fail
    refine (root_all _ _).mono ?_; rintro e u3 ⟨⟨r, hr, rfl⟩, g3⟩
    obtain ⟨r1, r2, r3, r4⟩ := NumPlain.root_small x0 x1 hr
    have r5 : (r + 1) * (r + 1) ≤ 4295098369 := Int.le_trans (Int.mul_le_mul (show r + 1 ≤ 65537 by omega) (show r + 1 ≤ 65537 by omega) (by omega) (by omega)) (by decide)
    have r6 : 0 ≤ r * r := Int.mul_nonneg r1 r1
    clear hr
    go_wp2_with fail
    refine (add_any _ _ _ _ I1 I0 I2).mono ?_; rintro e u4 ⟨rfl, g4⟩
    rw [E3.out]
    go_wp2_with fail
    refine (mul_any _ _ _ _ I1 I0 I2).mono ?_; rintro e u5 ⟨rfl, g5⟩
    rw [E4.out]
    go_wp2_with fail
    refine (root_all _ _).mono ?_; rintro e u6 ⟨⟨s, hs, rfl⟩, g6⟩
    obtain rfl : s = a0 := NumPlain.root_one hs (NumPlain.root_sq x0 x1)
    clear hs
    go_wp2_with fail
    refine (awake_any _).mono ?_; rintro e u7 ⟨rfl, g7⟩
    go_wp2_with fail
    go_ret
    exact ⟨rfl, (((((g1.trans g2).trans g3).trans g4).trans g5).trans g6).trans g7⟩
set_option maxHeartbeats 2000000 in
theorem bounds_00 (a0 a1 a2 : Int) (w : World) (x0 : 0 ≤ a0) (x1 : a0 ≤ 2147483648) (x2 : 0 ≤ a1) (x3 : a1 ≤ 2147483648) (x4 : 0 ≤ a2) (x5 : a2 ≤ 9223372036854775807) (c1 : a0 + a1 ≤ a2) (c2 : a0 * a1 ≤ a2) :
    Calls Try.prog 5 #[.int .i64 a0, .int .i64 a1, .int .i64 a2] w fun e w' => e = .returned (.bool true) ∧ Gr w w' := by
    have hm : a0 * a1 ≤ 4611686018427387904 := Int.le_trans (Int.mul_le_mul x1 x3 x2 (by decide)) (by decide)
    have hm0 : 0 ≤ a0 * a1 := Int.mul_nonneg x0 x2
    have hs : a0 * a0 ≤ 4611686018427387904 := Int.le_trans (Int.mul_le_mul x1 x1 x0 (by decide)) (by decide)
    have hs0 : 0 ≤ a0 * a0 := Int.mul_nonneg x0 x0
    have I0 : I64 a0 := ⟨by omega, by omega⟩
    have I1 : I64 a1 := ⟨by omega, by omega⟩
    have I2 : I64 a2 := ⟨by omega, by omega⟩
    have E1 := Lib.hid (show addF a0 a1 a2 = a0 + a1 by rw [addF_pos x0 x2 x4]; omega)
    have E2 := Lib.hid (show mulF a0 a1 a2 = a0 * a1 by rw [mulF_pos x0 x2 x4]; omega)
    have E3 := Lib.hid (show addF a1 a0 a2 = a0 + a1 by rw [addF_pos x2 x0 x4]; omega)
    have E4 := Lib.hid (show mulF a1 a0 a2 = a0 * a1 by rw [mulF_pos x2 x0 x4, Int.mul_comm]; omega)
    go_enter Try.func5, Try.ntmps5
    go_wp2_with fail
    refine (add_any _ _ _ _ I0 I1 I2).mono ?_; rintro e u1 ⟨rfl, g1⟩
    rw [E1.out]
    go_wp2_with fail
    refine (mul_any _ _ _ _ I0 I1 I2).mono ?_; rintro e u2 ⟨rfl, g2⟩
    rw [E2.out]
    go_wp2_with fail
    refine (root_all _ _).mono ?_; rintro e u3 ⟨⟨r, hr, rfl⟩, g3⟩
    obtain ⟨r1, r2, r3, r4⟩ := NumPlain.root_small x0 x1 hr
    have r5 : (r + 1) * (r + 1) ≤ 4295098369 := Int.le_trans (Int.mul_le_mul (show r + 1 ≤ 65537 by omega) (show r + 1 ≤ 65537 by omega) (by omega) (by omega)) (by decide)
    have r6 : 0 ≤ r * r := Int.mul_nonneg r1 r1
    clear hr
    go_wp2_with fail
    refine (add_any _ _ _ _ I1 I0 I2).mono ?_; rintro e u4 ⟨rfl, g4⟩
    rw [E3.out]
    go_wp2_with fail
    refine (mul_any _ _ _ _ I1 I0 I2).mono ?_; rintro e u5 ⟨rfl, g5⟩
    rw [E4.out]
    go_wp2_with fail
    refine (root_all _ _).mono ?_; rintro e u6 ⟨⟨s, hs, rfl⟩, g6⟩
    obtain rfl : s = a0 := NumPlain.root_one hs (NumPlain.root_sq x0 x1)
    clear hs
    go_wp2_with fail
    refine (awake_any _).mono ?_; rintro e u7 ⟨rfl, g7⟩
    go_wp2_with fail
    go_ret
    exact ⟨rfl, (((((g1.trans g2).trans g3).trans g4).trans g5).trans g6).trans g7⟩
theorem bounds_main (a0 a1 a2 : Int) (w : World) (x0 : 0 ≤ a0) (x1 : a0 ≤ 2147483648) (x2 : 0 ≤ a1) (x3 : a1 ≤ 2147483648) (x4 : 0 ≤ a2) (x5 : a2 ≤ 9223372036854775807) :
    Calls Try.prog 5 #[.int .i64 a0, .int .i64 a1, .int .i64 a2] w fun e w' => e = .returned (.bool true) ∧ Gr w w' := by
  by_cases c1 : a2 < a0 + a1
  · by_cases c2 : a2 < a0 * a1
    · exact bounds_11 a0 a1 a2 w x0 x1 x2 x3 x4 x5 c1 c2
    · exact bounds_10 a0 a1 a2 w x0 x1 x2 x3 x4 x5 c1 (by omega)
  · by_cases c2 : a2 < a0 * a1
    · exact bounds_01 a0 a1 a2 w x0 x1 x2 x3 x4 x5 (by omega) c2
    · exact bounds_00 a0 a1 a2 w x0 x1 x2 x3 x4 x5 (by omega) (by omega)
end Go.Proofs.Ytlibdgdhdmilcaa

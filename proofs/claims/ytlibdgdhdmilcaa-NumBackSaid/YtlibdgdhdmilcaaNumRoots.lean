/- Contracts of both roots, each by a walk of its text. -/
import Derived.Test.YtlibdgdhdmilcaaNumCalls
import Derived.Test.YtlibdgdhdmilcaaNumBits
namespace Go.Proofs.Ytlibdgdhdmilcaa
open Go.RowKit NumPlain
set_option linter.unusedVariables false

/-- What a call of a root comes to: some number that is the root. -/
def Rooted (n : Int) (e : Ending) : Prop := ∃ r, IsRoot n r ∧ e = .returned (.int .i64 r)
def AtBit (n : Int) (x y : Value) : Prop := ∃ r b : Int, x = .int .i64 r ∧ y = .int .i64 b ∧ 0 ≤ b ∧ Q n r b

set_option maxHeartbeats 400000 in
theorem root_any (n : Int) (w : World) (h1 : 0 ≤ n) (h2 : n ≤ 4611686018427387904) :
    Calls Try.prog 18 #[.int .i64 n] w fun e w' => Rooted n e ∧ Gr w w' := by
  go_enter Try.func18, Try.ntmps18
  go_wp2_with (first | (go_at_call 21; refine (within_yes n 0 4611686018427387904 _ _ h1 h2 (by simp) (by go_simp) (by go_simp) (by go_simp) (by go_simp)).mono ?_; rintro e w1 ⟨rfl, hg⟩) | go_in)
  have hw : Gr w w1 := (Gr.of (by go_grown)).trans hg
  clear hg
  go_loop [3, 4] (fun r b => AtBit n r b) (fun _ b => (intOf b).toNat)
  case atStart => exact ⟨0, 2147483648, rfl, rfl, by omega, Q_start h1 h2⟩
  case round =>
    obtain ⟨r, b, rfl, rfl, hb0, hq⟩ := hrel
    by_cases h0 : b = 0
    · subst h0
      go_wp2_with fail
      go_ret
      exact ⟨⟨r, Q_end h1 h2 hq, rfl⟩, hw⟩
    · have hbp : 0 < b := by omega
      clear h0
      obtain ⟨g1, g2, g3, g4, g5, g6⟩ := Q_go h1 h2 hq hbp
      obtain ⟨x, hx⟩ : ∃ x, x = r + b := ⟨_, rfl⟩
      rw [← hx] at g4 g5 g6
      have hx1 : 1 ≤ x := by omega
      have hx2 : x ≤ 4294967296 := by omega
      have Hx := Lib.hid hx
      have Hq := Lib.hid hq
      have hd := div_bd (a := n) (b := x) hx1
      clear hx hq
      by_cases hc : x ≤ n / x
      · have H5 := Lib.hid (g5 hc)
        clear g5 g6
        go_wp2_with fail
        refine ⟨⟨x, b / 2, rfl, rfl, Int.ediv_nonneg hb0 (by decide), H5.out⟩, ?_⟩
        simp [intOf]; omega
      · have H6 := Lib.hid (g6 (by omega))
        clear g5 g6
        go_wp2_with fail
        refine ⟨⟨r, b / 2, rfl, rfl, Int.ediv_nonneg hb0 (by decide), H6.out⟩, ?_⟩
        simp [intOf]; omega
def AtPlace (n : Int) (x y : Value) : Prop := ∃ r k : Int, x = .int .i64 r ∧ y = .int .i64 k ∧ -1 ≤ k ∧ k ≤ 31 ∧ QR n r k
set_option maxHeartbeats 400000 in
theorem rroot_any (n : Int) (w : World) (h1 : 0 ≤ n) (h2 : n ≤ 4611686018427387904) :
    Calls Try.prog 19 #[.int .i64 n] w fun e w' => Rooted n e ∧ w = w' := by
  go_enter Try.func19, Try.ntmps19
  go_wp2_with fail
  go_loop [3, 4] (fun r k => AtPlace n r k) (fun _ k => (intOf k + 1).toNat)
  case atStart => exact ⟨0, 31, rfl, rfl, by omega, by omega, QR_start h1 h2⟩
  case round =>
    obtain ⟨r, k, rfl, rfl, hk1, hk2, hq⟩ := hrel
    by_cases h0 : 0 ≤ k
    · obtain ⟨c, g1, g2, g3, g4, g5, g6, g7⟩ := QR_go h2 hq h0 hk2
      obtain ⟨x, hx⟩ : ∃ x, x = r + c := ⟨_, rfl⟩
      have Hx := Lib.hid hx
      have Hq := Lib.hid hq
      rw [← hx] at g6 g7
      have hx0 : 0 ≤ x := by omega
      have hx2 : x ≤ 4294967296 := by omega
      by_cases hc : x ≤ 2147483648
      · have hy : x * x ≤ 2147483648 * 2147483648 := Int.mul_le_mul hc hc (by omega) (by omega)
        have hy0 : 0 ≤ x * x := Int.mul_nonneg hx0 hx0
        by_cases hle : x * x ≤ n
        · have H6 := Lib.hid (g6 hle)
          have hxr : r + c = x := hx.symm
          clear g6 g7 hx hq
          go_wp2_with fail
          exact ⟨⟨x, k - 1, rfl, rfl, by omega, by omega, H6.out⟩, by simp [intOf]; omega⟩
        · have H7 := Lib.hid (g7 (by omega))
          have hxr : r + c = x := hx.symm
          clear g6 g7 hx hq
          go_wp2_with fail
          exact ⟨⟨r, k - 1, rfl, rfl, by omega, by omega, H7.out⟩, by simp [intOf]; omega⟩
      · have hlt : n < x * x := by
          have : 2147483649 * 2147483649 ≤ x * x := Int.mul_le_mul (by omega) (by omega) (by omega) (by omega)
          omega
        have H7 := Lib.hid (g7 hlt)
        have hxr : r + c = x := hx.symm
        clear g6 g7 hlt hx hq
        go_wp2_with fail
        exact ⟨⟨r, k - 1, rfl, rfl, by omega, by omega, H7.out⟩, by simp [intOf]; omega⟩
    · obtain rfl : k = -1 := by omega
      go_wp2_with fail
      go_ret
      exact ⟨⟨r, QR_end h1 h2 hq, rfl⟩, rfl⟩
set_option maxHeartbeats 400000 in
theorem root_out (n : Int) (w : World) (h : n < 0 ∨ 4611686018427387904 < n) :
    Calls Try.prog 18 #[.int .i64 n] w fun e w' => Rooted n e ∧ Gr w w' := by
  go_enter Try.func18, Try.ntmps18
  go_wp2_with (first | (go_at_call 21; refine (within_no n 0 4611686018427387904 _ _ (by omega) h (by simp) (by go_simp) (by go_simp) (by go_simp) (by go_simp)).mono ?_; rintro e w1 ⟨rfl, hg⟩) | go_in)
  go_ret
  exact ⟨⟨0, .inl ⟨h, rfl⟩, rfl⟩, (Gr.of (by go_grown)).trans hg⟩
set_option maxHeartbeats 400000 in
theorem rroot_out (n : Int) (w : World) (h : n < 0 ∨ 4611686018427387904 < n) :
    Calls Try.prog 19 #[.int .i64 n] w fun e w' => Rooted n e ∧ w = w' := by
  have H := Lib.hid h
  rcases h with h | h
  · go_enter Try.func19, Try.ntmps19
    go_wp2_with fail
    go_ret
    exact ⟨⟨0, .inl ⟨H.out, rfl⟩, rfl⟩, rfl⟩
  · have h' : ¬ n < 0 := by omega
    go_enter Try.func19, Try.ntmps19
    go_wp2_with fail
    go_ret
    exact ⟨⟨0, .inl ⟨H.out, rfl⟩, rfl⟩, rfl⟩
theorem root_all (n : Int) (w : World) : Calls Try.prog 18 #[.int .i64 n] w fun e w' => Rooted n e ∧ Gr w w' := by
  by_cases h : n < 0 ∨ 4611686018427387904 < n
  · exact root_out n w h
  · exact root_any n w (by omega) (by omega)
theorem rroot_all (n : Int) (w : World) : Calls Try.prog 19 #[.int .i64 n] w fun e w' => Rooted n e ∧ w = w' := by
  by_cases h : n < 0 ∨ 4611686018427387904 < n
  · exact rroot_out n w h
  · exact rroot_any n w (by omega) (by omega)
end Go.Proofs.Ytlibdgdhdmilcaa

/- Contracts of layer num's functions and of the document's answers to them, each by a walk of its text. -/
import Derived.Test.YtlibdgdhdmilcaaRows
import Derived.Test.YtlibdgdhdmilcaaNumPlain
import Derived.WalkKit
import Derived.ProofKit
import Derived.Below
import Derived.Handy
import Derived.Outline
import Derived.Lib.Hide
namespace Go.Proofs.Ytlibdgdhdmilcaa
open Go.RowKit NumPlain
set_option linter.unusedVariables false

/-- The world has at most new blocks. -/
def Gr (w w' : World) : Prop := Below w.heap.size w w'
theorem Gr.refl (w : World) : Gr w w := Below.refl _ _
theorem Gr.trans {a b c : World} (h : Gr a b) (k : Gr b c) : Gr a c := Below.trans h (Below.mono k h.size)
theorem Gr.of {a b : World} (h : Below a.heap.size a b) : Gr a b := h
theorem ret_i {a b : Int} (h : a = b) : Ending.returned (.int .i64 a) = .returned (.int .i64 b) := by rw [h]

set_option maxHeartbeats 400000 in
theorem held_top (x a : Int) (w : World) (p : Nat) (hp : p < w.heap.size) (h0 : w.cell? ⟨p, 0, none⟩ = some (.int .i64 a)) (h1 : w.cell? ⟨p, 1, none⟩ = some (.bool true)) :
    Calls Try.prog 24 #[.int .i64 x, .slice (some ⟨p, 0, none⟩) 1 1] w fun e w' => e = .returned (.int .i64 (min x a)) ∧ Gr w w' := by
  go_enter Try.func24, Try.ntmps24
  go_wp2
  go_rounds 2
  all_goals
    go_ret
    exact ⟨ret_i (by omega), Gr.of (by go_grown)⟩
set_option maxHeartbeats 400000 in
theorem held_both (x lo hi : Int) (w : World) (p : Nat) (hp : p < w.heap.size) (h0 : w.cell? ⟨p, 0, none⟩ = some (.int .i64 lo)) (h1 : w.cell? ⟨p, 1, none⟩ = some (.bool false)) (h2 : w.cell? ⟨p, 2, none⟩ = some (.int .i64 hi)) (h3 : w.cell? ⟨p, 3, none⟩ = some (.bool true)) :
    Calls Try.prog 24 #[.int .i64 x, .slice (some ⟨p, 0, none⟩) 2 2] w fun e w' => e = .returned (.int .i64 (holdF x lo hi)) ∧ Gr w w' := by
  go_enter Try.func24, Try.ntmps24
  go_wp2
  go_rounds 3
  all_goals
    go_ret
    exact ⟨ret_i (by unfold holdF; (repeat' split) <;> omega), Gr.of (by go_grown)⟩
set_option maxHeartbeats 400000 in
theorem hold_any (x lo hi : Int) (w : World) :
    Calls Try.prog 12 #[.int .i64 x, .int .i64 lo, .int .i64 hi] w fun e w' => e = .returned (.int .i64 (holdF x lo hi)) ∧ Gr w w' := by
  go_enter Try.func12, Try.ntmps12
  go_wp2_with (first | (go_at_call 24; refine (held_both x lo hi _ _ (by simp) (by go_simp) (by go_simp) (by go_simp) (by go_simp)).mono ?_; rintro e w1 ⟨rfl, hb⟩) | go_in)
  go_ret
  exact ⟨rfl, (Gr.of (by go_grown)).trans hb⟩

def I64 (a : Int) : Prop := -9223372036854775808 ≤ a ∧ a ≤ 9223372036854775807

set_option maxHeartbeats 400000 in
theorem floor_any (a b : Int) (w : World) (ha : I64 a) (hb : I64 b) :
    Calls Try.prog 6 #[.int .i64 a, .int .i64 b] w fun e w' => e = .returned (.int .i64 (floorF a b)) ∧ w = w' := by
  obtain ⟨ha1, ha2⟩ := ha
  obtain ⟨hb1, hb2⟩ := hb
  by_cases h0 : b < 1
  · go_enter Try.func6, Try.ntmps6
    go_wp2
    go_ret
    exact ⟨ret_i (by rw [floorF_not h0]), rfl⟩
  · have hp : 1 ≤ b := by omega
    have hbd := tmod_bd (a := a) (b := b) (by omega)
    have hdb := div_bd (a := a) (b := b) (by omega)
    by_cases h1 : a.tmod b < 0
    · have hn := neg_of h1
      have H := Lib.hid (quo_neg (by omega) h1)
      have h2 : -9223372036854775807 ≤ a.tdiv b ∧ a.tdiv b ≤ 9223372036854775807 := by have := H.out; omega
      clear h0
      go_enter Try.func6, Try.ntmps6
      go_wp2
      go_ret
      exact ⟨ret_i (by rw [floorF_pos (by omega)]; have := H.out; omega), rfl⟩
    · have H := Lib.hid (quo_pos (by omega) h1)
      clear h0
      go_enter Try.func6, Try.ntmps6
      go_wp2
      go_ret
      exact ⟨ret_i (by rw [floorF_pos (by omega)]; have := H.out; omega), rfl⟩
set_option maxHeartbeats 400000 in
theorem rfloor_any (a b : Int) (w : World) (ha : I64 a) (hb : I64 b) :
    Calls Try.prog 7 #[.int .i64 a, .int .i64 b] w fun e w' => e = .returned (.int .i64 (floorF a b)) ∧ w = w' := by
  obtain ⟨ha1, ha2⟩ := ha
  obtain ⟨hb1, hb2⟩ := hb
  by_cases h0 : b < 1
  · go_enter Try.func7, Try.ntmps7
    go_wp2
    go_ret
    exact ⟨ret_i (by rw [floorF_not h0]), rfl⟩
  · have hp : 1 ≤ b := by omega
    have hbd := tmod_bd (a := a) (b := b) (by omega)
    have hdb := div_bd (a := a) (b := b) (by omega)
    by_cases h1 : a.tmod b < 0
    · have hn := neg_of h1
      have H := Lib.hid (quo_neg (by omega) h1)
      have h2 : -9223372036854775807 ≤ a.tdiv b ∧ a.tdiv b ≤ 9223372036854775807 := by have := H.out; omega
      clear h0
      go_enter Try.func7, Try.ntmps7
      go_wp2
      go_ret
      exact ⟨ret_i (by rw [floorF_pos (by omega)]; have := H.out; omega), rfl⟩
    · have H := Lib.hid (quo_pos (by omega) h1)
      clear h0
      go_enter Try.func7, Try.ntmps7
      go_wp2
      go_ret
      exact ⟨ret_i (by rw [floorF_pos (by omega)]; have := H.out; omega), rfl⟩
set_option maxHeartbeats 400000 in
theorem rest_any (a b : Int) (w : World) (ha : I64 a) (hb : I64 b) :
    Calls Try.prog 8 #[.int .i64 a, .int .i64 b] w fun e w' => e = .returned (.int .i64 (restF a b)) ∧ w = w' := by
  obtain ⟨ha1, ha2⟩ := ha
  obtain ⟨hb1, hb2⟩ := hb
  by_cases h0 : b < 1
  · go_enter Try.func8, Try.ntmps8
    go_wp2
    go_ret
    exact ⟨ret_i (by rw [restF_not h0]), rfl⟩
  · have hp : 1 ≤ b := by omega
    have hbd := tmod_bd (a := a) (b := b) (by omega)
    have hdb := div_bd (a := a) (b := b) (by omega)
    by_cases h1 : a.tmod b < 0
    · have hn := neg_of h1
      have H := Lib.hid (quo_neg (by omega) h1)
      have h2 : -9223372036854775807 ≤ a.tdiv b ∧ a.tdiv b ≤ 9223372036854775807 := by have := H.out; omega
      clear h0
      go_enter Try.func8, Try.ntmps8
      go_wp2
      go_ret
      exact ⟨ret_i (by rw [restF_pos (by omega)]; have := H.out; omega), rfl⟩
    · have H := Lib.hid (quo_pos (by omega) h1)
      clear h0
      go_enter Try.func8, Try.ntmps8
      go_wp2
      go_ret
      exact ⟨ret_i (by rw [restF_pos (by omega)]; have := H.out; omega), rfl⟩
set_option maxHeartbeats 400000 in
theorem rrest_any (a b : Int) (w : World) (ha : I64 a) (hb : I64 b) :
    Calls Try.prog 9 #[.int .i64 a, .int .i64 b] w fun e w' => e = .returned (.int .i64 (restF a b)) ∧ w = w' := by
  obtain ⟨ha1, ha2⟩ := ha
  obtain ⟨hb1, hb2⟩ := hb
  by_cases h0 : b < 1
  · go_enter Try.func9, Try.ntmps9
    go_wp2
    go_ret
    exact ⟨ret_i (by rw [restF_not h0]), rfl⟩
  · have hp : 1 ≤ b := by omega
    have hbd := tmod_bd (a := a) (b := b) (by omega)
    have hdb := div_bd (a := a) (b := b) (by omega)
    by_cases h1 : a.tmod b < 0
    · have hn := neg_of h1
      have H := Lib.hid (quo_neg (by omega) h1)
      have h2 : -9223372036854775807 ≤ a.tdiv b ∧ a.tdiv b ≤ 9223372036854775807 := by have := H.out; omega
      clear h0
      go_enter Try.func9, Try.ntmps9
      go_wp2
      go_ret
      exact ⟨ret_i (by rw [restF_pos (by omega)]; have := H.out; omega), rfl⟩
    · have H := Lib.hid (quo_pos (by omega) h1)
      clear h0
      go_enter Try.func9, Try.ntmps9
      go_wp2
      go_ret
      exact ⟨ret_i (by rw [restF_pos (by omega)]; have := H.out; omega), rfl⟩

set_option maxHeartbeats 400000 in
theorem within_yes (x lo hi : Int) (w : World) (p : Nat) (hx1 : lo ≤ x) (hx2 : x ≤ hi) (hp : p < w.heap.size) (h0 : w.cell? ⟨p, 0, none⟩ = some (.int .i64 lo)) (h1 : w.cell? ⟨p, 1, none⟩ = some (.bool false)) (h2 : w.cell? ⟨p, 2, none⟩ = some (.int .i64 hi)) (h3 : w.cell? ⟨p, 3, none⟩ = some (.bool true)) :
    Calls Try.prog 21 #[.int .i64 x, .slice (some ⟨p, 0, none⟩) 2 2] w fun e w' => e = .returned (.bool true) ∧ Gr w w' := by
  have hh : (holdF x lo hi == x) = true := by rw [holdF_in hx1 hx2]; simp
  go_enter Try.func21, Try.ntmps21
  go_wp2_with (first | (go_at_call 24; refine (held_both x lo hi _ _ hp h0 h1 h2 h3).mono ?_; rintro e w1 ⟨rfl, hb⟩))
  go_ret
  exact ⟨rfl, hb⟩
set_option maxHeartbeats 400000 in
theorem within_no (x lo hi : Int) (w : World) (p : Nat) (hl : lo ≤ hi) (hx : x < lo ∨ hi < x) (hp : p < w.heap.size) (h0 : w.cell? ⟨p, 0, none⟩ = some (.int .i64 lo)) (h1 : w.cell? ⟨p, 1, none⟩ = some (.bool false)) (h2 : w.cell? ⟨p, 2, none⟩ = some (.int .i64 hi)) (h3 : w.cell? ⟨p, 3, none⟩ = some (.bool true)) :
    Calls Try.prog 21 #[.int .i64 x, .slice (some ⟨p, 0, none⟩) 2 2] w fun e w' => e = .returned (.bool false) ∧ Gr w w' := by
  have hh : (holdF x lo hi == x) = false := by have := holdF_out hl hx; simp; omega
  clear hx
  go_enter Try.func21, Try.ntmps21
  go_wp2_with (first | (go_at_call 24; refine (held_both x lo hi _ _ hp h0 h1 h2 h3).mono ?_; rintro e w1 ⟨rfl, hb⟩))
  go_ret
  exact ⟨rfl, hb⟩
set_option maxHeartbeats 400000 in
theorem ceil_any (a b : Int) (w : World) (ha : I64 a) (hb : I64 b) :
    Calls Try.prog 10 #[.int .i64 a, .int .i64 b] w fun e w' => e = .returned (.int .i64 (ceilF a b)) ∧ Gr w w' := by
  obtain ⟨ha1, ha2⟩ := ha
  by_cases h : a < -4611686018427387904 ∨ 4611686018427387904 < a
  · go_enter Try.func10, Try.ntmps10
    go_wp2_with (first | (go_at_call 21; refine (within_no a (-4611686018427387904) 4611686018427387904 _ _ (by omega) h (by simp) (by go_simp) (by go_simp) (by go_simp) (by go_simp)).mono ?_; rintro e w1 ⟨rfl, hg⟩) | go_in)
    go_ret
    exact ⟨ret_i (by rw [ceilF_not h]), (Gr.of (by go_grown)).trans hg⟩
  · obtain ⟨h1, h2⟩ : -4611686018427387904 ≤ a ∧ a ≤ 4611686018427387904 := by omega
    have hf := floorF_bd (a := -a) (b := b) (by omega) (by omega)
    clear h
    go_enter Try.func10, Try.ntmps10
    go_wp2_with (first | (go_at_call 21; refine (within_yes a (-4611686018427387904) 4611686018427387904 _ _ h1 h2 (by simp) (by go_simp) (by go_simp) (by go_simp) (by go_simp)).mono ?_; rintro e w1 ⟨rfl, hg⟩) | (go_at_call 6; refine (floor_any _ _ _ ⟨by omega, by omega⟩ hb).mono ?_; rintro e w2 ⟨rfl, rfl⟩) | go_in)
    go_ret
    exact ⟨ret_i (by rw [ceilF_in h1 h2]), (Gr.of (by go_grown)).trans hg⟩
set_option maxHeartbeats 400000 in
theorem rceil_any (a b : Int) (w : World) (ha : I64 a) (hb : I64 b) :
    Calls Try.prog 11 #[.int .i64 a, .int .i64 b] w fun e w' => e = .returned (.int .i64 (ceilF a b)) ∧ w = w' := by
  obtain ⟨ha1, ha2⟩ := ha
  by_cases h0 : b < 1
  · have e : ceilF a b = 0 := ceilF_not' h0
    have H := Lib.hid e; clear e
    go_enter Try.func11, Try.ntmps11
    go_wp2
    go_ret
    exact ⟨ret_i (by rw [H.out]), rfl⟩
  · by_cases h1 : a < -4611686018427387904
    · have H := Lib.hid (ceilF_not (a := a) (b := b) (.inl h1))
      go_enter Try.func11, Try.ntmps11
      go_wp2
      go_ret
      exact ⟨ret_i (by rw [H.out]), rfl⟩
    · by_cases h2 : 4611686018427387904 < a
      · have H := Lib.hid (ceilF_not (a := a) (b := b) (.inr h2))
        go_enter Try.func11, Try.ntmps11
        go_wp2
        go_ret
        exact ⟨ret_i (by rw [H.out]), rfl⟩
      · have hf := floorF_bd (a := -a) (b := b) (by omega) (by omega)
        go_enter Try.func11, Try.ntmps11
        go_wp2_with (go_at_call 7; refine (rfloor_any _ _ _ ⟨by omega, by omega⟩ hb).mono ?_; rintro e w2 ⟨rfl, rfl⟩)
        go_ret
        exact ⟨ret_i (by rw [ceilF_in (by omega) (by omega)]), rfl⟩
set_option maxHeartbeats 400000 in
theorem rhold_any (x lo hi : Int) (w : World) :
    Calls Try.prog 13 #[.int .i64 x, .int .i64 lo, .int .i64 hi] w fun e w' => e = .returned (.int .i64 (holdF x lo hi)) ∧ w = w' := by
  go_enter Try.func13, Try.ntmps13
  go_wp2
  all_goals
    go_ret
    exact ⟨ret_i (by unfold holdF; (repeat' split) <;> omega), rfl⟩
end Go.Proofs.Ytlibdgdhdmilcaa

/- Plain facts on whole numbers for layer num: quotients that are rounded down, held numbers, sums and products up to a bound, roots. Nothing of the program. -/
namespace Go.Proofs.Ytipfdildnnfmkaa.NumPlain
set_option linter.unusedVariables false

def floorF (a b : Int) : Int := if b < 1 then 0 else a / b
def restF (a b : Int) : Int := if b < 1 then 0 else a % b
def ceilF (a b : Int) : Int := if b < 1 ∨ a < -4611686018427387904 ∨ 4611686018427387904 < a then 0 else -((-a) / b)
def holdF (x lo hi : Int) : Int := if x < lo then lo else if hi < x then hi else x
def addF (a b m : Int) : Int := if a < 0 ∨ b < 0 ∨ m < 0 then 0 else min (a + b) m
def mulF (a b m : Int) : Int := if a < 0 ∨ b < 0 ∨ m < 0 then 0 else min (a * b) m
/-- r is the root of n; 0 of what has none. -/
def IsRoot (n r : Int) : Prop := (n < 0 ∨ 4611686018427387904 < n) ∧ r = 0 ∨ 0 ≤ n ∧ n ≤ 4611686018427387904 ∧ 0 ≤ r ∧ r ≤ 2147483648 ∧ r * r ≤ n ∧ n < (r + 1) * (r + 1)

theorem quo_neg {a b : Int} (hb : 1 ≤ b) (h : a.tmod b < 0) : a.tdiv b - 1 = a / b ∧ a.tmod b + b = a % b := by
  have h1 := Int.tdiv_eq_ediv (a := a) (b := b)
  have h2 := Int.tmod_eq_emod (a := a) (b := b)
  have h3 := Int.emod_nonneg a (show b ≠ 0 by omega)
  split at h1
  · rename_i hc; rw [if_pos hc] at h2; omega
  · rename_i hc; rw [if_neg hc] at h2
    have : b.sign = 1 := Int.sign_eq_one_of_pos (by omega)
    omega
theorem quo_pos {a b : Int} (hb : 1 ≤ b) (h : ¬ a.tmod b < 0) : a.tdiv b = a / b ∧ a.tmod b = a % b := by
  have h1 := Int.tdiv_eq_ediv (a := a) (b := b)
  have h2 := Int.tmod_eq_emod (a := a) (b := b)
  have h4 := Int.emod_lt_of_pos a (show 0 < b by omega)
  split at h1
  · rename_i hc; rw [if_pos hc] at h2; omega
  · rename_i hc; rw [if_neg hc] at h2; omega
theorem tmod_bd {a b : Int} (hb : 1 ≤ b) : -b < a.tmod b ∧ a.tmod b < b :=
  ⟨Int.lt_tmod_of_pos a (by omega), Int.tmod_lt_of_pos a (by omega)⟩
theorem neg_of {a b : Int} (h : a.tmod b < 0) : a < 0 := by
  by_cases h0 : 0 ≤ a
  · have := Int.tmod_nonneg b h0; omega
  · omega
theorem div_bd {a b : Int} (hb : 1 ≤ b) : (0 ≤ a → 0 ≤ a / b ∧ a / b ≤ a) ∧ (a < 0 → a ≤ a / b ∧ a / b < 0) := by
  refine ⟨fun h => ⟨Int.ediv_nonneg h (by omega), Int.ediv_le_self _ h⟩, fun h => ⟨?_, Int.ediv_neg_of_neg_of_pos h (by omega)⟩⟩
  rw [Int.le_ediv_iff_mul_le (by omega)]
  have : a * b ≤ a * 1 := Int.mul_le_mul_of_nonpos_left (by omega) hb
  omega
theorem floorF_pos {a b : Int} (h : 1 ≤ b) : floorF a b = a / b := by unfold floorF; rw [if_neg (by omega)]
theorem floorF_not {a b : Int} (h : b < 1) : floorF a b = 0 := by unfold floorF; rw [if_pos h]
theorem restF_pos {a b : Int} (h : 1 ≤ b) : restF a b = a % b := by unfold restF; rw [if_neg (by omega)]
theorem restF_not {a b : Int} (h : b < 1) : restF a b = 0 := by unfold restF; rw [if_pos h]
theorem holdF_in {x lo hi : Int} (h : lo ≤ x) (k : x ≤ hi) : holdF x lo hi = x := by unfold holdF; (repeat' split) <;> omega
theorem holdF_out {x lo hi : Int} (h : lo ≤ hi) (k : x < lo ∨ hi < x) : holdF x lo hi ≠ x := by unfold holdF; (repeat' split) <;> omega
theorem floorF_bd {a b : Int} (h : -4611686018427387904 ≤ a) (k : a ≤ 4611686018427387904) : -4611686018427387904 ≤ floorF a b ∧ floorF a b ≤ 4611686018427387904 := by
  unfold floorF
  split
  · omega
  · have := div_bd (a := a) (b := b) (by omega); omega
theorem ceilF_not {a b : Int} (h : a < -4611686018427387904 ∨ 4611686018427387904 < a) : ceilF a b = 0 := by unfold ceilF; rw [if_pos (.inr h)]
theorem ceilF_not' {a b : Int} (h : b < 1) : ceilF a b = 0 := by unfold ceilF; rw [if_pos (.inl h)]
theorem ceilF_in {a b : Int} (h : -4611686018427387904 ≤ a) (k : a ≤ 4611686018427387904) : ceilF a b = -(floorF (-a) b) := by
  unfold ceilF floorF
  by_cases c : b < 1
  · rw [if_pos (.inl c), if_pos c]; rfl
  · rw [if_neg (by omega), if_neg c]
theorem addF_not {a b m : Int} (h : a < 0 ∨ b < 0 ∨ m < 0) : addF a b m = 0 := by unfold addF; rw [if_pos h]
theorem addF_pos {a b m : Int} (h1 : 0 ≤ a) (h2 : 0 ≤ b) (h3 : 0 ≤ m) : addF a b m = min (a + b) m := by unfold addF; rw [if_neg (by omega)]
theorem mulF_not {a b m : Int} (h : a < 0 ∨ b < 0 ∨ m < 0) : mulF a b m = 0 := by unfold mulF; rw [if_pos h]
theorem mulF_pos {a b m : Int} (h1 : 0 ≤ a) (h2 : 0 ≤ b) (h3 : 0 ≤ m) : mulF a b m = min (a * b) m := by unfold mulF; rw [if_neg (by omega)]
theorem mul_over {a b m : Int} (hb : 1 ≤ b) (hm : 0 ≤ m) (h : m / b < a) : min (a * b) m = m := by
  have h1 : (m / b + 1) * b ≤ a * b := Int.mul_le_mul_of_nonneg_right (by omega) (by omega)
  have h2 := Int.lt_ediv_add_one_mul_self m (show 0 < b by omega)
  omega
theorem mul_under {a b m : Int} (hb : 1 ≤ b) (ha : 0 ≤ a) (hm : 0 ≤ m) (h : a ≤ m / b) : 0 ≤ a * b ∧ a * b ≤ m := by
  refine ⟨Int.mul_nonneg ha (by omega), ?_⟩
  exact (Int.le_ediv_iff_mul_le (by omega)).1 h
theorem back_all {a b : Int} (h1 : -2305843009213693952 ≤ a) (h2 : a ≤ 2305843009213693952) (h3 : 1 ≤ b) (h4 : b ≤ 2305843009213693952) :
    0 ≤ restF a b ∧ (restF a b < b ∧ True) ∧ floorF a b * b + restF a b = a ∧ -4611686018427387904 ≤ floorF a b * b ∧ floorF a b * b ≤ 4611686018427387904 ∧ (-4611686018427387904 ≤ floorF a b ∧ floorF a b ≤ 4611686018427387904) ∧ (restF a b = 0 → ceilF a b = floorF a b) ∧ (restF a b ≠ 0 → ceilF a b = floorF a b + 1) := by
  have e1 := Int.emod_nonneg a (show b ≠ 0 by omega)
  have e2 := Int.emod_lt_of_pos a (show 0 < b by omega)
  have e3 := Int.mul_ediv_add_emod a b
  have e4 := div_bd (a := a) (b := b) h3
  rw [Int.mul_comm] at e3
  rw [ceilF_in (by omega) (by omega), floorF_pos h3, floorF_pos h3, restF_pos h3]
  have e5 : (-a) / b = if a % b = 0 then -(a / b) else -(a / b) - 1 := by
    split
    · rename_i hz; rw [Int.neg_ediv_of_dvd (Int.dvd_of_emod_eq_zero hz)]
    · rename_i hz
      have f1 : -a = (b - a % b) + b * (-(a / b) - 1) := by
        have : b * (-(a / b) - 1) = -(a / b * b) - b := by rw [Int.mul_sub, Int.mul_neg, Int.mul_comm b]; omega
        omega
      rw [f1, Int.add_mul_ediv_left _ _ (by omega), Int.ediv_eq_zero_of_lt (by omega) (by omega)]; omega
  refine ⟨e1, ⟨e2, trivial⟩, e3, by omega, by omega, by omega, fun h => ?_, fun h => ?_⟩
  · rw [e5, if_pos h]; omega
  · rw [e5, if_neg h]; omega
theorem root_one {n r s : Int} (h : IsRoot n r) (k : IsRoot n s) : r = s := by
  rcases h with ⟨h, rfl⟩ | ⟨h1, h2, h3, h4, h5, h6⟩ <;> rcases k with ⟨k, rfl⟩ | ⟨k1, k2, k3, k4, k5, k6⟩
  · rfl
  · omega
  · omega
  · rcases Int.lt_trichotomy r s with c | c | c
    · have : (r + 1) * (r + 1) ≤ s * s := Int.mul_le_mul (by omega) (by omega) (by omega) (by omega)
      omega
    · exact c
    · have : (s + 1) * (s + 1) ≤ r * r := Int.mul_le_mul (by omega) (by omega) (by omega) (by omega)
      omega
theorem root_small {n r : Int} (h1 : 0 ≤ n) (h2 : n ≤ 2147483648) (h : IsRoot n r) : 0 ≤ r ∧ r ≤ 65536 ∧ r * r ≤ n ∧ n < (r + 1) * (r + 1) := by
  rcases h with ⟨h, _⟩ | ⟨_, _, k1, _, k3, k4⟩
  · omega
  · refine ⟨k1, ?_, k3, k4⟩
    by_cases c : r ≤ 65536
    · exact c
    · have : 65537 * 65537 ≤ r * r := Int.mul_le_mul (by omega) (by omega) (by omega) (by omega)
      omega
theorem root_sq {a : Int} (h1 : 0 ≤ a) (h2 : a ≤ 2147483648) : IsRoot (a * a) a := by
  have hs : a * a ≤ 2147483648 * 2147483648 := Int.mul_le_mul h2 h2 h1 (by omega)
  have hs0 : 0 ≤ a * a := Int.mul_nonneg h1 h1
  refine .inr ⟨hs0, by omega, h1, h2, Int.le_refl _, ?_⟩
  have : (a + 1) * (a + 1) = a * a + a + a + 1 := by rw [Int.add_mul, Int.mul_add]; omega
  omega
end Go.Proofs.Ytipfdildnnfmkaa.NumPlain

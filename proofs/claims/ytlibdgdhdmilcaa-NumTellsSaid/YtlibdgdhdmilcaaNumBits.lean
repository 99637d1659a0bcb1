/- Plain facts for the roots: a bit laid beside higher ones is added; one step of a root that is found bit by bit, from above. Nothing of the program. -/
import Derived.Laws.Bits64
import Derived.IntWalk
import Derived.Test.YtlibdgdhdmilcaaNumPlain
namespace Go.Proofs.Ytlibdgdhdmilcaa
open NumPlain
set_option linter.unusedVariables false

theorem bits_or_i64 (a b : Nat) (ha : a < 9223372036854775808) (hb : b < 9223372036854775808) :
    bits .or .i64 (a : Int) (b : Int) = ((a ||| b : Nat) : Int) := by
  have hx : a ||| b < 2 ^ 63 := Nat.or_lt_two_pow (by omega) (by omega)
  have h1 : (BitVec.ofInt 64 (a : Int)).toNat = a := by
    rw [BitVec.ofInt_natCast, BitVec.toNat_ofNat]; exact Nat.mod_eq_of_lt (by omega)
  have h2 : (BitVec.ofInt 64 (b : Int)).toNat = b := by
    rw [BitVec.ofInt_natCast, BitVec.toNat_ofNat]; exact Nat.mod_eq_of_lt (by omega)
  show IntKind.i64.wrap ((BitVec.ofInt 64 (a : Int) ||| BitVec.ofInt 64 (b : Int)).toNat : Int) = _
  rw [BitVec.toNat_or, h1, h2]
  exact IntWalk.i64_in _ (by omega)

/-- r is the root of n but for bits below 2^k; b is the next bit, or 0. -/
def Q (n r b : Int) : Prop := ∃ k m : Nat, k ≤ 32 ∧ b = ((2 ^ k / 2 : Nat) : Int) ∧ r = ((m * 2 ^ k : Nat) : Int) ∧ r * r ≤ n ∧ n < (r + ((2 ^ k : Nat) : Int)) * (r + ((2 ^ k : Nat) : Int))

theorem Q_start {n : Int} (h1 : 0 ≤ n) (h2 : n ≤ 4611686018427387904) : Q n 0 2147483648 :=
  ⟨32, 0, by omega, rfl, rfl, by omega, by omega⟩

theorem sq_bd {n r : Int} (h2 : n ≤ 4611686018427387904) (h : r * r ≤ n) : r ≤ 2147483648 := by
  by_cases c : r ≤ 2147483648
  · exact c
  · have : 2147483649 * 2147483649 ≤ r * r := Int.mul_le_mul (by omega) (by omega) (by omega) (by omega)
    omega

theorem Q_end {n r : Int} (h1 : 0 ≤ n) (h2 : n ≤ 4611686018427387904) (h : Q n r 0) : IsRoot n r := by
  obtain ⟨k, m, hk, hb, hr, h3, h4⟩ := h
  have hk0 : k = 0 := by
    by_cases c : k = 0
    · exact c
    · obtain ⟨j, rfl⟩ : ∃ j, k = j + 1 := ⟨k - 1, by omega⟩
      have := Nat.pow_pos (n := j) (show 0 < 2 by omega)
      omega
  subst hk0
  have hr0 : 0 ≤ r := by omega
  exact .inr ⟨h1, h2, hr0, sq_bd h2 h3, h3, by simpa using h4⟩

theorem Q_go {n r b : Int} (h1 : 0 ≤ n) (h2 : n ≤ 4611686018427387904) (h : Q n r b) (hb : 0 < b) :
    0 ≤ r ∧ r ≤ 2147483648 ∧ b ≤ 2147483648 ∧ bits .or .i64 r b = r + b ∧ (r + b ≤ n / (r + b) → Q n (r + b) (b / 2)) ∧ (n / (r + b) < r + b → Q n r (b / 2)) := by
  obtain ⟨k, m, hk, hb', hr, h3, h4⟩ := h
  obtain ⟨j, rfl⟩ : ∃ j, k = j + 1 := by
    refine ⟨k - 1, ?_⟩
    by_cases c : k = 0
    · subst c; simp at hb'; omega
    · omega
  have hr1 := sq_bd h2 h3
  have hc : 2 ^ j ≤ 2 ^ 31 := Nat.pow_le_pow_right (by omega) (by omega)
  have hor : m * 2 ^ (j + 1) ||| 2 ^ j = m * 2 ^ (j + 1) + 2 ^ j := by
    have := Nat.two_pow_add_eq_or_of_lt (i := j + 1) (b := 2 ^ j) (by rw [Nat.pow_succ]; have := Nat.pow_pos (n := j) (show 0 < 2 by omega); omega) m
    rw [Nat.mul_comm m, this]
  have e1 : 2 ^ (j + 1) / 2 = 2 ^ j := by omega
  have e2 : 2 ^ (j + 1) = 2 * 2 ^ j := by omega
  rw [e1] at hb'
  have hQ0 : ∀ x : Int, b / 2 = ((2 ^ j / 2 : Nat) : Int) := fun _ => by rw [hb']; omega
  have hor' : bits .or .i64 r b = r + b := by
    rw [hr, hb', bits_or_i64 _ _ (by omega) (by omega), hor]; omega
  have hx : 0 < r + b := by omega
  refine ⟨by omega, hr1, by omega, hor', fun hle => ?_, fun hlt => ?_⟩
  · refine ⟨j, 2 * m + 1, by omega, hQ0 0, ?_, ?_, ?_⟩
    · rw [hr, hb', e2, ← Int.natCast_add]
      congr 1
      rw [Nat.add_mul, Nat.mul_assoc 2 m, Nat.mul_left_comm 2 m]; omega
    · exact (Int.le_ediv_iff_mul_le hx).1 hle
    · have e3 : ((2 ^ (j + 1) : Nat) : Int) = b + b := by rw [hb', e2]; omega
      rw [e3] at h4
      rw [← hb']
      rw [← Int.add_assoc] at h4
      exact h4
  · refine ⟨j, 2 * m, by omega, hQ0 0, ?_, h3, ?_⟩
    · rw [hr, e2]
      congr 1
      rw [Nat.mul_assoc 2 m, Nat.mul_left_comm 2 m]
    · rw [← hb']
      exact (Int.ediv_lt_iff_lt_mul hx).1 hlt

/-- r is the root of n but for bits up to k. -/
def QR (n r k : Int) : Prop := 0 ≤ r ∧ r * r ≤ n ∧ n < (r + ((2 ^ (k + 1).toNat : Nat) : Int)) * (r + ((2 ^ (k + 1).toNat : Nat) : Int))
theorem QR_start {n : Int} (h1 : 0 ≤ n) (h2 : n ≤ 4611686018427387904) : QR n 0 31 := ⟨by omega, by omega, by show n < (0 + ((2 ^ 32 : Nat) : Int)) * (0 + ((2 ^ 32 : Nat) : Int)); omega⟩
theorem QR_end {n r : Int} (h1 : 0 ≤ n) (h2 : n ≤ 4611686018427387904) (h : QR n r (-1)) : IsRoot n r := by
  obtain ⟨g1, g2, g3⟩ := h
  exact .inr ⟨h1, h2, g1, sq_bd h2 g2, g2, by simpa using g3⟩
theorem QR_go {n r k : Int} (h2 : n ≤ 4611686018427387904) (h : QR n r k) (hk : 0 ≤ k) (hk2 : k ≤ 31) :
    ∃ c : Int, 1 ≤ c ∧ c ≤ 2147483648 ∧ 0 ≤ r ∧ r ≤ 2147483648 ∧ (2 : Int) ^ k.toNat = c ∧ ((r + c) * (r + c) ≤ n → QR n (r + c) (k - 1)) ∧ (n < (r + c) * (r + c) → QR n r (k - 1)) := by
  obtain ⟨g1, g2, g3⟩ := h
  obtain ⟨j, rfl⟩ := Int.eq_ofNat_of_zero_le hk
  have hc : 2 ^ j ≤ 2 ^ 31 := Nat.pow_le_pow_right (by omega) (by omega)
  have hc1 := Nat.pow_pos (n := j) (show 0 < 2 by omega)
  have e1 : ((j : Int) + 1).toNat = j + 1 := by omega
  have e2 : ((j : Int) - 1 + 1).toNat = j := by omega
  have e3 : 2 ^ (j + 1) = 2 * 2 ^ j := by omega
  rw [e1, e3] at g3
  refine ⟨((2 ^ j : Nat) : Int), by omega, by omega, g1, sq_bd h2 g2, ?_, fun h => ?_, fun h => ?_⟩
  · rw [Int.toNat_natCast, Int.natCast_pow]; rfl
  · refine ⟨by omega, h, ?_⟩
    rw [e2]
    have e5 : r + ((2 ^ j : Nat) : Int) + ((2 ^ j : Nat) : Int) = r + ((2 * 2 ^ j : Nat) : Int) := by omega
    rw [e5]; exact g3
  · refine ⟨g1, g2, ?_⟩
    rw [e2]; exact h
end Go.Proofs.Ytlibdgdhdmilcaa

/- In one text: Dig. -/
import Derived.Test.YtgopodgjnblgkaaDoorP02
import Derived.Lib.ItoaNum
/- A number's digits. -/
namespace Go.Proofs.YtgopodgjnblgkaaDoor
open Go.RowKit FsPlain
set_option linter.unusedVariables false
set_option linter.unusedSimpArgs false
set_option maxRecDepth 20000
namespace RnPlain
def digB (n : Nat) : List UInt8 := if n < 10 then [UInt8.ofNat (48 + n)] else digB (n / 10) ++ [UInt8.ofNat (48 + n % 10)]
termination_by n
decreasing_by omega
theorem digB_small {n : Nat} (h : n < 10) : digB n = [UInt8.ofNat (48 + n)] := by rw [digB, if_pos h]
theorem digB_big {n : Nat} (h : ¬ n < 10) : digB n = digB (n / 10) ++ [UInt8.ofNat (48 + n % 10)] := by rw [digB, if_neg h]
theorem digB_le : ∀ f n, n < f → (digB n).length ≤ n + 1
  | f + 1, n, h => by
    by_cases h10 : n < 10
    · rw [digB_small h10]; simp
    · rw [digB_big h10, List.length_append]
      have := digB_le f (n / 10) (by omega)
      simp only [List.length_singleton]
      omega
end RnPlain
open RnPlain
theorem dig_right : ∀ f n : Nat, n < f → (digB n).all letterB = true
  | f + 1, n, h => by
    have d : ∀ k : Nat, k < 10 → letterB (UInt8.ofNat (48 + k)) = true := by
      intro k hk
      have : (UInt8.ofNat (48 + k)).toNat = 48 + k := by simp; omega
      unfold letterB
      rw [this]
      simp only [decide_eq_true_eq]
      omega
    by_cases h10 : n < 10
    · rw [digB_small h10, List.all_cons, List.all_nil, d n h10]; rfl
    · rw [digB_big h10, List.all_append, dig_right f (n / 10) (by omega), List.all_cons, List.all_nil, d (n % 10) (by omega)]; rfl
theorem dig_few : ∀ n : Nat, n < 10000 → 1 ≤ (digB n).length ∧ (digB n).length ≤ 4 := by
  intro n hn
  by_cases h1 : n < 10
  · rw [digB_small h1]; simp
  · rw [digB_big h1]
    by_cases h2 : n / 10 < 10
    · rw [digB_small h2]; simp
    · rw [digB_big h2]
      by_cases h3 : n / 10 / 10 < 10
      · rw [digB_small h3]; simp
      · rw [digB_big h3, digB_small (n := n / 10 / 10 / 10) (by omega)]; simp
theorem dig_inj : ∀ (f a b : Nat), a < f → digB a = digB b → a = b
  | f + 1, a, b, h, e => by
    have d : ∀ x y : Nat, x < 10 → y < 10 → UInt8.ofNat (48 + x) = UInt8.ofNat (48 + y) → x = y := by
      intro x y hx hy h
      have := congrArg UInt8.toNat h
      simp at this
      omega
    have l1 : ∀ n : Nat, 1 ≤ (digB n).length := by
      intro n
      by_cases h : n < 10
      · rw [digB_small h]; simp
      · rw [digB_big h]; simp
    by_cases ha : a < 10
    · by_cases hb : b < 10
      · rw [digB_small ha, digB_small hb] at e
        exact d a b ha hb (by simpa using e)
      · rw [digB_small ha, digB_big hb] at e
        have h1 := congrArg List.length e
        have h2 := l1 (b / 10)
        rw [List.length_append, List.length_singleton, List.length_singleton] at h1
        omega
    · by_cases hb : b < 10
      · rw [digB_big ha, digB_small hb] at e
        have h1 := congrArg List.length e
        have h2 := l1 (a / 10)
        rw [List.length_append, List.length_singleton, List.length_singleton] at h1
        omega
      · rw [digB_big ha, digB_big hb] at e
        obtain ⟨e1, e2⟩ := List.append_inj' e rfl
        have h1 := dig_inj f (a / 10) (b / 10) (by omega) e1
        have h2 := d (a % 10) (b % 10) (by omega) (by omega) (by simpa using e2)
        omega
theorem dec_digB : ∀ (f n : Nat), n < f → Lib.decDigits n = digB n
  | f + 1, n, h => by
    by_cases h10 : n < 10
    · rw [digB_small h10, Lib.decDigits, dif_pos h10]
    · rw [digB_big h10, Lib.decDigits, dif_neg h10, dec_digB f (n / 10) (by omega)]
theorem itoa_digB {i : Int} (h : 0 ≤ i) : Lib.itoa i = digB i.toNat := by
  unfold Lib.itoa
  rw [if_neg (by omega)]
  exact dec_digB (i.toNat + 1) _ (by omega)
end Go.Proofs.YtgopodgjnblgkaaDoor

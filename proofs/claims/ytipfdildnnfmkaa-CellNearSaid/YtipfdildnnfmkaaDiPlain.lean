/- Plain facts on how far lists of numbers are from one another, without the model. -/
import Derived.Test.YtipfdildnnfmkaaBase
namespace Go.Proofs.Ytipfdildnnfmkaa
open Go.RowKit
set_option linter.unusedVariables false
set_option linter.unusedSimpArgs false
set_option maxRecDepth 20000
namespace DiPlain
def fitD (x : Int) : Bool := decide (-16777215 ≤ x ∧ x ≤ 16777215)
def rightV (v : List Int) : Bool := decide (1 ≤ v.length ∧ v.length ≤ 4096) && v.all fitD
def sq (x y : Int) : Int := (x - y) * (x - y)
def far : List Int → List Int → Int
  | x :: a, y :: b => sq x y + far a b
  | _, _ => 0
def squareB (a b : List Int) : Bool := rightV a && rightV b && decide (a.length = b.length)
def squareN (a b : List Int) : Int := if squareB a b = true then far a b else 0
def squareE (a b : List Int) : Int := if squareB a b = true then 0 else 1
def withinB (a b : List Int) (eps : Int) : Bool := squareB a b && decide (far a b ≤ eps)
theorem rightV_parts {v : List Int} (h : rightV v = true) : (1 ≤ v.length ∧ v.length ≤ 4096) ∧ ∀ x ∈ v, -16777215 ≤ x ∧ x ≤ 16777215 := by
  unfold rightV at h
  simp only [Bool.and_eq_true, decide_eq_true_eq, List.all_eq_true] at h
  refine ⟨h.1, fun x hx => ?_⟩
  have := h.2 x hx
  unfold fitD at this
  rwa [decide_eq_true_iff] at this
theorem squareB_parts {a b : List Int} (h : squareB a b = true) : rightV a = true ∧ rightV b = true ∧ a.length = b.length := by
  unfold squareB at h
  simp only [Bool.and_eq_true, decide_eq_true_eq] at h
  exact ⟨h.1.1, h.1.2, h.2⟩
theorem squareB_a {a b : List Int} (h : rightV a = false) : squareB a b = false := by unfold squareB; rw [h]; rfl
theorem squareB_b {a b : List Int} (h : rightV b = false) : squareB a b = false := by unfold squareB; rw [h, Bool.and_false]; rfl
theorem squareB_l {a b : List Int} (h : ¬ a.length = b.length) : squareB a b = false := by unfold squareB; rw [decide_eq_false h, Bool.and_false]
theorem squareB_yes {a b : List Int} (h1 : rightV a = true) (h2 : rightV b = true) (h3 : a.length = b.length) : squareB a b = true := by unfold squareB; rw [h1, h2, decide_eq_true h3]; rfl
theorem squareN_no {a b : List Int} (h : squareB a b = false) : squareN a b = 0 := by unfold squareN; rw [h]; rfl
theorem squareE_no {a b : List Int} (h : squareB a b = false) : squareE a b = 1 := by unfold squareE; rw [h]; rfl
theorem squareN_yes {a b : List Int} (h : squareB a b = true) : squareN a b = far a b := by unfold squareN; rw [if_pos h]
theorem squareE_yes {a b : List Int} (h : squareB a b = true) : squareE a b = 0 := by unfold squareE; rw [if_pos h]
theorem rightV_len {v : List Int} (h : ¬ (1 ≤ v.length ∧ v.length ≤ 4096)) : rightV v = false := by unfold rightV; rw [decide_eq_false h]; rfl
theorem rightV_fit {v : List Int} {x : Int} (h : x ∈ v) (hx : fitD x = false) : rightV v = false := by
  unfold rightV
  have : v.all fitD = false := by rw [List.all_eq_false]; exact ⟨x, h, by rw [hx]; simp⟩
  rw [this, Bool.and_false]
theorem rightV_yes {v : List Int} (h : 1 ≤ v.length ∧ v.length ≤ 4096) (h2 : v.all fitD = true) : rightV v = true := by unfold rightV; rw [decide_eq_true h, h2]; rfl

theorem self_nonneg (p : Int) : 0 ≤ p * p := by
  rcases Int.le_total 0 p with h | h
  · exact Int.mul_nonneg h h
  · exact Int.mul_nonneg_of_nonpos_of_nonpos h h
theorem sq_nonneg (x y : Int) : 0 ≤ sq x y := self_nonneg _
theorem sq_comm (x y : Int) : sq x y = sq y x := by
  unfold sq
  have e : x - y = -(y - x) := by omega
  rw [e, Int.neg_mul_neg]
theorem sq_zero {x y : Int} : sq x y = 0 ↔ x = y := by
  unfold sq
  constructor
  · intro h
    rcases Int.mul_eq_zero.1 h with h | h <;> omega
  · intro h; subst h; simp
theorem sq_move (x y t : Int) : sq (x + t) (y + t) = sq x y := by
  unfold sq
  have e : x + t - (y + t) = x - y := by omega
  rw [e]
theorem sq_three (x y z : Int) : sq x y ≤ 2 * (sq x z + sq z y) := by
  unfold sq
  obtain ⟨p, hp⟩ : ∃ p, p = x - z := ⟨_, rfl⟩
  obtain ⟨q, hq⟩ : ∃ q, q = z - y := ⟨_, rfl⟩
  have e : x - y = p + q := by omega
  rw [e, ← hp, ← hq]
  have h1 : (p + q) * (p + q) = p * p + p * q + (q * p + q * q) := by rw [Int.add_mul, Int.mul_add, Int.mul_add]
  have h2 : (p - q) * (p - q) = p * p - p * q - (q * p - q * q) := by rw [Int.sub_mul, Int.mul_sub, Int.mul_sub]
  have h3 := self_nonneg (p - q)
  rw [h2] at h3
  rw [h1]
  have h4 : q * p = p * q := Int.mul_comm q p
  rw [h4] at h3 ⊢
  generalize p * p = A at *
  generalize q * q = B at *
  generalize p * q = C at *
  omega
theorem sq_le {x y : Int} (hx : -16777215 ≤ x ∧ x ≤ 16777215) (hy : -16777215 ≤ y ∧ y ≤ 16777215) : sq x y ≤ 1125899772624900 := by
  unfold sq
  have h1 : -33554430 ≤ x - y ∧ x - y ≤ 33554430 := by omega
  generalize x - y = p at h1
  have h2 : p * p ≤ 33554430 * 33554430 := by
    rcases Int.le_total 0 p with h | h
    · exact Int.mul_le_mul h1.2 h1.2 h (by omega)
    · have h3 : -p * -p ≤ 33554430 * 33554430 := Int.mul_le_mul (by omega) (by omega) (by omega) (by omega)
      rwa [Int.neg_mul_neg] at h3
  omega
theorem far_nonneg : ∀ a b : List Int, 0 ≤ far a b
  | x :: a, y :: b => by have := sq_nonneg x y; have := far_nonneg a b; unfold far; omega
  | [], _ => by simp [far]
  | _ :: _, [] => by simp [far]
theorem far_comm : ∀ a b : List Int, far a b = far b a
  | x :: a, y :: b => by unfold far; rw [sq_comm x y, far_comm a b]
  | [], [] => rfl
  | [], _ :: _ => rfl
  | _ :: _, [] => rfl
theorem far_self : ∀ a : List Int, far a a = 0
  | [] => rfl
  | x :: a => by unfold far; rw [far_self a, sq_zero.2 rfl]; rfl
theorem far_zero : ∀ {a b : List Int}, a.length = b.length → (far a b = 0 ↔ a = b)
  | [], [], _ => by simp [far]
  | [], _ :: _, h => by simp at h
  | _ :: _, [], h => by simp at h
  | x :: a, y :: b, h => by
    have ih := far_zero (a := a) (b := b) (by simpa using h)
    have h1 := sq_nonneg x y
    have h2 := far_nonneg a b
    have e : far (x :: a) (y :: b) = sq x y + far a b := rfl
    rw [e]
    constructor
    · intro h0
      have h3 : sq x y = 0 := by omega
      have h4 : far a b = 0 := by omega
      rw [sq_zero.1 h3, ih.1 h4]
    · intro h0
      rw [List.cons.injEq] at h0
      rw [sq_zero.2 h0.1, ih.2 h0.2]; rfl
theorem far_move (t : Int) : ∀ a b : List Int, far (a.map (· + t)) (b.map (· + t)) = far a b
  | x :: a, y :: b => by simp only [List.map_cons, far]; rw [sq_move, far_move t a b]
  | [], _ => by simp [far]
  | _ :: _, [] => by simp [far]
theorem far_three : ∀ {a b c : List Int}, a.length = b.length → a.length = c.length → far a b ≤ 2 * (far a c + far c b)
  | [], [], [], _, _ => by simp [far]
  | [], _ :: _, _, h, _ => by simp at h
  | _ :: _, [], _, h, _ => by simp at h
  | _ :: _, _ :: _, [], _, h => by simp at h
  | [], [], _ :: _, _, h => by simp at h
  | x :: a, y :: b, z :: c, h, k => by
    have ih := far_three (a := a) (b := b) (c := c) (by simpa using h) (by simpa using k)
    have := sq_three x y z
    unfold far
    omega
theorem far_snoc : ∀ {a b : List Int} {x y : Int}, a.length = b.length → far (a ++ [x]) (b ++ [y]) = far a b + sq x y
  | [], [], x, y, _ => by simp [far]
  | [], _ :: _, _, _, h => by simp at h
  | _ :: _, [], _, _, h => by simp at h
  | u :: a, v :: b, x, y, h => by
    have ih := far_snoc (a := a) (b := b) (x := x) (y := y) (by simpa using h)
    simp only [List.cons_append, far]
    rw [ih, Int.add_assoc]
theorem far_le : ∀ {a b : List Int}, (∀ x ∈ a, -16777215 ≤ x ∧ x ≤ 16777215) → (∀ x ∈ b, -16777215 ≤ x ∧ x ≤ 16777215) → far a b ≤ 1125899772624900 * a.length
  | x :: a, y :: b, h, k => by
    have ih := far_le (a := a) (b := b) (fun z hz => h z (by simp [hz])) (fun z hz => k z (by simp [hz]))
    have := sq_le (h x (by simp)) (k y (by simp))
    simp only [far, List.length_cons]
    omega
  | [], _, _, _ => by simp [far]
  | x :: a, [], _, _ => by simp only [far, List.length_cons]; omega
/-- Up to a place, and one place on. -/
theorem far_take {a b : List Int} {j : Nat} {x y : Int} (h : a.length = b.length) (hx : a[j]? = some x) (hy : b[j]? = some y) : far (a.take (j + 1)) (b.take (j + 1)) = far (a.take j) (b.take j) + sq x y := by
  obtain ⟨h1, rfl⟩ := List.getElem?_eq_some_iff.1 hx
  obtain ⟨h2, rfl⟩ := List.getElem?_eq_some_iff.1 hy
  rw [List.take_succ_eq_append_getElem h1, List.take_succ_eq_append_getElem h2]
  exact far_snoc (by rw [List.length_take, List.length_take]; omega)
theorem far_take_le {a b : List Int} (h1 : rightV a = true) (h2 : rightV b = true) (j : Nat) : 0 ≤ far (a.take j) (b.take j) ∧ far (a.take j) (b.take j) ≤ 4611685468671590400 := by
  refine ⟨far_nonneg _ _, ?_⟩
  obtain ⟨l1, f1⟩ := rightV_parts h1
  obtain ⟨_, f2⟩ := rightV_parts h2
  have := far_le (a := a.take j) (b := b.take j) (fun x hx => f1 x (List.mem_of_mem_take hx)) (fun x hx => f2 x (List.mem_of_mem_take hx))
  rw [List.length_take] at this
  omega
theorem far_bound {a b : List Int} (h1 : rightV a = true) (h2 : rightV b = true) : 0 ≤ far a b ∧ far a b ≤ 4611685468671590400 := by
  have := far_take_le h1 h2 (a.length + b.length)
  rwa [List.take_of_length_le (by omega), List.take_of_length_le (by omega)] at this
end DiPlain
end Go.Proofs.Ytipfdildnnfmkaa

/- Plain facts of cell: cells, neighbours, the four ways. -/
import Derived.Test.YtipfdildnnfmkaaDiPlain
import Derived.Test.YtipfdildnnfmkaaNumPlain
namespace Go.Proofs.Ytipfdildnnfmkaa
open Go.RowKit DiPlain NumPlain
set_option linter.unusedVariables false
set_option linter.unusedSimpArgs false
set_option maxRecDepth 20000
namespace CePlain
def wideB (w : Int) : Bool := decide (1 ≤ w ∧ w ≤ 2147483648)
def ofB (v : List Int) (w : Int) : Bool := rightV v && wideB w
def ofX (v : List Int) (w : Int) : Int := if ofB v w = true then floorF (v.getD 0 0) w else 0
def ofY (v : List Int) (w : Int) : Int := if ofB v w = true ∧ 1 < v.length then floorF (v.getD 1 0) w else 0
def mayB (n : Int) : Bool := decide (-2147483648 < n ∧ n < 2147483647)
def stepX (i : Nat) : Int := match i with
  | 0 => 1
  | 1 => -1
  | 2 => 0
  | _ => 1
def stepY (i : Nat) : Int := match i with
  | 0 => 0
  | _ => 1
def nearB (a b : Int) : Bool := decide (a ≤ b + 1 ∧ b ≤ a + 1)
def besideB (px py qx qy : Int) : Bool := decide (¬ (px = qx ∧ py = qy)) && (nearB px qx && nearB py qy)
def lessB (px py qx qy : Int) : Bool := decide (px < qx ∨ (px = qx ∧ py < qy))
def fitsB (eps w : Int) : Bool := wideB w && decide ((0 ≤ eps ∧ eps ≤ 4611686018427387904) ∧ eps ≤ w * w)
theorem beside_iff {px py qx qy : Int} : besideB px py qx qy = true ↔ ¬ (px = qx ∧ py = qy) ∧ (px ≤ qx + 1 ∧ qx ≤ px + 1) ∧ (py ≤ qy + 1 ∧ qy ≤ py + 1) := by
  unfold besideB nearB
  rw [Bool.and_eq_true, Bool.and_eq_true, decide_eq_true_iff, decide_eq_true_iff, decide_eq_true_iff]
theorem sqw_le {d w : Int} (hw : 0 ≤ w) (h : d * d ≤ w * w) : -w ≤ d ∧ d ≤ w := by
  constructor
  · rcases Int.lt_or_le d (-w) with h1 | h1
    · have : (w + 1) * (w + 1) ≤ (-d) * (-d) := Int.mul_le_mul (by omega) (by omega) (by omega) (by omega)
      rw [Int.neg_mul_neg] at this
      have e : (w + 1) * (w + 1) = w * w + 2 * w + 1 := by rw [Int.add_mul, Int.mul_add]; omega
      omega
    · exact h1
  · rcases Int.lt_or_le w d with h1 | h1
    · have : (w + 1) * (w + 1) ≤ d * d := Int.mul_le_mul (by omega) (by omega) (by omega) (by omega)
      have e : (w + 1) * (w + 1) = w * w + 2 * w + 1 := by rw [Int.add_mul, Int.mul_add]; omega
      omega
    · exact h1
theorem floor_near {x y w : Int} (hw : 1 ≤ w) (h : sq x y ≤ w * w) : floorF x w ≤ floorF y w + 1 ∧ floorF y w ≤ floorF x w + 1 := by
  obtain ⟨h1, h2⟩ := sqw_le (by omega) (show (x - y) * (x - y) ≤ w * w from h)
  rw [floorF_pos hw, floorF_pos hw]
  have key : ∀ a b : Int, a ≤ b + w → a / w ≤ b / w + 1 := by
    intro a b hab
    have e1 : a / w ≤ (b + w) / w := Int.ediv_le_ediv (by omega) hab
    have e2 : (b + w) / w = b / w + 1 := by rw [Int.add_ediv_of_dvd_right ⟨1, by omega⟩, Int.ediv_self (by omega)]
    omega
  exact ⟨key x y (by omega), key y x (by omega)⟩
theorem far_le1 {x y : Int} {a b : List Int} : sq x y ≤ far (x :: a) (y :: b) := by
  have := far_nonneg a b
  show sq x y ≤ sq x y + far a b
  omega
theorem far_le2 {x y x' y' : Int} {a b : List Int} : sq x' y' ≤ far (x :: x' :: a) (y :: y' :: b) := by
  have h1 := far_nonneg a b
  have h2 := sq_nonneg x y
  show sq x' y' ≤ sq x y + (sq x' y' + far a b)
  omega
/-- Who is near is in one cell, or in neighbours. -/
theorem cell_near {a b : List Int} {w : Int} (ha : ofB a w = true) (hb : ofB b w = true) (hl : a.length = b.length) (h : far a b ≤ w * w) : (ofX a w = ofX b w ∧ ofY a w = ofY b w) ∨ besideB (ofX a w) (ofY a w) (ofX b w) (ofY b w) = true := by
  have hw : 1 ≤ w := by
    unfold ofB wideB at ha
    rw [Bool.and_eq_true, decide_eq_true_iff] at ha
    exact ha.2.1
  have hx : ofX a w ≤ ofX b w + 1 ∧ ofX b w ≤ ofX a w + 1 := by
    unfold ofX
    rw [if_pos ha, if_pos hb]
    match a, b, hl with
    | [], [], _ => exact ⟨by omega, by omega⟩
    | x :: a, y :: b, _ => exact floor_near hw (Int.le_trans far_le1 h)
  have hy : ofY a w ≤ ofY b w + 1 ∧ ofY b w ≤ ofY a w + 1 := by
    unfold ofY
    by_cases h2 : 1 < a.length
    · rw [if_pos ⟨ha, h2⟩, if_pos ⟨hb, by omega⟩]
      match a, b, hl, h2 with
      | x :: x' :: a, y :: y' :: b, _, _ => exact floor_near hw (Int.le_trans far_le2 h)
    · rw [if_neg (fun k => h2 k.2), if_neg (fun k => h2 (by rw [hl]; exact k.2))]
      exact ⟨by omega, by omega⟩
  by_cases e : ofX a w = ofX b w ∧ ofY a w = ofY b w
  · exact .inl e
  · exact .inr (beside_iff.2 ⟨e, hx, hy⟩)
/-- By how many of the first ways one comes to the other. -/
def cntW (dx dy : Int) : Nat → Int
  | 0 => 0
  | i + 1 => cntW dx dy i + (if dx = stepX i ∧ dy = stepY i then 1 else 0) + (if dx = -stepX i ∧ dy = -stepY i then 1 else 0)
theorem cnt_four (dx dy : Int) : cntW dx dy 4 = if ¬ (dx = 0 ∧ dy = 0) ∧ (dx ≤ 1 ∧ -1 ≤ dx) ∧ (dy ≤ 1 ∧ -1 ≤ dy) then 1 else 0 := by
  by_cases h : (dx ≤ 1 ∧ -1 ≤ dx) ∧ (dy ≤ 1 ∧ -1 ≤ dy)
  · obtain ⟨⟨h1, h2⟩, h3, h4⟩ := h
    have hx : dx = -1 ∨ dx = 0 ∨ dx = 1 := by omega
    have hy : dy = -1 ∨ dy = 0 ∨ dy = 1 := by omega
    rcases hx with rfl | rfl | rfl <;> rcases hy with rfl | rfl | rfl <;> decide
  · rw [if_neg (fun k => h k.2)]
    have key : ∀ i, i < 4 → (stepX i ≤ 1 ∧ -1 ≤ stepX i) ∧ (stepY i ≤ 1 ∧ -1 ≤ stepY i) := by decide
    have z : ∀ i, i < 4 → (if dx = stepX i ∧ dy = stepY i then (1 : Int) else 0) = 0 ∧ (if dx = -stepX i ∧ dy = -stepY i then (1 : Int) else 0) = 0 := by
      intro i hi
      have k := key i hi
      exact ⟨if_neg (fun e => h (by omega)), if_neg (fun e => h (by omega))⟩
    unfold cntW cntW cntW cntW cntW
    rw [(z 0 (by decide)).1, (z 0 (by decide)).2, (z 1 (by decide)).1, (z 1 (by decide)).2, (z 2 (by decide)).1, (z 2 (by decide)).2, (z 3 (by decide)).1, (z 3 (by decide)).2]
    rfl
end CePlain
end Go.Proofs.Ytipfdildnnfmkaa

/- For the laws of the four ways: plain facts, blocks. -/
import Derived.Test.YtipfdildnnfmkaaCeRef4
import Derived.Test.YtipfdildnnfmkaaCeLaw
import Derived.Deep.RegionHeld3
import Derived.Deep.DeepCutAuto
namespace Go.Proofs.Ytipfdildnnfmkaa
open Go.RowKit DiPlain NumPlain CePlain Flt
set_option linter.unusedVariables false
set_option linter.unusedSimpArgs false
set_option maxRecDepth 20000
namespace CePlain
theorem half_bd {x : Int} (h : -2147483648 ≤ x ∧ x ≤ 2147483647) : -1073741824 ≤ x.tdiv 2 ∧ x.tdiv 2 ≤ 1073741824 := by
  rcases Int.lt_or_le x 0 with k | k
  · obtain ⟨y, rfl⟩ : ∃ y, x = -y := ⟨-x, by omega⟩
    rw [Int.neg_tdiv, Int.tdiv_eq_ediv_of_nonneg (by omega)]
    omega
  · rw [Int.tdiv_eq_ediv_of_nonneg k]
    omega
theorem rem_bd (x : Int) : -3 ≤ x.tmod 4 ∧ x.tmod 4 ≤ 3 := by
  rcases Int.lt_or_le x 0 with k | k
  · obtain ⟨y, rfl⟩ : ∃ y, x = -y := ⟨-x, by omega⟩
    rw [Int.neg_tmod, Int.tmod_eq_emod_of_nonneg (by omega)]
    omega
  · rw [Int.tmod_eq_emod_of_nonneg k]
    omega
/-- The words of the i-th way. -/
def wayA : Nat → Nat
  | 0 => 4607182418800017408
  | 1 => 13830554455654793216
  | 2 => 0
  | _ => 4607182418800017408
def wayB : Nat → Nat
  | 0 => 0
  | _ => 4607182418800017408
theorem way_rep {j : Nat} (h : j < 4) : Rep (wayA j) (stepX j) ∧ Rep (wayB j) (stepY j) := by
  match j, h with
  | 0, _ => exact ⟨rep_one, rep_zero⟩
  | 1, _ => exact ⟨rep_neg, rep_one⟩
  | 2, _ => exact ⟨rep_zero, rep_one⟩
  | 3, _ => exact ⟨rep_one, rep_one⟩
theorem step_led {j : Nat} (h : j < 4) : ledB (stepX j) (stepY j) = true := by
  match j, h with
  | 0, _ => decide
  | 1, _ => decide
  | 2, _ => decide
  | 3, _ => decide
theorem step_bd (j : Nat) : (-1 ≤ stepX j ∧ stepX j ≤ 1) ∧ (0 ≤ stepY j ∧ stepY j ≤ 1) := by
  match j with
  | 0 => decide
  | 1 => decide
  | 2 => decide
  | n + 3 => exact ⟨⟨by show (-1 : Int) ≤ 1; omega, by show (1 : Int) ≤ 1; omega⟩, by show (0 : Int) ≤ 1; omega, by show (1 : Int) ≤ 1; omega⟩
theorem may_in {n : Int} (h : -2147483648 < n ∧ n < 2147483647) : mayB n = true := decide_eq_true h
theorem go_step {px py : Int} {j : Nat} (hj : j < 4) (h1 : -2147483648 < px ∧ px < 2147483647) (h2 : -2147483648 < py ∧ py < 2147483647) : goB px py (stepX j) (stepY j) = true := by
  unfold goB; rw [may_in h1, may_in h2, step_led hj]; rfl
theorem cntW_bd (dx dy : Int) : ∀ j, 0 ≤ cntW dx dy j ∧ cntW dx dy j ≤ 2 * (j : Int)
  | 0 => by unfold cntW; omega
  | j + 1 => by
    have h := cntW_bd dx dy j
    unfold cntW
    split <;> split <;> omega
theorem one_same {p q : Prop} [Decidable p] [Decidable q] (h : p ↔ q) : (if p then (1 : Int) else 0) = if q then 1 else 0 := by
  by_cases k : p
  · rw [if_pos k, if_pos (h.1 k)]
  · rw [if_neg k, if_neg (fun e => k (h.2 e))]
theorem cnt_step (px py qx qy : Int) (j : Nat) : cntW (qx - px) (qy - py) (j + 1) = cntW (qx - px) (qy - py) j + (if px + stepX j = qx ∧ py + stepY j = qy then 1 else 0) + (if qx + stepX j = px ∧ qy + stepY j = py then 1 else 0) := by
  show cntW (qx - px) (qy - py) j + (if qx - px = stepX j ∧ qy - py = stepY j then 1 else 0) + (if qx - px = -stepX j ∧ qy - py = -stepY j then 1 else 0) = _
  rw [one_same (show qx - px = stepX j ∧ qy - py = stepY j ↔ px + stepX j = qx ∧ py + stepY j = qy by omega), one_same (show qx - px = -stepX j ∧ qy - py = -stepY j ↔ qx + stepX j = px ∧ qy + stepY j = py by omega)]
theorem cnt_beside (px py qx qy : Int) : cntW (qx - px) (qy - py) 4 = if besideB px py qx qy = true then 1 else 0 := by
  rw [cnt_four, one_same (show (¬ (qx - px = 0 ∧ qy - py = 0) ∧ (qx - px ≤ 1 ∧ -1 ≤ qx - px) ∧ qy - py ≤ 1 ∧ -1 ≤ qy - py) ↔ besideB px py qx qy = true by rw [beside_iff]; omega)]
theorem beside_back (px py qx qy : Int) : besideB qx qy px py = besideB px py qx qy := by
  rw [Bool.eq_iff_iff, beside_iff, beside_iff]; omega
theorem less_other {px py qx qy : Int} (h : besideB px py qx qy = true) : (lessB px py qx qy != lessB qx qy px py) = true := by
  rw [beside_iff] at h
  unfold lessB
  by_cases k : px < qx ∨ (px = qx ∧ py < qy)
  · rw [decide_eq_true k, decide_eq_false (by omega)]; rfl
  · rw [decide_eq_false k, decide_eq_true (by omega)]; rfl
end CePlain
def ways4 : Array Value := #[.complex .f64 4607182418800017408 0, .complex .f64 13830554455654793216 4607182418800017408, .complex .f64 0 4607182418800017408, .complex .f64 4607182418800017408 4607182418800017408]
theorem ways4_at {j : Nat} (h : j < 4) : ways4[j]? = some (.complex .f64 (wayA j) (wayB j)) := by
  match j, h with
  | 0, _ => rfl
  | 1, _ => rfl
  | 2, _ => rfl
  | 3, _ => rfl
theorem way_cell {u : World} {z j : Nat} (h : u.heap[z]? = some (.cells ways4 33 (0, 0))) (hj : j < 4) : u.cell? ⟨z, j, none⟩ = some (.complex .f64 (wayA j) (wayB j)) := by
  rw [cells_at h]; exact ways4_at hj
/-- A place lies in a block of its own at vx. -/
def PCut (W : World) (x y : Int) (r : Bool) (vx vb : Value) (w : World) : Prop := ∃ p, vx = .pointer (some ⟨p, 0, none⟩) ∧ vb = .bool r ∧ w.heap[p]? = some (.cells #[.int .i64 x, .int .i64 y] 24 (0, 0)) ∧ Gr W w
theorem pl_zero23 {u w : World} (g : Gr (u.alloc (.cells #[.int .i64 0, .int .i64 0] 24)) w) : w.heap[u.heap.size]? = some (.cells #[.int .i64 0, .int .i64 0] 24 (0, 0)) := (Below.block g _ (by simp)).trans (heap_alloc_new u _)
theorem pl_zero23d {u w : World} (g : Gr (u.alloc (.cells #[.int .i64 0, .int .i64 0] 24)).drew w) : w.heap[u.heap.size]? = some (.cells #[.int .i64 0, .int .i64 0] 24 (0, 0)) := pl_zero23 (Gr.ofDrew g)
theorem grs23 {a b : World} {p i : Nat} {v : Value} (g : Gr a b) (h : a.heap.size ≤ p) : Gr a (b.setCell ⟨p, i, none⟩ v) := Below.setCell g h v
theorem grd23 {a b : World} (g : Gr a b) : Gr a b.drew := g.drew
theorem gra23 {a b : World} {o : Obj} (g : Gr a b) : Gr a (b.alloc o) := g.trans (gr23 b o)
theorem pcut_new {W t : World} {x y : Int} {r : Bool} (g : Gr W t) : PCut W x y r (.pointer (some ⟨t.heap.size, 0, none⟩)) (.bool r) (t.alloc (.cells #[.int .i64 x, .int .i64 y] 24)) := ⟨_, rfl, rfl, heap_alloc_new t _, g.trans (gr23 t _)⟩
theorem pcut_set {W t : World} {x y : Int} {r : Bool} {q : Nat} (g : Gr W t) (hq : W.heap.size ≤ q) (h : t.heap[q]? = some (.cells #[.int .i64 0, .int .i64 0] 24 (0, 0))) : PCut W x y r (.pointer (some ⟨q, 0, none⟩)) (.bool r) ((t.setCell ⟨q, 0, none⟩ (.int .i64 x)).setCell ⟨q, 1, none⟩ (.int .i64 y)) :=
  ⟨q, rfl, rfl, pl_store h _ _, pl_set_gr g hq _ _⟩
end Go.Proofs.Ytipfdildnnfmkaa

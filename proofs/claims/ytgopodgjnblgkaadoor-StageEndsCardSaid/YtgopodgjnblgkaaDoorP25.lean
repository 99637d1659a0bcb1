/- In one text: MnRef4, OctPut, OctPut2. -/
import Derived.Test.YtgopodgjnblgkaaDoorP24
import Derived.Test.YtgopodgjnblgkaaDoorP00
import Derived.Test.YtgopodgjnblgkaaDoorP05
import Derived.WalkKit
import Derived.ProofKit
import Derived.Below
import Derived.Handy
import Derived.WalkLawsBesides
import Derived.Outline
import Derived.Test.YtgopodgjnblgkaaDoorP13
/- The document's answers of layer 19: Same. -/
namespace Go.Proofs.YtgopodgjnblgkaaDoor
open Go.RowKit FsPlain MnPlain
set_option linter.unusedVariables false
set_option linter.unusedSimpArgs false
set_option maxRecDepth 20000
namespace MnPlain
def flEq (x y : Fl) : Bool := decide (x.name = y.name) && (decide (x.size = y.size) && (decide (x.count = y.count) && decide (x.sum = y.sum)))
theorem flEq_iff {x y : Fl} : flEq x y = true ↔ x = y := by
  obtain ⟨a, b, c, d⟩ := x
  obtain ⟨a2, b2, c2, d2⟩ := y
  simp [flEq]
def flsEq : List Fl → List Fl → Bool
  | [], [] => true
  | x :: l, y :: m => flEq x y && flsEq l m
  | _, _ => false
theorem flsEq_iff : ∀ {l m : List Fl}, flsEq l m = true ↔ l = m
  | [], [] => by simp [flsEq]
  | [], y :: m => by simp [flsEq]
  | x :: l, [] => by simp [flsEq]
  | x :: l, y :: m => by
    show (flEq x y && flsEq l m) = true ↔ _
    rw [Bool.and_eq_true, flEq_iff, flsEq_iff, List.cons.injEq]
theorem flsEq_len {l m : List Fl} (h : l.length ≠ m.length) : flsEq l m = false := by
  cases e : flsEq l m
  · rfl
  · rw [flsEq_iff.1 e] at h
    exact absurd rfl h
theorem flsEq_step {l m : List Fl} {i : Nat} (h1 : i < l.length) (h2 : i < m.length) : flsEq (l.drop i) (m.drop i) = (flEq l[i] m[i] && flsEq (l.drop (i + 1)) (m.drop (i + 1))) := by
  rw [List.drop_eq_getElem_cons h1, List.drop_eq_getElem_cons h2]
  rfl
def mnEq (x y : Mn) : Bool := decide (x.stage = y.stage) && (decide (x.pass = y.pass) && flsEq x.files y.files)
theorem mnEq_iff {x y : Mn} : mnEq x y = true ↔ x = y := by
  obtain ⟨a, b, c⟩ := x
  obtain ⟨a2, b2, c2⟩ := y
  simp [mnEq, flsEq_iff]
end MnPlain
def flC (x : Fl) : Value := .agg #[.string x.name, .int .i64 x.size, .int .i64 x.count, .int .u32 x.sum]
theorem fl_equal (x y : Fl) (w : World) : (Op.equalIn 10000 43 (.agg #[.string x.name, .int .i64 x.size, .int .i64 x.count, .int .u32 x.sum]) (.agg #[.string y.name, .int .i64 y.size, .int .i64 y.count, .int .u32 y.sum])).run Tryd.prog w = .ok (flEq x y) w := by
  rw [run_equalIn_agg w 9999 _ _ _ (by kernel_rfl) (by kernel_rfl)]
  obtain ⟨a, b, c, d⟩ := x
  obtain ⟨a2, b2, c2, d2⟩ := y
  unfold flEq
  by_cases h1 : a = a2
  · by_cases h2 : b = b2
    · by_cases h3 : c = c2
      · by_cases h4 : d = d2 <;> simp [go_sem, h1, h2, h3, h4]
      · simp [go_sem, h1, h2, h3]
    · simp [go_sem, h1, h2]
  · have e : (a.toList == a2.toList) = false := by
      rw [beq_eq_false_iff_ne]
      exact fun k => h1 (ByteArray.ext (Array.toList_inj.1 (by rw [← Lib.toList_data, ← Lib.toList_data, k])))
    simp [go_sem, h1, e]
theorem fl_neq (x y : Fl) (w : World) : (binOp .neq 43 (.agg #[.string x.name, .int .i64 x.size, .int .i64 x.count, .int .u32 x.sum]) (.agg #[.string y.name, .int .i64 y.size, .int .i64 y.count, .int .u32 y.sum])).run Tryd.prog w = .ok (.bool (!flEq x y)) w := by
  rw [run_neq_struct, fl_equal]
  simp
/-- At the head of a round. -/
def SmAt (l m : List Fl) (w1 : World) (v : Value) (wr : World) : Prop := ∃ i : Nat, i ≤ l.length ∧ v = .int .i64 (i : Int) ∧ flsEq l m = flsEq (l.drop i) (m.drop i) ∧ Gr w1 wr
end Go.Proofs.YtgopodgjnblgkaaDoor
/- Contracts of layer octet's functions that make bytes, and of the document's answers to them, each by a walk of its text. -/
namespace Go.Proofs.YtgopodgjnblgkaaDoor
open Go.RowKit OctPlain
set_option linter.unusedVariables false
set_option linter.unusedSimpArgs false
set_option maxRecDepth 20000
theorem ret_b {a b : Bool} (h : a = b) : Ending.returned (.bool a) = .returned (.bool b) := by rw [h]
theorem b_of {a : Bool} {p : Prop} [Decidable p] (h : a = true ↔ p) : a = decide p := by
  cases a <;> simp_all
end Go.Proofs.YtgopodgjnblgkaaDoor
/- Contracts of Put and PutCoord, and of the document's answers to them. -/
namespace Go.Proofs.YtgopodgjnblgkaaDoor
open Go.RowKit OctPlain
set_option linter.unusedVariables false
set_option linter.unusedSimpArgs false
set_option maxRecDepth 20000
def b1 (b : UInt8) : ByteArray := bs [b]
theorem conv1 (u : World) (x : Int) (h0 : 0 ≤ x) (h1 : x < 256) :
    (convert 56 9 (.slice (some ⟨u.heap.size, 0, none⟩) 1 1)).run Tryd.prog (u.alloc (.cells #[Value.int IntKind.u8 x] 5)) = .ok (.string (bs [UInt8.ofNat x.toNat])) (u.alloc (.cells #[Value.int IntKind.u8 x] 5)) := by
  refine conv_list _ _ _ _ rfl ?_
  intro j y hy
  obtain rfl : j = 0 := by
    have := (List.getElem?_eq_some_iff.1 hy).1
    simpa using this
  simp at hy
  subst hy
  show World.cell? _ ⟨u.heap.size, 0 + 0, none⟩ = _
  rw [World.cell?_alloc_mark]
  simp
  omega

end Go.Proofs.YtgopodgjnblgkaaDoor

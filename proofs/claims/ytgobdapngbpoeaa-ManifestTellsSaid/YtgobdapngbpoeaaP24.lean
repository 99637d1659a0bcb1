/- In one text: OctBits. -/
import Derived.Test.YtgobdapngbpoeaaP01
import Derived.Laws.Bits64
import Derived.IntWalk
/- Plain facts: a byte laid behind a number whose lowest byte is none is added; numbers that wrap round. -/
namespace Go.Proofs.Ytgobdapngbpoeaa
open Go.RowKit OctPlain
set_option linter.unusedVariables false

theorem or_step (N y : Nat) (hN : N < 72057594037927936) (hy : y < 256) :
    bits .or .i64 (wrap64 (wrap64 (N : Int) * 256)) (wrap64 (y : Int)) = wrap64 ((N * 256 + y : Nat) : Int) := by
  have h1 : (BitVec.ofInt 64 (wrap64 (wrap64 (N : Int) * 256))).toNat = 2 ^ 8 * N := by
    rw [BitVec.toNat_ofInt]; unfold wrap64; omega
  have h2 : (BitVec.ofInt 64 (wrap64 (y : Int))).toNat = y := by
    rw [BitVec.toNat_ofInt]; unfold wrap64; omega
  show IntKind.i64.wrap ((BitVec.ofInt 64 (wrap64 (wrap64 (N : Int) * 256)) ||| BitVec.ofInt 64 (wrap64 (y : Int))).toNat : Int) = _
  rw [BitVec.toNat_or, h1, h2, ← Nat.two_pow_add_eq_or_of_lt hy]
  have e : 2 ^ 8 * N + y = N * 256 + y := by omega
  rw [e]
  simp only [IntKind.wrap_i64, wrap64]

theorem or_first (y : Nat) (hy : y < 256) : bits .or .i64 0 (wrap64 (y : Int)) = wrap64 (y : Int) := by
  have h := or_step 0 y (by omega) hy
  have e : wrap64 (wrap64 ((0 : Nat) : Int) * 256) = 0 := by simp [wrap64]
  rw [e] at h
  simpa using h

/-- Eight bytes, laid behind each other one by one. -/
theorem chain8 {y0 y1 y2 y3 y4 y5 y6 y7 : UInt8} {v1 v2 v3 v4 v5 v6 v7 v8 : Int}
    (o1 : bits .or .i64 0 (wrap64 (y0.toNat : Int)) = v1)
    (o2 : bits .or .i64 (wrap64 (v1 * 256)) (wrap64 (y1.toNat : Int)) = v2)
    (o3 : bits .or .i64 (wrap64 (v2 * 256)) (wrap64 (y2.toNat : Int)) = v3)
    (o4 : bits .or .i64 (wrap64 (v3 * 256)) (wrap64 (y3.toNat : Int)) = v4)
    (o5 : bits .or .i64 (wrap64 (v4 * 256)) (wrap64 (y4.toNat : Int)) = v5)
    (o6 : bits .or .i64 (wrap64 (v5 * 256)) (wrap64 (y5.toNat : Int)) = v6)
    (o7 : bits .or .i64 (wrap64 (v6 * 256)) (wrap64 (y6.toNat : Int)) = v7)
    (o8 : bits .or .i64 (wrap64 (v7 * 256)) (wrap64 (y7.toNat : Int)) = v8) :
    v8 = wrap64 (num [y0, y1, y2, y3, y4, y5, y6, y7] : Int) := by
  have b0 := y0.toNat_lt; have b1 := y1.toNat_lt; have b2 := y2.toNat_lt; have b3 := y3.toNat_lt
  have b4 := y4.toNat_lt; have b5 := y5.toNat_lt; have b6 := y6.toNat_lt; have b7 := y7.toNat_lt
  rw [or_first _ (by omega)] at o1; subst o1
  rw [or_step _ _ (by omega) (by omega)] at o2; subst o2
  rw [or_step _ _ (by omega) (by omega)] at o3; subst o3
  rw [or_step _ _ (by omega) (by omega)] at o4; subst o4
  rw [or_step _ _ (by omega) (by omega)] at o5; subst o5
  rw [or_step _ _ (by omega) (by omega)] at o6; subst o6
  rw [or_step _ _ (by omega) (by omega)] at o7; subst o7
  rw [or_step _ _ (by omega) (by omega)] at o8; subst o8
  simp only [num, List.foldl, Nat.zero_mul, Nat.zero_add]

theorem num_zeros (l : List UInt8) : ∀ k, num (List.replicate k 0 ++ l) = num l := by
  intro k
  induction k with
  | zero => simp
  | succ k ih => rw [List.replicate_succ, List.cons_append, num_cons, ih]; simp

/-- Eight bytes that begin with none. -/
theorem pad8 (xs : List UInt8) (k : Nat) (hk : k ≤ 8) (hl : xs.length = k) :
    ∃ y0 y1 y2 y3 y4 y5 y6 y7 : UInt8, List.replicate (8 - k) 0 ++ xs = [y0, y1, y2, y3, y4, y5, y6, y7] ∧ num [y0, y1, y2, y3, y4, y5, y6, y7] = num xs := by
  have h8 : (List.replicate (8 - k) (0 : UInt8) ++ xs).length = 8 := by simp; omega
  have hn := num_zeros xs (8 - k)
  match h : List.replicate (8 - k) (0 : UInt8) ++ xs, h8 with
  | [a, b, c, d, e, f, g, i], _ => exact ⟨a, b, c, d, e, f, g, i, rfl, by rw [← h]; exact hn⟩
end Go.Proofs.Ytgobdapngbpoeaa

/- In one text: OctPlain2. -/
import Derived.Test.YtgopodgjnblgkaaDoorP05
/- Plain facts on the number of some bytes of a text. -/
namespace Go.Proofs.YtgopodgjnblgkaaDoor
namespace OctPlain
theorem cutL_take (s : ByteArray) (a k j : Nat) (h : a + k ≤ s.size) (hj : j < k) : (cutL s a k).take (j + 1) = (cutL s a k).take j ++ [s[a + j]'(by omega)] := by
  have hl := cutL_length s a k h
  rw [List.take_succ_eq_append_getElem (by omega)]
  congr 2
  simp only [cutL, List.getElem_take, List.getElem_drop, Array.getElem_toList]
  rfl

theorem num_take_le (l : List UInt8) (j : Nat) (h : j < l.length) : num (l.take j) * 256 ≤ num l := by
  have h1 := num_app (l.take j) (l.drop j)
  rw [List.take_append_drop, List.length_drop] at h1
  have h2 : 256 ^ 1 ≤ 256 ^ (l.length - j) := Nat.pow_le_pow_right (by omega) (by omega)
  have h3 := Nat.mul_le_mul_left (num (l.take j)) h2
  omega

theorem getB_no {s : ByteArray} {a k : Int} (h : ¬ ((1 ≤ k ∧ k ≤ 8) ∧ 0 ≤ a ∧ a + k ≤ s.size)) : getB s a k = false := by
  unfold getB
  rw [decide_eq_false_iff_not]
  intro hh; exact h ⟨hh.1, hh.2.1, hh.2.2.1⟩
theorem getN_no {s : ByteArray} {a k : Int} (h : getB s a k = false) : getN s a k = 0 := by
  unfold getN; rw [h]; rfl
theorem getB_big {s : ByteArray} {p k : Nat} (h : 9223372036854775808 ≤ num (cutL s p k)) : getB s p k = false := by
  unfold getB
  rw [decide_eq_false_iff_not, Int.toNat_natCast, Int.toNat_natCast]
  omega
theorem getB_yes {s : ByteArray} {p k : Nat} (hk : 1 ≤ k ∧ k ≤ 8) (hp : p + k ≤ s.size) (h : num (cutL s p k) < 9223372036854775808) : getB s p k = true := by
  unfold getB
  rw [decide_eq_true_iff, Int.toNat_natCast, Int.toNat_natCast]
  omega
theorem getN_yes {s : ByteArray} {p k : Nat} (h : getB s p k = true) : getN s p k = num (cutL s p k) := by
  unfold getN; rw [if_pos h, Int.toNat_natCast, Int.toNat_natCast]

end OctPlain
end Go.Proofs.YtgopodgjnblgkaaDoor

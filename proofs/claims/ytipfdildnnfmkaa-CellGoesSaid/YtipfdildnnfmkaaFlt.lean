/- Whole numbers as floats: what a word stands for; sums, order, conversions of such. -/
import Derived.WalkLawsBesides
namespace Go.Proofs.Ytipfdildnnfmkaa
set_option linter.unusedVariables false
set_option linter.unusedSimpArgs false
set_option maxRecDepth 20000
namespace Flt
def sg (s : Bool) (m : Int) : Int := if s = true then -m else m
/-- The word stands for the whole number n. -/
def Rep (b : Nat) (n : Int) : Prop := ∃ (s : Bool) (m k : Nat), Ieee.double.read b = .number s m (-(k : Int)) ∧ n * 2 ^ k = sg s (m : Int)
theorem pow_pos' (k : Nat) : (0 : Int) < 2 ^ k := Int.pow_pos (by omega)
theorem signed_eq (s : Bool) (m u : Nat) : Ieee.signed s m u = sg s ((m : Int) * 2 ^ u) := by
  unfold Ieee.signed sg
  rw [Nat.shiftLeft_eq]
  cases s <;> simp
theorem sg_mul (s : Bool) (m c : Int) : sg s (m * c) = sg s m * c := by
  unfold sg
  cases s
  · rfl
  · simp [Int.neg_mul]
theorem sg_abs {s : Bool} {m : Nat} {n : Int} {k : Nat} (h : n * 2 ^ k = sg s (m : Int)) : m = n.natAbs * 2 ^ k ∧ n = sg s (n.natAbs : Int) := by
  have hp := pow_pos' k
  have e : (n * 2 ^ k).natAbs = n.natAbs * 2 ^ k := by
    rw [Int.natAbs_mul, Int.natAbs_pow]; rfl
  have e2 : (n * 2 ^ k).natAbs = m := by
    rw [h]; unfold sg; cases s <;> simp
  refine ⟨by rw [← e, e2], ?_⟩
  unfold sg at h ⊢
  cases s
  · have h' : n * 2 ^ k = (m : Int) := by simpa using h
    have : 0 ≤ n := by
      rcases Int.lt_or_le n 0 with hn | hn
      · have := Int.mul_neg_of_neg_of_pos hn hp
        omega
      · exact hn
    simp; omega
  · have h' : n * 2 ^ k = -(m : Int) := by simpa using h
    have : n ≤ 0 := by
      rcases Int.lt_or_le 0 n with hn | hn
      · have := Int.mul_pos hn hp
        omega
      · exact hn
    simp; omega
theorem cut_exact (w : Ieee.Toward) (s : Bool) (q d : Nat) (hd : d ≤ (q * 2 ^ d).log2 + 2) (hw : w = .even ∨ w = .zero) : w.cut s (q * 2 ^ d) d = q := by
  unfold Ieee.Toward.cut
  have hp : 0 < 2 ^ d := Nat.two_pow_pos d
  have hg : 1 <<< min d ((q * 2 ^ d).log2 + 2) = 2 ^ d := by rw [Nat.min_eq_left hd, Nat.shiftLeft_eq, Nat.one_mul]
  dsimp only
  rw [hg, Nat.mul_div_cancel _ hp, Nat.mul_mod_left]
  rcases hw with rfl | rfl
  · have h1 : decide (2 ^ d < 2 * 0) = false := decide_eq_false (by omega)
    have h2 : ((2 ^ d) == 2 * 0) = false := by rw [beq_eq_false_iff_ne]; omega
    simp only [h1, h2, Bool.false_and, Bool.or_self]
    rfl
  · rfl
theorem log2_shift {a k : Nat} (ha : 0 < a) : (a * 2 ^ k).log2 = a.log2 + k := by
  have h0 : a ≠ 0 := by omega
  have hp : 0 < 2 ^ k := Nat.two_pow_pos k
  have h1 : a * 2 ^ k ≠ 0 := Nat.ne_of_gt (Nat.mul_pos ha hp)
  have l1 : 2 ^ a.log2 ≤ a := Nat.log2_self_le h0
  have l2 : a < 2 ^ (a.log2 + 1) := Nat.lt_log2_self
  have m1 : 2 ^ (a.log2 + k) ≤ a * 2 ^ k := by rw [Nat.pow_add]; exact Nat.mul_le_mul_right _ l1
  have m2 : a * 2 ^ k < 2 ^ (a.log2 + k + 1) := by
    rw [show a.log2 + k + 1 = (a.log2 + 1) + k by omega, Nat.pow_add]
    exact Nat.mul_lt_mul_of_pos_right l2 hp
  have u1 : a.log2 + k ≤ (a * 2 ^ k).log2 := (Nat.le_log2 h1).2 m1
  have u2 : (a * 2 ^ k).log2 < a.log2 + k + 1 := (Nat.log2_lt h1).2 m2
  omega
theorem nearest_exact (s : Bool) {a : Nat} (k : Nat) (ha : 0 < a) (h53 : a < 2 ^ 53) :
    Ieee.double.nearest s (a * 2 ^ k) (-(k : Int)) = Ieee.double.word s ((a.log2 + 1022) * 2 ^ 52 + a * 2 ^ (52 - a.log2)) := by
  have hp : 0 < 2 ^ k := Nat.two_pow_pos k
  have h1 : ¬ a * 2 ^ k = 0 := Nat.ne_of_gt (Nat.mul_pos ha hp)
  have hL : a.log2 ≤ 52 := by have := (Nat.log2_lt (by omega : a ≠ 0)).2 h53; omega
  have hlp : Ieee.double.leastPlace = -1074 := by decide
  have hfb : Ieee.double.fractionBits = 52 := rfl
  have hbin : Ieee.double.binade = 2 ^ 52 := rfl
  have hir : Ieee.double.infRung = 2047 * 2 ^ 52 := rfl
  have hq : a * 2 ^ (52 - a.log2) < 2 ^ 53 := by
    have l2 : a < 2 ^ (a.log2 + 1) := Nat.lt_log2_self
    have := Nat.mul_lt_mul_of_pos_right l2 (Nat.two_pow_pos (52 - a.log2))
    rw [← Nat.pow_add, show a.log2 + 1 + (52 - a.log2) = 53 by omega] at this
    exact this
  unfold Ieee.Format.nearest
  rw [if_neg h1, log2_shift ha, hlp, hfb, hbin, hir]
  dsimp only
  have hlast : max (-(k : Int) + ((a.log2 + k : Nat) : Int) - ((52 : Nat) : Int)) (-1074) = (a.log2 : Int) - 52 := by omega
  rw [hlast]
  have hr : (((a.log2 : Int) - 52 - -1074).toNat) = a.log2 + 1022 := by omega
  rw [hr]
  have hk : Ieee.Toward.even.cut s ((a * 2 ^ k) <<< ((-(k : Int)) - ((a.log2 : Int) - 52)).toNat) (((a.log2 : Int) - 52) - -(k : Int)).toNat = a * 2 ^ (52 - a.log2) := by
    by_cases c : k + a.log2 ≤ 52
    · rw [show ((-(k : Int)) - ((a.log2 : Int) - 52)).toNat = 52 - a.log2 - k by omega, show (((a.log2 : Int) - 52) - -(k : Int)).toNat = 0 by omega, Nat.shiftLeft_eq, Nat.mul_assoc, ← Nat.pow_add, show k + (52 - a.log2 - k) = 52 - a.log2 by omega]
      have := cut_exact .even s (a * 2 ^ (52 - a.log2)) 0 (by omega) (.inl rfl)
      rwa [Nat.pow_zero, Nat.mul_one] at this
    · obtain ⟨d, hd⟩ : ∃ d, k + a.log2 - 52 = d := ⟨_, rfl⟩
      rw [show ((-(k : Int)) - ((a.log2 : Int) - 52)).toNat = 0 by omega, show (((a.log2 : Int) - 52) - -(k : Int)).toNat = d by omega, Nat.shiftLeft_zero]
      have e : a * 2 ^ k = a * 2 ^ (52 - a.log2) * 2 ^ d := by rw [Nat.mul_assoc, ← Nat.pow_add]; congr 2; omega
      rw [e]
      refine cut_exact .even s _ d ?_ (.inl rfl)
      rw [← e, log2_shift ha]
      omega
  rw [hk]
  congr 1
  exact Nat.min_eq_left (by omega)
theorem read_word (s : Bool) {r : Nat} (h1 : 2 ^ 52 ≤ r) (h2 : r < 2047 * 2 ^ 52) : Ieee.double.read (Ieee.double.word s r) = .number s (2 ^ 52 + r % 2 ^ 52) (-1074 + ((r / 2 ^ 52 - 1 : Nat) : Int)) := by
  have hsw : Ieee.double.signWeight = 2 ^ 63 := rfl
  have hbin : Ieee.double.binade = 2 ^ 52 := rfl
  have hir : Ieee.double.infRung = 2047 * 2 ^ 52 := rfl
  have hlp : Ieee.double.leastPlace = -1074 := by decide
  unfold Ieee.Format.read Ieee.Format.word
  dsimp only
  rw [hsw, hbin, hir, hlp]
  have e1 : ((if s = true then 2 ^ 63 + r else r) / 2 ^ 63 % 2 == 1) = s := by
    cases s
    · simp; omega
    · simp; omega
  have e2 : (if s = true then 2 ^ 63 + r else r) % 2 ^ 63 = r := by cases s <;> simp <;> omega
  rw [e1, e2, if_neg (by omega), if_pos h2]
theorem write_rep {s : Bool} {m k : Nat} {n : Int} (h : n * 2 ^ k = sg s (m : Int)) (hb : n.natAbs < 2 ^ 53) : Rep (Ieee.double.write (.number s m (-(k : Int)))) n := by
  obtain ⟨hm, hn⟩ := sg_abs h
  obtain ⟨a, ha⟩ : ∃ a, n.natAbs = a := ⟨_, rfl⟩
  rw [ha] at hm hn hb
  subst hm
  show Rep (Ieee.double.nearest s (a * 2 ^ k) (-(k : Int))) n
  rcases Nat.eq_zero_or_pos a with rfl | hp
  · refine ⟨s, 0, 1074, ?_, ?_⟩
    · rw [Nat.zero_mul]
      unfold Ieee.Format.nearest
      rw [if_pos rfl]
      cases s <;> decide
    · have hn0 : n = 0 := by rw [hn]; cases s <;> rfl
      rw [hn0, Int.zero_mul]
      cases s <;> rfl
  · rw [nearest_exact s k hp hb]
    have hL : a.log2 ≤ 52 := by have := (Nat.log2_lt (by omega : a ≠ 0)).2 hb; omega
    have hq : a * 2 ^ (52 - a.log2) < 2 ^ 53 := by
      have := Nat.mul_lt_mul_of_pos_right (Nat.lt_log2_self (n := a)) (Nat.two_pow_pos (52 - a.log2))
      rw [← Nat.pow_add, show a.log2 + 1 + (52 - a.log2) = 53 by omega] at this
      exact this
    have hq2 : 2 ^ 52 ≤ a * 2 ^ (52 - a.log2) := by
      have := Nat.mul_le_mul_right (2 ^ (52 - a.log2)) (Nat.log2_self_le (n := a) (by omega))
      rw [← Nat.pow_add, show a.log2 + (52 - a.log2) = 52 by omega] at this
      exact this
    obtain ⟨q, hqq⟩ : ∃ q, a * 2 ^ (52 - a.log2) = q := ⟨_, rfl⟩
    refine ⟨s, q, 52 - a.log2, ?_, ?_⟩
    · rw [hqq] at hq hq2 ⊢
      rw [read_word s (by omega) (by omega)]
      congr 1
      · omega
      · omega
    · rw [← hqq, hn]
      rw [← sg_mul]
      congr 1
theorem of_int (n : Int) (hb : n.natAbs < 2 ^ 53) : Rep (Ieee.double.write (.number (n < 0) n.natAbs 0)) n := by
  refine write_rep (k := 0) ?_ hb
  unfold sg
  by_cases h : n < 0 <;> simp [h] <;> omega
theorem sum_rep {a b : Nat} {x y : Int} (ha : Rep a x) (hb : Rep b y) (h : (x + y).natAbs < 2 ^ 53) : ∃ r, Ieee.double.add a b = some r ∧ Rep r (x + y) := by
  obtain ⟨s, m, k, ha, hx⟩ := ha
  obtain ⟨t, n, l, hb, hy⟩ := hb
  unfold Ieee.Format.add
  rw [ha, hb]
  unfold Ieee.Datum.sum
  obtain ⟨K, hK⟩ : ∃ K, max k l = K := ⟨_, rfl⟩
  have hbase : min (-(k : Int)) (-(l : Int)) = -(K : Int) := by omega
  dsimp only
  rw [hbase]
  have e1 : Ieee.signed s m (-(k : Int) - -(K : Int)).toNat = x * 2 ^ K := by
    rw [signed_eq, sg_mul, ← hx, show (-(k : Int) - -(K : Int)).toNat = K - k by omega, Int.mul_assoc, ← Int.pow_add, show k + (K - k) = K by omega]
  have e2 : Ieee.signed t n (-(l : Int) - -(K : Int)).toNat = y * 2 ^ K := by
    rw [signed_eq, sg_mul, ← hy, show (-(l : Int) - -(K : Int)).toNat = K - l by omega, Int.mul_assoc, ← Int.pow_add, show l + (K - l) = K by omega]
  rw [e1, e2, ← Int.add_mul]
  refine ⟨_, rfl, write_rep ?_ h⟩
  obtain ⟨T, hT⟩ : ∃ T, (x + y) * 2 ^ K = T := ⟨_, rfl⟩
  rw [hT]
  unfold sg
  by_cases h0 : T = 0
  · subst h0; simp
  · by_cases h1 : T < 0 <;> simp [h0, h1] <;> omega
theorem order_rep {a b : Nat} {x y : Int} (ha : Rep a x) (hb : Rep b y) : (Ieee.double.order a b == some .eq) = decide (x = y) := by
  obtain ⟨s, m, k, ha, hx⟩ := ha
  obtain ⟨t, n, l, hb, hy⟩ := hb
  unfold Ieee.Format.order
  rw [ha, hb]
  unfold Ieee.Datum.order
  obtain ⟨K, hK⟩ : ∃ K, max k l = K := ⟨_, rfl⟩
  have hbase : min (-(k : Int)) (-(l : Int)) = -(K : Int) := by omega
  dsimp only
  rw [hbase]
  have e1 : Ieee.signed s m (-(k : Int) - -(K : Int)).toNat = x * 2 ^ K := by
    rw [signed_eq, sg_mul, ← hx, show (-(k : Int) - -(K : Int)).toNat = K - k by omega, Int.mul_assoc, ← Int.pow_add, show k + (K - k) = K by omega]
  have e2 : Ieee.signed t n (-(l : Int) - -(K : Int)).toNat = y * 2 ^ K := by
    rw [signed_eq, sg_mul, ← hy, show (-(l : Int) - -(K : Int)).toNat = K - l by omega, Int.mul_assoc, ← Int.pow_add, show l + (K - l) = K by omega]
  rw [e1, e2]
  have hp := pow_pos' K
  have key : x * 2 ^ K = y * 2 ^ K ↔ x = y := ⟨fun e => Int.eq_of_mul_eq_mul_right (by omega) e, fun e => by rw [e]⟩
  by_cases e : x = y
  · subst e
    rw [decide_eq_true rfl]
    show (some (compareOfLessAndEq _ _) == some .eq) = true
    unfold compareOfLessAndEq
    rw [if_neg (by omega), if_pos rfl]
    rfl
  · rw [decide_eq_false e]
    show (some (compareOfLessAndEq _ _) == some .eq) = false
    unfold compareOfLessAndEq
    split
    · rfl
    · rw [if_neg (fun k => e (key.1 k))]
      rfl
theorem to_int {a : Nat} {x : Int} (ha : Rep a x) : (Ieee.double.read a).toInt .zero = some x := by
  obtain ⟨s, m, k, ha, hx⟩ := ha
  obtain ⟨hm, hn⟩ := sg_abs hx
  rw [ha]
  unfold Ieee.Datum.toInt Ieee.Datum.integral
  dsimp only
  rw [show (-(k : Int)).toNat = 0 by omega, show (- -(k : Int)).toNat = k by omega, Nat.shiftLeft_zero]
  have e : Ieee.Toward.zero.cut s m k = x.natAbs := by
    rcases Nat.eq_zero_or_pos x.natAbs with h0 | h0
    · rw [h0] at hm ⊢
      rw [hm, Nat.zero_mul]
      unfold Ieee.Toward.cut
      simp
    · rw [hm]
      exact cut_exact .zero s _ k (by rw [log2_shift h0]; omega) (.inr rfl)
  rw [e, signed_eq, Int.pow_zero, Int.mul_one, ← hn]
theorem to_i64 {a : Nat} {x : Int} (ha : Rep a x) (h1 : -9223372036854775808 ≤ x) (h2 : x ≤ 9223372036854775807) : floatToIntVal .f64 a .i64 = some x := by
  unfold floatToIntVal
  rw [show FloatKind.decode .f64 a = Ieee.double.read a from rfl, to_int ha]
  dsimp only
  rw [if_pos]
  exact ⟨h1, h2⟩
end Flt
end Go.Proofs.Ytipfdildnnfmkaa

/- Plain facts: the bytes of numbers stand in the numbers' order, and tell them. -/
import Derived.Test.YtnmddnhllfojeaaOctGets
import Derived.Test.YtnmddnhllfojeaaOctRput
import Derived.Lib.Strings
namespace Go.Proofs.Ytnmddnhllfojeaa
open Go.RowKit OctPlain
set_option linter.unusedVariables false
set_option linter.unusedSimpArgs false
set_option maxRecDepth 20000

theorem less_num : ∀ (a b : List UInt8), a.length = b.length → Op.bytesLess a b = decide (num a < num b)
  | [], [], _ => by simp [Op.bytesLess, num]
  | x :: a, y :: b, h => by
    have hl : a.length = b.length := by simpa using h
    have ih := less_num a b hl
    have ha := num_lt a
    have hb := num_lt b
    rw [hl] at ha
    rw [Op.bytesLess, ih, num_cons, num_cons, hl]
    generalize 256 ^ b.length = p at ha hb ⊢
    generalize num a = m at ha ⊢
    generalize num b = n at hb ⊢
    apply Bool.eq_iff_iff.2
    simp only [Bool.or_eq_true, Bool.and_eq_true, decide_eq_true_eq, beq_iff_eq]
    have hxy : x < y ↔ x.toNat < y.toNat := UInt8.lt_iff_toNat_lt
    have hxe : x = y ↔ x.toNat = y.toNat := UInt8.toNat_inj.symm
    rw [hxy, hxe]
    generalize x.toNat = c
    generalize y.toNat = d
    constructor
    · rintro (h1 | ⟨h1, h2⟩)
      · have := Nat.mul_le_mul_right p (show c + 1 ≤ d by omega)
        rw [Nat.add_mul] at this; omega
      · subst h1; omega
    · intro h1
      by_cases h2 : c < d
      · exact .inl h2
      · by_cases h3 : c = d
        · subst h3; exact .inr ⟨rfl, by omega⟩
        · have := Nat.mul_le_mul_right p (show d + 1 ≤ c by omega)
          rw [Nat.add_mul] at this; omega

theorem put_ok {n k : Int} (h : fitsB n k = true) : putS n k = bs (beL k.toNat n.toNat) := by unfold putS; rw [if_pos h]
theorem put_size {n k : Int} (h : fitsB n k = true) : (putS n k).size = k.toNat := by rw [put_ok h, bs_size, beL_length]
theorem put_num {n k : Int} (h : fitsB n k = true) : num (beL k.toNat n.toNat) = n.toNat := by
  unfold fitsB at h
  rw [decide_eq_true_iff] at h
  apply num_beL
  obtain ⟨_, h0, h1⟩ := h
  obtain ⟨N, rfl⟩ : ∃ N : Nat, n = N := ⟨n.toNat, by omega⟩
  rw [Int.toNat_natCast]
  have e : ((256 ^ k.toNat : Nat) : Int) = (256 : Int) ^ k.toNat := by rw [Int.natCast_pow]; rfl
  rw [← e] at h1
  omega
theorem put_less {m n k : Int} (h1 : fitsB m k = true) (h2 : fitsB n k = true) : Op.bytesLess (putS m k).toList (putS n k).toList = decide (m < n) := by
  rw [Lib.toList_data, Lib.toList_data, put_ok h1, put_ok h2]
  show Op.bytesLess (beL k.toNat m.toNat) (beL k.toNat n.toNat) = _
  rw [less_num _ _ (by rw [beL_length, beL_length]), put_num h1, put_num h2]
  unfold fitsB at h1 h2
  rw [decide_eq_true_iff] at h1 h2
  apply decide_eq_decide.2
  omega

theorem fits8 {n : Int} (h : 0 ≤ n) (h2 : I64 n) : fitsB n 8 = true := by
  unfold fitsB; rw [decide_eq_true_iff]
  unfold I64 at h2
  have e : (256 : Int) ^ (8 : Int).toNat = 18446744073709551616 := rfl
  rw [e]; omega
theorem fits4 {x : Int} (h1 : -2147483648 ≤ x) (h2 : x < 2147483648) : fitsB (x + 2147483648) 4 = true := by
  unfold fitsB; rw [decide_eq_true_iff]
  have e : (256 : Int) ^ (4 : Int).toNat = 4294967296 := rfl
  rw [e]; omega

theorem oget_put {a n k : Int} (h0 : fitsB a k = true) (h : fitsB n k = true) (hn : I64 n) : getB (putS a k ++ putS n k) k k = true ∧ getN (putS a k ++ putS n k) k k = n := by
  have hk : (1 ≤ k ∧ k ≤ 8) ∧ 0 ≤ n := by
    unfold fitsB at h; rw [decide_eq_true_iff] at h; exact ⟨h.1, h.2.1⟩
  unfold I64 at hn
  have hc : cutL (putS a k ++ putS n k) k.toNat k.toNat = beL k.toNat n.toNat := by
    rw [put_ok h0, put_ok h, bs_app]
    show ((beL k.toNat a.toNat ++ beL k.toNat n.toNat).drop k.toNat).take k.toNat = _
    rw [List.drop_left' (beL_length _ _)]
    exact List.take_of_length_le (by rw [beL_length]; omega)
  have hz : (putS a k ++ putS n k).size = k.toNat + k.toNat := by rw [ByteArray.size_append, put_size h0, put_size h]
  have hb : getB (putS a k ++ putS n k) k k = true := by
    unfold getB; rw [decide_eq_true_iff, hc, put_num h, hz]; omega
  refine ⟨hb, ?_⟩
  unfold getN; rw [if_pos hb, hc, put_num h]; omega

theorem get_put0 {n k : Int} (h : fitsB n k = true) (hn : I64 n) : getB (putS n k) 0 k = true ∧ getN (putS n k) 0 k = n := by
  have hk : (1 ≤ k ∧ k ≤ 8) ∧ 0 ≤ n := by
    unfold fitsB at h; rw [decide_eq_true_iff] at h; exact ⟨h.1, h.2.1⟩
  unfold I64 at hn
  have hc : cutL (putS n k) (0 : Int).toNat k.toNat = beL k.toNat n.toNat := by
    rw [put_ok h]
    show ((beL k.toNat n.toNat).drop 0).take k.toNat = _
    rw [List.drop_zero]
    exact List.take_of_length_le (by rw [beL_length]; omega)
  have hb : getB (putS n k) 0 k = true := by
    unfold getB; rw [decide_eq_true_iff, hc, put_num h, put_size h]; omega
  refine ⟨hb, ?_⟩
  unfold getN; rw [if_pos hb, hc, put_num h]; omega

theorem coord_ok {x : Int} (h1 : -2147483648 ≤ x) (h2 : x < 2147483648) : coordB x = true ∧ (coordS x).size = 4 ∧ getB (coordS x) 0 4 = true ∧ gcN (coordS x) 0 = x := by
  have hf := fits4 h1 h2
  have hg := get_put0 hf (by unfold I64; omega)
  rw [coordB_yes h1 h2, coordS_yes h1 h2]
  refine ⟨hf, put_size hf, hg.1, ?_⟩
  unfold gcN; rw [if_pos hg.1, hg.2]; unfold wrap64; omega
theorem coord_less {x y : Int} (h1 : -2147483648 ≤ x) (h2 : x < 2147483648) (h3 : -2147483648 ≤ y) (h4 : y < 2147483648) : Op.bytesLess (coordS x).toList (coordS y).toList = decide (x < y) := by
  rw [coordS_yes h1 h2, coordS_yes h3 h4, put_less (fits4 h1 h2) (fits4 h3 h4)]
  apply decide_eq_decide.2
  omega
end Go.Proofs.Ytnmddnhllfojeaa

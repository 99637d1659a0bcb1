/- In one text: OctPlain, OctPut, OctBits. -/
import Derived.Test.YtibajmjplpnbmaaP00
import Derived.WalkKit
import Derived.ProofKit
import Derived.Below
import Derived.Handy
import Derived.WalkLawsBesides
import Derived.Outline
import Derived.Laws.Bits64
import Derived.IntWalk
/- Plain facts on bytes of numbers, without the model: the highest byte first. -/
namespace Go.Proofs.Ytibajmjplpnbmaa
namespace OctPlain

/-- The k lowest bytes of n, the highest first. -/
def beL : Nat → Nat → List UInt8
  | 0, _ => []
  | k + 1, n => beL k (n / 256) ++ [UInt8.ofNat (n % 256)]

theorem beL_length (k : Nat) : ∀ n, (beL k n).length = k := by
  induction k with
  | zero => intro n; rfl
  | succ k ih => intro n; simp [beL, ih]

theorem beL_top (k : Nat) : ∀ n, beL (k + 1) n = UInt8.ofNat (n / 256 ^ k % 256) :: beL k n := by
  induction k with
  | zero => intro n; simp [beL]
  | succ k ih =>
    intro n
    have h := ih (n / 256)
    rw [beL, h, beL, Nat.div_div_eq_div_mul, ← Nat.pow_succ', List.cons_append]

/-- The number of some bytes. -/
def num (l : List UInt8) : Nat := l.foldl (fun v b => v * 256 + b.toNat) 0

theorem num_nil : num [] = 0 := rfl
theorem num_snoc (l : List UInt8) (b : UInt8) : num (l ++ [b]) = num l * 256 + b.toNat := by
  simp [num]

theorem fold_eq (l : List UInt8) : ∀ v, l.foldl (fun v b => v * 256 + b.toNat) v = v * 256 ^ l.length + num l := by
  induction l with
  | nil => intro v; simp [num]
  | cons b l ih =>
    intro v
    have h1 := ih (v * 256 + b.toNat)
    have h2 := ih (0 * 256 + b.toNat)
    have e : num (b :: l) = l.foldl (fun v b => v * 256 + b.toNat) (0 * 256 + b.toNat) := rfl
    rw [List.foldl_cons, h1, e, h2, List.length_cons, Nat.pow_succ, Nat.add_mul, Nat.zero_mul, Nat.zero_add, Nat.mul_assoc, Nat.mul_comm 256, Nat.add_assoc]

theorem num_cons (b : UInt8) (l : List UInt8) : num (b :: l) = b.toNat * 256 ^ l.length + num l := by
  have h := fold_eq l (0 * 256 + b.toNat)
  have e : num (b :: l) = l.foldl (fun v b => v * 256 + b.toNat) (0 * 256 + b.toNat) := rfl
  rw [e, h, Nat.zero_mul, Nat.zero_add]

theorem num_app (a b : List UInt8) : num (a ++ b) = num a * 256 ^ b.length + num b := by
  rw [← fold_eq b (num a)]
  simp [num]

theorem num_lt (l : List UInt8) : num l < 256 ^ l.length := by
  induction l with
  | nil => simp [num]
  | cons b l ih =>
    rw [num_cons, List.length_cons, Nat.pow_succ]
    have hb := b.toNat_lt
    have hb' : b.toNat * 256 ^ l.length ≤ 255 * 256 ^ l.length := Nat.mul_le_mul_right _ (by omega)
    omega

theorem num_beL (k : Nat) : ∀ n, n < 256 ^ k → num (beL k n) = n := by
  induction k with
  | zero => intro n h; simp at h; subst h; rfl
  | succ k ih =>
    intro n h
    rw [Nat.pow_succ] at h
    have hd : n / 256 < 256 ^ k := by omega
    rw [beL, num_snoc, ih _ hd]
    have : (UInt8.ofNat (n % 256)).toNat = n % 256 := by
      rw [UInt8.toNat_ofNat']; omega
    rw [this]; omega

def fitsB (n k : Int) : Bool := decide ((1 ≤ k ∧ k ≤ 8) ∧ 0 ≤ n ∧ n < (256 : Int) ^ k.toNat)
def putS (n k : Int) : ByteArray := if fitsB n k = true then bs (beL k.toNat n.toNat) else bs []

theorem put_no {n k : Int} (h : fitsB n k = false) : putS n k = ⟨#[]⟩ := by simp [putS, h, bs]

theorem dig_cast (n : Int) (hn : 0 ≤ n) (j : Nat) : (n / 256 ^ j % 256).toNat = n.toNat / 256 ^ j % 256 := by
  obtain ⟨N, rfl⟩ : ∃ N : Nat, n = N := ⟨n.toNat, by omega⟩
  have : ((N / 256 ^ j % 256 : Nat) : Int) = (N : Int) / 256 ^ j % 256 := by rw [Int.natCast_emod, Int.natCast_ediv, Int.natCast_pow]; rfl
  rw [← this, Int.toNat_natCast, Int.toNat_natCast]
theorem fits_at {n k : Int} (hk : 1 ≤ k ∧ k ≤ 8) (hn : 0 ≤ n) : fitsB n k = decide (n / 256 ^ k.toNat = 0) := by
  unfold fitsB
  have hp : (0 : Int) < 256 ^ k.toNat := Int.pow_pos (by omega)
  apply decide_eq_decide.2
  constructor
  · intro h; exact Int.ediv_eq_zero_of_lt hn h.2.2
  · intro h
    refine ⟨hk, hn, ?_⟩
    have h1 := Int.emod_lt_of_pos n hp
    have h2 := Int.emod_add_mul_ediv n (256 ^ k.toNat)
    rw [h] at h2
    omega

/-- The bytes from place a on, k of them. -/
def cutL (s : ByteArray) (a k : Nat) : List UInt8 := (s.data.toList.drop a).take k
def getB (s : ByteArray) (a k : Int) : Bool := decide ((1 ≤ k ∧ k ≤ 8) ∧ 0 ≤ a ∧ a + k ≤ s.size ∧ num (cutL s a.toNat k.toNat) < 9223372036854775808)
def getN (s : ByteArray) (a k : Int) : Int := if getB s a k = true then (num (cutL s a.toNat k.toNat) : Int) else 0

theorem cutL_length (s : ByteArray) (a k : Nat) (h : a + k ≤ s.size) : (cutL s a k).length = k := by
  have : s.data.toList.length = s.size := Array.length_toList
  simp only [cutL, List.length_take, List.length_drop]; omega

end OctPlain
end Go.Proofs.Ytibajmjplpnbmaa
/- Contracts of layer octet's functions that make bytes, and of the document's answers to them, each by a walk of its text. -/
namespace Go.Proofs.Ytibajmjplpnbmaa
open Go.RowKit OctPlain
set_option linter.unusedVariables false
set_option linter.unusedSimpArgs false
set_option maxRecDepth 20000
set_option maxHeartbeats 1000000 in
theorem sized_c (k : Int) (hk : I64 k) (w : World) :
    Calls Try.prog 62 #[.int .i64 k] w fun e w' => e = .returned (.bool (decide (1 ≤ k ∧ k ≤ 8))) ∧ w = w' := by
  by_cases h1 : 1 ≤ k <;> by_cases h2 : k ≤ 8
  all_goals
    go_enter Try.func62, Try.ntmps62
    go_wp2
    go_ret
    exact ⟨by simp [h1, h2], rfl⟩
theorem ret_b {a b : Bool} (h : a = b) : Ending.returned (.bool a) = .returned (.bool b) := by rw [h]
theorem b_of {a : Bool} {p : Prop} [Decidable p] (h : a = true ↔ p) : a = decide p := by
  cases a <;> simp_all
end Go.Proofs.Ytibajmjplpnbmaa
/- Plain facts: a byte laid behind a number whose lowest byte is none is added; numbers that wrap round. -/
namespace Go.Proofs.Ytibajmjplpnbmaa
open Go.RowKit OctPlain
set_option linter.unusedVariables false

theorem or_step (N y : Nat) (hN : N < 72057594037927936) (hy : y < 256) :
    bits .or .i64 (wrap64 (wrap64 (N : Int) * 256)) (wrap64 (y : Int)) = wrap64 ((N * 256 + y : Nat) : Int) := by
  have h1 : (BitVec.ofInt 64 (wrap64 (wrap64 (N : Int) * 256))).toNat = 2 ^ 8 * N := by
    rw [BitVec.toNat_ofInt]; unfold wrap64; omega
  have h2 : (BitVec.ofInt 64 (wrap64 (y : Int))).toNat = y := by
    rw [BitVec.toNat_ofInt]; unfold wrap64; omega
  show IntKind.i64.wrap ((BitVec.ofInt 64 (wrap64 (wrap64 (N : Int) * 256)) ||| BitVec.ofInt 64 (wrap64 (y : Int))).toNat : Int) = _
  rw [BitVec.toNat_or, h1, h2, ← Nat.two_pow_add_eq_or_of_lt hy]
  have e : 2 ^ 8 * N + y = N * 256 + y := by omega
  rw [e]
  simp only [IntKind.wrap_i64, wrap64]

theorem or_first (y : Nat) (hy : y < 256) : bits .or .i64 0 (wrap64 (y : Int)) = wrap64 (y : Int) := by
  have h := or_step 0 y (by omega) hy
  have e : wrap64 (wrap64 ((0 : Nat) : Int) * 256) = 0 := by simp [wrap64]
  rw [e] at h
  simpa using h

/-- Eight bytes, laid behind each other one by one. -/
theorem chain8 {y0 y1 y2 y3 y4 y5 y6 y7 : UInt8} {v1 v2 v3 v4 v5 v6 v7 v8 : Int}
    (o1 : bits .or .i64 0 (wrap64 (y0.toNat : Int)) = v1)
    (o2 : bits .or .i64 (wrap64 (v1 * 256)) (wrap64 (y1.toNat : Int)) = v2)
    (o3 : bits .or .i64 (wrap64 (v2 * 256)) (wrap64 (y2.toNat : Int)) = v3)
    (o4 : bits .or .i64 (wrap64 (v3 * 256)) (wrap64 (y3.toNat : Int)) = v4)
    (o5 : bits .or .i64 (wrap64 (v4 * 256)) (wrap64 (y4.toNat : Int)) = v5)
    (o6 : bits .or .i64 (wrap64 (v5 * 256)) (wrap64 (y5.toNat : Int)) = v6)
    (o7 : bits .or .i64 (wrap64 (v6 * 256)) (wrap64 (y6.toNat : Int)) = v7)
    (o8 : bits .or .i64 (wrap64 (v7 * 256)) (wrap64 (y7.toNat : Int)) = v8) :
    v8 = wrap64 (num [y0, y1, y2, y3, y4, y5, y6, y7] : Int) := by
  have b0 := y0.toNat_lt; have b1 := y1.toNat_lt; have b2 := y2.toNat_lt; have b3 := y3.toNat_lt
  have b4 := y4.toNat_lt; have b5 := y5.toNat_lt; have b6 := y6.toNat_lt; have b7 := y7.toNat_lt
  rw [or_first _ (by omega)] at o1; subst o1
  rw [or_step _ _ (by omega) (by omega)] at o2; subst o2
  rw [or_step _ _ (by omega) (by omega)] at o3; subst o3
  rw [or_step _ _ (by omega) (by omega)] at o4; subst o4
  rw [or_step _ _ (by omega) (by omega)] at o5; subst o5
  rw [or_step _ _ (by omega) (by omega)] at o6; subst o6
  rw [or_step _ _ (by omega) (by omega)] at o7; subst o7
  rw [or_step _ _ (by omega) (by omega)] at o8; subst o8
  simp only [num, List.foldl, Nat.zero_mul, Nat.zero_add]

theorem num_zeros (l : List UInt8) : ∀ k, num (List.replicate k 0 ++ l) = num l := by
  intro k
  induction k with
  | zero => simp
  | succ k ih => rw [List.replicate_succ, List.cons_append, num_cons, ih]; simp

/-- Eight bytes that begin with none. -/
theorem pad8 (xs : List UInt8) (k : Nat) (hk : k ≤ 8) (hl : xs.length = k) :
    ∃ y0 y1 y2 y3 y4 y5 y6 y7 : UInt8, List.replicate (8 - k) 0 ++ xs = [y0, y1, y2, y3, y4, y5, y6, y7] ∧ num [y0, y1, y2, y3, y4, y5, y6, y7] = num xs := by
  have h8 : (List.replicate (8 - k) (0 : UInt8) ++ xs).length = 8 := by simp; omega
  have hn := num_zeros xs (8 - k)
  match h : List.replicate (8 - k) (0 : UInt8) ++ xs, h8 with
  | [a, b, c, d, e, f, g, i], _ => exact ⟨a, b, c, d, e, f, g, i, rfl, by rw [← h]; exact hn⟩
end Go.Proofs.Ytibajmjplpnbmaa

/- In one text: OctPlain. -/
import Derived.Test.YtgopodgjnblgkaaDoorP00
import Derived.WalkKit
/- Plain facts on bytes of numbers, without the model: the highest byte first. -/
namespace Go.Proofs.YtgopodgjnblgkaaDoor
namespace OctPlain

/-- The k lowest bytes of n, the highest first. -/
def beL : Nat → Nat → List UInt8
  | 0, _ => []
  | k + 1, n => beL k (n / 256) ++ [UInt8.ofNat (n % 256)]

theorem beL_length (k : Nat) : ∀ n, (beL k n).length = k := by
  induction k with
  | zero => intro n; rfl
  | succ k ih => intro n; simp [beL, ih]

theorem beL_top (k : Nat) : ∀ n, beL (k + 1) n = UInt8.ofNat (n / 256 ^ k % 256) :: beL k n := by
  induction k with
  | zero => intro n; simp [beL]
  | succ k ih =>
    intro n
    have h := ih (n / 256)
    rw [beL, h, beL, Nat.div_div_eq_div_mul, ← Nat.pow_succ', List.cons_append]

/-- The number of some bytes. -/
def num (l : List UInt8) : Nat := l.foldl (fun v b => v * 256 + b.toNat) 0

theorem num_nil : num [] = 0 := rfl
theorem num_snoc (l : List UInt8) (b : UInt8) : num (l ++ [b]) = num l * 256 + b.toNat := by
  simp [num]

theorem fold_eq (l : List UInt8) : ∀ v, l.foldl (fun v b => v * 256 + b.toNat) v = v * 256 ^ l.length + num l := by
  induction l with
  | nil => intro v; simp [num]
  | cons b l ih =>
    intro v
    have h1 := ih (v * 256 + b.toNat)
    have h2 := ih (0 * 256 + b.toNat)
    have e : num (b :: l) = l.foldl (fun v b => v * 256 + b.toNat) (0 * 256 + b.toNat) := rfl
    rw [List.foldl_cons, h1, e, h2, List.length_cons, Nat.pow_succ, Nat.add_mul, Nat.zero_mul, Nat.zero_add, Nat.mul_assoc, Nat.mul_comm 256, Nat.add_assoc]

theorem num_cons (b : UInt8) (l : List UInt8) : num (b :: l) = b.toNat * 256 ^ l.length + num l := by
  have h := fold_eq l (0 * 256 + b.toNat)
  have e : num (b :: l) = l.foldl (fun v b => v * 256 + b.toNat) (0 * 256 + b.toNat) := rfl
  rw [e, h, Nat.zero_mul, Nat.zero_add]

theorem num_app (a b : List UInt8) : num (a ++ b) = num a * 256 ^ b.length + num b := by
  rw [← fold_eq b (num a)]
  simp [num]

theorem num_lt (l : List UInt8) : num l < 256 ^ l.length := by
  induction l with
  | nil => simp [num]
  | cons b l ih =>
    rw [num_cons, List.length_cons, Nat.pow_succ]
    have hb := b.toNat_lt
    have hb' : b.toNat * 256 ^ l.length ≤ 255 * 256 ^ l.length := Nat.mul_le_mul_right _ (by omega)
    omega

theorem num_beL (k : Nat) : ∀ n, n < 256 ^ k → num (beL k n) = n := by
  induction k with
  | zero => intro n h; simp at h; subst h; rfl
  | succ k ih =>
    intro n h
    rw [Nat.pow_succ] at h
    have hd : n / 256 < 256 ^ k := by omega
    rw [beL, num_snoc, ih _ hd]
    have : (UInt8.ofNat (n % 256)).toNat = n % 256 := by
      rw [UInt8.toNat_ofNat']; omega
    rw [this]; omega

def fitsB (n k : Int) : Bool := decide ((1 ≤ k ∧ k ≤ 8) ∧ 0 ≤ n ∧ n < (256 : Int) ^ k.toNat)
def putS (n k : Int) : ByteArray := if fitsB n k = true then bs (beL k.toNat n.toNat) else bs []

theorem put_no {n k : Int} (h : fitsB n k = false) : putS n k = ⟨#[]⟩ := by simp [putS, h, bs]

theorem dig_cast (n : Int) (hn : 0 ≤ n) (j : Nat) : (n / 256 ^ j % 256).toNat = n.toNat / 256 ^ j % 256 := by
  obtain ⟨N, rfl⟩ : ∃ N : Nat, n = N := ⟨n.toNat, by omega⟩
  have : ((N / 256 ^ j % 256 : Nat) : Int) = (N : Int) / 256 ^ j % 256 := by rw [Int.natCast_emod, Int.natCast_ediv, Int.natCast_pow]; rfl
  rw [← this, Int.toNat_natCast, Int.toNat_natCast]
theorem fits_at {n k : Int} (hk : 1 ≤ k ∧ k ≤ 8) (hn : 0 ≤ n) : fitsB n k = decide (n / 256 ^ k.toNat = 0) := by
  unfold fitsB
  have hp : (0 : Int) < 256 ^ k.toNat := Int.pow_pos (by omega)
  apply decide_eq_decide.2
  constructor
  · intro h; exact Int.ediv_eq_zero_of_lt hn h.2.2
  · intro h
    refine ⟨hk, hn, ?_⟩
    have h1 := Int.emod_lt_of_pos n hp
    have h2 := Int.emod_add_mul_ediv n (256 ^ k.toNat)
    rw [h] at h2
    omega

/-- The bytes from place a on, k of them. -/
def cutL (s : ByteArray) (a k : Nat) : List UInt8 := (s.data.toList.drop a).take k
def getB (s : ByteArray) (a k : Int) : Bool := decide ((1 ≤ k ∧ k ≤ 8) ∧ 0 ≤ a ∧ a + k ≤ s.size ∧ num (cutL s a.toNat k.toNat) < 9223372036854775808)
def getN (s : ByteArray) (a k : Int) : Int := if getB s a k = true then (num (cutL s a.toNat k.toNat) : Int) else 0

theorem cutL_length (s : ByteArray) (a k : Nat) (h : a + k ≤ s.size) : (cutL s a k).length = k := by
  have : s.data.toList.length = s.size := Array.length_toList
  simp only [cutL, List.length_take, List.length_drop]; omega

end OctPlain
end Go.Proofs.YtgopodgjnblgkaaDoor

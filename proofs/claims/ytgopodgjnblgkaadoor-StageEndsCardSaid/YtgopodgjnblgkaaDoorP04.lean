/- In one text: CrcPlain. -/
import Derived.Test.YtgopodgjnblgkaaDoorRows
import Derived.WalkKit
/- Plain facts on the sum of bytes, without the model: one step is linear and loses nothing. -/
namespace Go.Proofs.YtgopodgjnblgkaaDoor
namespace CrcPlain

/-- One step: halved, and the constant put on it, if it was odd. -/
def st (n : Nat) : Nat := n / 2 ^^^ (n % 2 * 3988292384)
/-- k steps. -/
def sts : Nat → Nat → Nat
  | 0, n => n
  | k + 1, n => sts k (st n)
/-- The number of bytes, the lowest first. -/
def le : List UInt8 → Nat
  | [] => 0
  | b :: l => b.toNat + 256 * le l
/-- What becomes of a number by some bytes. -/
def reg (r : Nat) (l : List UInt8) : Nat := l.foldl (fun r b => sts 8 (r ^^^ b.toNat)) r

theorem xor_div2 (a b : Nat) : (a ^^^ b) / 2 = a / 2 ^^^ b / 2 := Nat.xor_div_two
theorem xor_mod2 (a b : Nat) : (a ^^^ b) % 2 = (a % 2 + b % 2) % 2 := by
  have h := Nat.xor_mod_two_pow (a := a) (b := b) (n := 1)
  rw [Nat.pow_one] at h
  rw [h]
  rcases Nat.mod_two_eq_zero_or_one a with h | h <;> rcases Nat.mod_two_eq_zero_or_one b with k | k <;> rw [h, k] <;> rfl

theorem xor_swap (a b c d : Nat) : (a ^^^ b) ^^^ (c ^^^ d) = (a ^^^ c) ^^^ (b ^^^ d) := by
  rw [Nat.xor_assoc, Nat.xor_assoc, ← Nat.xor_assoc b, Nat.xor_comm b c, Nat.xor_assoc c]

theorem st_xor (a b : Nat) : st (a ^^^ b) = st a ^^^ st b := by
  unfold st
  rw [xor_div2, xor_swap, xor_mod2]
  congr 1
  rcases Nat.mod_two_eq_zero_or_one a with h | h <;> rcases Nat.mod_two_eq_zero_or_one b with k | k <;> simp [h, k]
theorem sts_xor (k : Nat) : ∀ a b, sts k (a ^^^ b) = sts k a ^^^ sts k b := by
  induction k with
  | zero => intro a b; rfl
  | succ k ih => intro a b; rw [sts, st_xor, ih]; rfl
theorem st_double (a : Nat) : st (2 * a) = a := by
  unfold st
  have h1 : 2 * a / 2 = a := by omega
  have h2 : 2 * a % 2 = 0 := by omega
  rw [h1, h2, Nat.zero_mul, Nat.xor_zero]
theorem sts_pow (k : Nat) : ∀ a, sts k (2 ^ k * a) = a := by
  induction k with
  | zero => intro a; simp [sts]
  | succ k ih =>
    intro a
    have e : 2 ^ (k + 1) * a = 2 * (2 ^ k * a) := by rw [Nat.pow_succ, Nat.mul_comm (2 ^ k) 2, Nat.mul_assoc]
    rw [sts, e, st_double, ih]
theorem sts_add (j k n : Nat) : sts (j + k) n = sts k (sts j n) := by
  induction j generalizing n with
  | zero => simp [sts]
  | succ j ih => rw [Nat.add_right_comm, sts, ih]; rfl
theorem st_lt {n : Nat} (h : n < 4294967296) : st n < 4294967296 := by
  unfold st
  have h2 : n % 2 * 3988292384 < 2 ^ 32 := by rcases Nat.mod_two_eq_zero_or_one n with k | k <;> rw [k] <;> decide
  exact Nat.xor_lt_two_pow (n := 32) (by omega) h2
theorem sts_lt (k : Nat) : ∀ {n}, n < 4294967296 → sts k n < 4294967296 := by
  induction k with
  | zero => intro n h; exact h
  | succ k ih => intro n h; exact ih (st_lt h)
theorem xor_eq_zero {a b : Nat} (h : a ^^^ b = 0) : a = b := by
  have := congrArg (fun x => x ^^^ b) h
  simpa [Nat.xor_assoc] using this
theorem st_zero {n : Nat} (h : n < 4294967296) (hz : st n = 0) : n = 0 := by
  unfold st at hz
  have e := xor_eq_zero hz
  rcases Nat.mod_two_eq_zero_or_one n with k | k <;> rw [k] at e <;> omega
theorem sts_zero (k : Nat) : ∀ {n}, n < 4294967296 → sts k n = 0 → n = 0 := by
  induction k with
  | zero => intro n _ h; exact h
  | succ k ih => intro n h hz; exact st_zero h (ih (st_lt h) hz)
theorem sts_0 (k : Nat) : sts k 0 = 0 := by
  induction k with
  | zero => rfl
  | succ k ih => exact ih

theorem byte_lt (b : UInt8) : b.toNat < 4294967296 := Nat.lt_trans b.toNat_lt (by decide)
theorem reg_nil (r : Nat) : reg r [] = r := rfl
theorem reg_snoc (r : Nat) (l : List UInt8) (b : UInt8) : reg r (l ++ [b]) = sts 8 (reg r l ^^^ b.toNat) := by
  simp [reg]
theorem reg_app (r : Nat) (a b : List UInt8) : reg r (a ++ b) = reg (reg r a) b := by simp [reg]
theorem xor_lt {a b : Nat} (ha : a < 4294967296) (hb : b < 4294967296) : a ^^^ b < 4294967296 := Nat.xor_lt_two_pow (n := 32) ha hb
theorem reg_lt {r : Nat} (h : r < 4294967296) (l : List UInt8) : reg r l < 4294967296 := by
  induction l generalizing r with
  | nil => exact h
  | cons b l ih => exact ih (sts_lt 8 (xor_lt h (byte_lt b)))

/-- The low and the high part of a number, put on one another. -/
theorem add_xor (k : Nat) {b : Nat} (h : b < 2 ^ k) (m : Nat) : b + 2 ^ k * m = b ^^^ (2 ^ k * m) := by
  have e : 2 ^ k * m ^^^ b = 2 ^ k * m + b := by
    apply Nat.eq_of_testBit_eq
    intro i
    rw [Nat.testBit_xor, Nat.testBit_two_pow_mul_add _ h, Nat.testBit_two_pow_mul]
    by_cases c : i < k
    · have : ¬ i ≥ k := by omega
      simp [c, this]
    · have h2 : b.testBit i = false := Nat.testBit_lt_two_pow (Nat.lt_of_lt_of_le h (Nat.pow_le_pow_right (by omega) (by omega)))
      have : i ≥ k := by omega
      simp [c, this, h2]
  rw [Nat.xor_comm, e, Nat.add_comm]
theorem reg_le (l : List UInt8) : ∀ r, reg r l = sts (8 * l.length) (r ^^^ le l) := by
  induction l with
  | nil => intro r; simp [reg, le, sts]
  | cons b l ih =>
    intro r
    have e1 : reg r (b :: l) = reg (sts 8 (r ^^^ b.toNat)) l := rfl
    have e2 : 8 * (b :: l).length = 8 + 8 * l.length := by rw [List.length_cons]; omega
    have e3 : le (b :: l) = b.toNat ^^^ (2 ^ 8 * le l) := by
      have := add_xor 8 (b := b.toNat) b.toNat_lt (le l)
      rw [← this]; rfl
    rw [e1, ih, e2, sts_add, e3, ← Nat.xor_assoc, sts_xor 8 _ (2 ^ 8 * le l), sts_pow]

/-- Two unlike lists of bytes that differ within 32 neighbouring bits leave unlike numbers. -/
theorem reg_apart {r : Nat} {a b : List UInt8} (hl : a.length = b.length) {first w : Nat} (hw : w < 4294967296) (hw0 : w ≠ 0) (hf : first ≤ 8 * a.length)
    (hx : le a ^^^ le b = 2 ^ first * w) : reg r a ≠ reg r b := by
  intro h
  have e : reg r a ^^^ reg r b = 0 := by rw [h, Nat.xor_self]
  rw [reg_le, reg_le, ← hl, ← sts_xor, xor_swap, Nat.xor_self, Nat.zero_xor, hx] at e
  have e2 : 8 * a.length = first + (8 * a.length - first) := by omega
  rw [e2, sts_add, sts_pow] at e
  exact hw0 (sts_zero _ hw e)

/-- The sum. -/
def more (sum : Nat) (l : List UInt8) : Nat := reg (sum ^^^ 4294967295) l ^^^ 4294967295
theorem more_lt {sum : Nat} (h : sum < 4294967296) (l : List UInt8) : more sum l < 4294967296 := xor_lt (reg_lt (xor_lt h (by decide)) l) (by decide)
theorem more_app (sum : Nat) (a b : List UInt8) : more (more sum a) b = more sum (a ++ b) := by
  unfold more
  rw [Nat.xor_assoc, Nat.xor_self, Nat.xor_zero, reg_app]

/-- The four bytes of a sum, the lowest first. -/
def tl (n : Nat) : List UInt8 := [UInt8.ofNat (n % 256), UInt8.ofNat (n / 256 % 256), UInt8.ofNat (n / 65536 % 256), UInt8.ofNat (n / 16777216 % 256)]
theorem le_tl {n : Nat} (h : n < 4294967296) : le (tl n) = n := by
  simp only [tl, le, UInt8.toNat_ofNat']; omega
theorem tl_length (n : Nat) : (tl n).length = 4 := rfl

/-- Bytes that end in their sum leave one and the same number. -/
theorem reg_closed (l : List UInt8) : reg 4294967295 (l ++ tl (more 0 l)) = sts 32 4294967295 := by
  rw [reg_app, reg_le (tl _), tl_length, le_tl (more_lt (by decide) l)]
  unfold more
  rw [Nat.zero_xor, ← Nat.xor_assoc, Nat.xor_self, Nat.zero_xor]

/-- Half a byte's steps at once, by a table. -/
def half : Nat → Nat
  | 0 => 0 | 1 => 498536548 | 2 => 997073096 | 3 => 651767980 | 4 => 1994146192 | 5 => 1802195444 | 6 => 1303535960 | 7 => 1342533948
  | 8 => 3988292384 | 9 => 4027552580 | 10 => 3604390888 | 11 => 3412177804 | 12 => 2607071920 | 13 => 2262029012 | 14 => 2685067896 | 15 => 3183342108 | _ => 0
theorem half_is : ∀ r : Nat, r < 16 → sts 4 r = half r := by decide
theorem half_step (n : Nat) : n / 16 ^^^ half (n % 16) = sts 4 n := by
  have h : n % 16 < 16 := Nat.mod_lt _ (by decide)
  have e : n = n % 16 ^^^ (2 ^ 4 * (n / 16)) := by rw [← add_xor 4 h]; omega
  have e2 : sts 4 n = sts 4 (n % 16 ^^^ (2 ^ 4 * (n / 16))) := by rw [← e]
  rw [e2, sts_xor, sts_pow, half_is _ h, Nat.xor_comm]
theorem half_lt : ∀ r : Nat, r < 16 → half r < 4294967296 := by decide
theorem two_halves (n : Nat) : sts 8 n = sts 4 (sts 4 n) := sts_add 4 4 n
end CrcPlain
end Go.Proofs.YtgopodgjnblgkaaDoor

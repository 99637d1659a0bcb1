/- In one text: CrcPlain, CrcMore, CrcRmore, Conv, CrcClose, OctPlain. -/
import Derived.Test.YtignfbdgpgidpaaGreatDoorRows
import Derived.WalkKit
import Derived.Test.YtignfbdgpgidpaaGreatDoorW00
import Derived.Laws.BitsAllLaws
import Derived.Laws.IdiomStrings
/- Plain facts on the sum of bytes, without the model: one step is linear and loses nothing. -/
namespace Go.Proofs.YtignfbdgpgidpaaGreatDoor
namespace CrcPlain
def st (n : Nat) : Nat := n / 2 ^^^ (n % 2 * 3988292384)
def sts : Nat → Nat → Nat
  | 0, n => n
  | k + 1, n => sts k (st n)
def le : List UInt8 → Nat
  | [] => 0
  | b :: l => b.toNat + 256 * le l
def reg (r : Nat) (l : List UInt8) : Nat := l.foldl (fun r b => sts 8 (r ^^^ b.toNat)) r
theorem xor_div2 (a b : Nat) : (a ^^^ b) / 2 = a / 2 ^^^ b / 2 := Nat.xor_div_two
theorem xor_mod2 (a b : Nat) : (a ^^^ b) % 2 = (a % 2 + b % 2) % 2 := by
  have h := Nat.xor_mod_two_pow (a := a) (b := b) (n := 1)
  rw [Nat.pow_one] at h
  rw [h]
  rcases Nat.mod_two_eq_zero_or_one a with h | h <;> rcases Nat.mod_two_eq_zero_or_one b with k | k <;> rw [h, k] <;> rfl
theorem xor_swap (a b c d : Nat) : (a ^^^ b) ^^^ (c ^^^ d) = (a ^^^ c) ^^^ (b ^^^ d) := by
  rw [Nat.xor_assoc, Nat.xor_assoc, ← Nat.xor_assoc b, Nat.xor_comm b c, Nat.xor_assoc c]
theorem st_xor (a b : Nat) : st (a ^^^ b) = st a ^^^ st b := by
  unfold st
  rw [xor_div2, xor_swap, xor_mod2]
  congr 1
  rcases Nat.mod_two_eq_zero_or_one a with h | h <;> rcases Nat.mod_two_eq_zero_or_one b with k | k <;> simp [h, k]
theorem sts_xor (k : Nat) : ∀ a b, sts k (a ^^^ b) = sts k a ^^^ sts k b := by
  induction k with
  | zero => intro a b; rfl
  | succ k ih => intro a b; rw [sts, st_xor, ih]; rfl
theorem st_double (a : Nat) : st (2 * a) = a := by
  unfold st
  have h1 : 2 * a / 2 = a := by omega
  have h2 : 2 * a % 2 = 0 := by omega
  rw [h1, h2, Nat.zero_mul, Nat.xor_zero]
theorem sts_pow (k : Nat) : ∀ a, sts k (2 ^ k * a) = a := by
  induction k with
  | zero => intro a; simp [sts]
  | succ k ih =>
    intro a
    have e : 2 ^ (k + 1) * a = 2 * (2 ^ k * a) := by rw [Nat.pow_succ, Nat.mul_comm (2 ^ k) 2, Nat.mul_assoc]
    rw [sts, e, st_double, ih]
theorem sts_add (j k n : Nat) : sts (j + k) n = sts k (sts j n) := by
  induction j generalizing n with
  | zero => simp [sts]
  | succ j ih => rw [Nat.add_right_comm, sts, ih]; rfl
theorem st_lt {n : Nat} (h : n < 4294967296) : st n < 4294967296 := by
  unfold st
  have h2 : n % 2 * 3988292384 < 2 ^ 32 := by rcases Nat.mod_two_eq_zero_or_one n with k | k <;> rw [k] <;> decide
  exact Nat.xor_lt_two_pow (n := 32) (by omega) h2
theorem sts_lt (k : Nat) : ∀ {n}, n < 4294967296 → sts k n < 4294967296 := by
  induction k with
  | zero => intro n h; exact h
  | succ k ih => intro n h; exact ih (st_lt h)
theorem xor_eq_zero {a b : Nat} (h : a ^^^ b = 0) : a = b := by
  have := congrArg (fun x => x ^^^ b) h
  simpa [Nat.xor_assoc] using this
theorem st_zero {n : Nat} (h : n < 4294967296) (hz : st n = 0) : n = 0 := by
  unfold st at hz
  have e := xor_eq_zero hz
  rcases Nat.mod_two_eq_zero_or_one n with k | k <;> rw [k] at e <;> omega
theorem sts_zero (k : Nat) : ∀ {n}, n < 4294967296 → sts k n = 0 → n = 0 := by
  induction k with
  | zero => intro n _ h; exact h
  | succ k ih => intro n h hz; exact st_zero h (ih (st_lt h) hz)
theorem byte_lt (b : UInt8) : b.toNat < 4294967296 := Nat.lt_trans b.toNat_lt (by decide)
theorem reg_snoc (r : Nat) (l : List UInt8) (b : UInt8) : reg r (l ++ [b]) = sts 8 (reg r l ^^^ b.toNat) := by
  simp [reg]
theorem reg_app (r : Nat) (a b : List UInt8) : reg r (a ++ b) = reg (reg r a) b := by simp [reg]
theorem xor_lt {a b : Nat} (ha : a < 4294967296) (hb : b < 4294967296) : a ^^^ b < 4294967296 := Nat.xor_lt_two_pow (n := 32) ha hb
theorem reg_lt {r : Nat} (h : r < 4294967296) (l : List UInt8) : reg r l < 4294967296 := by
  induction l generalizing r with
  | nil => exact h
  | cons b l ih => exact ih (sts_lt 8 (xor_lt h (byte_lt b)))
theorem add_xor (k : Nat) {b : Nat} (h : b < 2 ^ k) (m : Nat) : b + 2 ^ k * m = b ^^^ (2 ^ k * m) := by
  have e : 2 ^ k * m ^^^ b = 2 ^ k * m + b := by
    apply Nat.eq_of_testBit_eq
    intro i
    rw [Nat.testBit_xor, Nat.testBit_two_pow_mul_add _ h, Nat.testBit_two_pow_mul]
    by_cases c : i < k
    · have : ¬ i ≥ k := by omega
      simp [c, this]
    · have h2 : b.testBit i = false := Nat.testBit_lt_two_pow (Nat.lt_of_lt_of_le h (Nat.pow_le_pow_right (by omega) (by omega)))
      have : i ≥ k := by omega
      simp [c, this, h2]
  rw [Nat.xor_comm, e, Nat.add_comm]
theorem reg_le (l : List UInt8) : ∀ r, reg r l = sts (8 * l.length) (r ^^^ le l) := by
  induction l with
  | nil => intro r; simp [reg, le, sts]
  | cons b l ih =>
    intro r
    have e1 : reg r (b :: l) = reg (sts 8 (r ^^^ b.toNat)) l := rfl
    have e2 : 8 * (b :: l).length = 8 + 8 * l.length := by rw [List.length_cons]; omega
    have e3 : le (b :: l) = b.toNat ^^^ (2 ^ 8 * le l) := by
      have := add_xor 8 (b := b.toNat) b.toNat_lt (le l)
      rw [← this]; rfl
    rw [e1, ih, e2, sts_add, e3, ← Nat.xor_assoc, sts_xor 8 _ (2 ^ 8 * le l), sts_pow]
theorem reg_apart {r : Nat} {a b : List UInt8} (hl : a.length = b.length) {first w : Nat} (hw : w < 4294967296) (hw0 : w ≠ 0) (hf : first ≤ 8 * a.length)
    (hx : le a ^^^ le b = 2 ^ first * w) : reg r a ≠ reg r b := by
  intro h
  have e : reg r a ^^^ reg r b = 0 := by rw [h, Nat.xor_self]
  rw [reg_le, reg_le, ← hl, ← sts_xor, xor_swap, Nat.xor_self, Nat.zero_xor, hx] at e
  have e2 : 8 * a.length = first + (8 * a.length - first) := by omega
  rw [e2, sts_add, sts_pow] at e
  exact hw0 (sts_zero _ hw e)
def more (sum : Nat) (l : List UInt8) : Nat := reg (sum ^^^ 4294967295) l ^^^ 4294967295
theorem more_lt {sum : Nat} (h : sum < 4294967296) (l : List UInt8) : more sum l < 4294967296 := xor_lt (reg_lt (xor_lt h (by decide)) l) (by decide)
theorem more_app (sum : Nat) (a b : List UInt8) : more (more sum a) b = more sum (a ++ b) := by
  unfold more
  rw [Nat.xor_assoc, Nat.xor_self, Nat.xor_zero, reg_app]
def tl (n : Nat) : List UInt8 := [UInt8.ofNat (n % 256), UInt8.ofNat (n / 256 % 256), UInt8.ofNat (n / 65536 % 256), UInt8.ofNat (n / 16777216 % 256)]
theorem le_tl {n : Nat} (h : n < 4294967296) : le (tl n) = n := by
  simp only [tl, le, UInt8.toNat_ofNat']; omega
theorem tl_length (n : Nat) : (tl n).length = 4 := rfl
theorem reg_closed (l : List UInt8) : reg 4294967295 (l ++ tl (more 0 l)) = sts 32 4294967295 := by
  rw [reg_app, reg_le (tl _), tl_length, le_tl (more_lt (by decide) l)]
  unfold more
  rw [Nat.zero_xor, ← Nat.xor_assoc, Nat.xor_self, Nat.zero_xor]
def half : Nat → Nat
  | 0 => 0 | 1 => 498536548 | 2 => 997073096 | 3 => 651767980 | 4 => 1994146192 | 5 => 1802195444 | 6 => 1303535960 | 7 => 1342533948
  | 8 => 3988292384 | 9 => 4027552580 | 10 => 3604390888 | 11 => 3412177804 | 12 => 2607071920 | 13 => 2262029012 | 14 => 2685067896 | 15 => 3183342108 | _ => 0
theorem half_is : ∀ r : Nat, r < 16 → sts 4 r = half r := by decide
theorem half_step (n : Nat) : n / 16 ^^^ half (n % 16) = sts 4 n := by
  have h : n % 16 < 16 := Nat.mod_lt _ (by decide)
  have e : n = n % 16 ^^^ (2 ^ 4 * (n / 16)) := by rw [← add_xor 4 h]; omega
  have e2 : sts 4 n = sts 4 (n % 16 ^^^ (2 ^ 4 * (n / 16))) := by rw [← e]
  rw [e2, sts_xor, sts_pow, half_is _ h, Nat.xor_comm]
theorem half_lt : ∀ r : Nat, r < 16 → half r < 4294967296 := by decide
theorem two_halves (n : Nat) : sts 8 n = sts 4 (sts 4 n) := sts_add 4 4 n
end CrcPlain
end Go.Proofs.YtignfbdgpgidpaaGreatDoor
/- Contracts of the sum of bytes, half a byte at once by a table: each by a walk of its text. -/
namespace Go.Proofs.YtignfbdgpgidpaaGreatDoor
open Go.RowKit CrcPlain
set_option linter.unusedVariables false
set_option linter.unusedSimpArgs false
set_option maxRecDepth 20000
def halves : Array Value := #[.int .u32 0, .int .u32 498536548, .int .u32 997073096, .int .u32 651767980, .int .u32 1994146192, .int .u32 1802195444, .int .u32 1303535960, .int .u32 1342533948, .int .u32 3988292384, .int .u32 4027552580, .int .u32 3604390888, .int .u32 3412177804, .int .u32 2607071920, .int .u32 2262029012, .int .u32 2685067896, .int .u32 3183342108]
set_option maxHeartbeats 1000000 in
theorem halves_c (w : World) : Calls Tryz.prog 170 #[] w fun e w' => e = .returned (.agg halves) ∧ Gr w w' := by
  go_enter Tryz.func170, Tryz.ntmps170
  go_wp2_with fail
  refine bodyPost_ret (v := .agg halves) (by simp [results, Tryz.results170, go_sem, halves]) rfl ⟨rfl, Gr.of (by go_grown)⟩
theorem xnot (m : Nat) (h : m < 4294967296) : bits .xor .u32 IntKind.u32.max (m : Int) = ((m ^^^ 4294967295 : Nat) : Int) := by
  have e : IntKind.u32.max = ((4294967295 : Nat) : Int) := rfl
  rw [e, u32_xor_nat _ _ (by decide) h, Nat.xor_comm]
theorem and15 (m : Nat) (h : m < 4294967296) : bits .and .u32 (m : Int) 15 = ((m % 16 : Nat) : Int) := by
  have e := u32_and_nat m 15 h (by decide)
  rw [Nat.and_two_pow_sub_one_eq_mod m 4] at e
  exact e
theorem halves_cell (u W : World) (h : W = u.alloc (.cells halves 204)) : u.heap.size < W.heap.size ∧ ∀ j : Nat, j < 16 → W.cell? ⟨u.heap.size, j, none⟩ = some (.int .u32 (half j : Nat)) := by
  subst h
  refine ⟨by simp, ?_⟩
  intro j hj
  have : j = 0 ∨ j = 1 ∨ j = 2 ∨ j = 3 ∨ j = 4 ∨ j = 5 ∨ j = 6 ∨ j = 7 ∨ j = 8 ∨ j = 9 ∨ j = 10 ∨ j = 11 ∨ j = 12 ∨ j = 13 ∨ j = 14 ∨ j = 15 := by omega
  rcases this with rfl | rfl | rfl | rfl | rfl | rfl | rfl | rfl | rfl | rfl | rfl | rfl | rfl | rfl | rfl | rfl <;> (go_simp; rfl)
theorem half_round (m : Nat) (h : m < 4294967296) : ∃ j v n : Nat, j < 16 ∧ v = half j ∧ n < 4294967296 ∧ bits .and .u32 (m : Int) 15 = (j : Int) ∧ bits .xor .u32 ((m : Int) / 16) (v : Int) = (n : Int) ∧ n = sts 4 m := by
  have hj : m % 16 < 16 := Nat.mod_lt _ (by decide)
  have hv := half_lt _ hj
  have hd : m / 16 < 4294967296 := by omega
  have e : ((m / 16 : Nat) : Int) = (m : Int) / 16 := by omega
  refine ⟨m % 16, half (m % 16), m / 16 ^^^ half (m % 16), hj, rfl, xor_lt hd hv, and15 m h, ?_, half_step m⟩
  rw [← e]
  exact u32_xor_nat _ _ hd hv
theorem byte_round (m : Nat) (h : m < 4294967296) (b : UInt8) : ∃ n : Nat, n < 4294967296 ∧ bits .xor .u32 (m : Int) ((b.toNat : Int) % 4294967296) = (n : Int) ∧ n = m ^^^ b.toNat := by
  have hb := byte_lt b
  have e : (b.toNat : Int) % 4294967296 = (b.toNat : Int) := by omega
  refine ⟨m ^^^ b.toNat, xor_lt h hb, ?_, rfl⟩
  rw [e]
  exact u32_xor_nat _ _ h hb
theorem take_snoc (s : ByteArray) (k : Nat) (h : k < s.size) : s.data.toList.take (k + 1) = s.data.toList.take k ++ [s[k]] := by
  rw [List.take_succ_eq_append_getElem (by simpa using h)]; rfl
set_option maxHeartbeats 1000000 in
theorem more_c (sum : Nat) (hsum : sum < 4294967296) (s : ByteArray) (hz : s.size ≤ 1000) (w : World) :
    Calls Tryz.prog 146 #[.int .u32 (sum : Int), .string s] w fun e w' => e = .returned (.int .u32 (more sum s.data.toList : Nat)) ∧ Gr w w' := by
  have hr0 := xor_lt hsum (b := 4294967295) (by decide)
  have hx0 := xnot sum hsum
  unfold more
  generalize sum ^^^ 4294967295 = r0 at hr0 hx0 ⊢
  go_enter Tryz.func146, Tryz.ntmps146
  go_wp2_with fail
  refine (halves_c _).mono ?_; rintro e u ⟨rfl, g⟩
  unfold halves
  go_wp2_with fail
  obtain ⟨W, hW⟩ : ∃ W, W = u.alloc (.cells halves 204) := ⟨_, rfl⟩
  unfold halves at hW
  rw [← hW]
  obtain ⟨hsz, hcell⟩ := halves_cell u W hW
  clear hx0
  have HW := Lib.hid hW
  have HC := Lib.hid hcell
  clear hW hcell
  go_loop [6, 13] (fun n i => ∃ k : Nat, k ≤ s.size ∧ i = .int .i64 k ∧ n = .int .u32 (reg r0 (s.data.toList.take k) : Nat)) (fun _ i => s.size - (intOf i).toNat)
  case atStart => exact ⟨0, Nat.zero_le _, rfl, rfl⟩
  case round =>
    obtain ⟨k, hk, rfl, rfl⟩ := hrel
    have hl := reg_lt hr0 (s.data.toList.take k)
    have hls := reg_lt hr0 s.data.toList
    by_cases hlt : k < s.size
    · obtain ⟨m, hm⟩ : ∃ m, m = reg r0 (s.data.toList.take k) := ⟨_, rfl⟩
      rw [← hm] at hl ⊢
      obtain ⟨m1, l1, q1, p1⟩ := byte_round m hl s[k]
      obtain ⟨j1, v1, m2, lj1, pv1, l2, q2, q3, p2⟩ := half_round m1 l1
      obtain ⟨j2, v2, m3, lj2, pv2, l3, q4, q5, p3⟩ := half_round m2 l2
      have c1 := HC.out j1 lj1
      have c2 := HC.out j2 lj2
      rw [← pv1] at c1
      rw [← pv2] at c2
      have hend : reg r0 (s.data.toList.take (k + 1)) = m3 := by rw [take_snoc s k hlt, reg_snoc, ← hm, ← p1, two_halves, ← p2, ← p3]
      have HE := Lib.hid hend
      clear hm p1 pv1 p2 pv2 p3 hend
      go_wp2_with fail
      go_round
      case rel => exact ⟨k + 1, by omega, by go_num, by rw [HE.out]⟩
      case measure => simp [intOf]; omega
    · obtain rfl : k = s.size := by omega
      rw [List.take_of_length_le (by simp)] at hl ⊢
      have hx1 := xnot _ hls
      have HX := Lib.hid hx1
      clear hx1
      go_wp2_with fail
      go_ret
      exact ⟨ret_u (HX.out), Gr.trans g (Gr.of (by rw [HW.out]; go_grown))⟩
end Go.Proofs.YtignfbdgpgidpaaGreatDoor
/- The contract of the document's own sum, bit by bit: by a walk of its text. -/
namespace Go.Proofs.YtignfbdgpgidpaaGreatDoor
open Go.RowKit CrcPlain
set_option linter.unusedVariables false
set_option linter.unusedSimpArgs false
set_option maxRecDepth 20000
theorem xnot2 (m : Nat) (h : m < 4294967296) : bits .xor .u32 (m : Int) 4294967295 = ((m ^^^ 4294967295 : Nat) : Int) := u32_xor_nat m 4294967295 h (by decide)
theorem bit_odd (m : Nat) (h : m < 4294967296) (ho : m % 2 = 1) : bits .xor .u32 ((m : Int) / 2) 3988292384 = ((st m : Nat) : Int) := by
  have e : ((m / 2 : Nat) : Int) = (m : Int) / 2 := by omega
  rw [← e]
  have := u32_xor_nat (m / 2) 3988292384 (by omega) (by decide)
  unfold st; rw [ho, Nat.one_mul]; exact this
theorem bit_even (m : Nat) (ho : m % 2 = 0) : ((m : Int) / 2) = ((st m : Nat) : Int) := by
  have e : ((m / 2 : Nat) : Int) = (m : Int) / 2 := by omega
  rw [← e]; unfold st; rw [ho, Nat.zero_mul, Nat.xor_zero]
theorem sts_next (j m : Nat) : sts (j + 1) m = st (sts j m) := sts_add j 1 m
set_option maxHeartbeats 1000000 in
theorem rmore_c (sum : Nat) (hsum : sum < 4294967296) (s : ByteArray) (hz : s.size ≤ 1000) (w : World) :
    Calls Tryz.prog 49 #[.int .u32 (sum : Int), .string s] w fun e w' => e = .returned (.int .u32 (more sum s.data.toList : Nat)) ∧ w = w' := by
  have hr0 := xor_lt hsum (b := 4294967295) (by decide)
  have hx0 := xnot2 sum hsum
  unfold more
  generalize sum ^^^ 4294967295 = r0 at hr0 hx0 ⊢
  go_enter Tryz.func49, Tryz.ntmps49
  go_wp2_with fail
  clear hx0
  go_loop [5, 6] (fun n i => ∃ k : Nat, k ≤ s.size ∧ i = .int .i64 k ∧ n = .int .u32 (reg r0 (s.data.toList.take k) : Nat)) (fun _ i => s.size - (intOf i).toNat)
  case atStart => exact ⟨0, Nat.zero_le _, rfl, rfl⟩
  case round =>
    obtain ⟨k, hk, rfl, rfl⟩ := hrel
    have hl := reg_lt hr0 (s.data.toList.take k)
    have hls := reg_lt hr0 s.data.toList
    by_cases hlt : k < s.size
    · obtain ⟨m, hm⟩ : ∃ m, m = reg r0 (s.data.toList.take k) := ⟨_, rfl⟩
      rw [← hm] at hl ⊢
      obtain ⟨m1, l1, q1, p1⟩ := byte_round m hl s[k]
      have hend : reg r0 (s.data.toList.take (k + 1)) = sts 8 m1 := by rw [take_snoc s k hlt, reg_snoc, ← hm, ← p1]
      have HE := Lib.hid hend
      clear hm p1 hend
      go_wp2_with fail
      go_loop [5, 7] (fun n i => ∃ j : Nat, j ≤ 8 ∧ i = .int .i64 j ∧ n = .int .u32 (sts j m1 : Nat)) (fun _ i => 8 - (intOf i).toNat)
      case atStart => exact ⟨0, Nat.zero_le _, rfl, rfl⟩
      case round =>
        obtain ⟨j, hj, rfl, rfl⟩ := hrel
        have ln := sts_lt j l1
        have hsn := sts_next j m1
        obtain ⟨n, hn⟩ : ∃ n, n = sts j m1 := ⟨_, rfl⟩
        rw [← hn] at ln hsn ⊢
        have HN := Lib.hid hn
        have HS := Lib.hid hsn
        clear hn hsn
        by_cases hj8 : j < 8
        · by_cases ho : n % 2 = 1
          · have q2 := bit_odd n ln ho
            have q3 : (n : Int) % 2 = 1 := by omega
            go_wp2_with fail
            go_round
            case rel => exact ⟨j + 1, by omega, by go_num, by rw [HS.out]⟩
            case measure => simp [intOf]; omega
          · have q2 := bit_even n (by omega)
            have q3 : (n : Int) % 2 = 0 := by omega
            go_wp2_with fail
            go_round
            case rel => exact ⟨j + 1, by omega, by go_num, by rw [HS.out]⟩
            case measure => simp [intOf]; omega
        · obtain rfl : j = 8 := by omega
          go_wp2_with fail
          go_round
          case rel => exact ⟨k + 1, by omega, by go_num, by rw [HE.out, HN.out]⟩
          case measure => simp [intOf]; omega
    · obtain rfl : k = s.size := by omega
      rw [List.take_of_length_le (by simp)] at hl ⊢
      have hx1 := xnot2 _ hls
      have HX := Lib.hid hx1
      clear hx1
      go_wp2_with fail
      go_ret
      exact ⟨ret_u (HX.out), rfl⟩
end Go.Proofs.YtignfbdgpgidpaaGreatDoor
/- A slice of bytes as a string, by its cells. -/
namespace Go.Proofs.YtignfbdgpgidpaaGreatDoor
open Go.RowKit
set_option linter.unusedVariables false
set_option linter.unusedSimpArgs false
set_option maxRecDepth 20000
theorem conv_list (W : World) (a : Addr) (k : Nat) (l : List UInt8) (hl : l.length = k) (hc : ∀ j x, l[j]? = some x → W.cell? (a.add j) = some (.int .u8 (x.toNat : Int))) :
    (convert 94 9 (.slice (some a) k k)).run Tryz.prog W = .ok (.string (bs l)) W := by
  subst hl
  exact run_convert_bytes_back (P := Tryz.prog) W 94 9 5 a l.length l Tryz.underlying94 Tryz.underlying5 Tryz.underlying9 (fun j hj => hc j l[j] (by simp))
end Go.Proofs.YtignfbdgpgidpaaGreatDoor
/- Contracts of Of, the bytes of a sum, Close and Open, and of the document's own answers: by walks of their texts. -/
namespace Go.Proofs.YtignfbdgpgidpaaGreatDoor
open Go.RowKit CrcPlain
set_option linter.unusedVariables false
set_option linter.unusedSimpArgs false
set_option maxRecDepth 20000
theorem conv4 (T : TypeId) (n : Nat) (hn : n < 4294967296) (u : World) :
    (convert 94 9 (.slice (some ⟨u.heap.size, 0, none⟩) 4 4)).run Tryz.prog (u.alloc (.cells #[Value.int IntKind.u8 ((n : Int) % 256), Value.int IntKind.u8 ((n : Int) / 256 % 256), Value.int IntKind.u8 ((n : Int) / 65536 % 256), Value.int IntKind.u8 ((n : Int) / 16777216)] T)) =
      .ok (.string (bs (tl n))) (u.alloc (.cells #[Value.int IntKind.u8 ((n : Int) % 256), Value.int IntKind.u8 ((n : Int) / 256 % 256), Value.int IntKind.u8 ((n : Int) / 65536 % 256), Value.int IntKind.u8 ((n : Int) / 16777216)] T)) := by
  refine conv_list _ _ _ _ (tl_length n) ?_
  intro j x hx
  have hj : j < 4 := by
    have := (List.getElem?_eq_some_iff.1 hx).1
    rw [tl_length] at this; exact this
  have ea : Addr.add ⟨u.heap.size, 0, none⟩ j = ⟨u.heap.size, j, none⟩ := by by_cases h : j = 0 <;> simp [Addr.add, h]
  rw [ea, World.cell?_alloc_mark]
  have hj4 : j = 0 ∨ j = 1 ∨ j = 2 ∨ j = 3 := by omega
  rcases hj4 with rfl | rfl | rfl | rfl <;> (simp [tl] at hx; subst hx; simp; try omega)
set_option maxHeartbeats 1000000 in
theorem of_c (s : ByteArray) (hz : s.size ≤ 1000) (w : World) :
    Calls Tryz.prog 116 #[.string s] w fun e w' => e = .returned (.int .u32 (more 0 s.data.toList : Nat)) ∧ Gr w w' := by
  go_enter Tryz.func116, Tryz.ntmps116
  go_wp2_with fail
  refine (more_c 0 (by decide) s hz _).mono ?_; rintro e u ⟨rfl, g⟩
  go_wp2_with fail
  go_ret
  exact ⟨rfl, g⟩
set_option maxHeartbeats 1000000 in
theorem rof_c (s : ByteArray) (hz : s.size ≤ 1000) (w : World) :
    Calls Tryz.prog 141 #[.string s] w fun e w' => e = .returned (.int .u32 (more 0 s.data.toList : Nat)) ∧ w = w' := by
  go_enter Tryz.func141, Tryz.ntmps141
  go_wp2_with fail
  refine (rmore_c 0 (by decide) s hz _).mono ?_; rintro e u ⟨rfl, rfl⟩
  go_wp2_with fail
  go_ret
  exact ⟨rfl, rfl⟩
set_option maxHeartbeats 1000000 in
theorem tail_c (n : Nat) (hn : n < 4294967296) (w : World) :
    Calls Tryz.prog 115 #[.int .u32 (n : Int)] w fun e w' => e = .returned (.string (bs (tl n))) ∧ Gr w w' := by
  have hc := conv4 184 n hn
  go_enter Tryz.func115, Tryz.ntmps115
  go_wp2_with fail
  go_rounds 5
  go_ret
  exact ⟨rfl, Gr.of (by go_grown)⟩
def cl (s : ByteArray) : ByteArray := s ++ bs (tl (more 0 s.data.toList))
theorem cl_size (s : ByteArray) : (cl s).size = s.size + 4 := by unfold cl; rw [ByteArray.size_append, bs_size, tl_length]
set_option maxHeartbeats 1000000 in
theorem close_c (s : ByteArray) (hz : s.size ≤ 1000) (w : World) :
    Calls Tryz.prog 87 #[.string s] w fun e w' => e = .returned (.string (cl s)) ∧ Gr w w' := by
  have h4 : (bs (tl (more 0 s.data.toList))).size = 4 := by rw [bs_size, tl_length]
  go_enter Tryz.func87, Tryz.ntmps87
  go_wp2_with fail
  refine (of_c s hz _).mono ?_; rintro e u ⟨rfl, g⟩
  go_wp2_with fail
  refine (tail_c _ (more_lt (by decide) _) _).mono ?_; rintro e u2 ⟨rfl, g2⟩
  go_wp2_with fail
  go_ret
  exact ⟨rfl, g.trans g2⟩
theorem and255 (m : Nat) (h : m < 4294967296) : bits .and .u32 (m : Int) 255 = (m : Int) % 256 := by
  have e := u32_and_nat m 255 h (by decide)
  rw [Nat.and_two_pow_sub_one_eq_mod m 8] at e
  rw [Int.natCast_emod] at e
  exact e
set_option maxHeartbeats 1000000 in
theorem rclose_c (s : ByteArray) (hz : s.size ≤ 1000) (w : World) :
    Calls Tryz.prog 106 #[.string s] w fun e w' => e = .returned (.string (cl s)) ∧ Gr w w' := by
  have h4 : (bs (tl (more 0 s.data.toList))).size = 4 := by rw [bs_size, tl_length]
  have hn := more_lt (sum := 0) (by decide) s.data.toList
  have R := fun w => rof_c s hz w
  unfold cl
  generalize more 0 s.data.toList = n at R hn h4 ⊢
  go_enter Tryz.func106, Tryz.ntmps106
  go_wp2_with fail
  refine (R _).mono ?_; rintro e u ⟨rfl, rfl⟩
  have hc := conv4 5 n hn
  have q1 := and255 n hn
  have q2 : bits .and .u32 ((n : Int) / 256) 255 = (n : Int) / 256 % 256 := by
    have := and255 (n / 256) (by omega); rw [Int.natCast_ediv] at this; exact this
  have q3 : bits .and .u32 ((n : Int) / 65536) 255 = (n : Int) / 65536 % 256 := by
    have := and255 (n / 65536) (by omega); rw [Int.natCast_ediv] at this; exact this
  go_wp2_with fail
  go_ret
  exact ⟨rfl, Gr.of (by go_grown)⟩
end Go.Proofs.YtignfbdgpgidpaaGreatDoor
/- Plain facts on bytes of numbers, without the model: the highest byte first. -/
namespace Go.Proofs.YtignfbdgpgidpaaGreatDoor
namespace OctPlain
def beL : Nat → Nat → List UInt8
  | 0, _ => []
  | k + 1, n => beL k (n / 256) ++ [UInt8.ofNat (n % 256)]
theorem beL_length (k : Nat) : ∀ n, (beL k n).length = k := by
  induction k with
  | zero => intro n; rfl
  | succ k ih => intro n; simp [beL, ih]
theorem beL_top (k : Nat) : ∀ n, beL (k + 1) n = UInt8.ofNat (n / 256 ^ k % 256) :: beL k n := by
  induction k with
  | zero => intro n; simp [beL]
  | succ k ih =>
    intro n
    have h := ih (n / 256)
    rw [beL, h, beL, Nat.div_div_eq_div_mul, ← Nat.pow_succ', List.cons_append]
def num (l : List UInt8) : Nat := l.foldl (fun v b => v * 256 + b.toNat) 0
theorem num_snoc (l : List UInt8) (b : UInt8) : num (l ++ [b]) = num l * 256 + b.toNat := by
  simp [num]
theorem fold_eq (l : List UInt8) : ∀ v, l.foldl (fun v b => v * 256 + b.toNat) v = v * 256 ^ l.length + num l := by
  induction l with
  | nil => intro v; simp [num]
  | cons b l ih =>
    intro v
    have h1 := ih (v * 256 + b.toNat)
    have h2 := ih (0 * 256 + b.toNat)
    have e : num (b :: l) = l.foldl (fun v b => v * 256 + b.toNat) (0 * 256 + b.toNat) := rfl
    rw [List.foldl_cons, h1, e, h2, List.length_cons, Nat.pow_succ, Nat.add_mul, Nat.zero_mul, Nat.zero_add, Nat.mul_assoc, Nat.mul_comm 256, Nat.add_assoc]
theorem num_cons (b : UInt8) (l : List UInt8) : num (b :: l) = b.toNat * 256 ^ l.length + num l := by
  have h := fold_eq l (0 * 256 + b.toNat)
  have e : num (b :: l) = l.foldl (fun v b => v * 256 + b.toNat) (0 * 256 + b.toNat) := rfl
  rw [e, h, Nat.zero_mul, Nat.zero_add]
theorem num_lt (l : List UInt8) : num l < 256 ^ l.length := by
  induction l with
  | nil => simp [num]
  | cons b l ih =>
    rw [num_cons, List.length_cons, Nat.pow_succ]
    have hb := b.toNat_lt
    have hb' : b.toNat * 256 ^ l.length ≤ 255 * 256 ^ l.length := Nat.mul_le_mul_right _ (by omega)
    omega
theorem num_beL (k : Nat) : ∀ n, n < 256 ^ k → num (beL k n) = n := by
  induction k with
  | zero => intro n h; simp at h; subst h; rfl
  | succ k ih =>
    intro n h
    rw [Nat.pow_succ] at h
    have hd : n / 256 < 256 ^ k := by omega
    rw [beL, num_snoc, ih _ hd]
    have : (UInt8.ofNat (n % 256)).toNat = n % 256 := by
      rw [UInt8.toNat_ofNat']; omega
    rw [this]; omega
def fitsB (n k : Int) : Bool := decide ((1 ≤ k ∧ k ≤ 8) ∧ 0 ≤ n ∧ n < (256 : Int) ^ k.toNat)
def putS (n k : Int) : ByteArray := if fitsB n k = true then bs (beL k.toNat n.toNat) else bs []
theorem put_no {n k : Int} (h : fitsB n k = false) : putS n k = ⟨#[]⟩ := by simp [putS, h, bs]
theorem dig_cast (n : Int) (hn : 0 ≤ n) (j : Nat) : (n / 256 ^ j % 256).toNat = n.toNat / 256 ^ j % 256 := by
  obtain ⟨N, rfl⟩ : ∃ N : Nat, n = N := ⟨n.toNat, by omega⟩
  have : ((N / 256 ^ j % 256 : Nat) : Int) = (N : Int) / 256 ^ j % 256 := by rw [Int.natCast_emod, Int.natCast_ediv, Int.natCast_pow]; rfl
  rw [← this, Int.toNat_natCast, Int.toNat_natCast]
theorem fits_at {n k : Int} (hk : 1 ≤ k ∧ k ≤ 8) (hn : 0 ≤ n) : fitsB n k = decide (n / 256 ^ k.toNat = 0) := by
  unfold fitsB
  have hp : (0 : Int) < 256 ^ k.toNat := Int.pow_pos (by omega)
  apply decide_eq_decide.2
  constructor
  · intro h; exact Int.ediv_eq_zero_of_lt hn h.2.2
  · intro h
    refine ⟨hk, hn, ?_⟩
    have h1 := Int.emod_lt_of_pos n hp
    have h2 := Int.emod_add_mul_ediv n (256 ^ k.toNat)
    rw [h] at h2
    omega
def cutL (s : ByteArray) (a k : Nat) : List UInt8 := (s.data.toList.drop a).take k
def getB (s : ByteArray) (a k : Int) : Bool := decide ((1 ≤ k ∧ k ≤ 8) ∧ 0 ≤ a ∧ a + k ≤ s.size ∧ num (cutL s a.toNat k.toNat) < 9223372036854775808)
def getN (s : ByteArray) (a k : Int) : Int := if getB s a k = true then (num (cutL s a.toNat k.toNat) : Int) else 0
theorem cutL_length (s : ByteArray) (a k : Nat) (h : a + k ≤ s.size) : (cutL s a k).length = k := by
  have : s.data.toList.length = s.size := Array.length_toList
  simp only [cutL, List.length_take, List.length_drop]; omega
end OctPlain
end Go.Proofs.YtignfbdgpgidpaaGreatDoor

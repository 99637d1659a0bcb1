/- In one text: ScRef1, ScRef2, CrcPlain, OctPlain, MnPlain. -/
import Derived.Test.YtignfbdgpgidpaaGreatDoorK09
import Derived.Test.YtignfbdgpgidpaaGreatDoorRows
import Derived.WalkKit
import Derived.Test.YtignfbdgpgidpaaGreatDoorK00
/- Both disks' List beside other parts; the document's has and Sweep. -/
namespace Go.Proofs.YtignfbdgpgidpaaGreatDoor
open Go.RowKit FsPlain ScPlain
set_option linter.unusedVariables false
set_option linter.unusedSimpArgs false
set_option maxRecDepth 20000
theorem plist_c (p : Nat) (s : St) (w : World) {B : Nat → Prop} (h : DiskA p s w B) (h1 : s.calls ≤ 1000000000000) :
    Calls Tryz.prog 24 #[.pointer (some ⟨p, 0, none⟩)] w (LsGot (DiskA p s.call) s B w) := by
  have hn : listN s = namesL s := by
    obtain ⟨_, m, L, hD⟩ := id h
    unfold listN namesL
    have h1 := hD.sorted
    have h2 : (L.map fun x => x.f.name) = s.fs.map fun f => f.name := by rw [← hD.fs, List.map_map]; rfl
    rw [h2] at h1
    rw [h1, List.map_map]
    rfl
  refine (list18_c p s B w h h1).mono ?_
  rintro e w' (⟨hdn, rfl, B1, hd, ho, hnw⟩ | ⟨hdn, v, rfl, B', hst, n⟩)
  · exact ls_down (T := DiskA p s.call) hdn hd ⟨ho, hnw⟩
  · rw [hn] at hst
    have e : listL s = namesL s := by unfold listL; rw [hdn]; rfl
    have ec : s.call.code = 0 := by rw [code_down, hdn]; rfl
    have hst2 := star_swap hst
    obtain ⟨B1, B2, hr, hd, a, eb⟩ := hst2
    have hl := row_lies hr
    obtain ⟨va, vc, rfl, _⟩ := id hl
    refine ⟨va, vc, by rw [e, ec], B', ⟨B1, B2, ?_, hd, a, eb⟩, n⟩
    rw [e]
    refine ⟨hl, hr.2.2, ?_⟩
    obtain ⟨_, _, e2, _, k⟩ := id hl
    rcases k with k | ⟨b, o, e3, _⟩
    · exact .inl k
    · simp only [Value.slice.injEq] at e2
      refine .inr ⟨b, o, _, _, by rw [e2.1, e3], hr.2.1 b (by rw [e2.1, e3]; rfl)⟩
theorem ps_list {F : FuncId} {args : Array Value} {A : Nat → Prop} {P T : Asn} {L : List Asn} {s : St} {w u : World} (h : Qs A (P :: L) w u) (hT : Fr T) (C : ∀ B1, P u B1 → Calls Tryz.prog F args u (LsGot T s B1 u)) :
    Calls Tryz.prog F args u fun e w' => ∃ (a : Option Addr) (c : Nat), e = .returned (.tuple #[.slice a (listL s).length c, .int .i64 s.call.code]) ∧ Qs A (T :: (L ++ [SlA (.slice a (listL s).length c) (listL s)])) w w' := by
  obtain ⟨hF, B, ⟨B1, B2, p, r, a, e⟩, n⟩ := h
  refine (C B1 p).mono ?_
  rintro e' w' ⟨a', c, rfl, B', q, n1⟩
  refine ⟨a', c, rfl, ?_⟩
  obtain ⟨B3, h3, n3⟩ := star_of (fr_stars hF.2) r a e q n1
  refine Qs.perm (L := SlA (.slice a' (listL s).length c) (listL s) :: T :: L) ⟨⟨fr_sl _ _, hT, hF.2⟩, B3, star_left h3, n.trans n3⟩ ?_
  exact (List.Perm.swap _ _ _).trans (List.Perm.cons _ (List.perm_append_singleton _ _).symm)
end Go.Proofs.YtignfbdgpgidpaaGreatDoor
/- The document's has and Sweep. -/
namespace Go.Proofs.YtignfbdgpgidpaaGreatDoor
open Go.RowKit FsPlain ScPlain
set_option linter.unusedVariables false
set_option linter.unusedSimpArgs false
set_option maxRecDepth 20000
theorem str_eq22 (a b : ByteArray) : (a.toList == b.toList) = decide (a = b) := by
  rw [Lib.toList_data, Lib.toList_data]
  by_cases h : a = b
  · subst h; simp
  · rw [decide_eq_false h, beq_eq_false_iff_ne]
    intro e
    exact h (ByteArray.ext (Array.toList_inj.1 e))
end Go.Proofs.YtignfbdgpgidpaaGreatDoor
/- Plain facts on the sum of bytes, without the model: one step is linear and loses nothing. -/
namespace Go.Proofs.YtignfbdgpgidpaaGreatDoor
namespace CrcPlain
def st (n : Nat) : Nat := n / 2 ^^^ (n % 2 * 3988292384)
def sts : Nat → Nat → Nat
  | 0, n => n
  | k + 1, n => sts k (st n)
def le : List UInt8 → Nat
  | [] => 0
  | b :: l => b.toNat + 256 * le l
def reg (r : Nat) (l : List UInt8) : Nat := l.foldl (fun r b => sts 8 (r ^^^ b.toNat)) r
theorem xor_div2 (a b : Nat) : (a ^^^ b) / 2 = a / 2 ^^^ b / 2 := Nat.xor_div_two
theorem xor_mod2 (a b : Nat) : (a ^^^ b) % 2 = (a % 2 + b % 2) % 2 := by
  have h := Nat.xor_mod_two_pow (a := a) (b := b) (n := 1)
  rw [Nat.pow_one] at h
  rw [h]
  rcases Nat.mod_two_eq_zero_or_one a with h | h <;> rcases Nat.mod_two_eq_zero_or_one b with k | k <;> rw [h, k] <;> rfl
theorem xor_swap (a b c d : Nat) : (a ^^^ b) ^^^ (c ^^^ d) = (a ^^^ c) ^^^ (b ^^^ d) := by
  rw [Nat.xor_assoc, Nat.xor_assoc, ← Nat.xor_assoc b, Nat.xor_comm b c, Nat.xor_assoc c]
theorem st_xor (a b : Nat) : st (a ^^^ b) = st a ^^^ st b := by
  unfold st
  rw [xor_div2, xor_swap, xor_mod2]
  congr 1
  rcases Nat.mod_two_eq_zero_or_one a with h | h <;> rcases Nat.mod_two_eq_zero_or_one b with k | k <;> simp [h, k]
theorem sts_xor (k : Nat) : ∀ a b, sts k (a ^^^ b) = sts k a ^^^ sts k b := by
  induction k with
  | zero => intro a b; rfl
  | succ k ih => intro a b; rw [sts, st_xor, ih]; rfl
theorem st_double (a : Nat) : st (2 * a) = a := by
  unfold st
  have h1 : 2 * a / 2 = a := by omega
  have h2 : 2 * a % 2 = 0 := by omega
  rw [h1, h2, Nat.zero_mul, Nat.xor_zero]
theorem sts_pow (k : Nat) : ∀ a, sts k (2 ^ k * a) = a := by
  induction k with
  | zero => intro a; simp [sts]
  | succ k ih =>
    intro a
    have e : 2 ^ (k + 1) * a = 2 * (2 ^ k * a) := by rw [Nat.pow_succ, Nat.mul_comm (2 ^ k) 2, Nat.mul_assoc]
    rw [sts, e, st_double, ih]
theorem sts_add (j k n : Nat) : sts (j + k) n = sts k (sts j n) := by
  induction j generalizing n with
  | zero => simp [sts]
  | succ j ih => rw [Nat.add_right_comm, sts, ih]; rfl
theorem st_lt {n : Nat} (h : n < 4294967296) : st n < 4294967296 := by
  unfold st
  have h2 : n % 2 * 3988292384 < 2 ^ 32 := by rcases Nat.mod_two_eq_zero_or_one n with k | k <;> rw [k] <;> decide
  exact Nat.xor_lt_two_pow (n := 32) (by omega) h2
theorem sts_lt (k : Nat) : ∀ {n}, n < 4294967296 → sts k n < 4294967296 := by
  induction k with
  | zero => intro n h; exact h
  | succ k ih => intro n h; exact ih (st_lt h)
theorem xor_eq_zero {a b : Nat} (h : a ^^^ b = 0) : a = b := by
  have := congrArg (fun x => x ^^^ b) h
  simpa [Nat.xor_assoc] using this
theorem st_zero {n : Nat} (h : n < 4294967296) (hz : st n = 0) : n = 0 := by
  unfold st at hz
  have e := xor_eq_zero hz
  rcases Nat.mod_two_eq_zero_or_one n with k | k <;> rw [k] at e <;> omega
theorem sts_zero (k : Nat) : ∀ {n}, n < 4294967296 → sts k n = 0 → n = 0 := by
  induction k with
  | zero => intro n _ h; exact h
  | succ k ih => intro n h hz; exact st_zero h (ih (st_lt h) hz)
theorem byte_lt (b : UInt8) : b.toNat < 4294967296 := Nat.lt_trans b.toNat_lt (by decide)
theorem reg_snoc (r : Nat) (l : List UInt8) (b : UInt8) : reg r (l ++ [b]) = sts 8 (reg r l ^^^ b.toNat) := by
  simp [reg]
theorem reg_app (r : Nat) (a b : List UInt8) : reg r (a ++ b) = reg (reg r a) b := by simp [reg]
theorem xor_lt {a b : Nat} (ha : a < 4294967296) (hb : b < 4294967296) : a ^^^ b < 4294967296 := Nat.xor_lt_two_pow (n := 32) ha hb
theorem reg_lt {r : Nat} (h : r < 4294967296) (l : List UInt8) : reg r l < 4294967296 := by
  induction l generalizing r with
  | nil => exact h
  | cons b l ih => exact ih (sts_lt 8 (xor_lt h (byte_lt b)))
theorem add_xor (k : Nat) {b : Nat} (h : b < 2 ^ k) (m : Nat) : b + 2 ^ k * m = b ^^^ (2 ^ k * m) := by
  have e : 2 ^ k * m ^^^ b = 2 ^ k * m + b := by
    apply Nat.eq_of_testBit_eq
    intro i
    rw [Nat.testBit_xor, Nat.testBit_two_pow_mul_add _ h, Nat.testBit_two_pow_mul]
    by_cases c : i < k
    · have : ¬ i ≥ k := by omega
      simp [c, this]
    · have h2 : b.testBit i = false := Nat.testBit_lt_two_pow (Nat.lt_of_lt_of_le h (Nat.pow_le_pow_right (by omega) (by omega)))
      have : i ≥ k := by omega
      simp [c, this, h2]
  rw [Nat.xor_comm, e, Nat.add_comm]
theorem reg_le (l : List UInt8) : ∀ r, reg r l = sts (8 * l.length) (r ^^^ le l) := by
  induction l with
  | nil => intro r; simp [reg, le, sts]
  | cons b l ih =>
    intro r
    have e1 : reg r (b :: l) = reg (sts 8 (r ^^^ b.toNat)) l := rfl
    have e2 : 8 * (b :: l).length = 8 + 8 * l.length := by rw [List.length_cons]; omega
    have e3 : le (b :: l) = b.toNat ^^^ (2 ^ 8 * le l) := by
      have := add_xor 8 (b := b.toNat) b.toNat_lt (le l)
      rw [← this]; rfl
    rw [e1, ih, e2, sts_add, e3, ← Nat.xor_assoc, sts_xor 8 _ (2 ^ 8 * le l), sts_pow]
theorem reg_apart {r : Nat} {a b : List UInt8} (hl : a.length = b.length) {first w : Nat} (hw : w < 4294967296) (hw0 : w ≠ 0) (hf : first ≤ 8 * a.length)
    (hx : le a ^^^ le b = 2 ^ first * w) : reg r a ≠ reg r b := by
  intro h
  have e : reg r a ^^^ reg r b = 0 := by rw [h, Nat.xor_self]
  rw [reg_le, reg_le, ← hl, ← sts_xor, xor_swap, Nat.xor_self, Nat.zero_xor, hx] at e
  have e2 : 8 * a.length = first + (8 * a.length - first) := by omega
  rw [e2, sts_add, sts_pow] at e
  exact hw0 (sts_zero _ hw e)
def more (sum : Nat) (l : List UInt8) : Nat := reg (sum ^^^ 4294967295) l ^^^ 4294967295
theorem more_lt {sum : Nat} (h : sum < 4294967296) (l : List UInt8) : more sum l < 4294967296 := xor_lt (reg_lt (xor_lt h (by decide)) l) (by decide)
theorem more_app (sum : Nat) (a b : List UInt8) : more (more sum a) b = more sum (a ++ b) := by
  unfold more
  rw [Nat.xor_assoc, Nat.xor_self, Nat.xor_zero, reg_app]
def tl (n : Nat) : List UInt8 := [UInt8.ofNat (n % 256), UInt8.ofNat (n / 256 % 256), UInt8.ofNat (n / 65536 % 256), UInt8.ofNat (n / 16777216 % 256)]
theorem tl_length (n : Nat) : (tl n).length = 4 := rfl
def half : Nat → Nat
  | 0 => 0 | 1 => 498536548 | 2 => 997073096 | 3 => 651767980 | 4 => 1994146192 | 5 => 1802195444 | 6 => 1303535960 | 7 => 1342533948
  | 8 => 3988292384 | 9 => 4027552580 | 10 => 3604390888 | 11 => 3412177804 | 12 => 2607071920 | 13 => 2262029012 | 14 => 2685067896 | 15 => 3183342108 | _ => 0
theorem half_is : ∀ r : Nat, r < 16 → sts 4 r = half r := by decide
theorem half_step (n : Nat) : n / 16 ^^^ half (n % 16) = sts 4 n := by
  have h : n % 16 < 16 := Nat.mod_lt _ (by decide)
  have e : n = n % 16 ^^^ (2 ^ 4 * (n / 16)) := by rw [← add_xor 4 h]; omega
  have e2 : sts 4 n = sts 4 (n % 16 ^^^ (2 ^ 4 * (n / 16))) := by rw [← e]
  rw [e2, sts_xor, sts_pow, half_is _ h, Nat.xor_comm]
theorem half_lt : ∀ r : Nat, r < 16 → half r < 4294967296 := by decide
theorem two_halves (n : Nat) : sts 8 n = sts 4 (sts 4 n) := sts_add 4 4 n
end CrcPlain
end Go.Proofs.YtignfbdgpgidpaaGreatDoor
/- Plain facts on bytes of numbers, without the model: the highest byte first. -/
namespace Go.Proofs.YtignfbdgpgidpaaGreatDoor
namespace OctPlain
def beL : Nat → Nat → List UInt8
  | 0, _ => []
  | k + 1, n => beL k (n / 256) ++ [UInt8.ofNat (n % 256)]
theorem beL_length (k : Nat) : ∀ n, (beL k n).length = k := by
  induction k with
  | zero => intro n; rfl
  | succ k ih => intro n; simp [beL, ih]
theorem beL_top (k : Nat) : ∀ n, beL (k + 1) n = UInt8.ofNat (n / 256 ^ k % 256) :: beL k n := by
  induction k with
  | zero => intro n; simp [beL]
  | succ k ih =>
    intro n
    have h := ih (n / 256)
    rw [beL, h, beL, Nat.div_div_eq_div_mul, ← Nat.pow_succ', List.cons_append]
def num (l : List UInt8) : Nat := l.foldl (fun v b => v * 256 + b.toNat) 0
theorem num_snoc (l : List UInt8) (b : UInt8) : num (l ++ [b]) = num l * 256 + b.toNat := by
  simp [num]
theorem fold_eq (l : List UInt8) : ∀ v, l.foldl (fun v b => v * 256 + b.toNat) v = v * 256 ^ l.length + num l := by
  induction l with
  | nil => intro v; simp [num]
  | cons b l ih =>
    intro v
    have h1 := ih (v * 256 + b.toNat)
    have h2 := ih (0 * 256 + b.toNat)
    have e : num (b :: l) = l.foldl (fun v b => v * 256 + b.toNat) (0 * 256 + b.toNat) := rfl
    rw [List.foldl_cons, h1, e, h2, List.length_cons, Nat.pow_succ, Nat.add_mul, Nat.zero_mul, Nat.zero_add, Nat.mul_assoc, Nat.mul_comm 256, Nat.add_assoc]
theorem num_cons (b : UInt8) (l : List UInt8) : num (b :: l) = b.toNat * 256 ^ l.length + num l := by
  have h := fold_eq l (0 * 256 + b.toNat)
  have e : num (b :: l) = l.foldl (fun v b => v * 256 + b.toNat) (0 * 256 + b.toNat) := rfl
  rw [e, h, Nat.zero_mul, Nat.zero_add]
theorem num_lt (l : List UInt8) : num l < 256 ^ l.length := by
  induction l with
  | nil => simp [num]
  | cons b l ih =>
    rw [num_cons, List.length_cons, Nat.pow_succ]
    have hb := b.toNat_lt
    have hb' : b.toNat * 256 ^ l.length ≤ 255 * 256 ^ l.length := Nat.mul_le_mul_right _ (by omega)
    omega
theorem num_beL (k : Nat) : ∀ n, n < 256 ^ k → num (beL k n) = n := by
  induction k with
  | zero => intro n h; simp at h; subst h; rfl
  | succ k ih =>
    intro n h
    rw [Nat.pow_succ] at h
    have hd : n / 256 < 256 ^ k := by omega
    rw [beL, num_snoc, ih _ hd]
    have : (UInt8.ofNat (n % 256)).toNat = n % 256 := by
      rw [UInt8.toNat_ofNat']; omega
    rw [this]; omega
def fitsB (n k : Int) : Bool := decide ((1 ≤ k ∧ k ≤ 8) ∧ 0 ≤ n ∧ n < (256 : Int) ^ k.toNat)
def putS (n k : Int) : ByteArray := if fitsB n k = true then bs (beL k.toNat n.toNat) else bs []
theorem put_no {n k : Int} (h : fitsB n k = false) : putS n k = ⟨#[]⟩ := by simp [putS, h, bs]
theorem dig_cast (n : Int) (hn : 0 ≤ n) (j : Nat) : (n / 256 ^ j % 256).toNat = n.toNat / 256 ^ j % 256 := by
  obtain ⟨N, rfl⟩ : ∃ N : Nat, n = N := ⟨n.toNat, by omega⟩
  have : ((N / 256 ^ j % 256 : Nat) : Int) = (N : Int) / 256 ^ j % 256 := by rw [Int.natCast_emod, Int.natCast_ediv, Int.natCast_pow]; rfl
  rw [← this, Int.toNat_natCast, Int.toNat_natCast]
theorem fits_at {n k : Int} (hk : 1 ≤ k ∧ k ≤ 8) (hn : 0 ≤ n) : fitsB n k = decide (n / 256 ^ k.toNat = 0) := by
  unfold fitsB
  have hp : (0 : Int) < 256 ^ k.toNat := Int.pow_pos (by omega)
  apply decide_eq_decide.2
  constructor
  · intro h; exact Int.ediv_eq_zero_of_lt hn h.2.2
  · intro h
    refine ⟨hk, hn, ?_⟩
    have h1 := Int.emod_lt_of_pos n hp
    have h2 := Int.emod_add_mul_ediv n (256 ^ k.toNat)
    rw [h] at h2
    omega
def cutL (s : ByteArray) (a k : Nat) : List UInt8 := (s.data.toList.drop a).take k
def getB (s : ByteArray) (a k : Int) : Bool := decide ((1 ≤ k ∧ k ≤ 8) ∧ 0 ≤ a ∧ a + k ≤ s.size ∧ num (cutL s a.toNat k.toNat) < 9223372036854775808)
def getN (s : ByteArray) (a k : Int) : Int := if getB s a k = true then (num (cutL s a.toNat k.toNat) : Int) else 0
theorem cutL_length (s : ByteArray) (a k : Nat) (h : a + k ≤ s.size) : (cutL s a k).length = k := by
  have : s.data.toList.length = s.size := Array.length_toList
  simp only [cutL, List.length_take, List.length_drop]; omega
end OctPlain
end Go.Proofs.YtignfbdgpgidpaaGreatDoor
/- Plain facts of a manifest: what may be, its bytes; two of the same bytes are one. -/
namespace Go.Proofs.YtignfbdgpgidpaaGreatDoor
open Go.RowKit FsPlain CrcPlain OctPlain
set_option linter.unusedVariables false
set_option linter.unusedSimpArgs false
namespace MnPlain
structure Fl where
  name : ByteArray
  size : Int
  count : Int
  sum : Int
structure Mn where
  stage : Int
  pass : Int
  files : List Fl
def flB (f : Fl) : Bool := rightB f.name.data.toList && decide ((1 ≤ f.size ∧ f.size ≤ 64) ∧ 0 ≤ f.count ∧ f.count ≤ 4611686018427387904)
def newB : List Fl → List Fl → Bool
  | _, [] => true
  | l, f :: t => flB f && (l.all fun g => decide (g.name ≠ f.name)) && newB (l ++ [f]) t
def mnB (m : Mn) : Bool := decide ((1 ≤ m.stage ∧ m.stage ≤ 7) ∧ (0 ≤ m.pass ∧ m.pass ≤ 1000) ∧ m.files.length ≤ 16) && newB [] m.files
def flL (f : Fl) : List UInt8 := beL 1 f.name.size ++ (f.name.data.toList ++ (beL 1 f.size.toNat ++ (beL 8 f.count.toNat ++ beL 4 f.sum.toNat)))
def mnL (m : Mn) : List UInt8 := [77, 65, 78, 49] ++ (beL 2 m.stage.toNat ++ (beL 2 m.pass.toNat ++ (beL 1 m.files.length ++ (m.files.map flL).flatten)))
theorem be_inj {k a b : Nat} (ha : a < 256 ^ k) (hb : b < 256 ^ k) (h : beL k a = beL k b) : a = b := by
  rw [← num_beL k a ha, ← num_beL k b hb, h]
theorem app_len {a b c d : List UInt8} (hl : a.length = b.length) (h : a ++ c = b ++ d) : a = b ∧ c = d := List.append_inj h hl
theorem be_app {k a b : Nat} {c d : List UInt8} (ha : a < 256 ^ k) (hb : b < 256 ^ k) (h : beL k a ++ c = beL k b ++ d) : a = b ∧ c = d := by
  obtain ⟨h1, h2⟩ := app_len (by rw [beL_length, beL_length]) h
  exact ⟨be_inj ha hb h1, h2⟩
def flI (f : Fl) : Prop := f.name.size < 256 ∧ (0 ≤ f.size ∧ f.size < 256) ∧ (0 ≤ f.count ∧ f.count < 18446744073709551616) ∧ 0 ≤ f.sum ∧ f.sum < 4294967296
theorem fl_app {f g : Fl} {c d : List UInt8} (hf : flI f) (hg : flI g) (h : flL f ++ c = flL g ++ d) : f = g ∧ c = d := by
  obtain ⟨f1, ⟨f2, f3⟩, ⟨f4, f5⟩, f6, f7⟩ := hf
  obtain ⟨g1, ⟨g2, g3⟩, ⟨g4, g5⟩, g6, g7⟩ := hg
  unfold flL at h
  simp only [List.append_assoc] at h
  obtain ⟨h1, h⟩ := be_app (by rw [Nat.pow_one]; exact f1) (by rw [Nat.pow_one]; exact g1) h
  obtain ⟨h2, h⟩ := app_len (show f.name.data.toList.length = g.name.data.toList.length from h1) h
  obtain ⟨h3, h⟩ := be_app (by omega) (by omega) h
  obtain ⟨h4, h⟩ := be_app (by omega) (by omega) h
  obtain ⟨h5, h⟩ := be_app (by omega) (by omega) h
  refine ⟨?_, h⟩
  have q1 : f.name = g.name := ByteArray.ext (Array.toList_inj.1 h2)
  have q2 : f.size = g.size := by omega
  have q3 : f.count = g.count := by omega
  have q4 : f.sum = g.sum := by omega
  cases f; cases g
  simp only at q1 q2 q3 q4
  rw [q1, q2, q3, q4]
theorem fls_inj : ∀ {l m : List Fl} {c d : List UInt8}, l.length = m.length → (∀ f ∈ l, flI f) → (∀ f ∈ m, flI f) → (l.map flL).flatten ++ c = (m.map flL).flatten ++ d → l = m ∧ c = d
  | [], [], c, d, _, _, _, h => ⟨rfl, by simpa using h⟩
  | [], g :: m, c, d, hl, _, _, _ => by simp at hl
  | f :: l, [], c, d, hl, _, _, _ => by simp at hl
  | f :: l, g :: m, c, d, hl, hf, hg, h => by
    simp only [List.map_cons, List.flatten_cons, List.append_assoc] at h
    obtain ⟨e1, h2⟩ := fl_app (hf f (by simp)) (hg g (by simp)) h
    obtain ⟨e2, h3⟩ := fls_inj (by simpa using hl) (fun x hx => hf x (by simp [hx])) (fun x hx => hg x (by simp [hx])) h2
    exact ⟨by rw [e1, e2], h3⟩
theorem mnL_inj {a b : Mn} (ha : mnB a = true) (hb : mnB b = true) (ia : ∀ f ∈ a.files, flI f) (ib : ∀ f ∈ b.files, flI f) (h : mnL a = mnL b) : a = b := by
  unfold mnB at ha hb
  simp only [Bool.and_eq_true, decide_eq_true_eq] at ha hb
  obtain ⟨⟨⟨a1, a2⟩, ⟨a3, a4⟩, a5⟩, _⟩ := ha
  obtain ⟨⟨⟨b1, b2⟩, ⟨b3, b4⟩, b5⟩, _⟩ := hb
  unfold mnL at h
  have h := List.append_cancel_left h
  obtain ⟨h1, h⟩ := be_app (by omega) (by omega) h
  obtain ⟨h2, h⟩ := be_app (by omega) (by omega) h
  obtain ⟨h3, h⟩ := be_app (by omega) (by omega) h
  obtain ⟨h4, _⟩ := fls_inj (c := []) (d := []) h3 ia ib (by simpa using h)
  have q1 : a.stage = b.stage := by omega
  have q2 : a.pass = b.pass := by omega
  cases a; cases b
  simp only at q1 q2 h4
  rw [q1, q2, h4]
end MnPlain
end Go.Proofs.YtignfbdgpgidpaaGreatDoor

/- In one text: OctPlain, FramePlain, OctPut, OctPut2, OctRows, Clone. -/
import Derived.Test.YtdlomcgkpiejgaaGreatDoorP00
import Derived.WalkKit
import Derived.Test.YtdlomcgkpiejgaaGreatDoorP01
import Derived.ProofKit
import Derived.Below
import Derived.Handy
import Derived.WalkLawsBesides
import Derived.Outline
import Derived.Lib.Hide
import Derived.Lib.BufferWrite
import Derived.Lib.BufferRead
import Derived.Test.YtdlomcgkpiejgaaGreatDoorRows
import Derived.Shelf.LaysM
import Derived.Shelf.Strconv.Clone
/- Plain facts on bytes of numbers, without the model: the highest byte first. -/
namespace Go.Proofs.YtdlomcgkpiejgaaGreatDoor
namespace OctPlain

/-- The k lowest bytes of n, the highest first. -/
def beL : Nat → Nat → List UInt8
  | 0, _ => []
  | k + 1, n => beL k (n / 256) ++ [UInt8.ofNat (n % 256)]

theorem beL_length (k : Nat) : ∀ n, (beL k n).length = k := by
  induction k with
  | zero => intro n; rfl
  | succ k ih => intro n; simp [beL, ih]

theorem beL_top (k : Nat) : ∀ n, beL (k + 1) n = UInt8.ofNat (n / 256 ^ k % 256) :: beL k n := by
  induction k with
  | zero => intro n; simp [beL]
  | succ k ih =>
    intro n
    have h := ih (n / 256)
    rw [beL, h, beL, Nat.div_div_eq_div_mul, ← Nat.pow_succ', List.cons_append]

/-- The number of some bytes. -/
def num (l : List UInt8) : Nat := l.foldl (fun v b => v * 256 + b.toNat) 0

theorem num_nil : num [] = 0 := rfl
theorem num_snoc (l : List UInt8) (b : UInt8) : num (l ++ [b]) = num l * 256 + b.toNat := by
  simp [num]

theorem fold_eq (l : List UInt8) : ∀ v, l.foldl (fun v b => v * 256 + b.toNat) v = v * 256 ^ l.length + num l := by
  induction l with
  | nil => intro v; simp [num]
  | cons b l ih =>
    intro v
    have h1 := ih (v * 256 + b.toNat)
    have h2 := ih (0 * 256 + b.toNat)
    have e : num (b :: l) = l.foldl (fun v b => v * 256 + b.toNat) (0 * 256 + b.toNat) := rfl
    rw [List.foldl_cons, h1, e, h2, List.length_cons, Nat.pow_succ, Nat.add_mul, Nat.zero_mul, Nat.zero_add, Nat.mul_assoc, Nat.mul_comm 256, Nat.add_assoc]

theorem num_cons (b : UInt8) (l : List UInt8) : num (b :: l) = b.toNat * 256 ^ l.length + num l := by
  have h := fold_eq l (0 * 256 + b.toNat)
  have e : num (b :: l) = l.foldl (fun v b => v * 256 + b.toNat) (0 * 256 + b.toNat) := rfl
  rw [e, h, Nat.zero_mul, Nat.zero_add]

theorem num_app (a b : List UInt8) : num (a ++ b) = num a * 256 ^ b.length + num b := by
  rw [← fold_eq b (num a)]
  simp [num]

theorem num_lt (l : List UInt8) : num l < 256 ^ l.length := by
  induction l with
  | nil => simp [num]
  | cons b l ih =>
    rw [num_cons, List.length_cons, Nat.pow_succ]
    have hb := b.toNat_lt
    have hb' : b.toNat * 256 ^ l.length ≤ 255 * 256 ^ l.length := Nat.mul_le_mul_right _ (by omega)
    omega

theorem num_beL (k : Nat) : ∀ n, n < 256 ^ k → num (beL k n) = n := by
  induction k with
  | zero => intro n h; simp at h; subst h; rfl
  | succ k ih =>
    intro n h
    rw [Nat.pow_succ] at h
    have hd : n / 256 < 256 ^ k := by omega
    rw [beL, num_snoc, ih _ hd]
    have : (UInt8.ofNat (n % 256)).toNat = n % 256 := by
      rw [UInt8.toNat_ofNat']; omega
    rw [this]; omega

def fitsB (n k : Int) : Bool := decide ((1 ≤ k ∧ k ≤ 8) ∧ 0 ≤ n ∧ n < (256 : Int) ^ k.toNat)
def putS (n k : Int) : ByteArray := if fitsB n k = true then bs (beL k.toNat n.toNat) else bs []

theorem put_no {n k : Int} (h : fitsB n k = false) : putS n k = ⟨#[]⟩ := by simp [putS, h, bs]

theorem dig_cast (n : Int) (hn : 0 ≤ n) (j : Nat) : (n / 256 ^ j % 256).toNat = n.toNat / 256 ^ j % 256 := by
  obtain ⟨N, rfl⟩ : ∃ N : Nat, n = N := ⟨n.toNat, by omega⟩
  have : ((N / 256 ^ j % 256 : Nat) : Int) = (N : Int) / 256 ^ j % 256 := by rw [Int.natCast_emod, Int.natCast_ediv, Int.natCast_pow]; rfl
  rw [← this, Int.toNat_natCast, Int.toNat_natCast]
theorem fits_at {n k : Int} (hk : 1 ≤ k ∧ k ≤ 8) (hn : 0 ≤ n) : fitsB n k = decide (n / 256 ^ k.toNat = 0) := by
  unfold fitsB
  have hp : (0 : Int) < 256 ^ k.toNat := Int.pow_pos (by omega)
  apply decide_eq_decide.2
  constructor
  · intro h; exact Int.ediv_eq_zero_of_lt hn h.2.2
  · intro h
    refine ⟨hk, hn, ?_⟩
    have h1 := Int.emod_lt_of_pos n hp
    have h2 := Int.emod_add_mul_ediv n (256 ^ k.toNat)
    rw [h] at h2
    omega

/-- The bytes from place a on, k of them. -/
def cutL (s : ByteArray) (a k : Nat) : List UInt8 := (s.data.toList.drop a).take k
def getB (s : ByteArray) (a k : Int) : Bool := decide ((1 ≤ k ∧ k ≤ 8) ∧ 0 ≤ a ∧ a + k ≤ s.size ∧ num (cutL s a.toNat k.toNat) < 9223372036854775808)
def getN (s : ByteArray) (a k : Int) : Int := if getB s a k = true then (num (cutL s a.toNat k.toNat) : Int) else 0

theorem cutL_length (s : ByteArray) (a k : Nat) (h : a + k ≤ s.size) : (cutL s a k).length = k := by
  have : s.data.toList.length = s.size := Array.length_toList
  simp only [cutL, List.length_take, List.length_drop]; omega

end OctPlain
end Go.Proofs.YtdlomcgkpiejgaaGreatDoor
/- Plain facts on rows of strings and on blocks, without the model; a row of strings in memory. -/
namespace Go.Proofs.YtdlomcgkpiejgaaGreatDoor
open Go.RowKit CrcPlain OctPlain
set_option linter.unusedVariables false
set_option linter.unusedSimpArgs false
set_option maxRecDepth 20000
namespace FramePlain
/-- A record's size that may be. -/
def sizeB (size : Int) : Bool := decide (1 ≤ size ∧ size ≤ 64)
def roomN (size : Int) : Int := if sizeB size = true then 5 + 4 * size else 0
/-- Strings, one behind the other. -/
def cat (l : List ByteArray) : List UInt8 := (l.map (·.data.toList)).flatten
def allB (size : Int) (l : List ByteArray) : Bool := l.all (fun s => decide ((s.size : Int) = size))
def blkB (size : Int) (l : List ByteArray) : Bool := sizeB size && decide (1 ≤ l.length ∧ l.length ≤ 4) && allB size l
/-- A block ahead of its sum. -/
def blk (l : List ByteArray) : ByteArray := bs (UInt8.ofNat l.length :: cat l)
def blkS (size : Int) (l : List ByteArray) : ByteArray := if blkB size l = true then cl (blk l) else ⟨#[]⟩
theorem blkS_no {size : Int} {l : List ByteArray} (h : blkB size l = false) : blkS size l = ⟨#[]⟩ := by simp [blkS, h]
theorem blkS_yes {size : Int} {l : List ByteArray} (h : blkB size l = true) : blkS size l = cl (blk l) := by simp [blkS, h]
theorem cat_snoc (l : List ByteArray) (x : ByteArray) : cat (l ++ [x]) = cat l ++ x.data.toList := by simp [cat]
theorem allB_iff {size : Int} {l : List ByteArray} : allB size l = true ↔ ∀ s ∈ l, (s.size : Int) = size := by simp [allB]
theorem data_length (s : ByteArray) : s.data.toList.length = s.size := Array.length_toList
theorem cat_length {size : Nat} : ∀ {l : List ByteArray}, (∀ s ∈ l, s.size = size) → (cat l).length = l.length * size
  | [], _ => by simp [cat]
  | x :: r, h => by
    have ih := cat_length (l := r) fun s hs => h s (by simp [hs])
    have e : cat (x :: r) = x.data.toList ++ cat r := rfl
    rw [e, List.length_append, ih, data_length, h x (by simp), List.length_cons, Nat.add_mul, Nat.one_mul, Nat.add_comm]
theorem cat_le {l : List ByteArray} (h : ∀ s ∈ l, s.size ≤ 64) : (cat l).length ≤ l.length * 64 := by
  induction l with
  | nil => simp [cat]
  | cons x r ih =>
    have e : cat (x :: r) = x.data.toList ++ cat r := rfl
    have := ih fun s hs => h s (by simp [hs])
    have hx := h x (by simp)
    rw [e, List.length_append, data_length, List.length_cons]
    omega
theorem cat_le1000 {l : List ByteArray} (h : ∀ s ∈ l, s.size ≤ 1000) : (cat l).length ≤ l.length * 1000 := by
  induction l with
  | nil => simp [cat]
  | cons x r ih =>
    have e : cat (x :: r) = x.data.toList ++ cat r := rfl
    have := ih fun s hs => h s (by simp [hs])
    have hx := h x (by simp)
    rw [e, List.length_append, data_length, List.length_cons]
    omega
theorem blk_size (l : List ByteArray) : (blk l).size = 1 + (cat l).length := by unfold blk; rw [bs_size, List.length_cons]; omega
end FramePlain
open FramePlain

end Go.Proofs.YtdlomcgkpiejgaaGreatDoor
/- Contracts of layer octet's functions that make bytes, and of the document's answers to them, each by a walk of its text. -/
namespace Go.Proofs.YtdlomcgkpiejgaaGreatDoor
open Go.RowKit OctPlain
set_option linter.unusedVariables false
set_option linter.unusedSimpArgs false
set_option maxRecDepth 20000
set_option maxHeartbeats 1000000 in
theorem full_c (n : Int) (hn : I64 n) (w : World) :
    Calls Tryz.prog 153 #[.int .i64 n] w fun e w' => e = .returned (.agg #[Value.int IntKind.u8 (n / 72057594037927936 % 256), Value.int IntKind.u8 (n / 281474976710656 % 256),
              Value.int IntKind.u8 (n / 1099511627776 % 256), Value.int IntKind.u8 (n / 4294967296 % 256),
              Value.int IntKind.u8 (n / 16777216 % 256), Value.int IntKind.u8 (n / 65536 % 256),
              Value.int IntKind.u8 (n / 256 % 256), Value.int IntKind.u8 (n % 256)]) ∧ Gr w w' := by
  go_enter Tryz.func153, Tryz.ntmps153
  go_wp2_with fail
  go_rounds 9
  refine bodyPost_ret (v := .agg #[Value.int IntKind.u8 (n / 72057594037927936 % 256), Value.int IntKind.u8 (n / 281474976710656 % 256),
              Value.int IntKind.u8 (n / 1099511627776 % 256), Value.int IntKind.u8 (n / 4294967296 % 256),
              Value.int IntKind.u8 (n / 16777216 % 256), Value.int IntKind.u8 (n / 65536 % 256),
              Value.int IntKind.u8 (n / 256 % 256), Value.int IntKind.u8 (n % 256)]) (by simp [results, Tryz.results153, go_sem]) rfl ⟨rfl, Gr.of (by go_grown)⟩
set_option maxHeartbeats 1000000 in
theorem sized_c (k : Int) (hk : I64 k) (w : World) :
    Calls Tryz.prog 146 #[.int .i64 k] w fun e w' => e = .returned (.bool (decide (1 ≤ k ∧ k ≤ 8))) ∧ w = w' := by
  by_cases h1 : 1 ≤ k <;> by_cases h2 : k ≤ 8
  all_goals
    go_enter Tryz.func146, Tryz.ntmps146
    go_wp2
    go_ret
    exact ⟨by simp [h1, h2], rfl⟩
theorem ret_b {a b : Bool} (h : a = b) : Ending.returned (.bool a) = .returned (.bool b) := by rw [h]
theorem b_of {a : Bool} {p : Prop} [Decidable p] (h : a = true ↔ p) : a = decide p := by
  cases a <;> simp_all
set_option maxHeartbeats 1000000 in
theorem fits_c (n k : Int) (hn : I64 n) (hk : I64 k) (w : World) :
    Calls Tryz.prog 152 #[.int .i64 n, .int .i64 k] w fun e w' => e = .returned (.bool (fitsB n k)) ∧ w = w' := by
  unfold I64 at hn hk
  by_cases h : 1 ≤ k ∧ k ≤ 8
  · have hd : decide (1 ≤ k ∧ k ≤ 8) = true := by simpa using h
    have hk8 : k = 1 ∨ k = 2 ∨ k = 3 ∨ k = 4 ∨ k = 5 ∨ k = 6 ∨ k = 7 ∨ k = 8 := by omega
    rcases hk8 with rfl | rfl | rfl | rfl | rfl | rfl | rfl | rfl
    all_goals
      go_enter Tryz.func152, Tryz.ntmps152
      go_wp2_with fail
      refine (sized_c _ hk _).mono ?_
      rintro e u ⟨rfl, rfl⟩
      go_wp2
      go_ret
      refine ⟨ret_b (b_of ?_), rfl⟩
      simp
      omega
  · have hd : decide (1 ≤ k ∧ k ≤ 8) = false := by simpa using h
    have hf : fitsB n k = false := by simp [fitsB, h]
    go_enter Tryz.func152, Tryz.ntmps152
    go_wp2_with fail
    refine (sized_c k hk _).mono ?_
    rintro e u ⟨rfl, rfl⟩
    go_wp2
    go_ret
    exact ⟨ret_b hf.symm, rfl⟩
end Go.Proofs.YtdlomcgkpiejgaaGreatDoor
/- Contracts of Put and PutCoord, and of the document's answers to them. -/
namespace Go.Proofs.YtdlomcgkpiejgaaGreatDoor
open Go.RowKit OctPlain
set_option linter.unusedVariables false
set_option linter.unusedSimpArgs false
set_option maxRecDepth 20000
theorem conv8 (u : World) (n : Int) (k : Nat) (hn : 0 ≤ n) (hk : 1 ≤ k ∧ k ≤ 8) :
    (convert 83 9 (.slice (some ⟨u.heap.size, 8 - k, none⟩) k k)).run Tryz.prog (u.alloc (.cells #[Value.int IntKind.u8 (n / 72057594037927936 % 256), Value.int IntKind.u8 (n / 281474976710656 % 256),
              Value.int IntKind.u8 (n / 1099511627776 % 256), Value.int IntKind.u8 (n / 4294967296 % 256),
              Value.int IntKind.u8 (n / 16777216 % 256), Value.int IntKind.u8 (n / 65536 % 256),
              Value.int IntKind.u8 (n / 256 % 256), Value.int IntKind.u8 (n % 256)] 174)) = .ok (.string (bs (beL k n.toNat))) (u.alloc (.cells #[Value.int IntKind.u8 (n / 72057594037927936 % 256), Value.int IntKind.u8 (n / 281474976710656 % 256),
              Value.int IntKind.u8 (n / 1099511627776 % 256), Value.int IntKind.u8 (n / 4294967296 % 256),
              Value.int IntKind.u8 (n / 16777216 % 256), Value.int IntKind.u8 (n / 65536 % 256),
              Value.int IntKind.u8 (n / 256 % 256), Value.int IntKind.u8 (n % 256)] 174)) := by
  obtain ⟨m, rfl⟩ : ∃ m : Nat, n = m := ⟨n.toNat, by omega⟩
  refine conv_list _ _ _ _ (beL_length k m) ?_
  intro j x hx
  have hj : j < k := by
    have := (List.getElem?_eq_some_iff.1 hx).1
    rw [beL_length] at this; exact this
  have ea : Addr.add ⟨u.heap.size, 8 - k, none⟩ j = ⟨u.heap.size, 8 - k + j, none⟩ := by simp [Addr.add]
  rw [ea, World.cell?_alloc_mark]
  have hk8 : k = 1 ∨ k = 2 ∨ k = 3 ∨ k = 4 ∨ k = 5 ∨ k = 6 ∨ k = 7 ∨ k = 8 := by omega
  rcases hk8 with rfl | rfl | rfl | rfl | rfl | rfl | rfl | rfl
  all_goals
    have hj8 : j = 0 ∨ j = 1 ∨ j = 2 ∨ j = 3 ∨ j = 4 ∨ j = 5 ∨ j = 6 ∨ j = 7 := by omega
    rcases hj8 with rfl | rfl | rfl | rfl | rfl | rfl | rfl | rfl <;> first | (exfalso; omega) | (simp [beL] at hx; subst hx; simp; done) | (simp [beL] at hx; subst hx; simp; omega)

def b1 (b : UInt8) : ByteArray := bs [b]
theorem conv1 (u : World) (x : Int) (h0 : 0 ≤ x) (h1 : x < 256) :
    (convert 83 9 (.slice (some ⟨u.heap.size, 0, none⟩) 1 1)).run Tryz.prog (u.alloc (.cells #[Value.int IntKind.u8 x] 5)) = .ok (.string (bs [UInt8.ofNat x.toNat])) (u.alloc (.cells #[Value.int IntKind.u8 x] 5)) := by
  refine conv_list _ _ _ _ rfl ?_
  intro j y hy
  obtain rfl : j = 0 := by
    have := (List.getElem?_eq_some_iff.1 hy).1
    simpa using this
  simp at hy
  subst hy
  show World.cell? _ ⟨u.heap.size, 0 + 0, none⟩ = _
  rw [World.cell?_alloc_mark]
  simp
  omega

set_option maxHeartbeats 1000000 in
theorem put_c (n k : Int) (hn : I64 n) (hk : I64 k) (w : World) :
    Calls Tryz.prog 134 #[.int .i64 n, .int .i64 k] w fun e w' => e = .returned (.tuple #[.string (putS n k), .bool (fitsB n k)]) ∧ Gr w w' := by
  cases hf : fitsB n k
  · have hp := put_no hf
    go_enter Tryz.func134, Tryz.ntmps134
    go_wp2_with fail
    refine (fits_c n k hn hk _).mono ?_
    rintro e u ⟨rfl, rfl⟩
    go_wp2
    go_ret2
    exact ⟨ret_sb hp.symm rfl, Gr.refl _⟩
  · have hf' := hf
    simp only [fitsB, decide_eq_true_eq] at hf'
    obtain ⟨hk8, hn0, _⟩ := hf'
    have hp : putS n k = bs (beL k.toNat n.toNat) := by simp [putS, hf]
    have hm : k = 1 ∨ k = 2 ∨ k = 3 ∨ k = 4 ∨ k = 5 ∨ k = 6 ∨ k = 7 ∨ k = 8 := by omega
    rcases hm with rfl | rfl | rfl | rfl | rfl | rfl | rfl | rfl
    case' inl => have hc := fun u => conv8 u n 1 hn0 (by omega)
    case' inr.inl => have hc := fun u => conv8 u n 2 hn0 (by omega)
    case' inr.inr.inl => have hc := fun u => conv8 u n 3 hn0 (by omega)
    case' inr.inr.inr.inl => have hc := fun u => conv8 u n 4 hn0 (by omega)
    case' inr.inr.inr.inr.inl => have hc := fun u => conv8 u n 5 hn0 (by omega)
    case' inr.inr.inr.inr.inr.inl => have hc := fun u => conv8 u n 6 hn0 (by omega)
    case' inr.inr.inr.inr.inr.inr.inl => have hc := fun u => conv8 u n 7 hn0 (by omega)
    case' inr.inr.inr.inr.inr.inr.inr => have hc := fun u => conv8 u n 8 hn0 (by omega)
    all_goals
      go_enter Tryz.func134, Tryz.ntmps134
      go_wp2_with fail
      refine (fits_c n _ hn hk _).mono ?_
      rintro e u ⟨rfl, rfl⟩
      go_wp2_with fail
      refine (full_c n hn _).mono ?_
      rintro e u ⟨rfl, g⟩
      go_wp2
      go_ret2
      exact ⟨ret_sb hp.symm rfl, g.trans (Gr.of (by go_grown))⟩
end Go.Proofs.YtdlomcgkpiejgaaGreatDoor
/- Plain facts on rows of numbers' bytes; facts of memory for them. -/
namespace Go.Proofs.YtdlomcgkpiejgaaGreatDoor
open Go.RowKit OctPlain
set_option linter.unusedVariables false
set_option linter.unusedSimpArgs false
set_option maxRecDepth 20000

namespace OctPlain
def rowB (l : List Int) (k : Int) : Bool := l.all (fun n => fitsB n k)
def rowL (l : List Int) (k : Int) : List UInt8 := l.flatMap (fun n => beL k.toNat n.toNat)
def rowS (l : List Int) (k : Int) : ByteArray := if rowB l k = true then bs (rowL l k) else bs []
theorem rowB_snoc (l : List Int) (z k : Int) : rowB (l ++ [z]) k = (rowB l k && fitsB z k) := by simp [rowB]
theorem rowL_snoc (l : List Int) (z k : Int) : rowL (l ++ [z]) k = rowL l k ++ beL k.toNat z.toNat := by simp [rowL]
theorem rowL_length (l : List Int) (k : Int) : (rowL l k).length = l.length * k.toNat := by
  induction l with
  | nil => simp [rowL]
  | cons a l ih =>
    have e : rowL (a :: l) k = beL k.toNat a.toNat ++ rowL l k := rfl
    rw [e, List.length_append, beL_length, ih, List.length_cons, Nat.add_mul, Nat.one_mul, Nat.add_comm]
theorem getD_at (l : List Int) (j : Nat) (hj : j < l.length) : l.getD j 0 = l[j] := by simp [hj]
theorem rowB_no {l : List Int} {j : Nat} {z k : Int} (hj : j < l.length) (hz : l.getD j 0 = z) (h : fitsB z k = false) : rowB l k = false := by
  unfold rowB
  rw [List.all_eq_false]
  refine ⟨z, ?_, by simp [h]⟩
  rw [← hz, getD_at l j hj]
  exact List.getElem_mem hj
theorem take_snoc (l : List Int) (j : Nat) (z : Int) (hj : j < l.length) (hz : l.getD j 0 = z) : l.take (j + 1) = l.take j ++ [z] := by
  rw [List.take_succ_eq_append_getElem hj, ← hz, getD_at l j hj]
theorem rowS_no {l : List Int} {k : Int} (h : rowB l k = false) : rowS l k = ⟨#[]⟩ := by simp [rowS, h, bs]
theorem rowS_yes {l : List Int} {k : Int} (h : rowB l k = true) : rowS l k = bs (rowL l k) := by simp [rowS, h]
end OctPlain

theorem Gr.grown {a b : World} (h : Gr a b) : a.grownBy b none := ⟨h.os, h.tape, h.output, h.size, fun k hk _ => h.block k hk⟩

theorem conv_own {w : World} {B : Nat} {v : Value} {l : List UInt8} (h : w.ownsRow B 5 1 v l.length (Lib.byteCells l)) :
    (convert 83 9 v).run Tryz.prog w = .ok (.string (bs l)) w := by
  obtain ⟨_, ⟨rfl, h0⟩ | ⟨g, cap, cur, rfl, _, _, _, _, _, _⟩⟩ := id h
  · have hl : l = [] := List.eq_nil_of_length_eq_zero h0
    subst hl
    exact Lib.run_convert_nil_bytes w _ _ 5 0 Tryz.underlying83 Tryz.underlying5 Tryz.underlying9
  · have hc := h.cells (g := g) rfl
    refine run_convert_bytes_back (P := Tryz.prog) w 83 9 5 _ cap l Tryz.underlying83 Tryz.underlying5 Tryz.underlying9 (fun j hj => hc j _ ?_)
    simp [Lib.byteCells, List.getElem?_eq_getElem hj]

theorem cells8 (u : World) (n : Int) (k : Nat) (hn : 0 ≤ n) (hk : 1 ≤ k ∧ k ≤ 8) : ∀ j x, (Lib.byteCells (beL k n.toNat))[j]? = some x →
    (u.alloc (.cells #[Value.int IntKind.u8 (n / 72057594037927936 % 256), Value.int IntKind.u8 (n / 281474976710656 % 256),
              Value.int IntKind.u8 (n / 1099511627776 % 256), Value.int IntKind.u8 (n / 4294967296 % 256),
              Value.int IntKind.u8 (n / 16777216 % 256), Value.int IntKind.u8 (n / 65536 % 256),
              Value.int IntKind.u8 (n / 256 % 256), Value.int IntKind.u8 (n % 256)] 174)).cell? (Addr.add ⟨u.heap.size, 8 - k, none⟩ j) = some x := by
  obtain ⟨m, rfl⟩ : ∃ m : Nat, n = m := ⟨n.toNat, by omega⟩
  intro j x hx
  have hj : j < k := by
    have := (List.getElem?_eq_some_iff.1 hx).1
    rw [Lib.byteCells_length, beL_length] at this; exact this
  have ea : Addr.add ⟨u.heap.size, 8 - k, none⟩ j = ⟨u.heap.size, 8 - k + j, none⟩ := by simp [Addr.add]
  rw [ea, World.cell?_alloc_mark]
  have hk8 : k = 1 ∨ k = 2 ∨ k = 3 ∨ k = 4 ∨ k = 5 ∨ k = 6 ∨ k = 7 ∨ k = 8 := by omega
  rcases hk8 with rfl | rfl | rfl | rfl | rfl | rfl | rfl | rfl
  all_goals
    have hj8 : j = 0 ∨ j = 1 ∨ j = 2 ∨ j = 3 ∨ j = 4 ∨ j = 5 ∨ j = 6 ∨ j = 7 := by omega
    rcases hj8 with rfl | rfl | rfl | rfl | rfl | rfl | rfl | rfl <;> first | (exfalso; omega) | (simp [beL, Lib.byteCells] at hx; subst hx; simp; done) | (simp [beL, Lib.byteCells] at hx; subst hx; simp; omega)
end Go.Proofs.YtdlomcgkpiejgaaGreatDoor
/- strings.Clone gives the same bytes: by the library's contract of internal/stringslite.Clone, laid at this program's numbers. -/
namespace Go.Proofs.YtdlomcgkpiejgaaGreatDoor
open Go.RowKit
set_option linter.unusedVariables false
def cloneRen : Go.Shelf.Ren := ⟨fun | 316 => 80 | n => n, fun | 9 => 9 | 3 => 3 | 4 => 4 | 37 => 83 | 0 => 0 | 127 => 136 | 5 => 5 | n => n, fun | n => n⟩
theorem cloneLaid : Go.Proofs.LaysM.n316 Tryz.prog cloneRen := {
  mixed := by kernel_rfl
  f316 := Tryz.func80.trans (congrArg some (by kernel_rfl))
  t0 := Tryz.underlying0
  a0 := Tryz.isAgg0
  z0 := Tryz.sizeOf0
  v0 := Tryz.zeroValue0
  t3 := Tryz.underlying3
  a3 := Tryz.isAgg3
  z3 := Tryz.sizeOf3
  v3 := Tryz.zeroValue3
  t4 := Tryz.underlying4
  a4 := Tryz.isAgg4
  z4 := Tryz.sizeOf4
  v4 := Tryz.zeroValue4
  t9 := Tryz.underlying9
  a9 := Tryz.isAgg9
  z9 := Tryz.sizeOf9
  v9 := Tryz.zeroValue9
  t37 := Tryz.underlying83
  a37 := Tryz.isAgg83
  z37 := Tryz.sizeOf83
  v37 := Tryz.zeroValue83
  t127 := Tryz.underlying136
  a127 := Tryz.isAgg136
  z127 := Tryz.sizeOf136
  v127 := Tryz.zeroValue136
  t5 := Tryz.underlying5
  a5 := Tryz.isAgg5
  z5 := Tryz.sizeOf5
  v5 := Tryz.zeroValue5
  i0 := by kernel_rfl
  i3 := by kernel_rfl
  i4 := by kernel_rfl
  i5 := by kernel_rfl
  i9 := by kernel_rfl
  i37 := by kernel_rfl
  i127 := by kernel_rfl }
theorem clone_c (s : ByteArray) (w : World) (hs : s.size ≤ 1000) :
    Calls Tryz.prog 57 #[.string s] w fun e w' => e = .returned (.string s) ∧ Gr w w' := by
  go_enter Tryz.func57, Tryz.ntmps57
  go_wp2_with fail
  refine (Any.stringslite_Clone cloneLaid s w (by omega)).mono ?_
  rintro e u ⟨rfl, g⟩
  go_wp2
  go_ret
  exact ⟨rfl, Gr.of g⟩
end Go.Proofs.YtdlomcgkpiejgaaGreatDoor

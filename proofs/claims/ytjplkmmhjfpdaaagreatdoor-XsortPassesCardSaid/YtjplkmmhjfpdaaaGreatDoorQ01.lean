/- In one text: CrcClose, OctPlain, FramePlain, OctPut, OctPut2, OctRows, Clone, OctSplit, Lies, Join. -/
import Derived.Test.YtjplkmmhjfpdaaaGreatDoorQ00
import Derived.WalkKit
import Derived.ProofKit
import Derived.Below
import Derived.Handy
import Derived.WalkLawsBesides
import Derived.Outline
import Derived.Lib.Hide
import Derived.Lib.BufferWrite
import Derived.Lib.BufferRead
import Derived.Test.YtjplkmmhjfpdaaaGreatDoorRows
import Derived.Shelf.LaysM
import Derived.Shelf.Strconv.Clone
import Derived.RegionTactic
import Derived.BigRegion
import Derived.Shelf.Strings.OnBuilder
/- Contracts of Of, the bytes of a sum, Close and Open, and of the document's own answers: by walks of their texts. -/
namespace Go.Proofs.YtjplkmmhjfpdaaaGreatDoor
open Go.RowKit CrcPlain
set_option linter.unusedVariables false
set_option linter.unusedSimpArgs false
set_option maxRecDepth 20000
theorem conv4 (T : TypeId) (n : Nat) (hn : n < 4294967296) (u : World) :
    (convert 71 9 (.slice (some ⟨u.heap.size, 0, none⟩) 4 4)).run Tryz.prog (u.alloc (.cells #[Value.int IntKind.u8 ((n : Int) % 256), Value.int IntKind.u8 ((n : Int) / 256 % 256), Value.int IntKind.u8 ((n : Int) / 65536 % 256), Value.int IntKind.u8 ((n : Int) / 16777216)] T)) =
      .ok (.string (bs (tl n))) (u.alloc (.cells #[Value.int IntKind.u8 ((n : Int) % 256), Value.int IntKind.u8 ((n : Int) / 256 % 256), Value.int IntKind.u8 ((n : Int) / 65536 % 256), Value.int IntKind.u8 ((n : Int) / 16777216)] T)) := by
  refine conv_list _ _ _ _ (tl_length n) ?_
  intro j x hx
  have hj : j < 4 := by
    have := (List.getElem?_eq_some_iff.1 hx).1
    rw [tl_length] at this; exact this
  have ea : Addr.add ⟨u.heap.size, 0, none⟩ j = ⟨u.heap.size, j, none⟩ := by by_cases h : j = 0 <;> simp [Addr.add, h]
  rw [ea, World.cell?_alloc_mark]
  have hj4 : j = 0 ∨ j = 1 ∨ j = 2 ∨ j = 3 := by omega
  rcases hj4 with rfl | rfl | rfl | rfl <;> (simp [tl] at hx; subst hx; simp; try omega)
set_option maxHeartbeats 1000000 in
theorem of_c (s : ByteArray) (hz : s.size ≤ 1000) (w : World) :
    Calls Tryz.prog 123 #[.string s] w fun e w' => e = .returned (.int .u32 (more 0 s.data.toList : Nat)) ∧ Gr w w' := by
  go_enter Tryz.func123, Tryz.ntmps123
  go_wp2_with fail
  refine (more_c 0 (by decide) s hz _).mono ?_; rintro e u ⟨rfl, g⟩
  go_wp2_with fail
  go_ret
  exact ⟨rfl, g⟩
set_option maxHeartbeats 1000000 in
theorem rof_c (s : ByteArray) (hz : s.size ≤ 1000) (w : World) :
    Calls Tryz.prog 86 #[.string s] w fun e w' => e = .returned (.int .u32 (more 0 s.data.toList : Nat)) ∧ w = w' := by
  go_enter Tryz.func86, Tryz.ntmps86
  go_wp2_with fail
  refine (rmore_c 0 (by decide) s hz _).mono ?_; rintro e u ⟨rfl, rfl⟩
  go_wp2_with fail
  go_ret
  exact ⟨rfl, rfl⟩
set_option maxHeartbeats 1000000 in
theorem tail_c (n : Nat) (hn : n < 4294967296) (w : World) :
    Calls Tryz.prog 122 #[.int .u32 (n : Int)] w fun e w' => e = .returned (.string (bs (tl n))) ∧ Gr w w' := by
  have hc := conv4 182 n hn
  go_enter Tryz.func122, Tryz.ntmps122
  go_wp2_with fail
  go_rounds 5
  go_ret
  exact ⟨rfl, Gr.of (by go_grown)⟩
def cl (s : ByteArray) : ByteArray := s ++ bs (tl (more 0 s.data.toList))
theorem cl_size (s : ByteArray) : (cl s).size = s.size + 4 := by unfold cl; rw [ByteArray.size_append, bs_size, tl_length]
set_option maxHeartbeats 1000000 in
theorem close_c (s : ByteArray) (hz : s.size ≤ 1000) (w : World) :
    Calls Tryz.prog 171 #[.string s] w fun e w' => e = .returned (.string (cl s)) ∧ Gr w w' := by
  have h4 : (bs (tl (more 0 s.data.toList))).size = 4 := by rw [bs_size, tl_length]
  go_enter Tryz.func171, Tryz.ntmps171
  go_wp2_with fail
  refine (of_c s hz _).mono ?_; rintro e u ⟨rfl, g⟩
  go_wp2_with fail
  refine (tail_c _ (more_lt (by decide) _) _).mono ?_; rintro e u2 ⟨rfl, g2⟩
  go_wp2_with fail
  go_ret
  exact ⟨rfl, g.trans g2⟩
theorem and255 (m : Nat) (h : m < 4294967296) : bits .and .u32 (m : Int) 255 = (m : Int) % 256 := by
  have e := u32_and_nat m 255 h (by decide)
  rw [Nat.and_two_pow_sub_one_eq_mod m 8] at e
  rw [Int.natCast_emod] at e
  exact e
set_option maxHeartbeats 1000000 in
theorem rclose_c (s : ByteArray) (hz : s.size ≤ 1000) (w : World) :
    Calls Tryz.prog 59 #[.string s] w fun e w' => e = .returned (.string (cl s)) ∧ Gr w w' := by
  have h4 : (bs (tl (more 0 s.data.toList))).size = 4 := by rw [bs_size, tl_length]
  have hn := more_lt (sum := 0) (by decide) s.data.toList
  have R := fun w => rof_c s hz w
  unfold cl
  generalize more 0 s.data.toList = n at R hn h4 ⊢
  go_enter Tryz.func59, Tryz.ntmps59
  go_wp2_with fail
  refine (R _).mono ?_; rintro e u ⟨rfl, rfl⟩
  have hc := conv4 5 n hn
  have q1 := and255 n hn
  have q2 : bits .and .u32 ((n : Int) / 256) 255 = (n : Int) / 256 % 256 := by
    have := and255 (n / 256) (by omega); rw [Int.natCast_ediv] at this; exact this
  have q3 : bits .and .u32 ((n : Int) / 65536) 255 = (n : Int) / 65536 % 256 := by
    have := and255 (n / 65536) (by omega); rw [Int.natCast_ediv] at this; exact this
  go_wp2_with fail
  go_ret
  exact ⟨rfl, Gr.of (by go_grown)⟩
end Go.Proofs.YtjplkmmhjfpdaaaGreatDoor
/- Plain facts on bytes of numbers, without the model: the highest byte first. -/
namespace Go.Proofs.YtjplkmmhjfpdaaaGreatDoor
namespace OctPlain
def beL : Nat → Nat → List UInt8
  | 0, _ => []
  | k + 1, n => beL k (n / 256) ++ [UInt8.ofNat (n % 256)]
theorem beL_length (k : Nat) : ∀ n, (beL k n).length = k := by
  induction k with
  | zero => intro n; rfl
  | succ k ih => intro n; simp [beL, ih]
theorem beL_top (k : Nat) : ∀ n, beL (k + 1) n = UInt8.ofNat (n / 256 ^ k % 256) :: beL k n := by
  induction k with
  | zero => intro n; simp [beL]
  | succ k ih =>
    intro n
    have h := ih (n / 256)
    rw [beL, h, beL, Nat.div_div_eq_div_mul, ← Nat.pow_succ', List.cons_append]
def num (l : List UInt8) : Nat := l.foldl (fun v b => v * 256 + b.toNat) 0
theorem num_snoc (l : List UInt8) (b : UInt8) : num (l ++ [b]) = num l * 256 + b.toNat := by
  simp [num]
theorem fold_eq (l : List UInt8) : ∀ v, l.foldl (fun v b => v * 256 + b.toNat) v = v * 256 ^ l.length + num l := by
  induction l with
  | nil => intro v; simp [num]
  | cons b l ih =>
    intro v
    have h1 := ih (v * 256 + b.toNat)
    have h2 := ih (0 * 256 + b.toNat)
    have e : num (b :: l) = l.foldl (fun v b => v * 256 + b.toNat) (0 * 256 + b.toNat) := rfl
    rw [List.foldl_cons, h1, e, h2, List.length_cons, Nat.pow_succ, Nat.add_mul, Nat.zero_mul, Nat.zero_add, Nat.mul_assoc, Nat.mul_comm 256, Nat.add_assoc]
theorem num_cons (b : UInt8) (l : List UInt8) : num (b :: l) = b.toNat * 256 ^ l.length + num l := by
  have h := fold_eq l (0 * 256 + b.toNat)
  have e : num (b :: l) = l.foldl (fun v b => v * 256 + b.toNat) (0 * 256 + b.toNat) := rfl
  rw [e, h, Nat.zero_mul, Nat.zero_add]
theorem num_lt (l : List UInt8) : num l < 256 ^ l.length := by
  induction l with
  | nil => simp [num]
  | cons b l ih =>
    rw [num_cons, List.length_cons, Nat.pow_succ]
    have hb := b.toNat_lt
    have hb' : b.toNat * 256 ^ l.length ≤ 255 * 256 ^ l.length := Nat.mul_le_mul_right _ (by omega)
    omega
theorem num_beL (k : Nat) : ∀ n, n < 256 ^ k → num (beL k n) = n := by
  induction k with
  | zero => intro n h; simp at h; subst h; rfl
  | succ k ih =>
    intro n h
    rw [Nat.pow_succ] at h
    have hd : n / 256 < 256 ^ k := by omega
    rw [beL, num_snoc, ih _ hd]
    have : (UInt8.ofNat (n % 256)).toNat = n % 256 := by
      rw [UInt8.toNat_ofNat']; omega
    rw [this]; omega
def fitsB (n k : Int) : Bool := decide ((1 ≤ k ∧ k ≤ 8) ∧ 0 ≤ n ∧ n < (256 : Int) ^ k.toNat)
def putS (n k : Int) : ByteArray := if fitsB n k = true then bs (beL k.toNat n.toNat) else bs []
theorem put_no {n k : Int} (h : fitsB n k = false) : putS n k = ⟨#[]⟩ := by simp [putS, h, bs]
theorem dig_cast (n : Int) (hn : 0 ≤ n) (j : Nat) : (n / 256 ^ j % 256).toNat = n.toNat / 256 ^ j % 256 := by
  obtain ⟨N, rfl⟩ : ∃ N : Nat, n = N := ⟨n.toNat, by omega⟩
  have : ((N / 256 ^ j % 256 : Nat) : Int) = (N : Int) / 256 ^ j % 256 := by rw [Int.natCast_emod, Int.natCast_ediv, Int.natCast_pow]; rfl
  rw [← this, Int.toNat_natCast, Int.toNat_natCast]
theorem fits_at {n k : Int} (hk : 1 ≤ k ∧ k ≤ 8) (hn : 0 ≤ n) : fitsB n k = decide (n / 256 ^ k.toNat = 0) := by
  unfold fitsB
  have hp : (0 : Int) < 256 ^ k.toNat := Int.pow_pos (by omega)
  apply decide_eq_decide.2
  constructor
  · intro h; exact Int.ediv_eq_zero_of_lt hn h.2.2
  · intro h
    refine ⟨hk, hn, ?_⟩
    have h1 := Int.emod_lt_of_pos n hp
    have h2 := Int.emod_add_mul_ediv n (256 ^ k.toNat)
    rw [h] at h2
    omega
def cutL (s : ByteArray) (a k : Nat) : List UInt8 := (s.data.toList.drop a).take k
def getB (s : ByteArray) (a k : Int) : Bool := decide ((1 ≤ k ∧ k ≤ 8) ∧ 0 ≤ a ∧ a + k ≤ s.size ∧ num (cutL s a.toNat k.toNat) < 9223372036854775808)
def getN (s : ByteArray) (a k : Int) : Int := if getB s a k = true then (num (cutL s a.toNat k.toNat) : Int) else 0
theorem cutL_length (s : ByteArray) (a k : Nat) (h : a + k ≤ s.size) : (cutL s a k).length = k := by
  have : s.data.toList.length = s.size := Array.length_toList
  simp only [cutL, List.length_take, List.length_drop]; omega
end OctPlain
end Go.Proofs.YtjplkmmhjfpdaaaGreatDoor
/- Plain facts on rows of strings and on blocks, without the model; a row of strings in memory. -/
namespace Go.Proofs.YtjplkmmhjfpdaaaGreatDoor
open Go.RowKit CrcPlain OctPlain
set_option linter.unusedVariables false
set_option linter.unusedSimpArgs false
set_option maxRecDepth 20000
namespace FramePlain
def sizeB (size : Int) : Bool := decide (1 ≤ size ∧ size ≤ 64)
def roomN (size : Int) : Int := if sizeB size = true then 5 + 4 * size else 0
def cat (l : List ByteArray) : List UInt8 := (l.map (·.data.toList)).flatten
def allB (size : Int) (l : List ByteArray) : Bool := l.all (fun s => decide ((s.size : Int) = size))
def blkB (size : Int) (l : List ByteArray) : Bool := sizeB size && decide (1 ≤ l.length ∧ l.length ≤ 4) && allB size l
def blk (l : List ByteArray) : ByteArray := bs (UInt8.ofNat l.length :: cat l)
def blkS (size : Int) (l : List ByteArray) : ByteArray := if blkB size l = true then cl (blk l) else ⟨#[]⟩
theorem blkS_no {size : Int} {l : List ByteArray} (h : blkB size l = false) : blkS size l = ⟨#[]⟩ := by simp [blkS, h]
theorem blkS_yes {size : Int} {l : List ByteArray} (h : blkB size l = true) : blkS size l = cl (blk l) := by simp [blkS, h]
theorem cat_snoc (l : List ByteArray) (x : ByteArray) : cat (l ++ [x]) = cat l ++ x.data.toList := by simp [cat]
theorem allB_iff {size : Int} {l : List ByteArray} : allB size l = true ↔ ∀ s ∈ l, (s.size : Int) = size := by simp [allB]
theorem data_length (s : ByteArray) : s.data.toList.length = s.size := Array.length_toList
theorem cat_length {size : Nat} : ∀ {l : List ByteArray}, (∀ s ∈ l, s.size = size) → (cat l).length = l.length * size
  | [], _ => by simp [cat]
  | x :: r, h => by
    have ih := cat_length (l := r) fun s hs => h s (by simp [hs])
    have e : cat (x :: r) = x.data.toList ++ cat r := rfl
    rw [e, List.length_append, ih, data_length, h x (by simp), List.length_cons, Nat.add_mul, Nat.one_mul, Nat.add_comm]
theorem cat_le {l : List ByteArray} (h : ∀ s ∈ l, s.size ≤ 64) : (cat l).length ≤ l.length * 64 := by
  induction l with
  | nil => simp [cat]
  | cons x r ih =>
    have e : cat (x :: r) = x.data.toList ++ cat r := rfl
    have := ih fun s hs => h s (by simp [hs])
    have hx := h x (by simp)
    rw [e, List.length_append, data_length, List.length_cons]
    omega
theorem cat_le1000 {l : List ByteArray} (h : ∀ s ∈ l, s.size ≤ 1000) : (cat l).length ≤ l.length * 1000 := by
  induction l with
  | nil => simp [cat]
  | cons x r ih =>
    have e : cat (x :: r) = x.data.toList ++ cat r := rfl
    have := ih fun s hs => h s (by simp [hs])
    have hx := h x (by simp)
    rw [e, List.length_append, data_length, List.length_cons]
    omega
theorem blk_size (l : List ByteArray) : (blk l).size = 1 + (cat l).length := by unfold blk; rw [bs_size, List.length_cons]; omega
end FramePlain
open FramePlain
end Go.Proofs.YtjplkmmhjfpdaaaGreatDoor
/- Contracts of layer octet's functions that make bytes, and of the document's answers to them, each by a walk of its text. -/
namespace Go.Proofs.YtjplkmmhjfpdaaaGreatDoor
open Go.RowKit OctPlain
set_option linter.unusedVariables false
set_option linter.unusedSimpArgs false
set_option maxRecDepth 20000
set_option maxHeartbeats 1000000 in
theorem full_c (n : Int) (hn : I64 n) (w : World) :
    Calls Tryz.prog 207 #[.int .i64 n] w fun e w' => e = .returned (.agg #[Value.int IntKind.u8 (n / 72057594037927936 % 256), Value.int IntKind.u8 (n / 281474976710656 % 256),
              Value.int IntKind.u8 (n / 1099511627776 % 256), Value.int IntKind.u8 (n / 4294967296 % 256),
              Value.int IntKind.u8 (n / 16777216 % 256), Value.int IntKind.u8 (n / 65536 % 256),
              Value.int IntKind.u8 (n / 256 % 256), Value.int IntKind.u8 (n % 256)]) ∧ Gr w w' := by
  go_enter Tryz.func207, Tryz.ntmps207
  go_wp2_with fail
  go_rounds 9
  refine bodyPost_ret (v := .agg #[Value.int IntKind.u8 (n / 72057594037927936 % 256), Value.int IntKind.u8 (n / 281474976710656 % 256),
              Value.int IntKind.u8 (n / 1099511627776 % 256), Value.int IntKind.u8 (n / 4294967296 % 256),
              Value.int IntKind.u8 (n / 16777216 % 256), Value.int IntKind.u8 (n / 65536 % 256),
              Value.int IntKind.u8 (n / 256 % 256), Value.int IntKind.u8 (n % 256)]) (by simp [results, Tryz.results207, go_sem]) rfl ⟨rfl, Gr.of (by go_grown)⟩
set_option maxHeartbeats 1000000 in
theorem sized_c (k : Int) (hk : I64 k) (w : World) :
    Calls Tryz.prog 124 #[.int .i64 k] w fun e w' => e = .returned (.bool (decide (1 ≤ k ∧ k ≤ 8))) ∧ w = w' := by
  by_cases h1 : 1 ≤ k <;> by_cases h2 : k ≤ 8
  all_goals
    go_enter Tryz.func124, Tryz.ntmps124
    go_wp2
    go_ret
    exact ⟨by simp [h1, h2], rfl⟩
theorem ret_b {a b : Bool} (h : a = b) : Ending.returned (.bool a) = .returned (.bool b) := by rw [h]
theorem b_of {a : Bool} {p : Prop} [Decidable p] (h : a = true ↔ p) : a = decide p := by
  cases a <;> simp_all
set_option maxHeartbeats 1000000 in
theorem fits_c (n k : Int) (hn : I64 n) (hk : I64 k) (w : World) :
    Calls Tryz.prog 206 #[.int .i64 n, .int .i64 k] w fun e w' => e = .returned (.bool (fitsB n k)) ∧ w = w' := by
  unfold I64 at hn hk
  by_cases h : 1 ≤ k ∧ k ≤ 8
  · have hd : decide (1 ≤ k ∧ k ≤ 8) = true := by simpa using h
    have hk8 : k = 1 ∨ k = 2 ∨ k = 3 ∨ k = 4 ∨ k = 5 ∨ k = 6 ∨ k = 7 ∨ k = 8 := by omega
    rcases hk8 with rfl | rfl | rfl | rfl | rfl | rfl | rfl | rfl
    all_goals
      go_enter Tryz.func206, Tryz.ntmps206
      go_wp2_with fail
      refine (sized_c _ hk _).mono ?_
      rintro e u ⟨rfl, rfl⟩
      go_wp2
      go_ret
      refine ⟨ret_b (b_of ?_), rfl⟩
      simp
      omega
  · have hd : decide (1 ≤ k ∧ k ≤ 8) = false := by simpa using h
    have hf : fitsB n k = false := by simp [fitsB, h]
    go_enter Tryz.func206, Tryz.ntmps206
    go_wp2_with fail
    refine (sized_c k hk _).mono ?_
    rintro e u ⟨rfl, rfl⟩
    go_wp2
    go_ret
    exact ⟨ret_b hf.symm, rfl⟩
end Go.Proofs.YtjplkmmhjfpdaaaGreatDoor
/- Contracts of Put and PutCoord, and of the document's answers to them. -/
namespace Go.Proofs.YtjplkmmhjfpdaaaGreatDoor
open Go.RowKit OctPlain
set_option linter.unusedVariables false
set_option linter.unusedSimpArgs false
set_option maxRecDepth 20000
theorem conv8 (u : World) (n : Int) (k : Nat) (hn : 0 ≤ n) (hk : 1 ≤ k ∧ k ≤ 8) :
    (convert 71 9 (.slice (some ⟨u.heap.size, 8 - k, none⟩) k k)).run Tryz.prog (u.alloc (.cells #[Value.int IntKind.u8 (n / 72057594037927936 % 256), Value.int IntKind.u8 (n / 281474976710656 % 256),
              Value.int IntKind.u8 (n / 1099511627776 % 256), Value.int IntKind.u8 (n / 4294967296 % 256),
              Value.int IntKind.u8 (n / 16777216 % 256), Value.int IntKind.u8 (n / 65536 % 256),
              Value.int IntKind.u8 (n / 256 % 256), Value.int IntKind.u8 (n % 256)] 161)) = .ok (.string (bs (beL k n.toNat))) (u.alloc (.cells #[Value.int IntKind.u8 (n / 72057594037927936 % 256), Value.int IntKind.u8 (n / 281474976710656 % 256),
              Value.int IntKind.u8 (n / 1099511627776 % 256), Value.int IntKind.u8 (n / 4294967296 % 256),
              Value.int IntKind.u8 (n / 16777216 % 256), Value.int IntKind.u8 (n / 65536 % 256),
              Value.int IntKind.u8 (n / 256 % 256), Value.int IntKind.u8 (n % 256)] 161)) := by
  obtain ⟨m, rfl⟩ : ∃ m : Nat, n = m := ⟨n.toNat, by omega⟩
  refine conv_list _ _ _ _ (beL_length k m) ?_
  intro j x hx
  have hj : j < k := by
    have := (List.getElem?_eq_some_iff.1 hx).1
    rw [beL_length] at this; exact this
  have ea : Addr.add ⟨u.heap.size, 8 - k, none⟩ j = ⟨u.heap.size, 8 - k + j, none⟩ := by simp [Addr.add]
  rw [ea, World.cell?_alloc_mark]
  have hk8 : k = 1 ∨ k = 2 ∨ k = 3 ∨ k = 4 ∨ k = 5 ∨ k = 6 ∨ k = 7 ∨ k = 8 := by omega
  rcases hk8 with rfl | rfl | rfl | rfl | rfl | rfl | rfl | rfl
  all_goals
    have hj8 : j = 0 ∨ j = 1 ∨ j = 2 ∨ j = 3 ∨ j = 4 ∨ j = 5 ∨ j = 6 ∨ j = 7 := by omega
    rcases hj8 with rfl | rfl | rfl | rfl | rfl | rfl | rfl | rfl <;> first | (exfalso; omega) | (simp [beL] at hx; subst hx; simp; done) | (simp [beL] at hx; subst hx; simp; omega)
def b1 (b : UInt8) : ByteArray := bs [b]
theorem conv1 (u : World) (x : Int) (h0 : 0 ≤ x) (h1 : x < 256) :
    (convert 71 9 (.slice (some ⟨u.heap.size, 0, none⟩) 1 1)).run Tryz.prog (u.alloc (.cells #[Value.int IntKind.u8 x] 5)) = .ok (.string (bs [UInt8.ofNat x.toNat])) (u.alloc (.cells #[Value.int IntKind.u8 x] 5)) := by
  refine conv_list _ _ _ _ rfl ?_
  intro j y hy
  obtain rfl : j = 0 := by
    have := (List.getElem?_eq_some_iff.1 hy).1
    simpa using this
  simp at hy
  subst hy
  show World.cell? _ ⟨u.heap.size, 0 + 0, none⟩ = _
  rw [World.cell?_alloc_mark]
  simp
  omega
set_option maxHeartbeats 1000000 in
theorem put_c (n k : Int) (hn : I64 n) (hk : I64 k) (w : World) :
    Calls Tryz.prog 193 #[.int .i64 n, .int .i64 k] w fun e w' => e = .returned (.tuple #[.string (putS n k), .bool (fitsB n k)]) ∧ Gr w w' := by
  cases hf : fitsB n k
  · have hp := put_no hf
    go_enter Tryz.func193, Tryz.ntmps193
    go_wp2_with fail
    refine (fits_c n k hn hk _).mono ?_
    rintro e u ⟨rfl, rfl⟩
    go_wp2
    go_ret2
    exact ⟨ret_sb hp.symm rfl, Gr.refl _⟩
  · have hf' := hf
    simp only [fitsB, decide_eq_true_eq] at hf'
    obtain ⟨hk8, hn0, _⟩ := hf'
    have hp : putS n k = bs (beL k.toNat n.toNat) := by simp [putS, hf]
    have hm : k = 1 ∨ k = 2 ∨ k = 3 ∨ k = 4 ∨ k = 5 ∨ k = 6 ∨ k = 7 ∨ k = 8 := by omega
    rcases hm with rfl | rfl | rfl | rfl | rfl | rfl | rfl | rfl
    case' inl => have hc := fun u => conv8 u n 1 hn0 (by omega)
    case' inr.inl => have hc := fun u => conv8 u n 2 hn0 (by omega)
    case' inr.inr.inl => have hc := fun u => conv8 u n 3 hn0 (by omega)
    case' inr.inr.inr.inl => have hc := fun u => conv8 u n 4 hn0 (by omega)
    case' inr.inr.inr.inr.inl => have hc := fun u => conv8 u n 5 hn0 (by omega)
    case' inr.inr.inr.inr.inr.inl => have hc := fun u => conv8 u n 6 hn0 (by omega)
    case' inr.inr.inr.inr.inr.inr.inl => have hc := fun u => conv8 u n 7 hn0 (by omega)
    case' inr.inr.inr.inr.inr.inr.inr => have hc := fun u => conv8 u n 8 hn0 (by omega)
    all_goals
      go_enter Tryz.func193, Tryz.ntmps193
      go_wp2_with fail
      refine (fits_c n _ hn hk _).mono ?_
      rintro e u ⟨rfl, rfl⟩
      go_wp2_with fail
      refine (full_c n hn _).mono ?_
      rintro e u ⟨rfl, g⟩
      go_wp2
      go_ret2
      exact ⟨ret_sb hp.symm rfl, g.trans (Gr.of (by go_grown))⟩
end Go.Proofs.YtjplkmmhjfpdaaaGreatDoor
/- Plain facts on rows of numbers' bytes; facts of memory for them. -/
namespace Go.Proofs.YtjplkmmhjfpdaaaGreatDoor
open Go.RowKit OctPlain
set_option linter.unusedVariables false
set_option linter.unusedSimpArgs false
set_option maxRecDepth 20000
namespace OctPlain
theorem getD_at (l : List Int) (j : Nat) (hj : j < l.length) : l.getD j 0 = l[j] := by simp [hj]
theorem take_snoc (l : List Int) (j : Nat) (z : Int) (hj : j < l.length) (hz : l.getD j 0 = z) : l.take (j + 1) = l.take j ++ [z] := by
  rw [List.take_succ_eq_append_getElem hj, ← hz, getD_at l j hj]
end OctPlain
theorem Gr.grown {a b : World} (h : Gr a b) : a.grownBy b none := ⟨h.os, h.tape, h.output, h.size, fun k hk _ => h.block k hk⟩
end Go.Proofs.YtjplkmmhjfpdaaaGreatDoor
/- strings.Clone gives the same bytes: by the library's contract of internal/stringslite.Clone, laid at this program's numbers. -/
namespace Go.Proofs.YtjplkmmhjfpdaaaGreatDoor
open Go.RowKit
set_option linter.unusedVariables false
def cloneRen : Go.Shelf.Ren := ⟨fun | 316 => 88 | n => n, fun | 9 => 9 | 3 => 3 | 4 => 4 | 37 => 71 | 0 => 0 | 127 => 142 | 5 => 5 | n => n, fun | n => n⟩
theorem cloneLaid : Go.Proofs.LaysM.n316 Tryz.prog cloneRen := {
  mixed := by kernel_rfl
  f316 := Tryz.func88.trans (congrArg some (by kernel_rfl))
  t0 := Tryz.underlying0
  a0 := Tryz.isAgg0
  z0 := Tryz.sizeOf0
  v0 := Tryz.zeroValue0
  t3 := Tryz.underlying3
  a3 := Tryz.isAgg3
  z3 := Tryz.sizeOf3
  v3 := Tryz.zeroValue3
  t4 := Tryz.underlying4
  a4 := Tryz.isAgg4
  z4 := Tryz.sizeOf4
  v4 := Tryz.zeroValue4
  t9 := Tryz.underlying9
  a9 := Tryz.isAgg9
  z9 := Tryz.sizeOf9
  v9 := Tryz.zeroValue9
  t37 := Tryz.underlying71
  a37 := Tryz.isAgg71
  z37 := Tryz.sizeOf71
  v37 := Tryz.zeroValue71
  t127 := Tryz.underlying142
  a127 := Tryz.isAgg142
  z127 := Tryz.sizeOf142
  v127 := Tryz.zeroValue142
  t5 := Tryz.underlying5
  a5 := Tryz.isAgg5
  z5 := Tryz.sizeOf5
  v5 := Tryz.zeroValue5
  i0 := by kernel_rfl
  i3 := by kernel_rfl
  i4 := by kernel_rfl
  i5 := by kernel_rfl
  i9 := by kernel_rfl
  i37 := by kernel_rfl
  i127 := by kernel_rfl }
theorem clone_c (s : ByteArray) (w : World) (hs : s.size ≤ 1000) :
    Calls Tryz.prog 62 #[.string s] w fun e w' => e = .returned (.string s) ∧ Gr w w' := by
  go_enter Tryz.func62, Tryz.ntmps62
  go_wp2_with fail
  refine (Any.stringslite_Clone cloneLaid s w (by omega)).mono ?_
  rintro e u ⟨rfl, g⟩
  go_wp2
  go_ret
  exact ⟨rfl, Gr.of g⟩
end Go.Proofs.YtjplkmmhjfpdaaaGreatDoor
/- Contracts of Split, of the document's answer to it, and of the statement's comparison of two lists. -/
namespace Go.Proofs.YtjplkmmhjfpdaaaGreatDoor
open Go.RowKit OctPlain
set_option linter.unusedVariables false
set_option linter.unusedSimpArgs false
set_option maxRecDepth 20000
namespace OctPlain
def pieces (s : ByteArray) (k : Nat) : Nat → List ByteArray
  | 0 => []
  | j + 1 => pieces s k j ++ [s.extract (j * k) (j * k + k)]
theorem pieces_length (s : ByteArray) (k : Nat) : ∀ j, (pieces s k j).length = j
  | 0 => rfl
  | j + 1 => by rw [pieces, List.length_append, pieces_length s k j]; rfl
def splB (s : ByteArray) (k : Int) : Bool := decide (1 ≤ k ∧ (s.size : Int) % k = 0)
def splL (s : ByteArray) (k : Int) : List ByteArray := if splB s k = true then pieces s k.toNat (s.size / k.toNat) else []
theorem splL_no {s : ByteArray} {k : Int} (h : splB s k = false) : splL s k = [] := by simp [splL, h]
theorem splL_yes {s : ByteArray} {k : Int} (h : splB s k = true) : splL s k = pieces s k.toNat (s.size / k.toNat) := by simp [splL, h]
end OctPlain
theorem info9 : (Tryz.prog.info? 9).map (fun i => (i.zero, i.size, i.bytes)) = some (some (.string ⟨#[]⟩), 1, 16) := by kernel_rfl
theorem ret_vb {a b : Value} {p q : Bool} (h : a = b) (k : p = q) : Ending.returned (.tuple #[a, .bool p]) = .returned (.tuple #[b, .bool q]) := by rw [h, k]
set_option maxHeartbeats 1000000 in
theorem split_no (s : ByteArray) (k : Int) (hk : I64 k) (w : World) (hs : s.size ≤ 1000) (h : splB s k = false) :
    Calls Tryz.prog 203 #[.string s, .int .i64 k] w fun e w' => e = .returned (.tuple #[.slice none 0 0, .bool (splB s k)]) ∧ w = w' := by
  by_cases k1 : k < 1
  · go_enter Tryz.func203, Tryz.ntmps203
    go_wp2_with fail
    go_ret2
    first | exact ⟨rfl, rfl⟩ | exact ⟨ret_vb rfl h.symm, rfl⟩
  · have hm : ¬ (s.size : Int) % k = 0 := by
      intro hh
      have : splB s k = true := by unfold splB; rw [decide_eq_true_iff]; exact ⟨by omega, hh⟩
      rw [h] at this; cases this
    have hm2 : ((s.size : Int) % k == 0) = false := by simpa using hm
    have hm3 : ((s.size : Int) % k != 0) = true := by simpa using hm
    have hk0 : ¬ k = 0 := by omega
    go_enter Tryz.func203, Tryz.ntmps203
    go_wp2_with fail
    go_ret2
    first | exact ⟨rfl, rfl⟩ | exact ⟨ret_vb rfl h.symm, rfl⟩
theorem slice_mid (s : ByteArray) (a m : Nat) (h : a + m ≤ s.size) (w : World) :
    (Instr.slice 9 (.string s) (some (.int .i64 (a : Int))) (some (.int .i64 ((a : Int) + (m : Int)))) none).run Tryz.prog w = .ok (.string (s.extract a (a + m))) w := by
  have h1 := run_slice_string (P := Tryz.prog) w 9 s .i64 .i64 (a : Int) ((a : Int) + (m : Int)) Tryz.underlying9 (by omega) (by omega) (by omega)
  have e : ((a : Int) + (m : Int)).toNat = a + m := by omega
  rw [e, Int.toNat_natCast] at h1
  exact h1
def SplAt (s : ByteArray) (m q : Nat) (w : World) (v i : Value) (wr : World) : Prop :=
  ∃ j a : Nat, j ≤ q ∧ a = j * m ∧ i = .int .i64 a ∧ wr.ownsRow w.heap.size 9 1 v j (strs (pieces s m j)) ∧ Below w.heap.size w wr
set_option maxRecDepth 20000 in
set_option maxHeartbeats 2000000 in
theorem split_yes (s : ByteArray) (m : Nat) (hk : I64 m) (w : World) (hs : s.size ≤ 1000) (h : splB s m = true) :
    Calls Tryz.prog 203 #[.string s, .int .i64 m] w fun e w' => ∃ v, e = .returned (.tuple #[v, .bool true]) ∧ w'.ownsRow w.heap.size 9 1 v (splL s m).length (strs (splL s m)) ∧ Gr w w' := by
  have hL := splL_yes h
  unfold splB at h
  rw [decide_eq_true_iff] at h
  obtain ⟨hm1, hmod⟩ := h
  unfold I64 at hk
  rw [Int.toNat_natCast] at hL
  have hmod' : s.size % m = 0 := by omega
  have hq : s.size = s.size / m * m := by
    have := Nat.div_add_mod s.size m
    rw [hmod', Nat.add_zero, Nat.mul_comm] at this; exact this.symm
  generalize hqq : s.size / m = q at hq hL
  rw [hL, pieces_length]
  have hb2 : ((s.size : Int) % (m : Int) == 0) = true := by simpa using hmod
  have hb3 : ((s.size : Int) % (m : Int) != 0) = false := by simpa using hmod
  have hq' := Lib.hid hq
  clear hL hqq hq hmod hmod'
  obtain ⟨i0, hi, hz0, hz1, hz2⟩ := info_parts info9
  go_enter Tryz.func203, Tryz.ntmps203
  go_wp2_with fail
  refine (clone_c s _ hs).mono ?_
  rintro e w1 ⟨rfl, g⟩
  go_wp2_with fail
  go_loopw [7, 8] (fun v i wr => SplAt s m q w v i wr) (fun _ i _ => s.size - (intOf i).toNat)
  case atStart => exact ⟨0, 0, Nat.zero_le _, by omega, rfl, World.ownsRow_nil _ _ _ _, g⟩
  case round =>
    obtain ⟨j, a, hj, ha, rfl, hown, hbel⟩ := hrel
    have hsz := hbel.size
    by_cases hlt : j < q
    · have hroom : a + m ≤ s.size := by
        rw [hq'.out, ha]
        have := Nat.mul_le_mul_right m (show j + 1 ≤ q by omega)
        rw [Nat.add_mul, Nat.one_mul] at this; exact this
      have hjq : j ≤ 1000 := by
        have h1 := Nat.mul_le_mul_left j (show 1 ≤ m by omega)
        omega
      have hnext : pieces s m (j + 1) = pieces s m j ++ [s.extract a (a + m)] := by rw [pieces, ha]
      have hfin : ∀ (v' : Value) (wx : World), wx.ownsRow w.heap.size 9 1 v' (j + 1) (strs (pieces s m j) ++ [.string (s.extract a (a + m))]) → Below w.heap.size w wx → SplAt s m q w v' (.int .i64 ((a : Int) + (m : Int))) wx := by
        intro v' wx h1 h2
        refine ⟨j + 1, a + m, by omega, by rw [Nat.add_mul, Nat.one_mul, ha], rfl, ?_, h2⟩
        rw [hnext]
        unfold strs at h1 ⊢
        rw [List.map_append]; exact h1
      have hh := Lib.hid hfin
      have hsl := slice_mid s a m hroom
      clear hfin hnext ha
      go_wp2_with (first
        | (at_builtin; refine wpList_append_own _ rfl _ _ 22 rfl w.heap.size 9 i0 (.string ⟨#[]⟩) 1 16 Tryz.underlying22 hi hz0 hz1 hz2 rfl (by decide) _ _ _ rfl (hown.alloc _) ⟨wr.heap.size, 0, none⟩ 1 1 [.string (s.extract a (a + m))] rfl ?c0 ?c1 ?c2 ?c3 ?c4 ?c5 ?_)
        | go_in)
      case c0 => rfl
      case c1 =>
        intro jj u hj
        match jj, hj with
        | 0, hj => simp at hj; subst hj; simp [Addr.add]
      case c2 => intro u hu; simp at hu; subst hu; rfl
      case c3 => unfold maxLen; omega
      case c4 => omega
      case c5 => simp only [World.size_alloc]; omega
      · intro v' w2 hown' hgrow _
        have hb2 : Below w.heap.size w w2 := (hbel.alloc hsz _).grown hgrow (by simp only [World.size_alloc]; omega) (fun q hq => (hown.lt q hq).1)
        clear hown hgrow
        have hown3 := Lib.hid hown'
        clear hown'
        go_wp2
        refine ⟨hh.out _ _ hown3.out hb2, ?_⟩
        simp [intOf]; omega
    · obtain rfl : j = q := by omega
      have hae : a = s.size := by rw [ha]; exact hq'.out.symm
      clear ha
      subst hae
      have hown3 := Lib.hid hown
      clear hown
      go_wp2
      go_ret2
      exact ⟨_, rfl, hown3.out, Gr.of hbel⟩
theorem split_c (s : ByteArray) (k : Int) (hk : I64 k) (w : World) (hs : s.size ≤ 1000) :
    Calls Tryz.prog 203 #[.string s, .int .i64 k] w fun e w' => ∃ v, e = .returned (.tuple #[v, .bool (splB s k)]) ∧ w'.ownsRow w.heap.size 9 1 v (splL s k).length (strs (splL s k)) ∧ Gr w w' := by
  cases h : splB s k
  · refine (split_no s k hk w hs h).mono ?_
    rintro e u ⟨rfl, rfl⟩
    rw [splL_no h]
    exact ⟨_, by rw [h], World.ownsRow_nil _ _ _ _, Gr.refl _⟩
  · obtain ⟨m, rfl⟩ : ∃ m : Nat, k = m := by
      have h' := h
      unfold splB at h'; rw [decide_eq_true_iff] at h'
      exact ⟨k.toNat, by omega⟩
    exact split_yes s m hk w hs h
end Go.Proofs.YtjplkmmhjfpdaaaGreatDoor
/- A slice that holds these strings, whoever made it; the document's comparison of two such. -/
namespace Go.Proofs.YtjplkmmhjfpdaaaGreatDoor
open Go.RowKit OctPlain FramePlain
set_option linter.unusedVariables false
set_option linter.unusedSimpArgs false
set_option maxRecDepth 20000
end Go.Proofs.YtjplkmmhjfpdaaaGreatDoor
/- strings.Join with nothing between: by the library's contract, laid at this program's numbers. -/
namespace Go.Proofs.YtjplkmmhjfpdaaaGreatDoor
open Go.RowKit FramePlain
set_option linter.unusedVariables false
def joinRen : Go.Shelf.Ren := ⟨fun | 156 => 205 | 165 => 215 | 166 => 216 | 169 => 217 | 240 => 222 | 241 => 223 | 276 => 225 | 277 => 226 | n => n, fun | 31 => 22 | 9 => 9 | 3 => 3 | 4 => 4 | 0 => 0 | 20 => 20 | 72 => 240 | 76 => 243 | 70 => 238 | 37 => 71 | 75 => 242 | 127 => 142 | 164 => 247 | 5 => 5 | 80 => 102 | n => n, fun | n => n⟩
theorem joinLaid : Go.Proofs.Lays.n156 Tryz.prog joinRen := {
  mixed := by kernel_rfl
  f156 := Tryz.func205.trans (congrArg some (by kernel_rfl))
  f165 := Tryz.func215.trans (congrArg some (by kernel_rfl))
  f166 := Tryz.func216.trans (congrArg some (by kernel_rfl))
  f169 := Tryz.func217.trans (congrArg some (by kernel_rfl))
  f240 := Tryz.func222.trans (congrArg some (by kernel_rfl))
  f241 := Tryz.func223.trans (congrArg some (by kernel_rfl))
  f276 := Tryz.func225.trans (congrArg some (by kernel_rfl))
  f277 := Tryz.func226.trans (congrArg some (by kernel_rfl))
  t0 := Tryz.underlying0
  a0 := Tryz.isAgg0
  z0 := Tryz.sizeOf0
  v0 := Tryz.zeroValue0
  t3 := Tryz.underlying3
  a3 := Tryz.isAgg3
  z3 := Tryz.sizeOf3
  v3 := Tryz.zeroValue3
  t4 := Tryz.underlying4
  a4 := Tryz.isAgg4
  z4 := Tryz.sizeOf4
  v4 := Tryz.zeroValue4
  t9 := Tryz.underlying9
  a9 := Tryz.isAgg9
  z9 := Tryz.sizeOf9
  v9 := Tryz.zeroValue9
  t20 := Tryz.underlying20
  a20 := Tryz.isAgg20
  z20 := Tryz.sizeOf20
  v20 := Tryz.zeroValue20
  t31 := Tryz.underlying22
  a31 := Tryz.isAgg22
  z31 := Tryz.sizeOf22
  v31 := Tryz.zeroValue22
  t37 := Tryz.underlying71
  a37 := Tryz.isAgg71
  z37 := Tryz.sizeOf71
  v37 := Tryz.zeroValue71
  t70 := Tryz.underlying238
  a70 := Tryz.isAgg238
  z70 := Tryz.sizeOf238
  v70 := Tryz.zeroValue238
  t72 := Tryz.underlying240
  a72 := Tryz.isAgg240
  z72 := Tryz.sizeOf240
  v72 := Tryz.zeroValue240
  t75 := Tryz.underlying242
  a75 := Tryz.isAgg242
  z75 := Tryz.sizeOf242
  v75 := Tryz.zeroValue242
  t76 := Tryz.underlying243
  a76 := Tryz.isAgg243
  z76 := Tryz.sizeOf243
  v76 := Tryz.zeroValue243
  t127 := Tryz.underlying142
  a127 := Tryz.isAgg142
  z127 := Tryz.sizeOf142
  v127 := Tryz.zeroValue142
  t164 := Tryz.underlying247
  a164 := Tryz.isAgg247
  z164 := Tryz.sizeOf247
  v164 := Tryz.zeroValue247 }
theorem joinExtra : Builder.Extra Tryz.prog joinRen := {
  sizeBuilder := by kernel_rfl
  liesBuilder := by kernel_rfl
  t5 := Tryz.underlying5
  a5 := Tryz.isAgg5
  z5 := Tryz.sizeOf5
  v5 := Tryz.zeroValue5
  infoByte := by kernel_rfl
  cellsByte := by kernel_rfl
  sizeByte := by kernel_rfl
  neB5 := by decide }
theorem join_flat : ∀ l : List (List UInt8), Lib.join l [] = l.flatten
  | [] => rfl
  | x :: r => by rw [Lib.join_cons]; simp [Lib.joinTail]
theorem join_c (b off cap : Nat) (l : List ByteArray) (w : World) (hr : SRow w b off l) (hn : l.length ≤ 1000) (hcap : l.length ≤ cap) (hz : (cat l).length ≤ 1000000) :
    Calls Tryz.prog 205 #[.slice (some ⟨b, off, none⟩) l.length cap, .string ⟨#[]⟩] w fun e w' => e = .returned (.string (bs (cat l))) ∧ Gr w w' := by
  have e : Lib.join (l.map (·.data.toList)) (ByteArray.mk #[]).data.toList = cat l := join_flat _
  have h := Any.strings_Join joinLaid joinExtra b off cap l ⟨#[]⟩ w hr.2 hr.1 (by omega) hcap (by rw [e]; omega)
  rw [e] at h
  exact h.mono fun e w' ⟨h1, h2⟩ => ⟨h1, Gr.of h2⟩
end Go.Proofs.YtjplkmmhjfpdaaaGreatDoor

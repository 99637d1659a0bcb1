/- In one text: OctPut, OctPut2, OctRows, Clone, OctSplit, Lies, Join, OctRput. -/
import Derived.Test.YtpmglnghnelenaaGreatP00
import Derived.Test.YtpmglnghnelenaaGreatP01
import Derived.WalkKit
import Derived.ProofKit
import Derived.Below
import Derived.Handy
import Derived.WalkLawsBesides
import Derived.Outline
import Derived.Lib.Hide
import Derived.Lib.BufferWrite
import Derived.Lib.BufferRead
import Derived.Test.YtpmglnghnelenaaGreatRows
import Derived.Shelf.LaysM
import Derived.Shelf.Strconv.Clone
import Derived.RegionTactic
import Derived.BigRegion
import Derived.Shelf.Strings.OnBuilder
/- Contracts of layer octet's functions that make bytes, and of the document's answers to them, each by a walk of its text. -/
namespace Go.Proofs.YtpmglnghnelenaaGreat
open Go.RowKit OctPlain
set_option linter.unusedVariables false
set_option linter.unusedSimpArgs false
set_option maxRecDepth 20000
set_option maxHeartbeats 1000000 in
theorem full_c (n : Int) (hn : I64 n) (w : World) :
    Calls Tryz.prog 121 #[.int .i64 n] w fun e w' => e = .returned (.agg #[Value.int IntKind.u8 (n / 72057594037927936 % 256), Value.int IntKind.u8 (n / 281474976710656 % 256),
              Value.int IntKind.u8 (n / 1099511627776 % 256), Value.int IntKind.u8 (n / 4294967296 % 256),
              Value.int IntKind.u8 (n / 16777216 % 256), Value.int IntKind.u8 (n / 65536 % 256),
              Value.int IntKind.u8 (n / 256 % 256), Value.int IntKind.u8 (n % 256)]) ∧ Gr w w' := by
  go_enter Tryz.func121, Tryz.ntmps121
  go_wp2_with fail
  go_rounds 9
  refine bodyPost_ret (v := .agg #[Value.int IntKind.u8 (n / 72057594037927936 % 256), Value.int IntKind.u8 (n / 281474976710656 % 256),
              Value.int IntKind.u8 (n / 1099511627776 % 256), Value.int IntKind.u8 (n / 4294967296 % 256),
              Value.int IntKind.u8 (n / 16777216 % 256), Value.int IntKind.u8 (n / 65536 % 256),
              Value.int IntKind.u8 (n / 256 % 256), Value.int IntKind.u8 (n % 256)]) (by simp [results, Tryz.results121, go_sem]) rfl ⟨rfl, Gr.of (by go_grown)⟩
set_option maxHeartbeats 1000000 in
theorem sized_c (k : Int) (hk : I64 k) (w : World) :
    Calls Tryz.prog 142 #[.int .i64 k] w fun e w' => e = .returned (.bool (decide (1 ≤ k ∧ k ≤ 8))) ∧ w = w' := by
  by_cases h1 : 1 ≤ k <;> by_cases h2 : k ≤ 8
  all_goals
    go_enter Tryz.func142, Tryz.ntmps142
    go_wp2
    go_ret
    exact ⟨by simp [h1, h2], rfl⟩
theorem ret_b {a b : Bool} (h : a = b) : Ending.returned (.bool a) = .returned (.bool b) := by rw [h]
theorem b_of {a : Bool} {p : Prop} [Decidable p] (h : a = true ↔ p) : a = decide p := by
  cases a <;> simp_all
set_option maxHeartbeats 1000000 in
theorem fits_c (n k : Int) (hn : I64 n) (hk : I64 k) (w : World) :
    Calls Tryz.prog 120 #[.int .i64 n, .int .i64 k] w fun e w' => e = .returned (.bool (fitsB n k)) ∧ w = w' := by
  unfold I64 at hn hk
  by_cases h : 1 ≤ k ∧ k ≤ 8
  · have hd : decide (1 ≤ k ∧ k ≤ 8) = true := by simpa using h
    have hk8 : k = 1 ∨ k = 2 ∨ k = 3 ∨ k = 4 ∨ k = 5 ∨ k = 6 ∨ k = 7 ∨ k = 8 := by omega
    rcases hk8 with rfl | rfl | rfl | rfl | rfl | rfl | rfl | rfl
    all_goals
      go_enter Tryz.func120, Tryz.ntmps120
      go_wp2_with fail
      refine (sized_c _ hk _).mono ?_
      rintro e u ⟨rfl, rfl⟩
      go_wp2
      go_ret
      refine ⟨ret_b (b_of ?_), rfl⟩
      simp
      omega
  · have hd : decide (1 ≤ k ∧ k ≤ 8) = false := by simpa using h
    have hf : fitsB n k = false := by simp [fitsB, h]
    go_enter Tryz.func120, Tryz.ntmps120
    go_wp2_with fail
    refine (sized_c k hk _).mono ?_
    rintro e u ⟨rfl, rfl⟩
    go_wp2
    go_ret
    exact ⟨ret_b hf.symm, rfl⟩
end Go.Proofs.YtpmglnghnelenaaGreat
/- Contracts of Put and PutCoord, and of the document's answers to them. -/
namespace Go.Proofs.YtpmglnghnelenaaGreat
open Go.RowKit OctPlain
set_option linter.unusedVariables false
set_option linter.unusedSimpArgs false
set_option maxRecDepth 20000
theorem conv8 (u : World) (n : Int) (k : Nat) (hn : 0 ≤ n) (hk : 1 ≤ k ∧ k ≤ 8) :
    (convert 82 9 (.slice (some ⟨u.heap.size, 8 - k, none⟩) k k)).run Tryz.prog (u.alloc (.cells #[Value.int IntKind.u8 (n / 72057594037927936 % 256), Value.int IntKind.u8 (n / 281474976710656 % 256),
              Value.int IntKind.u8 (n / 1099511627776 % 256), Value.int IntKind.u8 (n / 4294967296 % 256),
              Value.int IntKind.u8 (n / 16777216 % 256), Value.int IntKind.u8 (n / 65536 % 256),
              Value.int IntKind.u8 (n / 256 % 256), Value.int IntKind.u8 (n % 256)] 159)) = .ok (.string (bs (beL k n.toNat))) (u.alloc (.cells #[Value.int IntKind.u8 (n / 72057594037927936 % 256), Value.int IntKind.u8 (n / 281474976710656 % 256),
              Value.int IntKind.u8 (n / 1099511627776 % 256), Value.int IntKind.u8 (n / 4294967296 % 256),
              Value.int IntKind.u8 (n / 16777216 % 256), Value.int IntKind.u8 (n / 65536 % 256),
              Value.int IntKind.u8 (n / 256 % 256), Value.int IntKind.u8 (n % 256)] 159)) := by
  obtain ⟨m, rfl⟩ : ∃ m : Nat, n = m := ⟨n.toNat, by omega⟩
  refine conv_list _ _ _ _ (beL_length k m) ?_
  intro j x hx
  have hj : j < k := by
    have := (List.getElem?_eq_some_iff.1 hx).1
    rw [beL_length] at this; exact this
  have ea : Addr.add ⟨u.heap.size, 8 - k, none⟩ j = ⟨u.heap.size, 8 - k + j, none⟩ := by simp [Addr.add]
  rw [ea, World.cell?_alloc_mark]
  have hk8 : k = 1 ∨ k = 2 ∨ k = 3 ∨ k = 4 ∨ k = 5 ∨ k = 6 ∨ k = 7 ∨ k = 8 := by omega
  rcases hk8 with rfl | rfl | rfl | rfl | rfl | rfl | rfl | rfl
  all_goals
    have hj8 : j = 0 ∨ j = 1 ∨ j = 2 ∨ j = 3 ∨ j = 4 ∨ j = 5 ∨ j = 6 ∨ j = 7 := by omega
    rcases hj8 with rfl | rfl | rfl | rfl | rfl | rfl | rfl | rfl <;> first | (exfalso; omega) | (simp [beL] at hx; subst hx; simp; done) | (simp [beL] at hx; subst hx; simp; omega)

def b1 (b : UInt8) : ByteArray := bs [b]
theorem conv1 (u : World) (x : Int) (h0 : 0 ≤ x) (h1 : x < 256) :
    (convert 82 9 (.slice (some ⟨u.heap.size, 0, none⟩) 1 1)).run Tryz.prog (u.alloc (.cells #[Value.int IntKind.u8 x] 5)) = .ok (.string (bs [UInt8.ofNat x.toNat])) (u.alloc (.cells #[Value.int IntKind.u8 x] 5)) := by
  refine conv_list _ _ _ _ rfl ?_
  intro j y hy
  obtain rfl : j = 0 := by
    have := (List.getElem?_eq_some_iff.1 hy).1
    simpa using this
  simp at hy
  subst hy
  show World.cell? _ ⟨u.heap.size, 0 + 0, none⟩ = _
  rw [World.cell?_alloc_mark]
  simp
  omega

set_option maxHeartbeats 1000000 in
theorem put_c (n k : Int) (hn : I64 n) (hk : I64 k) (w : World) :
    Calls Tryz.prog 106 #[.int .i64 n, .int .i64 k] w fun e w' => e = .returned (.tuple #[.string (putS n k), .bool (fitsB n k)]) ∧ Gr w w' := by
  cases hf : fitsB n k
  · have hp := put_no hf
    go_enter Tryz.func106, Tryz.ntmps106
    go_wp2_with fail
    refine (fits_c n k hn hk _).mono ?_
    rintro e u ⟨rfl, rfl⟩
    go_wp2
    go_ret2
    exact ⟨ret_sb hp.symm rfl, Gr.refl _⟩
  · have hf' := hf
    simp only [fitsB, decide_eq_true_eq] at hf'
    obtain ⟨hk8, hn0, _⟩ := hf'
    have hp : putS n k = bs (beL k.toNat n.toNat) := by simp [putS, hf]
    have hm : k = 1 ∨ k = 2 ∨ k = 3 ∨ k = 4 ∨ k = 5 ∨ k = 6 ∨ k = 7 ∨ k = 8 := by omega
    rcases hm with rfl | rfl | rfl | rfl | rfl | rfl | rfl | rfl
    case' inl => have hc := fun u => conv8 u n 1 hn0 (by omega)
    case' inr.inl => have hc := fun u => conv8 u n 2 hn0 (by omega)
    case' inr.inr.inl => have hc := fun u => conv8 u n 3 hn0 (by omega)
    case' inr.inr.inr.inl => have hc := fun u => conv8 u n 4 hn0 (by omega)
    case' inr.inr.inr.inr.inl => have hc := fun u => conv8 u n 5 hn0 (by omega)
    case' inr.inr.inr.inr.inr.inl => have hc := fun u => conv8 u n 6 hn0 (by omega)
    case' inr.inr.inr.inr.inr.inr.inl => have hc := fun u => conv8 u n 7 hn0 (by omega)
    case' inr.inr.inr.inr.inr.inr.inr => have hc := fun u => conv8 u n 8 hn0 (by omega)
    all_goals
      go_enter Tryz.func106, Tryz.ntmps106
      go_wp2_with fail
      refine (fits_c n _ hn hk _).mono ?_
      rintro e u ⟨rfl, rfl⟩
      go_wp2_with fail
      refine (full_c n hn _).mono ?_
      rintro e u ⟨rfl, g⟩
      go_wp2
      go_ret2
      exact ⟨ret_sb hp.symm rfl, g.trans (Gr.of (by go_grown))⟩
end Go.Proofs.YtpmglnghnelenaaGreat
/- Plain facts on rows of numbers' bytes; facts of memory for them. -/
namespace Go.Proofs.YtpmglnghnelenaaGreat
open Go.RowKit OctPlain
set_option linter.unusedVariables false
set_option linter.unusedSimpArgs false
set_option maxRecDepth 20000

namespace OctPlain
def rowB (l : List Int) (k : Int) : Bool := l.all (fun n => fitsB n k)
def rowL (l : List Int) (k : Int) : List UInt8 := l.flatMap (fun n => beL k.toNat n.toNat)
def rowS (l : List Int) (k : Int) : ByteArray := if rowB l k = true then bs (rowL l k) else bs []
theorem rowB_snoc (l : List Int) (z k : Int) : rowB (l ++ [z]) k = (rowB l k && fitsB z k) := by simp [rowB]
theorem rowL_snoc (l : List Int) (z k : Int) : rowL (l ++ [z]) k = rowL l k ++ beL k.toNat z.toNat := by simp [rowL]
theorem rowL_length (l : List Int) (k : Int) : (rowL l k).length = l.length * k.toNat := by
  induction l with
  | nil => simp [rowL]
  | cons a l ih =>
    have e : rowL (a :: l) k = beL k.toNat a.toNat ++ rowL l k := rfl
    rw [e, List.length_append, beL_length, ih, List.length_cons, Nat.add_mul, Nat.one_mul, Nat.add_comm]
theorem getD_at (l : List Int) (j : Nat) (hj : j < l.length) : l.getD j 0 = l[j] := by simp [hj]
theorem rowB_no {l : List Int} {j : Nat} {z k : Int} (hj : j < l.length) (hz : l.getD j 0 = z) (h : fitsB z k = false) : rowB l k = false := by
  unfold rowB
  rw [List.all_eq_false]
  refine ⟨z, ?_, by simp [h]⟩
  rw [← hz, getD_at l j hj]
  exact List.getElem_mem hj
theorem take_snoc (l : List Int) (j : Nat) (z : Int) (hj : j < l.length) (hz : l.getD j 0 = z) : l.take (j + 1) = l.take j ++ [z] := by
  rw [List.take_succ_eq_append_getElem hj, ← hz, getD_at l j hj]
theorem rowS_no {l : List Int} {k : Int} (h : rowB l k = false) : rowS l k = ⟨#[]⟩ := by simp [rowS, h, bs]
theorem rowS_yes {l : List Int} {k : Int} (h : rowB l k = true) : rowS l k = bs (rowL l k) := by simp [rowS, h]
end OctPlain

theorem Gr.grown {a b : World} (h : Gr a b) : a.grownBy b none := ⟨h.os, h.tape, h.output, h.size, fun k hk _ => h.block k hk⟩

theorem conv_own {w : World} {B : Nat} {v : Value} {l : List UInt8} (h : w.ownsRow B 5 1 v l.length (Lib.byteCells l)) :
    (convert 82 9 v).run Tryz.prog w = .ok (.string (bs l)) w := by
  obtain ⟨_, ⟨rfl, h0⟩ | ⟨g, cap, cur, rfl, _, _, _, _, _, _⟩⟩ := id h
  · have hl : l = [] := List.eq_nil_of_length_eq_zero h0
    subst hl
    exact Lib.run_convert_nil_bytes w _ _ 5 0 Tryz.underlying82 Tryz.underlying5 Tryz.underlying9
  · have hc := h.cells (g := g) rfl
    refine run_convert_bytes_back (P := Tryz.prog) w 82 9 5 _ cap l Tryz.underlying82 Tryz.underlying5 Tryz.underlying9 (fun j hj => hc j _ ?_)
    simp [Lib.byteCells, List.getElem?_eq_getElem hj]

theorem cells8 (u : World) (n : Int) (k : Nat) (hn : 0 ≤ n) (hk : 1 ≤ k ∧ k ≤ 8) : ∀ j x, (Lib.byteCells (beL k n.toNat))[j]? = some x →
    (u.alloc (.cells #[Value.int IntKind.u8 (n / 72057594037927936 % 256), Value.int IntKind.u8 (n / 281474976710656 % 256),
              Value.int IntKind.u8 (n / 1099511627776 % 256), Value.int IntKind.u8 (n / 4294967296 % 256),
              Value.int IntKind.u8 (n / 16777216 % 256), Value.int IntKind.u8 (n / 65536 % 256),
              Value.int IntKind.u8 (n / 256 % 256), Value.int IntKind.u8 (n % 256)] 159)).cell? (Addr.add ⟨u.heap.size, 8 - k, none⟩ j) = some x := by
  obtain ⟨m, rfl⟩ : ∃ m : Nat, n = m := ⟨n.toNat, by omega⟩
  intro j x hx
  have hj : j < k := by
    have := (List.getElem?_eq_some_iff.1 hx).1
    rw [Lib.byteCells_length, beL_length] at this; exact this
  have ea : Addr.add ⟨u.heap.size, 8 - k, none⟩ j = ⟨u.heap.size, 8 - k + j, none⟩ := by simp [Addr.add]
  rw [ea, World.cell?_alloc_mark]
  have hk8 : k = 1 ∨ k = 2 ∨ k = 3 ∨ k = 4 ∨ k = 5 ∨ k = 6 ∨ k = 7 ∨ k = 8 := by omega
  rcases hk8 with rfl | rfl | rfl | rfl | rfl | rfl | rfl | rfl
  all_goals
    have hj8 : j = 0 ∨ j = 1 ∨ j = 2 ∨ j = 3 ∨ j = 4 ∨ j = 5 ∨ j = 6 ∨ j = 7 := by omega
    rcases hj8 with rfl | rfl | rfl | rfl | rfl | rfl | rfl | rfl <;> first | (exfalso; omega) | (simp [beL, Lib.byteCells] at hx; subst hx; simp; done) | (simp [beL, Lib.byteCells] at hx; subst hx; simp; omega)
end Go.Proofs.YtpmglnghnelenaaGreat
/- strings.Clone gives the same bytes: by the library's contract of internal/stringslite.Clone, laid at this program's numbers. -/
namespace Go.Proofs.YtpmglnghnelenaaGreat
open Go.RowKit
set_option linter.unusedVariables false
def cloneRen : Go.Shelf.Ren := ⟨fun | 316 => 77 | n => n, fun | 9 => 9 | 3 => 3 | 4 => 4 | 37 => 82 | 0 => 0 | 127 => 144 | 5 => 5 | n => n, fun | n => n⟩
theorem cloneLaid : Go.Proofs.LaysM.n316 Tryz.prog cloneRen := {
  mixed := by kernel_rfl
  f316 := Tryz.func77.trans (congrArg some (by kernel_rfl))
  t0 := Tryz.underlying0
  a0 := Tryz.isAgg0
  z0 := Tryz.sizeOf0
  v0 := Tryz.zeroValue0
  t3 := Tryz.underlying3
  a3 := Tryz.isAgg3
  z3 := Tryz.sizeOf3
  v3 := Tryz.zeroValue3
  t4 := Tryz.underlying4
  a4 := Tryz.isAgg4
  z4 := Tryz.sizeOf4
  v4 := Tryz.zeroValue4
  t9 := Tryz.underlying9
  a9 := Tryz.isAgg9
  z9 := Tryz.sizeOf9
  v9 := Tryz.zeroValue9
  t37 := Tryz.underlying82
  a37 := Tryz.isAgg82
  z37 := Tryz.sizeOf82
  v37 := Tryz.zeroValue82
  t127 := Tryz.underlying144
  a127 := Tryz.isAgg144
  z127 := Tryz.sizeOf144
  v127 := Tryz.zeroValue144
  t5 := Tryz.underlying5
  a5 := Tryz.isAgg5
  z5 := Tryz.sizeOf5
  v5 := Tryz.zeroValue5
  i0 := by kernel_rfl
  i3 := by kernel_rfl
  i4 := by kernel_rfl
  i5 := by kernel_rfl
  i9 := by kernel_rfl
  i37 := by kernel_rfl
  i127 := by kernel_rfl }
theorem clone_c (s : ByteArray) (w : World) (hs : s.size ≤ 1000) :
    Calls Tryz.prog 52 #[.string s] w fun e w' => e = .returned (.string s) ∧ Gr w w' := by
  go_enter Tryz.func52, Tryz.ntmps52
  go_wp2_with fail
  refine (Any.stringslite_Clone cloneLaid s w (by omega)).mono ?_
  rintro e u ⟨rfl, g⟩
  go_wp2
  go_ret
  exact ⟨rfl, Gr.of g⟩
end Go.Proofs.YtpmglnghnelenaaGreat
/- Contracts of Split, of the document's answer to it, and of the statement's comparison of two lists. -/
namespace Go.Proofs.YtpmglnghnelenaaGreat
open Go.RowKit OctPlain
set_option linter.unusedVariables false
set_option linter.unusedSimpArgs false
set_option maxRecDepth 20000

namespace OctPlain
/-- The first j pieces. -/
def pieces (s : ByteArray) (k : Nat) : Nat → List ByteArray
  | 0 => []
  | j + 1 => pieces s k j ++ [s.extract (j * k) (j * k + k)]
theorem pieces_length (s : ByteArray) (k : Nat) : ∀ j, (pieces s k j).length = j
  | 0 => rfl
  | j + 1 => by rw [pieces, List.length_append, pieces_length s k j]; rfl
def splB (s : ByteArray) (k : Int) : Bool := decide (1 ≤ k ∧ (s.size : Int) % k = 0)
def splL (s : ByteArray) (k : Int) : List ByteArray := if splB s k = true then pieces s k.toNat (s.size / k.toNat) else []
theorem splL_no {s : ByteArray} {k : Int} (h : splB s k = false) : splL s k = [] := by simp [splL, h]
theorem splL_yes {s : ByteArray} {k : Int} (h : splB s k = true) : splL s k = pieces s k.toNat (s.size / k.toNat) := by simp [splL, h]
end OctPlain
theorem info9 : (Tryz.prog.info? 9).map (fun i => (i.zero, i.size, i.bytes)) = some (some (.string ⟨#[]⟩), 1, 16) := by kernel_rfl

theorem ret_vb {a b : Value} {p q : Bool} (h : a = b) (k : p = q) : Ending.returned (.tuple #[a, .bool p]) = .returned (.tuple #[b, .bool q]) := by rw [h, k]

set_option maxHeartbeats 1000000 in
theorem split_no (s : ByteArray) (k : Int) (hk : I64 k) (w : World) (hs : s.size ≤ 1000) (h : splB s k = false) :
    Calls Tryz.prog 153 #[.string s, .int .i64 k] w fun e w' => e = .returned (.tuple #[.slice none 0 0, .bool (splB s k)]) ∧ w = w' := by
  by_cases k1 : k < 1
  · go_enter Tryz.func153, Tryz.ntmps153
    go_wp2_with fail
    go_ret2
    first | exact ⟨rfl, rfl⟩ | exact ⟨ret_vb rfl h.symm, rfl⟩
  · have hm : ¬ (s.size : Int) % k = 0 := by
      intro hh
      have : splB s k = true := by unfold splB; rw [decide_eq_true_iff]; exact ⟨by omega, hh⟩
      rw [h] at this; cases this
    have hm2 : ((s.size : Int) % k == 0) = false := by simpa using hm
    have hm3 : ((s.size : Int) % k != 0) = true := by simpa using hm
    have hk0 : ¬ k = 0 := by omega
    go_enter Tryz.func153, Tryz.ntmps153
    go_wp2_with fail
    go_ret2
    first | exact ⟨rfl, rfl⟩ | exact ⟨ret_vb rfl h.symm, rfl⟩

theorem slice_mid (s : ByteArray) (a m : Nat) (h : a + m ≤ s.size) (w : World) :
    (Instr.slice 9 (.string s) (some (.int .i64 (a : Int))) (some (.int .i64 ((a : Int) + (m : Int)))) none).run Tryz.prog w = .ok (.string (s.extract a (a + m))) w := by
  have h1 := run_slice_string (P := Tryz.prog) w 9 s .i64 .i64 (a : Int) ((a : Int) + (m : Int)) Tryz.underlying9 (by omega) (by omega) (by omega)
  have e : ((a : Int) + (m : Int)).toNat = a + m := by omega
  rw [e, Int.toNat_natCast] at h1
  exact h1
def SplAt (s : ByteArray) (m q : Nat) (w : World) (v i : Value) (wr : World) : Prop :=
  ∃ j a : Nat, j ≤ q ∧ a = j * m ∧ i = .int .i64 a ∧ wr.ownsRow w.heap.size 9 1 v j (strs (pieces s m j)) ∧ Below w.heap.size w wr

set_option maxRecDepth 20000 in
set_option maxHeartbeats 2000000 in
theorem split_yes (s : ByteArray) (m : Nat) (hk : I64 m) (w : World) (hs : s.size ≤ 1000) (h : splB s m = true) :
    Calls Tryz.prog 153 #[.string s, .int .i64 m] w fun e w' => ∃ v, e = .returned (.tuple #[v, .bool true]) ∧ w'.ownsRow w.heap.size 9 1 v (splL s m).length (strs (splL s m)) ∧ Gr w w' := by
  have hL := splL_yes h
  unfold splB at h
  rw [decide_eq_true_iff] at h
  obtain ⟨hm1, hmod⟩ := h
  unfold I64 at hk
  rw [Int.toNat_natCast] at hL
  have hmod' : s.size % m = 0 := by omega
  have hq : s.size = s.size / m * m := by
    have := Nat.div_add_mod s.size m
    rw [hmod', Nat.add_zero, Nat.mul_comm] at this; exact this.symm
  generalize hqq : s.size / m = q at hq hL
  rw [hL, pieces_length]
  have hb2 : ((s.size : Int) % (m : Int) == 0) = true := by simpa using hmod
  have hb3 : ((s.size : Int) % (m : Int) != 0) = false := by simpa using hmod
  have hq' := Lib.hid hq
  clear hL hqq hq hmod hmod'
  obtain ⟨i0, hi, hz0, hz1, hz2⟩ := info_parts info9
  go_enter Tryz.func153, Tryz.ntmps153
  go_wp2_with fail
  refine (clone_c s _ hs).mono ?_
  rintro e w1 ⟨rfl, g⟩
  go_wp2_with fail
  go_loopw [7, 8] (fun v i wr => SplAt s m q w v i wr) (fun _ i _ => s.size - (intOf i).toNat)
  case atStart => exact ⟨0, 0, Nat.zero_le _, by omega, rfl, World.ownsRow_nil _ _ _ _, g⟩
  case round =>
    obtain ⟨j, a, hj, ha, rfl, hown, hbel⟩ := hrel
    have hsz := hbel.size
    by_cases hlt : j < q
    · have hroom : a + m ≤ s.size := by
        rw [hq'.out, ha]
        have := Nat.mul_le_mul_right m (show j + 1 ≤ q by omega)
        rw [Nat.add_mul, Nat.one_mul] at this; exact this
      have hjq : j ≤ 1000 := by
        have h1 := Nat.mul_le_mul_left j (show 1 ≤ m by omega)
        omega
      have hnext : pieces s m (j + 1) = pieces s m j ++ [s.extract a (a + m)] := by rw [pieces, ha]
      have hfin : ∀ (v' : Value) (wx : World), wx.ownsRow w.heap.size 9 1 v' (j + 1) (strs (pieces s m j) ++ [.string (s.extract a (a + m))]) → Below w.heap.size w wx → SplAt s m q w v' (.int .i64 ((a : Int) + (m : Int))) wx := by
        intro v' wx h1 h2
        refine ⟨j + 1, a + m, by omega, by rw [Nat.add_mul, Nat.one_mul, ha], rfl, ?_, h2⟩
        rw [hnext]
        unfold strs at h1 ⊢
        rw [List.map_append]; exact h1
      have hh := Lib.hid hfin
      have hsl := slice_mid s a m hroom
      clear hfin hnext ha
      go_wp2_with (first
        | (at_builtin; refine wpList_append_own _ rfl _ _ 26 rfl w.heap.size 9 i0 (.string ⟨#[]⟩) 1 16 Tryz.underlying26 hi hz0 hz1 hz2 rfl (by decide) _ _ _ rfl (hown.alloc _) ⟨wr.heap.size, 0, none⟩ 1 1 [.string (s.extract a (a + m))] rfl ?c0 ?c1 ?c2 ?c3 ?c4 ?c5 ?_)
        | go_in)
      case c0 => rfl
      case c1 =>
        intro jj u hj
        match jj, hj with
        | 0, hj => simp at hj; subst hj; simp [Addr.add]
      case c2 => intro u hu; simp at hu; subst hu; rfl
      case c3 => unfold maxLen; omega
      case c4 => omega
      case c5 => simp only [World.size_alloc]; omega
      · intro v' w2 hown' hgrow _
        have hb2 : Below w.heap.size w w2 := (hbel.alloc hsz _).grown hgrow (by simp only [World.size_alloc]; omega) (fun q hq => (hown.lt q hq).1)
        clear hown hgrow
        have hown3 := Lib.hid hown'
        clear hown'
        go_wp2
        refine ⟨hh.out _ _ hown3.out hb2, ?_⟩
        simp [intOf]; omega
    · obtain rfl : j = q := by omega
      have hae : a = s.size := by rw [ha]; exact hq'.out.symm
      clear ha
      subst hae
      have hown3 := Lib.hid hown
      clear hown
      go_wp2
      go_ret2
      exact ⟨_, rfl, hown3.out, Gr.of hbel⟩

theorem split_c (s : ByteArray) (k : Int) (hk : I64 k) (w : World) (hs : s.size ≤ 1000) :
    Calls Tryz.prog 153 #[.string s, .int .i64 k] w fun e w' => ∃ v, e = .returned (.tuple #[v, .bool (splB s k)]) ∧ w'.ownsRow w.heap.size 9 1 v (splL s k).length (strs (splL s k)) ∧ Gr w w' := by
  cases h : splB s k
  · refine (split_no s k hk w hs h).mono ?_
    rintro e u ⟨rfl, rfl⟩
    rw [splL_no h]
    exact ⟨_, by rw [h], World.ownsRow_nil _ _ _ _, Gr.refl _⟩
  · obtain ⟨m, rfl⟩ : ∃ m : Nat, k = m := by
      have h' := h
      unfold splB at h'; rw [decide_eq_true_iff] at h'
      exact ⟨k.toNat, by omega⟩
    exact split_yes s m hk w hs h
end Go.Proofs.YtpmglnghnelenaaGreat
/- A slice that holds these strings, whoever made it; the document's comparison of two such. -/
namespace Go.Proofs.YtpmglnghnelenaaGreat
open Go.RowKit OctPlain FramePlain
set_option linter.unusedVariables false
set_option linter.unusedSimpArgs false
set_option maxRecDepth 20000
def Same4At (n : Nat) (w : World) (i : Value) (wr : World) : Prop := ∃ j : Nat, j ≤ n ∧ i = .int .i64 j ∧ Below w.heap.size w wr
end Go.Proofs.YtpmglnghnelenaaGreat
/- strings.Join with nothing between: by the library's contract, laid at this program's numbers. -/
namespace Go.Proofs.YtpmglnghnelenaaGreat
open Go.RowKit FramePlain
set_option linter.unusedVariables false
def joinRen : Go.Shelf.Ren := ⟨fun | 156 => 134 | 165 => 149 | 166 => 150 | 169 => 151 | 240 => 157 | 241 => 158 | 276 => 160 | 277 => 161 | n => n, fun | 31 => 26 | 9 => 9 | 3 => 3 | 4 => 4 | 0 => 0 | 20 => 20 | 72 => 190 | 76 => 193 | 70 => 188 | 37 => 82 | 75 => 192 | 127 => 144 | 164 => 199 | 5 => 5 | 80 => 109 | n => n, fun | n => n⟩
theorem joinLaid : Go.Proofs.Lays.n156 Tryz.prog joinRen := {
  mixed := by kernel_rfl
  f156 := Tryz.func134.trans (congrArg some (by kernel_rfl))
  f165 := Tryz.func149.trans (congrArg some (by kernel_rfl))
  f166 := Tryz.func150.trans (congrArg some (by kernel_rfl))
  f169 := Tryz.func151.trans (congrArg some (by kernel_rfl))
  f240 := Tryz.func157.trans (congrArg some (by kernel_rfl))
  f241 := Tryz.func158.trans (congrArg some (by kernel_rfl))
  f276 := Tryz.func160.trans (congrArg some (by kernel_rfl))
  f277 := Tryz.func161.trans (congrArg some (by kernel_rfl))
  t0 := Tryz.underlying0
  a0 := Tryz.isAgg0
  z0 := Tryz.sizeOf0
  v0 := Tryz.zeroValue0
  t3 := Tryz.underlying3
  a3 := Tryz.isAgg3
  z3 := Tryz.sizeOf3
  v3 := Tryz.zeroValue3
  t4 := Tryz.underlying4
  a4 := Tryz.isAgg4
  z4 := Tryz.sizeOf4
  v4 := Tryz.zeroValue4
  t9 := Tryz.underlying9
  a9 := Tryz.isAgg9
  z9 := Tryz.sizeOf9
  v9 := Tryz.zeroValue9
  t20 := Tryz.underlying20
  a20 := Tryz.isAgg20
  z20 := Tryz.sizeOf20
  v20 := Tryz.zeroValue20
  t31 := Tryz.underlying26
  a31 := Tryz.isAgg26
  z31 := Tryz.sizeOf26
  v31 := Tryz.zeroValue26
  t37 := Tryz.underlying82
  a37 := Tryz.isAgg82
  z37 := Tryz.sizeOf82
  v37 := Tryz.zeroValue82
  t70 := Tryz.underlying188
  a70 := Tryz.isAgg188
  z70 := Tryz.sizeOf188
  v70 := Tryz.zeroValue188
  t72 := Tryz.underlying190
  a72 := Tryz.isAgg190
  z72 := Tryz.sizeOf190
  v72 := Tryz.zeroValue190
  t75 := Tryz.underlying192
  a75 := Tryz.isAgg192
  z75 := Tryz.sizeOf192
  v75 := Tryz.zeroValue192
  t76 := Tryz.underlying193
  a76 := Tryz.isAgg193
  z76 := Tryz.sizeOf193
  v76 := Tryz.zeroValue193
  t127 := Tryz.underlying144
  a127 := Tryz.isAgg144
  z127 := Tryz.sizeOf144
  v127 := Tryz.zeroValue144
  t164 := Tryz.underlying199
  a164 := Tryz.isAgg199
  z164 := Tryz.sizeOf199
  v164 := Tryz.zeroValue199 }
theorem joinExtra : Builder.Extra Tryz.prog joinRen := {
  sizeBuilder := by kernel_rfl
  liesBuilder := by kernel_rfl
  t5 := Tryz.underlying5
  a5 := Tryz.isAgg5
  z5 := Tryz.sizeOf5
  v5 := Tryz.zeroValue5
  infoByte := by kernel_rfl
  cellsByte := by kernel_rfl
  sizeByte := by kernel_rfl
  neB5 := by decide }

theorem join_flat : ∀ l : List (List UInt8), Lib.join l [] = l.flatten
  | [] => rfl
  | x :: r => by rw [Lib.join_cons]; simp [Lib.joinTail]
theorem join_c (b off cap : Nat) (l : List ByteArray) (w : World) (hr : SRow w b off l) (hn : l.length ≤ 1000) (hcap : l.length ≤ cap) (hz : (cat l).length ≤ 1000000) :
    Calls Tryz.prog 134 #[.slice (some ⟨b, off, none⟩) l.length cap, .string ⟨#[]⟩] w fun e w' => e = .returned (.string (bs (cat l))) ∧ Gr w w' := by
  have e : Lib.join (l.map (·.data.toList)) (ByteArray.mk #[]).data.toList = cat l := join_flat _
  have h := Any.strings_Join joinLaid joinExtra b off cap l ⟨#[]⟩ w hr.2 hr.1 (by omega) hcap (by rw [e]; omega)
  rw [e] at h
  exact h.mono fun e w' ⟨h1, h2⟩ => ⟨h1, Gr.of h2⟩
end Go.Proofs.YtpmglnghnelenaaGreat
/- Contracts of the document's Put, and of PutCoord on both sides. -/
namespace Go.Proofs.YtpmglnghnelenaaGreat
open Go.RowKit OctPlain
set_option linter.unusedVariables false
set_option linter.unusedSimpArgs false
set_option maxRecDepth 20000

def PutAt (n k : Int) (B : Nat) (w : World) (v s i : Value) (wr : World) : Prop :=
  ∃ j : Nat, (j : Int) ≤ k ∧ i = .int .i64 j ∧ v = .int .i64 (n / 256 ^ j) ∧ s = .string (bs (beL j n.toNat)) ∧ Below B w wr

set_option maxHeartbeats 1000000 in
theorem rput_c (n k : Int) (hn : I64 n) (hk : I64 k) (w : World) :
    Calls Tryz.prog 97 #[.int .i64 n, .int .i64 k] w fun e w' => e = .returned (.tuple #[.string (putS n k), .bool (fitsB n k)]) ∧ Gr w w' := by
  unfold I64 at hn hk
  by_cases h : (1 ≤ k ∧ k ≤ 8) ∧ 0 ≤ n
  · obtain ⟨hk8, hn0⟩ := h
    go_enter Tryz.func97, Tryz.ntmps97
    go_wp2_with fail
    go_loopw [0, 6, 7] (fun v s i wr => PutAt n k w.heap.size w v s i wr) (fun _ _ i _ => (k - intOf i).toNat)
    case atStart => exact ⟨0, by omega, by simp, by simp, by simp [beL, bs], Below.refl _ _⟩
    case round =>
      obtain ⟨j, hj, rfl, rfl, rfl, hb⟩ := hrel
      have hm0 : 0 ≤ n / 256 ^ j := Int.ediv_nonneg hn0 (Int.pow_nonneg (by omega))
      have hm1 : n / 256 ^ j ≤ n := Int.ediv_le_self _ hn0
      have hstep : n / 256 ^ (j + 1) = n / 256 ^ j / 256 := by rw [Int.pow_succ, Int.ediv_ediv_of_nonneg (Int.pow_nonneg (by omega))]
      by_cases hlt : (j : Int) < k
      · obtain ⟨m, hm⟩ : ∃ m, m = n / 256 ^ j := ⟨_, rfl⟩
        rw [← hm] at hm0 hm1 hstep ⊢
        have hc := fun u => conv1 u (m % 256) (by omega) (by omega)
        have s1 : (bs [UInt8.ofNat (m % 256).toNat]).size = 1 := bs_size _
        have s2 : (bs (beL j n.toNat)).size = j := by rw [bs_size, beL_length]
        have hnew : bs [UInt8.ofNat (m % 256).toNat] ++ bs (beL j n.toNat) = bs (beL (j + 1) n.toNat) := by
          rw [bs_app, beL_top, hm]
          rw [dig_cast n hn0]
          rfl
        have hnew' := Lib.hid hnew
        clear hm hnew
        go_wp2
        refine ⟨⟨j + 1, by omega, rfl, by rw [hstep], by rw [hnew'.out], Below.alloc hb hb.size _⟩, ?_⟩
        simp [intOf]; omega
      · obtain rfl : k = j := by omega
        have hfit : fitsB n j = decide (n / 256 ^ j = 0) := fits_at hk8 hn0
        by_cases hz : 0 < n / 256 ^ j
        · have hf : fitsB n j = false := by rw [hfit]; simp; omega
          have hp := put_no hf
          clear hfit
          go_wp2
          go_ret2
          first | exact ⟨rfl, Gr.of hb⟩ | exact ⟨ret_sb hp.symm hf.symm, Gr.of hb⟩
        · have hf : fitsB n j = true := by rw [hfit]; simp; omega
          have hp : putS n j = bs (beL j n.toNat) := by simp [putS, hf]
          clear hfit
          go_wp2
          go_ret2
          first | exact ⟨rfl, Gr.of hb⟩ | exact ⟨ret_sb hp.symm hf.symm, Gr.of hb⟩
  · have hf : fitsB n k = false := by
      simp only [fitsB, decide_eq_false_iff_not]
      intro hh; exact h ⟨hh.1, hh.2.1⟩
    have hp := put_no hf
    by_cases k1 : k < 1
    · go_enter Tryz.func97, Tryz.ntmps97
      go_wp2
      go_ret2
      first | exact ⟨rfl, Gr.refl _⟩ | exact ⟨ret_sb hp.symm hf.symm, Gr.refl _⟩
    · by_cases k2 : 8 < k
      · go_enter Tryz.func97, Tryz.ntmps97
        go_wp2
        go_ret2
        first | exact ⟨rfl, Gr.refl _⟩ | exact ⟨ret_sb hp.symm hf.symm, Gr.refl _⟩
      · have k3 : n < 0 := by omega
        go_enter Tryz.func97, Tryz.ntmps97
        go_wp2
        go_ret2
        first | exact ⟨rfl, Gr.refl _⟩ | exact ⟨ret_sb hp.symm hf.symm, Gr.refl _⟩
theorem tup_sb {a b : ByteArray} {p q : Bool} (h : a = b) (k : p = q) : (Value.tuple #[.string a, .bool p]) = .tuple #[.string b, .bool q] := by rw [h, k]

def coordS (x : Int) : ByteArray := putS (wrap64 (x + 2147483648)) 4
def coordB (x : Int) : Bool := fitsB (wrap64 (x + 2147483648)) 4
theorem coordB_no {x : Int} (hx : I64 x) (h : x < -2147483648 ∨ 2147483648 ≤ x) : coordB x = false := by
  unfold I64 at hx
  unfold coordB fitsB wrap64
  simp only [decide_eq_false_iff_not]
  have e : (256 : Int) ^ (4 : Int).toNat = 4294967296 := rfl
  rw [e]
  omega
theorem coordS_no {x : Int} (hx : I64 x) (h : x < -2147483648 ∨ 2147483648 ≤ x) : coordS x = ⟨#[]⟩ := put_no (coordB_no hx h)
theorem coordB_yes {x : Int} (h1 : -2147483648 ≤ x) (h2 : x < 2147483648) : coordB x = fitsB (x + 2147483648) 4 := by
  unfold coordB
  have : wrap64 (x + 2147483648) = x + 2147483648 := by unfold wrap64; omega
  rw [this]
theorem coordS_yes {x : Int} (h1 : -2147483648 ≤ x) (h2 : x < 2147483648) : coordS x = putS (x + 2147483648) 4 := by
  unfold coordS
  have : wrap64 (x + 2147483648) = x + 2147483648 := by unfold wrap64; omega
  rw [this]
end Go.Proofs.YtpmglnghnelenaaGreat

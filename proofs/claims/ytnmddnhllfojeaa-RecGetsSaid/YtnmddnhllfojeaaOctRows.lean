/- Plain facts on rows of numbers' bytes; facts of memory for them. -/
import Derived.Test.YtnmddnhllfojeaaOctPut2
import Derived.Lib.Hide
import Derived.Lib.BufferWrite
import Derived.Lib.BufferRead
namespace Go.Proofs.Ytnmddnhllfojeaa
open Go.RowKit OctPlain
set_option linter.unusedVariables false
set_option linter.unusedSimpArgs false
set_option maxRecDepth 20000

namespace OctPlain
def rowB (l : List Int) (k : Int) : Bool := l.all (fun n => fitsB n k)
def rowL (l : List Int) (k : Int) : List UInt8 := l.flatMap (fun n => beL k.toNat n.toNat)
def rowS (l : List Int) (k : Int) : ByteArray := if rowB l k = true then bs (rowL l k) else bs []
theorem rowB_snoc (l : List Int) (z k : Int) : rowB (l ++ [z]) k = (rowB l k && fitsB z k) := by simp [rowB]
theorem rowL_snoc (l : List Int) (z k : Int) : rowL (l ++ [z]) k = rowL l k ++ beL k.toNat z.toNat := by simp [rowL]
theorem rowL_length (l : List Int) (k : Int) : (rowL l k).length = l.length * k.toNat := by
  induction l with
  | nil => simp [rowL]
  | cons a l ih =>
    have e : rowL (a :: l) k = beL k.toNat a.toNat ++ rowL l k := rfl
    rw [e, List.length_append, beL_length, ih, List.length_cons, Nat.add_mul, Nat.one_mul, Nat.add_comm]
theorem getD_at (l : List Int) (j : Nat) (hj : j < l.length) : l.getD j 0 = l[j] := by simp [hj]
theorem rowB_no {l : List Int} {j : Nat} {z k : Int} (hj : j < l.length) (hz : l.getD j 0 = z) (h : fitsB z k = false) : rowB l k = false := by
  unfold rowB
  rw [List.all_eq_false]
  refine ⟨z, ?_, by simp [h]⟩
  rw [← hz, getD_at l j hj]
  exact List.getElem_mem hj
theorem take_snoc (l : List Int) (j : Nat) (z : Int) (hj : j < l.length) (hz : l.getD j 0 = z) : l.take (j + 1) = l.take j ++ [z] := by
  rw [List.take_succ_eq_append_getElem hj, ← hz, getD_at l j hj]
theorem rowS_no {l : List Int} {k : Int} (h : rowB l k = false) : rowS l k = ⟨#[]⟩ := by simp [rowS, h, bs]
theorem rowS_yes {l : List Int} {k : Int} (h : rowB l k = true) : rowS l k = bs (rowL l k) := by simp [rowS, h]
end OctPlain

theorem Gr.grown {a b : World} (h : Gr a b) : a.grownBy b none := ⟨h.os, h.tape, h.output, h.size, fun k hk _ => h.block k hk⟩

theorem conv_own {w : World} {B : Nat} {v : Value} {l : List UInt8} (h : w.ownsRow B 5 1 v l.length (Lib.byteCells l)) :
    (convert 76 9 v).run Try.prog w = .ok (.string (bs l)) w := by
  obtain ⟨_, ⟨rfl, h0⟩ | ⟨g, cap, cur, rfl, _, _, _, _, _, _⟩⟩ := id h
  · have hl : l = [] := List.eq_nil_of_length_eq_zero h0
    subst hl
    exact Lib.run_convert_nil_bytes w _ _ 5 0 Try.underlying76 Try.underlying5 Try.underlying9
  · have hc := h.cells (g := g) rfl
    refine run_convert_bytes_back (P := Try.prog) w 76 9 5 _ cap l Try.underlying76 Try.underlying5 Try.underlying9 (fun j hj => hc j _ ?_)
    simp [Lib.byteCells, List.getElem?_eq_getElem hj]

theorem cells8 (u : World) (n : Int) (k : Nat) (hn : 0 ≤ n) (hk : 1 ≤ k ∧ k ≤ 8) : ∀ j x, (Lib.byteCells (beL k n.toNat))[j]? = some x →
    (u.alloc (.cells #[Value.int IntKind.u8 (n / 72057594037927936 % 256), Value.int IntKind.u8 (n / 281474976710656 % 256),
              Value.int IntKind.u8 (n / 1099511627776 % 256), Value.int IntKind.u8 (n / 4294967296 % 256),
              Value.int IntKind.u8 (n / 16777216 % 256), Value.int IntKind.u8 (n / 65536 % 256),
              Value.int IntKind.u8 (n / 256 % 256), Value.int IntKind.u8 (n % 256)] 79)).cell? (Addr.add ⟨u.heap.size, 8 - k, none⟩ j) = some x := by
  obtain ⟨m, rfl⟩ : ∃ m : Nat, n = m := ⟨n.toNat, by omega⟩
  intro j x hx
  have hj : j < k := by
    have := (List.getElem?_eq_some_iff.1 hx).1
    rw [Lib.byteCells_length, beL_length] at this; exact this
  have ea : Addr.add ⟨u.heap.size, 8 - k, none⟩ j = ⟨u.heap.size, 8 - k + j, none⟩ := by simp [Addr.add]
  rw [ea, World.cell?_alloc_mark]
  have hk8 : k = 1 ∨ k = 2 ∨ k = 3 ∨ k = 4 ∨ k = 5 ∨ k = 6 ∨ k = 7 ∨ k = 8 := by omega
  rcases hk8 with rfl | rfl | rfl | rfl | rfl | rfl | rfl | rfl
  all_goals
    have hj8 : j = 0 ∨ j = 1 ∨ j = 2 ∨ j = 3 ∨ j = 4 ∨ j = 5 ∨ j = 6 ∨ j = 7 := by omega
    rcases hj8 with rfl | rfl | rfl | rfl | rfl | rfl | rfl | rfl <;> first | (exfalso; omega) | (simp [beL, Lib.byteCells] at hx; subst hx; simp; done) | (simp [beL, Lib.byteCells] at hx; subst hx; simp; omega)
end Go.Proofs.Ytnmddnhllfojeaa

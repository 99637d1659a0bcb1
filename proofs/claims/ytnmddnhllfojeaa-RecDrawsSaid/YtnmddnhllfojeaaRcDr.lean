/- Two blocks of four cells that a statement makes in whatever order. -/
import Derived.Test.YtnmddnhllfojeaaRcArgs
import Derived.Deep.RegionHeld3
import Derived.Deep.QuietTactic
import Derived.BigQuiet
import Derived.Test.YtnmddnhllfojeaaRcBack
namespace Go.Proofs.Ytnmddnhllfojeaa
open Go.RowKit
set_option linter.unusedVariables false
set_option linter.unusedSimpArgs false
set_option maxRecDepth 20000
/-- Two slots that lead to two blocks of the call's own. -/
def DrSt (W : World) (T : TypeId) (a b c d a' b' c' d' : Value) (s5 s6 : Value) (wx : World) : Prop :=
  ∃ p q, s5 = .pointer (some ⟨p, 0, none⟩) ∧ s6 = .pointer (some ⟨q, 0, none⟩) ∧ W.heap.size ≤ p ∧ W.heap.size ≤ q ∧ Four14 p T a b c d wx ∧ Four14 q T a' b' c' d' wx ∧ Gr W wx
theorem four_drew {p : Nat} {T : TypeId} {a b c d : Value} {u : World} (h : Four14 p T a b c d u) : Four14 p T a b c d u.drew := h
theorem drSt_one (W : World) (T : TypeId) (a b c d a' b' c' d' : Value) :
    DrSt W T a b c d a' b' c' d' (.pointer (some ⟨W.heap.size, 0, none⟩)) (.pointer (some ⟨W.heap.size + 1, 0, none⟩)) ((W.alloc (.cells #[a, b, c, d] T)).alloc (.cells #[a', b', c', d'] T)).drew := by
  have h2 := Four14.new (W.alloc (.cells #[a, b, c, d] T)) T a' b' c' d'
  rw [World.size_alloc] at h2
  exact ⟨_, _, rfl, rfl, Nat.le_refl _, Nat.le_succ _, four_drew ((Four14.new W T a b c d).gr (gral14 _ _)), four_drew h2, Below.drew ((gral14 _ _).trans (gral14 _ _))⟩
theorem drSt_two (W : World) (T : TypeId) (a b c d a' b' c' d' : Value) :
    DrSt W T a b c d a' b' c' d' (.pointer (some ⟨W.heap.size + 1, 0, none⟩)) (.pointer (some ⟨W.heap.size, 0, none⟩)) ((W.alloc (.cells #[a', b', c', d'] T)).alloc (.cells #[a, b, c, d] T)).drew := by
  have h2 := Four14.new (W.alloc (.cells #[a', b', c', d'] T)) T a b c d
  rw [World.size_alloc] at h2
  exact ⟨_, _, rfl, rfl, Nat.le_succ _, Nat.le_refl _, four_drew h2, four_drew ((Four14.new W T a' b' c' d').gr (gral14 _ _)), Below.drew ((gral14 _ _).trans (gral14 _ _))⟩
def nthD (o k l i : Int) : Nat → Int
  | 0 => o
  | 1 => k
  | 2 => l
  | _ => i
theorem four_nth {p : Nat} {T : TypeId} {o k l i : Int} {u : World} (h : Four14 p T (.int .i64 o) (.int .i64 k) (.int .i64 l) (.int .i64 i) u) {j : Nat} (hj : j < 4) : u.cell? ⟨p, j, none⟩ = some (.int .i64 (nthD o k l i j)) := by
  obtain ⟨⟨h0, h1, h2, h3⟩, -⟩ := h.at
  match j, hj with
  | 0, _ => exact h0
  | 1, _ => exact h1
  | 2, _ => exact h2
  | 3, _ => exact h3
theorem less_at {o k l i o' k' l' i' : Int} {j : Nat} (hj : j < 4) (he : ∀ q, q < j → nthD o k l i q = nthD o' k' l' i' q) (hn : ¬ nthD o k l i j = nthD o' k' l' i' j) : drawLess o k l i o' k' l' i' = decide (nthD o k l i j < nthD o' k' l' i' j) := by
  unfold drawLess
  match j, hj with
  | 0, _ => rw [if_neg (show ¬ o = o' from hn)]; rfl
  | 1, _ => rw [if_pos (show o = o' from he 0 (by omega)), if_neg (show ¬ k = k' from hn)]; rfl
  | 2, _ => rw [if_pos (show o = o' from he 0 (by omega)), if_pos (show k = k' from he 1 (by omega)), if_neg (show ¬ l = l' from hn)]; rfl
  | 3, _ => rw [if_pos (show o = o' from he 0 (by omega)), if_pos (show k = k' from he 1 (by omega)), if_pos (show l = l' from he 2 (by omega))]; rfl
theorem less_end {o k l i o' k' l' i' : Int} (he : ∀ q, q < 4 → nthD o k l i q = nthD o' k' l' i' q) : drawLess o k l i o' k' l' i' = false := by
  unfold drawLess
  rw [if_pos (show o = o' from he 0 (by omega)), if_pos (show k = k' from he 1 (by omega)), if_pos (show l = l' from he 2 (by omega))]
  have : i = i' := he 3 (by omega)
  subst this; simp
/-- Where the law's loop is. -/
def DrAt (V : World) (o k l i o' k' l' i' : Int) (sl si : Value) (wr : World) : Prop :=
  ∃ j : Nat, j ≤ 4 ∧ sl = .bool false ∧ si = .int .i64 j ∧ (∀ q, q < j → nthD o k l i q = nthD o' k' l' i' q) ∧ Gr V wr
end Go.Proofs.Ytnmddnhllfojeaa

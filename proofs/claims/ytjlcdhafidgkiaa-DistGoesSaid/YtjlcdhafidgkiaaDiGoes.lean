/- Two rows of numbers of one's own, each grown in its turn; what DistGoes' loop leaves. -/
import Derived.Test.YtjlcdhafidgkiaaDiAwake
namespace Go.Proofs.Ytjlcdhafidgkiaa
open Go.RowKit DiPlain
set_option linter.unusedVariables false
set_option linter.unusedSimpArgs false
set_option maxRecDepth 20000
structure TwoRows (base : Nat) (w : World) (X Y : Value) (xs ys : List Int) : Prop where
  x : w.ownsRow base 3 1 X xs.length (ints xs)
  y : w.ownsRow base 3 1 Y ys.length (ints ys)
  ap : ∀ k, X.ownBlock = some k → Y.ownBlock ≠ some k
theorem TwoRows.gr {base : Nat} {w w' : World} {X Y : Value} {xs ys : List Int} (h : TwoRows base w X Y xs ys) (g : Gr w w') : TwoRows base w' X Y xs ys := ⟨ownsRow_gr h.x g, ownsRow_gr h.y g, h.ap⟩
theorem TwoRows.swap {base : Nat} {w : World} {X Y : Value} {xs ys : List Int} (h : TwoRows base w X Y xs ys) : TwoRows base w Y X ys xs := ⟨h.y, h.x, fun k h1 h2 => h.ap k h2 h1⟩
theorem twoRows_nil (base : Nat) (w : World) : TwoRows base w (.slice none 0 0) (.slice none 0 0) [] [] := ⟨World.ownsRow_nil _ _ _ _, World.ownsRow_nil _ _ _ _, fun k h => by cases h⟩
theorem TwoRows.app {base : Nat} {w w1 w2 : World} {X X' Y : Value} {xs ys : List Int} {z : Int} (h : TwoRows base w X Y xs ys) (g : Gr w w1) (ho : w2.ownsRow base 3 1 X' (xs.length + 1) (ints xs ++ [.int .i64 z])) (hg : w1.grownBy w2 X.ownBlock) (hat : X'.ownBlock = X.ownBlock ∨ X'.ownBlock = some w1.heap.size) : TwoRows base w2 X' Y (xs ++ [z]) ys := by
  refine ⟨by rw [List.length_append, List.length_singleton, ints_snoc]; exact ho, (ownsRow_gr h.y g).kept hg ?_, fun k h1 h2 => ?_⟩
  · cases hy : Y.ownBlock with
    | none => exact .inl rfl
    | some k => exact .inr fun e => h.ap k e.symm hy
  · rcases hat with h3 | h3
    · rw [h3] at h1; exact h.ap k h1 h2
    · rw [h3] at h1
      have := (h.y.lt k h2).2
      have := g.size
      have := Option.some.inj h1
      omega
def GoAt (a b : List Int) (t : Int) (w : World) (c X Y i : Value) (wr : World) : Prop :=
  ∃ j : Nat, j ≤ a.length ∧ i = .int .i64 (j : Int) ∧ c = .bool (decide (a.take j = b.take j)) ∧ TwoRows w.heap.size wr X Y ((a.take j).map (· + t)) ((b.take j).map (· + t)) ∧ Below w.heap.size w wr
theorem take_eq_snoc {l1 l2 : List Int} {x y : Int} : (l1 ++ [x] = l2 ++ [y]) ↔ (l1 = l2 ∧ x = y) := by
  constructor
  · intro h
    have := List.append_inj' h rfl
    exact ⟨this.1, by simpa using this.2⟩
  · rintro ⟨rfl, rfl⟩; rfl
theorem take_same {a b : List Int} {j : Nat} {x y : Int} (hx : a.take (j + 1) = a.take j ++ [x]) (hy : b.take (j + 1) = b.take j ++ [y]) : decide (a.take (j + 1) = b.take (j + 1)) = (decide (a.take j = b.take j) && decide (x = y)) := by
  rw [hx, hy]
  by_cases h1 : a.take j = b.take j <;> by_cases h2 : x = y <;> simp [take_eq_snoc, h1, h2]
theorem map_snoc (l : List Int) (x t : Int) : (l ++ [x]).map (· + t) = l.map (· + t) ++ [x + t] := by simp
theorem cellZ {w w' : World} {b i : Nat} {v : Value} (g : Gr w w') (h : w.cell? ⟨b, i, none⟩ = some v) : w'.cell? ⟨b, i, none⟩ = some v := by
  rw [Below.cell g (p := ⟨b, i, none⟩) (World.block_lt_of_cell? w _ h)]; exact h
/-- Of right lists of few numbers. -/
theorem far_few {a b : List Int} (h1 : rightV a = true) (h2 : rightV b = true) (hl : a.length ≤ 30) : 0 ≤ far a b ∧ far a b ≤ 33776993178747000 := by
  refine ⟨far_nonneg _ _, ?_⟩
  have := far_le (a := a) (b := b) (rightV_parts h1).2 (rightV_parts h2).2
  omega
end Go.Proofs.Ytjlcdhafidgkiaa

/- In one text: Row. -/
import Derived.Test.YtgopodgjnblgkaaDoorP09
import Derived.Test.YtgopodgjnblgkaaDoorP10
import Derived.Maps.AppendAt
/- A row of one's own as a part of a world; what an append makes of it. -/
namespace Go.Proofs.YtgopodgjnblgkaaDoor
open Go.RowKit
set_option linter.unusedVariables false
set_option linter.unusedSimpArgs false
set_option maxRecDepth 20000
/-- A row of elements of a type. -/
def RowE (E : TypeId) (z : Nat) (v : Value) (n : Nat) (xs : List Value) : Asn := fun w B => w.ownsRow 0 E z v n xs ∧ (∀ b, v.ownBlock = some b → B b) ∧ ∀ b, B b → b < w.heap.size
theorem fr_rowE (E : TypeId) (z : Nat) (v : Value) (n : Nat) (xs : List Value) : Fr (RowE E z v n xs) where
  fr := fun {w w' B C} ⟨h, hB, hl⟩ o d => by
    refine ⟨⟨h.1, ?_⟩, hB, fun b hb => Nat.lt_of_lt_of_le (hl b hb) o.size⟩
    rcases h.2 with h3 | ⟨g, cap, cur, rfl, h4, h5, h6⟩
    · exact .inl h3
    · exact .inr ⟨g, cap, cur, rfl, h4, by rw [o.block _ (lt_of_block h5) (d g (hB g rfl))]; exact h5, h6⟩
  lo := fun ⟨_, _, hl⟩ => hl
theorem rowE_nil (E : TypeId) (z : Nat) (w : World) : RowE E z (.slice none 0 0) 0 [] w (fun _ => False) := ⟨World.ownsRow_nil _ _ _ _, (fun b hb => by cases hb), fun b hb => hb.elim⟩
theorem rowE_shape {E : TypeId} {z : Nat} {v : Value} {n : Nat} {xs : List Value} {w : World} {B : Nat → Prop} (h : RowE E z v n xs w B) : ∃ a c, v = .slice a n c ∧ n ≤ c ∧ c ≤ maxLen ∧ (a = none → n = 0) := by
  rcases h.1.2 with ⟨rfl, rfl⟩ | ⟨g, cap, cur, rfl, _, _, h1, h2, _⟩
  · exact ⟨none, 0, rfl, Nat.le_refl _, Nat.zero_le _, fun _ => rfl⟩
  · exact ⟨_, cap, rfl, h1, h2, fun h => by cases h⟩
/-- Behind an append that the walk has met. -/
theorem rowE_next {E : TypeId} {z : Nat} {v v' : Value} {n n' : Nat} {xs xs' : List Value} {w w1 w' : World} {B : Nat → Prop} (h : RowE E z v n xs w B) (g : Gr w w1) (hown : w'.ownsRow 0 E z v' n' xs') (hg : w1.grownBy w' v.ownBlock) (hat : v'.ownBlock = v.ownBlock ∨ v'.ownBlock = some w1.heap.size) :
    ∃ B', RowE E z v' n' xs' w' B' ∧ Nx B w B' w' := by
  obtain ⟨_, hB, hl⟩ := h
  refine ⟨fun b => v'.ownBlock = some b, ⟨hown, fun b hb => hb, fun b hb => (hown.lt b hb).2⟩, ?_, fun b hb => ?_⟩
  · exact (Only.ofGr g).trans (Only.grown hg hB)
  · rcases hat with h1 | h1
    · rw [h1] at hb; exact .inl (hB b hb)
    · rw [h1] at hb; simp only [Option.some.injEq] at hb; rw [← hb]; exact .inr g.size
/-- A row of strings. -/
def RowA (v : Value) (l : List ByteArray) : Asn := RowE 9 1 v l.length (strs l)
theorem fr_row (v : Value) (l : List ByteArray) : Fr (RowA v l) := fr_rowE _ _ _ _ _
theorem row_nil (w : World) : RowA (.slice none 0 0) [] w (fun _ => False) := rowE_nil _ _ w
theorem row_lies {v : Value} {l : List ByteArray} {w : World} {B : Nat → Prop} (h : RowA v l w B) : Lies w v l := lies_own h.1
theorem row_of_own {w u : World} {v : Value} {l : List ByteArray} (h : u.ownsRow w.heap.size 9 1 v l.length (strs l)) : ∃ B, RowA v l u B ∧ ∀ x, B x → w.heap.size ≤ x := by
  refine ⟨fun x => v.ownBlock = some x, ⟨⟨h.1, h.2.imp id fun ⟨g, cap, cur, h1, h2, h3⟩ => ⟨g, cap, cur, h1, Nat.zero_le _, h3⟩⟩, fun b hb => hb, fun b hb => (h.lt b hb).2⟩, fun x hx => (h.lt x hx).1⟩
theorem row_app {v v' : Value} {l : List ByteArray} {r : ByteArray} {w w1 w' : World} {B : Nat → Prop} (h : RowA v l w B) (g : Gr w w1) (hown : w'.ownsRow 0 9 1 v' (l.length + 1) (strs l ++ [.string r])) (hg : w1.grownBy w' v.ownBlock) (hat : v'.ownBlock = v.ownBlock ∨ v'.ownBlock = some w1.heap.size) :
    ∃ B', RowA v' (l ++ [r]) w' B' ∧ Nx B w B' w' := by
  have := rowE_next h g hown hg hat
  unfold RowA
  rwa [List.length_append, List.length_singleton, show strs (l ++ [r]) = strs l ++ [.string r] by simp [strs]]
theorem infoS : (Tryd.prog.info? 9).map (fun i => (i.zero, i.size, i.bytes)) = some (some (.string ⟨#[]⟩), 1, 16) := by kernel_rfl
/-- A store into a block known whole. -/
theorem blk_next {p i : Nat} {c : Array Value} {T : TypeId} {w : World} {B : Nat → Prop} (h : Blk p c T w B) (u : Value) : ∃ B', Blk p (c.setIfInBounds i u) T (w.setCell ⟨p, i, none⟩ u) B' ∧ Nx B w B' (w.setCell ⟨p, i, none⟩ u) :=
  ⟨B, ⟨cells_set h.1 i u, h.2⟩, Nx.of (Only.cell1 _ _ _ _) fun b hb => (h.2 b).2 hb⟩
end Go.Proofs.YtgopodgjnblgkaaDoor

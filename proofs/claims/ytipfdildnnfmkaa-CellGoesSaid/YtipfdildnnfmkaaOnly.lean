/- What a call may write: of what was there at most some blocks; a block known whole. -/
import Derived.Test.YtipfdildnnfmkaaBase
import Derived.OneCell
namespace Go.Proofs.Ytipfdildnnfmkaa
open Go.RowKit
set_option linter.unusedVariables false
set_option linter.unusedSimpArgs false
set_option maxRecDepth 20000

/-- Of what was there at most the blocks of B are written; there may be new blocks. -/
structure Only (B : Nat → Prop) (w w' : World) : Prop where
  os : w'.os = w.os
  tape : w'.tape = w.tape
  output : w'.output = w.output
  size : w.heap.size ≤ w'.heap.size
  block : ∀ k, k < w.heap.size → ¬ B k → w'.heap[k]? = w.heap[k]?

theorem Only.refl (B : Nat → Prop) (w : World) : Only B w w := ⟨rfl, rfl, rfl, Nat.le_refl _, fun _ _ _ => rfl⟩
theorem Only.trans {B : Nat → Prop} {a b c : World} (h : Only B a b) (k : Only B b c) : Only B a c :=
  ⟨k.os.trans h.os, k.tape.trans h.tape, k.output.trans h.output, Nat.le_trans h.size k.size, fun i hi hB => (k.block i (Nat.lt_of_lt_of_le hi h.size) hB).trans (h.block i hi hB)⟩
/-- The second step may write what is new since the first one's start, too. -/
theorem Only.andThen {B C : Nat → Prop} {a b c : World} (h : Only B a b) (k : Only C b c) (hC : ∀ i, C i → B i ∨ a.heap.size ≤ i) : Only B a c :=
  ⟨k.os.trans h.os, k.tape.trans h.tape, k.output.trans h.output, Nat.le_trans h.size k.size, fun i hi hB => (k.block i (Nat.lt_of_lt_of_le hi h.size) (fun e => by rcases hC i e with h1 | h1; exact hB h1; omega)).trans (h.block i hi hB)⟩
theorem Only.mono {B C : Nat → Prop} {a b : World} (h : Only B a b) (hC : ∀ i, B i → C i) : Only C a b :=
  ⟨h.os, h.tape, h.output, h.size, fun i hi hB => h.block i hi fun e => hB (hC i e)⟩
theorem Only.ofGr {B : Nat → Prop} {a b : World} (h : Gr a b) : Only B a b := ⟨h.os, h.tape, h.output, h.size, fun i hi _ => h.block i hi⟩
theorem Only.ofBelow {B : Nat → Prop} {n : Nat} {a b : World} (h : Below n a b) (hB : ∀ i, n ≤ i → i < a.heap.size → B i) : Only B a b :=
  ⟨h.os, h.tape, h.output, h.size, fun i hi hb => h.block i (by rcases Nat.lt_or_ge i n with h1 | h1; exact h1; exact absurd (hB i h1 hi) hb)⟩
theorem Only.toBelow {B : Nat → Prop} {n : Nat} {a b : World} (h : Only B a b) (hn : n ≤ a.heap.size) (hB : ∀ i, B i → n ≤ i) : Below n a b :=
  ⟨h.os, h.tape, h.output, h.size, fun i hi => h.block i (by omega) fun e => by have := hB i e; omega⟩
theorem Only.drew (B : Nat → Prop) (w : World) : Only B w w.drew := ⟨rfl, rfl, rfl, Nat.le_refl _, fun _ _ _ => rfl⟩
theorem Only.drewN (B : Nat → Prop) (w : World) (n : Nat) : Only B w (w.drewN n) := ⟨rfl, rfl, rfl, Nat.le_refl _, fun _ _ _ => rfl⟩
theorem Only.alloc (B : Nat → Prop) (w : World) (o : Obj) : Only B w (w.alloc o) := ⟨rfl, rfl, rfl, by simp, fun k hk _ => Below.heap_alloc _ _ _ hk⟩
theorem Only.setCell {B : Nat → Prop} (w : World) {a : Addr} (h : B a.block) (u : Value) : Only B w (w.setCell a u) :=
  ⟨rfl, rfl, rfl, by simp [World.setCell], fun k hk hB => Below.heap_setCell _ _ _ _ (fun e => hB (by rw [e]; exact h))⟩
theorem Only.cell1 (w : World) (p i : Nat) (u : Value) : Only (fun k => k = p) w (w.setCell ⟨p, i, none⟩ u) := Only.setCell (B := fun k => k = p) w (a := ⟨p, i, none⟩) rfl u
theorem Only.grown {B : Nat → Prop} {w w' : World} {row : Option Nat} (h : w.grownBy w' row) (hB : ∀ k, row = some k → B k) : Only B w w' :=
  ⟨h.os, h.tape, h.output, h.size, fun k hk hb => h.block k hk fun e => hb (hB k e.symm)⟩
theorem Only.grownBy {w w' : World} {b : Nat} (h : Only (fun i => i = b) w w') : w.grownBy w' (some b) :=
  ⟨h.os, h.tape, h.output, h.size, fun k hk hb => h.block k hk fun e => hb (by rw [e])⟩
theorem Only.cell {B : Nat → Prop} {w w' : World} (h : Only B w w') {p : Addr} (hp : p.block < w.heap.size) (hb : ¬ B p.block) : w'.cell? p = w.cell? p := World.cell?_of_block (w := w) (h.block p.block hp hb)
theorem Only.frozen {B : Nat → Prop} {w w' : World} (h : Only B w w') {p : Addr} (hp : p.block < w.heap.size) (hb : ¬ B p.block) : w'.frozen? p = w.frozen? p := World.frozen?_of_block (w := w) (h.block p.block hp hb)

theorem cells_at {w : World} {b : Nat} {c : Array Value} {T : TypeId} (h : w.heap[b]? = some (.cells c T (0, 0))) (i : Nat) : w.cell? ⟨b, i, none⟩ = c[i]? := by simp [World.cell?, h]
theorem cells_free {w : World} {b : Nat} {c : Array Value} {T : TypeId} (h : w.heap[b]? = some (.cells c T (0, 0))) (i : Nat) : w.frozen? ⟨b, i, none⟩ = false := by simp [World.frozen?, h]
theorem cells_set {w : World} {b : Nat} {c : Array Value} {T : TypeId} (h : w.heap[b]? = some (.cells c T (0, 0))) (i : Nat) (u : Value) : (w.setCell ⟨b, i, none⟩ u).heap[b]? = some (.cells (c.setIfInBounds i u) T (0, 0)) := by
  have hlt := lt_of_block h
  have h' : w.heap[b] = .cells c T (0, 0) := by simpa [Array.getElem?_eq_getElem hlt] using h
  show (w.heap.modify b _)[b]? = _
  rw [Array.getElem?_eq_getElem (by simpa using hlt), Array.getElem_modify_self, h']
  rfl
theorem new_cell (w : World) (c : Array Value) (T : TypeId) {n : Nat} (h : n = w.heap.size) (i : Nat) : (w.alloc (.cells c T)).cell? ⟨n, i, none⟩ = c[i]? := by subst h; exact World.cell?_alloc_new w c T i
end Go.Proofs.Ytipfdildnnfmkaa

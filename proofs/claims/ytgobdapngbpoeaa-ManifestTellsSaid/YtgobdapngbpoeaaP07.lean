/- In one text: MnStep, Only. -/
import Derived.Test.YtgobdapngbpoeaaP06
import Derived.Test.YtgobdapngbpoeaaP00
import Derived.OneCell
/- Plain facts of a manifest: the loops that walk its files, step by step. -/
namespace Go.Proofs.Ytgobdapngbpoeaa
open Go.RowKit FsPlain CrcPlain OctPlain
set_option linter.unusedVariables false
set_option linter.unusedSimpArgs false
namespace MnPlain
def hasN (n : ByteArray) (l : List Fl) : Bool := l.any fun f => decide (f.name = n)
/-- With, of those that are there. -/
def setF (g : Fl) : List Fl → List Fl
  | [] => []
  | f :: t => if f.name = g.name then g :: t else f :: setF g t
theorem with_set (g : Fl) : ∀ l : List Fl, withF g l = if hasN g.name l = true then setF g l else setF g l ++ [g]
  | [] => rfl
  | f :: t => by
    have ih := with_set g t
    show (if f.name = g.name then g :: t else f :: withF g t) = if (decide (f.name = g.name) || hasN g.name t) = true then (if f.name = g.name then g :: t else f :: setF g t) else (if f.name = g.name then g :: t else f :: setF g t) ++ [g]
    by_cases h : f.name = g.name
    · rw [if_pos h, if_pos (by simp [h]), if_pos h]
    · rw [if_neg h, if_neg h, ih]
      by_cases k : hasN g.name t = true
      · rw [if_pos k, if_pos (by simp [k])]
      · rw [if_neg k, if_neg (by simp [k, h])]; rfl
theorem set_none (g : Fl) : ∀ l : List Fl, hasN g.name l = false → setF g l = l
  | [], _ => rfl
  | f :: t, h => by
    have h2 : (decide (f.name = g.name) || hasN g.name t) = false := h
    rw [Bool.or_eq_false_iff, decide_eq_false_iff_not] at h2
    show (if f.name = g.name then g :: t else f :: setF g t) = f :: t
    rw [if_neg h2.1, set_none g t h2.2]
theorem has_snoc (n : ByteArray) (l : List Fl) (f : Fl) : hasN n (l ++ [f]) = (hasN n l || decide (f.name = n)) := by
  unfold hasN
  rw [List.any_append, List.any_cons, List.any_nil, Bool.or_false]
theorem set_snoc (g : Fl) : ∀ (l : List Fl) (f : Fl), setF g (l ++ [f]) = if hasN g.name l = false ∧ f.name = g.name then setF g l ++ [g] else setF g l ++ [f]
  | [], f => by
    show (if f.name = g.name then g :: [] else f :: setF g []) = _
    by_cases h : f.name = g.name
    · rw [if_pos h, if_pos ⟨rfl, h⟩]; rfl
    · rw [if_neg h, if_neg fun k => h k.2]; rfl
  | x :: t, f => by
    have ih := set_snoc g t f
    show (if x.name = g.name then g :: (t ++ [f]) else x :: setF g (t ++ [f])) = if (decide (x.name = g.name) || hasN g.name t) = false ∧ f.name = g.name then (if x.name = g.name then g :: t else x :: setF g t) ++ [g] else (if x.name = g.name then g :: t else x :: setF g t) ++ [f]
    by_cases h : x.name = g.name
    · rw [if_pos h, if_neg (by simp [h]), if_pos h]; rfl
    · rw [if_neg h, ih, if_neg h]
      have e : (decide (x.name = g.name) || hasN g.name t) = hasN g.name t := by rw [decide_eq_false h, Bool.false_or]
      rw [e]
      by_cases k : hasN g.name t = false ∧ f.name = g.name
      · rw [if_pos k, if_pos k]; rfl
      · rw [if_neg k, if_neg k]; rfl
theorem find_at {n : ByteArray} {l : List Fl} {i : Nat} (hi : i < l.length) (h : ∀ j (hj : j < i), l[j].name ≠ n) : findF n l = if l[i].name = n then some l[i] else findF n (l.drop (i + 1)) := by
  have e : l = l.take i ++ (l[i] :: l.drop (i + 1)) := by rw [← List.drop_eq_getElem_cons hi, List.take_append_drop]
  have k : ∀ f ∈ l.take i, f.name ≠ n := fun f hf => by
    obtain ⟨j, hj, rfl⟩ := List.mem_iff_getElem.1 hf
    rw [List.getElem_take]
    rw [List.length_take] at hj
    exact h j (by omega)
  have e2 : findF n l = findF n (l.take i ++ (l[i] :: l.drop (i + 1))) := congrArg _ e
  rw [e2, find_ahead k]
  rfl
theorem find_no {n : ByteArray} {l : List Fl} (h : ∀ j (hj : j < l.length), l[j].name ≠ n) : findF n l = none := by
  have := find_ahead (n := n) (l := l) (m := []) fun f hf => by
    obtain ⟨j, hj, rfl⟩ := List.mem_iff_getElem.1 hf
    exact h j hj
  rw [List.append_nil] at this
  exact this
/-- Whether it may be, at the i-th file. -/
theorem new_step {l : List Fl} {i : Nat} (hi : i < l.length) : newB (l.take i) (l.drop i) = (flB l[i] && ((l.take i).all fun g => decide (g.name ≠ l[i].name)) && newB (l.take (i + 1)) (l.drop (i + 1))) := by
  rw [List.drop_eq_getElem_cons hi]
  show (flB l[i] && ((l.take i).all fun g => decide (g.name ≠ l[i].name)) && newB (l.take i ++ [l[i]]) (l.drop (i + 1))) = _
  rw [List.take_succ_eq_append_getElem hi]
theorem new_end (l : List Fl) : newB (l.take l.length) (l.drop l.length) = true := by rw [List.drop_length]; unfold newB; rfl
theorem all_ne {l : List Fl} {i : Nat} (hi : i < l.length) (n : ByteArray) : ((l.take i).all fun g => decide (g.name ≠ n)) = true ↔ ∀ j (hj : j < i), l[j].name ≠ n := by
  rw [List.all_eq_true]
  constructor
  · intro h j hj
    have := h l[j] (by rw [List.mem_iff_getElem]; exact ⟨j, by rw [List.length_take]; omega, by rw [List.getElem_take]⟩)
    simpa using this
  · intro h f hf
    obtain ⟨j, hj, rfl⟩ := List.mem_iff_getElem.1 hf
    rw [List.length_take] at hj
    have := h j (by omega)
    simpa [List.getElem_take] using this
/-- The bytes, one file more. -/
theorem bytes_step {l : List Fl} {i : Nat} (hi : i < l.length) : ((l.take (i + 1)).map flL).flatten = ((l.take i).map flL).flatten ++ flL l[i] := by
  rw [List.take_succ_eq_append_getElem hi, List.map_append, List.flatten_append]
  simp
theorem pos_step {l : List Fl} {i : Nat} (hi : i < l.length) : posN (l.take (i + 1)) = posN (l.take i) + 14 + l[i].name.size := by
  rw [List.take_succ_eq_append_getElem hi, posN_snoc]
/-- Any manifest of these bytes, at its i-th file. -/
theorem is_step {s : ByteArray} {m : Mn} (h : mnIs s m) {i : Nat} (hi : i < m.files.length) : ∃ p q, s.data.toList = p ++ (flL m.files[i] ++ q) ∧ p.length = posN (m.files.take i) ∧ 4 ≤ q.length ∧ flI m.files[i] ∧ m.files[i].count ≤ 4611686018427387904 := by
  obtain ⟨h1, h2, h3⟩ := h
  have hb : newB [] m.files = true := by unfold mnB at h1; rw [Bool.and_eq_true] at h1; exact h1.2
  have hf := newB_all hb _ (List.getElem_mem hi)
  obtain ⟨p, q, e, hp, hq⟩ := mn_at (m := m) (l := m.files.take i) (f := m.files[i]) (t := m.files.drop (i + 1)) (by rw [← List.drop_eq_getElem_cons hi, List.take_append_drop])
  rw [h3] at e
  refine ⟨p, q, e, hp, hq, flB_I hf (h2 _ (List.getElem_mem hi)), ?_⟩
  unfold flB at hf
  simp only [Bool.and_eq_true, decide_eq_true_eq] at hf
  exact hf.2.2.2
end MnPlain
end Go.Proofs.Ytgobdapngbpoeaa
/- What a call may write: of what was there at most some blocks; a block known whole. -/
namespace Go.Proofs.Ytgobdapngbpoeaa
open Go.RowKit
set_option linter.unusedVariables false
set_option linter.unusedSimpArgs false
set_option maxRecDepth 20000

/-- Of what was there at most the blocks of B are written; there may be new blocks. -/
structure Only (B : Nat → Prop) (w w' : World) : Prop where
  os : w'.os = w.os
  tape : w'.tape = w.tape
  output : w'.output = w.output
  size : w.heap.size ≤ w'.heap.size
  block : ∀ k, k < w.heap.size → ¬ B k → w'.heap[k]? = w.heap[k]?

theorem Only.refl (B : Nat → Prop) (w : World) : Only B w w := ⟨rfl, rfl, rfl, Nat.le_refl _, fun _ _ _ => rfl⟩
theorem Only.trans {B : Nat → Prop} {a b c : World} (h : Only B a b) (k : Only B b c) : Only B a c :=
  ⟨k.os.trans h.os, k.tape.trans h.tape, k.output.trans h.output, Nat.le_trans h.size k.size, fun i hi hB => (k.block i (Nat.lt_of_lt_of_le hi h.size) hB).trans (h.block i hi hB)⟩
/-- The second step may write what is new since the first one's start, too. -/
theorem Only.andThen {B C : Nat → Prop} {a b c : World} (h : Only B a b) (k : Only C b c) (hC : ∀ i, C i → B i ∨ a.heap.size ≤ i) : Only B a c :=
  ⟨k.os.trans h.os, k.tape.trans h.tape, k.output.trans h.output, Nat.le_trans h.size k.size, fun i hi hB => (k.block i (Nat.lt_of_lt_of_le hi h.size) (fun e => by rcases hC i e with h1 | h1; exact hB h1; omega)).trans (h.block i hi hB)⟩
theorem Only.mono {B C : Nat → Prop} {a b : World} (h : Only B a b) (hC : ∀ i, B i → C i) : Only C a b :=
  ⟨h.os, h.tape, h.output, h.size, fun i hi hB => h.block i hi fun e => hB (hC i e)⟩
theorem Only.ofGr {B : Nat → Prop} {a b : World} (h : Gr a b) : Only B a b := ⟨h.os, h.tape, h.output, h.size, fun i hi _ => h.block i hi⟩
theorem Only.ofBelow {B : Nat → Prop} {n : Nat} {a b : World} (h : Below n a b) (hB : ∀ i, n ≤ i → i < a.heap.size → B i) : Only B a b :=
  ⟨h.os, h.tape, h.output, h.size, fun i hi hb => h.block i (by rcases Nat.lt_or_ge i n with h1 | h1; exact h1; exact absurd (hB i h1 hi) hb)⟩
theorem Only.toBelow {B : Nat → Prop} {n : Nat} {a b : World} (h : Only B a b) (hn : n ≤ a.heap.size) (hB : ∀ i, B i → n ≤ i) : Below n a b :=
  ⟨h.os, h.tape, h.output, h.size, fun i hi => h.block i (by omega) fun e => by have := hB i e; omega⟩
theorem Only.drew (B : Nat → Prop) (w : World) : Only B w w.drew := ⟨rfl, rfl, rfl, Nat.le_refl _, fun _ _ _ => rfl⟩
theorem Only.drewN (B : Nat → Prop) (w : World) (n : Nat) : Only B w (w.drewN n) := ⟨rfl, rfl, rfl, Nat.le_refl _, fun _ _ _ => rfl⟩
theorem Only.alloc (B : Nat → Prop) (w : World) (o : Obj) : Only B w (w.alloc o) := ⟨rfl, rfl, rfl, by simp, fun k hk _ => Below.heap_alloc _ _ _ hk⟩
theorem Only.setCell {B : Nat → Prop} (w : World) {a : Addr} (h : B a.block) (u : Value) : Only B w (w.setCell a u) :=
  ⟨rfl, rfl, rfl, by simp [World.setCell], fun k hk hB => Below.heap_setCell _ _ _ _ (fun e => hB (by rw [e]; exact h))⟩
theorem Only.cell1 (w : World) (p i : Nat) (u : Value) : Only (fun k => k = p) w (w.setCell ⟨p, i, none⟩ u) := Only.setCell (B := fun k => k = p) w (a := ⟨p, i, none⟩) rfl u
theorem Only.grown {B : Nat → Prop} {w w' : World} {row : Option Nat} (h : w.grownBy w' row) (hB : ∀ k, row = some k → B k) : Only B w w' :=
  ⟨h.os, h.tape, h.output, h.size, fun k hk hb => h.block k hk fun e => hb (hB k e.symm)⟩
theorem Only.grownBy {w w' : World} {b : Nat} (h : Only (fun i => i = b) w w') : w.grownBy w' (some b) :=
  ⟨h.os, h.tape, h.output, h.size, fun k hk hb => h.block k hk fun e => hb (by rw [e])⟩
theorem Only.cell {B : Nat → Prop} {w w' : World} (h : Only B w w') {p : Addr} (hp : p.block < w.heap.size) (hb : ¬ B p.block) : w'.cell? p = w.cell? p := World.cell?_of_block (w := w) (h.block p.block hp hb)
theorem Only.frozen {B : Nat → Prop} {w w' : World} (h : Only B w w') {p : Addr} (hp : p.block < w.heap.size) (hb : ¬ B p.block) : w'.frozen? p = w.frozen? p := World.frozen?_of_block (w := w) (h.block p.block hp hb)

theorem cells_at {w : World} {b : Nat} {c : Array Value} {T : TypeId} (h : w.heap[b]? = some (.cells c T (0, 0))) (i : Nat) : w.cell? ⟨b, i, none⟩ = c[i]? := by simp [World.cell?, h]
theorem cells_free {w : World} {b : Nat} {c : Array Value} {T : TypeId} (h : w.heap[b]? = some (.cells c T (0, 0))) (i : Nat) : w.frozen? ⟨b, i, none⟩ = false := by simp [World.frozen?, h]
theorem cells_set {w : World} {b : Nat} {c : Array Value} {T : TypeId} (h : w.heap[b]? = some (.cells c T (0, 0))) (i : Nat) (u : Value) : (w.setCell ⟨b, i, none⟩ u).heap[b]? = some (.cells (c.setIfInBounds i u) T (0, 0)) := by
  have hlt := lt_of_block h
  have h' : w.heap[b] = .cells c T (0, 0) := by simpa [Array.getElem?_eq_getElem hlt] using h
  show (w.heap.modify b _)[b]? = _
  rw [Array.getElem?_eq_getElem (by simpa using hlt), Array.getElem_modify_self, h']
  rfl
theorem new_cell (w : World) (c : Array Value) (T : TypeId) {n : Nat} (h : n = w.heap.size) (i : Nat) : (w.alloc (.cells c T)).cell? ⟨n, i, none⟩ = c[i]? := by subst h; exact World.cell?_alloc_new w c T i
end Go.Proofs.Ytgobdapngbpoeaa

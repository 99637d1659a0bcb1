/- In one text: RfsFacts, Only, FsHeap. -/
import Derived.Test.YtignfbdgpgidpaaGreatDoorW01
import Derived.WideAt
import Derived.WideShapes
import Derived.Test.YtignfbdgpgidpaaGreatDoorW00
import Derived.OneCell
import Derived.Maps.RangeWalk
import Derived.Maps.Ext
import Derived.Lib.UnsafeStr
import Derived.Sort.KeysCollected
/- Plain facts on files by their names' order. -/
namespace Go.Proofs.YtignfbdgpgidpaaGreatDoor
open FsPlain Go.WideAt
set_option linter.unusedVariables false
set_option linter.unusedSimpArgs false
set_option maxRecDepth 20000
theorem less_before : ∀ a b : List UInt8, Op.bytesLess a b = bytesBefore a b
  | [], [] => rfl
  | [], _ :: _ => rfl
  | _ :: _, [] => rfl
  | a :: r, b :: t => by unfold Op.bytesLess bytesBefore; rw [less_before r t]
theorem lessF_before (a b : F) : lessF a b = bytesBefore a.name b.name := less_before _ _
theorem lessF_irrefl (a : F) : lessF a a = false := by rw [lessF_before]; exact bytes_irrefl _
theorem lessF_trans {a b c : F} (h : lessF a b = true) (k : lessF b c = true) : lessF a c = true := by rw [lessF_before] at *; exact WideShapes.bytes_trans _ _ _ h k
theorem lessF_asymm {a b : F} (h : lessF a b = true) : lessF b a = false := by
  cases k : lessF b a
  · rfl
  · have := lessF_trans h k; rw [lessF_irrefl] at this; cases this
theorem lessF_name {a b c : F} (h : b.name = c.name) : lessF a b = lessF a c := by unfold lessF; rw [h]
theorem lessF_name' {a b c : F} (h : b.name = c.name) : lessF b a = lessF c a := by unfold lessF; rw [h]
def SortF (l : List F) : Prop := l.Pairwise fun a b => lessF a b = true
theorem ins_put (f : F) : ∀ l : List F, (∀ y ∈ l, y.name ≠ f.name) → insF f l = putF f l
  | [], _ => rfl
  | y :: r, h => by
    have hb : (Lit.string f.name).before (.string y.name) = bytesBefore f.name y.name := rfl
    unfold insF
    by_cases hc : bytesBefore f.name y.name = true
    · rw [if_pos (by rw [hb]; exact hc)]
      have : lessF y f = false := lessF_asymm (by rw [lessF_before]; exact hc)
      unfold putF
      simp [this]
    · rw [if_neg (by rw [hb]; exact hc), ins_put f r fun z hz => h z (List.mem_cons_of_mem _ hz)]
      have : lessF y f = true := by
        rw [lessF_before]
        exact (bytes_total y.name f.name (h y (List.mem_cons_self ..))).resolve_right hc
      unfold putF
      simp [this]
theorem put_mid {f : F} {A C : List F} (hA : ∀ y ∈ A, lessF y f = true) (hC : ∀ y ∈ C, lessF f y = true) : putF f (A ++ C) = A ++ f :: C := by
  have h1 : (A ++ C).take A.length = A := by simp
  have h2 : (A ++ C).drop A.length = C := by simp
  have := putF_at (f := f) (l := A ++ C) (k := A.length) (by rw [h1]; exact hA) (fun y hy => by
    rw [List.getElem?_append_right (Nat.le_refl _), Nat.sub_self] at hy
    exact lessF_asymm (hC y (List.mem_of_getElem? hy)))
  rw [h1, h2] at this
  exact this
theorem out_mid {n : List UInt8} {f : F} {A C : List F} (hf : f.name = n) (hA : ∀ y ∈ A, y.name ≠ n) (hC : ∀ y ∈ C, y.name ≠ n) : outF n (A ++ f :: C) = A ++ C := by
  have e : ∀ l : List F, (∀ y ∈ l, y.name ≠ n) → outF n l = l := fun l h => List.filter_eq_self.2 fun y hy => by simpa using h y hy
  unfold outF
  rw [List.filter_append, List.filter_cons_of_neg (by simp [hf])]
  have := e A hA
  have := e C hC
  unfold outF at *
  simp only [*]
theorem upd_put {s : St} (h : s.ok) (hs : SortF s.fs) {n : List UInt8} {f : F} (hf : s.get n = some f) (g : F → F) (hg : (g f).name = f.name) : putF (g f) (outF n s.fs) = (s.upd n g).fs ∧ SortF (s.upd n g).fs := by
  obtain ⟨A, C, he, hn, hA, hC, hu⟩ := get_split h hf
  unfold SortF at hs
  rw [he] at hs
  have hp := List.pairwise_append.1 hs
  have h1 : ∀ y ∈ A, lessF y (g f) = true := fun y hy => by rw [lessF_name hg]; exact hp.2.2 y hy f (List.mem_cons_self ..)
  have h2 : ∀ y ∈ C, lessF (g f) y = true := fun y hy => by rw [lessF_name' hg]; exact (List.pairwise_cons.1 hp.2.1).1 y hy
  rw [hu g, he, out_mid hn hA hC]
  refine ⟨put_mid h1 h2, ?_⟩
  unfold SortF
  refine List.pairwise_append.2 ⟨hp.1, List.pairwise_cons.2 ⟨h2, (List.pairwise_cons.1 hp.2.1).2⟩, fun a ha b hb => ?_⟩
  rcases List.mem_cons.1 hb with rfl | hb
  · exact h1 a ha
  · exact hp.2.2 a ha b (List.mem_cons_of_mem _ hb)
theorem sort_put {f : F} : ∀ {l : List F}, SortF l → (∀ y ∈ l, y.name ≠ f.name) → SortF (putF f l)
  | [], _, _ => List.pairwise_singleton _ _
  | y :: r, hs, hn => by
    have hp := List.pairwise_cons.1 hs
    by_cases hc : lessF y f = true
    · have e : putF f (y :: r) = y :: putF f r := by unfold putF; simp [hc]
      rw [e]
      refine List.pairwise_cons.2 ⟨fun z hz => ?_, sort_put hp.2 fun z hz => hn z (List.mem_cons_of_mem _ hz)⟩
      have : z ∈ f :: r := by
        have hperm := insF_perm f r
        rw [ins_put f r fun z hz => hn z (List.mem_cons_of_mem _ hz)] at hperm
        exact hperm.mem_iff.1 hz
      rcases List.mem_cons.1 this with rfl | h
      · exact hc
      · exact hp.1 z h
    · have e : putF f (y :: r) = f :: y :: r := by unfold putF; simp [hc]
      rw [e]
      have hfy : lessF f y = true := by
        rw [lessF_before] at *
        exact (bytes_total y.name f.name (hn y (List.mem_cons_self ..))).resolve_left hc
      refine List.pairwise_cons.2 ⟨fun z hz => ?_, hs⟩
      rcases List.mem_cons.1 hz with rfl | h
      · exact hfy
      · exact lessF_trans hfy (hp.1 z h)
end Go.Proofs.YtignfbdgpgidpaaGreatDoor
/- What a call may write: of what was there at most some blocks; a block known whole. -/
namespace Go.Proofs.YtignfbdgpgidpaaGreatDoor
open Go.RowKit
set_option linter.unusedVariables false
set_option linter.unusedSimpArgs false
set_option maxRecDepth 20000
structure Only (B : Nat → Prop) (w w' : World) : Prop where
  os : w'.os = w.os
  tape : w'.tape = w.tape
  output : w'.output = w.output
  size : w.heap.size ≤ w'.heap.size
  block : ∀ k, k < w.heap.size → ¬ B k → w'.heap[k]? = w.heap[k]?
theorem Only.refl (B : Nat → Prop) (w : World) : Only B w w := ⟨rfl, rfl, rfl, Nat.le_refl _, fun _ _ _ => rfl⟩
theorem Only.trans {B : Nat → Prop} {a b c : World} (h : Only B a b) (k : Only B b c) : Only B a c :=
  ⟨k.os.trans h.os, k.tape.trans h.tape, k.output.trans h.output, Nat.le_trans h.size k.size, fun i hi hB => (k.block i (Nat.lt_of_lt_of_le hi h.size) hB).trans (h.block i hi hB)⟩
theorem Only.andThen {B C : Nat → Prop} {a b c : World} (h : Only B a b) (k : Only C b c) (hC : ∀ i, C i → B i ∨ a.heap.size ≤ i) : Only B a c :=
  ⟨k.os.trans h.os, k.tape.trans h.tape, k.output.trans h.output, Nat.le_trans h.size k.size, fun i hi hB => (k.block i (Nat.lt_of_lt_of_le hi h.size) (fun e => by rcases hC i e with h1 | h1; exact hB h1; omega)).trans (h.block i hi hB)⟩
theorem Only.mono {B C : Nat → Prop} {a b : World} (h : Only B a b) (hC : ∀ i, B i → C i) : Only C a b :=
  ⟨h.os, h.tape, h.output, h.size, fun i hi hB => h.block i hi fun e => hB (hC i e)⟩
theorem Only.ofGr {B : Nat → Prop} {a b : World} (h : Gr a b) : Only B a b := ⟨h.os, h.tape, h.output, h.size, fun i hi _ => h.block i hi⟩
theorem Only.toBelow {B : Nat → Prop} {n : Nat} {a b : World} (h : Only B a b) (hn : n ≤ a.heap.size) (hB : ∀ i, B i → n ≤ i) : Below n a b :=
  ⟨h.os, h.tape, h.output, h.size, fun i hi => h.block i (by omega) fun e => by have := hB i e; omega⟩
theorem Only.drew (B : Nat → Prop) (w : World) : Only B w w.drew := ⟨rfl, rfl, rfl, Nat.le_refl _, fun _ _ _ => rfl⟩
theorem Only.drewN (B : Nat → Prop) (w : World) (n : Nat) : Only B w (w.drewN n) := ⟨rfl, rfl, rfl, Nat.le_refl _, fun _ _ _ => rfl⟩
theorem Only.alloc (B : Nat → Prop) (w : World) (o : Obj) : Only B w (w.alloc o) := ⟨rfl, rfl, rfl, by simp, fun k hk _ => Below.heap_alloc _ _ _ hk⟩
theorem Only.setCell {B : Nat → Prop} (w : World) {a : Addr} (h : B a.block) (u : Value) : Only B w (w.setCell a u) :=
  ⟨rfl, rfl, rfl, by simp [World.setCell], fun k hk hB => Below.heap_setCell _ _ _ _ (fun e => hB (by rw [e]; exact h))⟩
theorem Only.cell1 (w : World) (p i : Nat) (u : Value) : Only (fun k => k = p) w (w.setCell ⟨p, i, none⟩ u) := Only.setCell (B := fun k => k = p) w (a := ⟨p, i, none⟩) rfl u
theorem Only.grown {B : Nat → Prop} {w w' : World} {row : Option Nat} (h : w.grownBy w' row) (hB : ∀ k, row = some k → B k) : Only B w w' :=
  ⟨h.os, h.tape, h.output, h.size, fun k hk hb => h.block k hk fun e => hb (hB k e.symm)⟩
theorem Only.grownBy {w w' : World} {b : Nat} (h : Only (fun i => i = b) w w') : w.grownBy w' (some b) :=
  ⟨h.os, h.tape, h.output, h.size, fun k hk hb => h.block k hk fun e => hb (by rw [e])⟩
theorem Only.cell {B : Nat → Prop} {w w' : World} (h : Only B w w') {p : Addr} (hp : p.block < w.heap.size) (hb : ¬ B p.block) : w'.cell? p = w.cell? p := World.cell?_of_block (w := w) (h.block p.block hp hb)
theorem cells_at {w : World} {b : Nat} {c : Array Value} {T : TypeId} (h : w.heap[b]? = some (.cells c T (0, 0))) (i : Nat) : w.cell? ⟨b, i, none⟩ = c[i]? := by simp [World.cell?, h]
theorem cells_free {w : World} {b : Nat} {c : Array Value} {T : TypeId} (h : w.heap[b]? = some (.cells c T (0, 0))) (i : Nat) : w.frozen? ⟨b, i, none⟩ = false := by simp [World.frozen?, h]
theorem cells_set {w : World} {b : Nat} {c : Array Value} {T : TypeId} (h : w.heap[b]? = some (.cells c T (0, 0))) (i : Nat) (u : Value) : (w.setCell ⟨b, i, none⟩ u).heap[b]? = some (.cells (c.setIfInBounds i u) T (0, 0)) := by
  have hlt := lt_of_block h
  have h' : w.heap[b] = .cells c T (0, 0) := by simpa [Array.getElem?_eq_getElem hlt] using h
  show (w.heap.modify b _)[b]? = _
  rw [Array.getElem?_eq_getElem (by simpa using hlt), Array.getElem_modify_self, h']
  rfl
end Go.Proofs.YtignfbdgpgidpaaGreatDoor
/- A disk in memory: its block, the map of its files, each file's block and row; what a call may write, and what stays. -/
namespace Go.Proofs.YtignfbdgpgidpaaGreatDoor
open Go.RowKit FsPlain Go.Maps
set_option linter.unusedVariables false
set_option linter.unusedSimpArgs false
set_option maxRecDepth 20000
def ptrElem : Value → Option (DataW Unit × List MemPlace)
  | .pointer (some ⟨b, 0, none⟩) => some (.lit (.int .i64 (b : Int)), [])
  | .pointer none => some (.lit (.int .i64 (-1)), [])
  | _ => none
theorem ptr_mk (b : Nat) : ptrElem (.pointer (some ⟨b, 0, none⟩)) = some (.lit (.int .i64 (b : Int)), []) := rfl
theorem ptr_nil : ptrElem (.pointer none) = some (.lit (.int .i64 (-1)), []) := rfl
theorem ptr_inv {v : Value} {y : DataW Unit × List MemPlace} (h : ptrElem v = some y) : (∃ b : Nat, v = .pointer (some ⟨b, 0, none⟩) ∧ y = (.lit (.int .i64 (b : Int)), [])) ∨ (v = .pointer none ∧ y = (.lit (.int .i64 (-1)), [])) := by
  unfold ptrElem at h
  split at h
  · cases h; exact .inl ⟨_, rfl, rfl⟩
  · cases h; exact .inr ⟨rfl, rfl⟩
  · cases h
theorem ptr_some {v : Value} {b : Nat} {ps : List MemPlace} (h : ptrElem v = some (.lit (.int .i64 (b : Int)), ps)) : v = .pointer (some ⟨b, 0, none⟩) := by
  rcases ptr_inv h with ⟨c, rfl, e⟩ | ⟨rfl, e⟩
  · simp at e; have e2 : b = c := by omega
    rw [e2]
  · simp at e
theorem ptr_none {v : Value} {ps : List MemPlace} (h : ptrElem v = some (.lit (.int .i64 (-1)), ps)) : v = .pointer none := by
  rcases ptr_inv h with ⟨c, rfl, e⟩ | ⟨rfl, e⟩
  · simp at e
  · rfl
theorem lawS : Keyed Tryz.prog 9 := string_keyed Tryz.underlying9
theorem zeroP (w : World) : (zeroValue 93).run Tryz.prog w = .ok (.pointer none) w := by kernel_rfl
theorem infoB : (Tryz.prog.info? 5).map (fun i => (i.zero, i.size, i.bytes)) = some (some (.int .u8 0), 1, 1) := by kernel_rfl
structure Pl where
  f : F
  blk : Nat
  v : Value
def plBlocks (x : Pl) : List Nat := x.blk :: x.v.ownBlock.toList
def ents (L : List Pl) : DataW Unit := .map (L.map fun x => (.string x.f.name, .lit (.int .i64 (x.blk : Int))))
def FileAt (w : World) (x : Pl) : Prop :=
  w.heap[x.blk]? = some (.cells #[x.v, .int .i64 (x.f.kept : Int)] 96 (0, 0)) ∧ w.ownsRow 0 5 1 x.v x.f.data.length (Lib.byteCells x.f.data)
def dcells (s : St) (m : Nat) : Array Value := #[.int .i64 s.room, .map (some m), .int .i64 s.calls, .int .i64 s.ahead, .bool s.down]
def blocks (L : List Pl) : List Nat := L.flatMap plBlocks
theorem mem_blocks {L : List Pl} {x : Pl} {b : Nat} (hx : x ∈ L) (hb : b ∈ plBlocks x) : b ∈ blocks L := List.mem_flatMap.2 ⟨x, hx, hb⟩
structure DiskAt (w : World) (p : Nat) (s : St) (B : Nat → Prop) (m : Nat) (L : List Pl) : Prop where
  heap : w.heap[p]? = some (.cells (dcells s m) 85 (0, 0))
  own : w.ownsMap Tryz.prog 9 ptrElem m L.length (ents L)
  fs : L.map (·.f) = s.fs
  file : ∀ x ∈ L, FileAt w x
  apart : (p :: m :: blocks L).Nodup
  mine : ∀ b ∈ p :: m :: blocks L, B b
  low : ∀ b, B b → b < w.heap.size
def Disk (w : World) (p : Nat) (s : St) (B : Nat → Prop) : Prop := s.ok ∧ ∃ m L, DiskAt w p s B m L
theorem row_shape {w : World} {v : Value} {n : Nat} {xs : List Value} (h : w.ownsRow 0 5 1 v n xs) : ∃ a c, v = .slice a n c ∧ (a = none → n = 0) ∧ ∀ b, a = some b → b.off = 0 ∧ b.spot = none ∧ b.block < w.heap.size := by
  rcases h.2 with ⟨rfl, rfl⟩ | ⟨g, cap, cur, rfl, _, hg, _⟩
  · exact ⟨none, 0, rfl, fun _ => rfl, fun b hb => by cases hb⟩
  · exact ⟨some ⟨g, 0, none⟩, cap, rfl, (fun h => by cases h), fun b hb => by cases hb; exact ⟨rfl, rfl, (Array.getElem?_eq_some_iff.1 hg).1⟩⟩
theorem FileAt.only {w w' : World} {x : Pl} {C : Nat → Prop} (h : FileAt w x) (g : Only C w w') (hC : ∀ b ∈ plBlocks x, ¬ C b) : FileAt w' x := by
  obtain ⟨h1, h2⟩ := h
  have hb1 : x.blk ∈ plBlocks x := by simp [plBlocks]
  refine ⟨by rw [g.block _ (lt_of_block h1) (hC _ hb1)]; exact h1, h2.1, ?_⟩
  rcases h2.2 with h3 | ⟨r, cap, cur, hv, h4, h5, h6⟩
  · exact .inl h3
  · refine .inr ⟨r, cap, cur, hv, h4, ?_, h6⟩
    rw [g.block _ (lt_of_block h5) (hC _ (by simp [plBlocks, hv, Value.ownBlock]))]; exact h5
theorem own_only {w w' : World} {b n : Nat} {D : DataW Unit} {C : Nat → Prop} (h : w.ownsMap Tryz.prog 9 ptrElem b n D) (g : Only C w w') (hC : ¬ C b) : w'.ownsMap Tryz.prog 9 ptrElem b n D := by
  have hlt := h.lt
  obtain ⟨es, clock, hb, r⟩ := h
  exact ⟨es, clock, by rw [g.block b hlt hC]; exact hb, r⟩
theorem tight {w : World} {b n : Nat} {D : DataW Unit} (h : w.ownsMap Tryz.prog 9 ptrElem b n D) : w.ownsMap Tryz.prog 9 ptrElem b (Maps.size D) D := by
  obtain ⟨es, clock, hb, F, hs, rfl⟩ := h
  exact ⟨es, clock, hb, F, by simp [Maps.size, length_sorted], rfl⟩
theorem ents_size (L : List Pl) : Maps.size (ents L) = L.length := by simp [ents, Maps.size]
theorem DiskAt.only {w w' : World} {p m : Nat} {s : St} {B C : Nat → Prop} {L : List Pl} (h : DiskAt w p s B m L) (g : Only C w w') (hC : ∀ b, B b → ¬ C b) : DiskAt w' p s B m L :=
  ⟨by rw [g.block p (lt_of_block h.heap) (hC _ (h.mine p (by simp)))]; exact h.heap, own_only h.own g (hC _ (h.mine m (by simp))), h.fs,
    fun x hx => (h.file x hx).only g fun b hb => hC b (h.mine b (List.mem_cons_of_mem _ (List.mem_cons_of_mem _ (mem_blocks hx hb)))), h.apart, h.mine, fun b hb => Nat.lt_of_lt_of_le (h.low b hb) g.size⟩
theorem Disk.only {w w' : World} {p : Nat} {s : St} {B C : Nat → Prop} (h : Disk w p s B) (g : Only C w w') (hC : ∀ b, B b → ¬ C b) : Disk w' p s B := by
  obtain ⟨h0, m, L, h⟩ := h
  exact ⟨h0, m, L, h.only g hC⟩
theorem Disk.low {w : World} {p : Nat} {s : St} {B : Nat → Prop} (h : Disk w p s B) (b : Nat) (hb : B b) : b < w.heap.size := by obtain ⟨_, m, L, d⟩ := h; exact d.low b hb
theorem DiskAt.own_block {w w' : World} {p m : Nat} {s s' : St} {B : Nat → Prop} {L : List Pl} (h : DiskAt w p s B m L) (g : Only (fun i => i = p) w w') (hp : w'.heap[p]? = some (.cells (dcells s' m) 85 (0, 0))) (hf : s'.fs = s.fs) : DiskAt w' p s' B m L := by
  have ha := h.apart
  simp only [List.nodup_cons, List.mem_cons, not_or] at ha
  refine ⟨hp, own_only h.own g (fun e => ha.1.1 e.symm), by rw [hf]; exact h.fs, fun x hx => (h.file x hx).only g fun b hb e => ?_, h.apart, h.mine, fun b hb => Nat.lt_of_lt_of_le (h.low b hb) g.size⟩
  subst e
  exact ha.1.2 (mem_blocks hx hb)
theorem names_apart {w : World} {b n : Nat} {L : List Pl} (h : w.ownsMap Tryz.prog 9 ptrElem b n (ents L)) : L.Pairwise (fun x y => x.f.name ≠ y.f.name) := by
  obtain ⟨es, he, hp, _⟩ := h.entries lawS
  unfold ents at he
  simp only [DataW.map.injEq] at he
  subst he
  rw [List.pairwise_map] at hp
  exact hp.imp fun h e => h (by rw [e])
theorem at_some {L : List Pl} {x : Pl} {n : List UInt8} (h : L.find? (fun x => x.f.name == n) = some x) (z : DataW Unit) : (ents L).atKey (.string n) z = .lit (.int .i64 (x.blk : Int)) := by
  have e : ((L.map fun x : Pl => ((.string x.f.name : Lit), (DataW.lit (.int .i64 (x.blk : Int)) : DataW Unit))).find? fun p => p.1.sameKey (.string n)) = some (.string x.f.name, .lit (.int .i64 (x.blk : Int))) := by
    rw [List.find?_map]
    have : ((fun p : Lit × DataW Unit => p.1.sameKey (.string n)) ∘ fun x : Pl => ((.string x.f.name : Lit), (DataW.lit (.int .i64 (x.blk : Int)) : DataW Unit))) = fun x : Pl => x.f.name == n := by funext y; rfl
    rw [this, h]; rfl
  unfold ents DataW.atKey
  simp only [e]
theorem at_none {L : List Pl} {n : List UInt8} (h : L.find? (fun x => x.f.name == n) = none) (z : DataW Unit) : (ents L).atKey (.string n) z = z := by
  have e : ((L.map fun x : Pl => ((.string x.f.name : Lit), (DataW.lit (.int .i64 (x.blk : Int)) : DataW Unit))).find? fun p => p.1.sameKey (.string n)) = none := by
    rw [List.find?_map]
    have : ((fun p : Lit × DataW Unit => p.1.sameKey (.string n)) ∘ fun x : Pl => ((.string x.f.name : Lit), (DataW.lit (.int .i64 (x.blk : Int)) : DataW Unit))) = fun x : Pl => x.f.name == n := by funext y; rfl
    rw [this, h]; rfl
  unfold ents DataW.atKey
  simp only [e]
theorem has_is (L : List Pl) (n : List UInt8) : Maps.has (ents L) (.string n) = L.any (fun x => x.f.name == n) := by
  unfold ents
  rw [has_eq, List.any_map]; rfl
theorem DiskAt.look {w : World} {p m : Nat} {s : St} {B : Nat → Prop} {L : List Pl} (h : DiskAt w p s B m L) (n : ByteArray) (hn : n.size ≤ maxLen) :
    (s.get n.data.toList = none ∧ L.find? (fun x => x.f.name == n.data.toList) = none ∧ ∀ w2 : World, w2.ownsMap Tryz.prog 9 ptrElem m L.length (ents L) → (Instr.lookup 83 (.map (some m)) (.string n) false).run Tryz.prog w2 = .ok (.pointer none) w2) ∨
    ∃ x, s.get n.data.toList = some x.f ∧ L.find? (fun x => x.f.name == n.data.toList) = some x ∧ ∀ w2 : World, w2.ownsMap Tryz.prog 9 ptrElem m L.length (ents L) → (Instr.lookup 83 (.map (some m)) (.string n) false).run Tryz.prog w2 = .ok (.pointer (some ⟨x.blk, 0, none⟩)) w2 := by
  have hkey := WideMaps.keyOf_string_mk (P := Tryz.prog) (k := 9) Tryz.underlying9 hn
  have hget : s.get n.data.toList = (L.find? (fun x => x.f.name == n.data.toList)).map (·.f) := by
    unfold St.get; rw [← h.fs, List.find?_map]; rfl
  cases hf : L.find? (fun x => x.f.name == n.data.toList) with
  | none =>
    refine .inl ⟨by rw [hget, hf]; rfl, rfl, fun w2 h2 => ?_⟩
    obtain ⟨v, ps, hrun, hv⟩ := h2.lookup lawS Tryz.underlying83 (zeroP w2) ptr_nil hkey
    rw [at_none hf] at hv
    rw [hrun, ptr_none hv]
  | some x =>
    refine .inr ⟨x, by rw [hget, hf]; rfl, rfl, fun w2 h2 => ?_⟩
    obtain ⟨v, ps, hrun, hv⟩ := h2.lookup lawS Tryz.underlying83 (zeroP w2) ptr_nil hkey
    rw [at_some hf] at hv
    rw [hrun, ptr_some hv]
end Go.Proofs.YtignfbdgpgidpaaGreatDoor

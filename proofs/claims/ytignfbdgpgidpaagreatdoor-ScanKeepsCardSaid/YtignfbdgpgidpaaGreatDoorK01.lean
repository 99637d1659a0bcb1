/- In one text: Only, FsHeap, FsCall. -/
import Derived.Test.YtignfbdgpgidpaaGreatDoorK00
import Derived.OneCell
import Derived.Maps.RangeWalk
import Derived.Maps.Ext
import Derived.Lib.UnsafeStr
import Derived.Sort.KeysCollected
import Derived.WalkSpells
import Derived.Deep.QuietTactic
import Derived.BigQuiet
/- What a call may write: of what was there at most some blocks; a block known whole. -/
namespace Go.Proofs.YtignfbdgpgidpaaGreatDoor
open Go.RowKit
set_option linter.unusedVariables false
set_option linter.unusedSimpArgs false
set_option maxRecDepth 20000
structure Only (B : Nat → Prop) (w w' : World) : Prop where
  os : w'.os = w.os
  tape : w'.tape = w.tape
  output : w'.output = w.output
  size : w.heap.size ≤ w'.heap.size
  block : ∀ k, k < w.heap.size → ¬ B k → w'.heap[k]? = w.heap[k]?
theorem Only.refl (B : Nat → Prop) (w : World) : Only B w w := ⟨rfl, rfl, rfl, Nat.le_refl _, fun _ _ _ => rfl⟩
theorem Only.trans {B : Nat → Prop} {a b c : World} (h : Only B a b) (k : Only B b c) : Only B a c :=
  ⟨k.os.trans h.os, k.tape.trans h.tape, k.output.trans h.output, Nat.le_trans h.size k.size, fun i hi hB => (k.block i (Nat.lt_of_lt_of_le hi h.size) hB).trans (h.block i hi hB)⟩
theorem Only.andThen {B C : Nat → Prop} {a b c : World} (h : Only B a b) (k : Only C b c) (hC : ∀ i, C i → B i ∨ a.heap.size ≤ i) : Only B a c :=
  ⟨k.os.trans h.os, k.tape.trans h.tape, k.output.trans h.output, Nat.le_trans h.size k.size, fun i hi hB => (k.block i (Nat.lt_of_lt_of_le hi h.size) (fun e => by rcases hC i e with h1 | h1; exact hB h1; omega)).trans (h.block i hi hB)⟩
theorem Only.mono {B C : Nat → Prop} {a b : World} (h : Only B a b) (hC : ∀ i, B i → C i) : Only C a b :=
  ⟨h.os, h.tape, h.output, h.size, fun i hi hB => h.block i hi fun e => hB (hC i e)⟩
theorem Only.ofGr {B : Nat → Prop} {a b : World} (h : Gr a b) : Only B a b := ⟨h.os, h.tape, h.output, h.size, fun i hi _ => h.block i hi⟩
theorem Only.toBelow {B : Nat → Prop} {n : Nat} {a b : World} (h : Only B a b) (hn : n ≤ a.heap.size) (hB : ∀ i, B i → n ≤ i) : Below n a b :=
  ⟨h.os, h.tape, h.output, h.size, fun i hi => h.block i (by omega) fun e => by have := hB i e; omega⟩
theorem Only.drew (B : Nat → Prop) (w : World) : Only B w w.drew := ⟨rfl, rfl, rfl, Nat.le_refl _, fun _ _ _ => rfl⟩
theorem Only.drewN (B : Nat → Prop) (w : World) (n : Nat) : Only B w (w.drewN n) := ⟨rfl, rfl, rfl, Nat.le_refl _, fun _ _ _ => rfl⟩
theorem Only.alloc (B : Nat → Prop) (w : World) (o : Obj) : Only B w (w.alloc o) := ⟨rfl, rfl, rfl, by simp, fun k hk _ => Below.heap_alloc _ _ _ hk⟩
theorem Only.setCell {B : Nat → Prop} (w : World) {a : Addr} (h : B a.block) (u : Value) : Only B w (w.setCell a u) :=
  ⟨rfl, rfl, rfl, by simp [World.setCell], fun k hk hB => Below.heap_setCell _ _ _ _ (fun e => hB (by rw [e]; exact h))⟩
theorem Only.cell1 (w : World) (p i : Nat) (u : Value) : Only (fun k => k = p) w (w.setCell ⟨p, i, none⟩ u) := Only.setCell (B := fun k => k = p) w (a := ⟨p, i, none⟩) rfl u
theorem Only.grown {B : Nat → Prop} {w w' : World} {row : Option Nat} (h : w.grownBy w' row) (hB : ∀ k, row = some k → B k) : Only B w w' :=
  ⟨h.os, h.tape, h.output, h.size, fun k hk hb => h.block k hk fun e => hb (hB k e.symm)⟩
theorem Only.grownBy {w w' : World} {b : Nat} (h : Only (fun i => i = b) w w') : w.grownBy w' (some b) :=
  ⟨h.os, h.tape, h.output, h.size, fun k hk hb => h.block k hk fun e => hb (by rw [e])⟩
theorem Only.cell {B : Nat → Prop} {w w' : World} (h : Only B w w') {p : Addr} (hp : p.block < w.heap.size) (hb : ¬ B p.block) : w'.cell? p = w.cell? p := World.cell?_of_block (w := w) (h.block p.block hp hb)
theorem cells_at {w : World} {b : Nat} {c : Array Value} {T : TypeId} (h : w.heap[b]? = some (.cells c T (0, 0))) (i : Nat) : w.cell? ⟨b, i, none⟩ = c[i]? := by simp [World.cell?, h]
theorem cells_free {w : World} {b : Nat} {c : Array Value} {T : TypeId} (h : w.heap[b]? = some (.cells c T (0, 0))) (i : Nat) : w.frozen? ⟨b, i, none⟩ = false := by simp [World.frozen?, h]
theorem cells_set {w : World} {b : Nat} {c : Array Value} {T : TypeId} (h : w.heap[b]? = some (.cells c T (0, 0))) (i : Nat) (u : Value) : (w.setCell ⟨b, i, none⟩ u).heap[b]? = some (.cells (c.setIfInBounds i u) T (0, 0)) := by
  have hlt := lt_of_block h
  have h' : w.heap[b] = .cells c T (0, 0) := by simpa [Array.getElem?_eq_getElem hlt] using h
  show (w.heap.modify b _)[b]? = _
  rw [Array.getElem?_eq_getElem (by simpa using hlt), Array.getElem_modify_self, h']
  rfl
end Go.Proofs.YtignfbdgpgidpaaGreatDoor
/- A disk in memory: its block, the map of its files, each file's block and row; what a call may write, and what stays. -/
namespace Go.Proofs.YtignfbdgpgidpaaGreatDoor
open Go.RowKit FsPlain Go.Maps
set_option linter.unusedVariables false
set_option linter.unusedSimpArgs false
set_option maxRecDepth 20000
def ptrElem : Value → Option (DataW Unit × List MemPlace)
  | .pointer (some ⟨b, 0, none⟩) => some (.lit (.int .i64 (b : Int)), [])
  | .pointer none => some (.lit (.int .i64 (-1)), [])
  | _ => none
theorem ptr_mk (b : Nat) : ptrElem (.pointer (some ⟨b, 0, none⟩)) = some (.lit (.int .i64 (b : Int)), []) := rfl
theorem ptr_nil : ptrElem (.pointer none) = some (.lit (.int .i64 (-1)), []) := rfl
theorem ptr_inv {v : Value} {y : DataW Unit × List MemPlace} (h : ptrElem v = some y) : (∃ b : Nat, v = .pointer (some ⟨b, 0, none⟩) ∧ y = (.lit (.int .i64 (b : Int)), [])) ∨ (v = .pointer none ∧ y = (.lit (.int .i64 (-1)), [])) := by
  unfold ptrElem at h
  split at h
  · cases h; exact .inl ⟨_, rfl, rfl⟩
  · cases h; exact .inr ⟨rfl, rfl⟩
  · cases h
theorem ptr_some {v : Value} {b : Nat} {ps : List MemPlace} (h : ptrElem v = some (.lit (.int .i64 (b : Int)), ps)) : v = .pointer (some ⟨b, 0, none⟩) := by
  rcases ptr_inv h with ⟨c, rfl, e⟩ | ⟨rfl, e⟩
  · simp at e; have e2 : b = c := by omega
    rw [e2]
  · simp at e
theorem ptr_none {v : Value} {ps : List MemPlace} (h : ptrElem v = some (.lit (.int .i64 (-1)), ps)) : v = .pointer none := by
  rcases ptr_inv h with ⟨c, rfl, e⟩ | ⟨rfl, e⟩
  · simp at e
  · rfl
theorem lawS : Keyed Tryz.prog 9 := string_keyed Tryz.underlying9
theorem zeroP (w : World) : (zeroValue 93).run Tryz.prog w = .ok (.pointer none) w := by kernel_rfl
theorem infoB : (Tryz.prog.info? 5).map (fun i => (i.zero, i.size, i.bytes)) = some (some (.int .u8 0), 1, 1) := by kernel_rfl
structure Pl where
  f : F
  blk : Nat
  v : Value
def plBlocks (x : Pl) : List Nat := x.blk :: x.v.ownBlock.toList
def ents (L : List Pl) : DataW Unit := .map (L.map fun x => (.string x.f.name, .lit (.int .i64 (x.blk : Int))))
def FileAt (w : World) (x : Pl) : Prop :=
  w.heap[x.blk]? = some (.cells #[x.v, .int .i64 (x.f.kept : Int)] 96 (0, 0)) ∧ w.ownsRow 0 5 1 x.v x.f.data.length (Lib.byteCells x.f.data)
def dcells (s : St) (m : Nat) : Array Value := #[.int .i64 s.room, .map (some m), .int .i64 s.calls, .int .i64 s.ahead, .bool s.down]
def blocks (L : List Pl) : List Nat := L.flatMap plBlocks
theorem mem_blocks {L : List Pl} {x : Pl} {b : Nat} (hx : x ∈ L) (hb : b ∈ plBlocks x) : b ∈ blocks L := List.mem_flatMap.2 ⟨x, hx, hb⟩
structure DiskAt (w : World) (p : Nat) (s : St) (B : Nat → Prop) (m : Nat) (L : List Pl) : Prop where
  heap : w.heap[p]? = some (.cells (dcells s m) 85 (0, 0))
  own : w.ownsMap Tryz.prog 9 ptrElem m L.length (ents L)
  fs : L.map (·.f) = s.fs
  file : ∀ x ∈ L, FileAt w x
  apart : (p :: m :: blocks L).Nodup
  mine : ∀ b ∈ p :: m :: blocks L, B b
  low : ∀ b, B b → b < w.heap.size
def Disk (w : World) (p : Nat) (s : St) (B : Nat → Prop) : Prop := s.ok ∧ ∃ m L, DiskAt w p s B m L
theorem row_shape {w : World} {v : Value} {n : Nat} {xs : List Value} (h : w.ownsRow 0 5 1 v n xs) : ∃ a c, v = .slice a n c ∧ (a = none → n = 0) ∧ ∀ b, a = some b → b.off = 0 ∧ b.spot = none ∧ b.block < w.heap.size := by
  rcases h.2 with ⟨rfl, rfl⟩ | ⟨g, cap, cur, rfl, _, hg, _⟩
  · exact ⟨none, 0, rfl, fun _ => rfl, fun b hb => by cases hb⟩
  · exact ⟨some ⟨g, 0, none⟩, cap, rfl, (fun h => by cases h), fun b hb => by cases hb; exact ⟨rfl, rfl, (Array.getElem?_eq_some_iff.1 hg).1⟩⟩
theorem FileAt.only {w w' : World} {x : Pl} {C : Nat → Prop} (h : FileAt w x) (g : Only C w w') (hC : ∀ b ∈ plBlocks x, ¬ C b) : FileAt w' x := by
  obtain ⟨h1, h2⟩ := h
  have hb1 : x.blk ∈ plBlocks x := by simp [plBlocks]
  refine ⟨by rw [g.block _ (lt_of_block h1) (hC _ hb1)]; exact h1, h2.1, ?_⟩
  rcases h2.2 with h3 | ⟨r, cap, cur, hv, h4, h5, h6⟩
  · exact .inl h3
  · refine .inr ⟨r, cap, cur, hv, h4, ?_, h6⟩
    rw [g.block _ (lt_of_block h5) (hC _ (by simp [plBlocks, hv, Value.ownBlock]))]; exact h5
theorem own_only {w w' : World} {b n : Nat} {D : DataW Unit} {C : Nat → Prop} (h : w.ownsMap Tryz.prog 9 ptrElem b n D) (g : Only C w w') (hC : ¬ C b) : w'.ownsMap Tryz.prog 9 ptrElem b n D := by
  have hlt := h.lt
  obtain ⟨es, clock, hb, r⟩ := h
  exact ⟨es, clock, by rw [g.block b hlt hC]; exact hb, r⟩
theorem tight {w : World} {b n : Nat} {D : DataW Unit} (h : w.ownsMap Tryz.prog 9 ptrElem b n D) : w.ownsMap Tryz.prog 9 ptrElem b (Maps.size D) D := by
  obtain ⟨es, clock, hb, F, hs, rfl⟩ := h
  exact ⟨es, clock, hb, F, by simp [Maps.size, length_sorted], rfl⟩
theorem ents_size (L : List Pl) : Maps.size (ents L) = L.length := by simp [ents, Maps.size]
theorem DiskAt.only {w w' : World} {p m : Nat} {s : St} {B C : Nat → Prop} {L : List Pl} (h : DiskAt w p s B m L) (g : Only C w w') (hC : ∀ b, B b → ¬ C b) : DiskAt w' p s B m L :=
  ⟨by rw [g.block p (lt_of_block h.heap) (hC _ (h.mine p (by simp)))]; exact h.heap, own_only h.own g (hC _ (h.mine m (by simp))), h.fs,
    fun x hx => (h.file x hx).only g fun b hb => hC b (h.mine b (List.mem_cons_of_mem _ (List.mem_cons_of_mem _ (mem_blocks hx hb)))), h.apart, h.mine, fun b hb => Nat.lt_of_lt_of_le (h.low b hb) g.size⟩
theorem Disk.only {w w' : World} {p : Nat} {s : St} {B C : Nat → Prop} (h : Disk w p s B) (g : Only C w w') (hC : ∀ b, B b → ¬ C b) : Disk w' p s B := by
  obtain ⟨h0, m, L, h⟩ := h
  exact ⟨h0, m, L, h.only g hC⟩
theorem Disk.low {w : World} {p : Nat} {s : St} {B : Nat → Prop} (h : Disk w p s B) (b : Nat) (hb : B b) : b < w.heap.size := by obtain ⟨_, m, L, d⟩ := h; exact d.low b hb
theorem DiskAt.own_block {w w' : World} {p m : Nat} {s s' : St} {B : Nat → Prop} {L : List Pl} (h : DiskAt w p s B m L) (g : Only (fun i => i = p) w w') (hp : w'.heap[p]? = some (.cells (dcells s' m) 85 (0, 0))) (hf : s'.fs = s.fs) : DiskAt w' p s' B m L := by
  have ha := h.apart
  simp only [List.nodup_cons, List.mem_cons, not_or] at ha
  refine ⟨hp, own_only h.own g (fun e => ha.1.1 e.symm), by rw [hf]; exact h.fs, fun x hx => (h.file x hx).only g fun b hb e => ?_, h.apart, h.mine, fun b hb => Nat.lt_of_lt_of_le (h.low b hb) g.size⟩
  subst e
  exact ha.1.2 (mem_blocks hx hb)
theorem names_apart {w : World} {b n : Nat} {L : List Pl} (h : w.ownsMap Tryz.prog 9 ptrElem b n (ents L)) : L.Pairwise (fun x y => x.f.name ≠ y.f.name) := by
  obtain ⟨es, he, hp, _⟩ := h.entries lawS
  unfold ents at he
  simp only [DataW.map.injEq] at he
  subst he
  rw [List.pairwise_map] at hp
  exact hp.imp fun h e => h (by rw [e])
theorem at_some {L : List Pl} {x : Pl} {n : List UInt8} (h : L.find? (fun x => x.f.name == n) = some x) (z : DataW Unit) : (ents L).atKey (.string n) z = .lit (.int .i64 (x.blk : Int)) := by
  have e : ((L.map fun x : Pl => ((.string x.f.name : Lit), (DataW.lit (.int .i64 (x.blk : Int)) : DataW Unit))).find? fun p => p.1.sameKey (.string n)) = some (.string x.f.name, .lit (.int .i64 (x.blk : Int))) := by
    rw [List.find?_map]
    have : ((fun p : Lit × DataW Unit => p.1.sameKey (.string n)) ∘ fun x : Pl => ((.string x.f.name : Lit), (DataW.lit (.int .i64 (x.blk : Int)) : DataW Unit))) = fun x : Pl => x.f.name == n := by funext y; rfl
    rw [this, h]; rfl
  unfold ents DataW.atKey
  simp only [e]
theorem at_none {L : List Pl} {n : List UInt8} (h : L.find? (fun x => x.f.name == n) = none) (z : DataW Unit) : (ents L).atKey (.string n) z = z := by
  have e : ((L.map fun x : Pl => ((.string x.f.name : Lit), (DataW.lit (.int .i64 (x.blk : Int)) : DataW Unit))).find? fun p => p.1.sameKey (.string n)) = none := by
    rw [List.find?_map]
    have : ((fun p : Lit × DataW Unit => p.1.sameKey (.string n)) ∘ fun x : Pl => ((.string x.f.name : Lit), (DataW.lit (.int .i64 (x.blk : Int)) : DataW Unit))) = fun x : Pl => x.f.name == n := by funext y; rfl
    rw [this, h]; rfl
  unfold ents DataW.atKey
  simp only [e]
theorem has_is (L : List Pl) (n : List UInt8) : Maps.has (ents L) (.string n) = L.any (fun x => x.f.name == n) := by
  unfold ents
  rw [has_eq, List.any_map]; rfl
theorem DiskAt.look {w : World} {p m : Nat} {s : St} {B : Nat → Prop} {L : List Pl} (h : DiskAt w p s B m L) (n : ByteArray) (hn : n.size ≤ maxLen) :
    (s.get n.data.toList = none ∧ L.find? (fun x => x.f.name == n.data.toList) = none ∧ ∀ w2 : World, w2.ownsMap Tryz.prog 9 ptrElem m L.length (ents L) → (Instr.lookup 83 (.map (some m)) (.string n) false).run Tryz.prog w2 = .ok (.pointer none) w2) ∨
    ∃ x, s.get n.data.toList = some x.f ∧ L.find? (fun x => x.f.name == n.data.toList) = some x ∧ ∀ w2 : World, w2.ownsMap Tryz.prog 9 ptrElem m L.length (ents L) → (Instr.lookup 83 (.map (some m)) (.string n) false).run Tryz.prog w2 = .ok (.pointer (some ⟨x.blk, 0, none⟩)) w2 := by
  have hkey := WideMaps.keyOf_string_mk (P := Tryz.prog) (k := 9) Tryz.underlying9 hn
  have hget : s.get n.data.toList = (L.find? (fun x => x.f.name == n.data.toList)).map (·.f) := by
    unfold St.get; rw [← h.fs, List.find?_map]; rfl
  cases hf : L.find? (fun x => x.f.name == n.data.toList) with
  | none =>
    refine .inl ⟨by rw [hget, hf]; rfl, rfl, fun w2 h2 => ?_⟩
    obtain ⟨v, ps, hrun, hv⟩ := h2.lookup lawS Tryz.underlying83 (zeroP w2) ptr_nil hkey
    rw [at_none hf] at hv
    rw [hrun, ptr_none hv]
  | some x =>
    refine .inr ⟨x, by rw [hget, hf]; rfl, rfl, fun w2 h2 => ?_⟩
    obtain ⟨v, ps, hrun, hv⟩ := h2.lookup lawS Tryz.underlying83 (zeroP w2) ptr_nil hkey
    rw [at_some hf] at hv
    rw [hrun, ptr_some hv]
end Go.Proofs.YtignfbdgpgidpaaGreatDoor
/- Contracts of made, call, letter and Right: by walks of their texts. -/
namespace Go.Proofs.YtignfbdgpgidpaaGreatDoor
open Go.RowKit FsPlain
set_option linter.unusedVariables false
set_option linter.unusedSimpArgs false
set_option maxRecDepth 20000
theorem made_c (p m : Nat) (s : St) (w : World) (h : w.heap[p]? = some (.cells (dcells s m) 85 (0, 0))) :
    Calls Tryz.prog 42 #[.pointer (some ⟨p, 0, none⟩)] w fun e w' => e = .returned (.bool true) ∧ w = w' := by
  have c1 : w.cell? ⟨p, 1, none⟩ = some (.map (some m)) := by rw [cells_at h]; rfl
  have nm := run_neq_map_nil (P := Tryz.prog) w 83 _ _ (some m) Tryz.underlying83
  clear h
  go_enter Tryz.func42, Tryz.ntmps42
  go_wp2_with fail
  go_ret
  exact ⟨rfl, rfl⟩
def Called (p m : Nat) (s : St) (w w' : World) : Prop := w'.heap[p]? = some (.cells (dcells s.call m) 85 (0, 0)) ∧ Only (fun i => i = p) w w'
theorem call_no (p m : Nat) (s : St) (w : World) :
    Calls Tryz.prog 50 #[.pointer (some ⟨p, 0, none⟩), .bool false] w fun e w' => e = .returned (.int .i64 1) ∧ w = w' := by
  go_enter Tryz.func50, Tryz.ntmps50
  go_wp2_with fail
  go_ret
  exact ⟨rfl, rfl⟩
theorem called_of {p m : Nat} {s : St} {w : World} (h : w.heap[p]? = some (.cells (dcells s m) 85 (0, 0))) {c a : Int} {d : Bool} (hc : c = s.calls + 1) (ha : a = max (s.ahead - 1) (-1)) (hd : d = (s.down || decide (s.ahead = 0))) :
    Called p m s w (((w.setCell ⟨p, 2, none⟩ (.int .i64 c)).setCell ⟨p, 4, none⟩ (.bool d)).setCell ⟨p, 3, none⟩ (.int .i64 a)) := by
  subst hc ha hd
  refine ⟨?_, ?_⟩
  · rw [cells_set (cells_set (cells_set h 2 _) 4 _) 3 _]; rfl
  · exact ((Only.cell1 _ _ _ _).trans (Only.cell1 _ _ _ _)).trans (Only.cell1 _ _ _ _)
theorem called_of2 {p m : Nat} {s : St} {w : World} (h : w.heap[p]? = some (.cells (dcells s m) 85 (0, 0))) {c a : Int} (hc : c = s.calls + 1) (ha : a = max (s.ahead - 1) (-1)) (hd : s.ahead ≠ 0) :
    Called p m s w ((w.setCell ⟨p, 2, none⟩ (.int .i64 c)).setCell ⟨p, 3, none⟩ (.int .i64 a)) := by
  subst hc ha
  refine ⟨?_, ?_⟩
  · rw [cells_set (cells_set h 2 _) 3 _]
    unfold dcells St.call
    simp [hd]
  · exact (Only.cell1 _ _ _ _).trans (Only.cell1 _ _ _ _)
set_option maxRecDepth 20000 in
set_option maxHeartbeats 1000000 in
theorem call_yes (p m : Nat) (s : St) (w : World) (h : w.heap[p]? = some (.cells (dcells s m) 85 (0, 0))) (h0 : 0 ≤ s.calls) (h1 : s.calls ≤ 1000000000000) (a0 : -1 ≤ s.ahead) (a1 : s.ahead ≤ 9223372036854775807) :
    Calls Tryz.prog 50 #[.pointer (some ⟨p, 0, none⟩), .bool true] w fun e w' => e = .returned (.int .i64 s.call.code) ∧ Called p m s w w' := by
  have c1 : w.cell? ⟨p, 1, none⟩ = some (.map (some m)) := by rw [cells_at h]; rfl
  have c2 : w.cell? ⟨p, 2, none⟩ = some (.int .i64 s.calls) := by rw [cells_at h]; rfl
  have c3 : w.cell? ⟨p, 3, none⟩ = some (.int .i64 s.ahead) := by rw [cells_at h]; rfl
  have c4 : w.cell? ⟨p, 4, none⟩ = some (.bool s.down) := by rw [cells_at h]; rfl
  have f2 := cells_free h 2
  have f3 := cells_free h 3
  have f4 := cells_free h 4
  have C0 := made_c p m s w h
  have H := Lib.hid h
  have K1 := fun c d a => called_of (c := c) (d := d) (a := a) h
  have K2 := fun c a => called_of2 (c := c) (a := a) h
  have HK1 := Lib.hid K1
  have HK2 := Lib.hid K2
  clear h K1 K2
  by_cases ha : s.ahead = 0
  · have t1 : (s.ahead == 0) = true := by simp [ha]
    go_enter Tryz.func50, Tryz.ntmps50
    go_wp2_with fail
    refine (C0).mono ?_; rintro e w2 ⟨rfl, rfl⟩
    go_wp2_with fail
    go_ret
    exact ⟨ret_i (by simp [St.code, St.call, ha]), HK1.out _ _ _ rfl (by omega) (by simp [ha])⟩
  · have t1 : (s.ahead == 0) = false := by simp [ha]
    cases hd : s.down
    · go_enter Tryz.func50, Tryz.ntmps50
      go_wp2_with fail
      refine (C0).mono ?_; rintro e w2 ⟨rfl, rfl⟩
      go_wp2_with fail
      all_goals
        go_ret
        exact ⟨ret_i (by simp [St.code, St.call, ha, hd]), HK2.out _ _ rfl (by omega) ha⟩
    · go_enter Tryz.func50, Tryz.ntmps50
      go_wp2_with fail
      refine (C0).mono ?_; rintro e w2 ⟨rfl, rfl⟩
      go_wp2_with fail
      all_goals
        go_ret
        exact ⟨ret_i (by simp [St.code, St.call, ha, hd]), HK2.out _ _ rfl (by omega) ha⟩
end Go.Proofs.YtignfbdgpgidpaaGreatDoor

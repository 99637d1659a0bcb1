/- In one text: RdInv, BudA, FsHeap, FsCall, FsRight, FsFind. -/
import Derived.Test.YtpmglnghnelenaaGreatP09
import Derived.Test.YtpmglnghnelenaaGreatP08
import Derived.Test.YtpmglnghnelenaaGreatP00
import Derived.OneCell
import Derived.Maps.RangeWalk
import Derived.Maps.Ext
import Derived.Lib.UnsafeStr
import Derived.Sort.KeysCollected
import Derived.WalkSpells
import Derived.Deep.QuietTactic
import Derived.BigQuiet
/- Plain facts: what is told of a reader, open or shut. -/
namespace Go.Proofs.YtpmglnghnelenaaGreat
open Go.RowKit FsPlain CrcPlain OctPlain FramePlain RecPlain
set_option linter.unusedVariables false
set_option linter.unusedSimpArgs false
set_option maxRecDepth 20000
namespace RdPlain
/-- What is told of an open one that nobody shut, and of one that is shut. -/
structure N3.inv (m : N3) : Prop where
  o : m.x.opn = true → m.x.bad = false ∧ m.x.whole = false
  c : m.x.opn = false → m.x.whole = !m.x.bad
  e0 : m.x.whole = false → m.x.ec = 0 ∧ m.x.em = 0
  e1 : m.x.whole = true → m.x.ec = (m.x.told : Nat) ∧ m.x.em = (sumN m.x.all : Nat)
theorem inv_new (s : St) (b : Bu) (nm : ByteArray) (size : Int) (left : Nat) : N3.inv ⟨s, b, newRs nm size left⟩ := ⟨fun _ => ⟨rfl, rfl⟩, (fun h => by cases h), fun _ => ⟨rfl, rfl⟩, (fun h => by cases h)⟩
theorem inv_wrong {m : N3} (h : m.inv) (ho : m.x.opn = true) : (wrongN m).inv := by
  obtain ⟨h1, h2⟩ := h.o ho
  unfold wrongN shutN
  rw [if_pos (show m.isBad.x.opn = true from ho)]
  exact ⟨(fun e => by cases e), fun _ => h2, fun e => h.e0 e, fun e => h.e1 e⟩
theorem inv_closeN {m : N3} (h : m.inv) : (closeN m).inv := by
  unfold closeN
  split
  · rename_i ho; exact inv_wrong h ho
  · exact h
theorem inv_nextN {m : N3} (h : m.inv) (hok : m.ok) : (nextN m).1.inv := by
  unfold nextN
  split
  · exact h
  · rename_i ho
    have ho : m.x.opn = true := by simpa using ho
    obtain ⟨h1, h2⟩ := h.o ho
    have hA : m.asked.inv := ⟨h.o, h.c, h.e0, h.e1⟩
    split
    · rename_i hq
      have hcnt := hok.cnt
      rw [hq] at hcnt
      simp only [List.length_nil, Nat.add_zero] at hcnt
      unfold fillN
      split
      · exact inv_wrong hA ho
      · split
        · rename_i hE
          obtain ⟨_, _, _, h4, h5⟩ := hE
          unfold shutN
          rw [if_pos (show (m.asked.ended (bytesN m)).x.opn = true from ho)]
          refine ⟨(fun e => by cases e), fun _ => ?_, (fun e => by cases e), fun _ => ⟨?_, h5⟩⟩
          · show true = !m.x.bad; rw [h1]; rfl
          · show eC (bytesN m) = (m.x.told : Nat); rw [h4, hcnt]
        · split
          · exact inv_wrong hA ho
          · exact ⟨fun _ => ⟨h1, h2⟩, (fun e => by rw [show (popN (m.asked.filled (bytesN m))).1.x.opn = m.x.opn from rfl, ho] at e; cases e), fun e => h.e0 h2, (fun e => by rw [show (popN (m.asked.filled (bytesN m))).1.x.whole = m.x.whole from rfl, h2] at e; cases e)⟩
    · exact ⟨fun _ => ⟨h1, h2⟩, (fun e => by rw [show (popN m).1.x.opn = m.x.opn from rfl, ho] at e; cases e), fun e => h.e0 h2, (fun e => by rw [show (popN m).1.x.whole = m.x.whole from rfl, h2] at e; cases e)⟩
end RdPlain
end Go.Proofs.YtpmglnghnelenaaGreat
/- A budget as a part of a world: the program's, and the document's. -/
namespace Go.Proofs.YtpmglnghnelenaaGreat
open Go.RowKit
set_option linter.unusedVariables false
set_option linter.unusedSimpArgs false
set_option maxRecDepth 20000
def BuA (p : Nat) (b : Bu) : Asn := fun w B => b.ok ∧ Blk p (bcells b) 57 w B
theorem fr_bu (p : Nat) (b : Bu) : Fr (BuA p b) := ⟨fun h o d => ⟨h.1, (fr_blk _ _ _).fr h.2 o d⟩, fun h => (fr_blk _ _ _).lo h.2⟩
theorem BuA.at {p : Nat} {b : Bu} {w : World} {B : Nat → Prop} (h : BuA p b w B) : BAt w p b := ⟨h.1, h.2.1⟩
theorem bu_next {p : Nat} {b b' : Bu} {w w' : World} {B : Nat → Prop} (h : BuA p b w B) (k : BAt w' p b') (g : Only (fun i => i = p) w w') : ∃ B', BuA p b' w' B' ∧ Nx B w B' w' :=
  ⟨B, ⟨k.1, k.2, h.2.2⟩, Nx.of g fun b hb => (h.2.2 b).2 hb⟩
theorem bu_take (p : Nat) (b : Bu) (n : Int) (w : World) (B : Nat → Prop) (h : BuA p b w B) :
    Calls Tryz.prog 51 #[.pointer (some ⟨p, 0, none⟩), .int .i64 n] w (Does w B (BuA p (b.take n)) (.int .i64 (b.takeE n))) :=
  (btake_c p b n w h.at).mono fun e w' ⟨he, k, g⟩ => ⟨he, bu_next h k g⟩
theorem bu_give (p : Nat) (b : Bu) (n : Int) (w : World) (B : Nat → Prop) (h : BuA p b w B) :
    Calls Tryz.prog 54 #[.pointer (some ⟨p, 0, none⟩), .int .i64 n] w (Does w B (BuA p (b.give n)) (.tuple #[])) :=
  (bgive_c p b n w h.at).mono fun e w' ⟨he, k, g⟩ => ⟨he, bu_next h k g⟩
theorem bu_new (m : Int) (w : World) (h : 0 ≤ m) (h2 : m ≤ 9223372036854775807) :
    Calls Tryz.prog 7 #[.int .i64 m] w fun e w' => e = .returned (.pointer (some ⟨w.heap.size, 0, none⟩)) ∧ BuA w.heap.size ⟨m, 0, 0⟩ w' (fun x => x = w.heap.size) ∧ Gr w w' :=
  (bnew_c m w h h2).mono fun e w' ⟨he, k, g⟩ => ⟨he, ⟨k.1, k.2, fun _ => Iff.rfl⟩, g⟩
/-! The document's. -/
def rbcells (b : Bu) : Array Value := #[.int .i64 b.m, .int .i64 b.now, .int .i64 b.high]
end Go.Proofs.YtpmglnghnelenaaGreat
/- A disk in memory: its block, the map of its files, each file's block and row; what a call may write, and what stays. -/
namespace Go.Proofs.YtpmglnghnelenaaGreat
open Go.RowKit FsPlain Go.Maps
set_option linter.unusedVariables false
set_option linter.unusedSimpArgs false
set_option maxRecDepth 20000

/-- A pointer to a file reads as the number of its block; nil as less than nothing. -/
def ptrElem : Value → Option (DataW Unit × List MemPlace)
  | .pointer (some ⟨b, 0, none⟩) => some (.lit (.int .i64 (b : Int)), [])
  | .pointer none => some (.lit (.int .i64 (-1)), [])
  | _ => none
theorem ptr_mk (b : Nat) : ptrElem (.pointer (some ⟨b, 0, none⟩)) = some (.lit (.int .i64 (b : Int)), []) := rfl
theorem ptr_nil : ptrElem (.pointer none) = some (.lit (.int .i64 (-1)), []) := rfl
theorem ptr_inv {v : Value} {y : DataW Unit × List MemPlace} (h : ptrElem v = some y) : (∃ b : Nat, v = .pointer (some ⟨b, 0, none⟩) ∧ y = (.lit (.int .i64 (b : Int)), [])) ∨ (v = .pointer none ∧ y = (.lit (.int .i64 (-1)), [])) := by
  unfold ptrElem at h
  split at h
  · cases h; exact .inl ⟨_, rfl, rfl⟩
  · cases h; exact .inr ⟨rfl, rfl⟩
  · cases h
theorem ptr_some {v : Value} {b : Nat} {ps : List MemPlace} (h : ptrElem v = some (.lit (.int .i64 (b : Int)), ps)) : v = .pointer (some ⟨b, 0, none⟩) := by
  rcases ptr_inv h with ⟨c, rfl, e⟩ | ⟨rfl, e⟩
  · simp at e; have e2 : b = c := by omega
    rw [e2]
  · simp at e
theorem ptr_none {v : Value} {ps : List MemPlace} (h : ptrElem v = some (.lit (.int .i64 (-1)), ps)) : v = .pointer none := by
  rcases ptr_inv h with ⟨c, rfl, e⟩ | ⟨rfl, e⟩
  · simp at e
  · rfl

theorem lawS : Keyed Tryz.prog 9 := string_keyed Tryz.underlying9
theorem zeroP (w : World) : (zeroValue 81).run Tryz.prog w = .ok (.pointer none) w := by kernel_rfl
theorem infoB : (Tryz.prog.info? 5).map (fun i => (i.zero, i.size, i.bytes)) = some (some (.int .u8 0), 1, 1) := by kernel_rfl

/-- A file with its place: its block's number, its slice. -/
structure Pl where
  f : F
  blk : Nat
  v : Value
def plBlocks (x : Pl) : List Nat := x.blk :: x.v.ownBlock.toList
def ents (L : List Pl) : DataW Unit := .map (L.map fun x => (.string x.f.name, .lit (.int .i64 (x.blk : Int))))
def FileAt (w : World) (x : Pl) : Prop :=
  w.heap[x.blk]? = some (.cells #[x.v, .int .i64 (x.f.kept : Int)] 84 (0, 0)) ∧ w.ownsRow 0 5 1 x.v x.f.data.length (Lib.byteCells x.f.data)
def dcells (s : St) (m : Nat) : Array Value := #[.int .i64 s.room, .map (some m), .int .i64 s.calls, .int .i64 s.ahead, .bool s.down]
def blocks (L : List Pl) : List Nat := L.flatMap plBlocks

theorem mem_blocks {L : List Pl} {x : Pl} {b : Nat} (hx : x ∈ L) (hb : b ∈ plBlocks x) : b ∈ blocks L := List.mem_flatMap.2 ⟨x, hx, hb⟩
structure DiskAt (w : World) (p : Nat) (s : St) (B : Nat → Prop) (m : Nat) (L : List Pl) : Prop where
  heap : w.heap[p]? = some (.cells (dcells s m) 80 (0, 0))
  own : w.ownsMap Tryz.prog 9 ptrElem m L.length (ents L)
  fs : L.map (·.f) = s.fs
  file : ∀ x ∈ L, FileAt w x
  apart : (p :: m :: blocks L).Nodup
  mine : ∀ b ∈ p :: m :: blocks L, B b
  low : ∀ b, B b → b < w.heap.size

/-- A disk: s, in blocks of B. -/
def Disk (w : World) (p : Nat) (s : St) (B : Nat → Prop) : Prop := s.ok ∧ ∃ m L, DiskAt w p s B m L

theorem row_shape {w : World} {v : Value} {n : Nat} {xs : List Value} (h : w.ownsRow 0 5 1 v n xs) : ∃ a c, v = .slice a n c ∧ (a = none → n = 0) ∧ ∀ b, a = some b → b.off = 0 ∧ b.spot = none ∧ b.block < w.heap.size := by
  rcases h.2 with ⟨rfl, rfl⟩ | ⟨g, cap, cur, rfl, _, hg, _⟩
  · exact ⟨none, 0, rfl, fun _ => rfl, fun b hb => by cases hb⟩
  · exact ⟨some ⟨g, 0, none⟩, cap, rfl, (fun h => by cases h), fun b hb => by cases hb; exact ⟨rfl, rfl, (Array.getElem?_eq_some_iff.1 hg).1⟩⟩

theorem FileAt.only {w w' : World} {x : Pl} {C : Nat → Prop} (h : FileAt w x) (g : Only C w w') (hC : ∀ b ∈ plBlocks x, ¬ C b) : FileAt w' x := by
  obtain ⟨h1, h2⟩ := h
  have hb1 : x.blk ∈ plBlocks x := by simp [plBlocks]
  refine ⟨by rw [g.block _ (lt_of_block h1) (hC _ hb1)]; exact h1, h2.1, ?_⟩
  rcases h2.2 with h3 | ⟨r, cap, cur, hv, h4, h5, h6⟩
  · exact .inl h3
  · refine .inr ⟨r, cap, cur, hv, h4, ?_, h6⟩
    rw [g.block _ (lt_of_block h5) (hC _ (by simp [plBlocks, hv, Value.ownBlock]))]; exact h5

theorem own_only {w w' : World} {b n : Nat} {D : DataW Unit} {C : Nat → Prop} (h : w.ownsMap Tryz.prog 9 ptrElem b n D) (g : Only C w w') (hC : ¬ C b) : w'.ownsMap Tryz.prog 9 ptrElem b n D := by
  have hlt := h.lt
  obtain ⟨es, clock, hb, r⟩ := h
  exact ⟨es, clock, by rw [g.block b hlt hC]; exact hb, r⟩

theorem tight {w : World} {b n : Nat} {D : DataW Unit} (h : w.ownsMap Tryz.prog 9 ptrElem b n D) : w.ownsMap Tryz.prog 9 ptrElem b (Maps.size D) D := by
  obtain ⟨es, clock, hb, F, hs, rfl⟩ := h
  exact ⟨es, clock, hb, F, by simp [Maps.size, length_sorted], rfl⟩

theorem ents_size (L : List Pl) : Maps.size (ents L) = L.length := by simp [ents, Maps.size]

theorem DiskAt.only {w w' : World} {p m : Nat} {s : St} {B C : Nat → Prop} {L : List Pl} (h : DiskAt w p s B m L) (g : Only C w w') (hC : ∀ b, B b → ¬ C b) : DiskAt w' p s B m L :=
  ⟨by rw [g.block p (lt_of_block h.heap) (hC _ (h.mine p (by simp)))]; exact h.heap, own_only h.own g (hC _ (h.mine m (by simp))), h.fs,
    fun x hx => (h.file x hx).only g fun b hb => hC b (h.mine b (List.mem_cons_of_mem _ (List.mem_cons_of_mem _ (mem_blocks hx hb)))), h.apart, h.mine, fun b hb => Nat.lt_of_lt_of_le (h.low b hb) g.size⟩
theorem Disk.only {w w' : World} {p : Nat} {s : St} {B C : Nat → Prop} (h : Disk w p s B) (g : Only C w w') (hC : ∀ b, B b → ¬ C b) : Disk w' p s B := by
  obtain ⟨h0, m, L, h⟩ := h
  exact ⟨h0, m, L, h.only g hC⟩

theorem Disk.low {w : World} {p : Nat} {s : St} {B : Nat → Prop} (h : Disk w p s B) (b : Nat) (hb : B b) : b < w.heap.size := by obtain ⟨_, m, L, d⟩ := h; exact d.low b hb
/-- The disk's own block is written. -/
theorem DiskAt.own_block {w w' : World} {p m : Nat} {s s' : St} {B : Nat → Prop} {L : List Pl} (h : DiskAt w p s B m L) (g : Only (fun i => i = p) w w') (hp : w'.heap[p]? = some (.cells (dcells s' m) 80 (0, 0))) (hf : s'.fs = s.fs) : DiskAt w' p s' B m L := by
  have ha := h.apart
  simp only [List.nodup_cons, List.mem_cons, not_or] at ha
  refine ⟨hp, own_only h.own g (fun e => ha.1.1 e.symm), by rw [hf]; exact h.fs, fun x hx => (h.file x hx).only g fun b hb e => ?_, h.apart, h.mine, fun b hb => Nat.lt_of_lt_of_le (h.low b hb) g.size⟩
  subst e
  exact ha.1.2 (mem_blocks hx hb)

theorem names_apart {w : World} {b n : Nat} {L : List Pl} (h : w.ownsMap Tryz.prog 9 ptrElem b n (ents L)) : L.Pairwise (fun x y => x.f.name ≠ y.f.name) := by
  obtain ⟨es, he, hp, _⟩ := h.entries lawS
  unfold ents at he
  simp only [DataW.map.injEq] at he
  subst he
  rw [List.pairwise_map] at hp
  exact hp.imp fun h e => h (by rw [e])

theorem at_some {L : List Pl} {x : Pl} {n : List UInt8} (h : L.find? (fun x => x.f.name == n) = some x) (z : DataW Unit) : (ents L).atKey (.string n) z = .lit (.int .i64 (x.blk : Int)) := by
  have e : ((L.map fun x : Pl => ((.string x.f.name : Lit), (DataW.lit (.int .i64 (x.blk : Int)) : DataW Unit))).find? fun p => p.1.sameKey (.string n)) = some (.string x.f.name, .lit (.int .i64 (x.blk : Int))) := by
    rw [List.find?_map]
    have : ((fun p : Lit × DataW Unit => p.1.sameKey (.string n)) ∘ fun x : Pl => ((.string x.f.name : Lit), (DataW.lit (.int .i64 (x.blk : Int)) : DataW Unit))) = fun x : Pl => x.f.name == n := by funext y; rfl
    rw [this, h]; rfl
  unfold ents DataW.atKey
  simp only [e]
theorem at_none {L : List Pl} {n : List UInt8} (h : L.find? (fun x => x.f.name == n) = none) (z : DataW Unit) : (ents L).atKey (.string n) z = z := by
  have e : ((L.map fun x : Pl => ((.string x.f.name : Lit), (DataW.lit (.int .i64 (x.blk : Int)) : DataW Unit))).find? fun p => p.1.sameKey (.string n)) = none := by
    rw [List.find?_map]
    have : ((fun p : Lit × DataW Unit => p.1.sameKey (.string n)) ∘ fun x : Pl => ((.string x.f.name : Lit), (DataW.lit (.int .i64 (x.blk : Int)) : DataW Unit))) = fun x : Pl => x.f.name == n := by funext y; rfl
    rw [this, h]; rfl
  unfold ents DataW.atKey
  simp only [e]
theorem has_is (L : List Pl) (n : List UInt8) : Maps.has (ents L) (.string n) = L.any (fun x => x.f.name == n) := by
  unfold ents
  rw [has_eq, List.any_map]; rfl

/-- What the disk's map gives at a name. -/
theorem DiskAt.look {w : World} {p m : Nat} {s : St} {B : Nat → Prop} {L : List Pl} (h : DiskAt w p s B m L) (n : ByteArray) (hn : n.size ≤ maxLen) :
    (s.get n.data.toList = none ∧ L.find? (fun x => x.f.name == n.data.toList) = none ∧ ∀ w2 : World, w2.ownsMap Tryz.prog 9 ptrElem m L.length (ents L) → (Instr.lookup 78 (.map (some m)) (.string n) false).run Tryz.prog w2 = .ok (.pointer none) w2) ∨
    ∃ x, s.get n.data.toList = some x.f ∧ L.find? (fun x => x.f.name == n.data.toList) = some x ∧ ∀ w2 : World, w2.ownsMap Tryz.prog 9 ptrElem m L.length (ents L) → (Instr.lookup 78 (.map (some m)) (.string n) false).run Tryz.prog w2 = .ok (.pointer (some ⟨x.blk, 0, none⟩)) w2 := by
  have hkey := WideMaps.keyOf_string_mk (P := Tryz.prog) (k := 9) Tryz.underlying9 hn
  have hget : s.get n.data.toList = (L.find? (fun x => x.f.name == n.data.toList)).map (·.f) := by
    unfold St.get; rw [← h.fs, List.find?_map]; rfl
  cases hf : L.find? (fun x => x.f.name == n.data.toList) with
  | none =>
    refine .inl ⟨by rw [hget, hf]; rfl, rfl, fun w2 h2 => ?_⟩
    obtain ⟨v, ps, hrun, hv⟩ := h2.lookup lawS Tryz.underlying78 (zeroP w2) ptr_nil hkey
    rw [at_none hf] at hv
    rw [hrun, ptr_none hv]
  | some x =>
    refine .inr ⟨x, by rw [hget, hf]; rfl, rfl, fun w2 h2 => ?_⟩
    obtain ⟨v, ps, hrun, hv⟩ := h2.lookup lawS Tryz.underlying78 (zeroP w2) ptr_nil hkey
    rw [at_some hf] at hv
    rw [hrun, ptr_some hv]
end Go.Proofs.YtpmglnghnelenaaGreat
/- Contracts of made, call, letter and Right: by walks of their texts. -/
namespace Go.Proofs.YtpmglnghnelenaaGreat
open Go.RowKit FsPlain
set_option linter.unusedVariables false
set_option linter.unusedSimpArgs false
set_option maxRecDepth 20000

theorem made_c (p m : Nat) (s : St) (w : World) (h : w.heap[p]? = some (.cells (dcells s m) 80 (0, 0))) :
    Calls Tryz.prog 41 #[.pointer (some ⟨p, 0, none⟩)] w fun e w' => e = .returned (.bool true) ∧ w = w' := by
  have c1 : w.cell? ⟨p, 1, none⟩ = some (.map (some m)) := by rw [cells_at h]; rfl
  have nm := run_neq_map_nil (P := Tryz.prog) w 78 _ _ (some m) Tryz.underlying78
  clear h
  go_enter Tryz.func41, Tryz.ntmps41
  go_wp2_with fail
  go_ret
  exact ⟨rfl, rfl⟩

/-- The disk's block behind a call. -/
def Called (p m : Nat) (s : St) (w w' : World) : Prop := w'.heap[p]? = some (.cells (dcells s.call m) 80 (0, 0)) ∧ Only (fun i => i = p) w w'

theorem call_no (p m : Nat) (s : St) (w : World) :
    Calls Tryz.prog 35 #[.pointer (some ⟨p, 0, none⟩), .bool false] w fun e w' => e = .returned (.int .i64 1) ∧ w = w' := by
  go_enter Tryz.func35, Tryz.ntmps35
  go_wp2_with fail
  go_ret
  exact ⟨rfl, rfl⟩

theorem called_of {p m : Nat} {s : St} {w : World} (h : w.heap[p]? = some (.cells (dcells s m) 80 (0, 0))) {c a : Int} {d : Bool} (hc : c = s.calls + 1) (ha : a = max (s.ahead - 1) (-1)) (hd : d = (s.down || decide (s.ahead = 0))) :
    Called p m s w (((w.setCell ⟨p, 2, none⟩ (.int .i64 c)).setCell ⟨p, 4, none⟩ (.bool d)).setCell ⟨p, 3, none⟩ (.int .i64 a)) := by
  subst hc ha hd
  refine ⟨?_, ?_⟩
  · rw [cells_set (cells_set (cells_set h 2 _) 4 _) 3 _]; rfl
  · exact ((Only.cell1 _ _ _ _).trans (Only.cell1 _ _ _ _)).trans (Only.cell1 _ _ _ _)
theorem called_of2 {p m : Nat} {s : St} {w : World} (h : w.heap[p]? = some (.cells (dcells s m) 80 (0, 0))) {c a : Int} (hc : c = s.calls + 1) (ha : a = max (s.ahead - 1) (-1)) (hd : s.ahead ≠ 0) :
    Called p m s w ((w.setCell ⟨p, 2, none⟩ (.int .i64 c)).setCell ⟨p, 3, none⟩ (.int .i64 a)) := by
  subst hc ha
  refine ⟨?_, ?_⟩
  · rw [cells_set (cells_set h 2 _) 3 _]
    unfold dcells St.call
    simp [hd]
  · exact (Only.cell1 _ _ _ _).trans (Only.cell1 _ _ _ _)

set_option maxRecDepth 20000 in
set_option maxHeartbeats 1000000 in
theorem call_yes (p m : Nat) (s : St) (w : World) (h : w.heap[p]? = some (.cells (dcells s m) 80 (0, 0))) (h0 : 0 ≤ s.calls) (h1 : s.calls ≤ 1000000000000) (a0 : -1 ≤ s.ahead) (a1 : s.ahead ≤ 9223372036854775807) :
    Calls Tryz.prog 35 #[.pointer (some ⟨p, 0, none⟩), .bool true] w fun e w' => e = .returned (.int .i64 s.call.code) ∧ Called p m s w w' := by
  have c1 : w.cell? ⟨p, 1, none⟩ = some (.map (some m)) := by rw [cells_at h]; rfl
  have c2 : w.cell? ⟨p, 2, none⟩ = some (.int .i64 s.calls) := by rw [cells_at h]; rfl
  have c3 : w.cell? ⟨p, 3, none⟩ = some (.int .i64 s.ahead) := by rw [cells_at h]; rfl
  have c4 : w.cell? ⟨p, 4, none⟩ = some (.bool s.down) := by rw [cells_at h]; rfl
  have f2 := cells_free h 2
  have f3 := cells_free h 3
  have f4 := cells_free h 4
  have C0 := made_c p m s w h
  have H := Lib.hid h
  have K1 := fun c d a => called_of (c := c) (d := d) (a := a) h
  have K2 := fun c a => called_of2 (c := c) (a := a) h
  have HK1 := Lib.hid K1
  have HK2 := Lib.hid K2
  clear h K1 K2
  by_cases ha : s.ahead = 0
  · have t1 : (s.ahead == 0) = true := by simp [ha]
    go_enter Tryz.func35, Tryz.ntmps35
    go_wp2_with fail
    refine (C0).mono ?_; rintro e w2 ⟨rfl, rfl⟩
    go_wp2_with fail
    go_ret
    exact ⟨ret_i (by simp [St.code, St.call, ha]), HK1.out _ _ _ rfl (by omega) (by simp [ha])⟩
  · have t1 : (s.ahead == 0) = false := by simp [ha]
    cases hd : s.down
    · go_enter Tryz.func35, Tryz.ntmps35
      go_wp2_with fail
      refine (C0).mono ?_; rintro e w2 ⟨rfl, rfl⟩
      go_wp2_with fail
      all_goals
        go_ret
        exact ⟨ret_i (by simp [St.code, St.call, ha, hd]), HK2.out _ _ rfl (by omega) ha⟩
    · go_enter Tryz.func35, Tryz.ntmps35
      go_wp2_with fail
      refine (C0).mono ?_; rintro e w2 ⟨rfl, rfl⟩
      go_wp2_with fail
      all_goals
        go_ret
        exact ⟨ret_i (by simp [St.code, St.call, ha, hd]), HK2.out _ _ rfl (by omega) ha⟩

/-- A letter of a name. -/
theorem letter_c (c : UInt8) (w : World) : Calls Tryz.prog 73 #[.int .u8 c.toNat] w fun e w' => e = .returned (.bool (letterB c)) ∧ w = w' := by
  have hb : c.toNat < 256 := c.toNat_lt
  obtain ⟨n, hn⟩ : ∃ n, n = letterB c := ⟨_, rfl⟩
  have hn' := hn
  unfold letterB at hn'
  rw [← hn]
  have HN := Lib.hid hn
  have HN' := Lib.hid hn'
  clear hn hn'
  by_cases h1 : 97 ≤ (c.toNat : Int) <;> by_cases h2 : (c.toNat : Int) ≤ 122 <;> by_cases h3 : 48 ≤ (c.toNat : Int) <;> by_cases h4 : (c.toNat : Int) ≤ 57 <;> by_cases h5 : (c.toNat : Int) = 46
  all_goals first
    | (exfalso; omega)
    | (have t5 : ((c.toNat : Int) == 46) = true := by simp [h5]
       go_enter Tryz.func73, Tryz.ntmps73
       go_wp2_with fail
       go_ret
       exact ⟨by rw [HN'.out]; simp [*], rfl⟩)
    | (have t5 : ((c.toNat : Int) == 46) = false := by simp [h5]
       go_enter Tryz.func73, Tryz.ntmps73
       go_wp2_with fail
       go_ret
       exact ⟨by rw [HN'.out]; simp [*], rfl⟩)
end Go.Proofs.YtpmglnghnelenaaGreat
/- The contract of Right: is it a name? By a walk of its loop. -/
namespace Go.Proofs.YtpmglnghnelenaaGreat
open Go.RowKit FsPlain
set_option linter.unusedVariables false
set_option linter.unusedSimpArgs false
set_option maxRecDepth 20000

theorem ret_fb {a b : Bool} (h : a = b) : Ending.returned (.bool a) = .returned (.bool b) := by rw [h]
theorem all_take (l : List UInt8) (k : Nat) (h : k < l.length) : (l.take (k + 1)).all letterB = ((l.take k).all letterB && letterB l[k]) := by
  rw [List.take_succ_eq_append_getElem h, List.all_append]; simp
theorem all_no (l : List UInt8) (k : Nat) (h : k < l.length) (hl : letterB l[k] = false) : l.all letterB = false := by
  rw [List.all_eq_false]; exact ⟨l[k], List.getElem_mem h, by simp [hl]⟩
theorem right_len (l : List UInt8) (h : l.all letterB = true) : rightB l = decide (1 ≤ l.length ∧ l.length ≤ 24) := by unfold rightB; rw [h]; rfl
theorem right_no (l : List UInt8) (h : l.all letterB = false) : rightB l = false := by unfold rightB; rw [h]; rfl

set_option maxRecDepth 20000 in
set_option maxHeartbeats 1000000 in
theorem right_c (s : ByteArray) (hs : s.size ≤ maxLen) (w : World) :
    Calls Tryz.prog 47 #[.string s] w fun e w' => e = .returned (.bool (rightB s.data.toList)) ∧ w = w' := by
  have hsz : s.data.toList.length = s.size := rfl
  unfold maxLen at hs
  obtain ⟨r, hr⟩ : ∃ r, r = rightB s.data.toList := ⟨_, rfl⟩
  rw [← hr]
  have HR := Lib.hid hr
  have HSZ := Lib.hid hsz
  clear hr hsz
  go_enter Tryz.func47, Tryz.ntmps47
  go_wp2_with fail
  go_loop [6] (fun i => ∃ k : Nat, k ≤ s.size ∧ i = .int .i64 k ∧ (s.data.toList.take k).all letterB = true) (fun i => s.size - (intOf i).toNat)
  case atStart => exact ⟨0, Nat.zero_le _, rfl, rfl⟩
  case round =>
    obtain ⟨k, hk, rfl, hall⟩ := hrel
    have HALL := Lib.hid hall
    clear hall
    by_cases hlt : k < s.size
    · have hlt' : k < s.data.toList.length := by rw [HSZ.out]; exact hlt
      have hstep := all_take _ k hlt'
      have hno := all_no _ k hlt'
      have hsame : s.data.toList[k] = s[k] := by simp; rfl
      rw [hsame] at hstep hno
      rw [HALL.out] at hstep
      have C := fun w => letter_c s[k] w
      cases hl : letterB s[k]
      · rw [hl] at C
        have hrf := right_no _ (hno hl)
        rw [← HR.out] at hrf
        have HL := Lib.hid hl
        clear hl hstep hno hsame
        subst hrf
        go_wp2_with fail
        refine (C _).mono ?_; rintro e w2 ⟨rfl, rfl⟩
        go_wp2_with fail
        go_ret
        exact ⟨rfl, rfl⟩
      · rw [hl] at C hstep
        have HST := Lib.hid hstep
        clear hl hstep hno hsame
        go_wp2_with fail
        refine (C _).mono ?_; rintro e w2 ⟨rfl, rfl⟩
        go_wp2_with fail
        go_round
        case rel => exact ⟨k + 1, by omega, by go_num, HST.out⟩
        case measure => simp [intOf]; omega
    · have hke : k = s.size := by omega
      have hr2 := right_len s.data.toList (by have := HALL.out; rw [hke, ← HSZ.out, List.take_length] at this; exact this)
      rw [← HR.out, HSZ.out] at hr2
      have HR2 := Lib.hid hr2
      clear hr2 hke
      by_cases h1 : 1 ≤ s.size <;> by_cases h2 : s.size ≤ 24
      all_goals
        go_wp2_with fail
        all_goals
          go_ret
          exact ⟨ret_fb (by rw [HR2.out]; first | (rw [decide_eq_decide]; omega) | (rw [eq_comm, decide_eq_false_iff_not]; omega) | (rw [eq_comm, decide_eq_true_iff]; omega)), rfl⟩
end Go.Proofs.YtpmglnghnelenaaGreat
/- The contract of find: a call that asks for a file. -/
namespace Go.Proofs.YtpmglnghnelenaaGreat
open Go.RowKit FsPlain
set_option linter.unusedVariables false
set_option linter.unusedSimpArgs false
set_option maxRecDepth 20000

theorem ret_pe {a b : Option Addr} {c d : Int} (h : a = b) (k : c = d) : Ending.returned (.tuple #[.pointer a, .int .i64 c]) = .returned (.tuple #[.pointer b, .int .i64 d]) := by rw [h, k]

/-- A disk with its layout, behind a noted call. -/
theorem DiskAt.called {w w' : World} {p m : Nat} {s : St} {B : Nat → Prop} {L : List Pl} (h : DiskAt w p s B m L) (k : Called p m s w w') : DiskAt w' p s.call B m L :=
  h.own_block k.2 k.1 rfl

theorem find_no (p m : Nat) (s : St) (B : Nat → Prop) (L : List Pl) (n : ByteArray) (may : Bool) (w : World) (hn : n.size ≤ maxLen) (hm : (may && rightB n.data.toList) = false) :
    Calls Tryz.prog 49 #[.pointer (some ⟨p, 0, none⟩), .string n, .bool may] w fun e w' => e = .returned (.tuple #[.pointer none, .int .i64 1]) ∧ w = w' := by
  have C1 := fun w => right_c n hn w
  have C2 := fun w => call_no p m s w
  cases may
  · clear hm
    go_enter Tryz.func49, Tryz.ntmps49
    go_wp2_with fail
    refine (C2 _).mono ?_; rintro e w2 ⟨rfl, rfl⟩
    go_wp2_with fail
    go_ret2
    exact ⟨rfl, rfl⟩
  · have hr : rightB n.data.toList = false := by simpa using hm
    rw [hr] at C1
    clear hm hr
    go_enter Tryz.func49, Tryz.ntmps49
    go_wp2_with fail
    refine (C1 _).mono ?_; rintro e w2 ⟨rfl, rfl⟩
    go_wp2_with fail
    refine (C2 _).mono ?_; rintro e w2 ⟨rfl, rfl⟩
    go_wp2_with fail
    go_ret2
    exact ⟨rfl, rfl⟩

def Found (p m : Nat) (s : St) (B : Nat → Prop) (L : List Pl) (n : List UInt8) (w : World) (e : Ending) (w' : World) : Prop :=
  DiskAt w' p s.call B m L ∧ Only (fun i => i = p) w w' ∧
  ((s.call.down = true ∧ e = .returned (.tuple #[.pointer none, .int .i64 5])) ∨
   (s.call.down = false ∧ s.get n = none ∧ e = .returned (.tuple #[.pointer none, .int .i64 2])) ∨
   (s.call.down = false ∧ ∃ x, s.get n = some x.f ∧ L.find? (fun x => x.f.name == n) = some x ∧ e = .returned (.tuple #[.pointer (some ⟨x.blk, 0, none⟩), .int .i64 0])))

set_option maxRecDepth 20000 in
set_option maxHeartbeats 1000000 in
theorem find_yes (p m : Nat) (s : St) (B : Nat → Prop) (L : List Pl) (n : ByteArray) (w : World) (hs : s.ok) (h : DiskAt w p s B m L) (hn : n.size ≤ maxLen) (hm : rightB n.data.toList = true) (h1 : s.calls ≤ 1000000000000) :
    Calls Tryz.prog 49 #[.pointer (some ⟨p, 0, none⟩), .string n, .bool true] w (Found p m s B L n.data.toList w) := by
  have C1 := fun w => right_c n hn w
  rw [hm] at C1
  have C2 := call_yes p m s w h.heap hs.c0 h1 hs.a0 hs.a1
  obtain ⟨c, hc⟩ : ∃ c, c = s.call.code := ⟨_, rfl⟩
  rw [← hc] at C2
  have HC := Lib.hid hc
  have HM := Lib.hid hm
  have HD := Lib.hid h
  clear hc hm h
  cases hd : s.call.down
  · have c0 : c = 0 := by rw [HC.out]; simp [St.code, hd]
    subst c0
    have HDN := Lib.hid hd
    clear hd
    rcases HD.out.look n hn with ⟨hg, hf, hl⟩ | ⟨x, hg, hf, hl⟩
    · have HG := Lib.hid hg
      have HF := Lib.hid hf
      have HL := Lib.hid hl
      clear hg hf hl
      go_enter Tryz.func49, Tryz.ntmps49
      go_wp2_with fail
      refine (C1 _).mono ?_; rintro e w2 ⟨rfl, rfl⟩
      go_wp2_with fail
      refine (C2).mono ?_; rintro e w2 ⟨rfl, k⟩
      have D2 := HD.out.called k
      have c1 : w2.cell? ⟨p, 1, none⟩ = some (.map (some m)) := by rw [cells_at k.1]; rfl
      have hlk := HL.out w2 D2.own
      have HK := Lib.hid k
      have HD2 := Lib.hid D2
      clear k D2
      go_wp2_with fail
      go_ret2
      exact ⟨HD2.out, HK.out.2, .inr (.inl ⟨HDN.out, HG.out, rfl⟩)⟩
    · have HG := Lib.hid hg
      have HF := Lib.hid hf
      have HL := Lib.hid hl
      clear hg hf hl
      go_enter Tryz.func49, Tryz.ntmps49
      go_wp2_with fail
      refine (C1 _).mono ?_; rintro e w2 ⟨rfl, rfl⟩
      go_wp2_with fail
      refine (C2).mono ?_; rintro e w2 ⟨rfl, k⟩
      have D2 := HD.out.called k
      have c1 : w2.cell? ⟨p, 1, none⟩ = some (.map (some m)) := by rw [cells_at k.1]; rfl
      have hlk := HL.out w2 D2.own
      have HK := Lib.hid k
      have HD2 := Lib.hid D2
      clear k D2
      go_wp2_with fail
      go_ret2
      exact ⟨HD2.out, HK.out.2, .inr (.inr ⟨HDN.out, x, HG.out, HF.out, rfl⟩)⟩
  · have c0 : c = 5 := by rw [HC.out]; simp [St.code, hd]
    subst c0
    have HDN := Lib.hid hd
    clear hd
    go_enter Tryz.func49, Tryz.ntmps49
    go_wp2_with fail
    refine (C1 _).mono ?_; rintro e w2 ⟨rfl, rfl⟩
    go_wp2_with fail
    refine (C2).mono ?_; rintro e w2 ⟨rfl, k⟩
    have D2 := HD.out.called k
    have HK := Lib.hid k
    have HD2 := Lib.hid D2
    clear k D2
    go_wp2_with fail
    go_ret2
    exact ⟨HD2.out, HK.out.2, .inl ⟨HDN.out, rfl⟩⟩
end Go.Proofs.YtpmglnghnelenaaGreat

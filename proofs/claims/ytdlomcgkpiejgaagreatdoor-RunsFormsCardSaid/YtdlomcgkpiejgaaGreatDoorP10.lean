/- In one text: Only, Bud, WrPlain, WrPlain2. -/
import Derived.Test.YtdlomcgkpiejgaaGreatDoorP00
import Derived.OneCell
import Derived.RegionTactic
import Derived.ChangeAlike
import Derived.Deep.QuietTactic
import Derived.BigQuiet
import Derived.Test.YtdlomcgkpiejgaaGreatDoorP09
import Derived.Test.YtdlomcgkpiejgaaGreatDoorP05
/- What a call may write: of what was there at most some blocks; a block known whole. -/
namespace Go.Proofs.YtdlomcgkpiejgaaGreatDoor
open Go.RowKit
set_option linter.unusedVariables false
set_option linter.unusedSimpArgs false
set_option maxRecDepth 20000

/-- Of what was there at most the blocks of B are written; there may be new blocks. -/
structure Only (B : Nat → Prop) (w w' : World) : Prop where
  os : w'.os = w.os
  tape : w'.tape = w.tape
  output : w'.output = w.output
  size : w.heap.size ≤ w'.heap.size
  block : ∀ k, k < w.heap.size → ¬ B k → w'.heap[k]? = w.heap[k]?

theorem Only.refl (B : Nat → Prop) (w : World) : Only B w w := ⟨rfl, rfl, rfl, Nat.le_refl _, fun _ _ _ => rfl⟩
theorem Only.trans {B : Nat → Prop} {a b c : World} (h : Only B a b) (k : Only B b c) : Only B a c :=
  ⟨k.os.trans h.os, k.tape.trans h.tape, k.output.trans h.output, Nat.le_trans h.size k.size, fun i hi hB => (k.block i (Nat.lt_of_lt_of_le hi h.size) hB).trans (h.block i hi hB)⟩
/-- The second step may write what is new since the first one's start, too. -/
theorem Only.andThen {B C : Nat → Prop} {a b c : World} (h : Only B a b) (k : Only C b c) (hC : ∀ i, C i → B i ∨ a.heap.size ≤ i) : Only B a c :=
  ⟨k.os.trans h.os, k.tape.trans h.tape, k.output.trans h.output, Nat.le_trans h.size k.size, fun i hi hB => (k.block i (Nat.lt_of_lt_of_le hi h.size) (fun e => by rcases hC i e with h1 | h1; exact hB h1; omega)).trans (h.block i hi hB)⟩
theorem Only.mono {B C : Nat → Prop} {a b : World} (h : Only B a b) (hC : ∀ i, B i → C i) : Only C a b :=
  ⟨h.os, h.tape, h.output, h.size, fun i hi hB => h.block i hi fun e => hB (hC i e)⟩
theorem Only.ofGr {B : Nat → Prop} {a b : World} (h : Gr a b) : Only B a b := ⟨h.os, h.tape, h.output, h.size, fun i hi _ => h.block i hi⟩
theorem Only.ofBelow {B : Nat → Prop} {n : Nat} {a b : World} (h : Below n a b) (hB : ∀ i, n ≤ i → i < a.heap.size → B i) : Only B a b :=
  ⟨h.os, h.tape, h.output, h.size, fun i hi hb => h.block i (by rcases Nat.lt_or_ge i n with h1 | h1; exact h1; exact absurd (hB i h1 hi) hb)⟩
theorem Only.toBelow {B : Nat → Prop} {n : Nat} {a b : World} (h : Only B a b) (hn : n ≤ a.heap.size) (hB : ∀ i, B i → n ≤ i) : Below n a b :=
  ⟨h.os, h.tape, h.output, h.size, fun i hi => h.block i (by omega) fun e => by have := hB i e; omega⟩
theorem Only.drew (B : Nat → Prop) (w : World) : Only B w w.drew := ⟨rfl, rfl, rfl, Nat.le_refl _, fun _ _ _ => rfl⟩
theorem Only.drewN (B : Nat → Prop) (w : World) (n : Nat) : Only B w (w.drewN n) := ⟨rfl, rfl, rfl, Nat.le_refl _, fun _ _ _ => rfl⟩
theorem Only.alloc (B : Nat → Prop) (w : World) (o : Obj) : Only B w (w.alloc o) := ⟨rfl, rfl, rfl, by simp, fun k hk _ => Below.heap_alloc _ _ _ hk⟩
theorem Only.setCell {B : Nat → Prop} (w : World) {a : Addr} (h : B a.block) (u : Value) : Only B w (w.setCell a u) :=
  ⟨rfl, rfl, rfl, by simp [World.setCell], fun k hk hB => Below.heap_setCell _ _ _ _ (fun e => hB (by rw [e]; exact h))⟩
theorem Only.cell1 (w : World) (p i : Nat) (u : Value) : Only (fun k => k = p) w (w.setCell ⟨p, i, none⟩ u) := Only.setCell (B := fun k => k = p) w (a := ⟨p, i, none⟩) rfl u
theorem Only.grown {B : Nat → Prop} {w w' : World} {row : Option Nat} (h : w.grownBy w' row) (hB : ∀ k, row = some k → B k) : Only B w w' :=
  ⟨h.os, h.tape, h.output, h.size, fun k hk hb => h.block k hk fun e => hb (hB k e.symm)⟩
theorem Only.grownBy {w w' : World} {b : Nat} (h : Only (fun i => i = b) w w') : w.grownBy w' (some b) :=
  ⟨h.os, h.tape, h.output, h.size, fun k hk hb => h.block k hk fun e => hb (by rw [e])⟩
theorem Only.cell {B : Nat → Prop} {w w' : World} (h : Only B w w') {p : Addr} (hp : p.block < w.heap.size) (hb : ¬ B p.block) : w'.cell? p = w.cell? p := World.cell?_of_block (w := w) (h.block p.block hp hb)
theorem Only.frozen {B : Nat → Prop} {w w' : World} (h : Only B w w') {p : Addr} (hp : p.block < w.heap.size) (hb : ¬ B p.block) : w'.frozen? p = w.frozen? p := World.frozen?_of_block (w := w) (h.block p.block hp hb)

theorem cells_at {w : World} {b : Nat} {c : Array Value} {T : TypeId} (h : w.heap[b]? = some (.cells c T (0, 0))) (i : Nat) : w.cell? ⟨b, i, none⟩ = c[i]? := by simp [World.cell?, h]
theorem cells_free {w : World} {b : Nat} {c : Array Value} {T : TypeId} (h : w.heap[b]? = some (.cells c T (0, 0))) (i : Nat) : w.frozen? ⟨b, i, none⟩ = false := by simp [World.frozen?, h]
theorem cells_set {w : World} {b : Nat} {c : Array Value} {T : TypeId} (h : w.heap[b]? = some (.cells c T (0, 0))) (i : Nat) (u : Value) : (w.setCell ⟨b, i, none⟩ u).heap[b]? = some (.cells (c.setIfInBounds i u) T (0, 0)) := by
  have hlt := lt_of_block h
  have h' : w.heap[b] = .cells c T (0, 0) := by simpa [Array.getElem?_eq_getElem hlt] using h
  show (w.heap.modify b _)[b]? = _
  rw [Array.getElem?_eq_getElem (by simpa using hlt), Array.getElem_modify_self, h']
  rfl
theorem new_cell (w : World) (c : Array Value) (T : TypeId) {n : Nat} (h : n = w.heap.size) (i : Nat) : (w.alloc (.cells c T)).cell? ⟨n, i, none⟩ = c[i]? := by subst h; exact World.cell?_alloc_new w c T i
end Go.Proofs.YtdlomcgkpiejgaaGreatDoor
/- A budget: what it is, what its calls make of it, their contracts. -/
namespace Go.Proofs.YtdlomcgkpiejgaaGreatDoor
open Go.RowKit
set_option linter.unusedVariables false
set_option linter.unusedSimpArgs false
set_option maxRecDepth 20000
/-- A budget: its bound, how many are in memory, how many at most. -/
structure Bu where
  m : Int
  now : Int
  high : Int
structure Bu.ok (b : Bu) : Prop where
  n0 : 0 ≤ b.now
  n1 : b.now ≤ b.high
  h1 : b.high ≤ b.m
  m1 : b.m ≤ 9223372036854775807
def Bu.take (b : Bu) (n : Int) : Bu := if n < 0 ∨ b.m - b.now < n then b else ⟨b.m, b.now + n, max b.high (b.now + n)⟩
def Bu.takeE (b : Bu) (n : Int) : Int := if n < 0 then 1 else if b.m - b.now < n then 9 else 0
def Bu.give (b : Bu) (n : Int) : Bu := if n < 0 then b else ⟨b.m, b.now - min n b.now, b.high⟩
theorem Bu.take_ok {b : Bu} (h : b.ok) (n : Int) : (b.take n).ok := by
  obtain ⟨h1, h2, h3, h4⟩ := h
  unfold Bu.take
  split
  · exact ⟨h1, h2, h3, h4⟩
  · constructor <;> simp only [] <;> omega
theorem Bu.give_ok {b : Bu} (h : b.ok) (n : Int) : (b.give n).ok := by
  obtain ⟨h1, h2, h3, h4⟩ := h
  unfold Bu.give
  split
  · exact ⟨h1, h2, h3, h4⟩
  · constructor <;> simp only [] <;> omega
def bcells (b : Bu) : Array Value := #[.bool true, .int .i64 b.m, .int .i64 b.now, .int .i64 b.high]
/-- At p there is a budget b. -/
def BAt (w : World) (p : Nat) (b : Bu) : Prop := b.ok ∧ w.heap[p]? = some (.cells (bcells b) 63 (0, 0))
theorem BAt.only {w w' : World} {p : Nat} {b : Bu} {C : Nat → Prop} (h : BAt w p b) (g : Only C w w') (hC : ¬ C p) : BAt w' p b :=
  ⟨h.1, by rw [g.block p (lt_of_block h.2) hC]; exact h.2⟩
theorem BAt.gr {w w' : World} {p : Nat} {b : Bu} (h : BAt w p b) (g : Gr w w') : BAt w' p b := h.only (Only.ofGr (B := fun _ => False) g) id
theorem BAt.lt {w : World} {p : Nat} {b : Bu} (h : BAt w p b) : p < w.heap.size := lt_of_block h.2

theorem bmade_c (p : Nat) (b : Bu) (w : World) (h : BAt w p b) :
    Calls Tryz.prog 41 #[.pointer (some ⟨p, 0, none⟩)] w fun e w' => e = .returned (.bool true) ∧ w = w' := by
  have c0 : w.cell? ⟨p, 0, none⟩ = some (.bool true) := by rw [cells_at h.2]; rfl
  clear h
  go_enter Tryz.func41, Tryz.ntmps41
  go_wp2_with fail
  go_ret
  exact ⟨rfl, rfl⟩
theorem bleft_c (p : Nat) (b : Bu) (w : World) (h : BAt w p b) :
    Calls Tryz.prog 55 #[.pointer (some ⟨p, 0, none⟩)] w fun e w' => e = .returned (.int .i64 (b.m - b.now)) ∧ Gr w w' := by
  have C := bmade_c p b w h
  have c1 : w.cell? ⟨p, 1, none⟩ = some (.int .i64 b.m) := by rw [cells_at h.2]; rfl
  have c2 : w.cell? ⟨p, 2, none⟩ = some (.int .i64 b.now) := by rw [cells_at h.2]; rfl
  obtain ⟨⟨n0, n1, h1, m1⟩, _⟩ := h
  go_enter Tryz.func55, Tryz.ntmps55
  go_wp2_with fail
  refine C.mono ?_; rintro e w2 ⟨rfl, rfl⟩
  go_wp2_with fail
  go_quiet (fail)
  go_wp2_with fail
  go_ret
  exact ⟨rfl, grN _ _⟩
theorem bnow_c (p : Nat) (b : Bu) (w : World) (h : BAt w p b) :
    Calls Tryz.prog 13 #[.pointer (some ⟨p, 0, none⟩)] w fun e w' => e = .returned (.int .i64 b.now) ∧ w = w' := by
  have C := bmade_c p b w h
  have c2 : w.cell? ⟨p, 2, none⟩ = some (.int .i64 b.now) := by rw [cells_at h.2]; rfl
  clear h
  go_enter Tryz.func13, Tryz.ntmps13
  go_wp2_with fail
  refine C.mono ?_; rintro e w2 ⟨rfl, rfl⟩
  go_wp2_with fail
  go_ret
  exact ⟨rfl, rfl⟩
theorem bhigh_c (p : Nat) (b : Bu) (w : World) (h : BAt w p b) :
    Calls Tryz.prog 14 #[.pointer (some ⟨p, 0, none⟩)] w fun e w' => e = .returned (.int .i64 b.high) ∧ w = w' := by
  have C := bmade_c p b w h
  have c3 : w.cell? ⟨p, 3, none⟩ = some (.int .i64 b.high) := by rw [cells_at h.2]; rfl
  clear h
  go_enter Tryz.func14, Tryz.ntmps14
  go_wp2_with fail
  refine C.mono ?_; rintro e w2 ⟨rfl, rfl⟩
  go_wp2_with fail
  go_ret
  exact ⟨rfl, rfl⟩
theorem bnew_no (m : Int) (w : World) (h : m < 0) :
    Calls Tryz.prog 9 #[.int .i64 m] w fun e w' => e = .returned (.pointer none) ∧ w = w' := by
  go_enter Tryz.func9, Tryz.ntmps9
  go_wp2_with fail
  go_ret
  exact ⟨rfl, rfl⟩
theorem bnew_c (m : Int) (w : World) (h : 0 ≤ m) (h2 : m ≤ 9223372036854775807) :
    Calls Tryz.prog 9 #[.int .i64 m] w fun e w' => e = .returned (.pointer (some ⟨w.heap.size, 0, none⟩)) ∧ BAt w' w.heap.size ⟨m, 0, 0⟩ ∧ Gr w w' := by
  go_enter Tryz.func9, Tryz.ntmps9
  go_wp2_with fail
  go_ret
  exact ⟨rfl, ⟨⟨Int.le_refl 0, Int.le_refl 0, h, h2⟩, heap_alloc_new w _⟩, Below.alloc (Below.refl _ _) (Nat.le_refl _) _⟩

theorem btake_of {p : Nat} {b : Bu} {w : World} (h : BAt w p b) {n a c : Int} (h0 : 0 ≤ n) (h1 : n ≤ b.m - b.now) (ha : a = b.now + n) (hc : c = max b.high (b.now + n)) :
    BAt ((w.setCell ⟨p, 2, none⟩ (.int .i64 a)).setCell ⟨p, 3, none⟩ (.int .i64 c)).drew p (b.take n) ∧ Only (fun i => i = p) w ((w.setCell ⟨p, 2, none⟩ (.int .i64 a)).setCell ⟨p, 3, none⟩ (.int .i64 c)).drew := by
  subst ha hc
  refine ⟨⟨Bu.take_ok h.1 n, ?_⟩, ((Only.cell1 _ _ _ _).trans (Only.cell1 _ _ _ _)).trans (Only.drew _ _)⟩
  have e : b.take n = ⟨b.m, b.now + n, max b.high (b.now + n)⟩ := by unfold Bu.take; rw [if_neg (by omega)]
  rw [e]; show ((w.setCell _ _).setCell _ _).heap[p]? = _; rw [cells_set (cells_set h.2 2 _) 3 _]; rfl
theorem bgive_of {p : Nat} {b : Bu} {w : World} (h : BAt w p b) {n a : Int} (h0 : 0 ≤ n) (ha : a = b.now - min n b.now) :
    BAt (w.setCell ⟨p, 2, none⟩ (.int .i64 a)).drew p (b.give n) ∧ Only (fun i => i = p) w (w.setCell ⟨p, 2, none⟩ (.int .i64 a)).drew := by
  subst ha
  refine ⟨⟨Bu.give_ok h.1 n, ?_⟩, (Only.cell1 _ _ _ _).trans (Only.drew _ _)⟩
  have e : b.give n = ⟨b.m, b.now - min n b.now, b.high⟩ := by unfold Bu.give; rw [if_neg (by omega)]
  rw [e]; show (w.setCell _ _).heap[p]? = _; rw [cells_set h.2 2 _]; rfl
/-- What Take, and Give, come to. -/
def BTaken (p : Nat) (b' : Bu) (w : World) (v : Value) (e : Ending) (w' : World) : Prop := e = .returned v ∧ BAt w' p b' ∧ Only (fun i => i = p) w w'
set_option maxHeartbeats 1000000 in
theorem btake_c (p : Nat) (b : Bu) (n : Int) (w : World) (h : BAt w p b) :
    Calls Tryz.prog 31 #[.pointer (some ⟨p, 0, none⟩), .int .i64 n] w (BTaken p (b.take n) w (.int .i64 (b.takeE n))) := by
  have C := bmade_c p b w h
  have CL := bleft_c p b w h
  have H := Lib.hid h
  obtain ⟨⟨n0, n1, h1, m1⟩, _⟩ := h
  obtain ⟨l, hl⟩ : ∃ l, l = b.m - b.now := ⟨_, rfl⟩
  rw [← hl] at CL
  have HL := Lib.hid hl
  by_cases h3 : n < 0
  · clear hl
    go_enter Tryz.func31, Tryz.ntmps31
    go_wp2_with fail
    refine C.mono ?_; rintro e w2 ⟨rfl, rfl⟩
    go_wp2_with fail
    go_ret
    rw [show b.take n = b by unfold Bu.take; rw [if_pos (.inl h3)]]
    exact ⟨ret_i (by unfold Bu.takeE; rw [if_pos h3]), H.out, Only.refl _ _⟩
  · by_cases h4 : l < n
    · clear hl
      go_enter Tryz.func31, Tryz.ntmps31
      go_wp2_with fail
      refine C.mono ?_; rintro e w2 ⟨rfl, rfl⟩
      go_wp2_with fail
      refine CL.mono ?_; rintro e w2 ⟨rfl, g⟩
      have HG := Lib.hid g
      clear g
      go_wp2_with fail
      go_ret
      rw [show b.take n = b by unfold Bu.take; rw [← HL.out, if_pos (.inr h4)]]
      exact ⟨ret_i (by unfold Bu.takeE; rw [← HL.out, if_neg (by omega), if_pos h4]), H.out.gr HG.out, Only.ofGr HG.out⟩
    · have he : b.takeE n = 0 := by unfold Bu.takeE; rw [← hl, if_neg h3, if_neg h4]
      rw [he]
      have hle : b.now + n ≤ 9223372036854775807 := by omega
      have K := Lib.hid (fun w2 (g : Gr w w2) a c (ha : a = b.now + n) hc => (btake_of (n := n) (a := a) (c := c) (H.out.gr g) (by omega) (by omega) ha hc).imp id (fun o => (Only.ofGr (B := fun i => i = p) g).trans o))
      clear he hl
      go_enter Tryz.func31, Tryz.ntmps31
      go_wp2_with fail
      refine C.mono ?_; rintro e w2 ⟨rfl, rfl⟩
      go_wp2_with fail
      refine CL.mono ?_; rintro e w2 ⟨rfl, g⟩
      have c2 : w2.cell? ⟨p, 2, none⟩ = some (.int .i64 b.now) := by rw [cells_at (H.out.gr g).2]; rfl
      have c3 : w2.cell? ⟨p, 3, none⟩ = some (.int .i64 b.high) := by rw [cells_at (H.out.gr g).2]; rfl
      have f2 := cells_free (H.out.gr g).2 2
      have f3 := cells_free (H.out.gr g).2 3
      have HG := Lib.hid g
      clear g C CL
      go_wp2_with fail
      go_region
      all_goals go_wp2_with fail
      all_goals
        go_ret
        refine ⟨rfl, K.out _ HG.out _ _ ?_ ?_⟩ <;> omega
set_option maxHeartbeats 1000000 in
theorem bgive_c (p : Nat) (b : Bu) (n : Int) (w : World) (h : BAt w p b) :
    Calls Tryz.prog 32 #[.pointer (some ⟨p, 0, none⟩), .int .i64 n] w (BTaken p (b.give n) w (.tuple #[])) := by
  have C := bmade_c p b w h
  have c2 : w.cell? ⟨p, 2, none⟩ = some (.int .i64 b.now) := by rw [cells_at h.2]; rfl
  have f2 := cells_free h.2 2
  have H := Lib.hid h
  obtain ⟨⟨n0, n1, h1, m1⟩, _⟩ := h
  by_cases h3 : n < 0
  · go_enter Tryz.func32, Tryz.ntmps32
    go_wp2_with fail
    refine C.mono ?_; rintro e w2 ⟨rfl, rfl⟩
    go_wp2_with fail
    refine bodyPost_ret (results_none rfl _ _ _) rfl ?_
    rw [show b.give n = b by unfold Bu.give; rw [if_pos h3]]
    exact ⟨rfl, H.out, Only.refl _ _⟩
  · have K := Lib.hid (fun a (ha : a = b.now - min n b.now) => bgive_of (n := n) (a := a) H.out (by omega) ha)
    go_enter Tryz.func32, Tryz.ntmps32
    go_wp2_with fail
    refine C.mono ?_; rintro e w2 ⟨rfl, rfl⟩
    go_wp2_with fail
    go_region
    all_goals go_wp2_with fail
    all_goals
      go_end0
      refine ⟨rfl, K.out _ ?_⟩; omega
end Go.Proofs.YtdlomcgkpiejgaaGreatDoor
/- Plain facts on a writer of records, without the model: what each call makes of the disk, the budget and the writer. -/
namespace Go.Proofs.YtdlomcgkpiejgaaGreatDoor
open Go.RowKit FsPlain CrcPlain OctPlain FramePlain RecPlain
set_option linter.unusedVariables false
set_option linter.unusedSimpArgs false
set_option maxRecDepth 20000
namespace WrPlain
/-- A writer: its file's name, its records' size, those that wait, all that were put, whether it is open. -/
structure Ws where
  nm : ByteArray
  size : Int
  wait : List ByteArray
  all : List ByteArray
  opn : Bool
/-- A disk, a budget, a writer. -/
structure M3 where
  s : St
  b : Bu
  x : Ws
def dropM (m : M3) : M3 := if m.x.opn = true then ⟨m.s, m.b.give 4, { m.x with opn := false }⟩ else m
/-- An append, and what it tells; with an error the writer is not open any more. -/
def layM (m : M3) (t : ByteArray) : M3 × Int :=
  if (appendR m.s m.x.nm.data.toList t.data.toList).2 = 0 then (⟨(appendR m.s m.x.nm.data.toList t.data.toList).1, m.b, m.x⟩, 0)
  else (dropM ⟨(appendR m.s m.x.nm.data.toList t.data.toList).1, m.b, m.x⟩, (appendR m.s m.x.nm.data.toList t.data.toList).2)
/-- The writer behind a record that may be. -/
def Ws.put (x : Ws) (r : ByteArray) : Ws := { x with wait := x.wait ++ [r], all := x.all ++ [r] }
def Ws.none (x : Ws) : Ws := { x with wait := [] }
def putM (m : M3) (r : ByteArray) : M3 × Int :=
  if m.x.opn = false then (m, 14)
  else if ¬ (r.size : Int) = m.x.size then (m, 1)
  else if m.x.wait.length < 3 then (⟨m.s, m.b, m.x.put r⟩, 0)
  else layM ⟨m.s, m.b, (m.x.put r).none⟩ (blkS m.x.size (m.x.wait ++ [r]))
/-- The first step of a close: those that wait. -/
def flushM (m : M3) : M3 × Int := if m.x.wait.length = 0 then (m, 0) else layM m (blkS m.x.size m.x.wait)
def endM (m : M3) : M3 × Int := layM m (peS m.x.all.length (sumN m.x.all))
def syncM (m : M3) : M3 × Int := (⟨(syncR m.s m.x.nm.data.toList).1, m.b, m.x⟩, (syncR m.s m.x.nm.data.toList).2)
/-- What a close leaves, and its error. -/
def closeM (m : M3) : M3 × Int :=
  if m.x.opn = false then (m, 14)
  else if ¬ (flushM m).2 = 0 then flushM m
  else if ¬ (endM (flushM m).1).2 = 0 then (dropM (endM (flushM m).1).1, (endM (flushM m).1).2)
  else (dropM (syncM (endM (flushM m).1).1).1, (syncM (endM (flushM m).1).1).2)
/-- What holds of a writer on the way. -/
structure M3.ok (m : M3) : Prop where
  s : m.s.ok
  b : m.b.ok
  n1 : m.x.nm.size ≤ 24
  n2 : rightB m.x.nm.data.toList = true
  z : sizeB m.x.size = true
  wl : m.x.wait.length ≤ 3
  wz : ∀ r ∈ m.x.wait, (r.size : Int) = m.x.size
  az : ∀ r ∈ m.x.all, (r.size : Int) = m.x.size
theorem ok_append {s : St} (h : s.ok) (n t : List UInt8) : (appendR s n t).1.ok := by
  unfold appendR
  have hc := ok_call h
  split
  · exact hc
  · cases hg : s.get n with
    | none => exact hc
    | some f =>
      simp only []
      split
      · exact hc
      · rename_i hu
        have hk := h.k f (get_mem hg)
        refine ok_upd (s := s.call) hc (n := n) (f := f) hg (g := fun f => { f with data := f.data ++ t }) rfl ?_ ?_
        · show f.kept ≤ (f.data ++ t).length; rw [List.length_append]; omega
        · show (used s.fs : Int) + ((f.data ++ t).length : Int) ≤ s.room + f.data.length; rw [List.length_append]; omega
theorem ok_sync {s : St} (h : s.ok) (n : List UInt8) : (syncR s n).1.ok := by
  unfold syncR
  have hc := ok_call h
  split
  · exact hc
  · cases hg : s.get n with
    | none => exact hc
    | some f =>
      simp only []
      refine ok_upd (s := s.call) hc (n := n) (f := f) hg (g := fun f => { f with kept := f.data.length }) rfl (Nat.le_refl _) ?_
      show (used s.fs : Int) + (f.data.length : Int) ≤ s.room + f.data.length
      have := h.u; omega
theorem append_calls (s : St) (n t : List UInt8) : (appendR s n t).1.calls = s.calls + 1 := by
  unfold appendR
  split
  · rfl
  · cases s.get n with
    | none => rfl
    | some f => simp only []; split <;> rfl
theorem sync_calls (s : St) (n : List UInt8) : (syncR s n).1.calls = s.calls + 1 := by
  unfold syncR
  split
  · rfl
  · cases s.get n <;> rfl
theorem ok_dropM {m : M3} (h : m.ok) : (dropM m).ok := by
  unfold dropM
  split
  · exact ⟨h.s, Bu.give_ok h.b 4, h.n1, h.n2, h.z, h.wl, h.wz, h.az⟩
  · exact h
theorem dropM_calls (m : M3) : (dropM m).s.calls = m.s.calls := by unfold dropM; split <;> rfl
theorem ok_layM {m : M3} (h : m.ok) (t : ByteArray) : (layM m t).1.ok := by
  have hs := ok_append h.s m.x.nm.data.toList t.data.toList
  unfold layM
  split
  · exact ⟨hs, h.b, h.n1, h.n2, h.z, h.wl, h.wz, h.az⟩
  · exact ok_dropM ⟨hs, h.b, h.n1, h.n2, h.z, h.wl, h.wz, h.az⟩
theorem layM_calls (m : M3) (t : ByteArray) : (layM m t).1.s.calls = m.s.calls + 1 := by
  unfold layM
  split
  · exact append_calls _ _ _
  · rw [dropM_calls]; exact append_calls _ _ _
theorem ok_putM {m : M3} (h : m.ok) (r : ByteArray) : (putM m r).1.ok := by
  unfold putM
  split
  · exact h
  · split
    · exact h
    · rename_i hz
      have hz' : (r.size : Int) = m.x.size := by omega
      have az : ∀ q ∈ m.x.all ++ [r], (q.size : Int) = m.x.size := fun q hq => by
        rcases List.mem_append.1 hq with hq | hq
        · exact h.az q hq
        · rw [List.mem_singleton.1 hq]; exact hz'
      split
      · refine ⟨h.s, h.b, h.n1, h.n2, h.z, ?_, ?_, az⟩
        · show (m.x.wait ++ [r]).length ≤ 3; rw [List.length_append, List.length_singleton]; omega
        · intro q hq
          rcases List.mem_append.1 hq with hq | hq
          · exact h.wz q hq
          · rw [List.mem_singleton.1 hq]; exact hz'
      · exact ok_layM (m := ⟨m.s, m.b, (m.x.put r).none⟩) ⟨h.s, h.b, h.n1, h.n2, h.z, Nat.zero_le _, (fun q hq => by cases hq), az⟩ _
theorem putM_calls (m : M3) (r : ByteArray) : (putM m r).1.s.calls ≤ m.s.calls + 1 := by
  unfold putM
  split
  · show m.s.calls ≤ _; omega
  · split
    · show m.s.calls ≤ _; omega
    · split
      · show m.s.calls ≤ _; omega
      · rw [layM_calls]; exact Int.le_refl _
theorem putM_all (m : M3) (r : ByteArray) : (putM m r).1.x.all.length ≤ m.x.all.length + 1 := by
  unfold putM
  split
  · show m.x.all.length ≤ _; omega
  · split
    · show m.x.all.length ≤ _; omega
    · split
      · show (m.x.all ++ [r]).length ≤ _; simp
      · have : ∀ (m : M3) t, (layM m t).1.x.all = m.x.all := fun m t => by
          unfold layM dropM
          split
          · rfl
          · split <;> rfl
        rw [this]; show (m.x.all ++ [r]).length ≤ _; simp
end WrPlain
end Go.Proofs.YtdlomcgkpiejgaaGreatDoor
/- Plain facts on a writer that is made. -/
namespace Go.Proofs.YtdlomcgkpiejgaaGreatDoor
open Go.RowKit FsPlain CrcPlain OctPlain FramePlain RecPlain
set_option linter.unusedVariables false
set_option linter.unusedSimpArgs false
set_option maxRecDepth 20000
namespace WrPlain
def newWs (nm : ByteArray) (size : Int) : Ws := ⟨nm, size, [], [], true⟩
/-- What Create leaves of the disk and the budget, and its error. -/
def createM (s : St) (b : Bu) (nm : ByteArray) (size : Int) : St × Bu × Int :=
  if sizeB size = false then (s, b, 1)
  else if ¬ b.takeE 4 = 0 then (s, b.take 4, b.takeE 4)
  else if ¬ (createR s nm.data.toList).2 = 0 then ((createR s nm.data.toList).1, (b.take 4).give 4, (createR s nm.data.toList).2)
  else if ¬ (appendR (createR s nm.data.toList).1 nm.data.toList (headS size).data.toList).2 = 0 then ((appendR (createR s nm.data.toList).1 nm.data.toList (headS size).data.toList).1, (b.take 4).give 4, (appendR (createR s nm.data.toList).1 nm.data.toList (headS size).data.toList).2)
  else ((appendR (createR s nm.data.toList).1 nm.data.toList (headS size).data.toList).1, b.take 4, 0)
theorem create_calls (s : St) (n : List UInt8) : (createR s n).1.calls = s.calls + 1 := by
  unfold createR
  split
  · rfl
  · cases s.get n with
    | some f => rfl
    | none => simp only []; split <;> rfl
theorem ok_createR {s : St} (h : s.ok) {n : List UInt8} (hn : n.length ≤ 24) : (createR s n).1.ok := by
  unfold createR
  have hc := ok_call h
  split
  · exact hc
  · cases hg : s.get n with
    | some f => exact hc
    | none =>
      simp only []
      split
      · exact hc
      · exact ok_create (s := s.call) hc hg hn (show s.fs.length < 200 by omega)
theorem createM_calls (s : St) (b : Bu) (nm : ByteArray) (size : Int) : (createM s b nm size).1.calls ≤ s.calls + 2 := by
  unfold createM
  have h1 := create_calls s nm.data.toList
  have h2 := append_calls (createR s nm.data.toList).1 nm.data.toList (headS size).data.toList
  split
  · show s.calls ≤ _; omega
  · split
    · show s.calls ≤ _; omega
    · split
      · show (createR s nm.data.toList).1.calls ≤ _; omega
      · split
        · show (appendR _ _ _).1.calls ≤ _; omega
        · show (appendR _ _ _).1.calls ≤ _; omega
theorem createM_ok {s : St} {b : Bu} {nm : ByteArray} {size : Int} (hs : s.ok) (hb : b.ok) (hn : nm.size ≤ 24) (hm : rightB nm.data.toList = true) (h0 : (createM s b nm size).2.2 = 0) : (M3.mk (createM s b nm size).1 (createM s b nm size).2.1 (newWs nm size)).ok := by
  have hz : sizeB size = true := by
    cases h : sizeB size
    · unfold createM at h0; rw [if_pos h] at h0; exact absurd h0 (by simp)
    · rfl
  have hsok : (createM s b nm size).1.ok := by
    unfold createM
    have h1 := ok_createR hs (n := nm.data.toList) (by rw [show nm.data.toList.length = nm.size from Array.length_toList]; exact hn)
    have h2 := ok_append h1 nm.data.toList (headS size).data.toList
    split
    · exact hs
    · split
      · exact hs
      · split
        · exact h1
        · split
          · exact h2
          · exact h2
  have hbok : (createM s b nm size).2.1.ok := by
    unfold createM
    split
    · exact hb
    · split
      · exact Bu.take_ok hb 4
      · split
        · exact Bu.give_ok (Bu.take_ok hb 4) 4
        · split
          · exact Bu.give_ok (Bu.take_ok hb 4) 4
          · exact Bu.take_ok hb 4
  exact ⟨hsok, hbok, hn, hm, hz, Nat.zero_le _, (fun r h => by cases h), fun r h => by cases h⟩
end WrPlain
open WrPlain in
/-- What Close hands out. -/
def closeV (m : M3) (e : Int) : Value := .tuple #[.agg #[.int .i64 (if e = 0 then (m.x.all.length : Int) else 0), .int .u32 (if e = 0 then (sumN m.x.all : Int) else 0)], .int .i64 e]
end Go.Proofs.YtdlomcgkpiejgaaGreatDoor

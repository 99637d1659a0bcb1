/- In one text: Only, Bud, RdPlain. -/
import Derived.Test.YtojlceoeacebmaaP00
import Derived.OneCell
import Derived.RegionTactic
import Derived.ChangeAlike
import Derived.Deep.QuietTactic
import Derived.BigQuiet
import Derived.Test.YtojlceoeacebmaaP07
import Derived.Test.YtojlceoeacebmaaP06
/- What a call may write: of what was there at most some blocks; a block known whole. -/
namespace Go.Proofs.Ytojlceoeacebmaa
open Go.RowKit
set_option linter.unusedVariables false
set_option linter.unusedSimpArgs false
set_option maxRecDepth 20000

/-- Of what was there at most the blocks of B are written; there may be new blocks. -/
structure Only (B : Nat → Prop) (w w' : World) : Prop where
  os : w'.os = w.os
  tape : w'.tape = w.tape
  output : w'.output = w.output
  size : w.heap.size ≤ w'.heap.size
  block : ∀ k, k < w.heap.size → ¬ B k → w'.heap[k]? = w.heap[k]?

theorem Only.refl (B : Nat → Prop) (w : World) : Only B w w := ⟨rfl, rfl, rfl, Nat.le_refl _, fun _ _ _ => rfl⟩
theorem Only.trans {B : Nat → Prop} {a b c : World} (h : Only B a b) (k : Only B b c) : Only B a c :=
  ⟨k.os.trans h.os, k.tape.trans h.tape, k.output.trans h.output, Nat.le_trans h.size k.size, fun i hi hB => (k.block i (Nat.lt_of_lt_of_le hi h.size) hB).trans (h.block i hi hB)⟩
/-- The second step may write what is new since the first one's start, too. -/
theorem Only.andThen {B C : Nat → Prop} {a b c : World} (h : Only B a b) (k : Only C b c) (hC : ∀ i, C i → B i ∨ a.heap.size ≤ i) : Only B a c :=
  ⟨k.os.trans h.os, k.tape.trans h.tape, k.output.trans h.output, Nat.le_trans h.size k.size, fun i hi hB => (k.block i (Nat.lt_of_lt_of_le hi h.size) (fun e => by rcases hC i e with h1 | h1; exact hB h1; omega)).trans (h.block i hi hB)⟩
theorem Only.mono {B C : Nat → Prop} {a b : World} (h : Only B a b) (hC : ∀ i, B i → C i) : Only C a b :=
  ⟨h.os, h.tape, h.output, h.size, fun i hi hB => h.block i hi fun e => hB (hC i e)⟩
theorem Only.ofGr {B : Nat → Prop} {a b : World} (h : Gr a b) : Only B a b := ⟨h.os, h.tape, h.output, h.size, fun i hi _ => h.block i hi⟩
theorem Only.ofBelow {B : Nat → Prop} {n : Nat} {a b : World} (h : Below n a b) (hB : ∀ i, n ≤ i → i < a.heap.size → B i) : Only B a b :=
  ⟨h.os, h.tape, h.output, h.size, fun i hi hb => h.block i (by rcases Nat.lt_or_ge i n with h1 | h1; exact h1; exact absurd (hB i h1 hi) hb)⟩
theorem Only.toBelow {B : Nat → Prop} {n : Nat} {a b : World} (h : Only B a b) (hn : n ≤ a.heap.size) (hB : ∀ i, B i → n ≤ i) : Below n a b :=
  ⟨h.os, h.tape, h.output, h.size, fun i hi => h.block i (by omega) fun e => by have := hB i e; omega⟩
theorem Only.drew (B : Nat → Prop) (w : World) : Only B w w.drew := ⟨rfl, rfl, rfl, Nat.le_refl _, fun _ _ _ => rfl⟩
theorem Only.drewN (B : Nat → Prop) (w : World) (n : Nat) : Only B w (w.drewN n) := ⟨rfl, rfl, rfl, Nat.le_refl _, fun _ _ _ => rfl⟩
theorem Only.alloc (B : Nat → Prop) (w : World) (o : Obj) : Only B w (w.alloc o) := ⟨rfl, rfl, rfl, by simp, fun k hk _ => Below.heap_alloc _ _ _ hk⟩
theorem Only.setCell {B : Nat → Prop} (w : World) {a : Addr} (h : B a.block) (u : Value) : Only B w (w.setCell a u) :=
  ⟨rfl, rfl, rfl, by simp [World.setCell], fun k hk hB => Below.heap_setCell _ _ _ _ (fun e => hB (by rw [e]; exact h))⟩
theorem Only.cell1 (w : World) (p i : Nat) (u : Value) : Only (fun k => k = p) w (w.setCell ⟨p, i, none⟩ u) := Only.setCell (B := fun k => k = p) w (a := ⟨p, i, none⟩) rfl u
theorem Only.grown {B : Nat → Prop} {w w' : World} {row : Option Nat} (h : w.grownBy w' row) (hB : ∀ k, row = some k → B k) : Only B w w' :=
  ⟨h.os, h.tape, h.output, h.size, fun k hk hb => h.block k hk fun e => hb (hB k e.symm)⟩
theorem Only.grownBy {w w' : World} {b : Nat} (h : Only (fun i => i = b) w w') : w.grownBy w' (some b) :=
  ⟨h.os, h.tape, h.output, h.size, fun k hk hb => h.block k hk fun e => hb (by rw [e])⟩
theorem Only.cell {B : Nat → Prop} {w w' : World} (h : Only B w w') {p : Addr} (hp : p.block < w.heap.size) (hb : ¬ B p.block) : w'.cell? p = w.cell? p := World.cell?_of_block (w := w) (h.block p.block hp hb)
theorem Only.frozen {B : Nat → Prop} {w w' : World} (h : Only B w w') {p : Addr} (hp : p.block < w.heap.size) (hb : ¬ B p.block) : w'.frozen? p = w.frozen? p := World.frozen?_of_block (w := w) (h.block p.block hp hb)

theorem cells_at {w : World} {b : Nat} {c : Array Value} {T : TypeId} (h : w.heap[b]? = some (.cells c T (0, 0))) (i : Nat) : w.cell? ⟨b, i, none⟩ = c[i]? := by simp [World.cell?, h]
theorem cells_free {w : World} {b : Nat} {c : Array Value} {T : TypeId} (h : w.heap[b]? = some (.cells c T (0, 0))) (i : Nat) : w.frozen? ⟨b, i, none⟩ = false := by simp [World.frozen?, h]
theorem cells_set {w : World} {b : Nat} {c : Array Value} {T : TypeId} (h : w.heap[b]? = some (.cells c T (0, 0))) (i : Nat) (u : Value) : (w.setCell ⟨b, i, none⟩ u).heap[b]? = some (.cells (c.setIfInBounds i u) T (0, 0)) := by
  have hlt := lt_of_block h
  have h' : w.heap[b] = .cells c T (0, 0) := by simpa [Array.getElem?_eq_getElem hlt] using h
  show (w.heap.modify b _)[b]? = _
  rw [Array.getElem?_eq_getElem (by simpa using hlt), Array.getElem_modify_self, h']
  rfl
theorem new_cell (w : World) (c : Array Value) (T : TypeId) {n : Nat} (h : n = w.heap.size) (i : Nat) : (w.alloc (.cells c T)).cell? ⟨n, i, none⟩ = c[i]? := by subst h; exact World.cell?_alloc_new w c T i
end Go.Proofs.Ytojlceoeacebmaa
/- A budget: what it is, what its calls make of it, their contracts. -/
namespace Go.Proofs.Ytojlceoeacebmaa
open Go.RowKit
set_option linter.unusedVariables false
set_option linter.unusedSimpArgs false
set_option maxRecDepth 20000
/-- A budget: its bound, how many are in memory, how many at most. -/
structure Bu where
  m : Int
  now : Int
  high : Int
structure Bu.ok (b : Bu) : Prop where
  n0 : 0 ≤ b.now
  n1 : b.now ≤ b.high
  h1 : b.high ≤ b.m
  m1 : b.m ≤ 9223372036854775807
def Bu.take (b : Bu) (n : Int) : Bu := if n < 0 ∨ b.m - b.now < n then b else ⟨b.m, b.now + n, max b.high (b.now + n)⟩
def Bu.takeE (b : Bu) (n : Int) : Int := if n < 0 then 1 else if b.m - b.now < n then 9 else 0
def Bu.give (b : Bu) (n : Int) : Bu := if n < 0 then b else ⟨b.m, b.now - min n b.now, b.high⟩
theorem Bu.take_ok {b : Bu} (h : b.ok) (n : Int) : (b.take n).ok := by
  obtain ⟨h1, h2, h3, h4⟩ := h
  unfold Bu.take
  split
  · exact ⟨h1, h2, h3, h4⟩
  · constructor <;> simp only [] <;> omega
theorem Bu.give_ok {b : Bu} (h : b.ok) (n : Int) : (b.give n).ok := by
  obtain ⟨h1, h2, h3, h4⟩ := h
  unfold Bu.give
  split
  · exact ⟨h1, h2, h3, h4⟩
  · constructor <;> simp only [] <;> omega
def bcells (b : Bu) : Array Value := #[.bool true, .int .i64 b.m, .int .i64 b.now, .int .i64 b.high]
/-- At p there is a budget b. -/
def BAt (w : World) (p : Nat) (b : Bu) : Prop := b.ok ∧ w.heap[p]? = some (.cells (bcells b) 59 (0, 0))
theorem BAt.only {w w' : World} {p : Nat} {b : Bu} {C : Nat → Prop} (h : BAt w p b) (g : Only C w w') (hC : ¬ C p) : BAt w' p b :=
  ⟨h.1, by rw [g.block p (lt_of_block h.2) hC]; exact h.2⟩
theorem BAt.gr {w w' : World} {p : Nat} {b : Bu} (h : BAt w p b) (g : Gr w w') : BAt w' p b := h.only (Only.ofGr (B := fun _ => False) g) id
theorem BAt.lt {w : World} {p : Nat} {b : Bu} (h : BAt w p b) : p < w.heap.size := lt_of_block h.2

theorem bmade_c (p : Nat) (b : Bu) (w : World) (h : BAt w p b) :
    Calls Try.prog 42 #[.pointer (some ⟨p, 0, none⟩)] w fun e w' => e = .returned (.bool true) ∧ w = w' := by
  have c0 : w.cell? ⟨p, 0, none⟩ = some (.bool true) := by rw [cells_at h.2]; rfl
  clear h
  go_enter Try.func42, Try.ntmps42
  go_wp2_with fail
  go_ret
  exact ⟨rfl, rfl⟩
theorem bleft_c (p : Nat) (b : Bu) (w : World) (h : BAt w p b) :
    Calls Try.prog 53 #[.pointer (some ⟨p, 0, none⟩)] w fun e w' => e = .returned (.int .i64 (b.m - b.now)) ∧ Gr w w' := by
  have C := bmade_c p b w h
  have c1 : w.cell? ⟨p, 1, none⟩ = some (.int .i64 b.m) := by rw [cells_at h.2]; rfl
  have c2 : w.cell? ⟨p, 2, none⟩ = some (.int .i64 b.now) := by rw [cells_at h.2]; rfl
  obtain ⟨⟨n0, n1, h1, m1⟩, _⟩ := h
  go_enter Try.func53, Try.ntmps53
  go_wp2_with fail
  refine C.mono ?_; rintro e w2 ⟨rfl, rfl⟩
  go_wp2_with fail
  go_quiet (fail)
  go_wp2_with fail
  go_ret
  exact ⟨rfl, grN _ _⟩
theorem bnow_c (p : Nat) (b : Bu) (w : World) (h : BAt w p b) :
    Calls Try.prog 14 #[.pointer (some ⟨p, 0, none⟩)] w fun e w' => e = .returned (.int .i64 b.now) ∧ w = w' := by
  have C := bmade_c p b w h
  have c2 : w.cell? ⟨p, 2, none⟩ = some (.int .i64 b.now) := by rw [cells_at h.2]; rfl
  clear h
  go_enter Try.func14, Try.ntmps14
  go_wp2_with fail
  refine C.mono ?_; rintro e w2 ⟨rfl, rfl⟩
  go_wp2_with fail
  go_ret
  exact ⟨rfl, rfl⟩
theorem bhigh_c (p : Nat) (b : Bu) (w : World) (h : BAt w p b) :
    Calls Try.prog 15 #[.pointer (some ⟨p, 0, none⟩)] w fun e w' => e = .returned (.int .i64 b.high) ∧ w = w' := by
  have C := bmade_c p b w h
  have c3 : w.cell? ⟨p, 3, none⟩ = some (.int .i64 b.high) := by rw [cells_at h.2]; rfl
  clear h
  go_enter Try.func15, Try.ntmps15
  go_wp2_with fail
  refine C.mono ?_; rintro e w2 ⟨rfl, rfl⟩
  go_wp2_with fail
  go_ret
  exact ⟨rfl, rfl⟩
theorem bnew_no (m : Int) (w : World) (h : m < 0) :
    Calls Try.prog 7 #[.int .i64 m] w fun e w' => e = .returned (.pointer none) ∧ w = w' := by
  go_enter Try.func7, Try.ntmps7
  go_wp2_with fail
  go_ret
  exact ⟨rfl, rfl⟩
theorem bnew_c (m : Int) (w : World) (h : 0 ≤ m) (h2 : m ≤ 9223372036854775807) :
    Calls Try.prog 7 #[.int .i64 m] w fun e w' => e = .returned (.pointer (some ⟨w.heap.size, 0, none⟩)) ∧ BAt w' w.heap.size ⟨m, 0, 0⟩ ∧ Gr w w' := by
  go_enter Try.func7, Try.ntmps7
  go_wp2_with fail
  go_ret
  exact ⟨rfl, ⟨⟨Int.le_refl 0, Int.le_refl 0, h, h2⟩, heap_alloc_new w _⟩, Below.alloc (Below.refl _ _) (Nat.le_refl _) _⟩

theorem btake_of {p : Nat} {b : Bu} {w : World} (h : BAt w p b) {n a c : Int} (h0 : 0 ≤ n) (h1 : n ≤ b.m - b.now) (ha : a = b.now + n) (hc : c = max b.high (b.now + n)) :
    BAt ((w.setCell ⟨p, 2, none⟩ (.int .i64 a)).setCell ⟨p, 3, none⟩ (.int .i64 c)).drew p (b.take n) ∧ Only (fun i => i = p) w ((w.setCell ⟨p, 2, none⟩ (.int .i64 a)).setCell ⟨p, 3, none⟩ (.int .i64 c)).drew := by
  subst ha hc
  refine ⟨⟨Bu.take_ok h.1 n, ?_⟩, ((Only.cell1 _ _ _ _).trans (Only.cell1 _ _ _ _)).trans (Only.drew _ _)⟩
  have e : b.take n = ⟨b.m, b.now + n, max b.high (b.now + n)⟩ := by unfold Bu.take; rw [if_neg (by omega)]
  rw [e]; show ((w.setCell _ _).setCell _ _).heap[p]? = _; rw [cells_set (cells_set h.2 2 _) 3 _]; rfl
theorem bgive_of {p : Nat} {b : Bu} {w : World} (h : BAt w p b) {n a : Int} (h0 : 0 ≤ n) (ha : a = b.now - min n b.now) :
    BAt (w.setCell ⟨p, 2, none⟩ (.int .i64 a)).drew p (b.give n) ∧ Only (fun i => i = p) w (w.setCell ⟨p, 2, none⟩ (.int .i64 a)).drew := by
  subst ha
  refine ⟨⟨Bu.give_ok h.1 n, ?_⟩, (Only.cell1 _ _ _ _).trans (Only.drew _ _)⟩
  have e : b.give n = ⟨b.m, b.now - min n b.now, b.high⟩ := by unfold Bu.give; rw [if_neg (by omega)]
  rw [e]; show (w.setCell _ _).heap[p]? = _; rw [cells_set h.2 2 _]; rfl
/-- What Take, and Give, come to. -/
def BTaken (p : Nat) (b' : Bu) (w : World) (v : Value) (e : Ending) (w' : World) : Prop := e = .returned v ∧ BAt w' p b' ∧ Only (fun i => i = p) w w'
set_option maxHeartbeats 1000000 in
theorem btake_c (p : Nat) (b : Bu) (n : Int) (w : World) (h : BAt w p b) :
    Calls Try.prog 33 #[.pointer (some ⟨p, 0, none⟩), .int .i64 n] w (BTaken p (b.take n) w (.int .i64 (b.takeE n))) := by
  have C := bmade_c p b w h
  have CL := bleft_c p b w h
  have H := Lib.hid h
  obtain ⟨⟨n0, n1, h1, m1⟩, _⟩ := h
  obtain ⟨l, hl⟩ : ∃ l, l = b.m - b.now := ⟨_, rfl⟩
  rw [← hl] at CL
  have HL := Lib.hid hl
  by_cases h3 : n < 0
  · clear hl
    go_enter Try.func33, Try.ntmps33
    go_wp2_with fail
    refine C.mono ?_; rintro e w2 ⟨rfl, rfl⟩
    go_wp2_with fail
    go_ret
    rw [show b.take n = b by unfold Bu.take; rw [if_pos (.inl h3)]]
    exact ⟨ret_i (by unfold Bu.takeE; rw [if_pos h3]), H.out, Only.refl _ _⟩
  · by_cases h4 : l < n
    · clear hl
      go_enter Try.func33, Try.ntmps33
      go_wp2_with fail
      refine C.mono ?_; rintro e w2 ⟨rfl, rfl⟩
      go_wp2_with fail
      refine CL.mono ?_; rintro e w2 ⟨rfl, g⟩
      have HG := Lib.hid g
      clear g
      go_wp2_with fail
      go_ret
      rw [show b.take n = b by unfold Bu.take; rw [← HL.out, if_pos (.inr h4)]]
      exact ⟨ret_i (by unfold Bu.takeE; rw [← HL.out, if_neg (by omega), if_pos h4]), H.out.gr HG.out, Only.ofGr HG.out⟩
    · have he : b.takeE n = 0 := by unfold Bu.takeE; rw [← hl, if_neg h3, if_neg h4]
      rw [he]
      have hle : b.now + n ≤ 9223372036854775807 := by omega
      have K := Lib.hid (fun w2 (g : Gr w w2) a c (ha : a = b.now + n) hc => (btake_of (n := n) (a := a) (c := c) (H.out.gr g) (by omega) (by omega) ha hc).imp id (fun o => (Only.ofGr (B := fun i => i = p) g).trans o))
      clear he hl
      go_enter Try.func33, Try.ntmps33
      go_wp2_with fail
      refine C.mono ?_; rintro e w2 ⟨rfl, rfl⟩
      go_wp2_with fail
      refine CL.mono ?_; rintro e w2 ⟨rfl, g⟩
      have c2 : w2.cell? ⟨p, 2, none⟩ = some (.int .i64 b.now) := by rw [cells_at (H.out.gr g).2]; rfl
      have c3 : w2.cell? ⟨p, 3, none⟩ = some (.int .i64 b.high) := by rw [cells_at (H.out.gr g).2]; rfl
      have f2 := cells_free (H.out.gr g).2 2
      have f3 := cells_free (H.out.gr g).2 3
      have HG := Lib.hid g
      clear g C CL
      go_wp2_with fail
      go_region
      all_goals go_wp2_with fail
      all_goals
        go_ret
        refine ⟨rfl, K.out _ HG.out _ _ ?_ ?_⟩ <;> omega
set_option maxHeartbeats 1000000 in
theorem bgive_c (p : Nat) (b : Bu) (n : Int) (w : World) (h : BAt w p b) :
    Calls Try.prog 36 #[.pointer (some ⟨p, 0, none⟩), .int .i64 n] w (BTaken p (b.give n) w (.tuple #[])) := by
  have C := bmade_c p b w h
  have c2 : w.cell? ⟨p, 2, none⟩ = some (.int .i64 b.now) := by rw [cells_at h.2]; rfl
  have f2 := cells_free h.2 2
  have H := Lib.hid h
  obtain ⟨⟨n0, n1, h1, m1⟩, _⟩ := h
  by_cases h3 : n < 0
  · go_enter Try.func36, Try.ntmps36
    go_wp2_with fail
    refine C.mono ?_; rintro e w2 ⟨rfl, rfl⟩
    go_wp2_with fail
    refine bodyPost_ret (results_none rfl _ _ _) rfl ?_
    rw [show b.give n = b by unfold Bu.give; rw [if_pos h3]]
    exact ⟨rfl, H.out, Only.refl _ _⟩
  · have K := Lib.hid (fun a (ha : a = b.now - min n b.now) => bgive_of (n := n) (a := a) H.out (by omega) ha)
    go_enter Try.func36, Try.ntmps36
    go_wp2_with fail
    refine C.mono ?_; rintro e w2 ⟨rfl, rfl⟩
    go_wp2_with fail
    go_region
    all_goals go_wp2_with fail
    all_goals
      go_end0
      refine ⟨rfl, K.out _ ?_⟩; omega
end Go.Proofs.Ytojlceoeacebmaa
/- Plain facts on a reader of records, without the model: what each call makes of the disk, the budget and the reader. -/
namespace Go.Proofs.Ytojlceoeacebmaa
open Go.RowKit FsPlain CrcPlain OctPlain FramePlain RecPlain
set_option linter.unusedVariables false
set_option linter.unusedSimpArgs false
set_option maxRecDepth 20000
namespace RdPlain
/-- A reader: its file's name, its records' size, where it is, how many bytes are left, those that wait, all that were read, how many were told; whether it is open, went wrong, came to the end, had a short block; its end. -/
structure Rs where
  nm : ByteArray
  size : Int
  pos : Nat
  left : Nat
  queue : List ByteArray
  all : List ByteArray
  told : Nat
  opn : Bool
  bad : Bool
  whole : Bool
  short : Bool
  ec : Int
  em : Int
/-- A disk, a budget, a reader. -/
structure N3 where
  s : St
  b : Bu
  x : Rs
def shutN (m : N3) : N3 := if m.x.opn = true then ⟨m.s, m.b.give 4, { m.x with opn := false }⟩ else m
def N3.isBad (m : N3) : N3 := ⟨m.s, m.b, { m.x with bad := true }⟩
def wrongN (m : N3) : N3 := shutN m.isBad
def closeN (m : N3) : N3 := if m.x.opn = true then wrongN m else m
/-- How many bytes are read next. -/
def askN (x : Rs) : Nat := min x.left (max 17 (roomN x.size).toNat)
def bytesN (m : N3) : ByteArray := bs (readR m.s m.x.nm.data.toList m.x.pos (askN m.x)).1
def errN (m : N3) : Int := (readR m.s m.x.nm.data.toList m.x.pos (askN m.x)).2
/-- The disk was asked. -/
def N3.asked (m : N3) : N3 := ⟨m.s.call, m.b, m.x⟩
/-- The end was read. -/
def N3.ended (m : N3) (t : ByteArray) : N3 := ⟨m.s, m.b, { m.x with whole := true, ec := eC t, em := eM t }⟩
/-- A block was read. -/
def N3.filled (m : N3) (t : ByteArray) : N3 := ⟨m.s, m.b, { m.x with short := decide ((gL m.x.size t).length < 4), queue := gL m.x.size t, all := m.x.all ++ gL m.x.size t, pos := m.x.pos + (gN m.x.size t).toNat, left := m.x.left - (gN m.x.size t).toNat }⟩
/-- The first of those that wait is told. -/
def N3.popped (m : N3) : N3 := ⟨m.s, m.b, { m.x with queue := m.x.queue.tail, told := m.x.told + 1 }⟩
/-- These bytes are the end of all that was read. -/
def isEnd (x : Rs) (t : ByteArray) : Prop := gB x.size t = false ∧ eB t = true ∧ t.size = x.left ∧ eC t = (x.all.length : Int) ∧ eM t = (sumN x.all : Nat)
instance (x : Rs) (t : ByteArray) : Decidable (isEnd x t) := by unfold isEnd; infer_instance
/-- What Next answers: a record, whether there is one, an error. -/
abbrev Ans := ByteArray × Bool × Int
def noneA (e : Int) : Ans := (⟨#[]⟩, false, e)
def popN (m : N3) : N3 × Ans := (m.popped, (m.x.queue.headD ⟨#[]⟩, true, 0))
def fillN (m : N3) : N3 × Ans :=
  if ¬ errN m = 0 then (wrongN m.asked, noneA (errN m))
  else if isEnd m.x (bytesN m) then (shutN (m.asked.ended (bytesN m)), noneA 0)
  else if gB m.x.size (bytesN m) = false ∨ m.x.short = true then (wrongN m.asked, noneA 6)
  else popN (m.asked.filled (bytesN m))
def nextN (m : N3) : N3 × Ans :=
  if m.x.opn = false then (m, noneA (if m.x.bad = true then 14 else 0))
  else if m.x.queue = [] then fillN m
  else popN m
def newRs (nm : ByteArray) (size : Int) (left : Nat) : Rs := ⟨nm, size, 11, left, [], [], 0, true, false, false, false, 0, 0⟩
/-- What Open leaves of the disk and the budget, its error, and how many bytes are left. -/
def openN (s : St) (b : Bu) (nm : ByteArray) (size : Int) : St × Bu × Int × Nat :=
  if sizeB size = false then (s, b, 1, 0)
  else if ¬ b.takeE 4 = 0 then (s, b.take 4, b.takeE 4, 0)
  else if ¬ (sizeR s nm.data.toList).2 = 0 then (s.call, (b.take 4).give 4, (sizeR s nm.data.toList).2, 0)
  else if (sizeR s nm.data.toList).1 < 11 then (s.call, (b.take 4).give 4, 6, 0)
  else if ¬ (readR s.call nm.data.toList 0 11).2 = 0 then (s.call.call, (b.take 4).give 4, (readR s.call nm.data.toList 0 11).2, 0)
  else if ¬ (ghB (bs (readR s.call nm.data.toList 0 11).1) = true ∧ ghN (bs (readR s.call nm.data.toList 0 11).1) = size) then (s.call.call, (b.take 4).give 4, 6, 0)
  else (s.call.call, b.take 4, 0, (sizeR s nm.data.toList).1.toNat - 11)
/-- What holds of a reader on the way. -/
structure N3.ok (m : N3) : Prop where
  s : m.s.ok
  b : m.b.ok
  n1 : m.x.nm.size ≤ 24
  n2 : rightB m.x.nm.data.toList = true
  z : sizeB m.x.size = true
  az : ∀ r ∈ m.x.all, r.size ≤ 1000
  fit : m.x.pos + m.x.left ≤ 16777216
  cnt : m.x.all.length = m.x.told + m.x.queue.length
  ql : m.x.queue.length ≤ 4
theorem ok_shutN {m : N3} (h : m.ok) : (shutN m).ok := by
  unfold shutN
  split
  · exact ⟨h.s, Bu.give_ok h.b 4, h.n1, h.n2, h.z, h.az, h.fit, h.cnt, h.ql⟩
  · exact h
theorem ok_isBad {m : N3} (h : m.ok) : m.isBad.ok := ⟨h.s, h.b, h.n1, h.n2, h.z, h.az, h.fit, h.cnt, h.ql⟩
theorem ok_wrongN {m : N3} (h : m.ok) : (wrongN m).ok := ok_shutN (ok_isBad h)
theorem ok_asked {m : N3} (h : m.ok) : m.asked.ok := ⟨ok_call h.s, h.b, h.n1, h.n2, h.z, h.az, h.fit, h.cnt, h.ql⟩
theorem ok_ended {m : N3} (h : m.ok) (t : ByteArray) : (m.ended t).ok := ⟨h.s, h.b, h.n1, h.n2, h.z, h.az, h.fit, h.cnt, h.ql⟩
theorem ok_popped {m : N3} (h : m.ok) (hq : m.x.queue ≠ []) : m.popped.ok := by
  obtain ⟨r, q, hr⟩ := List.exists_cons_of_ne_nil hq
  have h1 := h.cnt
  have h2 := h.ql
  refine ⟨h.s, h.b, h.n1, h.n2, h.z, h.az, h.fit, ?_, ?_⟩
  · show m.x.all.length = m.x.told + 1 + m.x.queue.tail.length; rw [hr] at h1 ⊢; simp at h1 ⊢; omega
  · show m.x.queue.tail.length ≤ 4; rw [hr] at h2 ⊢; simp at h2 ⊢; omega
theorem ok_closeN {m : N3} (h : m.ok) : (closeN m).ok := by
  unfold closeN; split
  · exact ok_wrongN h
  · exact h
/-- What was read is as long as was asked. -/
theorem bytesN_size {m : N3} (h : errN m = 0) : (bytesN m).size = askN m.x := by
  unfold errN at h
  unfold bytesN
  rw [bs_size]
  unfold readR at h ⊢
  split at h
  · simp at h
  · rename_i h1
    rw [if_neg h1]
    split at h
    · simp at h
    · rename_i f hf
      split at h
      · simp at h
      · rename_i h2
        rw [if_neg h2]
        simp
        omega
theorem gL_size {size : Int} {t : ByteArray} (h : gB size t = true) : 1 ≤ (gL size t).length ∧ (gL size t).length ≤ 4 ∧ ∀ r ∈ gL size t, (r.size : Int) = size := by
  obtain ⟨h1, _⟩ := get_is h
  unfold blkB at h1
  simp only [Bool.and_eq_true, decide_eq_true_eq] at h1
  exact ⟨h1.1.2.1, h1.1.2.2, allB_iff.1 h1.2⟩
theorem ok_filled {m : N3} (h : m.ok) {t : ByteArray} (hb : gB m.x.size t = true) (ht : t.size ≤ m.x.left) (hq : m.x.queue = []) : (m.filled t).ok ∧ (m.filled t).x.queue ≠ [] := by
  obtain ⟨h1, h2, h3⟩ := gL_size hb
  obtain ⟨_, n, hn, hn2, _⟩ := get_is hb
  have hz : 1 ≤ m.x.size ∧ m.x.size ≤ 64 := by simpa [sizeB] using h.z
  have hf := h.fit
  have hc := h.cnt
  refine ⟨⟨h.s, h.b, h.n1, h.n2, h.z, ?_, ?_, ?_, h2⟩, fun e => ?_⟩
  · intro r hr
    rcases List.mem_append.1 hr with hr | hr
    · exact h.az r hr
    · have := h3 r hr; omega
  · show m.x.pos + (gN m.x.size t).toNat + (m.x.left - (gN m.x.size t).toNat) ≤ _
    rw [hn]; simp only [Int.toNat_natCast]; omega
  · show (m.x.all ++ gL m.x.size t).length = m.x.told + (gL m.x.size t).length
    rw [List.length_append, hc, hq]; simp
  · have e2 : gL m.x.size t = [] := e
    rw [e2] at h1; simp at h1
theorem ask_left (x : Rs) : askN x ≤ x.left := Nat.min_le_left _ _
theorem ok_fillN {m : N3} (h : m.ok) (hq : m.x.queue = []) : (fillN m).1.ok := by
  unfold fillN
  split
  · exact ok_wrongN (ok_asked h)
  · rename_i h0
    have hs := bytesN_size (m := m) (by simpa using h0)
    split
    · exact ok_shutN (ok_ended (ok_asked h) _)
    · split
      · exact ok_wrongN (ok_asked h)
      · rename_i h2
        have hb : gB m.x.size (bytesN m) = true := by
          cases hb : gB m.x.size (bytesN m)
          · exact absurd (.inl hb) h2
          · rfl
        obtain ⟨k1, k2⟩ := ok_filled (m := m.asked) (ok_asked h) hb (by rw [hs]; exact ask_left _) hq
        exact ok_popped k1 k2
theorem ok_nextN {m : N3} (h : m.ok) : (nextN m).1.ok := by
  unfold nextN
  split
  · exact h
  · split
    · rename_i hq; exact ok_fillN h hq
    · rename_i hq; exact ok_popped h hq
theorem shutN_calls (m : N3) : (shutN m).s.calls = m.s.calls ∧ (shutN m).x.told = m.x.told := by unfold shutN; split <;> exact ⟨rfl, rfl⟩
theorem nextN_calls (m : N3) : m.s.calls ≤ (nextN m).1.s.calls ∧ (nextN m).1.s.calls ≤ m.s.calls + 1 ∧ (nextN m).1.x.told ≤ m.x.told + 1 := by
  have h1 : (wrongN m.asked).s.calls = m.s.calls + 1 ∧ (wrongN m.asked).x.told = m.x.told := shutN_calls _
  unfold nextN
  split
  · simp only []; omega
  · split
    · unfold fillN
      split
      · simp only []; omega
      · split
        · have h2 : (shutN (m.asked.ended (bytesN m))).s.calls = m.s.calls + 1 ∧ (shutN (m.asked.ended (bytesN m))).x.told = m.x.told := shutN_calls _
          simp only []; omega
        · split
          · simp only []; omega
          · show m.s.calls ≤ m.s.calls + 1 ∧ m.s.calls + 1 ≤ m.s.calls + 1 ∧ m.x.told + 1 ≤ m.x.told + 1; omega
    · show m.s.calls ≤ m.s.calls ∧ m.s.calls ≤ m.s.calls + 1 ∧ m.x.told + 1 ≤ m.x.told + 1; omega
theorem closeN_calls (m : N3) : (closeN m).s.calls = m.s.calls ∧ (closeN m).x.told = m.x.told := by
  unfold closeN; split
  · exact shutN_calls _
  · exact ⟨rfl, rfl⟩
theorem openN_calls (s : St) (b : Bu) (nm : ByteArray) (size : Int) : s.calls ≤ (openN s b nm size).1.calls ∧ (openN s b nm size).1.calls ≤ s.calls + 2 := by
  have h1 : s.call.calls = s.calls + 1 := rfl
  have h2 : s.call.call.calls = s.calls + 2 := by show s.calls + 1 + 1 = _; omega
  unfold openN
  repeat' split
  all_goals simp only []; omega
theorem sizeR_le {s : St} (hs : s.ok) (n : List UInt8) : (sizeR s n).1 ≤ 16777216 := by
  unfold sizeR
  split
  · simp
  · split
    · simp
    · rename_i f hf
      have h1 := used_le (get_mem hf)
      have h2 := hs.u
      have h3 := hs.r1
      simp only []; omega
/-- What holds if a reader is made. -/
theorem openN_yes {s : St} {b : Bu} {nm : ByteArray} {size : Int} (h0 : (openN s b nm size).2.2.1 = 0) : sizeB size = true ∧ b.takeE 4 = 0 ∧ (sizeR s nm.data.toList).2 = 0 ∧ 11 ≤ (sizeR s nm.data.toList).1 ∧ (readR s.call nm.data.toList 0 11).2 = 0 ∧ ghB (bs (readR s.call nm.data.toList 0 11).1) = true ∧ ghN (bs (readR s.call nm.data.toList 0 11).1) = size ∧ openN s b nm size = (s.call.call, b.take 4, 0, (sizeR s nm.data.toList).1.toNat - 11) := by
  unfold openN at h0 ⊢
  split at h0
  · simp at h0
  · rename_i h1
    rw [if_neg h1]
    split at h0
    · rename_i h2; exact absurd h0 h2
    · rename_i h2
      rw [if_neg h2]
      split at h0
      · rename_i h3; exact absurd h0 h3
      · rename_i h3
        rw [if_neg h3]
        split at h0
        · simp at h0
        · rename_i h4
          rw [if_neg h4]
          split at h0
          · rename_i h5; exact absurd h0 h5
          · rename_i h5
            rw [if_neg h5]
            split at h0
            · simp at h0
            · rename_i h6
              rw [if_neg h6]
              have h6' := Decidable.not_not.1 h6
              exact ⟨by simpa using h1, Decidable.not_not.1 h2, Decidable.not_not.1 h3, by omega, Decidable.not_not.1 h5, h6'.1, h6'.2, rfl⟩
/-- What is made. -/
theorem openN_ok {s : St} {b : Bu} {nm : ByteArray} {size : Int} (hs : s.ok) (hb : b.ok) (hn : nm.size ≤ 24) (hm : rightB nm.data.toList = true) (h0 : (openN s b nm size).2.2.1 = 0) : (N3.mk (openN s b nm size).1 (openN s b nm size).2.1 (newRs nm size (openN s b nm size).2.2.2)).ok := by
  obtain ⟨h1, h2, h3, h4, h5, h6, h7, e⟩ := openN_yes h0
  have hl := sizeR_le hs nm.data.toList
  rw [e]
  refine ⟨ok_call (ok_call hs), Bu.take_ok hb 4, hn, hm, h1, (fun r hr => by cases hr), ?_, rfl, Nat.zero_le _⟩
  show 11 + ((sizeR s nm.data.toList).1.toNat - 11) ≤ 16777216
  omega
end RdPlain
end Go.Proofs.Ytojlceoeacebmaa

/- In one text: RdPlain, Sep, Row, Que. -/
import Derived.Test.YtpmglnghnelenaaGreatP00
import Derived.Test.YtpmglnghnelenaaGreatP07
import Derived.Test.YtpmglnghnelenaaGreatP06
import Derived.Test.YtpmglnghnelenaaGreatP08
import Derived.Maps.AppendAt
import Derived.Test.YtpmglnghnelenaaGreatP02
/- Plain facts on a reader of records, without the model: what each call makes of the disk, the budget and the reader. -/
namespace Go.Proofs.YtpmglnghnelenaaGreat
open Go.RowKit FsPlain CrcPlain OctPlain FramePlain RecPlain
set_option linter.unusedVariables false
set_option linter.unusedSimpArgs false
set_option maxRecDepth 20000
namespace RdPlain
/-- A reader: its file's name, its records' size, where it is, how many bytes are left, those that wait, all that were read, how many were told; whether it is open, went wrong, came to the end, had a short block; its end. -/
structure Rs where
  nm : ByteArray
  size : Int
  pos : Nat
  left : Nat
  queue : List ByteArray
  all : List ByteArray
  told : Nat
  opn : Bool
  bad : Bool
  whole : Bool
  short : Bool
  ec : Int
  em : Int
/-- A disk, a budget, a reader. -/
structure N3 where
  s : St
  b : Bu
  x : Rs
def shutN (m : N3) : N3 := if m.x.opn = true then ⟨m.s, m.b.give 4, { m.x with opn := false }⟩ else m
def N3.isBad (m : N3) : N3 := ⟨m.s, m.b, { m.x with bad := true }⟩
def wrongN (m : N3) : N3 := shutN m.isBad
def closeN (m : N3) : N3 := if m.x.opn = true then wrongN m else m
/-- How many bytes are read next. -/
def askN (x : Rs) : Nat := min x.left (max 17 (roomN x.size).toNat)
def bytesN (m : N3) : ByteArray := bs (readR m.s m.x.nm.data.toList m.x.pos (askN m.x)).1
def errN (m : N3) : Int := (readR m.s m.x.nm.data.toList m.x.pos (askN m.x)).2
/-- The disk was asked. -/
def N3.asked (m : N3) : N3 := ⟨m.s.call, m.b, m.x⟩
/-- The end was read. -/
def N3.ended (m : N3) (t : ByteArray) : N3 := ⟨m.s, m.b, { m.x with whole := true, ec := eC t, em := eM t }⟩
/-- A block was read. -/
def N3.filled (m : N3) (t : ByteArray) : N3 := ⟨m.s, m.b, { m.x with short := decide ((gL m.x.size t).length < 4), queue := gL m.x.size t, all := m.x.all ++ gL m.x.size t, pos := m.x.pos + (gN m.x.size t).toNat, left := m.x.left - (gN m.x.size t).toNat }⟩
/-- The first of those that wait is told. -/
def N3.popped (m : N3) : N3 := ⟨m.s, m.b, { m.x with queue := m.x.queue.tail, told := m.x.told + 1 }⟩
/-- These bytes are the end of all that was read. -/
def isEnd (x : Rs) (t : ByteArray) : Prop := gB x.size t = false ∧ eB t = true ∧ t.size = x.left ∧ eC t = (x.all.length : Int) ∧ eM t = (sumN x.all : Nat)
instance (x : Rs) (t : ByteArray) : Decidable (isEnd x t) := by unfold isEnd; infer_instance
/-- What Next answers: a record, whether there is one, an error. -/
abbrev Ans := ByteArray × Bool × Int
def noneA (e : Int) : Ans := (⟨#[]⟩, false, e)
def popN (m : N3) : N3 × Ans := (m.popped, (m.x.queue.headD ⟨#[]⟩, true, 0))
def fillN (m : N3) : N3 × Ans :=
  if ¬ errN m = 0 then (wrongN m.asked, noneA (errN m))
  else if isEnd m.x (bytesN m) then (shutN (m.asked.ended (bytesN m)), noneA 0)
  else if gB m.x.size (bytesN m) = false ∨ m.x.short = true then (wrongN m.asked, noneA 6)
  else popN (m.asked.filled (bytesN m))
def nextN (m : N3) : N3 × Ans :=
  if m.x.opn = false then (m, noneA (if m.x.bad = true then 14 else 0))
  else if m.x.queue = [] then fillN m
  else popN m
def newRs (nm : ByteArray) (size : Int) (left : Nat) : Rs := ⟨nm, size, 11, left, [], [], 0, true, false, false, false, 0, 0⟩
/-- What Open leaves of the disk and the budget, its error, and how many bytes are left. -/
def openN (s : St) (b : Bu) (nm : ByteArray) (size : Int) : St × Bu × Int × Nat :=
  if sizeB size = false then (s, b, 1, 0)
  else if ¬ b.takeE 4 = 0 then (s, b.take 4, b.takeE 4, 0)
  else if ¬ (sizeR s nm.data.toList).2 = 0 then (s.call, (b.take 4).give 4, (sizeR s nm.data.toList).2, 0)
  else if (sizeR s nm.data.toList).1 < 11 then (s.call, (b.take 4).give 4, 6, 0)
  else if ¬ (readR s.call nm.data.toList 0 11).2 = 0 then (s.call.call, (b.take 4).give 4, (readR s.call nm.data.toList 0 11).2, 0)
  else if ¬ (ghB (bs (readR s.call nm.data.toList 0 11).1) = true ∧ ghN (bs (readR s.call nm.data.toList 0 11).1) = size) then (s.call.call, (b.take 4).give 4, 6, 0)
  else (s.call.call, b.take 4, 0, (sizeR s nm.data.toList).1.toNat - 11)
/-- What holds of a reader on the way. -/
structure N3.ok (m : N3) : Prop where
  s : m.s.ok
  b : m.b.ok
  n1 : m.x.nm.size ≤ 24
  n2 : rightB m.x.nm.data.toList = true
  z : sizeB m.x.size = true
  az : ∀ r ∈ m.x.all, r.size ≤ 1000
  fit : m.x.pos + m.x.left ≤ 16777216
  cnt : m.x.all.length = m.x.told + m.x.queue.length
  ql : m.x.queue.length ≤ 4
theorem ok_shutN {m : N3} (h : m.ok) : (shutN m).ok := by
  unfold shutN
  split
  · exact ⟨h.s, Bu.give_ok h.b 4, h.n1, h.n2, h.z, h.az, h.fit, h.cnt, h.ql⟩
  · exact h
theorem ok_isBad {m : N3} (h : m.ok) : m.isBad.ok := ⟨h.s, h.b, h.n1, h.n2, h.z, h.az, h.fit, h.cnt, h.ql⟩
theorem ok_wrongN {m : N3} (h : m.ok) : (wrongN m).ok := ok_shutN (ok_isBad h)
theorem ok_asked {m : N3} (h : m.ok) : m.asked.ok := ⟨ok_call h.s, h.b, h.n1, h.n2, h.z, h.az, h.fit, h.cnt, h.ql⟩
theorem ok_ended {m : N3} (h : m.ok) (t : ByteArray) : (m.ended t).ok := ⟨h.s, h.b, h.n1, h.n2, h.z, h.az, h.fit, h.cnt, h.ql⟩
theorem ok_popped {m : N3} (h : m.ok) (hq : m.x.queue ≠ []) : m.popped.ok := by
  obtain ⟨r, q, hr⟩ := List.exists_cons_of_ne_nil hq
  have h1 := h.cnt
  have h2 := h.ql
  refine ⟨h.s, h.b, h.n1, h.n2, h.z, h.az, h.fit, ?_, ?_⟩
  · show m.x.all.length = m.x.told + 1 + m.x.queue.tail.length; rw [hr] at h1 ⊢; simp at h1 ⊢; omega
  · show m.x.queue.tail.length ≤ 4; rw [hr] at h2 ⊢; simp at h2 ⊢; omega
theorem ok_closeN {m : N3} (h : m.ok) : (closeN m).ok := by
  unfold closeN; split
  · exact ok_wrongN h
  · exact h
/-- What was read is as long as was asked. -/
theorem bytesN_size {m : N3} (h : errN m = 0) : (bytesN m).size = askN m.x := by
  unfold errN at h
  unfold bytesN
  rw [bs_size]
  unfold readR at h ⊢
  split at h
  · simp at h
  · rename_i h1
    rw [if_neg h1]
    split at h
    · simp at h
    · rename_i f hf
      split at h
      · simp at h
      · rename_i h2
        rw [if_neg h2]
        simp
        omega
theorem gL_size {size : Int} {t : ByteArray} (h : gB size t = true) : 1 ≤ (gL size t).length ∧ (gL size t).length ≤ 4 ∧ ∀ r ∈ gL size t, (r.size : Int) = size := by
  obtain ⟨h1, _⟩ := get_is h
  unfold blkB at h1
  simp only [Bool.and_eq_true, decide_eq_true_eq] at h1
  exact ⟨h1.1.2.1, h1.1.2.2, allB_iff.1 h1.2⟩
theorem ok_filled {m : N3} (h : m.ok) {t : ByteArray} (hb : gB m.x.size t = true) (ht : t.size ≤ m.x.left) (hq : m.x.queue = []) : (m.filled t).ok ∧ (m.filled t).x.queue ≠ [] := by
  obtain ⟨h1, h2, h3⟩ := gL_size hb
  obtain ⟨_, n, hn, hn2, _⟩ := get_is hb
  have hz : 1 ≤ m.x.size ∧ m.x.size ≤ 64 := by simpa [sizeB] using h.z
  have hf := h.fit
  have hc := h.cnt
  refine ⟨⟨h.s, h.b, h.n1, h.n2, h.z, ?_, ?_, ?_, h2⟩, fun e => ?_⟩
  · intro r hr
    rcases List.mem_append.1 hr with hr | hr
    · exact h.az r hr
    · have := h3 r hr; omega
  · show m.x.pos + (gN m.x.size t).toNat + (m.x.left - (gN m.x.size t).toNat) ≤ _
    rw [hn]; simp only [Int.toNat_natCast]; omega
  · show (m.x.all ++ gL m.x.size t).length = m.x.told + (gL m.x.size t).length
    rw [List.length_append, hc, hq]; simp
  · have e2 : gL m.x.size t = [] := e
    rw [e2] at h1; simp at h1
theorem ask_left (x : Rs) : askN x ≤ x.left := Nat.min_le_left _ _
theorem ok_fillN {m : N3} (h : m.ok) (hq : m.x.queue = []) : (fillN m).1.ok := by
  unfold fillN
  split
  · exact ok_wrongN (ok_asked h)
  · rename_i h0
    have hs := bytesN_size (m := m) (by simpa using h0)
    split
    · exact ok_shutN (ok_ended (ok_asked h) _)
    · split
      · exact ok_wrongN (ok_asked h)
      · rename_i h2
        have hb : gB m.x.size (bytesN m) = true := by
          cases hb : gB m.x.size (bytesN m)
          · exact absurd (.inl hb) h2
          · rfl
        obtain ⟨k1, k2⟩ := ok_filled (m := m.asked) (ok_asked h) hb (by rw [hs]; exact ask_left _) hq
        exact ok_popped k1 k2
theorem ok_nextN {m : N3} (h : m.ok) : (nextN m).1.ok := by
  unfold nextN
  split
  · exact h
  · split
    · rename_i hq; exact ok_fillN h hq
    · rename_i hq; exact ok_popped h hq
theorem shutN_calls (m : N3) : (shutN m).s.calls = m.s.calls ∧ (shutN m).x.told = m.x.told := by unfold shutN; split <;> exact ⟨rfl, rfl⟩
theorem nextN_calls (m : N3) : m.s.calls ≤ (nextN m).1.s.calls ∧ (nextN m).1.s.calls ≤ m.s.calls + 1 ∧ (nextN m).1.x.told ≤ m.x.told + 1 := by
  have h1 : (wrongN m.asked).s.calls = m.s.calls + 1 ∧ (wrongN m.asked).x.told = m.x.told := shutN_calls _
  unfold nextN
  split
  · simp only []; omega
  · split
    · unfold fillN
      split
      · simp only []; omega
      · split
        · have h2 : (shutN (m.asked.ended (bytesN m))).s.calls = m.s.calls + 1 ∧ (shutN (m.asked.ended (bytesN m))).x.told = m.x.told := shutN_calls _
          simp only []; omega
        · split
          · simp only []; omega
          · show m.s.calls ≤ m.s.calls + 1 ∧ m.s.calls + 1 ≤ m.s.calls + 1 ∧ m.x.told + 1 ≤ m.x.told + 1; omega
    · show m.s.calls ≤ m.s.calls ∧ m.s.calls ≤ m.s.calls + 1 ∧ m.x.told + 1 ≤ m.x.told + 1; omega
theorem closeN_calls (m : N3) : (closeN m).s.calls = m.s.calls ∧ (closeN m).x.told = m.x.told := by
  unfold closeN; split
  · exact shutN_calls _
  · exact ⟨rfl, rfl⟩
theorem openN_calls (s : St) (b : Bu) (nm : ByteArray) (size : Int) : s.calls ≤ (openN s b nm size).1.calls ∧ (openN s b nm size).1.calls ≤ s.calls + 2 := by
  have h1 : s.call.calls = s.calls + 1 := rfl
  have h2 : s.call.call.calls = s.calls + 2 := by show s.calls + 1 + 1 = _; omega
  unfold openN
  repeat' split
  all_goals simp only []; omega
theorem sizeR_le {s : St} (hs : s.ok) (n : List UInt8) : (sizeR s n).1 ≤ 16777216 := by
  unfold sizeR
  split
  · simp
  · split
    · simp
    · rename_i f hf
      have h1 := used_le (get_mem hf)
      have h2 := hs.u
      have h3 := hs.r1
      simp only []; omega
/-- What holds if a reader is made. -/
theorem openN_yes {s : St} {b : Bu} {nm : ByteArray} {size : Int} (h0 : (openN s b nm size).2.2.1 = 0) : sizeB size = true ∧ b.takeE 4 = 0 ∧ (sizeR s nm.data.toList).2 = 0 ∧ 11 ≤ (sizeR s nm.data.toList).1 ∧ (readR s.call nm.data.toList 0 11).2 = 0 ∧ ghB (bs (readR s.call nm.data.toList 0 11).1) = true ∧ ghN (bs (readR s.call nm.data.toList 0 11).1) = size ∧ openN s b nm size = (s.call.call, b.take 4, 0, (sizeR s nm.data.toList).1.toNat - 11) := by
  unfold openN at h0 ⊢
  split at h0
  · simp at h0
  · rename_i h1
    rw [if_neg h1]
    split at h0
    · rename_i h2; exact absurd h0 h2
    · rename_i h2
      rw [if_neg h2]
      split at h0
      · rename_i h3; exact absurd h0 h3
      · rename_i h3
        rw [if_neg h3]
        split at h0
        · simp at h0
        · rename_i h4
          rw [if_neg h4]
          split at h0
          · rename_i h5; exact absurd h0 h5
          · rename_i h5
            rw [if_neg h5]
            split at h0
            · simp at h0
            · rename_i h6
              rw [if_neg h6]
              have h6' := Decidable.not_not.1 h6
              exact ⟨by simpa using h1, Decidable.not_not.1 h2, Decidable.not_not.1 h3, by omega, Decidable.not_not.1 h5, h6'.1, h6'.2, rfl⟩
/-- What is made. -/
theorem openN_ok {s : St} {b : Bu} {nm : ByteArray} {size : Int} (hs : s.ok) (hb : b.ok) (hn : nm.size ≤ 24) (hm : rightB nm.data.toList = true) (h0 : (openN s b nm size).2.2.1 = 0) : (N3.mk (openN s b nm size).1 (openN s b nm size).2.1 (newRs nm size (openN s b nm size).2.2.2)).ok := by
  obtain ⟨h1, h2, h3, h4, h5, h6, h7, e⟩ := openN_yes h0
  have hl := sizeR_le hs nm.data.toList
  rw [e]
  refine ⟨ok_call (ok_call hs), Bu.take_ok hb 4, hn, hm, h1, (fun r hr => by cases hr), ?_, rfl, Nat.zero_le _⟩
  show 11 + ((sizeR s nm.data.toList).1.toNat - 11) ≤ 16777216
  omega
end RdPlain
end Go.Proofs.YtpmglnghnelenaaGreat
/- What holds of a world in some of its blocks, and of two parts that lie apart: a call that turns the one part leaves the other. -/
namespace Go.Proofs.YtpmglnghnelenaaGreat
open Go.RowKit
set_option linter.unusedVariables false
set_option linter.unusedSimpArgs false
set_option maxRecDepth 20000
/-- Said of a world, and of the blocks in which it lies. -/
abbrev Asn := World → (Nat → Prop) → Prop
/-- It stays while other blocks are written, and its blocks are there. -/
structure Fr (P : Asn) : Prop where
  fr : ∀ {w w' : World} {B C : Nat → Prop}, P w B → Only C w w' → (∀ b, B b → ¬ C b) → P w' B
  lo : ∀ {w : World} {B : Nat → Prop}, P w B → ∀ b, B b → b < w.heap.size
/-- Behind a call that may write B's blocks: at most they were, and what lies in B' is theirs, or new. -/
structure Nx (B : Nat → Prop) (w : World) (B' : Nat → Prop) (w' : World) : Prop where
  only : Only B w w'
  new : ∀ b, B' b → B b ∨ w.heap.size ≤ b
theorem Nx.refl (B : Nat → Prop) (w : World) : Nx B w B w := ⟨Only.refl _ _, fun _ h => .inl h⟩
theorem Nx.trans {B B1 B2 : Nat → Prop} {w w1 w2 : World} (h : Nx B w B1 w1) (k : Nx B1 w1 B2 w2) : Nx B w B2 w2 :=
  ⟨h.only.andThen k.only h.new, fun b hb => by
    rcases k.new b hb with h1 | h1
    · exact h.new b h1
    · exact .inr (Nat.le_trans h.only.size h1)⟩
theorem Nx.gr {B : Nat → Prop} {w w' : World} (g : Gr w w') : Nx B w B w' := ⟨Only.ofGr g, fun _ h => .inl h⟩
theorem Nx.of {B C : Nat → Prop} {w w' : World} (g : Only C w w') (hC : ∀ b, C b → B b) : Nx B w B w' := ⟨g.mono hC, fun _ h => .inl h⟩
/-- Parts that lie apart. -/
def star (P Q : Asn) : Asn := fun w B => ∃ B1 B2, P w B1 ∧ Q w B2 ∧ (∀ b, B1 b → ¬ B2 b) ∧ ∀ b, B b ↔ B1 b ∨ B2 b
theorem Fr.star {P Q : Asn} (h : Fr P) (k : Fr Q) : Fr (star P Q) where
  fr := fun ⟨B1, B2, p, q, a, e⟩ o d => ⟨B1, B2, h.fr p o fun b hb => d b ((e b).2 (.inl hb)), k.fr q o fun b hb => d b ((e b).2 (.inr hb)), a, e⟩
  lo := fun ⟨B1, B2, p, q, a, e⟩ b hb => by
    rcases (e b).1 hb with h1 | h1
    · exact h.lo p b h1
    · exact k.lo q b h1
theorem star_swap {P Q : Asn} {w : World} {B : Nat → Prop} (h : star P Q w B) : star Q P w B := by
  obtain ⟨B1, B2, p, q, a, e⟩ := h
  exact ⟨B2, B1, q, p, fun b h2 h1 => a b h1 h2, fun b => (e b).trans Or.comm⟩
theorem star_left {P Q R : Asn} {w : World} {B : Nat → Prop} (h : star (star P Q) R w B) : star P (star Q R) w B := by
  obtain ⟨B1, B2, ⟨C1, C2, p, q, a1, e1⟩, r, a, e⟩ := h
  refine ⟨C1, fun b => C2 b ∨ B2 b, p, ⟨C2, B2, q, r, fun b h2 => a b ((e1 b).2 (.inr h2)), fun _ => Iff.rfl⟩, fun b h1 h2 => ?_, fun b => ?_⟩
  · rcases h2 with h2 | h2
    · exact a1 b h1 h2
    · exact a b ((e1 b).2 (.inl h1)) h2
  · rw [e b, e1 b, or_assoc]
theorem star_right {P Q R : Asn} {w : World} {B : Nat → Prop} (h : star P (star Q R) w B) : star (star P Q) R w B :=
  star_swap (star_left (star_swap (star_left (star_swap h))))
/-- The second of three comes ahead. -/
theorem star_two {P Q R : Asn} {w : World} {B : Nat → Prop} (h : star P (star Q R) w B) : star Q (star P R) w B := by
  obtain ⟨B1, B2, p, ⟨C1, C2, q, r, a1, e1⟩, a, e⟩ := h
  refine ⟨C1, fun b => B1 b ∨ C2 b, q, ⟨B1, C2, p, r, fun b h1 h2 => a b h1 ((e1 b).2 (.inr h2)), fun _ => Iff.rfl⟩, fun b h1 h2 => ?_, fun b => ?_⟩
  · rcases h2 with h2 | h2
    · exact a b h2 ((e1 b).2 (.inl h1))
    · exact a1 b h1 h2
  · rw [e b, e1 b]; exact ⟨fun h => by rcases h with h | h | h <;> simp [h], fun h => by rcases h with h | h | h <;> simp [h]⟩
theorem star_mono {P P' Q : Asn} {w : World} {B : Nat → Prop} (h : star P Q w B) (k : ∀ B1, P w B1 → P' w B1) : star P' Q w B := by
  obtain ⟨B1, B2, p, q, a, e⟩ := h
  exact ⟨B1, B2, k _ p, q, a, e⟩
/-- What a call leaves of the part that it may turn. -/
def Does (w : World) (B : Nat → Prop) (Q : Asn) (v : Value) (e : Ending) (w' : World) : Prop := e = .returned v ∧ ∃ B', Q w' B' ∧ Nx B w B' w'
theorem star_of {Q R : Asn} (hR : Fr R) {w w' : World} {B B1 B2 B' : Nat → Prop} (r : R w B2) (a : ∀ b, B1 b → ¬ B2 b) (e : ∀ b, B b ↔ B1 b ∨ B2 b) (q : Q w' B') (n : Nx B1 w B' w') : ∃ B', star Q R w' B' ∧ Nx B w B' w' := by
  refine ⟨fun b => B' b ∨ B2 b, ⟨B', B2, q, hR.fr r n.only fun b h2 h1 => a b h1 h2, fun b h1 h2 => ?_, fun _ => Iff.rfl⟩, n.only.mono fun b h1 => (e b).2 (.inl h1), fun b hb => ?_⟩
  · rcases n.new b h1 with h3 | h3
    · exact a b h3 h2
    · have := hR.lo r b h2; omega
  · rcases hb with hb | hb
    · rcases n.new b hb with h3 | h3
      · exact .inl ((e b).2 (.inl h3))
      · exact .inr h3
    · exact .inl ((e b).2 (.inr hb))
/-- Of the part that a step turns, and the other one. -/
theorem star_step {P Q R : Asn} (hR : Fr R) {w w' : World} {B : Nat → Prop} (h : star P R w B) (k : ∀ B1, P w B1 → ∃ B', Q w' B' ∧ Nx B1 w B' w') : ∃ B', star Q R w' B' ∧ Nx B w B' w' := by
  obtain ⟨B1, B2, p, r, a, e⟩ := h
  obtain ⟨B', q, n⟩ := k B1 p
  exact star_of hR r a e q n
/-- A call on the first of two parts. -/
theorem does_star {Pr : Program} {P Q R : Asn} {w : World} {B : Nat → Prop} {f : FuncId} {args : Array Value} {v : Value} (hR : Fr R) (h : star P R w B) (k : ∀ B1, P w B1 → Calls Pr f args w (Does w B1 Q v)) :
    Calls Pr f args w (Does w B (star Q R) v) := by
  obtain ⟨B1, B2, p, r, a, e⟩ := h
  refine (k B1 p).mono ?_
  rintro x w' ⟨he, B', q, n⟩
  exact ⟨he, star_of hR r a e q n⟩
/-- A part that is read, in whatever world has at most new blocks. -/
theorem star_gr {P : Asn} (hP : Fr P) {w w' : World} {B : Nat → Prop} (h : P w B) (g : Gr w w') : P w' B := hP.fr h (Only.ofGr (B := fun _ => False) g) (fun _ _ e => e)
/-- A block known whole. -/
def Blk (p : Nat) (c : Array Value) (T : TypeId) : Asn := fun w B => w.heap[p]? = some (.cells c T (0, 0)) ∧ ∀ b, B b ↔ b = p
theorem fr_blk (p : Nat) (c : Array Value) (T : TypeId) : Fr (Blk p c T) where
  fr := fun ⟨h, e⟩ o d => ⟨by rw [o.block p (lt_of_block h) (d p ((e p).2 rfl))]; exact h, e⟩
  lo := fun ⟨h, e⟩ b hb => by rw [(e b).1 hb]; exact lt_of_block h
theorem Does.imp {w w' : World} {B : Nat → Prop} {Q Q' : Asn} {v : Value} {e : Ending} (h : Does w B Q v e w') (k : ∀ B', Q w' B' → Q' w' B') : Does w B Q' v e w' := by
  obtain ⟨he, B', q, n⟩ := h
  exact ⟨he, B', k _ q, n⟩
/-- What another call leaves, behind this one. -/
theorem Does.behind {w w1 w' : World} {B B1 : Nat → Prop} {Q : Asn} {v : Value} {e : Ending} (h : Nx B w B1 w1) (k : Does w1 B1 Q v e w') : Does w B Q v e w' := by
  obtain ⟨he, B', q, n⟩ := k
  exact ⟨he, B', q, h.trans n⟩
/-! Parts in a list. -/
def emp : Asn := fun _ B => ∀ b, ¬ B b
theorem fr_emp : Fr emp := ⟨fun h _ _ => h, fun h b hb => absurd hb (h b)⟩
def stars : List Asn → Asn
  | [] => emp
  | P :: L => star P (stars L)
def Frs : List Asn → Prop
  | [] => True
  | P :: L => Fr P ∧ Frs L
theorem fr_stars : ∀ {L : List Asn}, Frs L → Fr (stars L)
  | [], _ => fr_emp
  | _ :: _, h => h.1.star (fr_stars h.2)
/-- A call on the part at i. -/
theorem does_at {Pr : Program} {f : FuncId} {args : Array Value} {v : Value} {w : World} {P Q : Asn} : ∀ {L : List Asn} (i : Nat) {B : Nat → Prop}, L[i]? = some P → Frs L → stars L w B → (∀ B1, P w B1 → Calls Pr f args w (Does w B1 Q v)) → Calls Pr f args w (Does w B (stars (L.set i Q)) v)
  | [], i, B, hi, _, _, _ => by simp at hi
  | A :: L, 0, B, hi, hF, h, k => by
    obtain rfl : A = P := by simpa using hi
    exact does_star (fr_stars hF.2) h k
  | A :: L, i + 1, B, hi, hF, h, k =>
    (does_star (P := stars L) (Q := stars (L.set i Q)) hF.1 (star_swap h) fun B1 h1 => does_at i (by simpa using hi) hF.2 h1 k).mono fun e w' hd => hd.imp fun B' q => star_swap q
/-- A step on the part at i. -/
theorem step_at {w w' : World} {P Q : Asn} : ∀ {L : List Asn} (i : Nat) {B : Nat → Prop}, L[i]? = some P → Frs L → stars L w B → (∀ B1, P w B1 → ∃ B', Q w' B' ∧ Nx B1 w B' w') → ∃ B', stars (L.set i Q) w' B' ∧ Nx B w B' w'
  | [], i, B, hi, _, _, _ => by simp at hi
  | A :: L, 0, B, hi, hF, h, k => by
    obtain rfl : A = P := by simpa using hi
    exact star_step (fr_stars hF.2) h k
  | A :: L, i + 1, B, hi, hF, h, k => by
    obtain ⟨B', q, n⟩ := star_step (P := stars L) (Q := stars (L.set i Q)) hF.1 (star_swap h) fun B1 h1 => step_at i (by simpa using hi) hF.2 h1 k
    exact ⟨B', star_swap q, n⟩
/-- The part at i. -/
theorem part_at {w : World} {P : Asn} : ∀ {L : List Asn} (i : Nat) {B : Nat → Prop}, L[i]? = some P → stars L w B → ∃ B1, P w B1 ∧ ∀ b, B1 b → B b
  | [], i, B, hi, _ => by simp at hi
  | A :: L, 0, B, hi, h => by
    obtain rfl : A = P := by simpa using hi
    obtain ⟨B1, B2, p, _, _, e⟩ := h
    exact ⟨B1, p, fun b hb => (e b).2 (.inl hb)⟩
  | A :: L, i + 1, B, hi, h => by
    obtain ⟨B1, B2, _, q, _, e⟩ := h
    obtain ⟨B3, p, hB⟩ := part_at i (by simpa using hi) q
    exact ⟨B3, p, fun b hb => (e b).2 (.inr (hB b hb))⟩
theorem stars_gr {L : List Asn} (hF : Frs L) {w w' : World} {B : Nat → Prop} (h : stars L w B) (g : Gr w w') : stars L w' B := star_gr (fr_stars hF) h g
theorem stars_app : ∀ {L M : List Asn} {w : World} {B : Nat → Prop}, stars (L ++ M) w B ↔ star (stars L) (stars M) w B
  | [], M, w, B => ⟨fun h => ⟨fun _ => False, B, (fun b h => h), h, (fun b h => h.elim), fun b => (false_or _).symm ▸ Iff.rfl⟩, fun ⟨B1, B2, p, q, _, e⟩ => by
      have : B2 = B := by funext b; rw [eq_iff_iff, e b]; exact ⟨.inr, fun h => h.resolve_left (p b)⟩
      rw [← this]; exact q⟩
  | A :: L, M, w, B => ⟨fun ⟨B1, B2, p, q, a, e⟩ => star_right ⟨B1, B2, p, stars_app.1 q, a, e⟩, fun h => by
      obtain ⟨B1, B2, p, q, a, e⟩ := star_left h
      exact ⟨B1, B2, p, stars_app.2 q, a, e⟩⟩
/-- A call on the first parts. -/
theorem does_pre {Pr : Program} {f : FuncId} {args : Array Value} {v : Value} {w : World} {B : Nat → Prop} (L : List Asn) {L' M : List Asn} (hM : Frs M) (h : stars (L ++ M) w B) (k : ∀ B1, stars L w B1 → Calls Pr f args w (Does w B1 (stars L') v)) : Calls Pr f args w (Does w B (stars (L' ++ M)) v) :=
  (does_star (fr_stars hM) (stars_app.1 h) k).mono fun e w' hd => hd.imp fun B' q => stars_app.2 q
/-- A call on the last parts. -/
theorem does_suf {Pr : Program} {f : FuncId} {args : Array Value} {v : Value} {w : World} {B : Nat → Prop} (L : List Asn) {M M' : List Asn} (hL : Frs L) (h : stars (L ++ M) w B) (k : ∀ B1, stars M w B1 → Calls Pr f args w (Does w B1 (stars M') v)) : Calls Pr f args w (Does w B (stars (L ++ M')) v) :=
  (does_star (fr_stars hL) (star_swap (stars_app.1 h)) k).mono fun e w' hd => hd.imp fun B' q => stars_app.2 (star_swap q)
/-- The first parts, and what a step on them leaves of all. -/
theorem pre_next {w : World} {B : Nat → Prop} (L : List Asn) {M : List Asn} (hM : Frs M) (h : stars (L ++ M) w B) : ∃ B1, stars L w B1 ∧ ∀ {L' : List Asn} {w' : World} {B' : Nat → Prop}, stars L' w' B' → Nx B1 w B' w' → ∃ B3, stars (L' ++ M) w' B3 ∧ Nx B w B3 w' := by
  obtain ⟨B1, B2, h1, h2, a, e⟩ := stars_app.1 h
  refine ⟨B1, h1, fun {L' w' B'} q n => ?_⟩
  obtain ⟨B3, r, n3⟩ := star_of (fr_stars hM) h2 a e q n
  exact ⟨B3, stars_app.2 r, n3⟩
theorem suf_next {w : World} {B : Nat → Prop} (L : List Asn) {M : List Asn} (hL : Frs L) (h : stars (L ++ M) w B) : ∃ B1, stars M w B1 ∧ ∀ {M' : List Asn} {w' : World} {B' : Nat → Prop}, stars M' w' B' → Nx B1 w B' w' → ∃ B3, stars (L ++ M') w' B3 ∧ Nx B w B3 w' := by
  obtain ⟨B1, B2, h1, h2, a, e⟩ := stars_app.1 h
  refine ⟨B2, h2, fun {M' w' B'} q n => ?_⟩
  obtain ⟨B3, r, n3⟩ := star_of (fr_stars hL) h1 (fun b x y => a b y x) (fun b => (e b).trans Or.comm) q n
  exact ⟨B3, stars_app.2 (star_swap r), n3⟩
/-- A new part. -/
theorem part_new {w w' : World} {P : Asn} {L : List Asn} {B B' : Nat → Prop} (hL : Frs L) (h : stars L w B) (g : Gr w w') (p : P w' B') (hn : ∀ b, B' b → w.heap.size ≤ b) : ∃ B2, stars (P :: L) w' B2 ∧ Nx B w B2 w' :=
  ⟨fun b => B' b ∨ B b, ⟨B', B, p, stars_gr hL h g, fun b h1 h2 => by have := hn b h1; have := (fr_stars hL).lo h b h2; omega, fun _ => Iff.rfl⟩, Only.ofGr g, fun b hb => hb.elim (fun h1 => .inr (hn b h1)) .inl⟩
theorem stars_perm {L M : List Asn} (h : L.Perm M) : ∀ {w : World} {B : Nat → Prop}, stars L w B → stars M w B := by
  induction h with
  | nil => exact fun h => h
  | cons P _ ih => exact fun ⟨B1, B2, p, q, a, e⟩ => ⟨B1, B2, p, ih q, a, e⟩
  | swap P Q L => exact fun h => star_two h
  | trans _ _ h1 h2 => exact fun h => h2 (h1 h)
theorem nx_gr {w w' : World} {B : Nat → Prop} (h : Nx (fun _ => False) w B w') : Gr w w' := h.only.toBelow (Nat.le_refl _) fun _ h => h.elim
end Go.Proofs.YtpmglnghnelenaaGreat
/- A row of one's own as a part of a world; what an append makes of it. -/
namespace Go.Proofs.YtpmglnghnelenaaGreat
open Go.RowKit
set_option linter.unusedVariables false
set_option linter.unusedSimpArgs false
set_option maxRecDepth 20000
/-- A row of elements of a type. -/
def RowE (E : TypeId) (z : Nat) (v : Value) (n : Nat) (xs : List Value) : Asn := fun w B => w.ownsRow 0 E z v n xs ∧ (∀ b, v.ownBlock = some b → B b) ∧ ∀ b, B b → b < w.heap.size
theorem fr_rowE (E : TypeId) (z : Nat) (v : Value) (n : Nat) (xs : List Value) : Fr (RowE E z v n xs) where
  fr := fun {w w' B C} ⟨h, hB, hl⟩ o d => by
    refine ⟨⟨h.1, ?_⟩, hB, fun b hb => Nat.lt_of_lt_of_le (hl b hb) o.size⟩
    rcases h.2 with h3 | ⟨g, cap, cur, rfl, h4, h5, h6⟩
    · exact .inl h3
    · exact .inr ⟨g, cap, cur, rfl, h4, by rw [o.block _ (lt_of_block h5) (d g (hB g rfl))]; exact h5, h6⟩
  lo := fun ⟨_, _, hl⟩ => hl
theorem rowE_nil (E : TypeId) (z : Nat) (w : World) : RowE E z (.slice none 0 0) 0 [] w (fun _ => False) := ⟨World.ownsRow_nil _ _ _ _, (fun b hb => by cases hb), fun b hb => hb.elim⟩
theorem rowE_shape {E : TypeId} {z : Nat} {v : Value} {n : Nat} {xs : List Value} {w : World} {B : Nat → Prop} (h : RowE E z v n xs w B) : ∃ a c, v = .slice a n c ∧ n ≤ c ∧ c ≤ maxLen ∧ (a = none → n = 0) := by
  rcases h.1.2 with ⟨rfl, rfl⟩ | ⟨g, cap, cur, rfl, _, _, h1, h2, _⟩
  · exact ⟨none, 0, rfl, Nat.le_refl _, Nat.zero_le _, fun _ => rfl⟩
  · exact ⟨_, cap, rfl, h1, h2, fun h => by cases h⟩
/-- Behind an append that the walk has met. -/
theorem rowE_next {E : TypeId} {z : Nat} {v v' : Value} {n n' : Nat} {xs xs' : List Value} {w w1 w' : World} {B : Nat → Prop} (h : RowE E z v n xs w B) (g : Gr w w1) (hown : w'.ownsRow 0 E z v' n' xs') (hg : w1.grownBy w' v.ownBlock) (hat : v'.ownBlock = v.ownBlock ∨ v'.ownBlock = some w1.heap.size) :
    ∃ B', RowE E z v' n' xs' w' B' ∧ Nx B w B' w' := by
  obtain ⟨_, hB, hl⟩ := h
  refine ⟨fun b => v'.ownBlock = some b, ⟨hown, fun b hb => hb, fun b hb => (hown.lt b hb).2⟩, ?_, fun b hb => ?_⟩
  · exact (Only.ofGr g).trans (Only.grown hg hB)
  · rcases hat with h1 | h1
    · rw [h1] at hb; exact .inl (hB b hb)
    · rw [h1] at hb; simp only [Option.some.injEq] at hb; rw [← hb]; exact .inr g.size
/-- A row of strings. -/
def RowA (v : Value) (l : List ByteArray) : Asn := RowE 9 1 v l.length (strs l)
theorem fr_row (v : Value) (l : List ByteArray) : Fr (RowA v l) := fr_rowE _ _ _ _ _
theorem row_nil (w : World) : RowA (.slice none 0 0) [] w (fun _ => False) := rowE_nil _ _ w
theorem row_lies {v : Value} {l : List ByteArray} {w : World} {B : Nat → Prop} (h : RowA v l w B) : Lies w v l := lies_own h.1
theorem row_app {v v' : Value} {l : List ByteArray} {r : ByteArray} {w w1 w' : World} {B : Nat → Prop} (h : RowA v l w B) (g : Gr w w1) (hown : w'.ownsRow 0 9 1 v' (l.length + 1) (strs l ++ [.string r])) (hg : w1.grownBy w' v.ownBlock) (hat : v'.ownBlock = v.ownBlock ∨ v'.ownBlock = some w1.heap.size) :
    ∃ B', RowA v' (l ++ [r]) w' B' ∧ Nx B w B' w' := by
  have := rowE_next h g hown hg hat
  unfold RowA
  rwa [List.length_append, List.length_singleton, show strs (l ++ [r]) = strs l ++ [.string r] by simp [strs]]
theorem infoS : (Tryz.prog.info? 9).map (fun i => (i.zero, i.size, i.bytes)) = some (some (.string ⟨#[]⟩), 1, 16) := by kernel_rfl
/-- A store into a block known whole. -/
theorem blk_next {p i : Nat} {c : Array Value} {T : TypeId} {w : World} {B : Nat → Prop} (h : Blk p c T w B) (u : Value) : ∃ B', Blk p (c.setIfInBounds i u) T (w.setCell ⟨p, i, none⟩ u) B' ∧ Nx B w B' (w.setCell ⟨p, i, none⟩ u) :=
  ⟨B, ⟨cells_set h.1 i u, h.2⟩, Nx.of (Only.cell1 _ _ _ _) fun b hb => (h.2 b).2 hb⟩
end Go.Proofs.YtpmglnghnelenaaGreat
/- A slice of strings that nobody writes any more, as a part of a world; what a reader's Next hands out. -/
namespace Go.Proofs.YtpmglnghnelenaaGreat
open Go.RowKit FsPlain CrcPlain OctPlain FramePlain RecPlain RdPlain
set_option linter.unusedVariables false
set_option linter.unusedSimpArgs false
set_option maxRecDepth 20000
/-- A slice of these strings that nobody writes any more. -/
def QueA (v : Value) (l : List ByteArray) : Asn := fun w B => Lies w v l ∧ (∀ b off n c, v = .slice (some ⟨b, off, none⟩) n c → B b) ∧ ∀ b, B b → b < w.heap.size
theorem fr_que (v : Value) (l : List ByteArray) : Fr (QueA v l) where
  fr := fun {w w' B C} ⟨⟨a, c, e, hc, h⟩, hB, hl⟩ o d => by
    refine ⟨⟨a, c, e, hc, h.imp id ?_⟩, hB, fun b hb => Nat.lt_of_lt_of_le (hl b hb) o.size⟩
    rintro ⟨b, off, rfl, hr⟩
    have hb := hB b off _ _ e
    refine ⟨b, off, rfl, Nat.lt_of_lt_of_le hr.1 o.size, fun j x hj => ?_⟩
    rw [o.cell (p := ⟨b, off + j, none⟩) hr.1 (d b hb)]
    exact hr.2 j x hj
  lo := fun ⟨_, _, hl⟩ => hl
theorem que_nil (w : World) : QueA (.slice none 0 0) [] w (fun _ => False) := ⟨⟨none, 0, rfl, Nat.le_refl _, .inl rfl⟩, (fun b off n c e => by cases e), fun b hb => hb.elim⟩
/-- Of a row that is new. -/
theorem que_new {w w' : World} {v : Value} {l : List ByteArray} (h : w'.ownsRow w.heap.size 9 1 v l.length (strs l)) : QueA v l w' (fun b => v.ownBlock = some b) ∧ ∀ b, v.ownBlock = some b → w.heap.size ≤ b := by
  have hl := h.lt
  have L := lies_own h
  refine ⟨⟨L, fun b off n c e => ?_, fun b hb => (hl b hb).2⟩, fun b hb => (hl b hb).1⟩
  rw [e]; rfl
/-- What Next hands out. -/
def ansV (a : Ans) : Value := .tuple #[.string a.1, .bool a.2.1, .int .i64 a.2.2]
theorem que_open {v : Value} {l : List ByteArray} {w : World} {B : Nat → Prop} (h : QueA v l w B) (hl : l ≠ []) : ∃ b off c, v = .slice (some ⟨b, off, none⟩) l.length c ∧ l.length ≤ c ∧ SRow w b off l ∧ B b := by
  obtain ⟨⟨a, c, e, hc, hh⟩, hB, _⟩ := h
  rcases hh with h0 | ⟨b, off, rfl, hr⟩
  · exact absurd h0 hl
  · exact ⟨b, off, c, e, hc, hr, hB b off _ _ e⟩
/-- Without its first one. -/
theorem que_tail {b off n c : Nat} {r : ByteArray} {l : List ByteArray} {w : World} {B : Nat → Prop} (h : QueA (.slice (some ⟨b, off, none⟩) n c) (r :: l) w B) (a : Option Addr) (m k : Nat) (hm : m = l.length) (hk : m ≤ k) (ha : 1 ≤ l.length → a = some ⟨b, off + 1, none⟩) (hz : ∀ b' off', a = some ⟨b', off', none⟩ → b' = b) : QueA (.slice a m k) l w B := by
  have hnil : (r :: l) ≠ [] := by simp
  obtain ⟨b2, off2, c2, e, hc, hr, hb⟩ := que_open h hnil
  simp only [Value.slice.injEq, Option.some.injEq, Addr.mk.injEq, and_true] at e
  obtain ⟨⟨rfl, rfl⟩, _, _⟩ := e
  subst hm
  refine ⟨⟨a, k, rfl, hk, ?_⟩, fun b3 off3 n3 c3 e3 => ?_, h.2.2⟩
  · rcases Nat.eq_zero_or_pos l.length with h0 | h0
    · exact .inl (List.eq_nil_of_length_eq_zero h0)
    · refine .inr ⟨b, off + 1, ha h0, hr.1, fun j x hj => ?_⟩
      have := hr.2 (j + 1) x (by rw [List.getElem?_cons_succ]; exact hj)
      rw [Nat.add_right_comm, Nat.add_assoc]
      rwa [← Nat.add_assoc] at this ⊢
  · simp only [Value.slice.injEq] at e3
    rw [hz b3 off3 e3.1]; exact hb
end Go.Proofs.YtpmglnghnelenaaGreat

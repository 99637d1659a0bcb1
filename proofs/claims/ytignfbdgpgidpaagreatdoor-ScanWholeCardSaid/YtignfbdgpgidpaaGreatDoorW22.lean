/- In one text: RnRead, Row, Parts, ScWh, SepMore, RdStand. -/
import Derived.Test.YtignfbdgpgidpaaGreatDoorW21
import Derived.Test.YtignfbdgpgidpaaGreatDoorW03
import Derived.Test.YtignfbdgpgidpaaGreatDoorW04
import Derived.Maps.AppendAt
import Derived.Test.YtignfbdgpgidpaaGreatDoorW15
import Derived.Test.YtignfbdgpgidpaaGreatDoorW16
import Derived.Test.YtignfbdgpgidpaaGreatDoorW19
import Derived.Test.YtignfbdgpgidpaaGreatDoorW20
import Derived.Test.YtignfbdgpgidpaaGreatDoorW00
import Derived.Test.YtignfbdgpgidpaaGreatDoorW18
/- Plain facts: a reader over a file of a disk that others write to, too, and that may fall. -/
namespace Go.Proofs.YtignfbdgpgidpaaGreatDoor
open Go.RowKit FsPlain CrcPlain OctPlain FramePlain RecPlain
set_option linter.unusedVariables false
set_option linter.unusedSimpArgs false
set_option maxRecDepth 20000
namespace RdPlain
def upS (s : St) : St := { s with ahead := -1, down := false }
def N3.up (m : N3) : N3 := ⟨upS m.s, m.b, m.x⟩
theorem up_call (s : St) : upS s.call = (upS s).call := by
  unfold upS St.call
  simp
  decide
theorem up_get (s : St) (n : List UInt8) : (upS s).get n = s.get n := rfl
theorem read_up (s : St) (n : List UInt8) (i k : Nat) : readR s n i k = if s.call.down = true then ([], 5) else readR (upS s) n i k := by
  have h : (upS s).call.down = false := by unfold upS St.call; simp
  unfold readR
  by_cases hd : s.call.down = true
  · rw [if_pos hd, if_pos hd]
  · rw [if_neg hd, if_neg hd, if_neg (by rw [h]; decide), up_get]
structure Quiet (s s' : St) : Prop where
  fs : s'.fs = s.fs
  room : s'.room = s.room
  calm : s.down = false → s.ahead = -1 → s'.down = false ∧ s'.ahead = -1
  calls : s.calls ≤ s'.calls
theorem Quiet.refl (s : St) : Quiet s s := ⟨rfl, rfl, fun a b => ⟨a, b⟩, Int.le_refl _⟩
theorem Quiet.trans {a b c : St} (h : Quiet a b) (k : Quiet b c) : Quiet a c := ⟨k.fs.trans h.fs, k.room.trans h.room, fun x y => by obtain ⟨p, q⟩ := h.calm x y; exact k.calm p q, Int.le_trans h.calls k.calls⟩
theorem quiet_call (s : St) : Quiet s s.call := ⟨rfl, rfl, fun a b => by
  constructor
  · unfold St.call; simp [a, b]
  · show max (s.ahead - 1) (-1) = -1; rw [b]; decide, by show s.calls ≤ s.calls + 1; omega⟩
theorem Quiet.get {s s' : St} (h : Quiet s s') (n : List UInt8) : s'.get n = s.get n := by unfold St.get; rw [h.fs]
def HasD (s : St) (n : List UInt8) (D : ByteArray) : Prop := ∃ f, s.get n = some f ∧ f.data = D.data.toList
theorem HasD.quiet {s s' : St} {n : List UInt8} {D : ByteArray} (h : HasD s n D) (q : Quiet s s') : HasD s' n D := by
  obtain ⟨f, h1, h2⟩ := h
  exact ⟨f, by rw [q.get]; exact h1, h2⟩
theorem err_up (m : N3) : (m.s.call.down = true → errN m = 5) ∧ (m.s.call.down = false → errN m = errN m.up ∧ bytesN m = bytesN m.up) := by
  have e := read_up m.s m.x.nm.data.toList m.x.pos (askN m.x)
  constructor
  · intro h
    rw [if_pos h] at e
    unfold errN; rw [e]
  · intro h
    rw [if_neg (by rw [h]; decide)] at e
    unfold errN bytesN
    rw [e]
    exact ⟨rfl, rfl⟩
structure ReadF (m : N3) (D : ByteArray) (nn : Int) (got : List ByteArray) : Prop where
  ok : m.ok
  inv : m.inv
  told : m.x.told = got.length
  opn : m.x.opn = true
  size : m.x.size = nn
  at_ : ∃ ps r, At m.up D ps r
  all : got ++ m.x.queue = m.x.all
theorem ReadF.few {m : N3} {D : ByteArray} {nn : Int} {got : List ByteArray} (h : ReadF m D nn got) : got.length + 11 ≤ D.size := by
  obtain ⟨ps, r, ha⟩ := h.at_
  have h1 := congrArg List.length h.all
  rw [List.length_append] at h1
  have := ha.few
  have e : m.up.x = m.x := rfl
  rw [e] at this
  omega
structure LastF (m M : N3) (D : ByteArray) (nn : Int) (got : List ByteArray) (e : Int) : Prop where
  ok : M.ok
  inv : M.inv
  opn : M.x.opn = false
  bud : M.b = m.b.give 4
  disk : Quiet m.s M.s
  how : (e = 0 ∧ IsFile nn D got ∧ M.x.bad = false) ∨ (e = 6 ∧ ∀ L, ¬ IsFile nn D L) ∨ (e = 5 ∧ ¬ (m.s.down = false ∧ m.s.ahead = -1))
structure MoreF (m M : N3) (D : ByteArray) (nn : Int) (got : List ByteArray) (s : ByteArray) : Prop where
  rd : ReadF M D nn (got ++ [s])
  bud : M.b = m.b
  disk : Quiet m.s M.s
theorem shut_is {m : N3} (h : m.x.opn = true) : shutN m = ⟨m.s, m.b.give 4, { m.x with opn := false }⟩ := by unfold shutN; rw [if_pos h]
theorem readF_pop {m M : N3} {D : ByteArray} {nn : Int} {got : List ByteArray} (hok : M.ok) (hi : M.inv) (ht : M.x.told = got.length) (ho : M.x.opn = true) (hs : M.x.size = nn) (ha : ∃ ps r, At M.up D ps r) (hal : got ++ M.x.queue = M.x.all) (hq : M.x.queue ≠ []) (hb : M.b = m.b) (hd : Quiet m.s M.s) : MoreF m (popN M).1 D nn got (M.x.queue.headD ⟨#[]⟩) := by
  obtain ⟨r, q, hr⟩ := List.exists_cons_of_ne_nil hq
  obtain ⟨ps, rr, ha⟩ := ha
  refine ⟨⟨ok_popped hok hq, ⟨hi.o, hi.c, hi.e0, fun h => ?_⟩, ?_, ho, hs, ⟨ps, rr, ha.popped⟩, ?_⟩, hb, hd⟩
  · have h : M.x.whole = true := h
    rw [(hi.o ho).2] at h; cases h
  · show M.x.told + 1 = _; rw [ht, List.length_append]; rfl
  · show (got ++ [M.x.queue.headD ⟨#[]⟩]) ++ M.x.queue.tail = M.x.all
    rw [← hal, hr]; simp
theorem readF_next {m : N3} {D : ByteArray} {nn : Int} {got : List ByteArray} (h : ReadF m D nn got) (hD : D.size ≤ 100000) :
    ((nextN m).2.2.1 = true ∧ (nextN m).2.2.2 = 0 ∧ MoreF m (nextN m).1 D nn got (nextN m).2.1) ∨ ((nextN m).2.2.1 = false ∧ (nextN m).2.1 = ⟨#[]⟩ ∧ LastF m (nextN m).1 D nn got (nextN m).2.2.2) := by
  have hok' := ok_nextN h.ok
  have hinv' := inv_nextN h.inv h.ok
  obtain ⟨hok, hi, ht, ho, hs, ⟨ps, r, ha⟩, hal⟩ := h
  have hfew := ha.few
  have hle : m.x.all.length ≤ 1000000 := by have e : m.up.x = m.x := rfl; rw [e] at hfew; omega
  have hn0 : nextN m = if m.x.queue = [] then fillN m else popN m := by unfold nextN; rw [if_neg (by rw [ho]; decide)]
  rw [hn0] at hok' hinv' ⊢
  by_cases hq : m.x.queue = []
  · rw [if_pos hq] at hok' hinv' ⊢
    have hg : got = m.x.all := by rw [← hal, hq, List.append_nil]
    obtain ⟨u1, u2⟩ := err_up m
    by_cases hd : m.s.call.down = true
    · have he := u1 hd
      have hF : fillN m = (wrongN m.asked, noneA 5) := by unfold fillN; rw [if_pos (by rw [he]; decide), he]
      have hw : wrongN m.asked = ⟨m.s.call, m.b.give 4, { m.x with bad := true, opn := false }⟩ := by
        unfold wrongN; rw [shut_is (m := m.asked.isBad) ho]; rfl
      rw [hF] at hok' hinv' ⊢
      refine .inr ⟨rfl, rfl, hok', hinv', by rw [hw], by rw [hw], by rw [hw]; exact quiet_call _, .inr (.inr ⟨rfl, fun k => ?_⟩)⟩
      have := (quiet_call m.s).calm k.1 k.2
      rw [this.1] at hd; cases hd
    · have hd0 : m.s.call.down = false := by simpa using hd
      obtain ⟨he1, hby⟩ := u2 hd0
      have he : errN m = 0 := by rw [he1]; exact ha.read.1
      have n1 : ¬ ¬ errN m = 0 := fun k => k he
      have hE0 : isEnd m.x (bytesN m) ↔ tailB m.x.all r = true := by rw [hby]; exact ha.ends hle
      have hgot := ha.got
      rw [← hby] at hgot
      obtain ⟨g1, g2, g3⟩ : gB m.x.size (bytesN m) = gB m.x.size r ∧ gL m.x.size (bytesN m) = gL m.x.size r ∧ gN m.x.size (bytesN m) = gN m.x.size r := hgot
      by_cases hE : isEnd m.x (bytesN m)
      · have hF : fillN m = (shutN (m.asked.ended (bytesN m)), noneA 0) := by unfold fillN; rw [if_neg n1, if_pos hE]
        have hsh := shut_is (m := m.asked.ended (bytesN m)) ho
        rw [hF] at hok' hinv' ⊢
        refine .inr ⟨rfl, rfl, hok', hinv', by rw [hsh], by rw [hsh]; rfl, by rw [hsh]; exact quiet_call _, .inl ⟨rfl, ?_, by rw [hsh]; exact (hi.o ho).1⟩⟩
        rw [hg, ← hs]; exact ha.file hle (hE0.1 hE)
      · have ht' : ¬ tailB m.x.all r = true := fun k => hE (hE0.2 k)
        by_cases h3 : gB m.x.size (bytesN m) = false ∨ m.x.short = true
        · have hF : fillN m = (wrongN m.asked, noneA 6) := by unfold fillN; rw [if_neg n1, if_neg hE, if_pos h3]
          have hw : wrongN m.asked = ⟨m.s.call, m.b.give 4, { m.x with bad := true, opn := false }⟩ := by
            unfold wrongN; rw [shut_is (m := m.asked.isBad) ho]; rfl
          rw [hF] at hok' hinv' ⊢
          refine .inr ⟨rfl, rfl, hok', hinv', by rw [hw], by rw [hw], by rw [hw]; exact quiet_call _, .inr (.inl ⟨rfl, fun L hL => ?_⟩)⟩
          rw [g1] at h3
          exact ha.none hle h3 ht' L (by rw [← hs] at hL; exact hL)
        · have hF : fillN m = popN (m.asked.filled (bytesN m)) := by unfold fillN; rw [if_neg n1, if_neg hE, if_neg h3]
          have hb : gB m.x.size (bytesN m) = true := by
            cases hb : gB m.x.size (bytesN m)
            · exact absurd (.inl hb) h3
            · rfl
          have hsht : m.x.short = false := by
            cases hc : m.x.short
            · rfl
            · exact absurd (.inr hc) h3
          have hsz := bytesN_size (m := m) he
          obtain ⟨k1, k2⟩ := ok_filled (m := m.asked) (ok_asked hok) hb (by rw [hsz]; exact ask_left _) hq
          obtain ⟨r', hA⟩ := ha.block (by show gB m.x.size r = true; rw [← g1]; exact hb) hsht
          rw [hF]
          refine .inl ⟨rfl, rfl, ?_⟩
          refine readF_pop (M := m.asked.filled (bytesN m)) k1 ?_ ht ho hs ⟨ps ++ [gL m.x.size r], r', ?_⟩ ?_ k2 rfl (quiet_call _)
          · exact ⟨fun _ => hi.o ho, (fun e => by rw [show (m.asked.filled (bytesN m)).x.opn = m.x.opn from rfl, ho] at e; cases e), fun _ => hi.e0 (hi.o ho).2, (fun e => by rw [show (m.asked.filled (bytesN m)).x.whole = m.x.whole from rfl, (hi.o ho).2] at e; cases e)⟩
          · have e : (m.asked.filled (bytesN m)).up = m.up.asked.filled (bytesN m.up) := by
              rw [hby]
              unfold N3.up N3.filled N3.asked
              simp only [up_call]
            rw [e]; exact hA
          · show got ++ gL m.x.size (bytesN m) = m.x.all ++ gL m.x.size (bytesN m)
            rw [hg]
  · rw [if_neg hq]
    exact .inl ⟨rfl, rfl, readF_pop (M := m) hok hi ht ho hs ⟨ps, r, ha⟩ hal hq rfl (Quiet.refl _)⟩
end RdPlain
end Go.Proofs.YtignfbdgpgidpaaGreatDoor
/- A row of one's own as a part of a world; what an append makes of it. -/
namespace Go.Proofs.YtignfbdgpgidpaaGreatDoor
open Go.RowKit
set_option linter.unusedVariables false
set_option linter.unusedSimpArgs false
set_option maxRecDepth 20000
def RowE (E : TypeId) (z : Nat) (v : Value) (n : Nat) (xs : List Value) : Asn := fun w B => w.ownsRow 0 E z v n xs ∧ (∀ b, v.ownBlock = some b → B b) ∧ ∀ b, B b → b < w.heap.size
def RowA (v : Value) (l : List ByteArray) : Asn := RowE 9 1 v l.length (strs l)
theorem row_lies {v : Value} {l : List ByteArray} {w : World} {B : Nat → Prop} (h : RowA v l w B) : Lies w v l := lies_own h.1
theorem row_of_own {w u : World} {v : Value} {l : List ByteArray} (h : u.ownsRow w.heap.size 9 1 v l.length (strs l)) : ∃ B, RowA v l u B ∧ ∀ x, B x → w.heap.size ≤ x := by
  refine ⟨fun x => v.ownBlock = some x, ⟨⟨h.1, h.2.imp id fun ⟨g, cap, cur, h1, h2, h3⟩ => ⟨g, cap, cur, h1, Nat.zero_le _, h3⟩⟩, fun b hb => hb, fun b hb => (h.lt b hb).2⟩, fun x hx => (h.lt x hx).1⟩
theorem infoS : (Tryz.prog.info? 9).map (fun i => (i.zero, i.size, i.bytes)) = some (some (.string ⟨#[]⟩), 1, 16) := by kernel_rfl
theorem blk_next {p i : Nat} {c : Array Value} {T : TypeId} {w : World} {B : Nat → Prop} (h : Blk p c T w B) (u : Value) : ∃ B', Blk p (c.setIfInBounds i u) T (w.setCell ⟨p, i, none⟩ u) B' ∧ Nx B w B' (w.setCell ⟨p, i, none⟩ u) :=
  ⟨B, ⟨cells_set h.1 i u, h.2⟩, Nx.of (Only.cell1 _ _ _ _) fun b hb => (h.2 b).2 hb⟩
end Go.Proofs.YtignfbdgpgidpaaGreatDoor
/- Whatever parts, all made since w but for what is in B: a call on the first or the second one, a part more, a store into a block, a part less. -/
namespace Go.Proofs.YtignfbdgpgidpaaGreatDoor
open Go.RowKit
set_option linter.unusedVariables false
set_option linter.unusedSimpArgs false
set_option maxRecDepth 20000
def Qs (A : Nat → Prop) (L : List Asn) (w u : World) : Prop := Frs L ∧ ∃ B, stars L u B ∧ Nx A w B u
abbrev Ps (L : List Asn) (w u : World) : Prop := Qs (fun _ => False) L w u
theorem frs_iff : ∀ {L : List Asn}, Frs L ↔ ∀ P ∈ L, Fr P
  | [] => ⟨fun _ P h => (by cases h), fun _ => trivial⟩
  | A :: L => ⟨fun h P hP => by
      rcases List.mem_cons.1 hP with rfl | hP
      · exact h.1
      · exact frs_iff.1 h.2 P hP, fun h => ⟨h A List.mem_cons_self, frs_iff.2 fun P hP => h P (List.mem_cons_of_mem _ hP)⟩⟩
theorem Qs.gr {L : List Asn} {w u : World} (h : Ps L w u) : Gr w u := by
  obtain ⟨_, B, _, n⟩ := h
  exact nx_gr n
theorem Qs.on {A : Nat → Prop} {L : List Asn} {w u v : World} (h : Qs A L w u) (g : Gr u v) : Qs A L w v := by
  obtain ⟨hF, B, k, n⟩ := h
  exact ⟨hF, B, stars_gr hF k g, n.trans (Nx.gr g)⟩
theorem Qs.nil (w : World) : Ps [] w w := ⟨trivial, fun _ => False, fun _ h => h, Nx.refl _ _⟩
theorem Qs.perm {A : Nat → Prop} {L M : List Asn} {w u : World} (h : Qs A L w u) (p : L.Perm M) : Qs A M w u := by
  obtain ⟨hF, B, k, n⟩ := h
  exact ⟨frs_iff.2 fun P hP => frs_iff.1 hF P (p.mem_iff.2 hP), B, stars_perm p k, n⟩
theorem Qs.tail {A : Nat → Prop} {P : Asn} {L : List Asn} {w u : World} (h : Qs A (P :: L) w u) : Qs A L w u := by
  obtain ⟨hF, B, ⟨B1, B2, _, q, _, e⟩, n⟩ := h
  exact ⟨hF.2, B2, q, n.trans ⟨Only.refl _ _, fun b hb => .inl ((e b).2 (.inr hb))⟩⟩
theorem Qs.part {A : Nat → Prop} {L : List Asn} {w u : World} {Q : Asn} (h : Qs A L w u) (i : Nat) (hi : L[i]? = some Q) : ∃ B, Q u B := by
  obtain ⟨_, B, k, _⟩ := h
  obtain ⟨B1, q, _⟩ := part_at i hi k
  exact ⟨B1, q⟩
theorem Qs.blk {A : Nat → Prop} {L : List Asn} {w u : World} {X : Nat} {c : Array Value} {T : TypeId} (h : Qs A L w u) (i : Nat) (hi : L[i]? = some (Blk X c T)) : u.heap[X]? = some (.cells c T (0, 0)) := by
  obtain ⟨_, q, _⟩ := h.part i hi
  exact q
theorem Qs.new {A : Nat → Prop} {L : List Asn} {w u v : World} {Q : Asn} {B' : Nat → Prop} (h : Qs A L w u) (g : Gr u v) (hQ : Fr Q) (q : Q v B') (hn : ∀ x, B' x → u.heap.size ≤ x) : Qs A (Q :: L) w v := by
  obtain ⟨hF, B, k, n⟩ := h
  obtain ⟨B3, k3, n3⟩ := part_new (P := Q) hF k g q hn
  exact ⟨⟨hQ, hF⟩, B3, k3, n.trans n3⟩
theorem Qs.blk_new {A : Nat → Prop} {L : List Asn} {w u v : World} (h : Qs A L w u) (c : Array Value) (T : TypeId) (hv : v = u.alloc (.cells c T)) : Qs A (Blk u.heap.size c T :: L) w v := by
  subst hv
  exact h.new (B' := fun b => b = u.heap.size) (Below.alloc (Below.refl _ _) (Nat.le_refl _) _) (fr_blk _ _ _) ⟨heap_alloc_new u _, fun _ => Iff.rfl⟩ (fun b hb => by rw [hb]; exact Nat.le_refl _)
theorem frs_set {Q : Asn} (hQ : Fr Q) : ∀ {L : List Asn} (i : Nat), Frs L → Frs (L.set i Q)
  | [], _, h => h
  | _ :: _, 0, h => ⟨hQ, h.2⟩
  | _ :: _, i + 1, h => ⟨h.1, frs_set hQ i h.2⟩
theorem Qs.set {A : Nat → Prop} {L : List Asn} {w u : World} {X : Nat} {c : Array Value} {T : TypeId} (h : Qs A L w u) (i : Nat) (hi : L[i]? = some (Blk X c T)) (j : Nat) (x : Value) : Qs A (L.set i (Blk X (c.setIfInBounds j x) T)) w (u.setCell ⟨X, j, none⟩ x) := by
  obtain ⟨hF, B, k, n⟩ := h
  obtain ⟨B', k', n'⟩ := step_at i hi hF k fun B1 hb => blk_next (i := j) hb x
  exact ⟨frs_set (fr_blk _ _ _) i hF, B', k', n.trans n'⟩
theorem Qs.set3 {A : Nat → Prop} {L : List Asn} {w u : World} {X : Nat} {c : Array Value} {T : TypeId} (h : Qs A L w u) (i : Nat) (hi : L[i]? = some (Blk X c T)) (hc : c.size = 3) (x y z : Value) : Qs A (L.set i (Blk X #[x, y, z] T)) w (((u.setCell ⟨X, 0, none⟩ x).setCell ⟨X, 1, none⟩ y).setCell ⟨X, 2, none⟩ z) := by
  have il : i < L.length := by
    rcases Nat.lt_or_ge i L.length with h | h
    · exact h
    · rw [List.getElem?_eq_none h] at hi; cases hi
  have h1 := h.set i hi 0 x
  have h2 := h1.set i (by rw [List.getElem?_set_self il]) 1 y
  have h3 := h2.set i (by rw [List.getElem?_set_self (by simpa using il)]) 2 z
  rw [List.set_set, List.set_set] at h3
  match c, hc with
  | ⟨[_, _, _]⟩, _ => exact h3
theorem Qs.call0 {A : Nat → Prop} {Pr : Program} {f : FuncId} {args : Array Value} {P Q : Asn} {L : List Asn} {X : Ending → World → Prop} {w u : World} (h : Qs A (P :: L) w u) (hQ : Fr Q) (C : ∀ B1, P u B1 → Calls Pr f args u fun e w' => X e w' ∧ ∃ B', Q w' B' ∧ Nx B1 u B' w') :
    Calls Pr f args u fun e w' => X e w' ∧ Qs A (Q :: L) w w' := by
  obtain ⟨hF, B, ⟨B1, B2, p, r, a, e⟩, n⟩ := h
  refine (C B1 p).mono fun e' w' ⟨hx, B', q, n1⟩ => ⟨hx, ⟨hQ, hF.2⟩, ?_⟩
  obtain ⟨B3, h3, n3⟩ := star_of (fr_stars hF.2) r a e q n1
  exact ⟨B3, h3, n.trans n3⟩
theorem Qs.call1 {A : Nat → Prop} {Pr : Program} {f : FuncId} {args : Array Value} {O P Q : Asn} {L : List Asn} {X : Ending → World → Prop} {w u : World} (h : Qs A (O :: P :: L) w u) (hQ : Fr Q) (C : ∀ B1, P u B1 → Calls Pr f args u fun e w' => X e w' ∧ ∃ B', Q w' B' ∧ Nx B1 u B' w') :
    Calls Pr f args u fun e w' => X e w' ∧ Qs A (O :: Q :: L) w w' :=
  ((h.perm (List.Perm.swap P O L)).call0 hQ C).mono fun _ _ ⟨hx, k⟩ => ⟨hx, k.perm (List.Perm.swap O Q L)⟩
end Go.Proofs.YtignfbdgpgidpaaGreatDoor
/- For ScanWhole: the numbers of the bits that are turned; the files' bytes; parts of its own. -/
namespace Go.Proofs.YtignfbdgpgidpaaGreatDoor
open Go.RowKit FsPlain CrcPlain OctPlain FramePlain RecPlain CmPlain
set_option linter.unusedVariables false
set_option linter.unusedSimpArgs false
set_option maxRecDepth 20000
theorem CrcPlain.Turn.more {l l1 l2 : List UInt8} {first b k : Nat} (h : Turn l l1 first (b % 2 ^ k)) (h2 : Turn l1 l2 (first + k) 1) (hb : b / 2 ^ k % 2 = 1) : Turn l l2 first (b % 2 ^ (k + 1)) := by
  refine ⟨h2.1.trans h.1, ?_⟩
  rw [h2.2, h.2, low_next b k hb, mul_xor, Nat.xor_assoc, Nat.pow_add, Nat.mul_one]
def whK (len at_ : Nat) : Nat := at_ % ((len + 3) / 4)
def whMany (len k : Nat) : Nat := min 4 (len - 4 * k)
def whFirst (n k : Nat) : Nat := 8 * (11 + k * (5 + 4 * n) + 1)
def whEnd (n k many : Nat) : Nat := 8 * (11 + k * (5 + 4 * n) + 1 + many * n + 4)
def whFrom (first end_ bits : Nat) : Nat := first + (bits / 256) % (end_ - first)
theorem ups_bytes {n : Nat} {L : List ByteArray} (h : layB n L = true) {k : Nat} (hk : k < cnt4 L) : (blks (ups L k)).length = k * (5 + 4 * n) := by
  unfold layB at h
  rw [Bool.and_eq_true] at h
  have ha := allB_iff.1 h.2
  rw [blks_length (size := n) _ (fun p hp s hs => ?_), ups_length, ups_flat, List.length_take]
  · unfold cnt4 at hk
    rw [Nat.min_eq_left (by omega), Nat.mul_add, Nat.mul_comm k 5, Nat.mul_assoc 4 k n, Nat.mul_left_comm 4 k n]
  · unfold ups at hp
    obtain ⟨j, _, rfl⟩ := List.mem_map.1 hp
    have := ha s (four_mem hs)
    omega
theorem wh_turned {n : Nat} {L : List ByteArray} (hB : layB n L = true) (hL : 1 ≤ L.length) {at_ bits : Nat} {J : Nat} {l' : List UInt8} (ht : Turn (layL n L) l' (whFrom (whFirst n (whK L.length at_)) (whEnd n (whK L.length at_) (whMany L.length (whK L.length at_))) bits) (bits % 2 ^ J))
    (hJ : whFrom (whFirst n (whK L.length at_)) (whEnd n (whK L.length at_) (whMany L.length (whK L.length at_))) bits + J ≤ whEnd n (whK L.length at_) (whMany L.length (whK L.length at_))) (hJ32 : J ≤ 32) (h0 : bits % 2 ^ J ≠ 0) (M : List ByteArray) : ¬ IsFile n (bs l') M := by
  obtain ⟨k, hk⟩ : ∃ k, whK L.length at_ = k := ⟨_, rfl⟩
  rw [hk] at ht hJ
  have hkc : k < cnt4 L := by rw [← hk]; unfold whK cnt4; exact Nat.mod_lt _ (by omega)
  have hub := ups_bytes hB hkc
  have hm : (four L k).length = whMany L.length k := by rw [four_length]; rfl
  obtain ⟨F, hF⟩ : ∃ F, whFrom (whFirst n k) (whEnd n k (whMany L.length k)) bits = F := ⟨_, rfl⟩
  rw [hF] at ht hJ
  have hfirst : whFirst n k ≤ F := by rw [← hF]; unfold whFrom; omega
  obtain ⟨q, hq⟩ : ∃ q, k * (5 + 4 * n) = q := ⟨_, rfl⟩
  obtain ⟨r, hr⟩ : ∃ r, whMany L.length k * n = r := ⟨_, rfl⟩
  have hE : whEnd n k (whMany L.length k) = 8 * (11 + q + 1 + r + 4) := by unfold whEnd; rw [hq, hr]
  have hFi : whFirst n k = 8 * (11 + q + 1) := by unfold whFirst; rw [hq]
  rw [hE] at hJ
  rw [hFi] at hfirst
  refine turned_none2 (k := k) (o := 11 + q) (n := 5 + r) hB hkc ht (by rw [hub, hq]) (by rw [hm]; have : ((whMany L.length k * n : Nat) : Int) = (whMany L.length k : Int) * (n : Int) := Int.natCast_mul _ _; rw [hr] at this; omega) (by omega) ?_ h0 ?_ M
  · have : bits % 2 ^ J < 2 ^ J := Nat.mod_lt _ (Nat.pow_pos (by decide))
    have h2 : 2 ^ J ≤ 2 ^ 32 := Nat.pow_le_pow_right (by decide) hJ32
    omega
  · have h1 : bits % 2 ^ J < 2 ^ J := Nat.mod_lt _ (Nat.pow_pos (by decide))
    have h2 : 2 ^ (F - 8 * (11 + q)) * (bits % 2 ^ J) < 2 ^ (F - 8 * (11 + q)) * 2 ^ J := Nat.mul_lt_mul_of_pos_left h1 (Nat.pow_pos (by decide))
    rw [← Nat.pow_add] at h2
    exact Nat.lt_of_lt_of_le h2 (Nat.pow_le_pow_right (by decide) (by omega))
theorem whole_none {s : St} {n : List UInt8} {size count sum : Int} (h : s.get n = none) : ¬ WholeIs s n size count sum := fun k => by
  have := k.1
  rw [h] at this
  cases this
end Go.Proofs.YtignfbdgpgidpaaGreatDoor
/- A name; more on parts that lie apart. -/
namespace Go.Proofs.YtignfbdgpgidpaaGreatDoor
open Go.RowKit FsPlain
set_option linter.unusedVariables false
set_option linter.unusedSimpArgs false
set_option maxRecDepth 20000
def nmA : ByteArray := ⟨#[97]⟩
theorem pre_nx {w : World} {B : Nat → Prop} (L : List Asn) {M : List Asn} (hM : Frs M) (h : stars (L ++ M) w B) : ∃ B1, stars L w B1 ∧ ∀ (L' : List Asn) (w' : World) (B' : Nat → Prop), stars L' w' B' → Nx B1 w B' w' → ∃ B3, stars (L' ++ M) w' B3 ∧ Nx B w B3 w' := by
  obtain ⟨B1, h1, k⟩ := pre_next L hM h
  exact ⟨B1, h1, fun _ _ _ => k⟩
theorem frs_app : ∀ {L M : List Asn}, Frs L → Frs M → Frs (L ++ M)
  | [], _, _, h => h
  | _ :: _, _, h, k => ⟨h.1, frs_app h.2 k⟩
theorem stars_one {P : Asn} {w : World} {B : Nat → Prop} (h : P w B) : stars [P] w B := ⟨B, fun _ => False, h, (fun _ h => h), (fun _ _ h => h), fun b => (or_false _).symm ▸ Iff.rfl⟩
theorem stars_drop {P : Asn} {L : List Asn} {w : World} {B : Nat → Prop} (h : stars (P :: L) w B) : ∃ B', stars L w B' ∧ Nx B w B' w := by
  obtain ⟨B1, B2, _, q, _, e⟩ := h
  exact ⟨B2, q, Only.refl _ _, fun b hb => .inl ((e b).2 (.inr hb))⟩
end Go.Proofs.YtignfbdgpgidpaaGreatDoor
/- Plain facts: a disk with one file that was written; what holds of a reader at each round of the laws. -/
namespace Go.Proofs.YtignfbdgpgidpaaGreatDoor
open Go.RowKit FsPlain CrcPlain OctPlain FramePlain RecPlain
set_option linter.unusedVariables false
set_option linter.unusedSimpArgs false
set_option maxRecDepth 20000
namespace RdPlain
def stC (r : Int) : St := ⟨r, 1, -1, false, [⟨[97], [], 0⟩]⟩
def stA (r : Int) (S : ByteArray) : St := ⟨r, 2, -1, false, [⟨[97], S.data.toList, 0⟩]⟩
theorem st_append (r : Int) (S : ByteArray) (h : (S.size : Int) ≤ r) : appendR (stC r) nmA.data.toList S.data.toList = (stA r S, 0) := by
  unfold appendR
  rw [if_neg (show ¬ (stC r).call.down = true by simp [stC, St.call])]
  have hg : (stC r).get nmA.data.toList = some ⟨[97], [], 0⟩ := rfl
  rw [hg]
  have hu : used (stC r).fs = 0 := rfl
  simp only [hu]
  rw [if_neg (by show ¬ r < ((0 : Nat) : Int) + (S.data.toList.length : Nat); rw [data_length]; omega)]
  rfl
def Bud4 (m : N3) : Prop := (m.x.opn = true → m.b.now = 4) ∧ (m.x.opn = false → m.b.now = 0)
theorem give4 {b : Bu} (h : b.now = 4) : (b.give 4).now = 0 := by unfold Bu.give; rw [if_neg (by decide)]; simp only [h]; decide
theorem bud_shut {m : N3} (h : Bud4 m) : Bud4 (shutN m) := by
  unfold shutN
  split
  · rename_i ho; exact ⟨(fun e => by cases e), fun _ => give4 (h.1 ho)⟩
  · exact h
theorem bud_wrong {m : N3} (h : Bud4 m) : Bud4 (wrongN m) := bud_shut (m := m.isBad) h
theorem bud_next {m : N3} (h : Bud4 m) : Bud4 (nextN m).1 := by
  unfold nextN
  split
  · exact h
  · split
    · unfold fillN
      split
      · exact bud_wrong (m := m.asked) h
      · split
        · exact bud_shut (m := m.asked.ended (bytesN m)) h
        · split
          · exact bud_wrong (m := m.asked) h
          · exact h
    · exact h
def leftN (m : N3) : Nat := m.x.told + m.x.queue.length + m.x.left
theorem left_shut (m : N3) : leftN (shutN m) = leftN m := by unfold shutN; split <;> rfl
theorem left_pop {m : N3} (h : m.x.queue ≠ []) : leftN m.popped = leftN m := by
  obtain ⟨r, q, hr⟩ := List.exists_cons_of_ne_nil h
  show m.x.told + 1 + m.x.queue.tail.length + m.x.left = m.x.told + m.x.queue.length + m.x.left
  rw [hr]; simp; omega
theorem left_next {m : N3} (h : m.ok) : leftN (nextN m).1 ≤ leftN m := by
  unfold nextN
  split
  · exact Nat.le_refl _
  · split
    · rename_i hq
      unfold fillN
      split
      · exact Nat.le_of_eq (left_shut m.asked.isBad)
      · rename_i h0
        split
        · exact Nat.le_of_eq (left_shut (m.asked.ended (bytesN m)))
        · split
          · exact Nat.le_of_eq (left_shut m.asked.isBad)
          · rename_i h2
            have hb : gB m.x.size (bytesN m) = true := by
              cases hb : gB m.x.size (bytesN m)
              · exact absurd (.inl hb) h2
              · rfl
            have hs := bytesN_size (m := m) (by simpa using h0)
            have hl := ask_left m.x
            obtain ⟨k1, k2⟩ := ok_filled (m := m.asked) (ok_asked h) hb (by rw [hs]; exact ask_left _) hq
            obtain ⟨_, z2, _⟩ := gL_size hb
            obtain ⟨_, n, hn, hn2, hn3, _⟩ := get_is hb
            show leftN (m.asked.filled (bytesN m)).popped ≤ _
            rw [left_pop k2]
            show m.x.told + (gL m.x.size (bytesN m)).length + (m.x.left - (gN m.x.size (bytesN m)).toNat) ≤ m.x.told + m.x.queue.length + m.x.left
            rw [hn, hq]
            simp only [Int.toNat_natCast, List.length_nil]
            omega
    · rename_i hq
      exact Nat.le_of_eq (left_pop hq)
theorem next_some {m : N3} (h : (nextN m).2.2.1 = true) : m.x.opn = true ∧ (nextN m).1.x.opn = true ∧ (nextN m).1.x.told = m.x.told + 1 ∧ (nextN m).2.2.2 = 0 := by
  revert h
  unfold nextN
  split
  · intro h; cases h
  · rename_i ho
    have ho : m.x.opn = true := by simpa using ho
    split
    · unfold fillN
      split
      · intro h; cases h
      · split
        · intro h; cases h
        · split
          · intro h; cases h
          · exact fun _ => ⟨ho, ho, rfl, rfl⟩
    · exact fun _ => ⟨ho, ho, rfl, rfl⟩
structure PlayN (m : N3) (i : Nat) : Prop where
  ok : m.ok
  inv : m.inv
  told : m.x.told = i
  calls : m.s.calls ≤ 10 + (i : Int)
  bud : Bud4 m
  left : leftN m ≤ 689
theorem PlayN.next {m : N3} {i : Nat} (h : PlayN m i) (hp : (nextN m).2.2.1 = true) : PlayN (nextN m).1 (i + 1) := by
  obtain ⟨_, _, h3, _⟩ := next_some hp
  have h4 := nextN_calls m
  have h5 := h.calls
  refine ⟨ok_nextN h.ok, inv_nextN h.inv h.ok, by rw [h3, h.told], by rw [Int.natCast_add]; simp only [Int.natCast_one]; omega, bud_next h.bud, Nat.le_trans (left_next h.ok) h.left⟩
end RdPlain
end Go.Proofs.YtignfbdgpgidpaaGreatDoor

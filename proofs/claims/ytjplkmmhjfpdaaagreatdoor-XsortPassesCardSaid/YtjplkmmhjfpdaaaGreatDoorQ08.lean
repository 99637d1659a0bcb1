/- In one text: RdInv, RnRead, RnWrite, RnPlain, LoPlain. -/
import Derived.Test.YtjplkmmhjfpdaaaGreatDoorQ07
import Derived.Test.YtjplkmmhjfpdaaaGreatDoorQ06
import Derived.Test.YtjplkmmhjfpdaaaGreatDoorQ00
/- Plain facts: what is told of a reader, open or shut. -/
namespace Go.Proofs.YtjplkmmhjfpdaaaGreatDoor
open Go.RowKit FsPlain CrcPlain OctPlain FramePlain RecPlain
set_option linter.unusedVariables false
set_option linter.unusedSimpArgs false
set_option maxRecDepth 20000
namespace RdPlain
structure N3.inv (m : N3) : Prop where
  o : m.x.opn = true → m.x.bad = false ∧ m.x.whole = false
  c : m.x.opn = false → m.x.whole = !m.x.bad
  e0 : m.x.whole = false → m.x.ec = 0 ∧ m.x.em = 0
  e1 : m.x.whole = true → m.x.ec = (m.x.told : Nat) ∧ m.x.em = (sumN m.x.all : Nat)
theorem inv_new (s : St) (b : Bu) (nm : ByteArray) (size : Int) (left : Nat) : N3.inv ⟨s, b, newRs nm size left⟩ := ⟨fun _ => ⟨rfl, rfl⟩, (fun h => by cases h), fun _ => ⟨rfl, rfl⟩, (fun h => by cases h)⟩
theorem inv_wrong {m : N3} (h : m.inv) (ho : m.x.opn = true) : (wrongN m).inv := by
  obtain ⟨h1, h2⟩ := h.o ho
  unfold wrongN shutN
  rw [if_pos (show m.isBad.x.opn = true from ho)]
  exact ⟨(fun e => by cases e), fun _ => h2, fun e => h.e0 e, fun e => h.e1 e⟩
theorem inv_closeN {m : N3} (h : m.inv) : (closeN m).inv := by
  unfold closeN
  split
  · rename_i ho; exact inv_wrong h ho
  · exact h
theorem inv_nextN {m : N3} (h : m.inv) (hok : m.ok) : (nextN m).1.inv := by
  unfold nextN
  split
  · exact h
  · rename_i ho
    have ho : m.x.opn = true := by simpa using ho
    obtain ⟨h1, h2⟩ := h.o ho
    have hA : m.asked.inv := ⟨h.o, h.c, h.e0, h.e1⟩
    split
    · rename_i hq
      have hcnt := hok.cnt
      rw [hq] at hcnt
      simp only [List.length_nil, Nat.add_zero] at hcnt
      unfold fillN
      split
      · exact inv_wrong hA ho
      · split
        · rename_i hE
          obtain ⟨_, _, _, h4, h5⟩ := hE
          unfold shutN
          rw [if_pos (show (m.asked.ended (bytesN m)).x.opn = true from ho)]
          refine ⟨(fun e => by cases e), fun _ => ?_, (fun e => by cases e), fun _ => ⟨?_, h5⟩⟩
          · show true = !m.x.bad; rw [h1]; rfl
          · show eC (bytesN m) = (m.x.told : Nat); rw [h4, hcnt]
        · split
          · exact inv_wrong hA ho
          · exact ⟨fun _ => ⟨h1, h2⟩, (fun e => by rw [show (popN (m.asked.filled (bytesN m))).1.x.opn = m.x.opn from rfl, ho] at e; cases e), fun e => h.e0 h2, (fun e => by rw [show (popN (m.asked.filled (bytesN m))).1.x.whole = m.x.whole from rfl, h2] at e; cases e)⟩
    · exact ⟨fun _ => ⟨h1, h2⟩, (fun e => by rw [show (popN m).1.x.opn = m.x.opn from rfl, ho] at e; cases e), fun e => h.e0 h2, (fun e => by rw [show (popN m).1.x.whole = m.x.whole from rfl, h2] at e; cases e)⟩
end RdPlain
end Go.Proofs.YtjplkmmhjfpdaaaGreatDoor
/- Plain facts: a reader over a file of a disk that others write to, too, and that may fall. -/
namespace Go.Proofs.YtjplkmmhjfpdaaaGreatDoor
open Go.RowKit FsPlain CrcPlain OctPlain FramePlain RecPlain
set_option linter.unusedVariables false
set_option linter.unusedSimpArgs false
set_option maxRecDepth 20000
namespace RdPlain
def upS (s : St) : St := { s with ahead := -1, down := false }
def N3.up (m : N3) : N3 := ⟨upS m.s, m.b, m.x⟩
theorem up_call (s : St) : upS s.call = (upS s).call := by
  unfold upS St.call
  simp
  decide
theorem up_get (s : St) (n : List UInt8) : (upS s).get n = s.get n := rfl
theorem up_ok {s : St} (h : s.ok) : (upS s).ok := ⟨h.r0, h.r1, h.c0, by show (-1 : Int) ≤ -1; omega, by show (-1 : Int) ≤ _; decide, h.u, h.k, h.n, h.m, h.d⟩
theorem read_up (s : St) (n : List UInt8) (i k : Nat) : readR s n i k = if s.call.down = true then ([], 5) else readR (upS s) n i k := by
  have h : (upS s).call.down = false := by unfold upS St.call; simp
  unfold readR
  by_cases hd : s.call.down = true
  · rw [if_pos hd, if_pos hd]
  · rw [if_neg hd, if_neg hd, if_neg (by rw [h]; decide), up_get]
theorem size_up (s : St) (n : List UInt8) : sizeR s n = if s.call.down = true then (0, 5) else sizeR (upS s) n := by
  have h : (upS s).call.down = false := by unfold upS St.call; simp
  unfold sizeR
  by_cases hd : s.call.down = true
  · rw [if_pos hd, if_pos hd]
  · rw [if_neg hd, if_neg hd, if_neg (by rw [h]; decide), up_get]
structure Quiet (s s' : St) : Prop where
  fs : s'.fs = s.fs
  room : s'.room = s.room
  calm : s.down = false → s.ahead = -1 → s'.down = false ∧ s'.ahead = -1
  calls : s.calls ≤ s'.calls
theorem Quiet.refl (s : St) : Quiet s s := ⟨rfl, rfl, fun a b => ⟨a, b⟩, Int.le_refl _⟩
theorem Quiet.trans {a b c : St} (h : Quiet a b) (k : Quiet b c) : Quiet a c := ⟨k.fs.trans h.fs, k.room.trans h.room, fun x y => by obtain ⟨p, q⟩ := h.calm x y; exact k.calm p q, Int.le_trans h.calls k.calls⟩
theorem quiet_call (s : St) : Quiet s s.call := ⟨rfl, rfl, fun a b => by
  constructor
  · unfold St.call; simp [a, b]
  · show max (s.ahead - 1) (-1) = -1; rw [b]; decide, by show s.calls ≤ s.calls + 1; omega⟩
theorem Quiet.get {s s' : St} (h : Quiet s s') (n : List UInt8) : s'.get n = s.get n := by unfold St.get; rw [h.fs]
def HasD (s : St) (n : List UInt8) (D : ByteArray) : Prop := ∃ f, s.get n = some f ∧ f.data = D.data.toList
theorem HasD.up {s : St} {n : List UInt8} {D : ByteArray} (h : HasD s n D) : Stands (upS s) n D := ⟨h, rfl, rfl⟩
theorem HasD.quiet {s s' : St} {n : List UInt8} {D : ByteArray} (h : HasD s n D) (q : Quiet s s') : HasD s' n D := by
  obtain ⟨f, h1, h2⟩ := h
  exact ⟨f, by rw [q.get]; exact h1, h2⟩
theorem at_disk {m : N3} {D : ByteArray} {ps : List (List ByteArray)} {r : ByteArray} (h : At m.up D ps r) {s : St} (b : Bu) (hs : HasD s m.x.nm.data.toList D) : At (N3.up ⟨s, b, m.x⟩) D ps r :=
  ⟨hs, rfl, rfl, h.sz, h.all, h.pos, h.left, h.bls, h.full, h.short, h.long, h.flat⟩
theorem err_up (m : N3) : (m.s.call.down = true → errN m = 5) ∧ (m.s.call.down = false → errN m = errN m.up ∧ bytesN m = bytesN m.up) := by
  have e := read_up m.s m.x.nm.data.toList m.x.pos (askN m.x)
  constructor
  · intro h
    rw [if_pos h] at e
    unfold errN; rw [e]
  · intro h
    rw [if_neg (by rw [h]; decide)] at e
    unfold errN bytesN
    rw [e]
    exact ⟨rfl, rfl⟩
structure ReadF (m : N3) (D : ByteArray) (nn : Int) (got : List ByteArray) : Prop where
  ok : m.ok
  inv : m.inv
  told : m.x.told = got.length
  opn : m.x.opn = true
  size : m.x.size = nn
  at_ : ∃ ps r, At m.up D ps r
  all : got ++ m.x.queue = m.x.all
theorem ReadF.few {m : N3} {D : ByteArray} {nn : Int} {got : List ByteArray} (h : ReadF m D nn got) : got.length + 11 ≤ D.size := by
  obtain ⟨ps, r, ha⟩ := h.at_
  have h1 := congrArg List.length h.all
  rw [List.length_append] at h1
  have := ha.few
  have e : m.up.x = m.x := rfl
  rw [e] at this
  omega
theorem ReadF.sizes {m : N3} {D : ByteArray} {nn : Int} {got : List ByteArray} (h : ReadF m D nn got) : ∀ s ∈ got, (s.size : Int) = nn := by
  obtain ⟨ps, r, ha⟩ := h.at_
  intro s hs
  have h1 : s ∈ m.x.all := by rw [← h.all]; exact List.mem_append_left _ hs
  have h2 : m.x.all = ps.flatten := ha.flat
  rw [h2, List.mem_flatten] at h1
  obtain ⟨p, hp, hsp⟩ := h1
  have := (blk_parts (ha.bls p hp)).2.2 s hsp
  rw [← h.size]; exact this
theorem ReadF.other {m : N3} {D : ByteArray} {nn : Int} {got : List ByteArray} (h : ReadF m D nn got) {s : St} {b : Bu} (hs : HasD s m.x.nm.data.toList D) (hok : s.ok) (hb : b.ok) : ReadF ⟨s, b, m.x⟩ D nn got := by
  obtain ⟨ps, r, ha⟩ := h.at_
  exact ⟨⟨hok, hb, h.ok.n1, h.ok.n2, h.ok.z, h.ok.az, h.ok.fit, h.ok.cnt, h.ok.ql⟩, ⟨h.inv.o, h.inv.c, h.inv.e0, h.inv.e1⟩, h.told, h.opn, h.size, ⟨ps, r, at_disk ha b hs⟩, h.all⟩
structure LastF (m M : N3) (D : ByteArray) (nn : Int) (got : List ByteArray) (e : Int) : Prop where
  ok : M.ok
  inv : M.inv
  opn : M.x.opn = false
  bud : M.b = m.b.give 4
  disk : Quiet m.s M.s
  how : (e = 0 ∧ IsFile nn D got ∧ M.x.bad = false) ∨ (e = 6 ∧ ∀ L, ¬ IsFile nn D L) ∨ (e = 5 ∧ ¬ (m.s.down = false ∧ m.s.ahead = -1))
structure MoreF (m M : N3) (D : ByteArray) (nn : Int) (got : List ByteArray) (s : ByteArray) : Prop where
  rd : ReadF M D nn (got ++ [s])
  bud : M.b = m.b
  disk : Quiet m.s M.s
theorem shut_is {m : N3} (h : m.x.opn = true) : shutN m = ⟨m.s, m.b.give 4, { m.x with opn := false }⟩ := by unfold shutN; rw [if_pos h]
theorem readF_pop {m M : N3} {D : ByteArray} {nn : Int} {got : List ByteArray} (hok : M.ok) (hi : M.inv) (ht : M.x.told = got.length) (ho : M.x.opn = true) (hs : M.x.size = nn) (ha : ∃ ps r, At M.up D ps r) (hal : got ++ M.x.queue = M.x.all) (hq : M.x.queue ≠ []) (hb : M.b = m.b) (hd : Quiet m.s M.s) : MoreF m (popN M).1 D nn got (M.x.queue.headD ⟨#[]⟩) := by
  obtain ⟨r, q, hr⟩ := List.exists_cons_of_ne_nil hq
  obtain ⟨ps, rr, ha⟩ := ha
  refine ⟨⟨ok_popped hok hq, ⟨hi.o, hi.c, hi.e0, fun h => ?_⟩, ?_, ho, hs, ⟨ps, rr, ha.popped⟩, ?_⟩, hb, hd⟩
  · have h : M.x.whole = true := h
    rw [(hi.o ho).2] at h; cases h
  · show M.x.told + 1 = _; rw [ht, List.length_append]; rfl
  · show (got ++ [M.x.queue.headD ⟨#[]⟩]) ++ M.x.queue.tail = M.x.all
    rw [← hal, hr]; simp
theorem readF_next {m : N3} {D : ByteArray} {nn : Int} {got : List ByteArray} (h : ReadF m D nn got) (hD : D.size ≤ 100000) :
    ((nextN m).2.2.1 = true ∧ (nextN m).2.2.2 = 0 ∧ MoreF m (nextN m).1 D nn got (nextN m).2.1) ∨ ((nextN m).2.2.1 = false ∧ (nextN m).2.1 = ⟨#[]⟩ ∧ LastF m (nextN m).1 D nn got (nextN m).2.2.2) := by
  have hok' := ok_nextN h.ok
  have hinv' := inv_nextN h.inv h.ok
  obtain ⟨hok, hi, ht, ho, hs, ⟨ps, r, ha⟩, hal⟩ := h
  have hfew := ha.few
  have hle : m.x.all.length ≤ 1000000 := by have e : m.up.x = m.x := rfl; rw [e] at hfew; omega
  have hn0 : nextN m = if m.x.queue = [] then fillN m else popN m := by unfold nextN; rw [if_neg (by rw [ho]; decide)]
  rw [hn0] at hok' hinv' ⊢
  by_cases hq : m.x.queue = []
  · rw [if_pos hq] at hok' hinv' ⊢
    have hg : got = m.x.all := by rw [← hal, hq, List.append_nil]
    obtain ⟨u1, u2⟩ := err_up m
    by_cases hd : m.s.call.down = true
    · have he := u1 hd
      have hF : fillN m = (wrongN m.asked, noneA 5) := by unfold fillN; rw [if_pos (by rw [he]; decide), he]
      have hw : wrongN m.asked = ⟨m.s.call, m.b.give 4, { m.x with bad := true, opn := false }⟩ := by
        unfold wrongN; rw [shut_is (m := m.asked.isBad) ho]; rfl
      rw [hF] at hok' hinv' ⊢
      refine .inr ⟨rfl, rfl, hok', hinv', by rw [hw], by rw [hw], by rw [hw]; exact quiet_call _, .inr (.inr ⟨rfl, fun k => ?_⟩)⟩
      have := (quiet_call m.s).calm k.1 k.2
      rw [this.1] at hd; cases hd
    · have hd0 : m.s.call.down = false := by simpa using hd
      obtain ⟨he1, hby⟩ := u2 hd0
      have he : errN m = 0 := by rw [he1]; exact ha.read.1
      have n1 : ¬ ¬ errN m = 0 := fun k => k he
      have hE0 : isEnd m.x (bytesN m) ↔ tailB m.x.all r = true := by rw [hby]; exact ha.ends hle
      have hgot := ha.got
      rw [← hby] at hgot
      obtain ⟨g1, g2, g3⟩ : gB m.x.size (bytesN m) = gB m.x.size r ∧ gL m.x.size (bytesN m) = gL m.x.size r ∧ gN m.x.size (bytesN m) = gN m.x.size r := hgot
      by_cases hE : isEnd m.x (bytesN m)
      · have hF : fillN m = (shutN (m.asked.ended (bytesN m)), noneA 0) := by unfold fillN; rw [if_neg n1, if_pos hE]
        have hsh := shut_is (m := m.asked.ended (bytesN m)) ho
        rw [hF] at hok' hinv' ⊢
        refine .inr ⟨rfl, rfl, hok', hinv', by rw [hsh], by rw [hsh]; rfl, by rw [hsh]; exact quiet_call _, .inl ⟨rfl, ?_, by rw [hsh]; exact (hi.o ho).1⟩⟩
        rw [hg, ← hs]; exact ha.file hle (hE0.1 hE)
      · have ht' : ¬ tailB m.x.all r = true := fun k => hE (hE0.2 k)
        by_cases h3 : gB m.x.size (bytesN m) = false ∨ m.x.short = true
        · have hF : fillN m = (wrongN m.asked, noneA 6) := by unfold fillN; rw [if_neg n1, if_neg hE, if_pos h3]
          have hw : wrongN m.asked = ⟨m.s.call, m.b.give 4, { m.x with bad := true, opn := false }⟩ := by
            unfold wrongN; rw [shut_is (m := m.asked.isBad) ho]; rfl
          rw [hF] at hok' hinv' ⊢
          refine .inr ⟨rfl, rfl, hok', hinv', by rw [hw], by rw [hw], by rw [hw]; exact quiet_call _, .inr (.inl ⟨rfl, fun L hL => ?_⟩)⟩
          rw [g1] at h3
          exact ha.none hle h3 ht' L (by rw [← hs] at hL; exact hL)
        · have hF : fillN m = popN (m.asked.filled (bytesN m)) := by unfold fillN; rw [if_neg n1, if_neg hE, if_neg h3]
          have hb : gB m.x.size (bytesN m) = true := by
            cases hb : gB m.x.size (bytesN m)
            · exact absurd (.inl hb) h3
            · rfl
          have hsht : m.x.short = false := by
            cases hc : m.x.short
            · rfl
            · exact absurd (.inr hc) h3
          have hsz := bytesN_size (m := m) he
          obtain ⟨k1, k2⟩ := ok_filled (m := m.asked) (ok_asked hok) hb (by rw [hsz]; exact ask_left _) hq
          obtain ⟨r', hA⟩ := ha.block (by show gB m.x.size r = true; rw [← g1]; exact hb) hsht
          rw [hF]
          refine .inl ⟨rfl, rfl, ?_⟩
          refine readF_pop (M := m.asked.filled (bytesN m)) k1 ?_ ht ho hs ⟨ps ++ [gL m.x.size r], r', ?_⟩ ?_ k2 rfl (quiet_call _)
          · exact ⟨fun _ => hi.o ho, (fun e => by rw [show (m.asked.filled (bytesN m)).x.opn = m.x.opn from rfl, ho] at e; cases e), fun _ => hi.e0 (hi.o ho).2, (fun e => by rw [show (m.asked.filled (bytesN m)).x.whole = m.x.whole from rfl, (hi.o ho).2] at e; cases e)⟩
          · have e : (m.asked.filled (bytesN m)).up = m.up.asked.filled (bytesN m.up) := by
              rw [hby]
              unfold N3.up N3.filled N3.asked
              simp only [up_call]
            rw [e]; exact hA
          · show got ++ gL m.x.size (bytesN m) = m.x.all ++ gL m.x.size (bytesN m)
            rw [hg]
  · rw [if_neg hq]
    exact .inl ⟨rfl, rfl, readF_pop (M := m) hok hi ht ho hs ⟨ps, r, ha⟩ hal hq rfl (Quiet.refl _)⟩
end RdPlain
end Go.Proofs.YtjplkmmhjfpdaaaGreatDoor
/- Plain facts: a writer of a file beside others, on a disk that may fall, or be full. -/
namespace Go.Proofs.YtjplkmmhjfpdaaaGreatDoor
open Go.RowKit FsPlain CrcPlain OctPlain FramePlain RecPlain RdPlain
set_option linter.unusedVariables false
set_option linter.unusedSimpArgs false
set_option maxRecDepth 20000
namespace WrPlain
structure Oth (n : List UInt8) (d : Nat) (s s' : St) : Prop where
  get : ∀ n', n' ≠ n → s'.get n' = s.get n'
  room : s'.room = s.room
  calm : s.down = false → s.ahead = -1 → s'.down = false ∧ s'.ahead = -1
  len : s'.fs.length = s.fs.length + d
  calls : s.calls ≤ s'.calls
theorem Oth.refl (n : List UInt8) (s : St) : Oth n 0 s s := ⟨fun _ _ => rfl, rfl, fun a b => ⟨a, b⟩, rfl, Int.le_refl _⟩
theorem Oth.trans {n : List UInt8} {d e : Nat} {a b c : St} (h : Oth n d a b) (k : Oth n e b c) : Oth n (d + e) a c :=
  ⟨fun n' hn => (k.get n' hn).trans (h.get n' hn), k.room.trans h.room, fun x y => by obtain ⟨p, q⟩ := h.calm x y; exact k.calm p q, by rw [k.len, h.len]; omega, Int.le_trans h.calls k.calls⟩
theorem oth_quiet (n : List UInt8) {s s' : St} (h : Quiet s s') : Oth n 0 s s' := ⟨fun n' _ => h.get n', h.room, h.calm, by rw [h.fs]; rfl, h.calls⟩
theorem oth_call (n : List UInt8) (s : St) : Oth n 0 s s.call := oth_quiet n (quiet_call s)
theorem oth_upd {n : List UInt8} {g : F → F} (hg : ∀ f, (g f).name = f.name) (s : St) : Oth n 0 s (s.upd n g) := by
  refine ⟨fun n' hn => ?_, rfl, fun a b => ⟨a, b⟩, ?_, Int.le_refl _⟩
  · unfold St.get St.upd
    simp only []
    rw [List.find?_map]
    have e : ((fun f : F => f.name == n') ∘ fun f => if f.name = n then g f else f) = fun f : F => f.name == n' := by
      funext f
      simp only [Function.comp]
      split
      · rw [hg]
      · rfl
    rw [e]
    cases hf : List.find? (fun f : F => f.name == n') s.fs with
    | none => rfl
    | some f =>
      have := List.find?_some hf
      simp only [beq_iff_eq] at this
      simp only [Option.map_some]
      rw [if_neg (by rw [this]; exact hn)]
  · show (s.fs.map _).length = _; simp
theorem oth_append (s : St) (n t : List UInt8) : Oth n 0 s (appendR s n t).1 := by
  unfold appendR
  split
  · exact oth_call n s
  · cases s.get n with
    | none => exact oth_call n s
    | some f =>
      simp only []
      split
      · exact oth_call n s
      · exact (oth_call n s).trans (oth_upd (g := fun f => { f with data := f.data ++ t }) (fun _ => rfl) s.call)
theorem oth_sync (s : St) (n : List UInt8) : Oth n 0 s (syncR s n).1 := by
  unfold syncR
  split
  · exact oth_call n s
  · cases s.get n with
    | none => exact oth_call n s
    | some f => exact (oth_call n s).trans (oth_upd (g := fun f => { f with kept := f.data.length }) (fun _ => rfl) s.call)
theorem ins_find {n n' : List UInt8} (h : n' ≠ n) (k : Nat) : ∀ l : List F, ((insF ⟨n, [], k⟩ l).find? fun f => f.name == n') = l.find? fun f => f.name == n'
  | [] => by
    unfold insF
    rw [List.find?_cons]
    have : ((⟨n, [], k⟩ : F).name == n') = false := by rw [beq_eq_false_iff_ne]; exact fun e => h e.symm
    rw [this]
  | y :: r => by
    have hx : ((⟨n, [], k⟩ : F).name == n') = false := by rw [beq_eq_false_iff_ne]; exact fun e => h e.symm
    unfold insF
    split
    · rw [List.find?_cons, hx]
    · rw [List.find?_cons, List.find?_cons, ins_find h k r]
theorem oth_create (s : St) (n : List UInt8) : ∃ d, Oth n d s (createR s n).1 ∧ ((createR s n).2 = 0 → d = 1) ∧ d ≤ 1 := by
  unfold createR
  split
  · exact ⟨0, oth_call n s, (fun h => by cases h), by omega⟩
  · cases s.get n with
    | some f => exact ⟨0, oth_call n s, (fun h => by cases h), by omega⟩
    | none =>
      simp only []
      split
      · exact ⟨0, oth_call n s, (fun h => by cases h), by omega⟩
      · refine ⟨1, ?_, fun _ => rfl, Nat.le_refl _⟩
        have q := quiet_call s
        refine ⟨fun n' hn => ins_find hn 0 s.fs, rfl, q.calm, ?_, q.calls⟩
        have := (insF_perm ⟨n, [], 0⟩ s.fs).length_eq
        simpa using this
theorem append_code {s : St} {n : List UInt8} (h : Has s n) (t : List UInt8) : (appendR s n t).2 = 0 ∨ (appendR s n t).2 = 4 ∨ (appendR s n t).2 = 5 := by
  obtain ⟨f, h⟩ := h
  unfold appendR
  split
  · exact .inr (.inr rfl)
  · rw [h]
    simp only []
    split
    · exact .inr (.inl rfl)
    · exact .inl rfl
theorem sync_code {s : St} {n : List UInt8} (h : Has s n) : (syncR s n).2 = 0 ∨ (syncR s n).2 = 5 := by
  obtain ⟨f, h⟩ := h
  unfold syncR
  split
  · exact .inr rfl
  · rw [h]; exact .inl rfl
theorem create_code {s : St} {n : List UInt8} (h : s.get n = none) : (createR s n).2 = 0 ∨ (createR s n).2 = 4 ∨ (createR s n).2 = 5 := by
  unfold createR
  split
  · exact .inr (.inr rfl)
  · rw [h]
    simp only []
    split
    · exact .inr (.inl rfl)
    · exact .inl rfl
structure WrOn (m : M3) (nm : ByteArray) (nn : Int) (done : List ByteArray) : Prop where
  ok : m.ok
  opn : m.x.opn = true
  nm : m.x.nm = nm
  size : m.x.size = nn
  all : m.x.all = done
  laid : ∃ j f, Laid m j f
structure Gone (m M : M3) (nm : ByteArray) (e : Int) : Prop where
  ok : M.ok
  opn : M.x.opn = false
  bud : M.b = m.b.give 4
  oth : Oth nm.data.toList 0 m.s M.s
  code : e = 4 ∨ e = 5
theorem layM_parts {m : M3} (t : ByteArray) (ho : m.x.opn = true) (hh : Has m.s m.x.nm.data.toList) :
    ((layM m t).2 = 0 ∧ (layM m t).1 = ⟨(appendR m.s m.x.nm.data.toList t.data.toList).1, m.b, m.x⟩) ∨
    (((layM m t).2 = 4 ∨ (layM m t).2 = 5) ∧ (layM m t).1 = ⟨(appendR m.s m.x.nm.data.toList t.data.toList).1, m.b.give 4, { m.x with opn := false }⟩) := by
  have hc := append_code hh t.data.toList
  unfold layM
  by_cases h0 : (appendR m.s m.x.nm.data.toList t.data.toList).2 = 0
  · rw [if_pos h0]; exact .inl ⟨rfl, rfl⟩
  · rw [if_neg h0]
    refine .inr ⟨by rcases hc with h | h | h; exact absurd h h0; exact .inl h; exact .inr h, ?_⟩
    show dropM _ = _
    rw [dropM_open (by exact ho)]
theorem put_f {m : M3} {nm : ByteArray} {nn : Int} {done : List ByteArray} (h : WrOn m nm nn done) {r : ByteArray} (hz : (r.size : Int) = nn) :
    ((putM m r).2 = 0 ∧ WrOn (putM m r).1 nm nn (done ++ [r]) ∧ (putM m r).1.b = m.b ∧ Oth nm.data.toList 0 m.s (putM m r).1.s) ∨ Gone m (putM m r).1 nm (putM m r).2 := by
  obtain ⟨hok, ho, hnm, hsz, hal, j, f, hL⟩ := h
  have hok' := ok_putM hok r
  have hnm' := putM_nm m r
  have hz' : (r.size : Int) = m.x.size := by omega
  have hhas : Has m.s m.x.nm.data.toList := ⟨f, hL.get⟩
  have key : ((putM m r).2 = 0 ∧ (putM m r).1.b = m.b ∧ Oth nm.data.toList 0 m.s (putM m r).1.s) ∨ Gone m (putM m r).1 nm (putM m r).2 := by
    have e : putM m r = if m.x.wait.length < 3 then (⟨m.s, m.b, m.x.put r⟩, 0) else layM ⟨m.s, m.b, (m.x.put r).none⟩ (blkS m.x.size (m.x.wait ++ [r])) := by
      unfold putM; rw [if_neg (by rw [ho]; decide), if_neg (by simpa using hz')]
    by_cases hw : m.x.wait.length < 3
    · rw [if_pos hw] at e
      rw [e]
      exact .inl ⟨rfl, rfl, Oth.refl _ _⟩
    · rw [if_neg hw] at e
      have ho2 := oth_append m.s nm.data.toList (blkS m.x.size (m.x.wait ++ [r])).data.toList
      rcases layM_parts (m := ⟨m.s, m.b, (m.x.put r).none⟩) (blkS m.x.size (m.x.wait ++ [r])) ho hhas with ⟨h1, h2⟩ | ⟨h1, h2⟩
      · left
        rw [e, h2]
        refine ⟨h1, rfl, ?_⟩
        rw [← hnm] at ho2 ⊢; exact ho2
      · right
        rw [e] at hok' ⊢
        refine ⟨hok', by rw [h2], by rw [h2], ?_, h1⟩
        rw [h2, ← hnm]; rw [← hnm] at ho2; exact ho2
  rcases key with ⟨h0, hb, hO⟩ | hg
  · left
    obtain ⟨j', f', k1, k2, k3⟩ := laid_put hok hL ho hz' h0
    exact ⟨h0, ⟨hok', k3, hnm'.1.trans hnm, hnm'.2.trans hsz, by rw [k2, hal], j', f', k1⟩, hb, hO⟩
  · exact .inr hg
structure Done (m M : M3) (nm : ByteArray) (nn : Int) (done : List ByteArray) : Prop where
  ok : M.ok
  opn : M.x.opn = false
  bud : M.b = m.b.give 4
  oth : Oth nm.data.toList 0 m.s M.s
  file : ∃ f, M.s.get nm.data.toList = some f ∧ f.data = layL nn done
theorem close_f {m : M3} {nm : ByteArray} {nn : Int} {done : List ByteArray} (h : WrOn m nm nn done) (hl : done.length ≤ 100000) (hok' : (closeM m).1.ok) :
    ((closeM m).2 = 0 ∧ Done m (closeM m).1 nm nn done) ∨ Gone m (closeM m).1 nm (closeM m).2 := by
  obtain ⟨hok, ho, hnm, hsz, hal, j, f, hL⟩ := h
  subst hnm
  have hhas : Has m.s m.x.nm.data.toList := ⟨f, hL.get⟩
  have key : ((closeM m).2 = 0 ∧ Oth m.x.nm.data.toList 0 m.s (closeM m).1.s) ∨ Gone m (closeM m).1 m.x.nm (closeM m).2 := by
    have hfl : ((flushM m).2 = 0 ∧ (∃ s', (flushM m).1 = ⟨s', m.b, m.x⟩ ∧ Oth m.x.nm.data.toList 0 m.s s' ∧ Has s' m.x.nm.data.toList)) ∨ (((flushM m).2 = 4 ∨ (flushM m).2 = 5) ∧ ∃ s', (flushM m).1 = ⟨s', m.b.give 4, { m.x with opn := false }⟩ ∧ Oth m.x.nm.data.toList 0 m.s s') := by
      unfold flushM
      split
      · exact .inl ⟨rfl, m.s, rfl, Oth.refl _ _, hhas⟩
      · rcases layM_parts (blkS m.x.size m.x.wait) ho hhas with ⟨h1, h2⟩ | ⟨h1, h2⟩
        · exact .inl ⟨h1, _, h2, oth_append _ _ _, append_has hhas⟩
        · exact .inr ⟨h1, _, h2, oth_append _ _ _⟩
    have e0 : closeM m = if ¬ (flushM m).2 = 0 then flushM m else if ¬ (endM (flushM m).1).2 = 0 then (dropM (endM (flushM m).1).1, (endM (flushM m).1).2) else (dropM (syncM (endM (flushM m).1).1).1, (syncM (endM (flushM m).1).1).2) := by
      unfold closeM; rw [if_neg (by rw [ho]; decide)]
    rcases hfl with ⟨f1, s1, f2, f3, f4⟩ | ⟨f1, s1, f2, f3⟩
    · rw [if_neg (by rw [f1]; decide)] at e0
      have hen : ((endM (flushM m).1).2 = 0 ∧ (∃ s', (endM (flushM m).1).1 = ⟨s', m.b, m.x⟩ ∧ Oth m.x.nm.data.toList 0 m.s s' ∧ Has s' m.x.nm.data.toList)) ∨ (((endM (flushM m).1).2 = 4 ∨ (endM (flushM m).1).2 = 5) ∧ ∃ s', (endM (flushM m).1).1 = ⟨s', m.b.give 4, { m.x with opn := false }⟩ ∧ Oth m.x.nm.data.toList 0 m.s s') := by
        rw [f2]
        unfold endM
        rcases layM_parts (m := ⟨s1, m.b, m.x⟩) (peS m.x.all.length (sumN m.x.all)) ho f4 with ⟨h1, h2⟩ | ⟨h1, h2⟩
        · exact .inl ⟨h1, _, h2, f3.trans (oth_append _ _ _), append_has f4⟩
        · exact .inr ⟨h1, _, h2, f3.trans (oth_append _ _ _)⟩
      rcases hen with ⟨g1, s2, g2, g3, g4⟩ | ⟨g1, s2, g2, g3⟩
      · rw [if_neg (by rw [g1]; decide)] at e0
        have hsy : (syncM (endM (flushM m).1).1).1 = ⟨(syncR s2 m.x.nm.data.toList).1, m.b, m.x⟩ ∧ (syncM (endM (flushM m).1).1).2 = (syncR s2 m.x.nm.data.toList).2 := by rw [g2]; exact ⟨rfl, rfl⟩
        have hO : Oth m.x.nm.data.toList 0 m.s (syncR s2 m.x.nm.data.toList).1 := g3.trans (oth_sync _ _)
        rw [hsy.1, hsy.2, dropM_open (by exact ho)] at e0
        rcases sync_code g4 with hs | hs
        · left
          rw [e0]; exact ⟨hs, hO⟩
        · right
          rw [e0] at hok' ⊢
          exact ⟨hok', rfl, rfl, hO, .inr hs⟩
      · rw [if_pos (by rcases g1 with g1 | g1 <;> rw [g1] <;> decide)] at e0
        right
        have hd : dropM (endM (flushM m).1).1 = ⟨s2, m.b.give 4, { m.x with opn := false }⟩ := by rw [g2]; unfold dropM; rw [if_neg (by simp)]
        rw [hd] at e0
        rw [e0] at hok' ⊢
        exact ⟨hok', rfl, rfl, g3, g1⟩
    · rw [if_pos (by rcases f1 with f1 | f1 <;> rw [f1] <;> decide)] at e0
      right
      rw [e0, f2] at hok' ⊢
      exact ⟨hok', rfl, rfl, f3, f1⟩
  rcases key with ⟨h0, hO⟩ | hg
  · left
    obtain ⟨f', k1, k2, k3, k4, k5, k6⟩ := laid_close hok (by rw [hal]; exact hl) hL ho h0
    exact ⟨h0, hok', k5, k4, hO, f', k1, by rw [k2, hsz, hal]⟩
  · exact .inr hg
theorem create_f {s : St} {b : Bu} {nm : ByteArray} {nn : Int} (hs : s.ok) (hb : b.ok) (hn : nm.size ≤ 24) (hm : rightB nm.data.toList = true) (hz : sizeB nn = true) (hg : s.get nm.data.toList = none) :
    ((createM s b nm nn).2.2 = 0 ∧ b.takeE 4 = 0 ∧ WrOn ⟨(createM s b nm nn).1, (createM s b nm nn).2.1, newWs nm nn⟩ nm nn [] ∧ (createM s b nm nn).2.1 = b.take 4 ∧ Oth nm.data.toList 1 s (createM s b nm nn).1) ∨
    ((createM s b nm nn).2.2 = b.takeE 4 ∧ b.takeE 4 ≠ 0 ∧ (createM s b nm nn).1 = s ∧ (createM s b nm nn).2.1 = b.take 4) ∨
    (((createM s b nm nn).2.2 = 4 ∨ (createM s b nm nn).2.2 = 5) ∧ (createM s b nm nn).1.ok ∧ b.takeE 4 = 0 ∧ (createM s b nm nn).2.1 = (b.take 4).give 4 ∧ ∃ d, d ≤ 1 ∧ Oth nm.data.toList d s (createM s b nm nn).1) := by
  by_cases h0 : (createM s b nm nn).2.2 = 0
  · left
    have hok := createM_ok hs hb hn hm h0
    obtain ⟨f, hL⟩ := laid_new (s := s) (b := b) (nm := nm) (size := nn) h0
    have h0' := h0
    unfold createM at h0'
    rw [if_neg (by rw [hz]; decide)] at h0'
    by_cases h1 : ¬ b.takeE 4 = 0
    · rw [if_pos h1] at h0'; exact absurd h0' h1
    · rw [if_neg h1] at h0'
      by_cases h2 : ¬ (createR s nm.data.toList).2 = 0
      · rw [if_pos h2] at h0'; exact absurd h0' h2
      · rw [if_neg h2] at h0'
        by_cases h3 : ¬ (appendR (createR s nm.data.toList).1 nm.data.toList (headS nn).data.toList).2 = 0
        · rw [if_pos h3] at h0'; exact absurd h0' h3
        · have e : createM s b nm nn = ((appendR (createR s nm.data.toList).1 nm.data.toList (headS nn).data.toList).1, b.take 4, 0) := by
            unfold createM; rw [if_neg (by rw [hz]; decide), if_neg h1, if_neg h2, if_neg h3]
          obtain ⟨d, o1, o2, _⟩ := oth_create s nm.data.toList
          have hd := o2 (by omega)
          subst hd
          refine ⟨h0, by omega, ⟨hok, rfl, rfl, rfl, rfl, 0, f, hL⟩, by rw [e], by rw [e]; exact o1.trans (oth_append _ _ _)⟩
  · right
    by_cases h1 : ¬ b.takeE 4 = 0
    · left
      have e : createM s b nm nn = (s, b.take 4, b.takeE 4) := by unfold createM; rw [if_neg (by rw [hz]; decide), if_pos h1]
      rw [e]; exact ⟨rfl, h1, rfl, rfl⟩
    · right
      obtain ⟨d, o1, o2, o3⟩ := oth_create s nm.data.toList
      have hc := ok_createR hs (n := nm.data.toList) (by rw [show nm.data.toList.length = nm.size from Array.length_toList]; exact hn)
      by_cases h2 : ¬ (createR s nm.data.toList).2 = 0
      · have e : createM s b nm nn = ((createR s nm.data.toList).1, (b.take 4).give 4, (createR s nm.data.toList).2) := by
          unfold createM; rw [if_neg (by rw [hz]; decide), if_neg h1, if_pos h2]
        rw [e]
        refine ⟨?_, hc, by omega, rfl, d, o3, o1⟩
        rcases create_code hg with k | k
        · exact absurd k h2
        · exact k
      · have h3 : ¬ (appendR (createR s nm.data.toList).1 nm.data.toList (headS nn).data.toList).2 = 0 := by
          intro h3
          refine h0 ?_
          unfold createM; rw [if_neg (by rw [hz]; decide), if_neg h1, if_neg h2, if_neg (by simpa using h3)]
        have e : createM s b nm nn = ((appendR (createR s nm.data.toList).1 nm.data.toList (headS nn).data.toList).1, (b.take 4).give 4, (appendR (createR s nm.data.toList).1 nm.data.toList (headS nn).data.toList).2) := by
          unfold createM; rw [if_neg (by rw [hz]; decide), if_neg h1, if_neg h2, if_pos h3]
        rw [e]
        have hh : Has (createR s nm.data.toList).1 nm.data.toList := ⟨_, create_get (by omega)⟩
        refine ⟨?_, ok_append hc _ _, by omega, rfl, d, o3, by have := o1.trans (oth_append (createR s nm.data.toList).1 nm.data.toList (headS nn).data.toList); rwa [Nat.add_zero] at this⟩
        rcases append_code hh (headS nn).data.toList with k | k
        · exact absurd k h3
        · exact k
end WrPlain
end Go.Proofs.YtjplkmmhjfpdaaaGreatDoor
/- Runs: texts in order, at most so many; plain. -/
namespace Go.Proofs.YtjplkmmhjfpdaaaGreatDoor
open Go.RowKit
set_option linter.unusedVariables false
set_option linter.unusedSimpArgs false
set_option maxRecDepth 20000
namespace RnPlain
def ltT (a b : ByteArray) : Bool := Op.bytesLess a.toList b.toList
def leT (a b : ByteArray) : Bool := ltT a b || (a.toList == b.toList)
def digB (n : Nat) : List UInt8 := if n < 10 then [UInt8.ofNat (48 + n)] else digB (n / 10) ++ [UInt8.ofNat (48 + n % 10)]
termination_by n
decreasing_by omega
def nameN (s : ByteArray) (i : Int) : ByteArray := if i < 0 then ⟨#[]⟩ else (s ++ bs [46]) ++ bs (digB i.toNat)
def insT (l : List ByteArray) (s : ByteArray) : List ByteArray := l.takeWhile (fun x => leT x s) ++ s :: l.dropWhile (fun x => leT x s)
def hasT (l : List ByteArray) (s : ByteArray) : Bool := l.any fun x => decide (x = s)
def putT (u : Bool) (l : List ByteArray) (s : ByteArray) : List ByteArray := if (!u || !hasT l s) = true then insT l s else l
def sortT (l : List ByteArray) (u : Bool) : List ByteArray := l.foldl (putT u) []
def runsT (m : Nat) (u : Bool) : Nat → List ByteArray → List (List ByteArray)
  | 0, _ => []
  | f + 1, l => if l.isEmpty = true then [] else sortT (l.take m) u :: runsT m u f (l.drop m)
theorem digB_small {n : Nat} (h : n < 10) : digB n = [UInt8.ofNat (48 + n)] := by rw [digB, if_pos h]
theorem digB_big {n : Nat} (h : ¬ n < 10) : digB n = digB (n / 10) ++ [UInt8.ofNat (48 + n % 10)] := by rw [digB, if_neg h]
theorem digB_le : ∀ f n, n < f → (digB n).length ≤ n + 1
  | f + 1, n, h => by
    by_cases h10 : n < 10
    · rw [digB_small h10]; simp
    · rw [digB_big h10, List.length_append]
      have := digB_le f (n / 10) (by omega)
      simp only [List.length_singleton]
      omega
theorem insT_length (l : List ByteArray) (s : ByteArray) : (insT l s).length = l.length + 1 := by
  unfold insT
  have := congrArg List.length (List.takeWhile_append_dropWhile (p := fun x => leT x s) (l := l))
  rw [List.length_append] at this
  rw [List.length_append, List.length_cons]
  omega
theorem putT_le (u : Bool) (l : List ByteArray) (s : ByteArray) : (putT u l s).length ≤ l.length + 1 := by
  unfold putT
  split
  · rw [insT_length]; exact Nat.le_refl _
  · omega
theorem sortT_snoc (l : List ByteArray) (u : Bool) (s : ByteArray) : sortT (l ++ [s]) u = putT u (sortT l u) s := by unfold sortT; rw [List.foldl_append]; rfl
theorem sortT_le (l : List ByteArray) (u : Bool) : (sortT l u).length ≤ l.length := by
  have key : ∀ (l acc : List ByteArray), (l.foldl (putT u) acc).length ≤ acc.length + l.length := by
    intro l
    induction l with
    | nil => intro acc; simp
    | cons x r ih =>
      intro acc
      have h1 := ih (putT u acc x)
      have h2 := putT_le u acc x
      simp only [List.foldl_cons, List.length_cons]
      omega
  simpa [sortT] using key l []
end RnPlain
end Go.Proofs.YtjplkmmhjfpdaaaGreatDoor
/- Heads of sources, and which is the least; plain. -/
namespace Go.Proofs.YtjplkmmhjfpdaaaGreatDoor
open Go.RowKit
set_option linter.unusedVariables false
set_option linter.unusedSimpArgs false
set_option maxRecDepth 20000
namespace LoPlain
structure Hd where
  s : ByteArray
  o : Bool
def ltS (a b : ByteArray) : Bool := Op.bytesLess a.toList b.toList
def sAt (l : List Hd) (i : Nat) : ByteArray := ((l[i]?).map Hd.s).getD ⟨#[]⟩
def oAt (l : List Hd) (i : Nat) : Bool := ((l[i]?).map Hd.o).getD true
def bestN (l : List Hd) : Nat → Int
  | 0 => -1
  | j + 1 => if (!oAt l j && (decide (bestN l j < 0) || ltS (sAt l j) (sAt l (bestN l j).toNat))) = true then (j : Int) else bestN l j
def leastN (l : List Hd) : Int := bestN l l.length
def leastI (l : List Hd) : Int := max 0 (leastN l)
def leastB (l : List Hd) : Bool := decide (0 ≤ leastN l)
def headS (l : List Hd) : ByteArray := if leastB l = true then sAt l (leastN l).toNat else ⟨#[]⟩
def nextL (l : List Hd) (s : ByteArray) (o : Bool) : List Hd := if leastB l = true then l.set (leastN l).toNat ⟨s, o⟩ else l
def leftN (l : List Hd) : Nat := l.countP (fun x => !x.o)
def mkL : List ByteArray → List Bool → List Hd
  | [], _ => []
  | h :: r, [] => ⟨h, false⟩ :: mkL r []
  | h :: r, o :: os => ⟨h, o⟩ :: mkL r os
theorem bestN_range (l : List Hd) : ∀ j, -1 ≤ bestN l j ∧ bestN l j < (j : Int)
  | 0 => by simp [bestN]
  | j + 1 => by
    have h := bestN_range l j
    rw [bestN]
    split <;> omega
theorem leastN_range (l : List Hd) : -1 ≤ leastN l ∧ leastN l < (l.length : Int) := bestN_range l _
theorem oAt_at {l : List Hd} {i : Nat} {x : Hd} (h : l[i]? = some x) : oAt l i = x.o := by unfold oAt; rw [h]; rfl
theorem sAt_at {l : List Hd} {i : Nat} {x : Hd} (h : l[i]? = some x) : sAt l i = x.s := by unfold sAt; rw [h]; rfl
theorem bestN_on (l : List Hd) : ∀ j, 0 ≤ bestN l j → oAt l (bestN l j).toNat = false
  | 0, h => by simp [bestN] at h
  | j + 1, h => by
    rw [bestN] at h ⊢
    split at h
    · rename_i hc
      rw [if_pos hc]
      simp only [Bool.and_eq_true, Bool.not_eq_true'] at hc
      exact hc.1
    · rename_i hc
      rw [if_neg hc]
      exact bestN_on l j h
theorem mkL_length : ∀ (h : List ByteArray) (o : List Bool), (mkL h o).length = h.length
  | [], _ => by simp [mkL]
  | h :: r, [] => by simp [mkL, mkL_length r []]
  | h :: r, o :: os => by simp [mkL, mkL_length r os]
theorem mkL_at : ∀ (h : List ByteArray) (o : List Bool) (i : Nat) (s : ByteArray), h[i]? = some s → (mkL h o)[i]? = some ⟨s, (o[i]?).getD false⟩
  | [], _, i, s, e => by simp at e
  | h :: r, [], 0, s, e => by simp at e; simp [mkL, e]
  | h :: r, [], i + 1, s, e => by
    have := mkL_at r [] i s (by simpa using e)
    simpa [mkL] using this
  | h :: r, o :: os, 0, s, e => by simp at e; simp [mkL, e]
  | h :: r, o :: os, i + 1, s, e => by
    have := mkL_at r os i s (by simpa using e)
    simpa [mkL] using this
theorem nextL_length (l : List Hd) (s : ByteArray) (o : Bool) : (nextL l s o).length = l.length := by unfold nextL; split <;> simp
theorem leftN_le (l : List Hd) : leftN l ≤ l.length := List.countP_le_length
end LoPlain
end Go.Proofs.YtjplkmmhjfpdaaaGreatDoor

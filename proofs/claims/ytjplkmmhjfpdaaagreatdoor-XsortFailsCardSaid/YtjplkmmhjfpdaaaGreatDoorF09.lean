/- In one text: RnWrite, RnPlain, LoPlain, LoFact, RnFact. -/
import Derived.Test.YtjplkmmhjfpdaaaGreatDoorF06
import Derived.Test.YtjplkmmhjfpdaaaGreatDoorF08
import Derived.Test.YtjplkmmhjfpdaaaGreatDoorF00
import Derived.Lib.Strings
import Derived.WalkKit
import Derived.ProofKit
import Derived.Handy
/- Plain facts: a writer of a file beside others, on a disk that may fall, or be full. -/
namespace Go.Proofs.YtjplkmmhjfpdaaaGreatDoor
open Go.RowKit FsPlain CrcPlain OctPlain FramePlain RecPlain RdPlain
set_option linter.unusedVariables false
set_option linter.unusedSimpArgs false
set_option maxRecDepth 20000
namespace WrPlain
structure Oth (n : List UInt8) (d : Nat) (s s' : St) : Prop where
  get : ∀ n', n' ≠ n → s'.get n' = s.get n'
  room : s'.room = s.room
  calm : s.down = false → s.ahead = -1 → s'.down = false ∧ s'.ahead = -1
  len : s'.fs.length = s.fs.length + d
  calls : s.calls ≤ s'.calls
theorem Oth.refl (n : List UInt8) (s : St) : Oth n 0 s s := ⟨fun _ _ => rfl, rfl, fun a b => ⟨a, b⟩, rfl, Int.le_refl _⟩
theorem Oth.trans {n : List UInt8} {d e : Nat} {a b c : St} (h : Oth n d a b) (k : Oth n e b c) : Oth n (d + e) a c :=
  ⟨fun n' hn => (k.get n' hn).trans (h.get n' hn), k.room.trans h.room, fun x y => by obtain ⟨p, q⟩ := h.calm x y; exact k.calm p q, by rw [k.len, h.len]; omega, Int.le_trans h.calls k.calls⟩
theorem oth_quiet (n : List UInt8) {s s' : St} (h : Quiet s s') : Oth n 0 s s' := ⟨fun n' _ => h.get n', h.room, h.calm, by rw [h.fs]; rfl, h.calls⟩
theorem oth_call (n : List UInt8) (s : St) : Oth n 0 s s.call := oth_quiet n (quiet_call s)
theorem oth_upd {n : List UInt8} {g : F → F} (hg : ∀ f, (g f).name = f.name) (s : St) : Oth n 0 s (s.upd n g) := by
  refine ⟨fun n' hn => ?_, rfl, fun a b => ⟨a, b⟩, ?_, Int.le_refl _⟩
  · unfold St.get St.upd
    simp only []
    rw [List.find?_map]
    have e : ((fun f : F => f.name == n') ∘ fun f => if f.name = n then g f else f) = fun f : F => f.name == n' := by
      funext f
      simp only [Function.comp]
      split
      · rw [hg]
      · rfl
    rw [e]
    cases hf : List.find? (fun f : F => f.name == n') s.fs with
    | none => rfl
    | some f =>
      have := List.find?_some hf
      simp only [beq_iff_eq] at this
      simp only [Option.map_some]
      rw [if_neg (by rw [this]; exact hn)]
  · show (s.fs.map _).length = _; simp
theorem oth_append (s : St) (n t : List UInt8) : Oth n 0 s (appendR s n t).1 := by
  unfold appendR
  split
  · exact oth_call n s
  · cases s.get n with
    | none => exact oth_call n s
    | some f =>
      simp only []
      split
      · exact oth_call n s
      · exact (oth_call n s).trans (oth_upd (g := fun f => { f with data := f.data ++ t }) (fun _ => rfl) s.call)
theorem oth_sync (s : St) (n : List UInt8) : Oth n 0 s (syncR s n).1 := by
  unfold syncR
  split
  · exact oth_call n s
  · cases s.get n with
    | none => exact oth_call n s
    | some f => exact (oth_call n s).trans (oth_upd (g := fun f => { f with kept := f.data.length }) (fun _ => rfl) s.call)
theorem ins_find {n n' : List UInt8} (h : n' ≠ n) (k : Nat) : ∀ l : List F, ((insF ⟨n, [], k⟩ l).find? fun f => f.name == n') = l.find? fun f => f.name == n'
  | [] => by
    unfold insF
    rw [List.find?_cons]
    have : ((⟨n, [], k⟩ : F).name == n') = false := by rw [beq_eq_false_iff_ne]; exact fun e => h e.symm
    rw [this]
  | y :: r => by
    have hx : ((⟨n, [], k⟩ : F).name == n') = false := by rw [beq_eq_false_iff_ne]; exact fun e => h e.symm
    unfold insF
    split
    · rw [List.find?_cons, hx]
    · rw [List.find?_cons, List.find?_cons, ins_find h k r]
theorem oth_create (s : St) (n : List UInt8) : ∃ d, Oth n d s (createR s n).1 ∧ ((createR s n).2 = 0 → d = 1) ∧ d ≤ 1 := by
  unfold createR
  split
  · exact ⟨0, oth_call n s, (fun h => by cases h), by omega⟩
  · cases s.get n with
    | some f => exact ⟨0, oth_call n s, (fun h => by cases h), by omega⟩
    | none =>
      simp only []
      split
      · exact ⟨0, oth_call n s, (fun h => by cases h), by omega⟩
      · refine ⟨1, ?_, fun _ => rfl, Nat.le_refl _⟩
        have q := quiet_call s
        refine ⟨fun n' hn => ins_find hn 0 s.fs, rfl, q.calm, ?_, q.calls⟩
        have := (insF_perm ⟨n, [], 0⟩ s.fs).length_eq
        simpa using this
theorem append_code {s : St} {n : List UInt8} (h : Has s n) (t : List UInt8) : (appendR s n t).2 = 0 ∨ (appendR s n t).2 = 4 ∨ (appendR s n t).2 = 5 := by
  obtain ⟨f, h⟩ := h
  unfold appendR
  split
  · exact .inr (.inr rfl)
  · rw [h]
    simp only []
    split
    · exact .inr (.inl rfl)
    · exact .inl rfl
theorem sync_code {s : St} {n : List UInt8} (h : Has s n) : (syncR s n).2 = 0 ∨ (syncR s n).2 = 5 := by
  obtain ⟨f, h⟩ := h
  unfold syncR
  split
  · exact .inr rfl
  · rw [h]; exact .inl rfl
theorem create_code {s : St} {n : List UInt8} (h : s.get n = none) : (createR s n).2 = 0 ∨ (createR s n).2 = 4 ∨ (createR s n).2 = 5 := by
  unfold createR
  split
  · exact .inr (.inr rfl)
  · rw [h]
    simp only []
    split
    · exact .inr (.inl rfl)
    · exact .inl rfl
structure WrOn (m : M3) (nm : ByteArray) (nn : Int) (done : List ByteArray) : Prop where
  ok : m.ok
  opn : m.x.opn = true
  nm : m.x.nm = nm
  size : m.x.size = nn
  all : m.x.all = done
  laid : ∃ j f, Laid m j f
structure Gone (m M : M3) (nm : ByteArray) (e : Int) : Prop where
  ok : M.ok
  opn : M.x.opn = false
  bud : M.b = m.b.give 4
  oth : Oth nm.data.toList 0 m.s M.s
  code : e = 4 ∨ e = 5
theorem layM_parts {m : M3} (t : ByteArray) (ho : m.x.opn = true) (hh : Has m.s m.x.nm.data.toList) :
    ((layM m t).2 = 0 ∧ (layM m t).1 = ⟨(appendR m.s m.x.nm.data.toList t.data.toList).1, m.b, m.x⟩) ∨
    (((layM m t).2 = 4 ∨ (layM m t).2 = 5) ∧ (layM m t).1 = ⟨(appendR m.s m.x.nm.data.toList t.data.toList).1, m.b.give 4, { m.x with opn := false }⟩) := by
  have hc := append_code hh t.data.toList
  unfold layM
  by_cases h0 : (appendR m.s m.x.nm.data.toList t.data.toList).2 = 0
  · rw [if_pos h0]; exact .inl ⟨rfl, rfl⟩
  · rw [if_neg h0]
    refine .inr ⟨by rcases hc with h | h | h; exact absurd h h0; exact .inl h; exact .inr h, ?_⟩
    show dropM _ = _
    rw [dropM_open (by exact ho)]
theorem put_f {m : M3} {nm : ByteArray} {nn : Int} {done : List ByteArray} (h : WrOn m nm nn done) {r : ByteArray} (hz : (r.size : Int) = nn) :
    ((putM m r).2 = 0 ∧ WrOn (putM m r).1 nm nn (done ++ [r]) ∧ (putM m r).1.b = m.b ∧ Oth nm.data.toList 0 m.s (putM m r).1.s) ∨ Gone m (putM m r).1 nm (putM m r).2 := by
  obtain ⟨hok, ho, hnm, hsz, hal, j, f, hL⟩ := h
  have hok' := ok_putM hok r
  have hnm' := putM_nm m r
  have hz' : (r.size : Int) = m.x.size := by omega
  have hhas : Has m.s m.x.nm.data.toList := ⟨f, hL.get⟩
  have key : ((putM m r).2 = 0 ∧ (putM m r).1.b = m.b ∧ Oth nm.data.toList 0 m.s (putM m r).1.s) ∨ Gone m (putM m r).1 nm (putM m r).2 := by
    have e : putM m r = if m.x.wait.length < 3 then (⟨m.s, m.b, m.x.put r⟩, 0) else layM ⟨m.s, m.b, (m.x.put r).none⟩ (blkS m.x.size (m.x.wait ++ [r])) := by
      unfold putM; rw [if_neg (by rw [ho]; decide), if_neg (by simpa using hz')]
    by_cases hw : m.x.wait.length < 3
    · rw [if_pos hw] at e
      rw [e]
      exact .inl ⟨rfl, rfl, Oth.refl _ _⟩
    · rw [if_neg hw] at e
      have ho2 := oth_append m.s nm.data.toList (blkS m.x.size (m.x.wait ++ [r])).data.toList
      rcases layM_parts (m := ⟨m.s, m.b, (m.x.put r).none⟩) (blkS m.x.size (m.x.wait ++ [r])) ho hhas with ⟨h1, h2⟩ | ⟨h1, h2⟩
      · left
        rw [e, h2]
        refine ⟨h1, rfl, ?_⟩
        rw [← hnm] at ho2 ⊢; exact ho2
      · right
        rw [e] at hok' ⊢
        refine ⟨hok', by rw [h2], by rw [h2], ?_, h1⟩
        rw [h2, ← hnm]; rw [← hnm] at ho2; exact ho2
  rcases key with ⟨h0, hb, hO⟩ | hg
  · left
    obtain ⟨j', f', k1, k2, k3⟩ := laid_put hok hL ho hz' h0
    exact ⟨h0, ⟨hok', k3, hnm'.1.trans hnm, hnm'.2.trans hsz, by rw [k2, hal], j', f', k1⟩, hb, hO⟩
  · exact .inr hg
structure Done (m M : M3) (nm : ByteArray) (nn : Int) (done : List ByteArray) : Prop where
  ok : M.ok
  opn : M.x.opn = false
  bud : M.b = m.b.give 4
  oth : Oth nm.data.toList 0 m.s M.s
  file : ∃ f, M.s.get nm.data.toList = some f ∧ f.data = layL nn done
theorem close_f {m : M3} {nm : ByteArray} {nn : Int} {done : List ByteArray} (h : WrOn m nm nn done) (hl : done.length ≤ 100000) (hok' : (closeM m).1.ok) :
    ((closeM m).2 = 0 ∧ Done m (closeM m).1 nm nn done) ∨ Gone m (closeM m).1 nm (closeM m).2 := by
  obtain ⟨hok, ho, hnm, hsz, hal, j, f, hL⟩ := h
  subst hnm
  have hhas : Has m.s m.x.nm.data.toList := ⟨f, hL.get⟩
  have key : ((closeM m).2 = 0 ∧ Oth m.x.nm.data.toList 0 m.s (closeM m).1.s) ∨ Gone m (closeM m).1 m.x.nm (closeM m).2 := by
    have hfl : ((flushM m).2 = 0 ∧ (∃ s', (flushM m).1 = ⟨s', m.b, m.x⟩ ∧ Oth m.x.nm.data.toList 0 m.s s' ∧ Has s' m.x.nm.data.toList)) ∨ (((flushM m).2 = 4 ∨ (flushM m).2 = 5) ∧ ∃ s', (flushM m).1 = ⟨s', m.b.give 4, { m.x with opn := false }⟩ ∧ Oth m.x.nm.data.toList 0 m.s s') := by
      unfold flushM
      split
      · exact .inl ⟨rfl, m.s, rfl, Oth.refl _ _, hhas⟩
      · rcases layM_parts (blkS m.x.size m.x.wait) ho hhas with ⟨h1, h2⟩ | ⟨h1, h2⟩
        · exact .inl ⟨h1, _, h2, oth_append _ _ _, append_has hhas⟩
        · exact .inr ⟨h1, _, h2, oth_append _ _ _⟩
    have e0 : closeM m = if ¬ (flushM m).2 = 0 then flushM m else if ¬ (endM (flushM m).1).2 = 0 then (dropM (endM (flushM m).1).1, (endM (flushM m).1).2) else (dropM (syncM (endM (flushM m).1).1).1, (syncM (endM (flushM m).1).1).2) := by
      unfold closeM; rw [if_neg (by rw [ho]; decide)]
    rcases hfl with ⟨f1, s1, f2, f3, f4⟩ | ⟨f1, s1, f2, f3⟩
    · rw [if_neg (by rw [f1]; decide)] at e0
      have hen : ((endM (flushM m).1).2 = 0 ∧ (∃ s', (endM (flushM m).1).1 = ⟨s', m.b, m.x⟩ ∧ Oth m.x.nm.data.toList 0 m.s s' ∧ Has s' m.x.nm.data.toList)) ∨ (((endM (flushM m).1).2 = 4 ∨ (endM (flushM m).1).2 = 5) ∧ ∃ s', (endM (flushM m).1).1 = ⟨s', m.b.give 4, { m.x with opn := false }⟩ ∧ Oth m.x.nm.data.toList 0 m.s s') := by
        rw [f2]
        unfold endM
        rcases layM_parts (m := ⟨s1, m.b, m.x⟩) (peS m.x.all.length (sumN m.x.all)) ho f4 with ⟨h1, h2⟩ | ⟨h1, h2⟩
        · exact .inl ⟨h1, _, h2, f3.trans (oth_append _ _ _), append_has f4⟩
        · exact .inr ⟨h1, _, h2, f3.trans (oth_append _ _ _)⟩
      rcases hen with ⟨g1, s2, g2, g3, g4⟩ | ⟨g1, s2, g2, g3⟩
      · rw [if_neg (by rw [g1]; decide)] at e0
        have hsy : (syncM (endM (flushM m).1).1).1 = ⟨(syncR s2 m.x.nm.data.toList).1, m.b, m.x⟩ ∧ (syncM (endM (flushM m).1).1).2 = (syncR s2 m.x.nm.data.toList).2 := by rw [g2]; exact ⟨rfl, rfl⟩
        have hO : Oth m.x.nm.data.toList 0 m.s (syncR s2 m.x.nm.data.toList).1 := g3.trans (oth_sync _ _)
        rw [hsy.1, hsy.2, dropM_open (by exact ho)] at e0
        rcases sync_code g4 with hs | hs
        · left
          rw [e0]; exact ⟨hs, hO⟩
        · right
          rw [e0] at hok' ⊢
          exact ⟨hok', rfl, rfl, hO, .inr hs⟩
      · rw [if_pos (by rcases g1 with g1 | g1 <;> rw [g1] <;> decide)] at e0
        right
        have hd : dropM (endM (flushM m).1).1 = ⟨s2, m.b.give 4, { m.x with opn := false }⟩ := by rw [g2]; unfold dropM; rw [if_neg (by simp)]
        rw [hd] at e0
        rw [e0] at hok' ⊢
        exact ⟨hok', rfl, rfl, g3, g1⟩
    · rw [if_pos (by rcases f1 with f1 | f1 <;> rw [f1] <;> decide)] at e0
      right
      rw [e0, f2] at hok' ⊢
      exact ⟨hok', rfl, rfl, f3, f1⟩
  rcases key with ⟨h0, hO⟩ | hg
  · left
    obtain ⟨f', k1, k2, k3, k4, k5, k6⟩ := laid_close hok (by rw [hal]; exact hl) hL ho h0
    exact ⟨h0, hok', k5, k4, hO, f', k1, by rw [k2, hsz, hal]⟩
  · exact .inr hg
theorem create_f {s : St} {b : Bu} {nm : ByteArray} {nn : Int} (hs : s.ok) (hb : b.ok) (hn : nm.size ≤ 24) (hm : rightB nm.data.toList = true) (hz : sizeB nn = true) (hg : s.get nm.data.toList = none) :
    ((createM s b nm nn).2.2 = 0 ∧ b.takeE 4 = 0 ∧ WrOn ⟨(createM s b nm nn).1, (createM s b nm nn).2.1, newWs nm nn⟩ nm nn [] ∧ (createM s b nm nn).2.1 = b.take 4 ∧ Oth nm.data.toList 1 s (createM s b nm nn).1) ∨
    ((createM s b nm nn).2.2 = b.takeE 4 ∧ b.takeE 4 ≠ 0 ∧ (createM s b nm nn).1 = s ∧ (createM s b nm nn).2.1 = b.take 4) ∨
    (((createM s b nm nn).2.2 = 4 ∨ (createM s b nm nn).2.2 = 5) ∧ (createM s b nm nn).1.ok ∧ b.takeE 4 = 0 ∧ (createM s b nm nn).2.1 = (b.take 4).give 4 ∧ ∃ d, d ≤ 1 ∧ Oth nm.data.toList d s (createM s b nm nn).1) := by
  by_cases h0 : (createM s b nm nn).2.2 = 0
  · left
    have hok := createM_ok hs hb hn hm h0
    obtain ⟨f, hL⟩ := laid_new (s := s) (b := b) (nm := nm) (size := nn) h0
    have h0' := h0
    unfold createM at h0'
    rw [if_neg (by rw [hz]; decide)] at h0'
    by_cases h1 : ¬ b.takeE 4 = 0
    · rw [if_pos h1] at h0'; exact absurd h0' h1
    · rw [if_neg h1] at h0'
      by_cases h2 : ¬ (createR s nm.data.toList).2 = 0
      · rw [if_pos h2] at h0'; exact absurd h0' h2
      · rw [if_neg h2] at h0'
        by_cases h3 : ¬ (appendR (createR s nm.data.toList).1 nm.data.toList (headS nn).data.toList).2 = 0
        · rw [if_pos h3] at h0'; exact absurd h0' h3
        · have e : createM s b nm nn = ((appendR (createR s nm.data.toList).1 nm.data.toList (headS nn).data.toList).1, b.take 4, 0) := by
            unfold createM; rw [if_neg (by rw [hz]; decide), if_neg h1, if_neg h2, if_neg h3]
          obtain ⟨d, o1, o2, _⟩ := oth_create s nm.data.toList
          have hd := o2 (by omega)
          subst hd
          refine ⟨h0, by omega, ⟨hok, rfl, rfl, rfl, rfl, 0, f, hL⟩, by rw [e], by rw [e]; exact o1.trans (oth_append _ _ _)⟩
  · right
    by_cases h1 : ¬ b.takeE 4 = 0
    · left
      have e : createM s b nm nn = (s, b.take 4, b.takeE 4) := by unfold createM; rw [if_neg (by rw [hz]; decide), if_pos h1]
      rw [e]; exact ⟨rfl, h1, rfl, rfl⟩
    · right
      obtain ⟨d, o1, o2, o3⟩ := oth_create s nm.data.toList
      have hc := ok_createR hs (n := nm.data.toList) (by rw [show nm.data.toList.length = nm.size from Array.length_toList]; exact hn)
      by_cases h2 : ¬ (createR s nm.data.toList).2 = 0
      · have e : createM s b nm nn = ((createR s nm.data.toList).1, (b.take 4).give 4, (createR s nm.data.toList).2) := by
          unfold createM; rw [if_neg (by rw [hz]; decide), if_neg h1, if_pos h2]
        rw [e]
        refine ⟨?_, hc, by omega, rfl, d, o3, o1⟩
        rcases create_code hg with k | k
        · exact absurd k h2
        · exact k
      · have h3 : ¬ (appendR (createR s nm.data.toList).1 nm.data.toList (headS nn).data.toList).2 = 0 := by
          intro h3
          refine h0 ?_
          unfold createM; rw [if_neg (by rw [hz]; decide), if_neg h1, if_neg h2, if_neg (by simpa using h3)]
        have e : createM s b nm nn = ((appendR (createR s nm.data.toList).1 nm.data.toList (headS nn).data.toList).1, (b.take 4).give 4, (appendR (createR s nm.data.toList).1 nm.data.toList (headS nn).data.toList).2) := by
          unfold createM; rw [if_neg (by rw [hz]; decide), if_neg h1, if_neg h2, if_pos h3]
        rw [e]
        have hh : Has (createR s nm.data.toList).1 nm.data.toList := ⟨_, create_get (by omega)⟩
        refine ⟨?_, ok_append hc _ _, by omega, rfl, d, o3, by have := o1.trans (oth_append (createR s nm.data.toList).1 nm.data.toList (headS nn).data.toList); rwa [Nat.add_zero] at this⟩
        rcases append_code hh (headS nn).data.toList with k | k
        · exact absurd k h3
        · exact k
end WrPlain
end Go.Proofs.YtjplkmmhjfpdaaaGreatDoor
/- Runs: texts in order, at most so many; plain. -/
namespace Go.Proofs.YtjplkmmhjfpdaaaGreatDoor
open Go.RowKit
set_option linter.unusedVariables false
set_option linter.unusedSimpArgs false
set_option maxRecDepth 20000
namespace RnPlain
def ltT (a b : ByteArray) : Bool := Op.bytesLess a.toList b.toList
def leT (a b : ByteArray) : Bool := ltT a b || (a.toList == b.toList)
def digB (n : Nat) : List UInt8 := if n < 10 then [UInt8.ofNat (48 + n)] else digB (n / 10) ++ [UInt8.ofNat (48 + n % 10)]
termination_by n
decreasing_by omega
def nameN (s : ByteArray) (i : Int) : ByteArray := if i < 0 then ⟨#[]⟩ else (s ++ bs [46]) ++ bs (digB i.toNat)
def insT (l : List ByteArray) (s : ByteArray) : List ByteArray := l.takeWhile (fun x => leT x s) ++ s :: l.dropWhile (fun x => leT x s)
def hasT (l : List ByteArray) (s : ByteArray) : Bool := l.any fun x => decide (x = s)
def putT (u : Bool) (l : List ByteArray) (s : ByteArray) : List ByteArray := if (!u || !hasT l s) = true then insT l s else l
def sortT (l : List ByteArray) (u : Bool) : List ByteArray := l.foldl (putT u) []
def runsT (m : Nat) (u : Bool) : Nat → List ByteArray → List (List ByteArray)
  | 0, _ => []
  | f + 1, l => if l.isEmpty = true then [] else sortT (l.take m) u :: runsT m u f (l.drop m)
theorem digB_small {n : Nat} (h : n < 10) : digB n = [UInt8.ofNat (48 + n)] := by rw [digB, if_pos h]
theorem digB_big {n : Nat} (h : ¬ n < 10) : digB n = digB (n / 10) ++ [UInt8.ofNat (48 + n % 10)] := by rw [digB, if_neg h]
theorem digB_le : ∀ f n, n < f → (digB n).length ≤ n + 1
  | f + 1, n, h => by
    by_cases h10 : n < 10
    · rw [digB_small h10]; simp
    · rw [digB_big h10, List.length_append]
      have := digB_le f (n / 10) (by omega)
      simp only [List.length_singleton]
      omega
theorem insT_length (l : List ByteArray) (s : ByteArray) : (insT l s).length = l.length + 1 := by
  unfold insT
  have := congrArg List.length (List.takeWhile_append_dropWhile (p := fun x => leT x s) (l := l))
  rw [List.length_append] at this
  rw [List.length_append, List.length_cons]
  omega
theorem putT_le (u : Bool) (l : List ByteArray) (s : ByteArray) : (putT u l s).length ≤ l.length + 1 := by
  unfold putT
  split
  · rw [insT_length]; exact Nat.le_refl _
  · omega
theorem sortT_snoc (l : List ByteArray) (u : Bool) (s : ByteArray) : sortT (l ++ [s]) u = putT u (sortT l u) s := by unfold sortT; rw [List.foldl_append]; rfl
theorem sortT_le (l : List ByteArray) (u : Bool) : (sortT l u).length ≤ l.length := by
  have key : ∀ (l acc : List ByteArray), (l.foldl (putT u) acc).length ≤ acc.length + l.length := by
    intro l
    induction l with
    | nil => intro acc; simp
    | cons x r ih =>
      intro acc
      have h1 := ih (putT u acc x)
      have h2 := putT_le u acc x
      simp only [List.foldl_cons, List.length_cons]
      omega
  simpa [sortT] using key l []
end RnPlain
end Go.Proofs.YtjplkmmhjfpdaaaGreatDoor
/- Heads of sources, and which is the least; plain. -/
namespace Go.Proofs.YtjplkmmhjfpdaaaGreatDoor
open Go.RowKit
set_option linter.unusedVariables false
set_option linter.unusedSimpArgs false
set_option maxRecDepth 20000
namespace LoPlain
structure Hd where
  s : ByteArray
  o : Bool
def ltS (a b : ByteArray) : Bool := Op.bytesLess a.toList b.toList
def sAt (l : List Hd) (i : Nat) : ByteArray := ((l[i]?).map Hd.s).getD ⟨#[]⟩
def oAt (l : List Hd) (i : Nat) : Bool := ((l[i]?).map Hd.o).getD true
def bestN (l : List Hd) : Nat → Int
  | 0 => -1
  | j + 1 => if (!oAt l j && (decide (bestN l j < 0) || ltS (sAt l j) (sAt l (bestN l j).toNat))) = true then (j : Int) else bestN l j
def leastN (l : List Hd) : Int := bestN l l.length
def leastI (l : List Hd) : Int := max 0 (leastN l)
def leastB (l : List Hd) : Bool := decide (0 ≤ leastN l)
def headS (l : List Hd) : ByteArray := if leastB l = true then sAt l (leastN l).toNat else ⟨#[]⟩
def nextL (l : List Hd) (s : ByteArray) (o : Bool) : List Hd := if leastB l = true then l.set (leastN l).toNat ⟨s, o⟩ else l
def leftN (l : List Hd) : Nat := l.countP (fun x => !x.o)
def mkL : List ByteArray → List Bool → List Hd
  | [], _ => []
  | h :: r, [] => ⟨h, false⟩ :: mkL r []
  | h :: r, o :: os => ⟨h, o⟩ :: mkL r os
theorem bestN_range (l : List Hd) : ∀ j, -1 ≤ bestN l j ∧ bestN l j < (j : Int)
  | 0 => by simp [bestN]
  | j + 1 => by
    have h := bestN_range l j
    rw [bestN]
    split <;> omega
theorem leastN_range (l : List Hd) : -1 ≤ leastN l ∧ leastN l < (l.length : Int) := bestN_range l _
theorem oAt_at {l : List Hd} {i : Nat} {x : Hd} (h : l[i]? = some x) : oAt l i = x.o := by unfold oAt; rw [h]; rfl
theorem sAt_at {l : List Hd} {i : Nat} {x : Hd} (h : l[i]? = some x) : sAt l i = x.s := by unfold sAt; rw [h]; rfl
theorem bestN_on (l : List Hd) : ∀ j, 0 ≤ bestN l j → oAt l (bestN l j).toNat = false
  | 0, h => by simp [bestN] at h
  | j + 1, h => by
    rw [bestN] at h ⊢
    split at h
    · rename_i hc
      rw [if_pos hc]
      simp only [Bool.and_eq_true, Bool.not_eq_true'] at hc
      exact hc.1
    · rename_i hc
      rw [if_neg hc]
      exact bestN_on l j h
theorem mkL_length : ∀ (h : List ByteArray) (o : List Bool), (mkL h o).length = h.length
  | [], _ => by simp [mkL]
  | h :: r, [] => by simp [mkL, mkL_length r []]
  | h :: r, o :: os => by simp [mkL, mkL_length r os]
theorem mkL_at : ∀ (h : List ByteArray) (o : List Bool) (i : Nat) (s : ByteArray), h[i]? = some s → (mkL h o)[i]? = some ⟨s, (o[i]?).getD false⟩
  | [], _, i, s, e => by simp at e
  | h :: r, [], 0, s, e => by simp at e; simp [mkL, e]
  | h :: r, [], i + 1, s, e => by
    have := mkL_at r [] i s (by simpa using e)
    simpa [mkL] using this
  | h :: r, o :: os, 0, s, e => by simp at e; simp [mkL, e]
  | h :: r, o :: os, i + 1, s, e => by
    have := mkL_at r os i s (by simpa using e)
    simpa [mkL] using this
theorem nextL_length (l : List Hd) (s : ByteArray) (o : Bool) : (nextL l s o).length = l.length := by unfold nextL; split <;> simp
theorem leftN_le (l : List Hd) : leftN l ≤ l.length := List.countP_le_length
end LoPlain
end Go.Proofs.YtjplkmmhjfpdaaaGreatDoor
/- What the least is: no other head is less; rising lists merged, by counts; plain. -/
namespace Go.Proofs.YtjplkmmhjfpdaaaGreatDoor
open Go.RowKit
set_option linter.unusedVariables false
set_option linter.unusedSimpArgs false
set_option maxRecDepth 20000
namespace LoPlain
theorem bl_irrefl : ∀ a : List UInt8, Op.bytesLess a a = false
  | [] => rfl
  | x :: r => by
    have h := bl_irrefl r
    simp [Op.bytesLess, h]
theorem bl_trans : ∀ {a b c : List UInt8}, Op.bytesLess a b = true → Op.bytesLess b c = true → Op.bytesLess a c = true
  | _, _, [], _, h => by cases ‹List UInt8› <;> simp [Op.bytesLess] at h
  | _, [], _ :: _, h, _ => by cases ‹List UInt8› <;> simp [Op.bytesLess] at h
  | [], _ :: _, _ :: _, _, _ => rfl
  | x :: a, y :: b, z :: c, h, k => by
    simp only [Op.bytesLess, Bool.or_eq_true, Bool.and_eq_true, decide_eq_true_eq, beq_iff_eq] at h k ⊢
    rcases h with h | ⟨rfl, h⟩
    · rcases k with k | ⟨rfl, k⟩
      · exact .inl (UInt8.lt_trans h k)
      · exact .inl h
    · rcases k with k | ⟨rfl, k⟩
      · exact .inl k
      · exact .inr ⟨rfl, bl_trans h k⟩
theorem lt_irrefl15 (a : ByteArray) : ltS a a = false := bl_irrefl _
theorem lt_trans15 {a b c : ByteArray} (h : ltS a b = true) (k : ltS b c = true) : ltS a c = true := bl_trans h k
theorem best_some (l : List Hd) : ∀ j i, i < j → oAt l i = false → 0 ≤ bestN l j
  | j + 1, i, hi, ho => by
    rw [bestN]
    split
    · omega
    · rename_i hc
      rcases Nat.lt_or_ge i j with h | h
      · exact best_some l j i h ho
      · obtain rfl : i = j := by omega
        have hr := bestN_range l i
        by_cases hb : bestN l i < 0
        · exact absurd (by rw [ho, decide_eq_true hb]; rfl) hc
        · omega
theorem best_min (l : List Hd) : ∀ j, 0 ≤ bestN l j → ∀ i, i < j → oAt l i = false → ltS (sAt l i) (sAt l (bestN l j).toNat) = false
  | 0, _, i, hi, _ => by omega
  | j + 1, h, i, hi, ho => by
    rw [bestN] at h ⊢
    split at h
    · rename_i hc
      rw [if_pos hc, Int.toNat_natCast]
      simp only [Bool.and_eq_true, Bool.or_eq_true, Bool.not_eq_true', decide_eq_true_eq] at hc
      rcases Nat.lt_or_ge i j with hij | hij
      · rcases hc.2 with hb | hb
        · have := best_some l j i hij ho; omega
        · have hr := bestN_range l j
          by_cases h0 : 0 ≤ bestN l j
          · have h1 := best_min l j h0 i hij ho
            cases h2 : ltS (sAt l i) (sAt l j)
            · rfl
            · rw [lt_trans15 h2 hb] at h1; cases h1
          · have := best_some l j i hij ho; omega
      · obtain rfl : i = j := by omega
        exact lt_irrefl15 _
    · rename_i hc
      rw [if_neg hc]
      rcases Nat.lt_or_ge i j with hij | hij
      · exact best_min l j h i hij ho
      · obtain rfl : i = j := by omega
        simp only [Bool.and_eq_true, Bool.or_eq_true, Bool.not_eq_true', decide_eq_true_eq, not_and, not_or] at hc
        have := (hc ho).2
        simpa using this
theorem least_some {l : List Hd} {i : Nat} (hi : i < l.length) (ho : oAt l i = false) : leastB l = true := by
  unfold leastB leastN
  rw [decide_eq_true_iff]
  exact best_some l _ i hi ho
theorem least_min {l : List Hd} (h : leastB l = true) {i : Nat} (hi : i < l.length) (ho : oAt l i = false) : ltS (sAt l i) (sAt l (leastN l).toNat) = false := by
  unfold leastB leastN at h
  rw [decide_eq_true_iff] at h
  exact best_min l _ h i hi ho
theorem least_on {l : List Hd} (h : leastB l = true) : oAt l (leastN l).toNat = false := by
  unfold leastB leastN at h
  rw [decide_eq_true_iff] at h
  exact bestN_on l _ h
end LoPlain
end Go.Proofs.YtjplkmmhjfpdaaaGreatDoor
/- Texts in order: whoever sorts them, they are the same; plain. -/
namespace Go.Proofs.YtjplkmmhjfpdaaaGreatDoor
open Go.RowKit LoPlain
set_option linter.unusedVariables false
set_option linter.unusedSimpArgs false
set_option maxRecDepth 20000
namespace RnPlain
theorem bl_total : ∀ {a b : List UInt8}, Op.bytesLess a b = false → Op.bytesLess b a = false → a = b
  | [], [], _, _ => rfl
  | [], _ :: _, h, _ => by simp [Op.bytesLess] at h
  | _ :: _, [], _, h => by simp [Op.bytesLess] at h
  | x :: a, y :: b, h, k => by
    simp only [Op.bytesLess, Bool.or_eq_false_iff, Bool.and_eq_false_imp, decide_eq_false_iff_not, beq_iff_eq] at h k
    have hxy : x = y := by
      have h1 := h.1
      have h2 := k.1
      rw [UInt8.not_lt] at h1 h2
      exact UInt8.le_antisymm h2 h1
    subst hxy
    rw [bl_total (h.2 rfl) (k.2 rfl)]
theorem toList_inj {a b : ByteArray} (h : a.toList = b.toList) : a = b := by
  rw [Lib.toList_data, Lib.toList_data] at h
  exact ByteArray.ext (Array.toList_inj.1 h)
theorem le_iff {a b : ByteArray} : leT a b = true ↔ ltT b a = false := by
  unfold leT ltT
  simp only [Bool.or_eq_true, beq_iff_eq]
  constructor
  · rintro (h | h)
    · cases h2 : Op.bytesLess b.toList a.toList
      · rfl
      · have := bl_trans h h2
        rw [bl_irrefl] at this; cases this
    · rw [h]; exact bl_irrefl _
  · intro h
    cases h2 : Op.bytesLess a.toList b.toList
    · exact .inr (bl_total h2 h)
    · exact .inl rfl
theorem le_refl16 (a : ByteArray) : leT a a = true := by unfold leT; simp
theorem le_total {a b : ByteArray} (h : leT a b = false) : leT b a = true := by
  rw [le_iff]
  unfold leT at h
  rw [Bool.or_eq_false_iff] at h
  exact h.1
theorem le_antisymm {a b : ByteArray} (h : leT a b = true) (k : leT b a = true) : a = b := by
  rw [le_iff] at h k
  exact toList_inj (bl_total k h)
theorem le_trans {a b c : ByteArray} (h : leT a b = true) (k : leT b c = true) : leT a c = true := by
  unfold leT at h k ⊢
  simp only [Bool.or_eq_true, beq_iff_eq] at h k ⊢
  rcases h with h | h
  · rcases k with k | k
    · exact .inl (bl_trans h k)
    · exact .inl (by unfold ltT at *; rw [← k]; exact h)
  · rcases k with k | k
    · exact .inl (by unfold ltT at *; rw [h]; exact k)
    · exact .inr (h.trans k)
def Srt (l : List ByteArray) : Prop := l.Pairwise fun a b => leT a b = true
theorem insT_perm (l : List ByteArray) (s : ByteArray) : (insT l s).Perm (s :: l) := by
  unfold insT
  refine List.perm_middle.trans (List.Perm.cons _ ?_)
  rw [List.takeWhile_append_dropWhile]
theorem insT_srt : ∀ {l : List ByteArray} {s : ByteArray}, Srt l → Srt (insT l s)
  | [], s, _ => by simp [insT, Srt]
  | x :: r, s, h => by
    have hr : Srt r := (List.pairwise_cons.1 h).2
    have hx := (List.pairwise_cons.1 h).1
    cases hle : leT x s
    · have e : insT (x :: r) s = s :: x :: r := by simp [insT, List.takeWhile, List.dropWhile, hle]
      rw [e]
      refine List.pairwise_cons.2 ⟨fun y hy => ?_, h⟩
      rcases List.mem_cons.1 hy with rfl | hy
      · exact le_total hle
      · exact le_trans (le_total hle) (hx y hy)
    · have e : insT (x :: r) s = x :: insT r s := by simp [insT, List.takeWhile_cons, List.dropWhile_cons, hle]
      rw [e]
      refine List.pairwise_cons.2 ⟨fun y hy => ?_, insT_srt hr⟩
      rcases List.mem_cons.1 ((insT_perm r s).subset hy) with rfl | hy
      · exact hle
      · exact hx y hy
theorem putT_srt {u : Bool} {l : List ByteArray} {s : ByteArray} (h : Srt l) : Srt (putT u l s) := by
  unfold putT
  split
  · exact insT_srt h
  · exact h
theorem foldl_srt {u : Bool} : ∀ (l acc : List ByteArray), Srt acc → Srt (l.foldl (putT u) acc)
  | [], acc, h => h
  | x :: r, acc, h => foldl_srt r _ (putT_srt h)
theorem sortT_srt (l : List ByteArray) (u : Bool) : Srt (sortT l u) := foldl_srt l [] (by simp [Srt])
theorem sortT_perm (l : List ByteArray) : (sortT l false).Perm l := by
  have key : ∀ (l acc : List ByteArray), (l.foldl (putT false) acc).Perm (acc ++ l) := by
    intro l
    induction l with
    | nil => intro acc; simp
    | cons x r ih =>
      intro acc
      have h1 : putT false acc x = insT acc x := by unfold putT; simp
      rw [List.foldl_cons, h1]
      exact (ih _).trans (((insT_perm acc x).append_right r).trans (List.perm_middle.symm))
  simpa [sortT] using key l []
theorem srt_unique : ∀ {a b : List ByteArray}, Srt a → Srt b → a.Perm b → a = b
  | [], b, _, _, h => (List.nil_perm.1 h).symm ▸ rfl
  | x :: a, [], _, _, h => by simp at h
  | x :: a, y :: b, ha, hb, h => by
    have hxy : x = y := by
      have h1 := (List.pairwise_cons.1 ha).1
      have h2 := (List.pairwise_cons.1 hb).1
      have hx : x ∈ y :: b := h.subset (by simp)
      have hy : y ∈ x :: a := h.symm.subset (by simp)
      rcases List.mem_cons.1 hx with e | hx
      · exact e
      · rcases List.mem_cons.1 hy with e | hy
        · exact e.symm
        · exact le_antisymm (h1 y hy) (h2 x hx)
    subst hxy
    rw [srt_unique (List.pairwise_cons.1 ha).2 (List.pairwise_cons.1 hb).2 (List.Perm.cons_inv h)]
theorem sortT_is {l r : List ByteArray} (h : Srt r) (p : r.Perm l) : r = sortT l false := srt_unique h (sortT_srt l false) (p.trans (sortT_perm l).symm)
theorem hasT_iff {l : List ByteArray} {s : ByteArray} : hasT l s = true ↔ s ∈ l := by
  unfold hasT
  rw [List.any_eq_true]
  constructor
  · rintro ⟨x, hx, e⟩
    rw [decide_eq_true_iff] at e
    exact e ▸ hx
  · exact fun h => ⟨s, h, by simp⟩
theorem sortU (l : List ByteArray) : (sortT l true).Nodup ∧ ∀ x, x ∈ sortT l true ↔ x ∈ l := by
  have key : ∀ (l acc : List ByteArray), acc.Nodup → (l.foldl (putT true) acc).Nodup ∧ ∀ x, x ∈ l.foldl (putT true) acc ↔ x ∈ acc ∨ x ∈ l := by
    intro l
    induction l with
    | nil => intro acc h; exact ⟨h, by simp⟩
    | cons y r ih =>
      intro acc h
      rw [List.foldl_cons]
      cases hh : hasT acc y
      · have h1 : putT true acc y = insT acc y := by unfold putT; rw [hh]; rfl
        rw [h1]
        have hn : y ∉ acc := fun e => by rw [hasT_iff.2 e] at hh; cases hh
        obtain ⟨k1, k2⟩ := ih (insT acc y) ((insT_perm acc y).nodup_iff.2 (List.nodup_cons.2 ⟨hn, h⟩))
        refine ⟨k1, fun x => ?_⟩
        rw [k2 x, (insT_perm acc y).mem_iff, List.mem_cons, List.mem_cons]
        constructor
        · rintro ((h | h) | h) <;> simp [h]
        · rintro (h | h | h) <;> simp [h]
      · have h1 : putT true acc y = acc := by unfold putT; rw [hh]; rfl
        rw [h1]
        obtain ⟨k1, k2⟩ := ih acc h
        refine ⟨k1, fun x => ?_⟩
        rw [k2 x, List.mem_cons]
        have hy := hasT_iff.1 hh
        constructor
        · rintro (h | h) <;> simp [h]
        · rintro (h | rfl | h)
          · exact .inl h
          · exact .inl hy
          · exact .inr h
  obtain ⟨h1, h2⟩ := key l [] (by simp)
  exact ⟨h1, fun x => by rw [show sortT l true = l.foldl (putT true) [] from rfl, h2 x]; simp⟩
theorem sortT_isU {l r : List ByteArray} (h : Srt r) (n : r.Nodup) (m : ∀ x, x ∈ r ↔ x ∈ l) : r = sortT l true :=
  srt_unique h (sortT_srt l true) ((List.perm_ext_iff_of_nodup n (sortU l).1).2 fun x => by rw [m x, (sortU l).2 x])
end RnPlain
set_option maxHeartbeats 1000000 in
theorem rfailed16_c (e : Int) (w : World) :
    Calls Tryz.prog 26 #[.int .i64 e] w fun x w' => x = .returned (.bool (decide (e = 4) || decide (e = 5))) ∧ w = w' := by
  have hb : ∀ {a b : Bool}, a = b → Ending.returned (.bool a) = .returned (.bool b) := fun h => by rw [h]
  by_cases h1 : e = 4 <;> by_cases h2 : e = 5
  all_goals
    go_enter Tryz.func26, Tryz.ntmps26
    go_wp2_with fail
    go_ret
    refine ⟨hb ?_, rfl⟩
    simp_all
end Go.Proofs.YtjplkmmhjfpdaaaGreatDoor

/- In one text: RnWrite, RnCalm. -/
import Derived.Test.YtpmglnghnelenaaGreatP23
import Derived.Test.YtpmglnghnelenaaGreatP24
/- Plain facts: a writer of a file beside others, on a disk that may fall, or be full. -/
namespace Go.Proofs.YtpmglnghnelenaaGreat
open Go.RowKit FsPlain CrcPlain OctPlain FramePlain RecPlain RdPlain
set_option linter.unusedVariables false
set_option linter.unusedSimpArgs false
set_option maxRecDepth 20000
namespace WrPlain
/-- Behind calls that write the file n alone; d files more. -/
structure Oth (n : List UInt8) (d : Nat) (s s' : St) : Prop where
  get : ∀ n', n' ≠ n → s'.get n' = s.get n'
  room : s'.room = s.room
  calm : s.down = false → s.ahead = -1 → s'.down = false ∧ s'.ahead = -1
  len : s'.fs.length = s.fs.length + d
  calls : s.calls ≤ s'.calls
theorem Oth.refl (n : List UInt8) (s : St) : Oth n 0 s s := ⟨fun _ _ => rfl, rfl, fun a b => ⟨a, b⟩, rfl, Int.le_refl _⟩
theorem Oth.trans {n : List UInt8} {d e : Nat} {a b c : St} (h : Oth n d a b) (k : Oth n e b c) : Oth n (d + e) a c :=
  ⟨fun n' hn => (k.get n' hn).trans (h.get n' hn), k.room.trans h.room, fun x y => by obtain ⟨p, q⟩ := h.calm x y; exact k.calm p q, by rw [k.len, h.len]; omega, Int.le_trans h.calls k.calls⟩
theorem oth_quiet (n : List UInt8) {s s' : St} (h : Quiet s s') : Oth n 0 s s' := ⟨fun n' _ => h.get n', h.room, h.calm, by rw [h.fs]; rfl, h.calls⟩
theorem oth_call (n : List UInt8) (s : St) : Oth n 0 s s.call := oth_quiet n (quiet_call s)
theorem oth_upd {n : List UInt8} {g : F → F} (hg : ∀ f, (g f).name = f.name) (s : St) : Oth n 0 s (s.upd n g) := by
  refine ⟨fun n' hn => ?_, rfl, fun a b => ⟨a, b⟩, ?_, Int.le_refl _⟩
  · unfold St.get St.upd
    simp only []
    rw [List.find?_map]
    have e : ((fun f : F => f.name == n') ∘ fun f => if f.name = n then g f else f) = fun f : F => f.name == n' := by
      funext f
      simp only [Function.comp]
      split
      · rw [hg]
      · rfl
    rw [e]
    cases hf : List.find? (fun f : F => f.name == n') s.fs with
    | none => rfl
    | some f =>
      have := List.find?_some hf
      simp only [beq_iff_eq] at this
      simp only [Option.map_some]
      rw [if_neg (by rw [this]; exact hn)]
  · show (s.fs.map _).length = _; simp
theorem oth_append (s : St) (n t : List UInt8) : Oth n 0 s (appendR s n t).1 := by
  unfold appendR
  split
  · exact oth_call n s
  · cases s.get n with
    | none => exact oth_call n s
    | some f =>
      simp only []
      split
      · exact oth_call n s
      · exact (oth_call n s).trans (oth_upd (g := fun f => { f with data := f.data ++ t }) (fun _ => rfl) s.call)
theorem oth_sync (s : St) (n : List UInt8) : Oth n 0 s (syncR s n).1 := by
  unfold syncR
  split
  · exact oth_call n s
  · cases s.get n with
    | none => exact oth_call n s
    | some f => exact (oth_call n s).trans (oth_upd (g := fun f => { f with kept := f.data.length }) (fun _ => rfl) s.call)
theorem ins_find {n n' : List UInt8} (h : n' ≠ n) (k : Nat) : ∀ l : List F, ((insF ⟨n, [], k⟩ l).find? fun f => f.name == n') = l.find? fun f => f.name == n'
  | [] => by
    unfold insF
    rw [List.find?_cons]
    have : ((⟨n, [], k⟩ : F).name == n') = false := by rw [beq_eq_false_iff_ne]; exact fun e => h e.symm
    rw [this]
  | y :: r => by
    have hx : ((⟨n, [], k⟩ : F).name == n') = false := by rw [beq_eq_false_iff_ne]; exact fun e => h e.symm
    unfold insF
    split
    · rw [List.find?_cons, hx]
    · rw [List.find?_cons, List.find?_cons, ins_find h k r]
theorem oth_create (s : St) (n : List UInt8) : ∃ d, Oth n d s (createR s n).1 ∧ ((createR s n).2 = 0 → d = 1) ∧ d ≤ 1 := by
  unfold createR
  split
  · exact ⟨0, oth_call n s, (fun h => by cases h), by omega⟩
  · cases s.get n with
    | some f => exact ⟨0, oth_call n s, (fun h => by cases h), by omega⟩
    | none =>
      simp only []
      split
      · exact ⟨0, oth_call n s, (fun h => by cases h), by omega⟩
      · refine ⟨1, ?_, fun _ => rfl, Nat.le_refl _⟩
        have q := quiet_call s
        refine ⟨fun n' hn => ins_find hn 0 s.fs, rfl, q.calm, ?_, q.calls⟩
        have := (insF_perm ⟨n, [], 0⟩ s.fs).length_eq
        simpa using this
theorem append_code {s : St} {n : List UInt8} (h : Has s n) (t : List UInt8) : (appendR s n t).2 = 0 ∨ (appendR s n t).2 = 4 ∨ (appendR s n t).2 = 5 := by
  obtain ⟨f, h⟩ := h
  unfold appendR
  split
  · exact .inr (.inr rfl)
  · rw [h]
    simp only []
    split
    · exact .inr (.inl rfl)
    · exact .inl rfl
theorem sync_code {s : St} {n : List UInt8} (h : Has s n) : (syncR s n).2 = 0 ∨ (syncR s n).2 = 5 := by
  obtain ⟨f, h⟩ := h
  unfold syncR
  split
  · exact .inr rfl
  · rw [h]; exact .inl rfl
theorem create_code {s : St} {n : List UInt8} (h : s.get n = none) : (createR s n).2 = 0 ∨ (createR s n).2 = 4 ∨ (createR s n).2 = 5 := by
  unfold createR
  split
  · exact .inr (.inr rfl)
  · rw [h]
    simp only []
    split
    · exact .inr (.inl rfl)
    · exact .inl rfl
/-- A writer that is open, behind these records. -/
structure WrOn (m : M3) (nm : ByteArray) (nn : Int) (done : List ByteArray) : Prop where
  ok : m.ok
  opn : m.x.opn = true
  nm : m.x.nm = nm
  size : m.x.size = nn
  all : m.x.all = done
  laid : ∃ j f, Laid m j f
/-- Behind a call that failed: it is shut, and gave back what it took. -/
structure Gone (m M : M3) (nm : ByteArray) (e : Int) : Prop where
  ok : M.ok
  opn : M.x.opn = false
  bud : M.b = m.b.give 4
  oth : Oth nm.data.toList 0 m.s M.s
  code : e = 4 ∨ e = 5
theorem layM_parts {m : M3} (t : ByteArray) (ho : m.x.opn = true) (hh : Has m.s m.x.nm.data.toList) :
    ((layM m t).2 = 0 ∧ (layM m t).1 = ⟨(appendR m.s m.x.nm.data.toList t.data.toList).1, m.b, m.x⟩) ∨
    (((layM m t).2 = 4 ∨ (layM m t).2 = 5) ∧ (layM m t).1 = ⟨(appendR m.s m.x.nm.data.toList t.data.toList).1, m.b.give 4, { m.x with opn := false }⟩) := by
  have hc := append_code hh t.data.toList
  unfold layM
  by_cases h0 : (appendR m.s m.x.nm.data.toList t.data.toList).2 = 0
  · rw [if_pos h0]; exact .inl ⟨rfl, rfl⟩
  · rw [if_neg h0]
    refine .inr ⟨by rcases hc with h | h | h; exact absurd h h0; exact .inl h; exact .inr h, ?_⟩
    show dropM _ = _
    rw [dropM_open (by exact ho)]
theorem put_f {m : M3} {nm : ByteArray} {nn : Int} {done : List ByteArray} (h : WrOn m nm nn done) {r : ByteArray} (hz : (r.size : Int) = nn) :
    ((putM m r).2 = 0 ∧ WrOn (putM m r).1 nm nn (done ++ [r]) ∧ (putM m r).1.b = m.b ∧ Oth nm.data.toList 0 m.s (putM m r).1.s) ∨ Gone m (putM m r).1 nm (putM m r).2 := by
  obtain ⟨hok, ho, hnm, hsz, hal, j, f, hL⟩ := h
  have hok' := ok_putM hok r
  have hnm' := putM_nm m r
  have hz' : (r.size : Int) = m.x.size := by omega
  have hhas : Has m.s m.x.nm.data.toList := ⟨f, hL.get⟩
  have key : ((putM m r).2 = 0 ∧ (putM m r).1.b = m.b ∧ Oth nm.data.toList 0 m.s (putM m r).1.s) ∨ Gone m (putM m r).1 nm (putM m r).2 := by
    have e : putM m r = if m.x.wait.length < 3 then (⟨m.s, m.b, m.x.put r⟩, 0) else layM ⟨m.s, m.b, (m.x.put r).none⟩ (blkS m.x.size (m.x.wait ++ [r])) := by
      unfold putM; rw [if_neg (by rw [ho]; decide), if_neg (by simpa using hz')]
    by_cases hw : m.x.wait.length < 3
    · rw [if_pos hw] at e
      rw [e]
      exact .inl ⟨rfl, rfl, Oth.refl _ _⟩
    · rw [if_neg hw] at e
      have ho2 := oth_append m.s nm.data.toList (blkS m.x.size (m.x.wait ++ [r])).data.toList
      rcases layM_parts (m := ⟨m.s, m.b, (m.x.put r).none⟩) (blkS m.x.size (m.x.wait ++ [r])) ho hhas with ⟨h1, h2⟩ | ⟨h1, h2⟩
      · left
        rw [e, h2]
        refine ⟨h1, rfl, ?_⟩
        rw [← hnm] at ho2 ⊢; exact ho2
      · right
        rw [e] at hok' ⊢
        refine ⟨hok', by rw [h2], by rw [h2], ?_, h1⟩
        rw [h2, ← hnm]; rw [← hnm] at ho2; exact ho2
  rcases key with ⟨h0, hb, hO⟩ | hg
  · left
    obtain ⟨j', f', k1, k2, k3⟩ := laid_put hok hL ho hz' h0
    exact ⟨h0, ⟨hok', k3, hnm'.1.trans hnm, hnm'.2.trans hsz, by rw [k2, hal], j', f', k1⟩, hb, hO⟩
  · exact .inr hg
/-- A file of records was written, and kept. -/
structure Done (m M : M3) (nm : ByteArray) (nn : Int) (done : List ByteArray) : Prop where
  ok : M.ok
  opn : M.x.opn = false
  bud : M.b = m.b.give 4
  oth : Oth nm.data.toList 0 m.s M.s
  file : ∃ f, M.s.get nm.data.toList = some f ∧ f.data = layL nn done
theorem close_f {m : M3} {nm : ByteArray} {nn : Int} {done : List ByteArray} (h : WrOn m nm nn done) (hl : done.length ≤ 100000) (hok' : (closeM m).1.ok) :
    ((closeM m).2 = 0 ∧ Done m (closeM m).1 nm nn done) ∨ Gone m (closeM m).1 nm (closeM m).2 := by
  obtain ⟨hok, ho, hnm, hsz, hal, j, f, hL⟩ := h
  subst hnm
  have hhas : Has m.s m.x.nm.data.toList := ⟨f, hL.get⟩
  have key : ((closeM m).2 = 0 ∧ Oth m.x.nm.data.toList 0 m.s (closeM m).1.s) ∨ Gone m (closeM m).1 m.x.nm (closeM m).2 := by
    have hfl : ((flushM m).2 = 0 ∧ (∃ s', (flushM m).1 = ⟨s', m.b, m.x⟩ ∧ Oth m.x.nm.data.toList 0 m.s s' ∧ Has s' m.x.nm.data.toList)) ∨ (((flushM m).2 = 4 ∨ (flushM m).2 = 5) ∧ ∃ s', (flushM m).1 = ⟨s', m.b.give 4, { m.x with opn := false }⟩ ∧ Oth m.x.nm.data.toList 0 m.s s') := by
      unfold flushM
      split
      · exact .inl ⟨rfl, m.s, rfl, Oth.refl _ _, hhas⟩
      · rcases layM_parts (blkS m.x.size m.x.wait) ho hhas with ⟨h1, h2⟩ | ⟨h1, h2⟩
        · exact .inl ⟨h1, _, h2, oth_append _ _ _, append_has hhas⟩
        · exact .inr ⟨h1, _, h2, oth_append _ _ _⟩
    have e0 : closeM m = if ¬ (flushM m).2 = 0 then flushM m else if ¬ (endM (flushM m).1).2 = 0 then (dropM (endM (flushM m).1).1, (endM (flushM m).1).2) else (dropM (syncM (endM (flushM m).1).1).1, (syncM (endM (flushM m).1).1).2) := by
      unfold closeM; rw [if_neg (by rw [ho]; decide)]
    rcases hfl with ⟨f1, s1, f2, f3, f4⟩ | ⟨f1, s1, f2, f3⟩
    · rw [if_neg (by rw [f1]; decide)] at e0
      have hen : ((endM (flushM m).1).2 = 0 ∧ (∃ s', (endM (flushM m).1).1 = ⟨s', m.b, m.x⟩ ∧ Oth m.x.nm.data.toList 0 m.s s' ∧ Has s' m.x.nm.data.toList)) ∨ (((endM (flushM m).1).2 = 4 ∨ (endM (flushM m).1).2 = 5) ∧ ∃ s', (endM (flushM m).1).1 = ⟨s', m.b.give 4, { m.x with opn := false }⟩ ∧ Oth m.x.nm.data.toList 0 m.s s') := by
        rw [f2]
        unfold endM
        rcases layM_parts (m := ⟨s1, m.b, m.x⟩) (peS m.x.all.length (sumN m.x.all)) ho f4 with ⟨h1, h2⟩ | ⟨h1, h2⟩
        · exact .inl ⟨h1, _, h2, f3.trans (oth_append _ _ _), append_has f4⟩
        · exact .inr ⟨h1, _, h2, f3.trans (oth_append _ _ _)⟩
      rcases hen with ⟨g1, s2, g2, g3, g4⟩ | ⟨g1, s2, g2, g3⟩
      · rw [if_neg (by rw [g1]; decide)] at e0
        have hsy : (syncM (endM (flushM m).1).1).1 = ⟨(syncR s2 m.x.nm.data.toList).1, m.b, m.x⟩ ∧ (syncM (endM (flushM m).1).1).2 = (syncR s2 m.x.nm.data.toList).2 := by rw [g2]; exact ⟨rfl, rfl⟩
        have hO : Oth m.x.nm.data.toList 0 m.s (syncR s2 m.x.nm.data.toList).1 := g3.trans (oth_sync _ _)
        rw [hsy.1, hsy.2, dropM_open (by exact ho)] at e0
        rcases sync_code g4 with hs | hs
        · left
          rw [e0]; exact ⟨hs, hO⟩
        · right
          rw [e0] at hok' ⊢
          exact ⟨hok', rfl, rfl, hO, .inr hs⟩
      · rw [if_pos (by rcases g1 with g1 | g1 <;> rw [g1] <;> decide)] at e0
        right
        have hd : dropM (endM (flushM m).1).1 = ⟨s2, m.b.give 4, { m.x with opn := false }⟩ := by rw [g2]; unfold dropM; rw [if_neg (by simp)]
        rw [hd] at e0
        rw [e0] at hok' ⊢
        exact ⟨hok', rfl, rfl, g3, g1⟩
    · rw [if_pos (by rcases f1 with f1 | f1 <;> rw [f1] <;> decide)] at e0
      right
      rw [e0, f2] at hok' ⊢
      exact ⟨hok', rfl, rfl, f3, f1⟩
  rcases key with ⟨h0, hO⟩ | hg
  · left
    obtain ⟨f', k1, k2, k3, k4, k5, k6⟩ := laid_close hok (by rw [hal]; exact hl) hL ho h0
    exact ⟨h0, hok', k5, k4, hO, f', k1, by rw [k2, hsz, hal]⟩
  · exact .inr hg
/-- Behind Create. -/
theorem create_f {s : St} {b : Bu} {nm : ByteArray} {nn : Int} (hs : s.ok) (hb : b.ok) (hn : nm.size ≤ 24) (hm : rightB nm.data.toList = true) (hz : sizeB nn = true) (hg : s.get nm.data.toList = none) :
    ((createM s b nm nn).2.2 = 0 ∧ b.takeE 4 = 0 ∧ WrOn ⟨(createM s b nm nn).1, (createM s b nm nn).2.1, newWs nm nn⟩ nm nn [] ∧ (createM s b nm nn).2.1 = b.take 4 ∧ Oth nm.data.toList 1 s (createM s b nm nn).1) ∨
    ((createM s b nm nn).2.2 = b.takeE 4 ∧ b.takeE 4 ≠ 0 ∧ (createM s b nm nn).1 = s ∧ (createM s b nm nn).2.1 = b.take 4) ∨
    (((createM s b nm nn).2.2 = 4 ∨ (createM s b nm nn).2.2 = 5) ∧ (createM s b nm nn).1.ok ∧ b.takeE 4 = 0 ∧ (createM s b nm nn).2.1 = (b.take 4).give 4 ∧ ∃ d, d ≤ 1 ∧ Oth nm.data.toList d s (createM s b nm nn).1) := by
  by_cases h0 : (createM s b nm nn).2.2 = 0
  · left
    have hok := createM_ok hs hb hn hm h0
    obtain ⟨f, hL⟩ := laid_new (s := s) (b := b) (nm := nm) (size := nn) h0
    have h0' := h0
    unfold createM at h0'
    rw [if_neg (by rw [hz]; decide)] at h0'
    by_cases h1 : ¬ b.takeE 4 = 0
    · rw [if_pos h1] at h0'; exact absurd h0' h1
    · rw [if_neg h1] at h0'
      by_cases h2 : ¬ (createR s nm.data.toList).2 = 0
      · rw [if_pos h2] at h0'; exact absurd h0' h2
      · rw [if_neg h2] at h0'
        by_cases h3 : ¬ (appendR (createR s nm.data.toList).1 nm.data.toList (headS nn).data.toList).2 = 0
        · rw [if_pos h3] at h0'; exact absurd h0' h3
        · have e : createM s b nm nn = ((appendR (createR s nm.data.toList).1 nm.data.toList (headS nn).data.toList).1, b.take 4, 0) := by
            unfold createM; rw [if_neg (by rw [hz]; decide), if_neg h1, if_neg h2, if_neg h3]
          obtain ⟨d, o1, o2, _⟩ := oth_create s nm.data.toList
          have hd := o2 (by omega)
          subst hd
          refine ⟨h0, by omega, ⟨hok, rfl, rfl, rfl, rfl, 0, f, hL⟩, by rw [e], by rw [e]; exact o1.trans (oth_append _ _ _)⟩
  · right
    by_cases h1 : ¬ b.takeE 4 = 0
    · left
      have e : createM s b nm nn = (s, b.take 4, b.takeE 4) := by unfold createM; rw [if_neg (by rw [hz]; decide), if_pos h1]
      rw [e]; exact ⟨rfl, h1, rfl, rfl⟩
    · right
      obtain ⟨d, o1, o2, o3⟩ := oth_create s nm.data.toList
      have hc := ok_createR hs (n := nm.data.toList) (by rw [show nm.data.toList.length = nm.size from Array.length_toList]; exact hn)
      by_cases h2 : ¬ (createR s nm.data.toList).2 = 0
      · have e : createM s b nm nn = ((createR s nm.data.toList).1, (b.take 4).give 4, (createR s nm.data.toList).2) := by
          unfold createM; rw [if_neg (by rw [hz]; decide), if_neg h1, if_pos h2]
        rw [e]
        refine ⟨?_, hc, by omega, rfl, d, o3, o1⟩
        rcases create_code hg with k | k
        · exact absurd k h2
        · exact k
      · have h3 : ¬ (appendR (createR s nm.data.toList).1 nm.data.toList (headS nn).data.toList).2 = 0 := by
          intro h3
          refine h0 ?_
          unfold createM; rw [if_neg (by rw [hz]; decide), if_neg h1, if_neg h2, if_neg (by simpa using h3)]
        have e : createM s b nm nn = ((appendR (createR s nm.data.toList).1 nm.data.toList (headS nn).data.toList).1, (b.take 4).give 4, (appendR (createR s nm.data.toList).1 nm.data.toList (headS nn).data.toList).2) := by
          unfold createM; rw [if_neg (by rw [hz]; decide), if_neg h1, if_neg h2, if_pos h3]
        rw [e]
        have hh : Has (createR s nm.data.toList).1 nm.data.toList := ⟨_, create_get (by omega)⟩
        refine ⟨?_, ok_append hc _ _, by omega, rfl, d, o3, by have := o1.trans (oth_append (createR s nm.data.toList).1 nm.data.toList (headS nn).data.toList); rwa [Nat.add_zero] at this⟩
        rcases append_code hh (headS nn).data.toList with k | k
        · exact absurd k h3
        · exact k
end WrPlain
end Go.Proofs.YtpmglnghnelenaaGreat
/- Plain facts: a reader that is opened beside others; where there is just room enough no call of a writer fails. -/
namespace Go.Proofs.YtpmglnghnelenaaGreat
open Go.RowKit FsPlain CrcPlain OctPlain FramePlain RecPlain RdPlain
set_option linter.unusedVariables false
set_option linter.unusedSimpArgs false
set_option maxRecDepth 20000
namespace RdPlain
/-- What a failed Open leaves. -/
structure NoOpen (s : St) (b : Bu) (D : ByteArray) (size : Int) (R : St × Bu × Int × Nat) : Prop where
  ok : R.1.ok
  disk : Quiet s R.1
  how : (R.2.2.1 = 1 ∧ R.2.1 = b ∧ ∀ L, ¬ IsFile size D L) ∨ (R.2.2.1 = b.takeE 4 ∧ b.takeE 4 ≠ 0 ∧ R.2.1 = b.take 4) ∨ (b.takeE 4 = 0 ∧ R.2.1 = (b.take 4).give 4 ∧ ((R.2.2.1 = 6 ∧ ∀ L, ¬ IsFile size D L) ∨ (R.2.2.1 = 5 ∧ ¬ (s.down = false ∧ s.ahead = -1))))
theorem open_f {s : St} {b : Bu} {nm : ByteArray} {size : Int} {D : ByteArray} (h : HasD s nm.data.toList D) (hs : s.ok) (hb : b.ok) (hn : nm.size ≤ 24) (hm : rightB nm.data.toList = true) :
    ((openN s b nm size).2.2.1 = 0 ∧ b.takeE 4 = 0 ∧ (openN s b nm size).2.1 = b.take 4 ∧ Quiet s (openN s b nm size).1 ∧ ReadF ⟨(openN s b nm size).1, (openN s b nm size).2.1, newRs nm size (openN s b nm size).2.2.2⟩ D size []) ∨
    ((openN s b nm size).2.2.1 ≠ 0 ∧ NoOpen s b D size (openN s b nm size)) := by
  have q1 := quiet_call s
  have q2 := q1.trans (quiet_call s.call)
  have nocalm1 : s.call.down = true → ¬ (s.down = false ∧ s.ahead = -1) := fun hd k => by
    have := q1.calm k.1 k.2; rw [this.1] at hd; cases hd
  have nocalm2 : s.call.call.down = true → ¬ (s.down = false ∧ s.ahead = -1) := fun hd k => by
    have := q2.calm k.1 k.2; rw [this.1] at hd; cases hd
  cases hz : sizeB size
  · right
    have e : openN s b nm size = (s, b, 1, 0) := by unfold openN; rw [if_pos hz]
    rw [e]
    refine ⟨by simp, hs, Quiet.refl _, .inl ⟨rfl, rfl, fun L hL => ?_⟩⟩
    have := hL.1
    unfold layB at this
    rw [hz] at this; cases this
  · by_cases hb4 : b.takeE 4 = 0
    · have hsz := size_up s nm.data.toList
      rw [h.up.size] at hsz
      by_cases hd1 : s.call.down = true
      · right
        rw [if_pos hd1] at hsz
        have e : openN s b nm size = (s.call, (b.take 4).give 4, 5, 0) := by
          unfold openN; rw [if_neg (by rw [hz]; decide), if_neg (by rw [hb4]; decide), hsz, if_pos (by decide)]
        rw [e]
        exact ⟨by simp, ok_call hs, q1, .inr (.inr ⟨hb4, rfl, .inr ⟨rfl, nocalm1 hd1⟩⟩)⟩
      · rw [if_neg hd1] at hsz
        by_cases h11 : D.size < 11
        · right
          have e : openN s b nm size = (s.call, (b.take 4).give 4, 6, 0) := by
            unfold openN; rw [if_neg (by rw [hz]; decide), if_neg (by rw [hb4]; decide), hsz, if_neg (by simp), if_pos (by simp only []; omega)]
          rw [e]
          refine ⟨by simp, ok_call hs, q1, .inr (.inr ⟨hb4, rfl, .inl ⟨rfl, fun L hi => ?_⟩⟩)⟩
          have := file_len hi; omega
        · have hrd := read_up s.call nm.data.toList 0 11
          have hsu := (h.quiet q1).up
          rw [hsu.read 11 (by omega)] at hrd
          by_cases hd2 : s.call.call.down = true
          · right
            rw [if_pos hd2] at hrd
            have e : openN s b nm size = (s.call.call, (b.take 4).give 4, 5, 0) := by
              unfold openN; rw [if_neg (by rw [hz]; decide), if_neg (by rw [hb4]; decide), hsz, if_neg (by simp), if_neg (by simp only []; omega), hrd, if_pos (by decide)]
            rw [e]
            exact ⟨by simp, ok_call (ok_call hs), q2, .inr (.inr ⟨hb4, rfl, .inr ⟨rfl, nocalm2 hd2⟩⟩)⟩
          · rw [if_neg hd2] at hrd
            have e : openN s b nm size = if ¬ (ghB (bs (D.data.toList.take 11)) = true ∧ ghN (bs (D.data.toList.take 11)) = size) then (s.call.call, (b.take 4).give 4, 6, 0) else (s.call.call, b.take 4, 0, D.size - 11) := by
              unfold openN
              rw [if_neg (by rw [hz]; decide), if_neg (by rw [hb4]; decide), hsz, if_neg (by simp), if_neg (by simp only []; omega), hrd, if_neg (by simp)]
              simp only [Int.toNat_natCast]
            by_cases hh : ghB (bs (D.data.toList.take 11)) = true ∧ ghN (bs (D.data.toList.take 11)) = size
            · left
              have e2 := e
              rw [if_neg (by simpa using hh)] at e2
              have h0 : (openN s b nm size).2.2.1 = 0 := by rw [e2]
              have hok := openN_ok hs hb hn hm h0
              have ht := told_head hz hh.1 hh.2
              have hd : D.data.toList = (headS size).data.toList ++ D.data.toList.drop 11 := by
                rw [← ht, bs_data, List.take_append_drop]
              refine ⟨h0, hb4, by rw [e2], by rw [e2]; exact q2, hok, inv_new _ _ _ _ _, rfl, rfl, rfl, ?_, rfl⟩
              rw [e2]
              refine ⟨[], bs (D.data.toList.drop 11), (show HasD s.call.call nm.data.toList D from h.quiet q2), rfl, rfl, hz, by rw [bs_data]; exact hd, rfl, ?_, (fun p hp => by cases hp), (fun j p hj => by simp at hj), (fun hs => by cases hs), (fun _ p hp => by cases hp), rfl⟩
              show D.size - 11 = _
              rw [bs_size, List.length_drop, data_length]
            · right
              rw [if_pos hh] at e
              rw [e]
              refine ⟨by simp, ok_call (ok_call hs), q2, .inr (.inr ⟨hb4, rfl, .inl ⟨rfl, fun L hi => hh ?_⟩⟩)⟩
              have hd := file_begins hi
              have ht : bs (D.data.toList.take 11) = headS size := by
                rw [hd, List.take_append_of_le_length (by rw [headS_len]; omega), List.take_of_length_le (by rw [headS_len]; omega)]
                exact bs_toList _
              rw [ht]; exact head_told hz
    · right
      have e : openN s b nm size = (s, b.take 4, b.takeE 4, 0) := by
        unfold openN; rw [if_neg (by rw [hz]; decide), if_pos hb4]
      rw [e]
      exact ⟨hb4, hs, Quiet.refl _, .inr (.inl ⟨rfl, hb4, rfl⟩)⟩
end RdPlain
theorem give_now {b : Bu} {n : Int} (h : 0 ≤ n) : (b.give n).now = b.now - min n b.now ∧ (b.give n).m = b.m := by
  unfold Bu.give
  rw [if_neg (by omega)]
  exact ⟨rfl, rfl⟩
theorem take_yes {b : Bu} {n : Int} (h : b.takeE n = 0) (h0 : 0 ≤ n) : n ≤ b.m - b.now ∧ (b.take n).now = b.now + n ∧ (b.take n).m = b.m := by
  unfold Bu.takeE at h
  rw [if_neg (by omega)] at h
  split at h
  · cases h
  · unfold Bu.take
    rw [if_neg (by omega)]
    exact ⟨by omega, rfl, rfl⟩
theorem take_no {b : Bu} {n : Int} (h : b.takeE n ≠ 0) : b.take n = b ∧ (0 ≤ n → b.m - b.now < n ∧ b.takeE n = 9) := by
  unfold Bu.takeE at h ⊢
  unfold Bu.take
  split at h
  · rename_i h1
    exact ⟨by rw [if_pos (.inl h1)], fun k => absurd h1 (by omega)⟩
  · split at h
    · rename_i h1 h2
      refine ⟨by rw [if_pos (.inr h2)], fun k => ⟨h2, ?_⟩⟩
      rw [if_neg h1, if_pos h2]
    · exact absurd rfl h
namespace WrPlain
/-- How much a writer's file takes. -/
def Fits (m : M3) (U : Nat) : Prop := used m.s.fs + 69 * m.x.wait.length ≤ U + 11 + 69 * m.x.all.length
theorem blkS_69 {m : M3} (hm : m.ok) {l : List ByteArray} (h1 : 1 ≤ l.length) (h4 : l.length ≤ 4) (hz : ∀ r ∈ l, (r.size : Int) = m.x.size) : (blkS m.x.size l).size ≤ 69 * l.length := by
  have hs : 1 ≤ m.x.size ∧ m.x.size ≤ 64 := by simpa [sizeB] using hm.z
  cases hb : blkB m.x.size l
  · rw [blkS_no hb]; show 0 ≤ _; omega
  · obtain ⟨n, e1, _, _, e2, _⟩ := blk_cl hb
    rw [blkS_yes hb, e1]
    have : (l.length : Int) * m.x.size ≤ l.length * 64 := Int.mul_le_mul_of_nonneg_left (by omega) (by omega)
    omega
theorem put_fits {m : M3} {nm : ByteArray} {nn : Int} {done : List ByteArray} {r : ByteArray} {U : Nat} (h : WrOn m nm nn done) (hc : Calm m.s) (hz : (r.size : Int) = nn) (hF : Fits m U) (hr : (U : Int) + 11 + 69 * ((done.length : Nat) + 1) ≤ m.s.room) :
    (putM m r).2 = 0 ∧ Calm (putM m r).1.s ∧ Fits (putM m r).1 U := by
  obtain ⟨hm, ho, hnm, hsz, hal, j, f, hL⟩ := h
  have hz' : (r.size : Int) = m.x.size := by omega
  have hlen : m.x.all.length = done.length := by rw [hal]
  have e : putM m r = if m.x.wait.length < 3 then (⟨m.s, m.b, m.x.put r⟩, 0) else layM ⟨m.s, m.b, (m.x.put r).none⟩ (blkS m.x.size (m.x.wait ++ [r])) := by
    unfold putM; rw [if_neg (by rw [ho]; decide), if_neg (by simpa using hz')]
  unfold Fits at hF ⊢
  by_cases hw : m.x.wait.length < 3
  · rw [if_pos hw] at e
    rw [e]
    refine ⟨rfl, hc, ?_⟩
    show used m.s.fs + 69 * (m.x.wait ++ [r]).length ≤ U + 11 + 69 * (m.x.all ++ [r]).length
    rw [List.length_append, List.length_append, List.length_singleton]; omega
  · rw [if_neg hw] at e
    have hall : ∀ q ∈ m.x.wait ++ [r], (q.size : Int) = m.x.size := fun q hq => by
      rcases List.mem_append.1 hq with hq | hq
      · exact hm.wz q hq
      · rw [List.mem_singleton.1 hq]; exact hz'
    have az : ∀ q ∈ m.x.all ++ [r], (q.size : Int) = m.x.size := fun q hq => by
      rcases List.mem_append.1 hq with hq | hq
      · exact hm.az q hq
      · rw [List.mem_singleton.1 hq]; exact hz'
    have hwl := hm.wl
    have hb := blkS_69 hm (l := m.x.wait ++ [r]) (by simp) (by simp; omega) hall
    rw [List.length_append, List.length_singleton] at hb
    obtain ⟨h1, h2, h3, h4⟩ := layM_calm (m := ⟨m.s, m.b, (m.x.put r).none⟩) (t := blkS m.x.size (m.x.wait ++ [r])) ⟨hm.s, hm.b, hm.n1, hm.n2, hm.z, Nat.zero_le _, (fun q hq => by cases hq), az⟩ hc hL.get (by show (used m.s.fs : Int) + _ ≤ m.s.room; omega)
    rw [e]
    obtain ⟨_, k2⟩ := layM_ok h1
    refine ⟨h1, h2, ?_⟩
    rw [h4, k2]
    show used m.s.fs + _ + 69 * 0 ≤ U + 11 + 69 * (m.x.all ++ [r]).length
    rw [List.length_append, List.length_singleton]; omega
theorem close_fits {m : M3} {nm : ByteArray} {nn : Int} {done : List ByteArray} {U : Nat} (h : WrOn m nm nn done) (hc : Calm m.s) (hF : Fits m U) (hr : (U : Int) + 28 + 69 * (done.length : Nat) ≤ m.s.room) :
    (closeM m).2 = 0 ∧ Calm (closeM m).1.s ∧ used (closeM m).1.s.fs ≤ U + 28 + 69 * done.length := by
  obtain ⟨hm, ho, hnm, hsz, hal, j, f, hL⟩ := h
  have hlen : m.x.all.length = done.length := by rw [hal]
  unfold Fits at hF
  have hfl : (flushM m).2 = 0 ∧ Calm (flushM m).1.s ∧ (flushM m).1.s.room = m.s.room ∧ used (flushM m).1.s.fs ≤ U + 11 + 69 * m.x.all.length ∧ (flushM m).1.ok := by
    unfold flushM
    split
    · exact ⟨rfl, hc, rfl, by show used m.s.fs ≤ _; omega, hm⟩
    · rename_i hw
      have hb := blkS_69 hm (l := m.x.wait) (by omega) (by have := hm.wl; omega) hm.wz
      obtain ⟨h1, h2, h3, h4⟩ := layM_calm hm hc hL.get (t := blkS m.x.size m.x.wait) (by omega)
      exact ⟨h1, h2, h3, by rw [h4]; omega, ok_layM hm _⟩
  obtain ⟨f1, f2, f3, f4, f5⟩ := hfl
  obtain ⟨f', g1, g2, g3, g4⟩ := laid_flush hm hL f1
  have hp : (peS (flushM m).1.x.all.length (sumN (flushM m).1.x.all)).size ≤ 17 := by
    cases hb : peB ((flushM m).1.x.all.length : Int)
    · rw [peS_no hb]; decide
    · rw [peS_yes hb, cl_size, endS_size]; decide
  obtain ⟨e1, e2, e3, e4⟩ := layM_calm f5 f2 (f := f') (by rw [g3]; exact g1) (t := peS (flushM m).1.x.all.length (sumN (flushM m).1.x.all)) (by omega)
  obtain ⟨k1, k2⟩ := layM_ok (m := (flushM m).1) e1
  have hx : (endM (flushM m).1).1.x = m.x := by
    show (layM (flushM m).1 _).1.x = _
    rw [k2, ← g3]
  have hg : ∃ q, (endM (flushM m).1).1.s.get m.x.nm.data.toList = some q := by
    show ∃ q, (layM (flushM m).1 _).1.s.get _ = some q
    rw [k2]
    have := append_get (s := (flushM m).1.s) (n := (flushM m).1.x.nm.data.toList) (by rw [g3]; exact g1) k1
    rw [g3] at this ⊢
    exact ⟨_, this⟩
  obtain ⟨q, hq⟩ := hg
  have e2' : Calm (endM (flushM m).1).1.s := e2
  have e4' : used (endM (flushM m).1).1.s.fs = _ := e4
  have hs0 := sync_calm e2' hq
  have e : closeM m = (dropM (syncM (endM (flushM m).1).1).1, (syncM (endM (flushM m).1).1).2) := by
    have e1' : (endM (flushM m).1).2 = 0 := e1
    unfold closeM
    rw [if_neg (by rw [ho]; decide), if_neg (by omega), if_neg (by omega)]
  have hsy : (syncM (endM (flushM m).1).1).1.s = (syncR (endM (flushM m).1).1.s m.x.nm.data.toList).1 ∧ (syncM (endM (flushM m).1).1).2 = (syncR (endM (flushM m).1).1.s m.x.nm.data.toList).2 := by
    unfold syncM; rw [hx]; exact ⟨rfl, rfl⟩
  have hdr : ∀ M : M3, (dropM M).s = M.s := fun M => by unfold dropM; split <;> rfl
  rw [e]
  refine ⟨by rw [hsy.2]; exact hs0, ?_, ?_⟩
  · rw [hdr, hsy.1]
    exact (oth_sync _ _).calm e2'.1 e2'.2
  · rw [hdr, hsy.1]
    have hu : used (syncR (endM (flushM m).1).1.s m.x.nm.data.toList).1.fs = used (endM (flushM m).1).1.s.fs := by
      unfold syncR
      split
      · rfl
      · rw [hq]
        simp only []
        have hok : (endM (flushM m).1).1.s.ok := by show (layM (flushM m).1 _).1.s.ok; exact (ok_layM f5 _).s
        obtain ⟨A, C, e1, _, _, _, hu⟩ := get_split (s := (endM (flushM m).1).1.s.call) (ok_call hok) (n := m.x.nm.data.toList) (f := q) hq
        rw [hu]
        have h2 := used_split A C q { q with kept := q.data.length }
        have h3 : (endM (flushM m).1).1.s.fs = A ++ q :: C := e1
        rw [h3]
        simp only [] at h2
        omega
    rw [hu, e4']
    omega
theorem create_fits {s : St} {b : Bu} {nm : ByteArray} {nn : Int} (hs : s.ok) (hb : b.takeE 4 = 0) (hc : Calm s) (hz : sizeB nn = true) (hg : s.get nm.data.toList = none) (hn : nm.size ≤ 24) (hl : s.fs.length < 200) (hr : (used s.fs : Int) + 11 ≤ s.room) :
    (createM s b nm nn).2.2 = 0 ∧ Calm (createM s b nm nn).1 ∧ used (createM s b nm nn).1.fs = used s.fs + 11 := by
  obtain ⟨hc1, hd1⟩ := calm_call hc
  have e1 : createR s nm.data.toList = ({ s.call with fs := insF ⟨nm.data.toList, [], 0⟩ s.fs }, 0) := by
    unfold createR
    rw [if_neg (by rw [hd1]; decide), hg]
    simp only []
    rw [if_neg (by omega)]
  have hok := ok_createR hs (n := nm.data.toList) (by rw [show nm.data.toList.length = nm.size from Array.length_toList]; exact hn)
  have hcr : Calm (createR s nm.data.toList).1 := by rw [e1]; exact hc1
  have hu : used (createR s nm.data.toList).1.fs = used s.fs := by
    rw [e1]
    have := used_perm (insF_perm ⟨nm.data.toList, [], 0⟩ s.fs)
    show used (insF _ _) = _
    rw [this]; unfold used; simp
  have hgt : (createR s nm.data.toList).1.get nm.data.toList = some ⟨nm.data.toList, [], 0⟩ := create_get (by rw [e1])
  have hh : (headS nn).data.toList.length = 11 := headS_length nn
  have hroom : (createR s nm.data.toList).1.room = s.room := by rw [e1]; rfl
  obtain ⟨a1, a2, a3, a4⟩ := append_calm hok hcr hgt (t := (headS nn).data.toList) (by rw [hu, hh, hroom]; omega)
  have e : createM s b nm nn = ((appendR (createR s nm.data.toList).1 nm.data.toList (headS nn).data.toList).1, b.take 4, 0) := by
    unfold createM
    rw [if_neg (by rw [hz]; decide), if_neg (by rw [hb]; decide), if_neg (by rw [e1]; simp), if_neg (by rw [a1]; simp)]
  rw [e]
  exact ⟨rfl, a2, by rw [a4, hu, hh]⟩
end WrPlain
end Go.Proofs.YtpmglnghnelenaaGreat

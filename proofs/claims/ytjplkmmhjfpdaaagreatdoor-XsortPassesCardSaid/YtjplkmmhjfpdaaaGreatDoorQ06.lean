/- In one text: WrPlain, WrPlain2, WrHas, WrLaid, WrCalm, RecPlain2. -/
import Derived.Test.YtjplkmmhjfpdaaaGreatDoorQ00
import Derived.Test.YtjplkmmhjfpdaaaGreatDoorQ05
import Derived.Test.YtjplkmmhjfpdaaaGreatDoorQ03
/- Plain facts on a writer of records, without the model: what each call makes of the disk, the budget and the writer. -/
namespace Go.Proofs.YtjplkmmhjfpdaaaGreatDoor
open Go.RowKit FsPlain CrcPlain OctPlain FramePlain RecPlain
set_option linter.unusedVariables false
set_option linter.unusedSimpArgs false
set_option maxRecDepth 20000
namespace WrPlain
structure Ws where
  nm : ByteArray
  size : Int
  wait : List ByteArray
  all : List ByteArray
  opn : Bool
structure M3 where
  s : St
  b : Bu
  x : Ws
def dropM (m : M3) : M3 := if m.x.opn = true then ⟨m.s, m.b.give 4, { m.x with opn := false }⟩ else m
def layM (m : M3) (t : ByteArray) : M3 × Int :=
  if (appendR m.s m.x.nm.data.toList t.data.toList).2 = 0 then (⟨(appendR m.s m.x.nm.data.toList t.data.toList).1, m.b, m.x⟩, 0)
  else (dropM ⟨(appendR m.s m.x.nm.data.toList t.data.toList).1, m.b, m.x⟩, (appendR m.s m.x.nm.data.toList t.data.toList).2)
def Ws.put (x : Ws) (r : ByteArray) : Ws := { x with wait := x.wait ++ [r], all := x.all ++ [r] }
def Ws.none (x : Ws) : Ws := { x with wait := [] }
def putM (m : M3) (r : ByteArray) : M3 × Int :=
  if m.x.opn = false then (m, 14)
  else if ¬ (r.size : Int) = m.x.size then (m, 1)
  else if m.x.wait.length < 3 then (⟨m.s, m.b, m.x.put r⟩, 0)
  else layM ⟨m.s, m.b, (m.x.put r).none⟩ (blkS m.x.size (m.x.wait ++ [r]))
def flushM (m : M3) : M3 × Int := if m.x.wait.length = 0 then (m, 0) else layM m (blkS m.x.size m.x.wait)
def endM (m : M3) : M3 × Int := layM m (peS m.x.all.length (sumN m.x.all))
def syncM (m : M3) : M3 × Int := (⟨(syncR m.s m.x.nm.data.toList).1, m.b, m.x⟩, (syncR m.s m.x.nm.data.toList).2)
def closeM (m : M3) : M3 × Int :=
  if m.x.opn = false then (m, 14)
  else if ¬ (flushM m).2 = 0 then flushM m
  else if ¬ (endM (flushM m).1).2 = 0 then (dropM (endM (flushM m).1).1, (endM (flushM m).1).2)
  else (dropM (syncM (endM (flushM m).1).1).1, (syncM (endM (flushM m).1).1).2)
structure M3.ok (m : M3) : Prop where
  s : m.s.ok
  b : m.b.ok
  n1 : m.x.nm.size ≤ 24
  n2 : rightB m.x.nm.data.toList = true
  z : sizeB m.x.size = true
  wl : m.x.wait.length ≤ 3
  wz : ∀ r ∈ m.x.wait, (r.size : Int) = m.x.size
  az : ∀ r ∈ m.x.all, (r.size : Int) = m.x.size
theorem ok_append {s : St} (h : s.ok) (n t : List UInt8) : (appendR s n t).1.ok := by
  unfold appendR
  have hc := ok_call h
  split
  · exact hc
  · cases hg : s.get n with
    | none => exact hc
    | some f =>
      simp only []
      split
      · exact hc
      · rename_i hu
        have hk := h.k f (get_mem hg)
        refine ok_upd (s := s.call) hc (n := n) (f := f) hg (g := fun f => { f with data := f.data ++ t }) rfl ?_ ?_
        · show f.kept ≤ (f.data ++ t).length; rw [List.length_append]; omega
        · show (used s.fs : Int) + ((f.data ++ t).length : Int) ≤ s.room + f.data.length; rw [List.length_append]; omega
theorem ok_sync {s : St} (h : s.ok) (n : List UInt8) : (syncR s n).1.ok := by
  unfold syncR
  have hc := ok_call h
  split
  · exact hc
  · cases hg : s.get n with
    | none => exact hc
    | some f =>
      simp only []
      refine ok_upd (s := s.call) hc (n := n) (f := f) hg (g := fun f => { f with kept := f.data.length }) rfl (Nat.le_refl _) ?_
      show (used s.fs : Int) + (f.data.length : Int) ≤ s.room + f.data.length
      have := h.u; omega
theorem append_calls (s : St) (n t : List UInt8) : (appendR s n t).1.calls = s.calls + 1 := by
  unfold appendR
  split
  · rfl
  · cases s.get n with
    | none => rfl
    | some f => simp only []; split <;> rfl
theorem sync_calls (s : St) (n : List UInt8) : (syncR s n).1.calls = s.calls + 1 := by
  unfold syncR
  split
  · rfl
  · cases s.get n <;> rfl
theorem ok_dropM {m : M3} (h : m.ok) : (dropM m).ok := by
  unfold dropM
  split
  · exact ⟨h.s, Bu.give_ok h.b 4, h.n1, h.n2, h.z, h.wl, h.wz, h.az⟩
  · exact h
theorem dropM_calls (m : M3) : (dropM m).s.calls = m.s.calls := by unfold dropM; split <;> rfl
theorem ok_layM {m : M3} (h : m.ok) (t : ByteArray) : (layM m t).1.ok := by
  have hs := ok_append h.s m.x.nm.data.toList t.data.toList
  unfold layM
  split
  · exact ⟨hs, h.b, h.n1, h.n2, h.z, h.wl, h.wz, h.az⟩
  · exact ok_dropM ⟨hs, h.b, h.n1, h.n2, h.z, h.wl, h.wz, h.az⟩
theorem layM_calls (m : M3) (t : ByteArray) : (layM m t).1.s.calls = m.s.calls + 1 := by
  unfold layM
  split
  · exact append_calls _ _ _
  · rw [dropM_calls]; exact append_calls _ _ _
theorem ok_putM {m : M3} (h : m.ok) (r : ByteArray) : (putM m r).1.ok := by
  unfold putM
  split
  · exact h
  · split
    · exact h
    · rename_i hz
      have hz' : (r.size : Int) = m.x.size := by omega
      have az : ∀ q ∈ m.x.all ++ [r], (q.size : Int) = m.x.size := fun q hq => by
        rcases List.mem_append.1 hq with hq | hq
        · exact h.az q hq
        · rw [List.mem_singleton.1 hq]; exact hz'
      split
      · refine ⟨h.s, h.b, h.n1, h.n2, h.z, ?_, ?_, az⟩
        · show (m.x.wait ++ [r]).length ≤ 3; rw [List.length_append, List.length_singleton]; omega
        · intro q hq
          rcases List.mem_append.1 hq with hq | hq
          · exact h.wz q hq
          · rw [List.mem_singleton.1 hq]; exact hz'
      · exact ok_layM (m := ⟨m.s, m.b, (m.x.put r).none⟩) ⟨h.s, h.b, h.n1, h.n2, h.z, Nat.zero_le _, (fun q hq => by cases hq), az⟩ _
theorem putM_calls (m : M3) (r : ByteArray) : (putM m r).1.s.calls ≤ m.s.calls + 1 := by
  unfold putM
  split
  · show m.s.calls ≤ _; omega
  · split
    · show m.s.calls ≤ _; omega
    · split
      · show m.s.calls ≤ _; omega
      · rw [layM_calls]; exact Int.le_refl _
end WrPlain
end Go.Proofs.YtjplkmmhjfpdaaaGreatDoor
/- Plain facts on a writer that is made. -/
namespace Go.Proofs.YtjplkmmhjfpdaaaGreatDoor
open Go.RowKit FsPlain CrcPlain OctPlain FramePlain RecPlain
set_option linter.unusedVariables false
set_option linter.unusedSimpArgs false
set_option maxRecDepth 20000
namespace WrPlain
def newWs (nm : ByteArray) (size : Int) : Ws := ⟨nm, size, [], [], true⟩
def createM (s : St) (b : Bu) (nm : ByteArray) (size : Int) : St × Bu × Int :=
  if sizeB size = false then (s, b, 1)
  else if ¬ b.takeE 4 = 0 then (s, b.take 4, b.takeE 4)
  else if ¬ (createR s nm.data.toList).2 = 0 then ((createR s nm.data.toList).1, (b.take 4).give 4, (createR s nm.data.toList).2)
  else if ¬ (appendR (createR s nm.data.toList).1 nm.data.toList (headS size).data.toList).2 = 0 then ((appendR (createR s nm.data.toList).1 nm.data.toList (headS size).data.toList).1, (b.take 4).give 4, (appendR (createR s nm.data.toList).1 nm.data.toList (headS size).data.toList).2)
  else ((appendR (createR s nm.data.toList).1 nm.data.toList (headS size).data.toList).1, b.take 4, 0)
theorem create_calls (s : St) (n : List UInt8) : (createR s n).1.calls = s.calls + 1 := by
  unfold createR
  split
  · rfl
  · cases s.get n with
    | some f => rfl
    | none => simp only []; split <;> rfl
theorem ok_createR {s : St} (h : s.ok) {n : List UInt8} (hn : n.length ≤ 24) : (createR s n).1.ok := by
  unfold createR
  have hc := ok_call h
  split
  · exact hc
  · cases hg : s.get n with
    | some f => exact hc
    | none =>
      simp only []
      split
      · exact hc
      · exact ok_create (s := s.call) hc hg hn (show s.fs.length < 200 by omega)
theorem createM_calls (s : St) (b : Bu) (nm : ByteArray) (size : Int) : (createM s b nm size).1.calls ≤ s.calls + 2 := by
  unfold createM
  have h1 := create_calls s nm.data.toList
  have h2 := append_calls (createR s nm.data.toList).1 nm.data.toList (headS size).data.toList
  split
  · show s.calls ≤ _; omega
  · split
    · show s.calls ≤ _; omega
    · split
      · show (createR s nm.data.toList).1.calls ≤ _; omega
      · split
        · show (appendR _ _ _).1.calls ≤ _; omega
        · show (appendR _ _ _).1.calls ≤ _; omega
theorem createM_ok {s : St} {b : Bu} {nm : ByteArray} {size : Int} (hs : s.ok) (hb : b.ok) (hn : nm.size ≤ 24) (hm : rightB nm.data.toList = true) (h0 : (createM s b nm size).2.2 = 0) : (M3.mk (createM s b nm size).1 (createM s b nm size).2.1 (newWs nm size)).ok := by
  have hz : sizeB size = true := by
    cases h : sizeB size
    · unfold createM at h0; rw [if_pos h] at h0; exact absurd h0 (by simp)
    · rfl
  have hsok : (createM s b nm size).1.ok := by
    unfold createM
    have h1 := ok_createR hs (n := nm.data.toList) (by rw [show nm.data.toList.length = nm.size from Array.length_toList]; exact hn)
    have h2 := ok_append h1 nm.data.toList (headS size).data.toList
    split
    · exact hs
    · split
      · exact hs
      · split
        · exact h1
        · split
          · exact h2
          · exact h2
  have hbok : (createM s b nm size).2.1.ok := by
    unfold createM
    split
    · exact hb
    · split
      · exact Bu.take_ok hb 4
      · split
        · exact Bu.give_ok (Bu.take_ok hb 4) 4
        · split
          · exact Bu.give_ok (Bu.take_ok hb 4) 4
          · exact Bu.take_ok hb 4
  exact ⟨hsok, hbok, hn, hm, hz, Nat.zero_le _, (fun r h => by cases h), fun r h => by cases h⟩
end WrPlain
open WrPlain in
def closeV (m : M3) (e : Int) : Value := .tuple #[.agg #[.int .i64 (if e = 0 then (m.x.all.length : Int) else 0), .int .u32 (if e = 0 then (sumN m.x.all : Int) else 0)], .int .i64 e]
end Go.Proofs.YtjplkmmhjfpdaaaGreatDoor
/- Plain facts: a file that is there stays, whatever is appended or synced; what is told of it behind a rise. -/
namespace Go.Proofs.YtjplkmmhjfpdaaaGreatDoor
open Go.RowKit FsPlain CrcPlain OctPlain FramePlain RecPlain
set_option linter.unusedVariables false
set_option linter.unusedSimpArgs false
set_option maxRecDepth 20000
namespace WrPlain
def Has (s : St) (n : List UInt8) : Prop := ∃ f, s.get n = some f
theorem get_upd {s : St} {n : List UInt8} {g : F → F} {f : F} (hg : ∀ f, (g f).name = f.name) (h : s.get n = some f) : (s.upd n g).get n = some (g f) := by
  unfold St.get St.upd at *
  simp only []
  rw [List.find?_map]
  have e : ((fun f : F => f.name == n) ∘ fun f => if f.name = n then g f else f) = fun f : F => f.name == n := by
    funext f
    simp only [Function.comp]
    split
    · rw [hg]
    · rfl
  rw [e, h]
  have := List.find?_some h
  simp only [beq_iff_eq] at this
  simp [this]
theorem append_get {s : St} {n t : List UInt8} {f : F} (h : s.get n = some f) (h0 : (appendR s n t).2 = 0) : (appendR s n t).1.get n = some { f with data := f.data ++ t } := by
  unfold appendR at h0 ⊢
  split at h0
  · simp at h0
  · rename_i h1
    rw [if_neg h1]
    simp only [h] at h0 ⊢
    split at h0
    · simp at h0
    · rename_i h2
      rw [if_neg h2]
      exact get_upd (s := s.call) (g := fun f => { f with data := f.data ++ t }) (fun _ => rfl) h
theorem append_has {s : St} {n t : List UInt8} (h : Has s n) : Has (appendR s n t).1 n := by
  obtain ⟨f, h⟩ := h
  by_cases h0 : (appendR s n t).2 = 0
  · exact ⟨_, append_get h h0⟩
  · unfold appendR at h0 ⊢
    split
    · exact ⟨f, h⟩
    · rename_i h1
      rw [if_neg h1] at h0
      simp only [h] at h0 ⊢
      split
      · exact ⟨f, h⟩
      · rename_i h2
        rw [if_neg h2] at h0
        exact absurd rfl h0
theorem sync_get {s : St} {n : List UInt8} {f : F} (h : s.get n = some f) (h0 : (syncR s n).2 = 0) : (syncR s n).1.get n = some { f with kept := f.data.length } := by
  unfold syncR at h0 ⊢
  split at h0
  · simp at h0
  · rename_i h1
    rw [if_neg h1]
    simp only [h]
    exact get_upd (s := s.call) (g := fun f => { f with kept := f.data.length }) (fun _ => rfl) h
theorem get_ins {n : List UInt8} {k : Nat} : ∀ {l : List F}, (l.find? fun f => f.name == n) = none → ((insF ⟨n, [], k⟩ l).find? fun f => f.name == n) = some ⟨n, [], k⟩
  | [], _ => by simp [insF]
  | y :: r, h => by
    rw [List.find?_cons] at h
    split at h
    · cases h
    · rename_i h1
      unfold insF
      split
      · rw [List.find?_cons]; simp
      · rw [List.find?_cons, h1]; exact get_ins h
theorem create_get {s : St} {n : List UInt8} (h0 : (createR s n).2 = 0) : (createR s n).1.get n = some ⟨n, [], 0⟩ := by
  unfold createR at h0 ⊢
  split at h0
  · simp at h0
  · rename_i h1
    rw [if_neg h1]
    cases hg : s.get n with
    | some f => rw [hg] at h0; simp at h0
    | none =>
      rw [hg] at h0
      simp only [] at h0 ⊢
      split at h0
      · simp at h0
      · rename_i h2
        rw [if_neg h2]
        exact get_ins hg
theorem createM_has {s : St} {b : Bu} {nm : ByteArray} {size : Int} (h0 : (createM s b nm size).2.2 = 0) : ∃ f, (createM s b nm size).1.get nm.data.toList = some f ∧ f.data = (headS size).data.toList ∧ sizeB size = true := by
  cases hz : sizeB size
  · unfold createM at h0; rw [if_pos hz] at h0; exact absurd h0 (by simp)
  · unfold createM at h0 ⊢
    rw [if_neg (by rw [hz]; decide)] at h0 ⊢
    split at h0
    · rename_i h1; exact absurd h0 h1
    · rename_i h1
      rw [if_neg h1]
      split at h0
      · rename_i h2; exact absurd h0 h2
      · rename_i h2
        rw [if_neg h2]
        split at h0
        · rename_i h3; exact absurd h0 h3
        · rename_i h3
          rw [if_neg h3]
          exact ⟨_, append_get (create_get (by omega)) (by omega), rfl, rfl⟩
theorem putM_nm (m : M3) (r : ByteArray) : (putM m r).1.x.nm = m.x.nm ∧ (putM m r).1.x.size = m.x.size := by
  unfold putM
  split
  · exact ⟨rfl, rfl⟩
  · split
    · exact ⟨rfl, rfl⟩
    · split
      · exact ⟨rfl, rfl⟩
      · unfold layM dropM
        split
        · exact ⟨rfl, rfl⟩
        · split <;> exact ⟨rfl, rfl⟩
theorem closeM_calls (m : M3) : (closeM m).1.s.calls ≤ m.s.calls + 3 ∧ 0 ≤ (closeM m).1.s.calls - m.s.calls := by
  have h1 : (flushM m).1.s.calls ≤ m.s.calls + 1 ∧ m.s.calls ≤ (flushM m).1.s.calls := by
    unfold flushM
    split
    · simp only []; omega
    · rw [layM_calls]; omega
  have h2 : (endM (flushM m).1).1.s.calls = (flushM m).1.s.calls + 1 := by unfold endM; exact layM_calls _ _
  have h3 : (syncM (endM (flushM m).1).1).1.s.calls = (endM (flushM m).1).1.s.calls + 1 := sync_calls _ _
  unfold closeM
  split
  · simp only []; omega
  · split
    · omega
    · split
      · simp only [dropM_calls]; omega
      · simp only [dropM_calls]; omega
end WrPlain
end Go.Proofs.YtjplkmmhjfpdaaaGreatDoor
/- Plain facts: what a writer lays is the file of its records; where there is room no call fails. -/
namespace Go.Proofs.YtjplkmmhjfpdaaaGreatDoor
open Go.RowKit FsPlain CrcPlain OctPlain FramePlain RecPlain
set_option linter.unusedVariables false
set_option linter.unusedSimpArgs false
set_option maxRecDepth 20000
namespace WrPlain
theorem four_old {l : List ByteArray} {r : ByteArray} {i : Nat} (h : 4 * i + 4 ≤ l.length) : four (l ++ [r]) i = four l i := by
  unfold four
  rw [List.drop_append_of_le_length (by omega), List.take_append_of_le_length (by rw [List.length_drop]; omega)]
theorem ups_old {l : List ByteArray} {r : ByteArray} : ∀ {j : Nat}, 4 * j ≤ l.length → ups (l ++ [r]) j = ups l j
  | 0, _ => rfl
  | j + 1, h => by rw [ups_succ, ups_succ, ups_old (j := j) (by omega), four_old (by omega)]
theorem four_last {l : List ByteArray} {j : Nat} (h : l.length ≤ 4 * j + 4) : four l j = l.drop (4 * j) := by
  unfold four
  rw [List.take_of_length_le (by rw [List.length_drop]; omega)]
structure Laid (m : M3) (j : Nat) (f : F) : Prop where
  get : m.s.get m.x.nm.data.toList = some f
  len : m.x.all.length = 4 * j + m.x.wait.length
  wait : m.x.wait = m.x.all.drop (4 * j)
  data : f.data = (headS m.x.size).data.toList ++ blks (ups m.x.all j)
theorem laid_new {s : St} {b : Bu} {nm : ByteArray} {size : Int} (h0 : (createM s b nm size).2.2 = 0) : ∃ f, Laid ⟨(createM s b nm size).1, (createM s b nm size).2.1, newWs nm size⟩ 0 f := by
  obtain ⟨f, h1, h2, _⟩ := createM_has h0
  exact ⟨f, h1, rfl, rfl, by rw [h2]; show _ = _ ++ blks (ups [] 0); rw [show ups ([] : List ByteArray) 0 = [] from rfl, blks_nil, List.append_nil]; rfl⟩
theorem layM_ok {m : M3} {t : ByteArray} (h : (layM m t).2 = 0) : (appendR m.s m.x.nm.data.toList t.data.toList).2 = 0 ∧ (layM m t).1 = ⟨(appendR m.s m.x.nm.data.toList t.data.toList).1, m.b, m.x⟩ := by
  unfold layM at h ⊢
  split at h
  · rename_i h1; rw [if_pos h1]; exact ⟨h1, rfl⟩
  · rename_i h1; exact absurd h h1
theorem blk_yes {m : M3} (hm : m.ok) {l : List ByteArray} (h1 : 1 ≤ l.length) (h4 : l.length ≤ 4) (hz : ∀ r ∈ l, (r.size : Int) = m.x.size) : blkS m.x.size l = cl (blk l) := by
  refine blkS_yes ?_
  unfold blkB
  rw [hm.z, decide_eq_true ⟨h1, h4⟩, allB_iff.2 hz]; rfl
theorem laid_put {m : M3} {r : ByteArray} {j : Nat} {f : F} (hm : m.ok) (h : Laid m j f) (ho : m.x.opn = true) (hz : (r.size : Int) = m.x.size) (h0 : (putM m r).2 = 0) : ∃ j f, Laid (putM m r).1 j f ∧ (putM m r).1.x.all = m.x.all ++ [r] ∧ (putM m r).1.x.opn = true := by
  unfold putM at h0 ⊢
  rw [if_neg (by rw [ho]; decide), if_neg (by simpa using hz)] at h0 ⊢
  split at h0
  · rename_i hl
    rw [if_pos hl]
    refine ⟨j, f, ⟨h.get, ?_, ?_, ?_⟩, rfl, ho⟩
    · show (m.x.all ++ [r]).length = _ + (m.x.wait ++ [r]).length
      rw [List.length_append, List.length_append, h.len]; simp; omega
    · show m.x.wait ++ [r] = (m.x.all ++ [r]).drop (4 * j)
      rw [List.drop_append_of_le_length (by have := h.len; omega), ← h.wait]
    · show f.data = (headS m.x.size).data.toList ++ blks (ups (m.x.all ++ [r]) j)
      rw [ups_old (by have := h.len; omega)]; exact h.data
  · rename_i hl
    rw [if_neg hl]
    have hwl : m.x.wait.length = 3 := by have := hm.wl; omega
    obtain ⟨h1, h2⟩ := layM_ok h0
    rw [h2]
    have hall : ∀ q ∈ m.x.wait ++ [r], (q.size : Int) = m.x.size := fun q hq => by
      rcases List.mem_append.1 hq with hq | hq
      · exact hm.wz q hq
      · rw [List.mem_singleton.1 hq]; exact hz
    have hb := blk_yes hm (l := m.x.wait ++ [r]) (by simp) (by simp; omega) hall
    have hlen : (m.x.all ++ [r]).length = 4 * j + 4 := by have := h.len; simp; omega
    have hd : (m.x.all ++ [r]).drop (4 * j) = m.x.wait ++ [r] := by rw [List.drop_append_of_le_length (by have := h.len; omega), ← h.wait]
    refine ⟨j + 1, _, ⟨append_get (s := m.s) h.get h1, ?_, ?_, ?_⟩, rfl, ho⟩
    · show (m.x.all ++ [r]).length = 4 * (j + 1) + 0; omega
    · show ([] : List ByteArray) = (m.x.all ++ [r]).drop (4 * (j + 1)); rw [List.drop_eq_nil_of_le (by omega)]
    · show f.data ++ (blkS m.x.size (m.x.wait ++ [r])).data.toList = (headS m.x.size).data.toList ++ blks (ups (m.x.all ++ [r]) (j + 1))
      rw [ups_succ, ups_old (by have := h.len; omega), four_last (by omega), hd, blks_app, blks_cons, blks_nil, h.data, hb, List.append_nil, List.append_assoc]
theorem laid_flush {m : M3} {j : Nat} {f : F} (hm : m.ok) (h : Laid m j f) (h0 : (flushM m).2 = 0) : ∃ f, (flushM m).1.s.get m.x.nm.data.toList = some f ∧ f.data = (headS m.x.size).data.toList ++ blks (ups m.x.all (cnt4 m.x.all)) ∧ (flushM m).1.x = m.x ∧ (flushM m).1.b = m.b := by
  unfold flushM at h0 ⊢
  split at h0
  · rename_i hw
    rw [if_pos hw]
    have : cnt4 m.x.all = j := by unfold cnt4; have := h.len; omega
    exact ⟨f, h.get, by rw [this]; exact h.data, rfl, rfl⟩
  · rename_i hw
    rw [if_neg hw]
    obtain ⟨h1, h2⟩ := layM_ok h0
    rw [h2]
    have hwl := hm.wl
    have hb := blk_yes hm (l := m.x.wait) (by omega) (by omega) hm.wz
    have : cnt4 m.x.all = j + 1 := by unfold cnt4; have := h.len; omega
    refine ⟨_, append_get (s := m.s) h.get h1, ?_, rfl, rfl⟩
    show f.data ++ (blkS m.x.size m.x.wait).data.toList = _
    rw [this, ups_succ, four_last (by have := h.len; omega), ← h.wait, blks_app, blks_cons, blks_nil, h.data, hb, List.append_nil, List.append_assoc]
theorem dropM_open {m : M3} (h : m.x.opn = true) : dropM m = ⟨m.s, m.b.give 4, { m.x with opn := false }⟩ := by unfold dropM; rw [if_pos h]
theorem laid_close {m : M3} {j : Nat} {f : F} (hm : m.ok) (hal : m.x.all.length ≤ 100000) (h : Laid m j f) (ho : m.x.opn = true) (h0 : (closeM m).2 = 0) : ∃ f, (closeM m).1.s.get m.x.nm.data.toList = some f ∧ f.data = layL m.x.size m.x.all ∧ f.kept = f.data.length ∧ (closeM m).1.b = m.b.give 4 ∧ (closeM m).1.x.opn = false ∧ (closeM m).1.x.all = m.x.all := by
  unfold closeM at h0 ⊢
  rw [if_neg (by rw [ho]; decide)] at h0 ⊢
  split at h0
  · rename_i h1; exact absurd h0 h1
  · rename_i h1
    rw [if_neg h1]
    obtain ⟨f2, g1, g2, g3, g4⟩ := laid_flush hm h (by omega)
    split at h0
    · rename_i h2; exact absurd h0 h2
    · rename_i h2
      rw [if_neg h2]
      have he : (layM (flushM m).1 (peS (flushM m).1.x.all.length (sumN (flushM m).1.x.all))).2 = 0 := by
        have : (endM (flushM m).1).2 = 0 := by omega
        exact this
      obtain ⟨k1, k2⟩ := layM_ok he
      have e1 : (endM (flushM m).1).1 = ⟨(appendR (flushM m).1.s m.x.nm.data.toList (peS m.x.all.length (sumN m.x.all)).data.toList).1, m.b, m.x⟩ := by
        unfold endM; rw [k2, g3, g4]
      rw [e1] at h0 ⊢
      rw [g3] at k1
      have k3 := append_get g1 k1
      have hs : (syncR (appendR (flushM m).1.s m.x.nm.data.toList (peS m.x.all.length (sumN m.x.all)).data.toList).1 m.x.nm.data.toList).2 = 0 := h0
      have k4 := sync_get k3 hs
      have hpe : peS m.x.all.length (sumN m.x.all) = cl (endS m.x.all.length (sumN m.x.all)) := by
        have hb : peB (m.x.all.length : Int) = true := by unfold peB; rw [decide_eq_true_iff]; omega
        rw [peS_yes hb]; rfl
      rw [dropM_open (m := (syncM _).1) (by exact ho)]
      refine ⟨_, k4, ?_, rfl, rfl, rfl, rfl⟩
      show f2.data ++ (peS m.x.all.length (sumN m.x.all)).data.toList = _
      rw [g2, hpe]
      unfold layL endL
      rw [List.append_assoc]
end WrPlain
end Go.Proofs.YtjplkmmhjfpdaaaGreatDoor
/- Plain facts: a machine that does not fall, and room enough: no call of a writer fails. -/
namespace Go.Proofs.YtjplkmmhjfpdaaaGreatDoor
open Go.RowKit FsPlain CrcPlain OctPlain FramePlain RecPlain
set_option linter.unusedVariables false
set_option linter.unusedSimpArgs false
set_option maxRecDepth 20000
namespace WrPlain
def Calm (s : St) : Prop := s.down = false ∧ s.ahead = -1
theorem calm_call {s : St} (h : Calm s) : Calm s.call ∧ s.call.down = false := by
  obtain ⟨h1, h2⟩ := h
  have e : s.call.down = false := by unfold St.call; simp [h1, h2]
  exact ⟨⟨e, by show max (s.ahead - 1) (-1) = -1; rw [h2]; decide⟩, e⟩
theorem append_calm {s : St} (hs : s.ok) (h : Calm s) {n t : List UInt8} {f : F} (hg : s.get n = some f) (hr : (used s.fs : Int) + t.length ≤ s.room) :
    (appendR s n t).2 = 0 ∧ Calm (appendR s n t).1 ∧ (appendR s n t).1.room = s.room ∧ used (appendR s n t).1.fs = used s.fs + t.length := by
  obtain ⟨hc, hd⟩ := calm_call h
  have e : appendR s n t = (s.call.upd n (fun f => { f with data := f.data ++ t }), 0) := by
    unfold appendR
    rw [if_neg (by rw [hd]; decide), hg]
    simp only []
    rw [if_neg (by omega)]
  rw [e]
  obtain ⟨A, C, e1, _, _, _, hu⟩ := get_split (s := s.call) (ok_call hs) (n := n) (f := f) hg
  refine ⟨rfl, hc, rfl, ?_⟩
  show used (s.call.upd n (fun f => { f with data := f.data ++ t })).fs = _
  rw [hu]
  have h2 := used_split A C f { f with data := f.data ++ t }
  have h3 : s.fs = A ++ f :: C := e1
  rw [h3]
  simp only [List.length_append] at h2
  omega
theorem sync_calm {s : St} (h : Calm s) {n : List UInt8} {f : F} (hg : s.get n = some f) : (syncR s n).2 = 0 := by
  obtain ⟨hc, hd⟩ := calm_call h
  unfold syncR
  rw [if_neg (by rw [hd]; decide), hg]
theorem layM_calm {m : M3} {t : ByteArray} (hm : m.ok) (h : Calm m.s) {f : F} (hg : m.s.get m.x.nm.data.toList = some f) (hr : (used m.s.fs : Int) + t.size ≤ m.s.room) :
    (layM m t).2 = 0 ∧ Calm (layM m t).1.s ∧ (layM m t).1.s.room = m.s.room ∧ used (layM m t).1.s.fs = used m.s.fs + t.size := by
  have hl : t.data.toList.length = t.size := Array.length_toList
  obtain ⟨h1, h2, h3, h4⟩ := append_calm hm.s h hg (t := t.data.toList) (by rw [hl]; exact hr)
  have e : layM m t = (⟨(appendR m.s m.x.nm.data.toList t.data.toList).1, m.b, m.x⟩, 0) := by unfold layM; rw [if_pos h1]
  rw [e]
  exact ⟨rfl, h2, h3, by rw [← hl]; exact h4⟩
end WrPlain
end Go.Proofs.YtjplkmmhjfpdaaaGreatDoor
/- Plain facts: what Get reads is a block; what blocks and an end are of a file. -/
namespace Go.Proofs.YtjplkmmhjfpdaaaGreatDoor
open Go.RowKit CrcPlain OctPlain FramePlain RecPlain
set_option linter.unusedVariables false
set_option linter.unusedSimpArgs false
set_option maxRecDepth 20000
namespace RecPlain
theorem pieces_size {s : ByteArray} {m : Nat} : ∀ j, j * m ≤ s.size → ∀ x ∈ pieces s m j, x.size = m
  | 0, _, x, hx => by simp [pieces] at hx
  | j + 1, h, x, hx => by
    have hj : j * m + m ≤ s.size := by rw [Nat.add_mul, Nat.one_mul] at h; exact h
    rw [pieces, List.mem_append] at hx
    rcases hx with hx | hx
    · exact pieces_size j (by omega) x hx
    · simp at hx; subst hx; rw [ByteArray.size_extract]; omega
theorem cat_pieces {s : ByteArray} {m : Nat} : ∀ j, j * m ≤ s.size → cat (pieces s m j) = s.data.toList.take (j * m)
  | 0, _ => by simp [pieces, cat]
  | j + 1, h => by
    have hj : j * m + m ≤ s.size := by rw [Nat.add_mul, Nat.one_mul] at h; exact h
    rw [pieces, cat_snoc, cat_pieces j (by omega), extract_data, List.drop_take, Nat.add_mul, Nat.one_mul, List.take_add]
    congr 2
    omega
theorem cl_of {s : ByteArray} (h : opB s = true) : cl (ahead s) = s ∧ 4 ≤ s.size := by
  have h4 : 4 ≤ s.size := by unfold opB at h; rw [decide_eq_true_iff] at h; exact h.1
  exact ⟨(cl_is s h4).2 h, h4⟩
theorem get_is {size : Int} {s : ByteArray} (h : gB size s = true) :
    blkB size (gL size s) = true ∧ ∃ n : Nat, gN size s = n ∧ n ≤ s.size ∧ 6 ≤ n ∧ s.extract 0 n = cl (blk (gL size s)) := by
  have hN := gN_yes h
  have hL := gL_yes h
  have hh := h
  unfold gB at hh
  simp only [Bool.and_eq_true, decide_eq_true_eq] at hh
  obtain ⟨⟨⟨h1, h2⟩, h3⟩, h4⟩ := hh
  have h1' := h1
  simp only [sizeB, decide_eq_true_eq] at h1'
  obtain ⟨n, hn, hn6, hn261⟩ := gLen_nat h1' h2
  obtain ⟨m, hm⟩ : ∃ m : Nat, size = m := ⟨size.toNat, by omega⟩
  have hnm : 5 + cntN s * m = n := by
    unfold gLen at hn
    rw [hm] at hn
    have : ((5 + cntN s * m : Nat) : Int) = (n : Int) := by rw [Int.natCast_add, Int.natCast_mul]; exact hn
    omega
  have hbody : gBody size s = (opS (s.extract 0 n)).extract 1 (opS (s.extract 0 n)).size := by unfold gBody; rw [hn, Int.toNat_natCast]
  rw [hn, Int.toNat_natCast] at h4
  rw [hn] at h3
  have hxs : (s.extract 0 n).size = n := by rw [ByteArray.size_extract]; omega
  obtain ⟨hcl, _⟩ := cl_of h4
  rw [opS_yes h4] at hbody
  have has : (ahead (s.extract 0 n)).size = n - 4 := by rw [ahead_size _ (by omega), hxs]
  have hbs : (gBody size s).size = cntN s * m := by rw [hbody, ByteArray.size_extract, has]; omega
  have hsp : splB (gBody size s) size = true := by
    unfold splB
    rw [decide_eq_true_iff, hbs, hm, Int.natCast_mul]
    exact ⟨by omega, Int.mul_emod_left _ _⟩
  have hLL : gL size s = pieces (gBody size s) m (cntN s) := by
    rw [hL, splL_yes hsp, hbs, hm, Int.toNat_natCast, Nat.mul_div_cancel _ (by omega)]
  have hlen : (gL size s).length = cntN s := by rw [hLL, pieces_length]
  have hsz := pieces_size (s := gBody size s) (m := m) (cntN s) (by omega)
  have hcat := cat_pieces (s := gBody size s) (m := m) (cntN s) (by omega)
  rw [← hLL] at hsz hcat
  refine ⟨?_, n, by rw [hN, hn], by omega, hn6, ?_⟩
  · unfold blkB
    rw [h1, hlen, decide_eq_true h2, Bool.true_and, Bool.true_and]
    exact allB_iff.2 fun x hx => by rw [hsz x hx, hm]
  · have hb : blk (gL size s) = ahead (s.extract 0 n) := by
      apply ext_toList
      rw [blk_data, hlen, hcat, List.take_of_length_le (by rw [data_length]; omega), hbody, extract_data, List.take_of_length_le (by rw [data_length]; omega)]
      have h0 : 0 < s.size := by omega
      have hc := cntN_at s h0
      have hne : (ahead (s.extract 0 n)).data.toList = s.data.toList.take (n - 4) := by
        rw [ahead_data, extract_data, hxs, List.drop_zero, List.take_take, Nat.min_eq_left (by omega)]
      have hcons : s.data.toList = s[0] :: s.data.toList.drop 1 := by
        have := List.drop_eq_getElem_cons (l := s.data.toList) (i := 0) (by rw [data_length]; exact h0)
        rw [List.drop_zero] at this
        exact this
      rw [hne, hcons, show n - 4 = (n - 5) + 1 by omega, List.take_succ_cons, List.drop_succ_cons, List.drop_zero, ← hc]
      simp
    rw [hb, hcl]
theorem get_split {size : Int} {s : ByteArray} (h : gB size s = true) : ∃ n : Nat, gN size s = n ∧ n ≤ s.size ∧ 6 ≤ n ∧ s.data.toList = (cl (blk (gL size s))).data.toList ++ (s.extract n s.size).data.toList := by
  obtain ⟨_, n, h1, h2, h3, h4⟩ := get_is h
  refine ⟨n, h1, h2, h3, ?_⟩
  have e : s.data.toList.take s.size = s.data.toList := List.take_of_length_le (by rw [data_length]; omega)
  rw [← h4, extract_data, extract_data, e, List.drop_zero, List.take_append_drop]
theorem end_is {s : ByteArray} (h : eB s = true) : ∃ c m : Nat, eC s = c ∧ eM s = m ∧ m < 4294967296 ∧ s = cl (endS c m) := by
  have hC := eC_yes h
  have hM := eM_yes h
  unfold eB at h
  simp only [Bool.and_eq_true, decide_eq_true_eq] at h
  obtain ⟨⟨⟨h1, h2⟩, h3⟩, h4, h5⟩ := h
  obtain ⟨m, hm, hm2, hm3, _⟩ := get4_lt s (by omega)
  obtain ⟨c, hc, hc2⟩ := get8_yes h4
  refine ⟨c, m, by rw [hC, hc], by rw [hM, hm2], hm, ?_⟩
  rw [hc2, hm3, ahead_end s h1 h2]
  exact (cl_of h3).1.symm
def tailB (l : List ByteArray) (r : ByteArray) : Bool := eB r && decide (eC r = l.length) && decide (eM r = (sumN l : Nat))
theorem peB_ok {n : Nat} (h : n ≤ 1000000) : peB (n : Int) = true := by unfold peB; rw [decide_eq_true_iff]; omega
theorem tail_iff {l : List ByteArray} (hl : l.length ≤ 1000000) (r : ByteArray) : tailB l r = true ↔ r.data.toList = endL l := by
  have hp := peB_ok hl
  obtain ⟨b1, b2, b3⟩ := end_back (n := (l.length : Int)) (m := sumN l) hp (sumN_lt l)
  rw [Int.toNat_natCast] at b1 b2 b3
  unfold tailB endL
  constructor
  · intro h
    simp only [Bool.and_eq_true, decide_eq_true_eq] at h
    obtain ⟨⟨h1, h2⟩, h3⟩ := h
    obtain ⟨c, m, e1, e2, _, e4⟩ := end_is h1
    have : c = l.length := by omega
    have : m = sumN l := by omega
    subst c m
    rw [← e4]
  · intro h
    have := ext_toList h
    subst this
    rw [b1, b2, b3]
    simp
theorem file_of {size : Int} {s : ByteArray} {ps : List (List ByteArray)} {r : ByteArray} (hs : sizeB size = true) (hp : ∀ p ∈ ps, blkB size p = true) (hf : Full ps) (he : s.data.toList = (headS size).data.toList ++ (blks ps ++ r.data.toList)) (hl : ps.flatten.length ≤ 1000000)
    (ht : tailB ps.flatten r = true) : IsFile size s ps.flatten := by
  have hB : layB size ps.flatten = true := by
    unfold layB
    rw [hs, Bool.true_and]
    refine allB_iff.2 fun x hx => ?_
    obtain ⟨p, h1, h2⟩ := List.mem_flatten.1 hx
    exact (blk_parts (hp p h1)).2.2 x h2
  refine ⟨hB, ?_⟩
  rw [he, (tail_iff hl r).1 ht]
  unfold layL
  rw [full_ups hf (fun p h => (blk_parts (hp p h)).2.1)]
theorem file_not {size : Int} {s : ByteArray} {ps : List (List ByteArray)} {r : ByteArray} {l : List ByteArray} (hp : ∀ p ∈ ps, blkB size p = true) (he : s.data.toList = (headS size).data.toList ++ (blks ps ++ r.data.toList))
    (hstop : gB size r = false ∨ ∃ p, ps.getLast? = some p ∧ p.length < 4) (hi : IsFile size s l) : ps.flatten = l ∧ r.data.toList = endL l := by
  obtain ⟨hB, hs⟩ := hi
  rw [he] at hs
  unfold layL at hs
  have h1 := List.append_cancel_left hs
  obtain ⟨cs, c1, c2⟩ := blks_pre _ _ _ _ hp (ups_blk hB) (endL_cons l) h1
  have hcs : cs = [] := by
    cases cs with
    | nil => rfl
    | cons c cs =>
      exfalso
      have hc : blkB size c = true := ups_blk hB c (by rw [c1]; simp)
      rcases hstop with h | ⟨p, h, h4⟩
      · have hr : r = cl (blk c) ++ bs (blks cs ++ endL l) := by apply ext_toList; rw [app_data, bs_data, c2, blks_cons, List.append_assoc]
        have := (get_put hc (bs (blks cs ++ endL l))).1
        rw [← hr, h] at this; cases this
      · have hfull := ups_full l
        have hne : ps ≠ [] := by intro e; rw [e] at h; simp at h
        have hlen : 0 < ps.length := List.length_pos_iff.2 hne
        rw [List.getLast?_eq_getElem?] at h
        have hget : (ups l (cnt4 l))[ps.length - 1]? = some p := by rw [c1, List.getElem?_append_left (by omega)]; exact h
        have := hfull _ p hget (by rw [c1]; simp; omega)
        omega
  subst hcs
  rw [List.append_nil] at c1
  rw [blks_nil, List.nil_append] at c2
  exact ⟨by rw [← c1, ups_all], c2⟩
end RecPlain
end Go.Proofs.YtjplkmmhjfpdaaaGreatDoor

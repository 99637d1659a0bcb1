/- In one text: WrLaid, WrCalm, WrLaysP, WrLays. -/
import Derived.Test.YtcpaaenjfljocaaGreatP20
import Derived.Test.YtcpaaenjfljocaaGreatP22
import Derived.Test.YtcpaaenjfljocaaGreatP05
import Derived.Maps.AppendAt
/- Plain facts: what a writer lays is the file of its records; where there is room no call fails. -/
namespace Go.Proofs.YtcpaaenjfljocaaGreat
open Go.RowKit FsPlain CrcPlain OctPlain FramePlain RecPlain
set_option linter.unusedVariables false
set_option linter.unusedSimpArgs false
namespace WrPlain
theorem four_old {l : List ByteArray} {r : ByteArray} {i : Nat} (h : 4 * i + 4 ≤ l.length) : four (l ++ [r]) i = four l i := by
  unfold four
  rw [List.drop_append_of_le_length (by omega), List.take_append_of_le_length (by rw [List.length_drop]; omega)]
theorem ups_old {l : List ByteArray} {r : ByteArray} : ∀ {j : Nat}, 4 * j ≤ l.length → ups (l ++ [r]) j = ups l j
  | 0, _ => rfl
  | j + 1, h => by rw [ups_succ, ups_succ, ups_old (j := j) (by omega), four_old (by omega)]
theorem four_last {l : List ByteArray} {j : Nat} (h : l.length ≤ 4 * j + 4) : four l j = l.drop (4 * j) := by
  unfold four
  rw [List.take_of_length_le (by rw [List.length_drop]; omega)]
/-- What stands in the file of a writer that is open. -/
structure Laid (m : M3) (j : Nat) (f : F) : Prop where
  get : m.s.get m.x.nm.data.toList = some f
  len : m.x.all.length = 4 * j + m.x.wait.length
  wait : m.x.wait = m.x.all.drop (4 * j)
  data : f.data = (headS m.x.size).data.toList ++ blks (ups m.x.all j)
theorem laid_new {s : St} {b : Bu} {nm : ByteArray} {size : Int} (h0 : (createM s b nm size).2.2 = 0) : ∃ f, Laid ⟨(createM s b nm size).1, (createM s b nm size).2.1, newWs nm size⟩ 0 f := by
  obtain ⟨f, h1, h2, _⟩ := createM_has h0
  exact ⟨f, h1, rfl, rfl, by rw [h2]; show _ = _ ++ blks (ups [] 0); rw [show ups ([] : List ByteArray) 0 = [] from rfl, blks_nil, List.append_nil]; rfl⟩
theorem layM_ok {m : M3} {t : ByteArray} (h : (layM m t).2 = 0) : (appendR m.s m.x.nm.data.toList t.data.toList).2 = 0 ∧ (layM m t).1 = ⟨(appendR m.s m.x.nm.data.toList t.data.toList).1, m.b, m.x⟩ := by
  unfold layM at h ⊢
  split at h
  · rename_i h1; rw [if_pos h1]; exact ⟨h1, rfl⟩
  · rename_i h1; exact absurd h h1
theorem blk_yes {m : M3} (hm : m.ok) {l : List ByteArray} (h1 : 1 ≤ l.length) (h4 : l.length ≤ 4) (hz : ∀ r ∈ l, (r.size : Int) = m.x.size) : blkS m.x.size l = cl (blk l) := by
  refine blkS_yes ?_
  unfold blkB
  rw [hm.z, decide_eq_true ⟨h1, h4⟩, allB_iff.2 hz]; rfl
theorem laid_put {m : M3} {r : ByteArray} {j : Nat} {f : F} (hm : m.ok) (h : Laid m j f) (ho : m.x.opn = true) (hz : (r.size : Int) = m.x.size) (h0 : (putM m r).2 = 0) : ∃ j f, Laid (putM m r).1 j f ∧ (putM m r).1.x.all = m.x.all ++ [r] ∧ (putM m r).1.x.opn = true := by
  unfold putM at h0 ⊢
  rw [if_neg (by rw [ho]; decide), if_neg (by simpa using hz)] at h0 ⊢
  split at h0
  · rename_i hl
    rw [if_pos hl]
    refine ⟨j, f, ⟨h.get, ?_, ?_, ?_⟩, rfl, ho⟩
    · show (m.x.all ++ [r]).length = _ + (m.x.wait ++ [r]).length
      rw [List.length_append, List.length_append, h.len]; simp; omega
    · show m.x.wait ++ [r] = (m.x.all ++ [r]).drop (4 * j)
      rw [List.drop_append_of_le_length (by have := h.len; omega), ← h.wait]
    · show f.data = (headS m.x.size).data.toList ++ blks (ups (m.x.all ++ [r]) j)
      rw [ups_old (by have := h.len; omega)]; exact h.data
  · rename_i hl
    rw [if_neg hl]
    have hwl : m.x.wait.length = 3 := by have := hm.wl; omega
    obtain ⟨h1, h2⟩ := layM_ok h0
    rw [h2]
    have hall : ∀ q ∈ m.x.wait ++ [r], (q.size : Int) = m.x.size := fun q hq => by
      rcases List.mem_append.1 hq with hq | hq
      · exact hm.wz q hq
      · rw [List.mem_singleton.1 hq]; exact hz
    have hb := blk_yes hm (l := m.x.wait ++ [r]) (by simp) (by simp; omega) hall
    have hlen : (m.x.all ++ [r]).length = 4 * j + 4 := by have := h.len; simp; omega
    have hd : (m.x.all ++ [r]).drop (4 * j) = m.x.wait ++ [r] := by rw [List.drop_append_of_le_length (by have := h.len; omega), ← h.wait]
    refine ⟨j + 1, _, ⟨append_get (s := m.s) h.get h1, ?_, ?_, ?_⟩, rfl, ho⟩
    · show (m.x.all ++ [r]).length = 4 * (j + 1) + 0; omega
    · show ([] : List ByteArray) = (m.x.all ++ [r]).drop (4 * (j + 1)); rw [List.drop_eq_nil_of_le (by omega)]
    · show f.data ++ (blkS m.x.size (m.x.wait ++ [r])).data.toList = (headS m.x.size).data.toList ++ blks (ups (m.x.all ++ [r]) (j + 1))
      rw [ups_succ, ups_old (by have := h.len; omega), four_last (by omega), hd, blks_app, blks_cons, blks_nil, h.data, hb, List.append_nil, List.append_assoc]
theorem laid_flush {m : M3} {j : Nat} {f : F} (hm : m.ok) (h : Laid m j f) (h0 : (flushM m).2 = 0) : ∃ f, (flushM m).1.s.get m.x.nm.data.toList = some f ∧ f.data = (headS m.x.size).data.toList ++ blks (ups m.x.all (cnt4 m.x.all)) ∧ (flushM m).1.x = m.x ∧ (flushM m).1.b = m.b := by
  unfold flushM at h0 ⊢
  split at h0
  · rename_i hw
    rw [if_pos hw]
    have : cnt4 m.x.all = j := by unfold cnt4; have := h.len; omega
    exact ⟨f, h.get, by rw [this]; exact h.data, rfl, rfl⟩
  · rename_i hw
    rw [if_neg hw]
    obtain ⟨h1, h2⟩ := layM_ok h0
    rw [h2]
    have hwl := hm.wl
    have hb := blk_yes hm (l := m.x.wait) (by omega) (by omega) hm.wz
    have : cnt4 m.x.all = j + 1 := by unfold cnt4; have := h.len; omega
    refine ⟨_, append_get (s := m.s) h.get h1, ?_, rfl, rfl⟩
    show f.data ++ (blkS m.x.size m.x.wait).data.toList = _
    rw [this, ups_succ, four_last (by have := h.len; omega), ← h.wait, blks_app, blks_cons, blks_nil, h.data, hb, List.append_nil, List.append_assoc]
theorem dropM_open {m : M3} (h : m.x.opn = true) : dropM m = ⟨m.s, m.b.give 4, { m.x with opn := false }⟩ := by unfold dropM; rw [if_pos h]
theorem laid_close {m : M3} {j : Nat} {f : F} (hm : m.ok) (hal : m.x.all.length ≤ 100000) (h : Laid m j f) (ho : m.x.opn = true) (h0 : (closeM m).2 = 0) : ∃ f, (closeM m).1.s.get m.x.nm.data.toList = some f ∧ f.data = layL m.x.size m.x.all ∧ f.kept = f.data.length ∧ (closeM m).1.b = m.b.give 4 ∧ (closeM m).1.x.opn = false ∧ (closeM m).1.x.all = m.x.all := by
  unfold closeM at h0 ⊢
  rw [if_neg (by rw [ho]; decide)] at h0 ⊢
  split at h0
  · rename_i h1; exact absurd h0 h1
  · rename_i h1
    rw [if_neg h1]
    obtain ⟨f2, g1, g2, g3, g4⟩ := laid_flush hm h (by omega)
    split at h0
    · rename_i h2; exact absurd h0 h2
    · rename_i h2
      rw [if_neg h2]
      have he : (layM (flushM m).1 (peS (flushM m).1.x.all.length (sumN (flushM m).1.x.all))).2 = 0 := by
        have : (endM (flushM m).1).2 = 0 := by omega
        exact this
      obtain ⟨k1, k2⟩ := layM_ok he
      have e1 : (endM (flushM m).1).1 = ⟨(appendR (flushM m).1.s m.x.nm.data.toList (peS m.x.all.length (sumN m.x.all)).data.toList).1, m.b, m.x⟩ := by
        unfold endM; rw [k2, g3, g4]
      rw [e1] at h0 ⊢
      rw [g3] at k1
      have k3 := append_get g1 k1
      have hs : (syncR (appendR (flushM m).1.s m.x.nm.data.toList (peS m.x.all.length (sumN m.x.all)).data.toList).1 m.x.nm.data.toList).2 = 0 := h0
      have k4 := sync_get k3 hs
      have hpe : peS m.x.all.length (sumN m.x.all) = cl (endS m.x.all.length (sumN m.x.all)) := by
        have hb : peB (m.x.all.length : Int) = true := by unfold peB; rw [decide_eq_true_iff]; omega
        rw [peS_yes hb]; rfl
      rw [dropM_open (m := (syncM _).1) (by exact ho)]
      refine ⟨_, k4, ?_, rfl, rfl, rfl, rfl⟩
      show f2.data ++ (peS m.x.all.length (sumN m.x.all)).data.toList = _
      rw [g2, hpe]
      unfold layL endL
      rw [List.append_assoc]
end WrPlain
end Go.Proofs.YtcpaaenjfljocaaGreat
/- Plain facts: a machine that does not fall, and room enough: no call of a writer fails. -/
namespace Go.Proofs.YtcpaaenjfljocaaGreat
open Go.RowKit FsPlain CrcPlain OctPlain FramePlain RecPlain
set_option linter.unusedVariables false
set_option linter.unusedSimpArgs false
namespace WrPlain
/-- The machine is up, and does not fall. -/
def Calm (s : St) : Prop := s.down = false ∧ s.ahead = -1
theorem calm_call {s : St} (h : Calm s) : Calm s.call ∧ s.call.down = false := by
  obtain ⟨h1, h2⟩ := h
  have e : s.call.down = false := by unfold St.call; simp [h1, h2]
  exact ⟨⟨e, by show max (s.ahead - 1) (-1) = -1; rw [h2]; decide⟩, e⟩
theorem append_calm {s : St} (hs : s.ok) (h : Calm s) {n t : List UInt8} {f : F} (hg : s.get n = some f) (hr : (used s.fs : Int) + t.length ≤ s.room) :
    (appendR s n t).2 = 0 ∧ Calm (appendR s n t).1 ∧ (appendR s n t).1.room = s.room ∧ used (appendR s n t).1.fs = used s.fs + t.length := by
  obtain ⟨hc, hd⟩ := calm_call h
  have e : appendR s n t = (s.call.upd n (fun f => { f with data := f.data ++ t }), 0) := by
    unfold appendR
    rw [if_neg (by rw [hd]; decide), hg]
    simp only []
    rw [if_neg (by omega)]
  rw [e]
  obtain ⟨A, C, e1, _, _, _, hu⟩ := get_split (s := s.call) (ok_call hs) (n := n) (f := f) hg
  refine ⟨rfl, hc, rfl, ?_⟩
  show used (s.call.upd n (fun f => { f with data := f.data ++ t })).fs = _
  rw [hu]
  have h2 := used_split A C f { f with data := f.data ++ t }
  have h3 : s.fs = A ++ f :: C := e1
  rw [h3]
  simp only [List.length_append] at h2
  omega
theorem sync_calm {s : St} (h : Calm s) {n : List UInt8} {f : F} (hg : s.get n = some f) : (syncR s n).2 = 0 := by
  obtain ⟨hc, hd⟩ := calm_call h
  unfold syncR
  rw [if_neg (by rw [hd]; decide), hg]
theorem blkS_len {m : M3} (hm : m.ok) {l : List ByteArray} (h4 : l.length ≤ 4) (hz : ∀ r ∈ l, (r.size : Int) = m.x.size) : (blkS m.x.size l).size ≤ 300 := by
  have hs : 1 ≤ m.x.size ∧ m.x.size ≤ 64 := by simpa [sizeB] using hm.z
  cases hb : blkB m.x.size l
  · rw [blkS_no hb]; decide
  · rw [blkS_yes hb, cl_size, blk_size]
    have := cat_le (l := l) fun s h => by have := hz s h; omega
    omega
theorem layM_calm {m : M3} {t : ByteArray} (hm : m.ok) (h : Calm m.s) {f : F} (hg : m.s.get m.x.nm.data.toList = some f) (hr : (used m.s.fs : Int) + t.size ≤ m.s.room) :
    (layM m t).2 = 0 ∧ Calm (layM m t).1.s ∧ (layM m t).1.s.room = m.s.room ∧ used (layM m t).1.s.fs = used m.s.fs + t.size := by
  have hl : t.data.toList.length = t.size := Array.length_toList
  obtain ⟨h1, h2, h3, h4⟩ := append_calm hm.s h hg (t := t.data.toList) (by rw [hl]; exact hr)
  have e : layM m t = (⟨(appendR m.s m.x.nm.data.toList t.data.toList).1, m.b, m.x⟩, 0) := by unfold layM; rw [if_pos h1]
  rw [e]
  exact ⟨rfl, h2, h3, by rw [← hl]; exact h4⟩
theorem put_calm {m : M3} {r : ByteArray} {j : Nat} {f : F} (hm : m.ok) (h : Calm m.s) (hL : Laid m j f) (ho : m.x.opn = true) (hz : (r.size : Int) = m.x.size) (hr : (used m.s.fs : Int) + 300 ≤ m.s.room) :
    (putM m r).2 = 0 ∧ Calm (putM m r).1.s ∧ (putM m r).1.s.room = m.s.room ∧ used (putM m r).1.s.fs ≤ used m.s.fs + 300 := by
  unfold putM
  rw [if_neg (by rw [ho]; decide), if_neg (by simpa using hz)]
  split
  · exact ⟨rfl, h, rfl, by show used m.s.fs ≤ _; omega⟩
  · have hall : ∀ q ∈ m.x.wait ++ [r], (q.size : Int) = m.x.size := fun q hq => by
      rcases List.mem_append.1 hq with hq | hq
      · exact hm.wz q hq
      · rw [List.mem_singleton.1 hq]; exact hz
    have hb := blkS_len hm (l := m.x.wait ++ [r]) (by have := hm.wl; simp; omega) hall
    have az : ∀ q ∈ m.x.all ++ [r], (q.size : Int) = m.x.size := fun q hq => by
      rcases List.mem_append.1 hq with hq | hq
      · exact hm.az q hq
      · rw [List.mem_singleton.1 hq]; exact hz
    obtain ⟨h1, h2, h3, h4⟩ := layM_calm (m := ⟨m.s, m.b, (m.x.put r).none⟩) (t := blkS m.x.size (m.x.wait ++ [r])) ⟨hm.s, hm.b, hm.n1, hm.n2, hm.z, Nat.zero_le _, (fun q hq => by cases hq), az⟩ h hL.get (by show (used m.s.fs : Int) + _ ≤ m.s.room; omega)
    exact ⟨h1, h2, h3, by rw [h4]; show used m.s.fs + _ ≤ _; omega⟩
theorem close_calm {m : M3} {j : Nat} {f : F} (hm : m.ok) (h : Calm m.s) (hL : Laid m j f) (ho : m.x.opn = true) (hr : (used m.s.fs : Int) + 600 ≤ m.s.room) : (closeM m).2 = 0 := by
  have hfl : (flushM m).2 = 0 ∧ Calm (flushM m).1.s ∧ (flushM m).1.s.room = m.s.room ∧ used (flushM m).1.s.fs ≤ used m.s.fs + 300 ∧ (flushM m).1.ok := by
    unfold flushM
    split
    · exact ⟨rfl, h, rfl, by show used m.s.fs ≤ _; omega, hm⟩
    · have hb := blkS_len hm (l := m.x.wait) (by have := hm.wl; omega) hm.wz
      obtain ⟨h1, h2, h3, h4⟩ := layM_calm hm h hL.get (t := blkS m.x.size m.x.wait) (by omega)
      exact ⟨h1, h2, h3, by rw [h4]; omega, ok_layM hm _⟩
  obtain ⟨f1, f2, f3, f4, f5⟩ := hfl
  obtain ⟨f', g1, g2, g3, g4⟩ := laid_flush hm hL f1
  have hp : (peS (flushM m).1.x.all.length (sumN (flushM m).1.x.all)).size ≤ 300 := by
    cases hb : peB ((flushM m).1.x.all.length : Int)
    · rw [peS_no hb]; decide
    · rw [peS_yes hb, cl_size, endS_size]; decide
  obtain ⟨e1, e2, e3, e4⟩ := layM_calm f5 f2 (f := f') (by rw [g3]; exact g1) (t := peS (flushM m).1.x.all.length (sumN (flushM m).1.x.all)) (by omega)
  have e1' : (endM (flushM m).1).2 = 0 := e1
  obtain ⟨_, k2⟩ := layM_ok (m := (flushM m).1) e1
  have hnm : (endM (flushM m).1).1.x = m.x := by
    show (layM (flushM m).1 _).1.x = _
    rw [k2, ← g3]
  unfold closeM
  rw [if_neg (by rw [ho]; decide), if_neg (by omega), if_neg (by omega)]
  show (syncR (endM (flushM m).1).1.s (endM (flushM m).1).1.x.nm.data.toList).2 = 0
  rw [hnm]
  have hg : ∃ q, (endM (flushM m).1).1.s.get m.x.nm.data.toList = some q := by
    show ∃ q, (layM (flushM m).1 _).1.s.get _ = some q
    obtain ⟨k1, k2⟩ := layM_ok (m := (flushM m).1) e1
    rw [k2]
    have := append_get (s := (flushM m).1.s) (n := (flushM m).1.x.nm.data.toList) (by rw [g3]; exact g1) k1
    rw [g3] at this ⊢
    exact ⟨_, this⟩
  obtain ⟨q, hq⟩ := hg
  exact sync_calm e2 hq
end WrPlain
end Go.Proofs.YtcpaaenjfljocaaGreat
/- Plain facts for WriterLays: what holds on the way, and behind the close and a rise. -/
namespace Go.Proofs.YtcpaaenjfljocaaGreat
open Go.RowKit FsPlain CrcPlain OctPlain FramePlain RecPlain
set_option linter.unusedVariables false
set_option linter.unusedSimpArgs false
namespace WrPlain
/-- What holds of the writer of the law behind i records. -/
structure LaysOk (m : M3) (nn : Int) (i : Nat) : Prop where
  ok : m.ok
  opn : m.x.opn = true
  nm : m.x.nm = nmA
  size : m.x.size = nn
  all : m.x.all.length ≤ i
  calls : m.s.calls ≤ 10 + (i : Int)
  laid : ∃ j f, Laid m j f
  calm : Calm m.s
  room : m.s.room = 1048576
  used : used m.s.fs ≤ 11 + 300 * i
  b : m.b = ⟨4, 4, 4⟩
theorem new_made : createR (fresh 1048576) nmA.data.toList = (⟨1048576, 1, -1, false, [⟨nmA.data.toList, [], 0⟩]⟩, 0) := by kernel_rfl
theorem lays_new {nn : Int} (h1 : 1 ≤ nn) (h2 : nn ≤ 64) : (createM (fresh 1048576) ⟨4, 0, 0⟩ nmA nn).2.2 = 0 ∧ LaysOk ⟨(createM (fresh 1048576) ⟨4, 0, 0⟩ nmA nn).1, (createM (fresh 1048576) ⟨4, 0, 0⟩ nmA nn).2.1, newWs nmA nn⟩ nn 0 := by
  have hz : sizeB nn = true := by simp [sizeB]; omega
  obtain ⟨s1, hs1⟩ : ∃ s1 : St, s1 = ⟨1048576, 1, -1, false, [⟨nmA.data.toList, [], 0⟩]⟩ := ⟨_, rfl⟩
  have hm : createR (fresh 1048576) nmA.data.toList = (s1, 0) := by rw [hs1]; exact new_made
  have ok1 : s1.ok := by have := ok_createR (fresh_ok (room := 1048576) (by decide) (by decide)) (n := nmA.data.toList) (by decide); rw [hm] at this; exact this
  have hl : (headS nn).data.toList.length = 11 := by rw [show (headS nn).data.toList.length = (headS nn).size from Array.length_toList, headS_size]
  have hu1 : used s1.fs = 0 := by rw [hs1]; rfl
  obtain ⟨a1, a2, a3, a4⟩ := append_calm ok1 (n := nmA.data.toList) (t := (headS nn).data.toList) (f := ⟨nmA.data.toList, [], 0⟩) (by rw [hs1]; exact ⟨rfl, rfl⟩) (by rw [hs1]; rfl) (by rw [hl, hu1, hs1]; decide)
  have hc := append_calls s1 nmA.data.toList (headS nn).data.toList
  have hc1 : s1.calls = 1 := by rw [hs1]
  have e : createM (fresh 1048576) ⟨4, 0, 0⟩ nmA nn = ((appendR s1 nmA.data.toList (headS nn).data.toList).1, ⟨4, 4, 4⟩, 0) := by
    unfold createM
    rw [if_neg (by rw [hz]; decide), if_neg (by decide), hm, if_neg (by simp)]
    simp only []
    rw [if_neg (by rw [a1]; decide)]
    rfl
  have h0 : (createM (fresh 1048576) ⟨4, 0, 0⟩ nmA nn).2.2 = 0 := by rw [e]
  refine ⟨h0, createM_ok (fresh_ok (by decide) (by decide)) ⟨by decide, by decide, by decide, by decide⟩ nmA_size nmA_right h0, rfl, rfl, rfl, Nat.le_refl _, ?_, ?_, ?_, ?_, ?_, ?_⟩
  · rw [e]; show (appendR s1 _ _).1.calls ≤ _; omega
  · obtain ⟨f, hf⟩ := laid_new h0; exact ⟨0, f, hf⟩
  · rw [e]; exact a2
  · rw [e]; show (appendR s1 _ _).1.room = _; rw [a3, hs1]
  · rw [e]; show FsPlain.used (appendR s1 _ _).1.fs ≤ _; rw [a4, hl, hu1]; omega
  · rw [e]
theorem put_b {m : M3} {r : ByteArray} (h0 : (putM m r).2 = 0) : (putM m r).1.b = m.b := by
  unfold putM at h0 ⊢
  split
  · rfl
  · rename_i h1
    rw [if_neg h1] at h0
    split
    · rfl
    · rename_i h2
      rw [if_neg h2] at h0
      split
      · rfl
      · rename_i h3
        rw [if_neg h3] at h0
        rw [(layM_ok h0).2]
theorem lays_put {m : M3} {nn : Int} {i : Nat} {r : ByteArray} (h : LaysOk m nn i) (hi : i < 30) (hz : (r.size : Int) = nn) : (putM m r).2 = 0 ∧ LaysOk (putM m r).1 nn (i + 1) ∧ (putM m r).1.x.all = m.x.all ++ [r] := by
  obtain ⟨j, f, hL⟩ := h.laid
  have hu := h.used
  have hz' : (r.size : Int) = m.x.size := by rw [h.size]; exact hz
  obtain ⟨p1, p2, p3, p4⟩ := put_calm h.ok h.calm hL h.opn hz' (by rw [h.room]; omega)
  obtain ⟨j2, f2, l1, l2, l3⟩ := laid_put h.ok hL h.opn hz' p1
  have hn := putM_nm m r
  refine ⟨p1, ⟨ok_putM h.ok r, l3, hn.1.trans h.nm, hn.2.trans h.size, ?_, ?_, ⟨j2, f2, l1⟩, p2, p3.trans h.room, Nat.le_trans p4 (Nat.le_trans (Nat.add_le_add_right hu 300) (by omega)), (put_b p1).trans h.b⟩, l2⟩
  · rw [l2, List.length_append]; have := h.all; simp; omega
  · have := putM_calls m r; have := h.calls; omega
theorem lays_bad {m : M3} {nn : Int} {i : Nat} {r : ByteArray} (h : LaysOk m nn i) (hz : ¬ (r.size : Int) = nn) : putM m r = (m, 1) := by
  unfold putM; rw [if_neg (by rw [h.opn]; decide), if_pos (by rw [h.size]; exact hz)]
theorem LaysOk.le {m : M3} {nn : Int} {i k : Nat} (h : LaysOk m nn i) (hk : i ≤ k) : LaysOk m nn k :=
  ⟨h.ok, h.opn, h.nm, h.size, Nat.le_trans h.all hk, by have := h.calls; omega, h.laid, h.calm, h.room, Nat.le_trans h.used (by omega), h.b⟩
theorem get_map (s : St) (m n : List UInt8) (g : F → F) (hg : ∀ f, (g f).name = f.name) : (s.upd m g).get n = (s.get n).map fun f => if f.name = m then g f else f := by
  unfold St.get St.upd
  simp only []
  rw [List.find?_map]
  have e : ((fun f : F => f.name == n) ∘ fun f => if f.name = m then g f else f) = fun f : F => f.name == n := by
    funext f
    simp only [Function.comp]
    split
    · rw [hg]
    · rfl
  rw [e]
theorem fall_kept {f : F} (h : f.kept = f.data.length) : fall f 0 = f := by
  obtain ⟨a, b, c⟩ := f
  simp only at h
  subst h
  simp [fall]
/-- A file that is kept whole stands behind a rise as it was. -/
theorem kept_rise {s : St} {n : List UInt8} {f : F} (h : s.get n = some f) (hk : f.kept = f.data.length) : (riseR s []).get n = some f := by
  have : ∀ j, (riseN s [] j).get n = some f := fun j => by
    induction j with
    | zero => exact h
    | succ j ih =>
      show ((riseN s [] j).upd _ (fun f => fall f (([] : List Int).getD j 0))).get n = some f
      rw [get_map _ _ _ (fun f => fall f (([] : List Int).getD j 0)) (fun _ => rfl), ih]
      simp only [List.getD_nil, Option.map_some, fall_kept hk, ite_self]
  exact this _
theorem kept_told {s : St} {n : List UInt8} {f : F} (h : s.get n = some f) (hk : f.kept = f.data.length) : sizeR (riseR s []) n = ((f.data.length : Int), 0) ∧ readR (riseR s []).call n 0 f.data.length = (f.data, 0) := by
  have h := kept_rise h hk
  have h1 : (riseR s []).call.down = false := rfl
  have h2 : (riseR s []).call.call.down = false := rfl
  constructor
  · unfold sizeR
    rw [if_neg (by rw [h1]; decide), h]
  · unfold readR
    rw [if_neg (by rw [h2]; decide)]
    rw [show (riseR s []).call.get n = (riseR s []).get n from rfl, h]
    simp
/-- What the close comes to. -/
theorem lays_close {m : M3} {nn : Int} {i : Nat} (h : LaysOk m nn i) (hi : i ≤ 30) (h1 : 1 ≤ nn) (h2 : nn ≤ 64) : (closeM m).2 = 0 ∧ layB nn m.x.all = true ∧ (closeM m).1.x.opn = false ∧ (closeM m).1.x.all = m.x.all ∧ (closeM m).1.b = ⟨4, 0, 4⟩ ∧ (closeM m).1.s.calls ≤ 100 ∧
    sizeR (riseR (closeM m).1.s []) nmA.data.toList = (((layR nn m.x.all).size : Int), 0) ∧ readR (riseR (closeM m).1.s []).call nmA.data.toList 0 (layR nn m.x.all).size = ((layR nn m.x.all).data.toList, 0) := by
  obtain ⟨j, f, hL⟩ := h.laid
  have hu := h.used
  have hal := h.all
  have hc := close_calm h.ok h.calm hL h.opn (by rw [h.room]; omega)
  obtain ⟨g, g1, g2, g3, g4, g5, g6⟩ := laid_close h.ok (by omega) hL h.opn hc
  have hB : layB nn m.x.all = true := by
    unfold layB
    rw [show sizeB nn = true by simp [sizeB]; omega]
    simpa [allB, h.size] using h.ok.az
  rw [h.nm] at g1
  rw [h.size] at g2
  have hR : (layR nn m.x.all).data.toList = g.data := by rw [layR_yes hB, g2, bs_data]
  have hS : (layR nn m.x.all).size = g.data.length := by rw [← hR]; exact Array.length_toList.symm
  obtain ⟨k1, k2⟩ := kept_told g1 g3
  refine ⟨hc, hB, g5, g6, by rw [g4, h.b]; rfl, ?_, by rw [hS]; exact k1, by rw [hS, hR]; exact k2⟩
  have := closeM_calls m; have := h.calls; omega
end WrPlain
end Go.Proofs.YtcpaaenjfljocaaGreat
/- What WriterLays walks with: a writer, and the row of what it took. -/
namespace Go.Proofs.YtcpaaenjfljocaaGreat
open Go.RowKit FsPlain CrcPlain OctPlain FramePlain RecPlain WrPlain
set_option linter.unusedVariables false
set_option linter.unusedSimpArgs false
def l4 (sv : Value) (xi p pb : Nat) (L : List ByteArray) (m : M3) : List Asn := [RowA sv L, WrA xi p pb m.x, DiskA p m.s, BuA pb m.b]
theorem frs_l4 (sv : Value) (xi p pb : Nat) (L : List ByteArray) (m : M3) : Frs (l4 sv xi p pb L m) := ⟨fr_row _ _, frs_w3 _ _ _ _⟩
/-- What holds at a round's head. -/
def LAt (w : World) (xi p pb : Nat) (nn : Int) (n : Nat) (sv iv : Value) (wr : World) : Prop :=
  ∃ (i : Nat) (m : M3), i ≤ n ∧ iv = .int .i64 i ∧ LaysOk m nn i ∧ ∃ B, stars (l4 sv xi p pb m.x.all m) wr B ∧ Nx (fun _ => False) w B wr
/-- A closed writer does nothing. -/
theorem w_put_off (x : Nat) (r : ByteArray) (w : World) (c0 : w.cell? ⟨x, 0, none⟩ = some (.pointer none)) :
    Calls Tryz.prog 15 #[.pointer (some ⟨x, 0, none⟩), .string r] w fun e w' => e = .returned (.int .i64 14) ∧ w = w' := by
  have CO := Lib.hid (wopen_no x w c0)
  clear c0
  go_enter Tryz.func15, Tryz.ntmps15
  go_wp2_with fail
  refine CO.out.mono ?_; rintro e w2 ⟨rfl, rfl⟩
  go_wp2_with fail
  go_ret
  exact ⟨rfl, rfl⟩
theorem l_put {w wr : World} {xi p pb : Nat} {sv : Value} {L : List ByteArray} {m : M3} {r : ByteArray} {B : Nat → Prop} (hok : m.ok) (ha : m.x.all.length ≤ 100000) (hc : m.s.calls ≤ 100000000000) (h : stars (l4 sv xi p pb L m) wr B) :
    Calls Tryz.prog 15 #[.pointer (some ⟨xi, 0, none⟩), .string r] wr (Does wr B (stars (l4 sv xi p pb L (putM m r).1)) (.int .i64 (putM m r).2)) :=
  does_suf [RowA sv L] (M := [WrA xi p pb m.x, DiskA p m.s, BuA pb m.b]) (M' := [WrA xi p pb (putM m r).1.x, DiskA p (putM m r).1.s, BuA pb (putM m r).1.b]) ⟨fr_row _ _, trivial⟩ h fun B1 h1 => w_put xi p pb m r hok ha hc wr B1 h1
theorem l_close {w wr : World} {xi p pb : Nat} {sv : Value} {L : List ByteArray} {m : M3} {B : Nat → Prop} (hok : m.ok) (ha : m.x.all.length ≤ 100000) (hc : m.s.calls ≤ 100000000000) (h : stars (l4 sv xi p pb L m) wr B) :
    Calls Tryz.prog 22 #[.pointer (some ⟨xi, 0, none⟩)] wr (Does wr B (stars (l4 sv xi p pb L (closeM m).1)) (closeV m (closeM m).2)) :=
  does_suf [RowA sv L] (M := [WrA xi p pb m.x, DiskA p m.s, BuA pb m.b]) (M' := [WrA xi p pb (closeM m).1.x, DiskA p (closeM m).1.s, BuA pb (closeM m).1.b]) ⟨fr_row _ _, trivial⟩ h fun B1 h1 => w_close xi p pb m hok ha hc wr B1 h1
theorem l_app {w wr w1 w' : World} {xi p pb : Nat} {sv v' : Value} {L : List ByteArray} {m : M3} {r : ByteArray} {B : Nat → Prop} {n : Nat} (h : stars (l4 sv xi p pb L m) wr B) (hn : L.length = n) (g : Gr wr w1) (hown : w'.ownsRow 0 9 1 v' (n + 1) (strs L ++ [.string r])) (hg : w1.grownBy w' sv.ownBlock) (hat : v'.ownBlock = sv.ownBlock ∨ v'.ownBlock = some w1.heap.size) :
    ∃ B', stars (l4 v' xi p pb (L ++ [r]) m) w' B' ∧ Nx B wr B' w' :=
  step_at (Q := RowA v' (L ++ [r])) 0 rfl (frs_l4 _ _ _ _ _ _) h fun B1 h1 => row_app h1 g (by rw [hn]; exact hown) hg hat
theorem lay_room {nn : Int} {L : List ByteArray} (h : layB nn L = true) (hl : L.length ≤ 30) : (layR nn L).size ≤ 1000000000 := by
  have hs := h
  unfold layB at hs
  rw [Bool.and_eq_true] at hs
  have h1 := hs.1
  simp only [sizeB, decide_eq_true_eq] at h1
  obtain ⟨m, rfl⟩ : ∃ m : Nat, nn = m := ⟨nn.toNat, by omega⟩
  rw [layR_yes h, bs_size, layL_length h]
  unfold cnt4
  have hm : L.length * m ≤ 30 * 64 := Nat.mul_le_mul hl (by omega)
  omega
theorem l4_shut {xi p pb : Nat} {sv : Value} {L : List ByteArray} {m : M3} {w : World} {B : Nat → Prop} (ho : m.x.opn = false) (h : stars (l4 sv xi p pb L m) w B) : w.heap[xi]? = some (.cells (wshut m.x.all.length) 67 (0, 0)) := by
  obtain ⟨_, h1, _⟩ := part_at 1 rfl h
  rcases h1 with ⟨h1, _⟩ | ⟨_, h1⟩
  · rw [ho] at h1; cases h1
  · exact h1.1
theorem l4_w3 {xi p pb : Nat} {sv : Value} {L : List ByteArray} {m : M3} {w : World} {B : Nat → Prop} (h : stars (l4 sv xi p pb L m) w B) : ∃ B', W3 xi p pb m w B' := by
  obtain ⟨_, B2, _, h2, _⟩ := stars_app (L := [RowA sv L]).1 h
  exact ⟨B2, h2⟩
theorem l4_disk {f : FuncId} {args : Array Value} {v : Value} {xi p pb : Nat} {sv : Value} {L : List ByteArray} {m : M3} {s' : St} {w : World} {B : Nat → Prop} (h : stars (l4 sv xi p pb L m) w B) (k : ∀ B, DiskA p m.s w B → Calls Tryz.prog f args w (Does w B (DiskA p s') v)) :
    Calls Tryz.prog f args w (Does w B (stars (l4 sv xi p pb L ⟨s', m.b, m.x⟩)) v) := by
  have := does_at (Q := DiskA p s') (L := l4 sv xi p pb L m) 2 rfl (frs_l4 _ _ _ _ _ _) h k
  exact this
end Go.Proofs.YtcpaaenjfljocaaGreat

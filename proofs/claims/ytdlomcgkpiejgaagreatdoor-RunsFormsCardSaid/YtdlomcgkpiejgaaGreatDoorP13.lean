/- In one text: RdPlain, RdRead, Stands. -/
import Derived.Test.YtdlomcgkpiejgaaGreatDoorP00
import Derived.Test.YtdlomcgkpiejgaaGreatDoorP12
import Derived.Test.YtdlomcgkpiejgaaGreatDoorP08
import Derived.Test.YtdlomcgkpiejgaaGreatDoorP10
/- Plain facts on a reader of records, without the model: what each call makes of the disk, the budget and the reader. -/
namespace Go.Proofs.YtdlomcgkpiejgaaGreatDoor
open Go.RowKit FsPlain CrcPlain OctPlain FramePlain RecPlain
set_option linter.unusedVariables false
set_option linter.unusedSimpArgs false
set_option maxRecDepth 20000
namespace RdPlain
/-- A reader: its file's name, its records' size, where it is, how many bytes are left, those that wait, all that were read, how many were told; whether it is open, went wrong, came to the end, had a short block; its end. -/
structure Rs where
  nm : ByteArray
  size : Int
  pos : Nat
  left : Nat
  queue : List ByteArray
  all : List ByteArray
  told : Nat
  opn : Bool
  bad : Bool
  whole : Bool
  short : Bool
  ec : Int
  em : Int
/-- A disk, a budget, a reader. -/
structure N3 where
  s : St
  b : Bu
  x : Rs
def shutN (m : N3) : N3 := if m.x.opn = true then ⟨m.s, m.b.give 4, { m.x with opn := false }⟩ else m
def N3.isBad (m : N3) : N3 := ⟨m.s, m.b, { m.x with bad := true }⟩
def wrongN (m : N3) : N3 := shutN m.isBad
def closeN (m : N3) : N3 := if m.x.opn = true then wrongN m else m
/-- How many bytes are read next. -/
def askN (x : Rs) : Nat := min x.left (max 17 (roomN x.size).toNat)
def bytesN (m : N3) : ByteArray := bs (readR m.s m.x.nm.data.toList m.x.pos (askN m.x)).1
def errN (m : N3) : Int := (readR m.s m.x.nm.data.toList m.x.pos (askN m.x)).2
/-- The disk was asked. -/
def N3.asked (m : N3) : N3 := ⟨m.s.call, m.b, m.x⟩
/-- The end was read. -/
def N3.ended (m : N3) (t : ByteArray) : N3 := ⟨m.s, m.b, { m.x with whole := true, ec := eC t, em := eM t }⟩
/-- A block was read. -/
def N3.filled (m : N3) (t : ByteArray) : N3 := ⟨m.s, m.b, { m.x with short := decide ((gL m.x.size t).length < 4), queue := gL m.x.size t, all := m.x.all ++ gL m.x.size t, pos := m.x.pos + (gN m.x.size t).toNat, left := m.x.left - (gN m.x.size t).toNat }⟩
/-- The first of those that wait is told. -/
def N3.popped (m : N3) : N3 := ⟨m.s, m.b, { m.x with queue := m.x.queue.tail, told := m.x.told + 1 }⟩
/-- These bytes are the end of all that was read. -/
def isEnd (x : Rs) (t : ByteArray) : Prop := gB x.size t = false ∧ eB t = true ∧ t.size = x.left ∧ eC t = (x.all.length : Int) ∧ eM t = (sumN x.all : Nat)
instance (x : Rs) (t : ByteArray) : Decidable (isEnd x t) := by unfold isEnd; infer_instance
/-- What Next answers: a record, whether there is one, an error. -/
abbrev Ans := ByteArray × Bool × Int
def noneA (e : Int) : Ans := (⟨#[]⟩, false, e)
def popN (m : N3) : N3 × Ans := (m.popped, (m.x.queue.headD ⟨#[]⟩, true, 0))
def fillN (m : N3) : N3 × Ans :=
  if ¬ errN m = 0 then (wrongN m.asked, noneA (errN m))
  else if isEnd m.x (bytesN m) then (shutN (m.asked.ended (bytesN m)), noneA 0)
  else if gB m.x.size (bytesN m) = false ∨ m.x.short = true then (wrongN m.asked, noneA 6)
  else popN (m.asked.filled (bytesN m))
def nextN (m : N3) : N3 × Ans :=
  if m.x.opn = false then (m, noneA (if m.x.bad = true then 14 else 0))
  else if m.x.queue = [] then fillN m
  else popN m
def newRs (nm : ByteArray) (size : Int) (left : Nat) : Rs := ⟨nm, size, 11, left, [], [], 0, true, false, false, false, 0, 0⟩
/-- What Open leaves of the disk and the budget, its error, and how many bytes are left. -/
def openN (s : St) (b : Bu) (nm : ByteArray) (size : Int) : St × Bu × Int × Nat :=
  if sizeB size = false then (s, b, 1, 0)
  else if ¬ b.takeE 4 = 0 then (s, b.take 4, b.takeE 4, 0)
  else if ¬ (sizeR s nm.data.toList).2 = 0 then (s.call, (b.take 4).give 4, (sizeR s nm.data.toList).2, 0)
  else if (sizeR s nm.data.toList).1 < 11 then (s.call, (b.take 4).give 4, 6, 0)
  else if ¬ (readR s.call nm.data.toList 0 11).2 = 0 then (s.call.call, (b.take 4).give 4, (readR s.call nm.data.toList 0 11).2, 0)
  else if ¬ (ghB (bs (readR s.call nm.data.toList 0 11).1) = true ∧ ghN (bs (readR s.call nm.data.toList 0 11).1) = size) then (s.call.call, (b.take 4).give 4, 6, 0)
  else (s.call.call, b.take 4, 0, (sizeR s nm.data.toList).1.toNat - 11)
/-- What holds of a reader on the way. -/
structure N3.ok (m : N3) : Prop where
  s : m.s.ok
  b : m.b.ok
  n1 : m.x.nm.size ≤ 24
  n2 : rightB m.x.nm.data.toList = true
  z : sizeB m.x.size = true
  az : ∀ r ∈ m.x.all, r.size ≤ 1000
  fit : m.x.pos + m.x.left ≤ 16777216
  cnt : m.x.all.length = m.x.told + m.x.queue.length
  ql : m.x.queue.length ≤ 4
theorem ok_shutN {m : N3} (h : m.ok) : (shutN m).ok := by
  unfold shutN
  split
  · exact ⟨h.s, Bu.give_ok h.b 4, h.n1, h.n2, h.z, h.az, h.fit, h.cnt, h.ql⟩
  · exact h
theorem ok_isBad {m : N3} (h : m.ok) : m.isBad.ok := ⟨h.s, h.b, h.n1, h.n2, h.z, h.az, h.fit, h.cnt, h.ql⟩
theorem ok_wrongN {m : N3} (h : m.ok) : (wrongN m).ok := ok_shutN (ok_isBad h)
theorem ok_asked {m : N3} (h : m.ok) : m.asked.ok := ⟨ok_call h.s, h.b, h.n1, h.n2, h.z, h.az, h.fit, h.cnt, h.ql⟩
theorem ok_ended {m : N3} (h : m.ok) (t : ByteArray) : (m.ended t).ok := ⟨h.s, h.b, h.n1, h.n2, h.z, h.az, h.fit, h.cnt, h.ql⟩
theorem ok_popped {m : N3} (h : m.ok) (hq : m.x.queue ≠ []) : m.popped.ok := by
  obtain ⟨r, q, hr⟩ := List.exists_cons_of_ne_nil hq
  have h1 := h.cnt
  have h2 := h.ql
  refine ⟨h.s, h.b, h.n1, h.n2, h.z, h.az, h.fit, ?_, ?_⟩
  · show m.x.all.length = m.x.told + 1 + m.x.queue.tail.length; rw [hr] at h1 ⊢; simp at h1 ⊢; omega
  · show m.x.queue.tail.length ≤ 4; rw [hr] at h2 ⊢; simp at h2 ⊢; omega
theorem ok_closeN {m : N3} (h : m.ok) : (closeN m).ok := by
  unfold closeN; split
  · exact ok_wrongN h
  · exact h
/-- What was read is as long as was asked. -/
theorem bytesN_size {m : N3} (h : errN m = 0) : (bytesN m).size = askN m.x := by
  unfold errN at h
  unfold bytesN
  rw [bs_size]
  unfold readR at h ⊢
  split at h
  · simp at h
  · rename_i h1
    rw [if_neg h1]
    split at h
    · simp at h
    · rename_i f hf
      split at h
      · simp at h
      · rename_i h2
        rw [if_neg h2]
        simp
        omega
theorem gL_size {size : Int} {t : ByteArray} (h : gB size t = true) : 1 ≤ (gL size t).length ∧ (gL size t).length ≤ 4 ∧ ∀ r ∈ gL size t, (r.size : Int) = size := by
  obtain ⟨h1, _⟩ := get_is h
  unfold blkB at h1
  simp only [Bool.and_eq_true, decide_eq_true_eq] at h1
  exact ⟨h1.1.2.1, h1.1.2.2, allB_iff.1 h1.2⟩
theorem ok_filled {m : N3} (h : m.ok) {t : ByteArray} (hb : gB m.x.size t = true) (ht : t.size ≤ m.x.left) (hq : m.x.queue = []) : (m.filled t).ok ∧ (m.filled t).x.queue ≠ [] := by
  obtain ⟨h1, h2, h3⟩ := gL_size hb
  obtain ⟨_, n, hn, hn2, _⟩ := get_is hb
  have hz : 1 ≤ m.x.size ∧ m.x.size ≤ 64 := by simpa [sizeB] using h.z
  have hf := h.fit
  have hc := h.cnt
  refine ⟨⟨h.s, h.b, h.n1, h.n2, h.z, ?_, ?_, ?_, h2⟩, fun e => ?_⟩
  · intro r hr
    rcases List.mem_append.1 hr with hr | hr
    · exact h.az r hr
    · have := h3 r hr; omega
  · show m.x.pos + (gN m.x.size t).toNat + (m.x.left - (gN m.x.size t).toNat) ≤ _
    rw [hn]; simp only [Int.toNat_natCast]; omega
  · show (m.x.all ++ gL m.x.size t).length = m.x.told + (gL m.x.size t).length
    rw [List.length_append, hc, hq]; simp
  · have e2 : gL m.x.size t = [] := e
    rw [e2] at h1; simp at h1
theorem ask_left (x : Rs) : askN x ≤ x.left := Nat.min_le_left _ _
theorem ok_fillN {m : N3} (h : m.ok) (hq : m.x.queue = []) : (fillN m).1.ok := by
  unfold fillN
  split
  · exact ok_wrongN (ok_asked h)
  · rename_i h0
    have hs := bytesN_size (m := m) (by simpa using h0)
    split
    · exact ok_shutN (ok_ended (ok_asked h) _)
    · split
      · exact ok_wrongN (ok_asked h)
      · rename_i h2
        have hb : gB m.x.size (bytesN m) = true := by
          cases hb : gB m.x.size (bytesN m)
          · exact absurd (.inl hb) h2
          · rfl
        obtain ⟨k1, k2⟩ := ok_filled (m := m.asked) (ok_asked h) hb (by rw [hs]; exact ask_left _) hq
        exact ok_popped k1 k2
theorem ok_nextN {m : N3} (h : m.ok) : (nextN m).1.ok := by
  unfold nextN
  split
  · exact h
  · split
    · rename_i hq; exact ok_fillN h hq
    · rename_i hq; exact ok_popped h hq
theorem shutN_calls (m : N3) : (shutN m).s.calls = m.s.calls ∧ (shutN m).x.told = m.x.told := by unfold shutN; split <;> exact ⟨rfl, rfl⟩
theorem nextN_calls (m : N3) : m.s.calls ≤ (nextN m).1.s.calls ∧ (nextN m).1.s.calls ≤ m.s.calls + 1 ∧ (nextN m).1.x.told ≤ m.x.told + 1 := by
  have h1 : (wrongN m.asked).s.calls = m.s.calls + 1 ∧ (wrongN m.asked).x.told = m.x.told := shutN_calls _
  unfold nextN
  split
  · simp only []; omega
  · split
    · unfold fillN
      split
      · simp only []; omega
      · split
        · have h2 : (shutN (m.asked.ended (bytesN m))).s.calls = m.s.calls + 1 ∧ (shutN (m.asked.ended (bytesN m))).x.told = m.x.told := shutN_calls _
          simp only []; omega
        · split
          · simp only []; omega
          · show m.s.calls ≤ m.s.calls + 1 ∧ m.s.calls + 1 ≤ m.s.calls + 1 ∧ m.x.told + 1 ≤ m.x.told + 1; omega
    · show m.s.calls ≤ m.s.calls ∧ m.s.calls ≤ m.s.calls + 1 ∧ m.x.told + 1 ≤ m.x.told + 1; omega
theorem closeN_calls (m : N3) : (closeN m).s.calls = m.s.calls ∧ (closeN m).x.told = m.x.told := by
  unfold closeN; split
  · exact shutN_calls _
  · exact ⟨rfl, rfl⟩
theorem openN_calls (s : St) (b : Bu) (nm : ByteArray) (size : Int) : s.calls ≤ (openN s b nm size).1.calls ∧ (openN s b nm size).1.calls ≤ s.calls + 2 := by
  have h1 : s.call.calls = s.calls + 1 := rfl
  have h2 : s.call.call.calls = s.calls + 2 := by show s.calls + 1 + 1 = _; omega
  unfold openN
  repeat' split
  all_goals simp only []; omega
theorem sizeR_le {s : St} (hs : s.ok) (n : List UInt8) : (sizeR s n).1 ≤ 16777216 := by
  unfold sizeR
  split
  · simp
  · split
    · simp
    · rename_i f hf
      have h1 := used_le (get_mem hf)
      have h2 := hs.u
      have h3 := hs.r1
      simp only []; omega
/-- What holds if a reader is made. -/
theorem openN_yes {s : St} {b : Bu} {nm : ByteArray} {size : Int} (h0 : (openN s b nm size).2.2.1 = 0) : sizeB size = true ∧ b.takeE 4 = 0 ∧ (sizeR s nm.data.toList).2 = 0 ∧ 11 ≤ (sizeR s nm.data.toList).1 ∧ (readR s.call nm.data.toList 0 11).2 = 0 ∧ ghB (bs (readR s.call nm.data.toList 0 11).1) = true ∧ ghN (bs (readR s.call nm.data.toList 0 11).1) = size ∧ openN s b nm size = (s.call.call, b.take 4, 0, (sizeR s nm.data.toList).1.toNat - 11) := by
  unfold openN at h0 ⊢
  split at h0
  · simp at h0
  · rename_i h1
    rw [if_neg h1]
    split at h0
    · rename_i h2; exact absurd h0 h2
    · rename_i h2
      rw [if_neg h2]
      split at h0
      · rename_i h3; exact absurd h0 h3
      · rename_i h3
        rw [if_neg h3]
        split at h0
        · simp at h0
        · rename_i h4
          rw [if_neg h4]
          split at h0
          · rename_i h5; exact absurd h0 h5
          · rename_i h5
            rw [if_neg h5]
            split at h0
            · simp at h0
            · rename_i h6
              rw [if_neg h6]
              have h6' := Decidable.not_not.1 h6
              exact ⟨by simpa using h1, Decidable.not_not.1 h2, Decidable.not_not.1 h3, by omega, Decidable.not_not.1 h5, h6'.1, h6'.2, rfl⟩
/-- What is made. -/
theorem openN_ok {s : St} {b : Bu} {nm : ByteArray} {size : Int} (hs : s.ok) (hb : b.ok) (hn : nm.size ≤ 24) (hm : rightB nm.data.toList = true) (h0 : (openN s b nm size).2.2.1 = 0) : (N3.mk (openN s b nm size).1 (openN s b nm size).2.1 (newRs nm size (openN s b nm size).2.2.2)).ok := by
  obtain ⟨h1, h2, h3, h4, h5, h6, h7, e⟩ := openN_yes h0
  have hl := sizeR_le hs nm.data.toList
  rw [e]
  refine ⟨ok_call (ok_call hs), Bu.take_ok hb 4, hn, hm, h1, (fun r hr => by cases hr), ?_, rfl, Nat.zero_le _⟩
  show 11 + ((sizeR s nm.data.toList).1.toNat - 11) ≤ 16777216
  omega
end RdPlain
end Go.Proofs.YtdlomcgkpiejgaaGreatDoor
/- Plain facts: what a reader reads of a file, where no call fails. -/
namespace Go.Proofs.YtdlomcgkpiejgaaGreatDoor
open Go.RowKit FsPlain CrcPlain OctPlain FramePlain RecPlain
set_option linter.unusedVariables false
set_option linter.unusedSimpArgs false
set_option maxRecDepth 20000
namespace RdPlain
theorem get_of {size : Int} {s : ByteArray} {l : List ByteArray} {more : List UInt8} (hb : blkB size l = true) (h : s.data.toList = (cl (blk l)).data.toList ++ more) : gB size s = true ∧ gL size s = l ∧ gN size s = (cl (blk l)).size := by
  have e : s = cl (blk l) ++ bs more := ext_toList (by rw [app_data, bs_data, h])
  rw [e]
  obtain ⟨h1, h2, h3⟩ := get_put hb (bs more)
  exact ⟨h1, h3, h2⟩
theorem get_head {size : Int} {s : ByteArray} (h : gB size s = true) : ∃ more, s.data.toList = (cl (blk (gL size s))).data.toList ++ more ∧ blkB size (gL size s) = true ∧ gN size s = (cl (blk (gL size s))).size := by
  obtain ⟨n, h1, h2, h3, h4⟩ := RecPlain.get_split h
  obtain ⟨hb, _⟩ := get_is h
  exact ⟨_, h4, hb, (get_of hb h4).2.2⟩
theorem blk_room {size : Int} {l : List ByteArray} (h : blkB size l = true) : (((cl (blk l)).size : Nat) : Int) ≤ roomN size := by
  obtain ⟨h1, ⟨h2, h3⟩, h4⟩ := blk_parts h
  obtain ⟨n, e1, _, _, e2, _⟩ := blk_cl h
  have hs : 1 ≤ size ∧ size ≤ 64 := by simpa [sizeB] using h1
  have hr : roomN size = 5 + 4 * size := by unfold roomN; rw [if_pos h1]
  rw [e1, hr, ← e2]
  have : (l.length : Int) * size ≤ 4 * size := Int.mul_le_mul_of_nonneg_right (by omega) (by omega)
  omega
/-- The first bytes tell of a block what all do, if they are enough. -/
theorem take_get {size : Int} {t r : ByteArray} {k : Nat} (hk : roomN size ≤ (k : Int)) (ht : t.data.toList = r.data.toList.take k) : gB size t = gB size r ∧ gL size t = gL size r ∧ gN size t = gN size r := by
  cases hg : gB size r
  · cases hg2 : gB size t
    · rw [gL_no hg, gL_no hg2, gN_no hg, gN_no hg2]; exact ⟨rfl, rfl, rfl⟩
    · obtain ⟨m1, e1, hb, _⟩ := get_head hg2
      have e : r.data.toList = (cl (blk (gL size t))).data.toList ++ (m1 ++ r.data.toList.drop k) := by
        conv => lhs; rw [← List.take_append_drop k r.data.toList]
        rw [← ht, e1, List.append_assoc]
      have := (get_of hb e).1
      rw [hg] at this; cases this
  · obtain ⟨m2, e2, hb, hn⟩ := get_head hg
    have hl := blk_room hb
    have hlen : (cl (blk (gL size r))).data.toList.length ≤ k := by rw [show (cl (blk (gL size r))).data.toList.length = (cl (blk (gL size r))).size from Array.length_toList]; omega
    have e : t.data.toList = (cl (blk (gL size r))).data.toList ++ m2.take (k - (cl (blk (gL size r))).data.toList.length) := by
      rw [ht, e2, List.take_append, List.take_of_length_le hlen]
    obtain ⟨a1, a2, a3⟩ := get_of hb e
    exact ⟨a1, a2, a3.trans hn.symm⟩
/-- What a reader knows of a file's bytes: the blocks that were read, and what is left. -/
structure At (m : N3) (D : ByteArray) (ps : List (List ByteArray)) (r : ByteArray) : Prop where
  get : ∃ f, m.s.get m.x.nm.data.toList = some f ∧ f.data = D.data.toList
  down : m.s.down = false
  ahead : m.s.ahead = -1
  sz : sizeB m.x.size = true
  all : D.data.toList = (headS m.x.size).data.toList ++ (blks ps ++ r.data.toList)
  pos : m.x.pos = 11 + (blks ps).length
  left : m.x.left = r.size
  bls : ∀ p ∈ ps, blkB m.x.size p = true
  full : Full ps
  short : m.x.short = true → ∃ p, ps.getLast? = some p ∧ p.length < 4
  long : m.x.short = false → ∀ p ∈ ps, p.length = 4
  flat : m.x.all = ps.flatten
theorem headS_len (size : Int) : (headS size).data.toList.length = 11 := by rw [show (headS size).data.toList.length = (headS size).size from Array.length_toList, headS_size]
theorem At.read {m : N3} {D : ByteArray} {ps : List (List ByteArray)} {r : ByteArray} (h : At m D ps r) : errN m = 0 ∧ (bytesN m).data.toList = r.data.toList.take (askN m.x) := by
  obtain ⟨f, hf, hd⟩ := h.get
  have hc : m.s.call.down = false := by unfold St.call; simp [h.down, h.ahead]
  have hlen : f.data.length = m.x.pos + m.x.left := by
    rw [hd, h.all, h.pos, h.left, List.length_append, List.length_append, headS_len, show r.data.toList.length = r.size from Array.length_toList]; omega
  have ha := ask_left m.x
  unfold errN bytesN
  unfold readR
  rw [if_neg (by rw [hc]; decide), hf]
  simp only []
  rw [if_neg (by omega)]
  refine ⟨rfl, ?_⟩
  rw [bs_data, hd, h.all, h.pos, List.drop_append, List.drop_of_length_le (by rw [headS_len]; omega), List.nil_append, headS_len]
  rw [show 11 + (blks ps).length - 11 = (blks ps).length by omega, List.drop_left]
theorem At.popped {m : N3} {D : ByteArray} {ps : List (List ByteArray)} {r : ByteArray} (h : At m D ps r) : At m.popped D ps r := ⟨h.get, h.down, h.ahead, h.sz, h.all, h.pos, h.left, h.bls, h.full, h.short, h.long, h.flat⟩
theorem At.ask {m : N3} {D : ByteArray} {ps : List (List ByteArray)} {r : ByteArray} (h : At m D ps r) : askN m.x = r.size ∨ roomN m.x.size ≤ (askN m.x : Nat) ∧ 17 ≤ askN m.x := by
  have hs : 1 ≤ m.x.size ∧ m.x.size ≤ 64 := by simpa [sizeB] using h.sz
  have hr : roomN m.x.size = 5 + 4 * m.x.size := by unfold roomN; rw [if_pos h.sz]
  have hl := h.left
  unfold askN
  rw [hr]
  omega
/-- What Get tells of what was read is what it tells of all that is left. -/
theorem At.got {m : N3} {D : ByteArray} {ps : List (List ByteArray)} {r : ByteArray} (h : At m D ps r) : gB m.x.size (bytesN m) = gB m.x.size r ∧ gL m.x.size (bytesN m) = gL m.x.size r ∧ gN m.x.size (bytesN m) = gN m.x.size r := by
  obtain ⟨_, hb⟩ := h.read
  rcases h.ask with ha | ha
  · have : bytesN m = r := ext_toList (by rw [hb, ha, List.take_of_length_le (by rw [data_length]; omega)])
    rw [this]; exact ⟨rfl, rfl, rfl⟩
  · exact take_get ha.1 hb
/-- It is the end of all just if the end of all is left. -/
theorem At.ends {m : N3} {D : ByteArray} {ps : List (List ByteArray)} {r : ByteArray} (h : At m D ps r) (hl : m.x.all.length ≤ 1000000) : isEnd m.x (bytesN m) ↔ tailB m.x.all r = true := by
  obtain ⟨_, hb⟩ := h.read
  have hg := h.got.1
  have hlen : (bytesN m).size = min (askN m.x) r.size := by rw [← data_length, hb, List.length_take, data_length]
  have hle : askN m.x ≤ r.size := by have := ask_left m.x; rw [h.left] at this; exact this
  constructor
  · rintro ⟨h1, h2, h3, h4, h5⟩
    have : bytesN m = r := ext_toList (by rw [hb, List.take_of_length_le (by rw [data_length]; have := h.left; omega)])
    rw [this] at h2 h4 h5
    unfold tailB
    simp [h2, h4, h5]
  · intro ht
    have he := (tail_iff hl r).1 ht
    have h17 : r.size = 17 := by rw [← data_length, he, endL_length]
    have hask : askN m.x = r.size := by
      rcases h.ask with ha | ha
      · exact ha
      · omega
    have hr : bytesN m = r := ext_toList (by rw [hb, hask, List.take_of_length_le (by rw [data_length]; omega)])
    have ht2 := ht
    unfold tailB at ht2
    simp only [Bool.and_eq_true, decide_eq_true_eq] at ht2
    obtain ⟨⟨e1, e2⟩, e3⟩ := ht2
    have hc : cntN r = 0 := by
      unfold eB at e1
      simp only [Bool.and_eq_true, decide_eq_true_eq] at e1
      exact e1.1.1.2
    have hgb : gB m.x.size r = false := by
      unfold gB
      rw [hc]; simp
    exact ⟨by rw [hr]; exact hgb, by rw [hr]; exact e1, by rw [hr, h.left], by rw [hr]; exact e2, by rw [hr]; exact e3⟩
theorem At.file {m : N3} {D : ByteArray} {ps : List (List ByteArray)} {r : ByteArray} (h : At m D ps r) (hl : m.x.all.length ≤ 1000000) (ht : tailB m.x.all r = true) : IsFile m.x.size D m.x.all := by
  rw [h.flat] at hl ht ⊢
  exact file_of h.sz h.bls h.full h.all hl ht
/-- Where no block is left, or one behind a short one, and no end of all, there is no file. -/
theorem At.none {m : N3} {D : ByteArray} {ps : List (List ByteArray)} {r : ByteArray} (h : At m D ps r) (hl : m.x.all.length ≤ 1000000) (hs : gB m.x.size r = false ∨ m.x.short = true) (ht : ¬ tailB m.x.all r = true) (L : List ByteArray) : ¬ IsFile m.x.size D L := by
  intro hi
  have hstop : gB m.x.size r = false ∨ ∃ p, ps.getLast? = some p ∧ p.length < 4 := hs.imp id h.short
  obtain ⟨e1, e2⟩ := file_not h.bls h.all hstop hi
  refine ht ((tail_iff hl r).2 ?_)
  rw [h.flat, e1]; exact e2
/-- Behind a block. -/
theorem At.block {m : N3} {D : ByteArray} {ps : List (List ByteArray)} {r : ByteArray} (h : At m D ps r) (hg : gB m.x.size r = true) (hsh : m.x.short = false) : ∃ r', At (m.asked.filled (bytesN m)) D (ps ++ [gL m.x.size r]) r' := by
  obtain ⟨g1, g2, g3⟩ := h.got
  obtain ⟨more, e1, hb, hn⟩ := get_head hg
  have hlong := h.long hsh
  have hc : m.s.call.down = false := by unfold St.call; simp [h.down, h.ahead]
  have hca : m.s.call.ahead = -1 := by show max (m.s.ahead - 1) (-1) = -1; rw [h.ahead]; decide
  have hk : blks (ps ++ [gL m.x.size r]) = blks ps ++ (cl (blk (gL m.x.size r))).data.toList := by rw [blks_app]; simp [blks]
  have hsz : (gN m.x.size r).toNat = (cl (blk (gL m.x.size r))).size := by rw [hn]; rfl
  have hp := blk_parts hb
  refine ⟨bs more, h.get, hc, hca, h.sz, ?_, ?_, ?_, ?_, ?_, ?_, ?_, ?_⟩
  · rw [h.all, hk, e1, bs_data]; simp only [List.append_assoc]; rfl
  · show m.x.pos + (gN m.x.size (bytesN m)).toNat = _
    rw [g3, hsz, hk, List.length_append, h.pos, data_length]; omega
  · show m.x.left - (gN m.x.size (bytesN m)).toNat = _
    have : r.size = (cl (blk (gL m.x.size r))).size + more.length := by rw [← data_length, e1, List.length_append, data_length]
    rw [g3, hsz, h.left, bs_size]; omega
  · intro p hpm
    rcases List.mem_append.1 hpm with hpm | hpm
    · exact h.bls p hpm
    · rw [List.mem_singleton.1 hpm]; exact hb
  · intro j p hj hj2
    rw [List.length_append, List.length_singleton] at hj2
    rw [List.getElem?_append_left (by omega)] at hj
    exact hlong p (List.mem_of_getElem? hj)
  · intro hs
    have hs' : decide ((gL m.x.size (bytesN m)).length < 4) = true := hs
    rw [g2, decide_eq_true_iff] at hs'
    exact ⟨_, by simp, hs'⟩
  · intro hs p hpm
    have hs' : decide ((gL m.x.size (bytesN m)).length < 4) = false := hs
    rw [g2, decide_eq_false_iff_not] at hs'
    rcases List.mem_append.1 hpm with hpm | hpm
    · exact hlong p hpm
    · rw [List.mem_singleton.1 hpm]; have := hp.2.1; omega
  · show m.x.all ++ gL m.x.size (bytesN m) = _
    rw [g2, h.flat]; simp
end RdPlain
end Go.Proofs.YtdlomcgkpiejgaaGreatDoor
/- A disk that does not fail, with a file of these bytes: what its calls answer. -/
namespace Go.Proofs.YtdlomcgkpiejgaaGreatDoor
set_option linter.unusedVariables false
namespace FsPlain
/-- A disk that does not fail, with a file of these bytes. -/
structure Stands (s : St) (n : List UInt8) (D : ByteArray) : Prop where
  get : ∃ f, s.get n = some f ∧ f.data = D.data.toList
  down : s.down = false
  ahead : s.ahead = -1
theorem Stands.call {s : St} {n : List UInt8} {D : ByteArray} (h : Stands s n D) : Stands s.call n D ∧ s.call.down = false := by
  have hc : s.call.down = false := by unfold St.call; simp [h.down, h.ahead]
  exact ⟨⟨h.get, hc, by show max (s.ahead - 1) (-1) = -1; rw [h.ahead]; decide⟩, hc⟩
theorem Stands.size {s : St} {n : List UInt8} {D : ByteArray} (h : Stands s n D) : sizeR s n = ((D.size : Int), 0) := by
  obtain ⟨f, hf, hd⟩ := h.get
  unfold sizeR
  rw [if_neg (by rw [h.call.2]; decide), hf]
  simp only [hd, Array.length_toList]
  rfl
theorem Stands.readAt {s : St} {n : List UInt8} {D : ByteArray} (h : Stands s n D) (i k : Nat) (hk : i + k ≤ D.size) : readR s n i k = ((D.data.toList.drop i).take k, 0) := by
  obtain ⟨f, hf, hd⟩ := h.get
  unfold readR
  rw [if_neg (by rw [h.call.2]; decide), hf]
  simp only [hd]
  rw [if_neg (by rw [Array.length_toList]; show ¬ D.size < _; omega)]
theorem Stands.read {s : St} {n : List UInt8} {D : ByteArray} (h : Stands s n D) (k : Nat) (hk : k ≤ D.size) : readR s n 0 k = (D.data.toList.take k, 0) := by
  rw [h.readAt 0 k (by omega)]
  simp
end FsPlain
end Go.Proofs.YtdlomcgkpiejgaaGreatDoor

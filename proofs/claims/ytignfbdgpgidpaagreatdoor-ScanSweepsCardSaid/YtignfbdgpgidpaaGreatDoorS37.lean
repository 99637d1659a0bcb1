/- In one text: RdPlain, RdRead, Stands, RdRead2, RdInv, RnRead, Que, BudA, Rd1, RecSum, Rd2, Rd3, InfoNe, Rd4, SepMore, Rd5, Rd6, Rd7, Rd8, Rd9, Told, Chunk. -/
import Derived.Test.YtignfbdgpgidpaaGreatDoorS00
import Derived.Test.YtignfbdgpgidpaaGreatDoorS36
import Derived.Test.YtignfbdgpgidpaaGreatDoorS35
import Derived.Test.YtignfbdgpgidpaaGreatDoorS09
import Derived.Test.YtignfbdgpgidpaaGreatDoorS34
import Derived.Test.YtignfbdgpgidpaaGreatDoorS05
import Derived.Test.YtignfbdgpgidpaaGreatDoorS30
import Derived.Deep.RegionHeld3
import Derived.Test.YtignfbdgpgidpaaGreatDoorS17
import Derived.StillTailTactics
import Derived.Test.YtignfbdgpgidpaaGreatDoorS03
import Derived.RangeFuncNested
import Derived.RangeFuncBox
import Derived.RangeFuncBound
import Derived.RangeFuncCalls
import Derived.RangeFuncLeaves
import Derived.Shelf.Abstract
import Derived.Shelf.RegionOpen
import Derived.OwnWalkIn
import Derived.TacticsInMore
import Derived.LoopNIn
import Derived.LoopIn
/- Plain facts on a reader of records, without the model: what each call makes of the disk, the budget and the reader. -/
namespace Go.Proofs.YtignfbdgpgidpaaGreatDoor
open Go.RowKit FsPlain CrcPlain OctPlain FramePlain RecPlain
set_option linter.unusedVariables false
set_option linter.unusedSimpArgs false
set_option maxRecDepth 20000
namespace RdPlain
structure Rs where
  nm : ByteArray
  size : Int
  pos : Nat
  left : Nat
  queue : List ByteArray
  all : List ByteArray
  told : Nat
  opn : Bool
  bad : Bool
  whole : Bool
  short : Bool
  ec : Int
  em : Int
structure N3 where
  s : St
  b : Bu
  x : Rs
def askN (x : Rs) : Nat := min x.left (max 17 (roomN x.size).toNat)
def bytesN (m : N3) : ByteArray := bs (readR m.s m.x.nm.data.toList m.x.pos (askN m.x)).1
def errN (m : N3) : Int := (readR m.s m.x.nm.data.toList m.x.pos (askN m.x)).2
def N3.asked (m : N3) : N3 := ⟨m.s.call, m.b, m.x⟩
def N3.filled (m : N3) (t : ByteArray) : N3 := ⟨m.s, m.b, { m.x with short := decide ((gL m.x.size t).length < 4), queue := gL m.x.size t, all := m.x.all ++ gL m.x.size t, pos := m.x.pos + (gN m.x.size t).toNat, left := m.x.left - (gN m.x.size t).toNat }⟩
def isEnd (x : Rs) (t : ByteArray) : Prop := gB x.size t = false ∧ eB t = true ∧ t.size = x.left ∧ eC t = (x.all.length : Int) ∧ eM t = (sumN x.all : Nat)
instance (x : Rs) (t : ByteArray) : Decidable (isEnd x t) := by unfold isEnd; infer_instance
structure N3.ok (m : N3) : Prop where
  s : m.s.ok
  b : m.b.ok
  n1 : m.x.nm.size ≤ 24
  n2 : rightB m.x.nm.data.toList = true
  z : sizeB m.x.size = true
  az : ∀ r ∈ m.x.all, r.size ≤ 1000
  fit : m.x.pos + m.x.left ≤ 16777216
  cnt : m.x.all.length = m.x.told + m.x.queue.length
  ql : m.x.queue.length ≤ 4
theorem ask_left (x : Rs) : askN x ≤ x.left := Nat.min_le_left _ _
theorem sizeR_le {s : St} (hs : s.ok) (n : List UInt8) : (sizeR s n).1 ≤ 16777216 := by
  unfold sizeR
  split
  · simp
  · split
    · simp
    · rename_i f hf
      have h1 := used_le (get_mem hf)
      have h2 := hs.u
      have h3 := hs.r1
      simp only []; omega
end RdPlain
end Go.Proofs.YtignfbdgpgidpaaGreatDoor
/- Plain facts: what a reader reads of a file, where no call fails. -/
namespace Go.Proofs.YtignfbdgpgidpaaGreatDoor
open Go.RowKit FsPlain CrcPlain OctPlain FramePlain RecPlain
set_option linter.unusedVariables false
set_option linter.unusedSimpArgs false
set_option maxRecDepth 20000
namespace RdPlain
theorem get_of {size : Int} {s : ByteArray} {l : List ByteArray} {more : List UInt8} (hb : blkB size l = true) (h : s.data.toList = (cl (blk l)).data.toList ++ more) : gB size s = true ∧ gL size s = l ∧ gN size s = (cl (blk l)).size := by
  have e : s = cl (blk l) ++ bs more := ext_toList (by rw [app_data, bs_data, h])
  rw [e]
  obtain ⟨h1, h2, h3⟩ := get_put hb (bs more)
  exact ⟨h1, h3, h2⟩
theorem get_head {size : Int} {s : ByteArray} (h : gB size s = true) : ∃ more, s.data.toList = (cl (blk (gL size s))).data.toList ++ more ∧ blkB size (gL size s) = true ∧ gN size s = (cl (blk (gL size s))).size := by
  obtain ⟨n, h1, h2, h3, h4⟩ := RecPlain.get_split h
  obtain ⟨hb, _⟩ := get_is h
  exact ⟨_, h4, hb, (get_of hb h4).2.2⟩
theorem blk_room {size : Int} {l : List ByteArray} (h : blkB size l = true) : (((cl (blk l)).size : Nat) : Int) ≤ roomN size := by
  obtain ⟨h1, ⟨h2, h3⟩, h4⟩ := blk_parts h
  obtain ⟨n, e1, _, _, e2, _⟩ := blk_cl h
  have hs : 1 ≤ size ∧ size ≤ 64 := by simpa [sizeB] using h1
  have hr : roomN size = 5 + 4 * size := by unfold roomN; rw [if_pos h1]
  rw [e1, hr, ← e2]
  have : (l.length : Int) * size ≤ 4 * size := Int.mul_le_mul_of_nonneg_right (by omega) (by omega)
  omega
theorem take_get {size : Int} {t r : ByteArray} {k : Nat} (hk : roomN size ≤ (k : Int)) (ht : t.data.toList = r.data.toList.take k) : gB size t = gB size r ∧ gL size t = gL size r ∧ gN size t = gN size r := by
  cases hg : gB size r
  · cases hg2 : gB size t
    · rw [gL_no hg, gL_no hg2, gN_no hg, gN_no hg2]; exact ⟨rfl, rfl, rfl⟩
    · obtain ⟨m1, e1, hb, _⟩ := get_head hg2
      have e : r.data.toList = (cl (blk (gL size t))).data.toList ++ (m1 ++ r.data.toList.drop k) := by
        conv => lhs; rw [← List.take_append_drop k r.data.toList]
        rw [← ht, e1, List.append_assoc]
      have := (get_of hb e).1
      rw [hg] at this; cases this
  · obtain ⟨m2, e2, hb, hn⟩ := get_head hg
    have hl := blk_room hb
    have hlen : (cl (blk (gL size r))).data.toList.length ≤ k := by rw [show (cl (blk (gL size r))).data.toList.length = (cl (blk (gL size r))).size from Array.length_toList]; omega
    have e : t.data.toList = (cl (blk (gL size r))).data.toList ++ m2.take (k - (cl (blk (gL size r))).data.toList.length) := by
      rw [ht, e2, List.take_append, List.take_of_length_le hlen]
    obtain ⟨a1, a2, a3⟩ := get_of hb e
    exact ⟨a1, a2, a3.trans hn.symm⟩
structure At (m : N3) (D : ByteArray) (ps : List (List ByteArray)) (r : ByteArray) : Prop where
  get : ∃ f, m.s.get m.x.nm.data.toList = some f ∧ f.data = D.data.toList
  down : m.s.down = false
  ahead : m.s.ahead = -1
  sz : sizeB m.x.size = true
  all : D.data.toList = (headS m.x.size).data.toList ++ (blks ps ++ r.data.toList)
  pos : m.x.pos = 11 + (blks ps).length
  left : m.x.left = r.size
  bls : ∀ p ∈ ps, blkB m.x.size p = true
  full : Full ps
  short : m.x.short = true → ∃ p, ps.getLast? = some p ∧ p.length < 4
  long : m.x.short = false → ∀ p ∈ ps, p.length = 4
  flat : m.x.all = ps.flatten
theorem headS_len (size : Int) : (headS size).data.toList.length = 11 := by rw [show (headS size).data.toList.length = (headS size).size from Array.length_toList, headS_size]
theorem At.read {m : N3} {D : ByteArray} {ps : List (List ByteArray)} {r : ByteArray} (h : At m D ps r) : errN m = 0 ∧ (bytesN m).data.toList = r.data.toList.take (askN m.x) := by
  obtain ⟨f, hf, hd⟩ := h.get
  have hc : m.s.call.down = false := by unfold St.call; simp [h.down, h.ahead]
  have hlen : f.data.length = m.x.pos + m.x.left := by
    rw [hd, h.all, h.pos, h.left, List.length_append, List.length_append, headS_len, show r.data.toList.length = r.size from Array.length_toList]; omega
  have ha := ask_left m.x
  unfold errN bytesN
  unfold readR
  rw [if_neg (by rw [hc]; decide), hf]
  simp only []
  rw [if_neg (by omega)]
  refine ⟨rfl, ?_⟩
  rw [bs_data, hd, h.all, h.pos, List.drop_append, List.drop_of_length_le (by rw [headS_len]; omega), List.nil_append, headS_len]
  rw [show 11 + (blks ps).length - 11 = (blks ps).length by omega, List.drop_left]
theorem At.ask {m : N3} {D : ByteArray} {ps : List (List ByteArray)} {r : ByteArray} (h : At m D ps r) : askN m.x = r.size ∨ roomN m.x.size ≤ (askN m.x : Nat) ∧ 17 ≤ askN m.x := by
  have hs : 1 ≤ m.x.size ∧ m.x.size ≤ 64 := by simpa [sizeB] using h.sz
  have hr : roomN m.x.size = 5 + 4 * m.x.size := by unfold roomN; rw [if_pos h.sz]
  have hl := h.left
  unfold askN
  rw [hr]
  omega
theorem At.got {m : N3} {D : ByteArray} {ps : List (List ByteArray)} {r : ByteArray} (h : At m D ps r) : gB m.x.size (bytesN m) = gB m.x.size r ∧ gL m.x.size (bytesN m) = gL m.x.size r ∧ gN m.x.size (bytesN m) = gN m.x.size r := by
  obtain ⟨_, hb⟩ := h.read
  rcases h.ask with ha | ha
  · have : bytesN m = r := ext_toList (by rw [hb, ha, List.take_of_length_le (by rw [data_length]; omega)])
    rw [this]; exact ⟨rfl, rfl, rfl⟩
  · exact take_get ha.1 hb
theorem At.file {m : N3} {D : ByteArray} {ps : List (List ByteArray)} {r : ByteArray} (h : At m D ps r) (hl : m.x.all.length ≤ 1000000) (ht : tailB m.x.all r = true) : IsFile m.x.size D m.x.all := by
  rw [h.flat] at hl ht ⊢
  exact file_of h.sz h.bls h.full h.all hl ht
theorem At.block {m : N3} {D : ByteArray} {ps : List (List ByteArray)} {r : ByteArray} (h : At m D ps r) (hg : gB m.x.size r = true) (hsh : m.x.short = false) : ∃ r', At (m.asked.filled (bytesN m)) D (ps ++ [gL m.x.size r]) r' := by
  obtain ⟨g1, g2, g3⟩ := h.got
  obtain ⟨more, e1, hb, hn⟩ := get_head hg
  have hlong := h.long hsh
  have hc : m.s.call.down = false := by unfold St.call; simp [h.down, h.ahead]
  have hca : m.s.call.ahead = -1 := by show max (m.s.ahead - 1) (-1) = -1; rw [h.ahead]; decide
  have hk : blks (ps ++ [gL m.x.size r]) = blks ps ++ (cl (blk (gL m.x.size r))).data.toList := by rw [blks_app]; simp [blks]
  have hsz : (gN m.x.size r).toNat = (cl (blk (gL m.x.size r))).size := by rw [hn]; rfl
  have hp := blk_parts hb
  refine ⟨bs more, h.get, hc, hca, h.sz, ?_, ?_, ?_, ?_, ?_, ?_, ?_, ?_⟩
  · rw [h.all, hk, e1, bs_data]; simp only [List.append_assoc]; rfl
  · show m.x.pos + (gN m.x.size (bytesN m)).toNat = _
    rw [g3, hsz, hk, List.length_append, h.pos, data_length]; omega
  · show m.x.left - (gN m.x.size (bytesN m)).toNat = _
    have : r.size = (cl (blk (gL m.x.size r))).size + more.length := by rw [← data_length, e1, List.length_append, data_length]
    rw [g3, hsz, h.left, bs_size]; omega
  · intro p hpm
    rcases List.mem_append.1 hpm with hpm | hpm
    · exact h.bls p hpm
    · rw [List.mem_singleton.1 hpm]; exact hb
  · intro j p hj hj2
    rw [List.length_append, List.length_singleton] at hj2
    rw [List.getElem?_append_left (by omega)] at hj
    exact hlong p (List.mem_of_getElem? hj)
  · intro hs
    have hs' : decide ((gL m.x.size (bytesN m)).length < 4) = true := hs
    rw [g2, decide_eq_true_iff] at hs'
    exact ⟨_, by simp, hs'⟩
  · intro hs p hpm
    have hs' : decide ((gL m.x.size (bytesN m)).length < 4) = false := hs
    rw [g2, decide_eq_false_iff_not] at hs'
    rcases List.mem_append.1 hpm with hpm | hpm
    · exact hlong p hpm
    · rw [List.mem_singleton.1 hpm]; have := hp.2.1; omega
  · show m.x.all ++ gL m.x.size (bytesN m) = _
    rw [g2, h.flat]; simp
end RdPlain
end Go.Proofs.YtignfbdgpgidpaaGreatDoor
/- A disk that does not fail, with a file of these bytes: what its calls answer. -/
namespace Go.Proofs.YtignfbdgpgidpaaGreatDoor
set_option linter.unusedVariables false
namespace FsPlain
structure Stands (s : St) (n : List UInt8) (D : ByteArray) : Prop where
  get : ∃ f, s.get n = some f ∧ f.data = D.data.toList
  down : s.down = false
  ahead : s.ahead = -1
theorem Stands.call {s : St} {n : List UInt8} {D : ByteArray} (h : Stands s n D) : Stands s.call n D ∧ s.call.down = false := by
  have hc : s.call.down = false := by unfold St.call; simp [h.down, h.ahead]
  exact ⟨⟨h.get, hc, by show max (s.ahead - 1) (-1) = -1; rw [h.ahead]; decide⟩, hc⟩
theorem Stands.size {s : St} {n : List UInt8} {D : ByteArray} (h : Stands s n D) : sizeR s n = ((D.size : Int), 0) := by
  obtain ⟨f, hf, hd⟩ := h.get
  unfold sizeR
  rw [if_neg (by rw [h.call.2]; decide), hf]
  simp only [hd, Array.length_toList]
  rfl
theorem Stands.readAt {s : St} {n : List UInt8} {D : ByteArray} (h : Stands s n D) (i k : Nat) (hk : i + k ≤ D.size) : readR s n i k = ((D.data.toList.drop i).take k, 0) := by
  obtain ⟨f, hf, hd⟩ := h.get
  unfold readR
  rw [if_neg (by rw [h.call.2]; decide), hf]
  simp only [hd]
  rw [if_neg (by rw [Array.length_toList]; show ¬ D.size < _; omega)]
theorem Stands.read {s : St} {n : List UInt8} {D : ByteArray} (h : Stands s n D) (k : Nat) (hk : k ≤ D.size) : readR s n 0 k = (D.data.toList.take k, 0) := by
  rw [h.readAt 0 k (by omega)]
  simp
end FsPlain
end Go.Proofs.YtignfbdgpgidpaaGreatDoor
/- Plain facts: a reader that is opened over a file, where no call fails; how many records it can tell. -/
namespace Go.Proofs.YtignfbdgpgidpaaGreatDoor
open Go.RowKit FsPlain CrcPlain OctPlain FramePlain RecPlain
set_option linter.unusedVariables false
set_option linter.unusedSimpArgs false
set_option maxRecDepth 20000
namespace RdPlain
end RdPlain
end Go.Proofs.YtignfbdgpgidpaaGreatDoor
/- Plain facts: what is told of a reader, open or shut. -/
namespace Go.Proofs.YtignfbdgpgidpaaGreatDoor
open Go.RowKit FsPlain CrcPlain OctPlain FramePlain RecPlain
set_option linter.unusedVariables false
set_option linter.unusedSimpArgs false
set_option maxRecDepth 20000
namespace RdPlain
end RdPlain
end Go.Proofs.YtignfbdgpgidpaaGreatDoor
/- Plain facts: a reader over a file of a disk that others write to, too, and that may fall. -/
namespace Go.Proofs.YtignfbdgpgidpaaGreatDoor
open Go.RowKit FsPlain CrcPlain OctPlain FramePlain RecPlain
set_option linter.unusedVariables false
set_option linter.unusedSimpArgs false
set_option maxRecDepth 20000
namespace RdPlain
structure Quiet (s s' : St) : Prop where
  fs : s'.fs = s.fs
  room : s'.room = s.room
  calm : s.down = false → s.ahead = -1 → s'.down = false ∧ s'.ahead = -1
  calls : s.calls ≤ s'.calls
theorem Quiet.refl (s : St) : Quiet s s := ⟨rfl, rfl, fun a b => ⟨a, b⟩, Int.le_refl _⟩
theorem Quiet.trans {a b c : St} (h : Quiet a b) (k : Quiet b c) : Quiet a c := ⟨k.fs.trans h.fs, k.room.trans h.room, fun x y => by obtain ⟨p, q⟩ := h.calm x y; exact k.calm p q, Int.le_trans h.calls k.calls⟩
theorem quiet_call (s : St) : Quiet s s.call := ⟨rfl, rfl, fun a b => by
  constructor
  · unfold St.call; simp [a, b]
  · show max (s.ahead - 1) (-1) = -1; rw [b]; decide, by show s.calls ≤ s.calls + 1; omega⟩
theorem Quiet.get {s s' : St} (h : Quiet s s') (n : List UInt8) : s'.get n = s.get n := by unfold St.get; rw [h.fs]
def HasD (s : St) (n : List UInt8) (D : ByteArray) : Prop := ∃ f, s.get n = some f ∧ f.data = D.data.toList
theorem HasD.quiet {s s' : St} {n : List UInt8} {D : ByteArray} (h : HasD s n D) (q : Quiet s s') : HasD s' n D := by
  obtain ⟨f, h1, h2⟩ := h
  exact ⟨f, by rw [q.get]; exact h1, h2⟩
end RdPlain
end Go.Proofs.YtignfbdgpgidpaaGreatDoor
/- A slice of strings that nobody writes any more, as a part of a world; what a reader's Next hands out. -/
namespace Go.Proofs.YtignfbdgpgidpaaGreatDoor
open Go.RowKit FsPlain CrcPlain OctPlain FramePlain RecPlain RdPlain
set_option linter.unusedVariables false
set_option linter.unusedSimpArgs false
set_option maxRecDepth 20000
end Go.Proofs.YtignfbdgpgidpaaGreatDoor
/- A budget as a part of a world: the program's, and the document's. -/
namespace Go.Proofs.YtignfbdgpgidpaaGreatDoor
open Go.RowKit
set_option linter.unusedVariables false
set_option linter.unusedSimpArgs false
set_option maxRecDepth 20000
end Go.Proofs.YtignfbdgpgidpaaGreatDoor
/- The program's reader: where its bytes come from (look, pass); its parts. -/
namespace Go.Proofs.YtignfbdgpgidpaaGreatDoor
open Go.RowKit FsPlain CrcPlain OctPlain FramePlain RecPlain RdPlain
set_option linter.unusedVariables false
set_option linter.unusedSimpArgs false
set_option maxRecDepth 20000
end Go.Proofs.YtignfbdgpgidpaaGreatDoor
/- Contracts of both Sums. -/
namespace Go.Proofs.YtignfbdgpgidpaaGreatDoor
open Go.RowKit CrcPlain OctPlain FramePlain RecPlain
set_option linter.unusedVariables false
set_option linter.unusedSimpArgs false
set_option maxRecDepth 20000
theorem blk_lt {w : World} {b : Nat} {o : Obj} (h : w.heap[b]? = some o) : b < w.heap.size := (Array.getElem?_eq_some_iff.1 h).1
end Go.Proofs.YtignfbdgpgidpaaGreatDoor
/- The program's reader: open, over, info, Count, handOut, stop. -/
namespace Go.Proofs.YtignfbdgpgidpaaGreatDoor
open Go.RowKit FsPlain CrcPlain OctPlain FramePlain RecPlain RdPlain
set_option linter.unusedVariables false
set_option linter.unusedSimpArgs false
set_option maxRecDepth 20000
end Go.Proofs.YtignfbdgpgidpaaGreatDoor
/- The program's reader: stop, takeEnd. -/
namespace Go.Proofs.YtignfbdgpgidpaaGreatDoor
open Go.RowKit FsPlain CrcPlain OctPlain FramePlain RecPlain RdPlain
set_option linter.unusedVariables false
set_option linter.unusedSimpArgs false
set_option maxRecDepth 20000
end Go.Proofs.YtignfbdgpgidpaaGreatDoor
/- Two Infos that are unlike. -/
namespace Go.Proofs.YtignfbdgpgidpaaGreatDoor
open Go.RowKit
set_option linter.unusedVariables false
set_option linter.unusedSimpArgs false
set_option maxRecDepth 20000
theorem info_off (n m n' m' : Int) (h : ¬ (n = n' ∧ m = m')) (w : World) : (Op.equalIn 10000 50 (.agg #[.int .i64 n, .int .u32 m]) (.agg #[.int .i64 n', .int .u32 m'])).run Tryz.prog w = .ok false w := by
  rw [run_equalIn_agg w 9999 _ _ _ (by kernel_rfl) (by kernel_rfl)]
  by_cases h1 : n = n'
  · have h2 : ¬ m = m' := fun e => h ⟨h1, e⟩
    simp [go_sem, h1, h2]
  · simp [go_sem, h1]
end Go.Proofs.YtignfbdgpgidpaaGreatDoor
/- The program's reader: takeEnd. -/
namespace Go.Proofs.YtignfbdgpgidpaaGreatDoor
open Go.RowKit FsPlain CrcPlain OctPlain FramePlain RecPlain RdPlain
set_option linter.unusedVariables false
set_option linter.unusedSimpArgs false
set_option maxRecDepth 20000
end Go.Proofs.YtignfbdgpgidpaaGreatDoor
/- A name; more on parts that lie apart. -/
namespace Go.Proofs.YtignfbdgpgidpaaGreatDoor
open Go.RowKit FsPlain
set_option linter.unusedVariables false
set_option linter.unusedSimpArgs false
set_option maxRecDepth 20000
end Go.Proofs.YtignfbdgpgidpaaGreatDoor
/- The program's reader: takeBlock. -/
namespace Go.Proofs.YtignfbdgpgidpaaGreatDoor
open Go.RowKit FsPlain CrcPlain OctPlain FramePlain RecPlain RdPlain
set_option linter.unusedVariables false
set_option linter.unusedSimpArgs false
set_option maxRecDepth 20000
end Go.Proofs.YtignfbdgpgidpaaGreatDoor
/- The program's reader: load. -/
namespace Go.Proofs.YtignfbdgpgidpaaGreatDoor
open Go.RowKit FsPlain CrcPlain OctPlain FramePlain RecPlain RdPlain
set_option linter.unusedVariables false
set_option linter.unusedSimpArgs false
set_option maxRecDepth 20000
end Go.Proofs.YtignfbdgpgidpaaGreatDoor
/- The program's reader: Next, Close, Count, Info. -/
namespace Go.Proofs.YtignfbdgpgidpaaGreatDoor
open Go.RowKit FsPlain CrcPlain OctPlain FramePlain RecPlain RdPlain
set_option linter.unusedVariables false
set_option linter.unusedSimpArgs false
set_option maxRecDepth 20000
end Go.Proofs.YtignfbdgpgidpaaGreatDoor
/- The program's reader: begin, Open. -/
namespace Go.Proofs.YtignfbdgpgidpaaGreatDoor
open Go.RowKit FsPlain CrcPlain OctPlain FramePlain RecPlain RdPlain
set_option linter.unusedVariables false
set_option linter.unusedSimpArgs false
set_option maxRecDepth 20000
end Go.Proofs.YtignfbdgpgidpaaGreatDoor
/- The program's reader: Open. -/
namespace Go.Proofs.YtignfbdgpgidpaaGreatDoor
open Go.RowKit FsPlain CrcPlain OctPlain FramePlain RecPlain RdPlain
set_option linter.unusedVariables false
set_option linter.unusedSimpArgs false
set_option maxRecDepth 20000
end Go.Proofs.YtignfbdgpgidpaaGreatDoor
/- A range over a function that hands out what lies in new memory: the loop's body is told what holds of it then (Pr). Beside the library's law: there a body knows of a value no more than its type. -/
namespace Go.Proofs.YtignfbdgpgidpaaGreatDoor
open Go.RowKit
set_option linter.unusedVariables false
set_option linter.unusedSimpArgs false
set_option maxRecDepth 20000
def LoopAt (l D : Nat) (r : Loop) (W : World) : Prop := W.heap[l]? = some (.loop r) ∧ W.heap[D]? = some (.deferred (some []))
theorem LoopAt.kept {C l D : Nat} {r : Loop} {A B : World} (h : LoopAt l D r A) (hl : C ≤ l) (hD : C ≤ D) (k : KeepsFrom C A B) : LoopAt l D r B := ⟨k.same _ _ hl h.1 rfl, k.same _ _ hD h.2 rfl⟩
section
variable {α : Type} {n : Nat} {P : Program} {gf : Nat} {lb : Array Value} {encs : α → Array Value} {Pr : List α → α → World → Prop} {Kp : World → World → Prop} {S Sp : List α → Prop}
end
end Go.Proofs.YtignfbdgpgidpaaGreatDoor
/- slices.Chunk of a slice of strings, by fours: its call, and its iterator. -/
namespace Go.Proofs.YtignfbdgpgidpaaGreatDoor
open Go.RowKit Go.Shelf CrcPlain OctPlain FramePlain RecPlain
set_option linter.unusedVariables false
set_option linter.unusedSimpArgs false
set_option maxRecDepth 20000
attribute [local go_sem] Oper.semAt_some
end Go.Proofs.YtignfbdgpgidpaaGreatDoor

/- In one text: RdRead, Stands, RdRead2, RdInv, RnRead, Que, BudA, Rd1, RecSum. -/
import Derived.Test.YtignfbdgpgidpaaGreatDoorK28
import Derived.Test.YtignfbdgpgidpaaGreatDoorK00
import Derived.Test.YtignfbdgpgidpaaGreatDoorK08
import Derived.Test.YtignfbdgpgidpaaGreatDoorK24
import Derived.Test.YtignfbdgpgidpaaGreatDoorK06
import Derived.Test.YtignfbdgpgidpaaGreatDoorK23
import Derived.Deep.RegionHeld3
import Derived.Test.YtignfbdgpgidpaaGreatDoorK27
import Derived.Test.YtignfbdgpgidpaaGreatDoorK11
import Derived.StillTailTactics
/- Plain facts: what a reader reads of a file, where no call fails. -/
namespace Go.Proofs.YtignfbdgpgidpaaGreatDoor
open Go.RowKit FsPlain CrcPlain OctPlain FramePlain RecPlain
set_option linter.unusedVariables false
set_option linter.unusedSimpArgs false
set_option maxRecDepth 20000
namespace RdPlain
theorem get_of {size : Int} {s : ByteArray} {l : List ByteArray} {more : List UInt8} (hb : blkB size l = true) (h : s.data.toList = (cl (blk l)).data.toList ++ more) : gB size s = true ∧ gL size s = l ∧ gN size s = (cl (blk l)).size := by
  have e : s = cl (blk l) ++ bs more := ext_toList (by rw [app_data, bs_data, h])
  rw [e]
  obtain ⟨h1, h2, h3⟩ := get_put hb (bs more)
  exact ⟨h1, h3, h2⟩
theorem get_head {size : Int} {s : ByteArray} (h : gB size s = true) : ∃ more, s.data.toList = (cl (blk (gL size s))).data.toList ++ more ∧ blkB size (gL size s) = true ∧ gN size s = (cl (blk (gL size s))).size := by
  obtain ⟨n, h1, h2, h3, h4⟩ := RecPlain.get_split h
  obtain ⟨hb, _⟩ := get_is h
  exact ⟨_, h4, hb, (get_of hb h4).2.2⟩
theorem blk_room {size : Int} {l : List ByteArray} (h : blkB size l = true) : (((cl (blk l)).size : Nat) : Int) ≤ roomN size := by
  obtain ⟨h1, ⟨h2, h3⟩, h4⟩ := blk_parts h
  obtain ⟨n, e1, _, _, e2, _⟩ := blk_cl h
  have hs : 1 ≤ size ∧ size ≤ 64 := by simpa [sizeB] using h1
  have hr : roomN size = 5 + 4 * size := by unfold roomN; rw [if_pos h1]
  rw [e1, hr, ← e2]
  have : (l.length : Int) * size ≤ 4 * size := Int.mul_le_mul_of_nonneg_right (by omega) (by omega)
  omega
theorem take_get {size : Int} {t r : ByteArray} {k : Nat} (hk : roomN size ≤ (k : Int)) (ht : t.data.toList = r.data.toList.take k) : gB size t = gB size r ∧ gL size t = gL size r ∧ gN size t = gN size r := by
  cases hg : gB size r
  · cases hg2 : gB size t
    · rw [gL_no hg, gL_no hg2, gN_no hg, gN_no hg2]; exact ⟨rfl, rfl, rfl⟩
    · obtain ⟨m1, e1, hb, _⟩ := get_head hg2
      have e : r.data.toList = (cl (blk (gL size t))).data.toList ++ (m1 ++ r.data.toList.drop k) := by
        conv => lhs; rw [← List.take_append_drop k r.data.toList]
        rw [← ht, e1, List.append_assoc]
      have := (get_of hb e).1
      rw [hg] at this; cases this
  · obtain ⟨m2, e2, hb, hn⟩ := get_head hg
    have hl := blk_room hb
    have hlen : (cl (blk (gL size r))).data.toList.length ≤ k := by rw [show (cl (blk (gL size r))).data.toList.length = (cl (blk (gL size r))).size from Array.length_toList]; omega
    have e : t.data.toList = (cl (blk (gL size r))).data.toList ++ m2.take (k - (cl (blk (gL size r))).data.toList.length) := by
      rw [ht, e2, List.take_append, List.take_of_length_le hlen]
    obtain ⟨a1, a2, a3⟩ := get_of hb e
    exact ⟨a1, a2, a3.trans hn.symm⟩
structure At (m : N3) (D : ByteArray) (ps : List (List ByteArray)) (r : ByteArray) : Prop where
  get : ∃ f, m.s.get m.x.nm.data.toList = some f ∧ f.data = D.data.toList
  down : m.s.down = false
  ahead : m.s.ahead = -1
  sz : sizeB m.x.size = true
  all : D.data.toList = (headS m.x.size).data.toList ++ (blks ps ++ r.data.toList)
  pos : m.x.pos = 11 + (blks ps).length
  left : m.x.left = r.size
  bls : ∀ p ∈ ps, blkB m.x.size p = true
  full : Full ps
  short : m.x.short = true → ∃ p, ps.getLast? = some p ∧ p.length < 4
  long : m.x.short = false → ∀ p ∈ ps, p.length = 4
  flat : m.x.all = ps.flatten
theorem headS_len (size : Int) : (headS size).data.toList.length = 11 := by rw [show (headS size).data.toList.length = (headS size).size from Array.length_toList, headS_size]
theorem At.read {m : N3} {D : ByteArray} {ps : List (List ByteArray)} {r : ByteArray} (h : At m D ps r) : errN m = 0 ∧ (bytesN m).data.toList = r.data.toList.take (askN m.x) := by
  obtain ⟨f, hf, hd⟩ := h.get
  have hc : m.s.call.down = false := by unfold St.call; simp [h.down, h.ahead]
  have hlen : f.data.length = m.x.pos + m.x.left := by
    rw [hd, h.all, h.pos, h.left, List.length_append, List.length_append, headS_len, show r.data.toList.length = r.size from Array.length_toList]; omega
  have ha := ask_left m.x
  unfold errN bytesN
  unfold readR
  rw [if_neg (by rw [hc]; decide), hf]
  simp only []
  rw [if_neg (by omega)]
  refine ⟨rfl, ?_⟩
  rw [bs_data, hd, h.all, h.pos, List.drop_append, List.drop_of_length_le (by rw [headS_len]; omega), List.nil_append, headS_len]
  rw [show 11 + (blks ps).length - 11 = (blks ps).length by omega, List.drop_left]
theorem At.ask {m : N3} {D : ByteArray} {ps : List (List ByteArray)} {r : ByteArray} (h : At m D ps r) : askN m.x = r.size ∨ roomN m.x.size ≤ (askN m.x : Nat) ∧ 17 ≤ askN m.x := by
  have hs : 1 ≤ m.x.size ∧ m.x.size ≤ 64 := by simpa [sizeB] using h.sz
  have hr : roomN m.x.size = 5 + 4 * m.x.size := by unfold roomN; rw [if_pos h.sz]
  have hl := h.left
  unfold askN
  rw [hr]
  omega
theorem At.got {m : N3} {D : ByteArray} {ps : List (List ByteArray)} {r : ByteArray} (h : At m D ps r) : gB m.x.size (bytesN m) = gB m.x.size r ∧ gL m.x.size (bytesN m) = gL m.x.size r ∧ gN m.x.size (bytesN m) = gN m.x.size r := by
  obtain ⟨_, hb⟩ := h.read
  rcases h.ask with ha | ha
  · have : bytesN m = r := ext_toList (by rw [hb, ha, List.take_of_length_le (by rw [data_length]; omega)])
    rw [this]; exact ⟨rfl, rfl, rfl⟩
  · exact take_get ha.1 hb
theorem At.file {m : N3} {D : ByteArray} {ps : List (List ByteArray)} {r : ByteArray} (h : At m D ps r) (hl : m.x.all.length ≤ 1000000) (ht : tailB m.x.all r = true) : IsFile m.x.size D m.x.all := by
  rw [h.flat] at hl ht ⊢
  exact file_of h.sz h.bls h.full h.all hl ht
theorem At.block {m : N3} {D : ByteArray} {ps : List (List ByteArray)} {r : ByteArray} (h : At m D ps r) (hg : gB m.x.size r = true) (hsh : m.x.short = false) : ∃ r', At (m.asked.filled (bytesN m)) D (ps ++ [gL m.x.size r]) r' := by
  obtain ⟨g1, g2, g3⟩ := h.got
  obtain ⟨more, e1, hb, hn⟩ := get_head hg
  have hlong := h.long hsh
  have hc : m.s.call.down = false := by unfold St.call; simp [h.down, h.ahead]
  have hca : m.s.call.ahead = -1 := by show max (m.s.ahead - 1) (-1) = -1; rw [h.ahead]; decide
  have hk : blks (ps ++ [gL m.x.size r]) = blks ps ++ (cl (blk (gL m.x.size r))).data.toList := by rw [blks_app]; simp [blks]
  have hsz : (gN m.x.size r).toNat = (cl (blk (gL m.x.size r))).size := by rw [hn]; rfl
  have hp := blk_parts hb
  refine ⟨bs more, h.get, hc, hca, h.sz, ?_, ?_, ?_, ?_, ?_, ?_, ?_, ?_⟩
  · rw [h.all, hk, e1, bs_data]; simp only [List.append_assoc]; rfl
  · show m.x.pos + (gN m.x.size (bytesN m)).toNat = _
    rw [g3, hsz, hk, List.length_append, h.pos, data_length]; omega
  · show m.x.left - (gN m.x.size (bytesN m)).toNat = _
    have : r.size = (cl (blk (gL m.x.size r))).size + more.length := by rw [← data_length, e1, List.length_append, data_length]
    rw [g3, hsz, h.left, bs_size]; omega
  · intro p hpm
    rcases List.mem_append.1 hpm with hpm | hpm
    · exact h.bls p hpm
    · rw [List.mem_singleton.1 hpm]; exact hb
  · intro j p hj hj2
    rw [List.length_append, List.length_singleton] at hj2
    rw [List.getElem?_append_left (by omega)] at hj
    exact hlong p (List.mem_of_getElem? hj)
  · intro hs
    have hs' : decide ((gL m.x.size (bytesN m)).length < 4) = true := hs
    rw [g2, decide_eq_true_iff] at hs'
    exact ⟨_, by simp, hs'⟩
  · intro hs p hpm
    have hs' : decide ((gL m.x.size (bytesN m)).length < 4) = false := hs
    rw [g2, decide_eq_false_iff_not] at hs'
    rcases List.mem_append.1 hpm with hpm | hpm
    · exact hlong p hpm
    · rw [List.mem_singleton.1 hpm]; have := hp.2.1; omega
  · show m.x.all ++ gL m.x.size (bytesN m) = _
    rw [g2, h.flat]; simp
end RdPlain
end Go.Proofs.YtignfbdgpgidpaaGreatDoor
/- A disk that does not fail, with a file of these bytes: what its calls answer. -/
namespace Go.Proofs.YtignfbdgpgidpaaGreatDoor
set_option linter.unusedVariables false
namespace FsPlain
structure Stands (s : St) (n : List UInt8) (D : ByteArray) : Prop where
  get : ∃ f, s.get n = some f ∧ f.data = D.data.toList
  down : s.down = false
  ahead : s.ahead = -1
theorem Stands.call {s : St} {n : List UInt8} {D : ByteArray} (h : Stands s n D) : Stands s.call n D ∧ s.call.down = false := by
  have hc : s.call.down = false := by unfold St.call; simp [h.down, h.ahead]
  exact ⟨⟨h.get, hc, by show max (s.ahead - 1) (-1) = -1; rw [h.ahead]; decide⟩, hc⟩
theorem Stands.size {s : St} {n : List UInt8} {D : ByteArray} (h : Stands s n D) : sizeR s n = ((D.size : Int), 0) := by
  obtain ⟨f, hf, hd⟩ := h.get
  unfold sizeR
  rw [if_neg (by rw [h.call.2]; decide), hf]
  simp only [hd, Array.length_toList]
  rfl
theorem Stands.readAt {s : St} {n : List UInt8} {D : ByteArray} (h : Stands s n D) (i k : Nat) (hk : i + k ≤ D.size) : readR s n i k = ((D.data.toList.drop i).take k, 0) := by
  obtain ⟨f, hf, hd⟩ := h.get
  unfold readR
  rw [if_neg (by rw [h.call.2]; decide), hf]
  simp only [hd]
  rw [if_neg (by rw [Array.length_toList]; show ¬ D.size < _; omega)]
theorem Stands.read {s : St} {n : List UInt8} {D : ByteArray} (h : Stands s n D) (k : Nat) (hk : k ≤ D.size) : readR s n 0 k = (D.data.toList.take k, 0) := by
  rw [h.readAt 0 k (by omega)]
  simp
end FsPlain
end Go.Proofs.YtignfbdgpgidpaaGreatDoor
/- Plain facts: a reader that is opened over a file, where no call fails; how many records it can tell. -/
namespace Go.Proofs.YtignfbdgpgidpaaGreatDoor
open Go.RowKit FsPlain CrcPlain OctPlain FramePlain RecPlain
set_option linter.unusedVariables false
set_option linter.unusedSimpArgs false
set_option maxRecDepth 20000
namespace RdPlain
end RdPlain
end Go.Proofs.YtignfbdgpgidpaaGreatDoor
/- Plain facts: what is told of a reader, open or shut. -/
namespace Go.Proofs.YtignfbdgpgidpaaGreatDoor
open Go.RowKit FsPlain CrcPlain OctPlain FramePlain RecPlain
set_option linter.unusedVariables false
set_option linter.unusedSimpArgs false
set_option maxRecDepth 20000
namespace RdPlain
end RdPlain
end Go.Proofs.YtignfbdgpgidpaaGreatDoor
/- Plain facts: a reader over a file of a disk that others write to, too, and that may fall. -/
namespace Go.Proofs.YtignfbdgpgidpaaGreatDoor
open Go.RowKit FsPlain CrcPlain OctPlain FramePlain RecPlain
set_option linter.unusedVariables false
set_option linter.unusedSimpArgs false
set_option maxRecDepth 20000
namespace RdPlain
structure Quiet (s s' : St) : Prop where
  fs : s'.fs = s.fs
  room : s'.room = s.room
  calm : s.down = false → s.ahead = -1 → s'.down = false ∧ s'.ahead = -1
  calls : s.calls ≤ s'.calls
theorem Quiet.refl (s : St) : Quiet s s := ⟨rfl, rfl, fun a b => ⟨a, b⟩, Int.le_refl _⟩
theorem Quiet.trans {a b c : St} (h : Quiet a b) (k : Quiet b c) : Quiet a c := ⟨k.fs.trans h.fs, k.room.trans h.room, fun x y => by obtain ⟨p, q⟩ := h.calm x y; exact k.calm p q, Int.le_trans h.calls k.calls⟩
theorem quiet_call (s : St) : Quiet s s.call := ⟨rfl, rfl, fun a b => by
  constructor
  · unfold St.call; simp [a, b]
  · show max (s.ahead - 1) (-1) = -1; rw [b]; decide, by show s.calls ≤ s.calls + 1; omega⟩
theorem Quiet.get {s s' : St} (h : Quiet s s') (n : List UInt8) : s'.get n = s.get n := by unfold St.get; rw [h.fs]
def HasD (s : St) (n : List UInt8) (D : ByteArray) : Prop := ∃ f, s.get n = some f ∧ f.data = D.data.toList
theorem HasD.quiet {s s' : St} {n : List UInt8} {D : ByteArray} (h : HasD s n D) (q : Quiet s s') : HasD s' n D := by
  obtain ⟨f, h1, h2⟩ := h
  exact ⟨f, by rw [q.get]; exact h1, h2⟩
end RdPlain
end Go.Proofs.YtignfbdgpgidpaaGreatDoor
/- A slice of strings that nobody writes any more, as a part of a world; what a reader's Next hands out. -/
namespace Go.Proofs.YtignfbdgpgidpaaGreatDoor
open Go.RowKit FsPlain CrcPlain OctPlain FramePlain RecPlain RdPlain
set_option linter.unusedVariables false
set_option linter.unusedSimpArgs false
set_option maxRecDepth 20000
end Go.Proofs.YtignfbdgpgidpaaGreatDoor
/- A budget as a part of a world: the program's, and the document's. -/
namespace Go.Proofs.YtignfbdgpgidpaaGreatDoor
open Go.RowKit
set_option linter.unusedVariables false
set_option linter.unusedSimpArgs false
set_option maxRecDepth 20000
end Go.Proofs.YtignfbdgpgidpaaGreatDoor
/- The program's reader: where its bytes come from (look, pass); its parts. -/
namespace Go.Proofs.YtignfbdgpgidpaaGreatDoor
open Go.RowKit FsPlain CrcPlain OctPlain FramePlain RecPlain RdPlain
set_option linter.unusedVariables false
set_option linter.unusedSimpArgs false
set_option maxRecDepth 20000
end Go.Proofs.YtignfbdgpgidpaaGreatDoor
/- Contracts of both Sums. -/
namespace Go.Proofs.YtignfbdgpgidpaaGreatDoor
open Go.RowKit CrcPlain OctPlain FramePlain RecPlain
set_option linter.unusedVariables false
set_option linter.unusedSimpArgs false
set_option maxRecDepth 20000
theorem blk_at {w : World} {b : Nat} {c : Array Value} {T : TypeId} (h : w.heap[b]? = some (.cells c T (0, 0))) (i : Nat) : w.cell? ⟨b, i, none⟩ = c[i]? := by simp [World.cell?, h]
theorem blk_free {w : World} {b : Nat} {c : Array Value} {T : TypeId} (h : w.heap[b]? = some (.cells c T (0, 0))) (i : Nat) : w.frozen? ⟨b, i, none⟩ = false := by simp [World.frozen?, h]
theorem blk_lt {w : World} {b : Nat} {o : Obj} (h : w.heap[b]? = some o) : b < w.heap.size := (Array.getElem?_eq_some_iff.1 h).1
theorem blk_set {w : World} {b : Nat} {c : Array Value} {T : TypeId} (h : w.heap[b]? = some (.cells c T (0, 0))) (i : Nat) (u : Value) : (w.setCell ⟨b, i, none⟩ u).heap[b]? = some (.cells (c.setIfInBounds i u) T (0, 0)) := by
  obtain ⟨hlt, hb⟩ := Array.getElem?_eq_some_iff.1 h
  simp only [World.setCell, Array.getElem?_modify, if_true, h]
  rfl
theorem blk_gr {w u : World} {b : Nat} {o : Obj} (h : w.heap[b]? = some o) (g : Gr w u) : u.heap[b]? = some o := (g.block b (blk_lt h)).trans h
theorem blk_other {w : World} {b : Nat} {o : Obj} (h : w.heap[b]? = some o) (a : Addr) (u : Value) (hne : a.block ≠ b) : (w.setCell a u).heap[b]? = some o := by
  rw [Below.heap_setCell _ _ _ _ (fun e => hne e.symm)]; exact h
theorem sumN_nil : sumN [] = 0 := by decide
theorem sumN_snoc (l : List ByteArray) (x : ByteArray) : sumN (l ++ [x]) = more (sumN l) x.data.toList := by
  unfold sumN; rw [cat_snoc, more_app]
theorem two_blks (w : World) (o p : Obj) : ((w.alloc o).alloc p).heap[w.heap.size]? = some o ∧ ((w.alloc o).alloc p).heap[w.heap.size + 1]? = some p ∧ Below w.heap.size w ((w.alloc o).alloc p) := by
  refine ⟨(Below.heap_alloc _ _ _ (by simp)).trans (heap_alloc_new w _), ?_, ((Gr.refl w).alloc (Nat.le_refl _) _).alloc (by simp) _⟩
  have := heap_alloc_new (w.alloc o) p
  rwa [World.size_alloc] at this
def SumAt (L : List ByteArray) (n : Nat) (w : World) (i : Value) (wr : World) : Prop :=
  ∃ j : Nat, j ≤ n ∧ i = .int .i64 j ∧ wr.heap[w.heap.size]? = some (.cells #[.int .i64 0, .int .u32 0] 50 (0, 0)) ∧ wr.heap[w.heap.size + 1]? = some (.cells #[.int .i64 n, .int .u32 (sumN (L.take j) : Nat)] 50 (0, 0)) ∧ Below w.heap.size w wr
def SumGot (L : List ByteArray) (w : World) (e : Ending) (w' : World) : Prop := e = .returned (.agg #[.int .i64 (L.length : Nat), .int .u32 (sumN L : Nat)]) ∧ Gr w w'
theorem sum_start (L : List ByteArray) (n : Nat) (w : World) : SumAt L n w (.int .i64 0) ((w.alloc (.cells #[.int .i64 0, .int .u32 0] 50)).alloc (.cells #[.int .i64 n, .int .u32 0] 50)) := by
  obtain ⟨h1, h2, h3⟩ := two_blks w (.cells #[.int .i64 0, .int .u32 0] 50) (.cells #[.int .i64 n, .int .u32 0] 50)
  refine ⟨0, Nat.zero_le _, rfl, h1, ?_, h3⟩
  rw [List.take_zero, sumN_nil]; exact h2
theorem sum_next {L : List ByteArray} {n j : Nat} {w wr u : World} (hj : j < n) (r0 : wr.heap[w.heap.size]? = some (.cells #[.int .i64 0, .int .u32 0] 50 (0, 0)))
    (r1 : wr.heap[w.heap.size + 1]? = some (.cells #[.int .i64 n, .int .u32 (sumN (L.take j) : Nat)] 50 (0, 0))) (hb : Below w.heap.size w wr) (g : Gr wr u) (m : Nat) (hm : m = sumN (L.take (j + 1))) :
    SumAt L n w (.int .i64 ((j : Int) + 1)) (u.setCell ⟨w.heap.size + 1, 1, none⟩ (.int .u32 (m : Nat))) := by
  subst hm
  refine ⟨j + 1, hj, rfl, blk_other (blk_gr r0 g) _ _ (by simp), by simpa using blk_set (blk_gr r1 g) 1 (.int .u32 (sumN (L.take (j + 1)) : Nat)), ?_⟩
  exact ((Gr.of hb).trans g).setCell (p := ⟨w.heap.size + 1, 1, none⟩) (by simp) _
set_option maxRecDepth 20000 in
set_option maxHeartbeats 2000000 in
theorem rsum_c {w : World} {v : Value} {L : List ByteArray} (h : Lies w v L) (hl : L.length ≤ 1000000) (hz : ∀ s ∈ L, s.size ≤ 1000) :
    Calls Tryz.prog 18 #[v] w (SumGot L w) := by
  obtain ⟨a, c, rfl, hc, h⟩ := h
  obtain ⟨n, hn⟩ : ∃ n, L.length = n := ⟨_, rfl⟩
  have HN := Lib.hid hn
  have H0 : 1 ≤ n → ∃ b off, a = some ⟨b, off, none⟩ ∧ SRow w b off L := fun h1 => h.elim (fun h0 => by rw [h0] at hn; simp at hn; omega) id
  have H := Lib.hid H0
  have HZ := Lib.hid hz
  have hst := sum_start L n w
  rw [hn] at hl ⊢
  clear h hc hn H0 hz
  go_enter Tryz.func18, Tryz.ntmps18
  go_wp2_with fail
  go_loopw [4] (fun i wr => SumAt L n w i wr) (fun i _ => n - (intOf i).toNat)
  case atStart => exact hst
  case round =>
    clear hst
    obtain ⟨j, hj, rfl, r0, r1, hb⟩ := hrel
    have hln := HN.out
    by_cases hlt : j < n
    · obtain ⟨x, hx, hstep, hmem⟩ := take_at (l := L) (j := j) (by omega)
      obtain ⟨b, off, rfl, hr⟩ := H.out (by omega)
      have hcx : wr.cell? ⟨b, off + j, none⟩ = some (.string x) := by rw [hb.cell hr.1]; exact hr.2 j x hx
      have M := fun w => rmore_c (sumN (L.take j)) (sumN_lt _) x (HZ.out x hmem) w
      have hs := sumN_snoc (L.take j) x
      rw [← hstep] at hs
      have HS := Lib.hid hs.symm
      have c1 : wr.cell? ⟨w.heap.size + 1, 1, none⟩ = some (.int .u32 (sumN (L.take j) : Nat)) := by rw [blk_at r1]; rfl
      have hk : ∀ u, Gr wr u → u.cell? ⟨w.heap.size + 1, 1, none⟩ = some (.int .u32 (sumN (L.take j) : Nat)) ∧ u.frozen? ⟨w.heap.size + 1, 1, none⟩ = false :=
        fun u g => ⟨by rw [blk_at (blk_gr r1 g)]; rfl, blk_free (blk_gr r1 g) 1⟩
      have HK := Lib.hid hk
      have R0 := Lib.hid r0
      have R1 := Lib.hid r1
      have hbs0 : ∀ u, Gr wr u → ∀ m : Nat, m = sumN (L.take (j + 1)) → SumAt L n w (.int .i64 ((j : Int) + 1)) (u.setCell ⟨w.heap.size + 1, 1, none⟩ (.int .u32 (m : Nat))) := fun u g m hm => sum_next hlt r0 r1 hb g m hm
      have hbs := Lib.hid hbs0
      obtain ⟨m, hm⟩ : ∃ m, m = more (sumN (L.take j)) x.data.toList := ⟨_, rfl⟩
      rw [← hm] at M HS
      have HM := Lib.hid hm
      have MM := Lib.hid (fun w => (M w).mono fun e w' h => (show e = .returned (.int .u32 (m : Nat)) ∧ w' = w from ⟨h.1, h.2.symm⟩))
      have hl2 : (n : Int) ≤ 1000000 := by omega
      clear hm hs hbs0 hstep hmem hx hk r0 r1 hr H HZ M hl
      go_wp2_with fail
      obtain ⟨d1, f1⟩ := HK.out wr (Gr.refl _)
      refine wp_region_still_tail 8 (by kernel_rfl) (by kernel_rfl) ?_
      simp only [List.take_succ_cons, List.take_zero, List.drop_succ_cons, List.drop_zero]
      still_step
      still_step
      still_step
      still_step
      still_step
      still_step
      still_call (MM.out wr.drew)
      still_step
      refine wpStill_nil ?_
      change wpList _ _ _ _ _ wr.drew
      have f2 : wr.drew.frozen? ⟨w.heap.size + 1, 1, none⟩ = false := f1
      have d2 : wr.drew.cell? ⟨w.heap.size + 1, 1, none⟩ = some (.int .u32 (sumN (L.take j) : Nat)) := d1
      go_wp2_with fail
      refine ⟨hbs.out wr.drew (Gr.refl wr).drew m HS.out, ?_⟩
      simp [intOf]; omega
    · obtain rfl : j = n := by omega
      have hte : L.take j = L := List.take_of_length_le (by omega)
      rw [hte] at r1
      obtain ⟨m, hm⟩ : ∃ m, m = sumN L := ⟨_, rfl⟩
      rw [← hm] at r1
      have hw : Two w w.heap.size (.int .i64 0) (.int .u32 0) wr := ⟨blk_lt r0, by rw [blk_at r0]; rfl, by rw [blk_at r0]; rfl, blk_free r0 0, blk_free r0 1⟩
      obtain ⟨W, hW, d0, d1, gW⟩ := two_set hw (.int .i64 (j : Nat)) (.int .u32 (m : Nat)) (Gr.of hb) (Nat.le_refl _)
      have e0 : wr.cell? ⟨w.heap.size + 1, 0, none⟩ = some (.int .i64 (j : Nat)) := by rw [blk_at r1]; rfl
      have e1 : wr.cell? ⟨w.heap.size + 1, 1, none⟩ = some (.int .u32 (m : Nat)) := by rw [blk_at r1]; rfl
      obtain ⟨hlt2, c0, c1, f0, f1⟩ := hw
      have HW := Lib.hid hW
      have HM := Lib.hid hm
      clear hW r0 r1 hm hte H HZ
      go_wp2_with fail
      rw [← HW.out]
      exact bodyPost_ret (v := .agg #[.int .i64 (j : Nat), .int .u32 (m : Nat)]) (by simp [results, Tryz.results18, go_sem, d0, d1]) rfl ⟨by rw [hln, HM.out], gW⟩
end Go.Proofs.YtignfbdgpgidpaaGreatDoor

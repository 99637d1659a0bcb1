/- In one text: BudA, FsRemove, FsRename, CmPlain, RdPlain. -/
import Derived.Test.YtignfbdgpgidpaaGreatDoorW19
import Derived.Test.YtignfbdgpgidpaaGreatDoorW03
import Derived.Test.YtignfbdgpgidpaaGreatDoorW17
import Derived.Test.YtignfbdgpgidpaaGreatDoorW18
import Derived.Test.YtignfbdgpgidpaaGreatDoorW00
import Derived.Test.YtignfbdgpgidpaaGreatDoorW12
import Derived.Test.YtignfbdgpgidpaaGreatDoorW10
/- A budget as a part of a world: the program's, and the document's. -/
namespace Go.Proofs.YtignfbdgpgidpaaGreatDoor
open Go.RowKit
set_option linter.unusedVariables false
set_option linter.unusedSimpArgs false
set_option maxRecDepth 20000
def BuA (p : Nat) (b : Bu) : Asn := fun w B => b.ok ∧ Blk p (bcells b) 113 w B
theorem fr_bu (p : Nat) (b : Bu) : Fr (BuA p b) := ⟨fun h o d => ⟨h.1, (fr_blk _ _ _).fr h.2 o d⟩, fun h => (fr_blk _ _ _).lo h.2⟩
theorem BuA.at {p : Nat} {b : Bu} {w : World} {B : Nat → Prop} (h : BuA p b w B) : BAt w p b := ⟨h.1, h.2.1⟩
theorem bu_next {p : Nat} {b b' : Bu} {w w' : World} {B : Nat → Prop} (h : BuA p b w B) (k : BAt w' p b') (g : Only (fun i => i = p) w w') : ∃ B', BuA p b' w' B' ∧ Nx B w B' w' :=
  ⟨B, ⟨k.1, k.2, h.2.2⟩, Nx.of g fun b hb => (h.2.2 b).2 hb⟩
theorem bu_take (p : Nat) (b : Bu) (n : Int) (w : World) (B : Nat → Prop) (h : BuA p b w B) :
    Calls Tryz.prog 130 #[.pointer (some ⟨p, 0, none⟩), .int .i64 n] w (Does w B (BuA p (b.take n)) (.int .i64 (b.takeE n))) :=
  (btake_c p b n w h.at).mono fun e w' ⟨he, k, g⟩ => ⟨he, bu_next h k g⟩
theorem bu_give (p : Nat) (b : Bu) (n : Int) (w : World) (B : Nat → Prop) (h : BuA p b w B) :
    Calls Tryz.prog 132 #[.pointer (some ⟨p, 0, none⟩), .int .i64 n] w (Does w B (BuA p (b.give n)) (.tuple #[])) :=
  (bgive_c p b n w h.at).mono fun e w' ⟨he, k, g⟩ => ⟨he, bu_next h k g⟩
theorem bu_new (m : Int) (w : World) (h : 0 ≤ m) (h2 : m ≤ 9223372036854775807) :
    Calls Tryz.prog 30 #[.int .i64 m] w fun e w' => e = .returned (.pointer (some ⟨w.heap.size, 0, none⟩)) ∧ BuA w.heap.size ⟨m, 0, 0⟩ w' (fun x => x = w.heap.size) ∧ Gr w w' :=
  (bnew_c m w h h2).mono fun e w' ⟨he, k, g⟩ => ⟨he, ⟨k.1, k.2, fun _ => Iff.rfl⟩, g⟩
end Go.Proofs.YtignfbdgpgidpaaGreatDoor
/- The contract of Remove. -/
namespace Go.Proofs.YtignfbdgpgidpaaGreatDoor
open Go.RowKit FsPlain Go.Maps
set_option linter.unusedVariables false
set_option linter.unusedSimpArgs false
set_option maxRecDepth 20000
namespace FsPlain
def St.drop (s : St) (n : List UInt8) : St := { s with fs := s.fs.filter fun f => !(f.name == n) }
def removeR (s : St) (n : List UInt8) : St × Int := if s.call.down = true then (s.call, 5) else match s.get n with | none => (s.call, 2) | some _ => (s.call.drop n, 0)
theorem used_filter (p : F → Bool) : ∀ l : List F, used (l.filter p) ≤ used l
  | [] => Nat.le_refl _
  | x :: l => by
    have ih := used_filter p l
    unfold used at ih ⊢
    rw [List.filter_cons]
    split
    · simp only [List.map_cons, List.sum_cons]; omega
    · simp only [List.map_cons, List.sum_cons]; omega
theorem ok_drop {s : St} (h : s.ok) (n : List UInt8) : (s.drop n).ok :=
  ⟨h.r0, h.r1, h.c0, h.a0, h.a1, by
    have h1 := used_filter (fun f => !(f.name == n)) s.fs
    have h2 := h.u
    show ((used (s.fs.filter _) : Nat) : Int) ≤ s.room
    omega, fun f hf => h.k f (List.mem_filter.1 hf).1, fun f hf => h.n f (List.mem_filter.1 hf).1, Nat.le_trans (List.length_filter_le _ _) h.m, h.d.filter _⟩
end FsPlain
theorem del_ents (L : List Pl) (n : List UInt8) : (ents L).del (.string n) = ents (L.filter fun x => !(x.f.name == n)) := by
  unfold ents DataW.del
  simp only [DataW.map.injEq]
  rw [List.filter_map]
  rfl
theorem turned_only {w w' : World} {b : Nat} (h : w.mapTurned w' b) : Only (fun i => i = b) w w' := by
  obtain ⟨es, clock, es', clock', hb, rfl⟩ := h
  refine ⟨rfl, rfl, rfl, by simp [ChangeMaps.setBlock], fun k hk hne => ?_⟩
  show (w.heap.setIfInBounds b _)[k]? = _
  rw [Array.getElem?_setIfInBounds, if_neg (fun e => hne e.symm)]
theorem blocks_sub (p : Pl → Bool) : ∀ L : List Pl, (blocks (L.filter p)).Sublist (blocks L)
  | [] => List.Sublist.refl _
  | x :: L => by
    have ih := blocks_sub p L
    rw [List.filter_cons]
    unfold blocks at ih ⊢
    split
    · simp only [List.flatMap_cons]
      exact (List.Sublist.refl _).append ih
    · simp only [List.flatMap_cons]
      exact ih.trans (List.sublist_append_right _ _)
theorem DiskAt.dropped {w w' : World} {p m : Nat} {s : St} {B : Nat → Prop} {L : List Pl} {k : Nat} (h : DiskAt w p s B m L) (n : List UInt8) (ho : w'.ownsMap Tryz.prog 9 ptrElem m k ((ents L).del (.string n))) (g : Only (fun i => i = m) w w') : DiskAt w' p (s.drop n) B m (L.filter fun x => !(x.f.name == n)) := by
  have hap := h.apart
  have hpm : p ≠ m := fun e => by
    simp only [List.nodup_cons, List.mem_cons, not_or] at hap; exact hap.1.1 e
  have hsub : (blocks (L.filter fun x => !(x.f.name == n))).Sublist (blocks L) := blocks_sub _ L
  refine ⟨?_, ?_, ?_, ?_, ?_, ?_, ?_⟩
  · rw [g.block p (lt_of_block h.heap) hpm]; exact h.heap
  · have := tight ho
    rw [del_ents, ents_size] at this
    exact this
  · show (L.filter _).map (·.f) = s.fs.filter _
    rw [← h.fs, List.filter_map]
    rfl
  · intro x hx
    have hx := (List.mem_filter.1 hx).1
    exact (h.file x hx).only g fun b hb e => by
      have e2 : b = m := e
      subst e2
      simp only [List.nodup_cons] at hap
      exact hap.2.1 (mem_blocks hx hb)
  · exact hap.sublist ((hsub.cons_cons m).cons_cons p)
  · intro b hb
    refine h.mine b ?_
    exact ((hsub.cons_cons m).cons_cons p).subset hb
  · exact fun b hb => Nat.lt_of_lt_of_le (h.low b hb) g.size
set_option maxRecDepth 20000 in
set_option maxHeartbeats 1000000 in
theorem remove_c (p : Nat) (s : St) (B : Nat → Prop) (n : ByteArray) (w : World) (h : Disk w p s B) (hn : n.size ≤ 1000) (hm : rightB n.data.toList = true) (h1 : s.calls ≤ 1000000000000) :
    Calls Tryz.prog 44 #[.pointer (some ⟨p, 0, none⟩), .string n] w (Tells w p (removeR s n.data.toList).1 B (.int .i64 (removeR s n.data.toList).2)) := by
  obtain ⟨hs, m, L, hD⟩ := h
  have C := find_yes p m s B L n w hs hD (by unfold maxLen; omega) hm h1
  have HS := Lib.hid hs
  have hkey := WideMaps.keyOf_string_mk (P := Tryz.prog) (k := 9) Tryz.underlying9 (show n.size ≤ maxLen by unfold maxLen; omega)
  clear hD hm hs
  go_enter Tryz.func44, Tryz.ntmps44
  go_wp2_with fail
  refine C.mono ?_; rintro e w2 ⟨hD, hO, hcase⟩
  have HN := Lib.hid (next_called HS.out hD hO)
  have HD := Lib.hid hD
  have HO := Lib.hid hO
  clear hD hO
  rcases hcase with ⟨hd, rfl⟩ | ⟨hd, hg, rfl⟩ | ⟨hd, x, hg, hf, rfl⟩
  · have HR : Hid (removeR s n.data.toList = (s.call, 5)) := Lib.hid (by simp [removeR, hd])
    clear hd hkey
    go_wp2_with fail
    go_ret
    exact ⟨by rw [HR.out] <;> rfl, by rw [HR.out]; exact HN.out⟩
  · have HR : Hid (removeR s n.data.toList = (s.call, 2)) := Lib.hid (by simp [removeR, hd, hg])
    clear hd hg hkey
    go_wp2_with fail
    go_ret
    exact ⟨by rw [HR.out] <;> rfl, by rw [HR.out]; exact HN.out⟩
  · have HR : Hid (removeR s n.data.toList = (s.call.drop n.data.toList, 0)) := Lib.hid (by simp [removeR, hd, hg])
    have c1 : w2.cell? ⟨p, 1, none⟩ = some (.map (some m)) := by rw [cells_at HD.out.heap]; rfl
    have hown := HD.out.own
    have HW := Lib.hid hown
    have HK := Lib.hid hkey
    clear hd hg hf hown hkey
    go_wp2_with (at_delete; refine wpList_delete_own _ rfl _ _ 83 9 rfl 93 lawS Tryz.underlying83 ptrElem m L.length (ents L) rfl HW.out _ _ rfl HK.out ?_; intro w3 ho3 ht3; have O3 := Lib.hid ho3; have T3 := Lib.hid ht3; clear ho3 ht3)
    go_ret
    refine ⟨by rw [HR.out] <;> rfl, ?_⟩
    rw [HR.out]
    have hD3 := HD.out.dropped n.data.toList O3.out (turned_only T3.out)
    refine ⟨B, ⟨ok_drop (ok_call HS.out) _, m, _, hD3⟩, ?_, fun b hb => .inl hb⟩
    exact (HO.out.mono (fun i e => by subst e; exact HD.out.mine _ (by simp))).trans ((turned_only T3.out).mono fun i e => by subst e; exact HD.out.mine _ (by simp))
theorem d_remove (p : Nat) (s : St) (n : ByteArray) (hn : n.size ≤ 1000) (hm : rightB n.data.toList = true) (h1 : s.calls ≤ 1000000000000) (w : World) (B : Nat → Prop) (h : DiskA p s w B) :
    Calls Tryz.prog 44 #[.pointer (some ⟨p, 0, none⟩), .string n] w (Does w B (DiskA p (removeR s n.data.toList).1) (.int .i64 (removeR s n.data.toList).2)) :=
  (remove_c p s B n w h hn hm h1).mono fun e w' k => tells_does k
end Go.Proofs.YtignfbdgpgidpaaGreatDoor
/- The contract of Rename. -/
namespace Go.Proofs.YtignfbdgpgidpaaGreatDoor
open Go.RowKit FsPlain Go.Maps
set_option linter.unusedVariables false
set_option linter.unusedSimpArgs false
set_option maxRecDepth 20000
namespace FsPlain
end FsPlain
end Go.Proofs.YtignfbdgpgidpaaGreatDoor
/- Plain facts of commit: what Save and Load make of a disk; what a fall leaves of the manifest's file. -/
namespace Go.Proofs.YtignfbdgpgidpaaGreatDoor
open Go.RowKit FsPlain
set_option linter.unusedVariables false
set_option linter.unusedSimpArgs false
namespace CmPlain
def nameL : List UInt8 := [109, 97, 110, 105, 102, 101, 115, 116]
theorem name_right : rightB nameL = true := by decide
def loadT (s : St) : St := if (sizeR s nameL).2 = 0 then s.call.call else s.call
def loadE (s : St) : Int × Option (List UInt8) := if (sizeR s nameL).2 = 2 then (0, none) else if (sizeR s nameL).2 ≠ 0 then ((sizeR s nameL).2, none) else
  if (readR s.call nameL 0 (sizeR s nameL).1.toNat).2 ≠ 0 then ((readR s.call nameL 0 (sizeR s nameL).1.toNat).2, none) else (0, some (readR s.call nameL 0 (sizeR s nameL).1.toNat).1)
def Keeps (s : St) (o : Option (List UInt8)) : Prop := s.get nameL = o.map fun x => ⟨nameL, x, x.length⟩
theorem calls_remove (s : St) (n : List UInt8) : (removeR s n).1.calls = s.calls + 1 := by
  unfold removeR
  split
  · rfl
  · split <;> rfl
end CmPlain
end Go.Proofs.YtignfbdgpgidpaaGreatDoor
/- Plain facts on a reader of records, without the model: what each call makes of the disk, the budget and the reader. -/
namespace Go.Proofs.YtignfbdgpgidpaaGreatDoor
open Go.RowKit FsPlain CrcPlain OctPlain FramePlain RecPlain
set_option linter.unusedVariables false
set_option linter.unusedSimpArgs false
set_option maxRecDepth 20000
namespace RdPlain
structure Rs where
  nm : ByteArray
  size : Int
  pos : Nat
  left : Nat
  queue : List ByteArray
  all : List ByteArray
  told : Nat
  opn : Bool
  bad : Bool
  whole : Bool
  short : Bool
  ec : Int
  em : Int
structure N3 where
  s : St
  b : Bu
  x : Rs
def shutN (m : N3) : N3 := if m.x.opn = true then ⟨m.s, m.b.give 4, { m.x with opn := false }⟩ else m
def N3.isBad (m : N3) : N3 := ⟨m.s, m.b, { m.x with bad := true }⟩
def wrongN (m : N3) : N3 := shutN m.isBad
def askN (x : Rs) : Nat := min x.left (max 17 (roomN x.size).toNat)
def bytesN (m : N3) : ByteArray := bs (readR m.s m.x.nm.data.toList m.x.pos (askN m.x)).1
def errN (m : N3) : Int := (readR m.s m.x.nm.data.toList m.x.pos (askN m.x)).2
def N3.asked (m : N3) : N3 := ⟨m.s.call, m.b, m.x⟩
def N3.ended (m : N3) (t : ByteArray) : N3 := ⟨m.s, m.b, { m.x with whole := true, ec := eC t, em := eM t }⟩
def N3.filled (m : N3) (t : ByteArray) : N3 := ⟨m.s, m.b, { m.x with short := decide ((gL m.x.size t).length < 4), queue := gL m.x.size t, all := m.x.all ++ gL m.x.size t, pos := m.x.pos + (gN m.x.size t).toNat, left := m.x.left - (gN m.x.size t).toNat }⟩
def N3.popped (m : N3) : N3 := ⟨m.s, m.b, { m.x with queue := m.x.queue.tail, told := m.x.told + 1 }⟩
def isEnd (x : Rs) (t : ByteArray) : Prop := gB x.size t = false ∧ eB t = true ∧ t.size = x.left ∧ eC t = (x.all.length : Int) ∧ eM t = (sumN x.all : Nat)
instance (x : Rs) (t : ByteArray) : Decidable (isEnd x t) := by unfold isEnd; infer_instance
abbrev Ans := ByteArray × Bool × Int
def noneA (e : Int) : Ans := (⟨#[]⟩, false, e)
def popN (m : N3) : N3 × Ans := (m.popped, (m.x.queue.headD ⟨#[]⟩, true, 0))
def fillN (m : N3) : N3 × Ans :=
  if ¬ errN m = 0 then (wrongN m.asked, noneA (errN m))
  else if isEnd m.x (bytesN m) then (shutN (m.asked.ended (bytesN m)), noneA 0)
  else if gB m.x.size (bytesN m) = false ∨ m.x.short = true then (wrongN m.asked, noneA 6)
  else popN (m.asked.filled (bytesN m))
def nextN (m : N3) : N3 × Ans :=
  if m.x.opn = false then (m, noneA (if m.x.bad = true then 14 else 0))
  else if m.x.queue = [] then fillN m
  else popN m
def newRs (nm : ByteArray) (size : Int) (left : Nat) : Rs := ⟨nm, size, 11, left, [], [], 0, true, false, false, false, 0, 0⟩
def openN (s : St) (b : Bu) (nm : ByteArray) (size : Int) : St × Bu × Int × Nat :=
  if sizeB size = false then (s, b, 1, 0)
  else if ¬ b.takeE 4 = 0 then (s, b.take 4, b.takeE 4, 0)
  else if ¬ (sizeR s nm.data.toList).2 = 0 then (s.call, (b.take 4).give 4, (sizeR s nm.data.toList).2, 0)
  else if (sizeR s nm.data.toList).1 < 11 then (s.call, (b.take 4).give 4, 6, 0)
  else if ¬ (readR s.call nm.data.toList 0 11).2 = 0 then (s.call.call, (b.take 4).give 4, (readR s.call nm.data.toList 0 11).2, 0)
  else if ¬ (ghB (bs (readR s.call nm.data.toList 0 11).1) = true ∧ ghN (bs (readR s.call nm.data.toList 0 11).1) = size) then (s.call.call, (b.take 4).give 4, 6, 0)
  else (s.call.call, b.take 4, 0, (sizeR s nm.data.toList).1.toNat - 11)
structure N3.ok (m : N3) : Prop where
  s : m.s.ok
  b : m.b.ok
  n1 : m.x.nm.size ≤ 24
  n2 : rightB m.x.nm.data.toList = true
  z : sizeB m.x.size = true
  az : ∀ r ∈ m.x.all, r.size ≤ 1000
  fit : m.x.pos + m.x.left ≤ 16777216
  cnt : m.x.all.length = m.x.told + m.x.queue.length
  ql : m.x.queue.length ≤ 4
theorem ok_shutN {m : N3} (h : m.ok) : (shutN m).ok := by
  unfold shutN
  split
  · exact ⟨h.s, Bu.give_ok h.b 4, h.n1, h.n2, h.z, h.az, h.fit, h.cnt, h.ql⟩
  · exact h
theorem ok_isBad {m : N3} (h : m.ok) : m.isBad.ok := ⟨h.s, h.b, h.n1, h.n2, h.z, h.az, h.fit, h.cnt, h.ql⟩
theorem ok_wrongN {m : N3} (h : m.ok) : (wrongN m).ok := ok_shutN (ok_isBad h)
theorem ok_asked {m : N3} (h : m.ok) : m.asked.ok := ⟨ok_call h.s, h.b, h.n1, h.n2, h.z, h.az, h.fit, h.cnt, h.ql⟩
theorem ok_ended {m : N3} (h : m.ok) (t : ByteArray) : (m.ended t).ok := ⟨h.s, h.b, h.n1, h.n2, h.z, h.az, h.fit, h.cnt, h.ql⟩
theorem ok_popped {m : N3} (h : m.ok) (hq : m.x.queue ≠ []) : m.popped.ok := by
  obtain ⟨r, q, hr⟩ := List.exists_cons_of_ne_nil hq
  have h1 := h.cnt
  have h2 := h.ql
  refine ⟨h.s, h.b, h.n1, h.n2, h.z, h.az, h.fit, ?_, ?_⟩
  · show m.x.all.length = m.x.told + 1 + m.x.queue.tail.length; rw [hr] at h1 ⊢; simp at h1 ⊢; omega
  · show m.x.queue.tail.length ≤ 4; rw [hr] at h2 ⊢; simp at h2 ⊢; omega
theorem bytesN_size {m : N3} (h : errN m = 0) : (bytesN m).size = askN m.x := by
  unfold errN at h
  unfold bytesN
  rw [bs_size]
  unfold readR at h ⊢
  split at h
  · simp at h
  · rename_i h1
    rw [if_neg h1]
    split at h
    · simp at h
    · rename_i f hf
      split at h
      · simp at h
      · rename_i h2
        rw [if_neg h2]
        simp
        omega
theorem gL_size {size : Int} {t : ByteArray} (h : gB size t = true) : 1 ≤ (gL size t).length ∧ (gL size t).length ≤ 4 ∧ ∀ r ∈ gL size t, (r.size : Int) = size := by
  obtain ⟨h1, _⟩ := get_is h
  unfold blkB at h1
  simp only [Bool.and_eq_true, decide_eq_true_eq] at h1
  exact ⟨h1.1.2.1, h1.1.2.2, allB_iff.1 h1.2⟩
theorem ok_filled {m : N3} (h : m.ok) {t : ByteArray} (hb : gB m.x.size t = true) (ht : t.size ≤ m.x.left) (hq : m.x.queue = []) : (m.filled t).ok ∧ (m.filled t).x.queue ≠ [] := by
  obtain ⟨h1, h2, h3⟩ := gL_size hb
  obtain ⟨_, n, hn, hn2, _⟩ := get_is hb
  have hz : 1 ≤ m.x.size ∧ m.x.size ≤ 64 := by simpa [sizeB] using h.z
  have hf := h.fit
  have hc := h.cnt
  refine ⟨⟨h.s, h.b, h.n1, h.n2, h.z, ?_, ?_, ?_, h2⟩, fun e => ?_⟩
  · intro r hr
    rcases List.mem_append.1 hr with hr | hr
    · exact h.az r hr
    · have := h3 r hr; omega
  · show m.x.pos + (gN m.x.size t).toNat + (m.x.left - (gN m.x.size t).toNat) ≤ _
    rw [hn]; simp only [Int.toNat_natCast]; omega
  · show (m.x.all ++ gL m.x.size t).length = m.x.told + (gL m.x.size t).length
    rw [List.length_append, hc, hq]; simp
  · have e2 : gL m.x.size t = [] := e
    rw [e2] at h1; simp at h1
theorem ask_left (x : Rs) : askN x ≤ x.left := Nat.min_le_left _ _
theorem ok_fillN {m : N3} (h : m.ok) (hq : m.x.queue = []) : (fillN m).1.ok := by
  unfold fillN
  split
  · exact ok_wrongN (ok_asked h)
  · rename_i h0
    have hs := bytesN_size (m := m) (by simpa using h0)
    split
    · exact ok_shutN (ok_ended (ok_asked h) _)
    · split
      · exact ok_wrongN (ok_asked h)
      · rename_i h2
        have hb : gB m.x.size (bytesN m) = true := by
          cases hb : gB m.x.size (bytesN m)
          · exact absurd (.inl hb) h2
          · rfl
        obtain ⟨k1, k2⟩ := ok_filled (m := m.asked) (ok_asked h) hb (by rw [hs]; exact ask_left _) hq
        exact ok_popped k1 k2
theorem ok_nextN {m : N3} (h : m.ok) : (nextN m).1.ok := by
  unfold nextN
  split
  · exact h
  · split
    · rename_i hq; exact ok_fillN h hq
    · rename_i hq; exact ok_popped h hq
theorem shutN_calls (m : N3) : (shutN m).s.calls = m.s.calls ∧ (shutN m).x.told = m.x.told := by unfold shutN; split <;> exact ⟨rfl, rfl⟩
theorem nextN_calls (m : N3) : m.s.calls ≤ (nextN m).1.s.calls ∧ (nextN m).1.s.calls ≤ m.s.calls + 1 ∧ (nextN m).1.x.told ≤ m.x.told + 1 := by
  have h1 : (wrongN m.asked).s.calls = m.s.calls + 1 ∧ (wrongN m.asked).x.told = m.x.told := shutN_calls _
  unfold nextN
  split
  · simp only []; omega
  · split
    · unfold fillN
      split
      · simp only []; omega
      · split
        · have h2 : (shutN (m.asked.ended (bytesN m))).s.calls = m.s.calls + 1 ∧ (shutN (m.asked.ended (bytesN m))).x.told = m.x.told := shutN_calls _
          simp only []; omega
        · split
          · simp only []; omega
          · show m.s.calls ≤ m.s.calls + 1 ∧ m.s.calls + 1 ≤ m.s.calls + 1 ∧ m.x.told + 1 ≤ m.x.told + 1; omega
    · show m.s.calls ≤ m.s.calls ∧ m.s.calls ≤ m.s.calls + 1 ∧ m.x.told + 1 ≤ m.x.told + 1; omega
theorem openN_calls (s : St) (b : Bu) (nm : ByteArray) (size : Int) : s.calls ≤ (openN s b nm size).1.calls ∧ (openN s b nm size).1.calls ≤ s.calls + 2 := by
  have h1 : s.call.calls = s.calls + 1 := rfl
  have h2 : s.call.call.calls = s.calls + 2 := by show s.calls + 1 + 1 = _; omega
  unfold openN
  repeat' split
  all_goals simp only []; omega
theorem sizeR_le {s : St} (hs : s.ok) (n : List UInt8) : (sizeR s n).1 ≤ 16777216 := by
  unfold sizeR
  split
  · simp
  · split
    · simp
    · rename_i f hf
      have h1 := used_le (get_mem hf)
      have h2 := hs.u
      have h3 := hs.r1
      simp only []; omega
theorem openN_yes {s : St} {b : Bu} {nm : ByteArray} {size : Int} (h0 : (openN s b nm size).2.2.1 = 0) : sizeB size = true ∧ b.takeE 4 = 0 ∧ (sizeR s nm.data.toList).2 = 0 ∧ 11 ≤ (sizeR s nm.data.toList).1 ∧ (readR s.call nm.data.toList 0 11).2 = 0 ∧ ghB (bs (readR s.call nm.data.toList 0 11).1) = true ∧ ghN (bs (readR s.call nm.data.toList 0 11).1) = size ∧ openN s b nm size = (s.call.call, b.take 4, 0, (sizeR s nm.data.toList).1.toNat - 11) := by
  unfold openN at h0 ⊢
  split at h0
  · simp at h0
  · rename_i h1
    rw [if_neg h1]
    split at h0
    · rename_i h2; exact absurd h0 h2
    · rename_i h2
      rw [if_neg h2]
      split at h0
      · rename_i h3; exact absurd h0 h3
      · rename_i h3
        rw [if_neg h3]
        split at h0
        · simp at h0
        · rename_i h4
          rw [if_neg h4]
          split at h0
          · rename_i h5; exact absurd h0 h5
          · rename_i h5
            rw [if_neg h5]
            split at h0
            · simp at h0
            · rename_i h6
              rw [if_neg h6]
              have h6' := Decidable.not_not.1 h6
              exact ⟨by simpa using h1, Decidable.not_not.1 h2, Decidable.not_not.1 h3, by omega, Decidable.not_not.1 h5, h6'.1, h6'.2, rfl⟩
theorem openN_ok {s : St} {b : Bu} {nm : ByteArray} {size : Int} (hs : s.ok) (hb : b.ok) (hn : nm.size ≤ 24) (hm : rightB nm.data.toList = true) (h0 : (openN s b nm size).2.2.1 = 0) : (N3.mk (openN s b nm size).1 (openN s b nm size).2.1 (newRs nm size (openN s b nm size).2.2.2)).ok := by
  obtain ⟨h1, h2, h3, h4, h5, h6, h7, e⟩ := openN_yes h0
  have hl := sizeR_le hs nm.data.toList
  rw [e]
  refine ⟨ok_call (ok_call hs), Bu.take_ok hb 4, hn, hm, h1, (fun r hr => by cases hr), ?_, rfl, Nat.zero_le _⟩
  show 11 + ((sizeR s nm.data.toList).1.toNat - 11) ≤ 16777216
  omega
end RdPlain
end Go.Proofs.YtignfbdgpgidpaaGreatDoor

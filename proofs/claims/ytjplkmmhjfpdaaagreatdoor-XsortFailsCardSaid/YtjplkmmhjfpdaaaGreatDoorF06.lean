/- In one text: Bud, WrPlain, WrPlain2, WrHas, WrLaid, WrCalm. -/
import Derived.Test.YtjplkmmhjfpdaaaGreatDoorF05
import Derived.RegionTactic
import Derived.ChangeAlike
import Derived.Deep.QuietTactic
import Derived.BigQuiet
import Derived.Test.YtjplkmmhjfpdaaaGreatDoorF00
import Derived.Test.YtjplkmmhjfpdaaaGreatDoorF03
/- A budget: what it is, what its calls make of it, their contracts. -/
namespace Go.Proofs.YtjplkmmhjfpdaaaGreatDoor
open Go.RowKit
set_option linter.unusedVariables false
set_option linter.unusedSimpArgs false
set_option maxRecDepth 20000
structure Bu where
  m : Int
  now : Int
  high : Int
structure Bu.ok (b : Bu) : Prop where
  n0 : 0 ≤ b.now
  n1 : b.now ≤ b.high
  h1 : b.high ≤ b.m
  m1 : b.m ≤ 9223372036854775807
def Bu.take (b : Bu) (n : Int) : Bu := if n < 0 ∨ b.m - b.now < n then b else ⟨b.m, b.now + n, max b.high (b.now + n)⟩
def Bu.takeE (b : Bu) (n : Int) : Int := if n < 0 then 1 else if b.m - b.now < n then 9 else 0
def Bu.give (b : Bu) (n : Int) : Bu := if n < 0 then b else ⟨b.m, b.now - min n b.now, b.high⟩
theorem Bu.take_ok {b : Bu} (h : b.ok) (n : Int) : (b.take n).ok := by
  obtain ⟨h1, h2, h3, h4⟩ := h
  unfold Bu.take
  split
  · exact ⟨h1, h2, h3, h4⟩
  · constructor <;> simp only [] <;> omega
theorem Bu.give_ok {b : Bu} (h : b.ok) (n : Int) : (b.give n).ok := by
  obtain ⟨h1, h2, h3, h4⟩ := h
  unfold Bu.give
  split
  · exact ⟨h1, h2, h3, h4⟩
  · constructor <;> simp only [] <;> omega
def bcells (b : Bu) : Array Value := #[.bool true, .int .i64 b.m, .int .i64 b.now, .int .i64 b.high]
def BAt (w : World) (p : Nat) (b : Bu) : Prop := b.ok ∧ w.heap[p]? = some (.cells (bcells b) 77 (0, 0))
theorem BAt.only {w w' : World} {p : Nat} {b : Bu} {C : Nat → Prop} (h : BAt w p b) (g : Only C w w') (hC : ¬ C p) : BAt w' p b :=
  ⟨h.1, by rw [g.block p (lt_of_block h.2) hC]; exact h.2⟩
theorem BAt.gr {w w' : World} {p : Nat} {b : Bu} (h : BAt w p b) (g : Gr w w') : BAt w' p b := h.only (Only.ofGr (B := fun _ => False) g) id
theorem bmade_c (p : Nat) (b : Bu) (w : World) (h : BAt w p b) :
    Calls Tryz.prog 52 #[.pointer (some ⟨p, 0, none⟩)] w fun e w' => e = .returned (.bool true) ∧ w = w' := by
  have c0 : w.cell? ⟨p, 0, none⟩ = some (.bool true) := by rw [cells_at h.2]; rfl
  clear h
  go_enter Tryz.func52, Tryz.ntmps52
  go_wp2_with fail
  go_ret
  exact ⟨rfl, rfl⟩
theorem bleft_c (p : Nat) (b : Bu) (w : World) (h : BAt w p b) :
    Calls Tryz.prog 39 #[.pointer (some ⟨p, 0, none⟩)] w fun e w' => e = .returned (.int .i64 (b.m - b.now)) ∧ Gr w w' := by
  have C := bmade_c p b w h
  have c1 : w.cell? ⟨p, 1, none⟩ = some (.int .i64 b.m) := by rw [cells_at h.2]; rfl
  have c2 : w.cell? ⟨p, 2, none⟩ = some (.int .i64 b.now) := by rw [cells_at h.2]; rfl
  obtain ⟨⟨n0, n1, h1, m1⟩, _⟩ := h
  go_enter Tryz.func39, Tryz.ntmps39
  go_wp2_with fail
  refine C.mono ?_; rintro e w2 ⟨rfl, rfl⟩
  go_wp2_with fail
  go_quiet (fail)
  go_wp2_with fail
  go_ret
  exact ⟨rfl, grN _ _⟩
theorem bnow_c (p : Nat) (b : Bu) (w : World) (h : BAt w p b) :
    Calls Tryz.prog 20 #[.pointer (some ⟨p, 0, none⟩)] w fun e w' => e = .returned (.int .i64 b.now) ∧ w = w' := by
  have C := bmade_c p b w h
  have c2 : w.cell? ⟨p, 2, none⟩ = some (.int .i64 b.now) := by rw [cells_at h.2]; rfl
  clear h
  go_enter Tryz.func20, Tryz.ntmps20
  go_wp2_with fail
  refine C.mono ?_; rintro e w2 ⟨rfl, rfl⟩
  go_wp2_with fail
  go_ret
  exact ⟨rfl, rfl⟩
theorem bhigh_c (p : Nat) (b : Bu) (w : World) (h : BAt w p b) :
    Calls Tryz.prog 21 #[.pointer (some ⟨p, 0, none⟩)] w fun e w' => e = .returned (.int .i64 b.high) ∧ w = w' := by
  have C := bmade_c p b w h
  have c3 : w.cell? ⟨p, 3, none⟩ = some (.int .i64 b.high) := by rw [cells_at h.2]; rfl
  clear h
  go_enter Tryz.func21, Tryz.ntmps21
  go_wp2_with fail
  refine C.mono ?_; rintro e w2 ⟨rfl, rfl⟩
  go_wp2_with fail
  go_ret
  exact ⟨rfl, rfl⟩
theorem bnew_c (m : Int) (w : World) (h : 0 ≤ m) (h2 : m ≤ 9223372036854775807) :
    Calls Tryz.prog 12 #[.int .i64 m] w fun e w' => e = .returned (.pointer (some ⟨w.heap.size, 0, none⟩)) ∧ BAt w' w.heap.size ⟨m, 0, 0⟩ ∧ Gr w w' := by
  go_enter Tryz.func12, Tryz.ntmps12
  go_wp2_with fail
  go_ret
  exact ⟨rfl, ⟨⟨Int.le_refl 0, Int.le_refl 0, h, h2⟩, heap_alloc_new w _⟩, Below.alloc (Below.refl _ _) (Nat.le_refl _) _⟩
theorem btake_of {p : Nat} {b : Bu} {w : World} (h : BAt w p b) {n a c : Int} (h0 : 0 ≤ n) (h1 : n ≤ b.m - b.now) (ha : a = b.now + n) (hc : c = max b.high (b.now + n)) :
    BAt ((w.setCell ⟨p, 2, none⟩ (.int .i64 a)).setCell ⟨p, 3, none⟩ (.int .i64 c)).drew p (b.take n) ∧ Only (fun i => i = p) w ((w.setCell ⟨p, 2, none⟩ (.int .i64 a)).setCell ⟨p, 3, none⟩ (.int .i64 c)).drew := by
  subst ha hc
  refine ⟨⟨Bu.take_ok h.1 n, ?_⟩, ((Only.cell1 _ _ _ _).trans (Only.cell1 _ _ _ _)).trans (Only.drew _ _)⟩
  have e : b.take n = ⟨b.m, b.now + n, max b.high (b.now + n)⟩ := by unfold Bu.take; rw [if_neg (by omega)]
  rw [e]; show ((w.setCell _ _).setCell _ _).heap[p]? = _; rw [cells_set (cells_set h.2 2 _) 3 _]; rfl
theorem bgive_of {p : Nat} {b : Bu} {w : World} (h : BAt w p b) {n a : Int} (h0 : 0 ≤ n) (ha : a = b.now - min n b.now) :
    BAt (w.setCell ⟨p, 2, none⟩ (.int .i64 a)).drew p (b.give n) ∧ Only (fun i => i = p) w (w.setCell ⟨p, 2, none⟩ (.int .i64 a)).drew := by
  subst ha
  refine ⟨⟨Bu.give_ok h.1 n, ?_⟩, (Only.cell1 _ _ _ _).trans (Only.drew _ _)⟩
  have e : b.give n = ⟨b.m, b.now - min n b.now, b.high⟩ := by unfold Bu.give; rw [if_neg (by omega)]
  rw [e]; show (w.setCell _ _).heap[p]? = _; rw [cells_set h.2 2 _]; rfl
def BTaken (p : Nat) (b' : Bu) (w : World) (v : Value) (e : Ending) (w' : World) : Prop := e = .returned v ∧ BAt w' p b' ∧ Only (fun i => i = p) w w'
set_option maxHeartbeats 1000000 in
theorem btake_c (p : Nat) (b : Bu) (n : Int) (w : World) (h : BAt w p b) :
    Calls Tryz.prog 91 #[.pointer (some ⟨p, 0, none⟩), .int .i64 n] w (BTaken p (b.take n) w (.int .i64 (b.takeE n))) := by
  have C := bmade_c p b w h
  have CL := bleft_c p b w h
  have H := Lib.hid h
  obtain ⟨⟨n0, n1, h1, m1⟩, _⟩ := h
  obtain ⟨l, hl⟩ : ∃ l, l = b.m - b.now := ⟨_, rfl⟩
  rw [← hl] at CL
  have HL := Lib.hid hl
  by_cases h3 : n < 0
  · clear hl
    go_enter Tryz.func91, Tryz.ntmps91
    go_wp2_with fail
    refine C.mono ?_; rintro e w2 ⟨rfl, rfl⟩
    go_wp2_with fail
    go_ret
    rw [show b.take n = b by unfold Bu.take; rw [if_pos (.inl h3)]]
    exact ⟨ret_i (by unfold Bu.takeE; rw [if_pos h3]), H.out, Only.refl _ _⟩
  · by_cases h4 : l < n
    · clear hl
      go_enter Tryz.func91, Tryz.ntmps91
      go_wp2_with fail
      refine C.mono ?_; rintro e w2 ⟨rfl, rfl⟩
      go_wp2_with fail
      refine CL.mono ?_; rintro e w2 ⟨rfl, g⟩
      have HG := Lib.hid g
      clear g
      go_wp2_with fail
      go_ret
      rw [show b.take n = b by unfold Bu.take; rw [← HL.out, if_pos (.inr h4)]]
      exact ⟨ret_i (by unfold Bu.takeE; rw [← HL.out, if_neg (by omega), if_pos h4]), H.out.gr HG.out, Only.ofGr HG.out⟩
    · have he : b.takeE n = 0 := by unfold Bu.takeE; rw [← hl, if_neg h3, if_neg h4]
      rw [he]
      have hle : b.now + n ≤ 9223372036854775807 := by omega
      have K := Lib.hid (fun w2 (g : Gr w w2) a c (ha : a = b.now + n) hc => (btake_of (n := n) (a := a) (c := c) (H.out.gr g) (by omega) (by omega) ha hc).imp id (fun o => (Only.ofGr (B := fun i => i = p) g).trans o))
      clear he hl
      go_enter Tryz.func91, Tryz.ntmps91
      go_wp2_with fail
      refine C.mono ?_; rintro e w2 ⟨rfl, rfl⟩
      go_wp2_with fail
      refine CL.mono ?_; rintro e w2 ⟨rfl, g⟩
      have c2 : w2.cell? ⟨p, 2, none⟩ = some (.int .i64 b.now) := by rw [cells_at (H.out.gr g).2]; rfl
      have c3 : w2.cell? ⟨p, 3, none⟩ = some (.int .i64 b.high) := by rw [cells_at (H.out.gr g).2]; rfl
      have f2 := cells_free (H.out.gr g).2 2
      have f3 := cells_free (H.out.gr g).2 3
      have HG := Lib.hid g
      clear g C CL
      go_wp2_with fail
      go_region
      all_goals go_wp2_with fail
      all_goals
        go_ret
        refine ⟨rfl, K.out _ HG.out _ _ ?_ ?_⟩ <;> omega
set_option maxHeartbeats 1000000 in
theorem bgive_c (p : Nat) (b : Bu) (n : Int) (w : World) (h : BAt w p b) :
    Calls Tryz.prog 92 #[.pointer (some ⟨p, 0, none⟩), .int .i64 n] w (BTaken p (b.give n) w (.tuple #[])) := by
  have C := bmade_c p b w h
  have c2 : w.cell? ⟨p, 2, none⟩ = some (.int .i64 b.now) := by rw [cells_at h.2]; rfl
  have f2 := cells_free h.2 2
  have H := Lib.hid h
  obtain ⟨⟨n0, n1, h1, m1⟩, _⟩ := h
  by_cases h3 : n < 0
  · go_enter Tryz.func92, Tryz.ntmps92
    go_wp2_with fail
    refine C.mono ?_; rintro e w2 ⟨rfl, rfl⟩
    go_wp2_with fail
    refine bodyPost_ret (results_none rfl _ _ _) rfl ?_
    rw [show b.give n = b by unfold Bu.give; rw [if_pos h3]]
    exact ⟨rfl, H.out, Only.refl _ _⟩
  · have K := Lib.hid (fun a (ha : a = b.now - min n b.now) => bgive_of (n := n) (a := a) H.out (by omega) ha)
    go_enter Tryz.func92, Tryz.ntmps92
    go_wp2_with fail
    refine C.mono ?_; rintro e w2 ⟨rfl, rfl⟩
    go_wp2_with fail
    go_region
    all_goals go_wp2_with fail
    all_goals
      go_end0
      refine ⟨rfl, K.out _ ?_⟩; omega
end Go.Proofs.YtjplkmmhjfpdaaaGreatDoor
/- Plain facts on a writer of records, without the model: what each call makes of the disk, the budget and the writer. -/
namespace Go.Proofs.YtjplkmmhjfpdaaaGreatDoor
open Go.RowKit FsPlain CrcPlain OctPlain FramePlain RecPlain
set_option linter.unusedVariables false
set_option linter.unusedSimpArgs false
set_option maxRecDepth 20000
namespace WrPlain
structure Ws where
  nm : ByteArray
  size : Int
  wait : List ByteArray
  all : List ByteArray
  opn : Bool
structure M3 where
  s : St
  b : Bu
  x : Ws
def dropM (m : M3) : M3 := if m.x.opn = true then ⟨m.s, m.b.give 4, { m.x with opn := false }⟩ else m
def layM (m : M3) (t : ByteArray) : M3 × Int :=
  if (appendR m.s m.x.nm.data.toList t.data.toList).2 = 0 then (⟨(appendR m.s m.x.nm.data.toList t.data.toList).1, m.b, m.x⟩, 0)
  else (dropM ⟨(appendR m.s m.x.nm.data.toList t.data.toList).1, m.b, m.x⟩, (appendR m.s m.x.nm.data.toList t.data.toList).2)
def Ws.put (x : Ws) (r : ByteArray) : Ws := { x with wait := x.wait ++ [r], all := x.all ++ [r] }
def Ws.none (x : Ws) : Ws := { x with wait := [] }
def putM (m : M3) (r : ByteArray) : M3 × Int :=
  if m.x.opn = false then (m, 14)
  else if ¬ (r.size : Int) = m.x.size then (m, 1)
  else if m.x.wait.length < 3 then (⟨m.s, m.b, m.x.put r⟩, 0)
  else layM ⟨m.s, m.b, (m.x.put r).none⟩ (blkS m.x.size (m.x.wait ++ [r]))
def flushM (m : M3) : M3 × Int := if m.x.wait.length = 0 then (m, 0) else layM m (blkS m.x.size m.x.wait)
def endM (m : M3) : M3 × Int := layM m (peS m.x.all.length (sumN m.x.all))
def syncM (m : M3) : M3 × Int := (⟨(syncR m.s m.x.nm.data.toList).1, m.b, m.x⟩, (syncR m.s m.x.nm.data.toList).2)
def closeM (m : M3) : M3 × Int :=
  if m.x.opn = false then (m, 14)
  else if ¬ (flushM m).2 = 0 then flushM m
  else if ¬ (endM (flushM m).1).2 = 0 then (dropM (endM (flushM m).1).1, (endM (flushM m).1).2)
  else (dropM (syncM (endM (flushM m).1).1).1, (syncM (endM (flushM m).1).1).2)
structure M3.ok (m : M3) : Prop where
  s : m.s.ok
  b : m.b.ok
  n1 : m.x.nm.size ≤ 24
  n2 : rightB m.x.nm.data.toList = true
  z : sizeB m.x.size = true
  wl : m.x.wait.length ≤ 3
  wz : ∀ r ∈ m.x.wait, (r.size : Int) = m.x.size
  az : ∀ r ∈ m.x.all, (r.size : Int) = m.x.size
theorem ok_append {s : St} (h : s.ok) (n t : List UInt8) : (appendR s n t).1.ok := by
  unfold appendR
  have hc := ok_call h
  split
  · exact hc
  · cases hg : s.get n with
    | none => exact hc
    | some f =>
      simp only []
      split
      · exact hc
      · rename_i hu
        have hk := h.k f (get_mem hg)
        refine ok_upd (s := s.call) hc (n := n) (f := f) hg (g := fun f => { f with data := f.data ++ t }) rfl ?_ ?_
        · show f.kept ≤ (f.data ++ t).length; rw [List.length_append]; omega
        · show (used s.fs : Int) + ((f.data ++ t).length : Int) ≤ s.room + f.data.length; rw [List.length_append]; omega
theorem ok_sync {s : St} (h : s.ok) (n : List UInt8) : (syncR s n).1.ok := by
  unfold syncR
  have hc := ok_call h
  split
  · exact hc
  · cases hg : s.get n with
    | none => exact hc
    | some f =>
      simp only []
      refine ok_upd (s := s.call) hc (n := n) (f := f) hg (g := fun f => { f with kept := f.data.length }) rfl (Nat.le_refl _) ?_
      show (used s.fs : Int) + (f.data.length : Int) ≤ s.room + f.data.length
      have := h.u; omega
theorem append_calls (s : St) (n t : List UInt8) : (appendR s n t).1.calls = s.calls + 1 := by
  unfold appendR
  split
  · rfl
  · cases s.get n with
    | none => rfl
    | some f => simp only []; split <;> rfl
theorem sync_calls (s : St) (n : List UInt8) : (syncR s n).1.calls = s.calls + 1 := by
  unfold syncR
  split
  · rfl
  · cases s.get n <;> rfl
theorem ok_dropM {m : M3} (h : m.ok) : (dropM m).ok := by
  unfold dropM
  split
  · exact ⟨h.s, Bu.give_ok h.b 4, h.n1, h.n2, h.z, h.wl, h.wz, h.az⟩
  · exact h
theorem dropM_calls (m : M3) : (dropM m).s.calls = m.s.calls := by unfold dropM; split <;> rfl
theorem ok_layM {m : M3} (h : m.ok) (t : ByteArray) : (layM m t).1.ok := by
  have hs := ok_append h.s m.x.nm.data.toList t.data.toList
  unfold layM
  split
  · exact ⟨hs, h.b, h.n1, h.n2, h.z, h.wl, h.wz, h.az⟩
  · exact ok_dropM ⟨hs, h.b, h.n1, h.n2, h.z, h.wl, h.wz, h.az⟩
theorem layM_calls (m : M3) (t : ByteArray) : (layM m t).1.s.calls = m.s.calls + 1 := by
  unfold layM
  split
  · exact append_calls _ _ _
  · rw [dropM_calls]; exact append_calls _ _ _
theorem ok_putM {m : M3} (h : m.ok) (r : ByteArray) : (putM m r).1.ok := by
  unfold putM
  split
  · exact h
  · split
    · exact h
    · rename_i hz
      have hz' : (r.size : Int) = m.x.size := by omega
      have az : ∀ q ∈ m.x.all ++ [r], (q.size : Int) = m.x.size := fun q hq => by
        rcases List.mem_append.1 hq with hq | hq
        · exact h.az q hq
        · rw [List.mem_singleton.1 hq]; exact hz'
      split
      · refine ⟨h.s, h.b, h.n1, h.n2, h.z, ?_, ?_, az⟩
        · show (m.x.wait ++ [r]).length ≤ 3; rw [List.length_append, List.length_singleton]; omega
        · intro q hq
          rcases List.mem_append.1 hq with hq | hq
          · exact h.wz q hq
          · rw [List.mem_singleton.1 hq]; exact hz'
      · exact ok_layM (m := ⟨m.s, m.b, (m.x.put r).none⟩) ⟨h.s, h.b, h.n1, h.n2, h.z, Nat.zero_le _, (fun q hq => by cases hq), az⟩ _
theorem putM_calls (m : M3) (r : ByteArray) : (putM m r).1.s.calls ≤ m.s.calls + 1 := by
  unfold putM
  split
  · show m.s.calls ≤ _; omega
  · split
    · show m.s.calls ≤ _; omega
    · split
      · show m.s.calls ≤ _; omega
      · rw [layM_calls]; exact Int.le_refl _
end WrPlain
end Go.Proofs.YtjplkmmhjfpdaaaGreatDoor
/- Plain facts on a writer that is made. -/
namespace Go.Proofs.YtjplkmmhjfpdaaaGreatDoor
open Go.RowKit FsPlain CrcPlain OctPlain FramePlain RecPlain
set_option linter.unusedVariables false
set_option linter.unusedSimpArgs false
set_option maxRecDepth 20000
namespace WrPlain
def newWs (nm : ByteArray) (size : Int) : Ws := ⟨nm, size, [], [], true⟩
def createM (s : St) (b : Bu) (nm : ByteArray) (size : Int) : St × Bu × Int :=
  if sizeB size = false then (s, b, 1)
  else if ¬ b.takeE 4 = 0 then (s, b.take 4, b.takeE 4)
  else if ¬ (createR s nm.data.toList).2 = 0 then ((createR s nm.data.toList).1, (b.take 4).give 4, (createR s nm.data.toList).2)
  else if ¬ (appendR (createR s nm.data.toList).1 nm.data.toList (headS size).data.toList).2 = 0 then ((appendR (createR s nm.data.toList).1 nm.data.toList (headS size).data.toList).1, (b.take 4).give 4, (appendR (createR s nm.data.toList).1 nm.data.toList (headS size).data.toList).2)
  else ((appendR (createR s nm.data.toList).1 nm.data.toList (headS size).data.toList).1, b.take 4, 0)
theorem create_calls (s : St) (n : List UInt8) : (createR s n).1.calls = s.calls + 1 := by
  unfold createR
  split
  · rfl
  · cases s.get n with
    | some f => rfl
    | none => simp only []; split <;> rfl
theorem ok_createR {s : St} (h : s.ok) {n : List UInt8} (hn : n.length ≤ 24) : (createR s n).1.ok := by
  unfold createR
  have hc := ok_call h
  split
  · exact hc
  · cases hg : s.get n with
    | some f => exact hc
    | none =>
      simp only []
      split
      · exact hc
      · exact ok_create (s := s.call) hc hg hn (show s.fs.length < 200 by omega)
theorem createM_calls (s : St) (b : Bu) (nm : ByteArray) (size : Int) : (createM s b nm size).1.calls ≤ s.calls + 2 := by
  unfold createM
  have h1 := create_calls s nm.data.toList
  have h2 := append_calls (createR s nm.data.toList).1 nm.data.toList (headS size).data.toList
  split
  · show s.calls ≤ _; omega
  · split
    · show s.calls ≤ _; omega
    · split
      · show (createR s nm.data.toList).1.calls ≤ _; omega
      · split
        · show (appendR _ _ _).1.calls ≤ _; omega
        · show (appendR _ _ _).1.calls ≤ _; omega
theorem createM_ok {s : St} {b : Bu} {nm : ByteArray} {size : Int} (hs : s.ok) (hb : b.ok) (hn : nm.size ≤ 24) (hm : rightB nm.data.toList = true) (h0 : (createM s b nm size).2.2 = 0) : (M3.mk (createM s b nm size).1 (createM s b nm size).2.1 (newWs nm size)).ok := by
  have hz : sizeB size = true := by
    cases h : sizeB size
    · unfold createM at h0; rw [if_pos h] at h0; exact absurd h0 (by simp)
    · rfl
  have hsok : (createM s b nm size).1.ok := by
    unfold createM
    have h1 := ok_createR hs (n := nm.data.toList) (by rw [show nm.data.toList.length = nm.size from Array.length_toList]; exact hn)
    have h2 := ok_append h1 nm.data.toList (headS size).data.toList
    split
    · exact hs
    · split
      · exact hs
      · split
        · exact h1
        · split
          · exact h2
          · exact h2
  have hbok : (createM s b nm size).2.1.ok := by
    unfold createM
    split
    · exact hb
    · split
      · exact Bu.take_ok hb 4
      · split
        · exact Bu.give_ok (Bu.take_ok hb 4) 4
        · split
          · exact Bu.give_ok (Bu.take_ok hb 4) 4
          · exact Bu.take_ok hb 4
  exact ⟨hsok, hbok, hn, hm, hz, Nat.zero_le _, (fun r h => by cases h), fun r h => by cases h⟩
end WrPlain
open WrPlain in
def closeV (m : M3) (e : Int) : Value := .tuple #[.agg #[.int .i64 (if e = 0 then (m.x.all.length : Int) else 0), .int .u32 (if e = 0 then (sumN m.x.all : Int) else 0)], .int .i64 e]
end Go.Proofs.YtjplkmmhjfpdaaaGreatDoor
/- Plain facts: a file that is there stays, whatever is appended or synced; what is told of it behind a rise. -/
namespace Go.Proofs.YtjplkmmhjfpdaaaGreatDoor
open Go.RowKit FsPlain CrcPlain OctPlain FramePlain RecPlain
set_option linter.unusedVariables false
set_option linter.unusedSimpArgs false
set_option maxRecDepth 20000
namespace WrPlain
def Has (s : St) (n : List UInt8) : Prop := ∃ f, s.get n = some f
theorem get_upd {s : St} {n : List UInt8} {g : F → F} {f : F} (hg : ∀ f, (g f).name = f.name) (h : s.get n = some f) : (s.upd n g).get n = some (g f) := by
  unfold St.get St.upd at *
  simp only []
  rw [List.find?_map]
  have e : ((fun f : F => f.name == n) ∘ fun f => if f.name = n then g f else f) = fun f : F => f.name == n := by
    funext f
    simp only [Function.comp]
    split
    · rw [hg]
    · rfl
  rw [e, h]
  have := List.find?_some h
  simp only [beq_iff_eq] at this
  simp [this]
theorem append_get {s : St} {n t : List UInt8} {f : F} (h : s.get n = some f) (h0 : (appendR s n t).2 = 0) : (appendR s n t).1.get n = some { f with data := f.data ++ t } := by
  unfold appendR at h0 ⊢
  split at h0
  · simp at h0
  · rename_i h1
    rw [if_neg h1]
    simp only [h] at h0 ⊢
    split at h0
    · simp at h0
    · rename_i h2
      rw [if_neg h2]
      exact get_upd (s := s.call) (g := fun f => { f with data := f.data ++ t }) (fun _ => rfl) h
theorem append_has {s : St} {n t : List UInt8} (h : Has s n) : Has (appendR s n t).1 n := by
  obtain ⟨f, h⟩ := h
  by_cases h0 : (appendR s n t).2 = 0
  · exact ⟨_, append_get h h0⟩
  · unfold appendR at h0 ⊢
    split
    · exact ⟨f, h⟩
    · rename_i h1
      rw [if_neg h1] at h0
      simp only [h] at h0 ⊢
      split
      · exact ⟨f, h⟩
      · rename_i h2
        rw [if_neg h2] at h0
        exact absurd rfl h0
theorem sync_get {s : St} {n : List UInt8} {f : F} (h : s.get n = some f) (h0 : (syncR s n).2 = 0) : (syncR s n).1.get n = some { f with kept := f.data.length } := by
  unfold syncR at h0 ⊢
  split at h0
  · simp at h0
  · rename_i h1
    rw [if_neg h1]
    simp only [h]
    exact get_upd (s := s.call) (g := fun f => { f with kept := f.data.length }) (fun _ => rfl) h
theorem get_ins {n : List UInt8} {k : Nat} : ∀ {l : List F}, (l.find? fun f => f.name == n) = none → ((insF ⟨n, [], k⟩ l).find? fun f => f.name == n) = some ⟨n, [], k⟩
  | [], _ => by simp [insF]
  | y :: r, h => by
    rw [List.find?_cons] at h
    split at h
    · cases h
    · rename_i h1
      unfold insF
      split
      · rw [List.find?_cons]; simp
      · rw [List.find?_cons, h1]; exact get_ins h
theorem create_get {s : St} {n : List UInt8} (h0 : (createR s n).2 = 0) : (createR s n).1.get n = some ⟨n, [], 0⟩ := by
  unfold createR at h0 ⊢
  split at h0
  · simp at h0
  · rename_i h1
    rw [if_neg h1]
    cases hg : s.get n with
    | some f => rw [hg] at h0; simp at h0
    | none =>
      rw [hg] at h0
      simp only [] at h0 ⊢
      split at h0
      · simp at h0
      · rename_i h2
        rw [if_neg h2]
        exact get_ins hg
theorem createM_has {s : St} {b : Bu} {nm : ByteArray} {size : Int} (h0 : (createM s b nm size).2.2 = 0) : ∃ f, (createM s b nm size).1.get nm.data.toList = some f ∧ f.data = (headS size).data.toList ∧ sizeB size = true := by
  cases hz : sizeB size
  · unfold createM at h0; rw [if_pos hz] at h0; exact absurd h0 (by simp)
  · unfold createM at h0 ⊢
    rw [if_neg (by rw [hz]; decide)] at h0 ⊢
    split at h0
    · rename_i h1; exact absurd h0 h1
    · rename_i h1
      rw [if_neg h1]
      split at h0
      · rename_i h2; exact absurd h0 h2
      · rename_i h2
        rw [if_neg h2]
        split at h0
        · rename_i h3; exact absurd h0 h3
        · rename_i h3
          rw [if_neg h3]
          exact ⟨_, append_get (create_get (by omega)) (by omega), rfl, rfl⟩
theorem putM_nm (m : M3) (r : ByteArray) : (putM m r).1.x.nm = m.x.nm ∧ (putM m r).1.x.size = m.x.size := by
  unfold putM
  split
  · exact ⟨rfl, rfl⟩
  · split
    · exact ⟨rfl, rfl⟩
    · split
      · exact ⟨rfl, rfl⟩
      · unfold layM dropM
        split
        · exact ⟨rfl, rfl⟩
        · split <;> exact ⟨rfl, rfl⟩
theorem closeM_calls (m : M3) : (closeM m).1.s.calls ≤ m.s.calls + 3 ∧ 0 ≤ (closeM m).1.s.calls - m.s.calls := by
  have h1 : (flushM m).1.s.calls ≤ m.s.calls + 1 ∧ m.s.calls ≤ (flushM m).1.s.calls := by
    unfold flushM
    split
    · simp only []; omega
    · rw [layM_calls]; omega
  have h2 : (endM (flushM m).1).1.s.calls = (flushM m).1.s.calls + 1 := by unfold endM; exact layM_calls _ _
  have h3 : (syncM (endM (flushM m).1).1).1.s.calls = (endM (flushM m).1).1.s.calls + 1 := sync_calls _ _
  unfold closeM
  split
  · simp only []; omega
  · split
    · omega
    · split
      · simp only [dropM_calls]; omega
      · simp only [dropM_calls]; omega
theorem rise_calls (s : St) (ks : List Int) : (riseR s ks).calls = s.calls := by
  unfold riseR
  simp only []
  have : ∀ j, (riseN s ks j).calls = s.calls := fun j => by
    induction j with
    | zero => rfl
    | succ j ih => exact ih
  exact this _
end WrPlain
end Go.Proofs.YtjplkmmhjfpdaaaGreatDoor
/- Plain facts: what a writer lays is the file of its records; where there is room no call fails. -/
namespace Go.Proofs.YtjplkmmhjfpdaaaGreatDoor
open Go.RowKit FsPlain CrcPlain OctPlain FramePlain RecPlain
set_option linter.unusedVariables false
set_option linter.unusedSimpArgs false
set_option maxRecDepth 20000
namespace WrPlain
theorem four_old {l : List ByteArray} {r : ByteArray} {i : Nat} (h : 4 * i + 4 ≤ l.length) : four (l ++ [r]) i = four l i := by
  unfold four
  rw [List.drop_append_of_le_length (by omega), List.take_append_of_le_length (by rw [List.length_drop]; omega)]
theorem ups_old {l : List ByteArray} {r : ByteArray} : ∀ {j : Nat}, 4 * j ≤ l.length → ups (l ++ [r]) j = ups l j
  | 0, _ => rfl
  | j + 1, h => by rw [ups_succ, ups_succ, ups_old (j := j) (by omega), four_old (by omega)]
theorem four_last {l : List ByteArray} {j : Nat} (h : l.length ≤ 4 * j + 4) : four l j = l.drop (4 * j) := by
  unfold four
  rw [List.take_of_length_le (by rw [List.length_drop]; omega)]
structure Laid (m : M3) (j : Nat) (f : F) : Prop where
  get : m.s.get m.x.nm.data.toList = some f
  len : m.x.all.length = 4 * j + m.x.wait.length
  wait : m.x.wait = m.x.all.drop (4 * j)
  data : f.data = (headS m.x.size).data.toList ++ blks (ups m.x.all j)
theorem laid_new {s : St} {b : Bu} {nm : ByteArray} {size : Int} (h0 : (createM s b nm size).2.2 = 0) : ∃ f, Laid ⟨(createM s b nm size).1, (createM s b nm size).2.1, newWs nm size⟩ 0 f := by
  obtain ⟨f, h1, h2, _⟩ := createM_has h0
  exact ⟨f, h1, rfl, rfl, by rw [h2]; show _ = _ ++ blks (ups [] 0); rw [show ups ([] : List ByteArray) 0 = [] from rfl, blks_nil, List.append_nil]; rfl⟩
theorem layM_ok {m : M3} {t : ByteArray} (h : (layM m t).2 = 0) : (appendR m.s m.x.nm.data.toList t.data.toList).2 = 0 ∧ (layM m t).1 = ⟨(appendR m.s m.x.nm.data.toList t.data.toList).1, m.b, m.x⟩ := by
  unfold layM at h ⊢
  split at h
  · rename_i h1; rw [if_pos h1]; exact ⟨h1, rfl⟩
  · rename_i h1; exact absurd h h1
theorem blk_yes {m : M3} (hm : m.ok) {l : List ByteArray} (h1 : 1 ≤ l.length) (h4 : l.length ≤ 4) (hz : ∀ r ∈ l, (r.size : Int) = m.x.size) : blkS m.x.size l = cl (blk l) := by
  refine blkS_yes ?_
  unfold blkB
  rw [hm.z, decide_eq_true ⟨h1, h4⟩, allB_iff.2 hz]; rfl
theorem laid_put {m : M3} {r : ByteArray} {j : Nat} {f : F} (hm : m.ok) (h : Laid m j f) (ho : m.x.opn = true) (hz : (r.size : Int) = m.x.size) (h0 : (putM m r).2 = 0) : ∃ j f, Laid (putM m r).1 j f ∧ (putM m r).1.x.all = m.x.all ++ [r] ∧ (putM m r).1.x.opn = true := by
  unfold putM at h0 ⊢
  rw [if_neg (by rw [ho]; decide), if_neg (by simpa using hz)] at h0 ⊢
  split at h0
  · rename_i hl
    rw [if_pos hl]
    refine ⟨j, f, ⟨h.get, ?_, ?_, ?_⟩, rfl, ho⟩
    · show (m.x.all ++ [r]).length = _ + (m.x.wait ++ [r]).length
      rw [List.length_append, List.length_append, h.len]; simp; omega
    · show m.x.wait ++ [r] = (m.x.all ++ [r]).drop (4 * j)
      rw [List.drop_append_of_le_length (by have := h.len; omega), ← h.wait]
    · show f.data = (headS m.x.size).data.toList ++ blks (ups (m.x.all ++ [r]) j)
      rw [ups_old (by have := h.len; omega)]; exact h.data
  · rename_i hl
    rw [if_neg hl]
    have hwl : m.x.wait.length = 3 := by have := hm.wl; omega
    obtain ⟨h1, h2⟩ := layM_ok h0
    rw [h2]
    have hall : ∀ q ∈ m.x.wait ++ [r], (q.size : Int) = m.x.size := fun q hq => by
      rcases List.mem_append.1 hq with hq | hq
      · exact hm.wz q hq
      · rw [List.mem_singleton.1 hq]; exact hz
    have hb := blk_yes hm (l := m.x.wait ++ [r]) (by simp) (by simp; omega) hall
    have hlen : (m.x.all ++ [r]).length = 4 * j + 4 := by have := h.len; simp; omega
    have hd : (m.x.all ++ [r]).drop (4 * j) = m.x.wait ++ [r] := by rw [List.drop_append_of_le_length (by have := h.len; omega), ← h.wait]
    refine ⟨j + 1, _, ⟨append_get (s := m.s) h.get h1, ?_, ?_, ?_⟩, rfl, ho⟩
    · show (m.x.all ++ [r]).length = 4 * (j + 1) + 0; omega
    · show ([] : List ByteArray) = (m.x.all ++ [r]).drop (4 * (j + 1)); rw [List.drop_eq_nil_of_le (by omega)]
    · show f.data ++ (blkS m.x.size (m.x.wait ++ [r])).data.toList = (headS m.x.size).data.toList ++ blks (ups (m.x.all ++ [r]) (j + 1))
      rw [ups_succ, ups_old (by have := h.len; omega), four_last (by omega), hd, blks_app, blks_cons, blks_nil, h.data, hb, List.append_nil, List.append_assoc]
theorem laid_flush {m : M3} {j : Nat} {f : F} (hm : m.ok) (h : Laid m j f) (h0 : (flushM m).2 = 0) : ∃ f, (flushM m).1.s.get m.x.nm.data.toList = some f ∧ f.data = (headS m.x.size).data.toList ++ blks (ups m.x.all (cnt4 m.x.all)) ∧ (flushM m).1.x = m.x ∧ (flushM m).1.b = m.b := by
  unfold flushM at h0 ⊢
  split at h0
  · rename_i hw
    rw [if_pos hw]
    have : cnt4 m.x.all = j := by unfold cnt4; have := h.len; omega
    exact ⟨f, h.get, by rw [this]; exact h.data, rfl, rfl⟩
  · rename_i hw
    rw [if_neg hw]
    obtain ⟨h1, h2⟩ := layM_ok h0
    rw [h2]
    have hwl := hm.wl
    have hb := blk_yes hm (l := m.x.wait) (by omega) (by omega) hm.wz
    have : cnt4 m.x.all = j + 1 := by unfold cnt4; have := h.len; omega
    refine ⟨_, append_get (s := m.s) h.get h1, ?_, rfl, rfl⟩
    show f.data ++ (blkS m.x.size m.x.wait).data.toList = _
    rw [this, ups_succ, four_last (by have := h.len; omega), ← h.wait, blks_app, blks_cons, blks_nil, h.data, hb, List.append_nil, List.append_assoc]
theorem dropM_open {m : M3} (h : m.x.opn = true) : dropM m = ⟨m.s, m.b.give 4, { m.x with opn := false }⟩ := by unfold dropM; rw [if_pos h]
theorem laid_close {m : M3} {j : Nat} {f : F} (hm : m.ok) (hal : m.x.all.length ≤ 100000) (h : Laid m j f) (ho : m.x.opn = true) (h0 : (closeM m).2 = 0) : ∃ f, (closeM m).1.s.get m.x.nm.data.toList = some f ∧ f.data = layL m.x.size m.x.all ∧ f.kept = f.data.length ∧ (closeM m).1.b = m.b.give 4 ∧ (closeM m).1.x.opn = false ∧ (closeM m).1.x.all = m.x.all := by
  unfold closeM at h0 ⊢
  rw [if_neg (by rw [ho]; decide)] at h0 ⊢
  split at h0
  · rename_i h1; exact absurd h0 h1
  · rename_i h1
    rw [if_neg h1]
    obtain ⟨f2, g1, g2, g3, g4⟩ := laid_flush hm h (by omega)
    split at h0
    · rename_i h2; exact absurd h0 h2
    · rename_i h2
      rw [if_neg h2]
      have he : (layM (flushM m).1 (peS (flushM m).1.x.all.length (sumN (flushM m).1.x.all))).2 = 0 := by
        have : (endM (flushM m).1).2 = 0 := by omega
        exact this
      obtain ⟨k1, k2⟩ := layM_ok he
      have e1 : (endM (flushM m).1).1 = ⟨(appendR (flushM m).1.s m.x.nm.data.toList (peS m.x.all.length (sumN m.x.all)).data.toList).1, m.b, m.x⟩ := by
        unfold endM; rw [k2, g3, g4]
      rw [e1] at h0 ⊢
      rw [g3] at k1
      have k3 := append_get g1 k1
      have hs : (syncR (appendR (flushM m).1.s m.x.nm.data.toList (peS m.x.all.length (sumN m.x.all)).data.toList).1 m.x.nm.data.toList).2 = 0 := h0
      have k4 := sync_get k3 hs
      have hpe : peS m.x.all.length (sumN m.x.all) = cl (endS m.x.all.length (sumN m.x.all)) := by
        have hb : peB (m.x.all.length : Int) = true := by unfold peB; rw [decide_eq_true_iff]; omega
        rw [peS_yes hb]; rfl
      rw [dropM_open (m := (syncM _).1) (by exact ho)]
      refine ⟨_, k4, ?_, rfl, rfl, rfl, rfl⟩
      show f2.data ++ (peS m.x.all.length (sumN m.x.all)).data.toList = _
      rw [g2, hpe]
      unfold layL endL
      rw [List.append_assoc]
end WrPlain
end Go.Proofs.YtjplkmmhjfpdaaaGreatDoor
/- Plain facts: a machine that does not fall, and room enough: no call of a writer fails. -/
namespace Go.Proofs.YtjplkmmhjfpdaaaGreatDoor
open Go.RowKit FsPlain CrcPlain OctPlain FramePlain RecPlain
set_option linter.unusedVariables false
set_option linter.unusedSimpArgs false
set_option maxRecDepth 20000
namespace WrPlain
def Calm (s : St) : Prop := s.down = false ∧ s.ahead = -1
theorem calm_call {s : St} (h : Calm s) : Calm s.call ∧ s.call.down = false := by
  obtain ⟨h1, h2⟩ := h
  have e : s.call.down = false := by unfold St.call; simp [h1, h2]
  exact ⟨⟨e, by show max (s.ahead - 1) (-1) = -1; rw [h2]; decide⟩, e⟩
theorem append_calm {s : St} (hs : s.ok) (h : Calm s) {n t : List UInt8} {f : F} (hg : s.get n = some f) (hr : (used s.fs : Int) + t.length ≤ s.room) :
    (appendR s n t).2 = 0 ∧ Calm (appendR s n t).1 ∧ (appendR s n t).1.room = s.room ∧ used (appendR s n t).1.fs = used s.fs + t.length := by
  obtain ⟨hc, hd⟩ := calm_call h
  have e : appendR s n t = (s.call.upd n (fun f => { f with data := f.data ++ t }), 0) := by
    unfold appendR
    rw [if_neg (by rw [hd]; decide), hg]
    simp only []
    rw [if_neg (by omega)]
  rw [e]
  obtain ⟨A, C, e1, _, _, _, hu⟩ := get_split (s := s.call) (ok_call hs) (n := n) (f := f) hg
  refine ⟨rfl, hc, rfl, ?_⟩
  show used (s.call.upd n (fun f => { f with data := f.data ++ t })).fs = _
  rw [hu]
  have h2 := used_split A C f { f with data := f.data ++ t }
  have h3 : s.fs = A ++ f :: C := e1
  rw [h3]
  simp only [List.length_append] at h2
  omega
theorem sync_calm {s : St} (h : Calm s) {n : List UInt8} {f : F} (hg : s.get n = some f) : (syncR s n).2 = 0 := by
  obtain ⟨hc, hd⟩ := calm_call h
  unfold syncR
  rw [if_neg (by rw [hd]; decide), hg]
theorem layM_calm {m : M3} {t : ByteArray} (hm : m.ok) (h : Calm m.s) {f : F} (hg : m.s.get m.x.nm.data.toList = some f) (hr : (used m.s.fs : Int) + t.size ≤ m.s.room) :
    (layM m t).2 = 0 ∧ Calm (layM m t).1.s ∧ (layM m t).1.s.room = m.s.room ∧ used (layM m t).1.s.fs = used m.s.fs + t.size := by
  have hl : t.data.toList.length = t.size := Array.length_toList
  obtain ⟨h1, h2, h3, h4⟩ := append_calm hm.s h hg (t := t.data.toList) (by rw [hl]; exact hr)
  have e : layM m t = (⟨(appendR m.s m.x.nm.data.toList t.data.toList).1, m.b, m.x⟩, 0) := by unfold layM; rw [if_pos h1]
  rw [e]
  exact ⟨rfl, h2, h3, by rw [← hl]; exact h4⟩
end WrPlain
end Go.Proofs.YtjplkmmhjfpdaaaGreatDoor

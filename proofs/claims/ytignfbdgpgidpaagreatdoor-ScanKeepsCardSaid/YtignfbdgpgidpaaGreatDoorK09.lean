/- In one text: Parts, SlPart, RfsDisk, RfsLook, RfsUsed, RfsRight, RfsCreate, ScList, FsLs, FsFall, FsRise, RfsAppend, RfsNew, RfsRead, RfsSync, RfsRemove. -/
import Derived.Test.YtignfbdgpgidpaaGreatDoorK08
import Derived.Test.YtignfbdgpgidpaaGreatDoorK01
import Derived.Test.YtignfbdgpgidpaaGreatDoorK06
import Derived.Test.YtignfbdgpgidpaaGreatDoorK00
import Derived.StillTailTactics
import Derived.Deep.RegionLaw
import Derived.Deep.RegionHeld3
import Derived.Deep.RegionWith
import Derived.Deep.QuietTactic
/- Whatever parts, all made since w but for what is in B: a call on the first or the second one, a part more, a store into a block, a part less. -/
namespace Go.Proofs.YtignfbdgpgidpaaGreatDoor
open Go.RowKit
set_option linter.unusedVariables false
set_option linter.unusedSimpArgs false
set_option maxRecDepth 20000
def Qs (A : Nat → Prop) (L : List Asn) (w u : World) : Prop := Frs L ∧ ∃ B, stars L u B ∧ Nx A w B u
abbrev Ps (L : List Asn) (w u : World) : Prop := Qs (fun _ => False) L w u
theorem frs_iff : ∀ {L : List Asn}, Frs L ↔ ∀ P ∈ L, Fr P
  | [] => ⟨fun _ P h => (by cases h), fun _ => trivial⟩
  | A :: L => ⟨fun h P hP => by
      rcases List.mem_cons.1 hP with rfl | hP
      · exact h.1
      · exact frs_iff.1 h.2 P hP, fun h => ⟨h A List.mem_cons_self, frs_iff.2 fun P hP => h P (List.mem_cons_of_mem _ hP)⟩⟩
theorem Qs.gr {L : List Asn} {w u : World} (h : Ps L w u) : Gr w u := by
  obtain ⟨_, B, _, n⟩ := h
  exact nx_gr n
theorem Qs.on {A : Nat → Prop} {L : List Asn} {w u v : World} (h : Qs A L w u) (g : Gr u v) : Qs A L w v := by
  obtain ⟨hF, B, k, n⟩ := h
  exact ⟨hF, B, stars_gr hF k g, n.trans (Nx.gr g)⟩
theorem Qs.nil (w : World) : Ps [] w w := ⟨trivial, fun _ => False, fun _ h => h, Nx.refl _ _⟩
theorem Qs.one {A B : Nat → Prop} {P : Asn} {w u : World} (hP : Fr P) (p : P u B) (n : Nx A w B u) : Qs A [P] w u := ⟨⟨hP, trivial⟩, B, ⟨B, fun _ => False, p, (fun _ h => h), (fun _ _ h => h), fun b => (or_false _).symm ▸ Iff.rfl⟩, n⟩
theorem Qs.perm {A : Nat → Prop} {L M : List Asn} {w u : World} (h : Qs A L w u) (p : L.Perm M) : Qs A M w u := by
  obtain ⟨hF, B, k, n⟩ := h
  exact ⟨frs_iff.2 fun P hP => frs_iff.1 hF P (p.mem_iff.2 hP), B, stars_perm p k, n⟩
theorem Qs.tail {A : Nat → Prop} {P : Asn} {L : List Asn} {w u : World} (h : Qs A (P :: L) w u) : Qs A L w u := by
  obtain ⟨hF, B, ⟨B1, B2, _, q, _, e⟩, n⟩ := h
  exact ⟨hF.2, B2, q, n.trans ⟨Only.refl _ _, fun b hb => .inl ((e b).2 (.inr hb))⟩⟩
theorem Qs.part {A : Nat → Prop} {L : List Asn} {w u : World} {Q : Asn} (h : Qs A L w u) (i : Nat) (hi : L[i]? = some Q) : ∃ B, Q u B := by
  obtain ⟨_, B, k, _⟩ := h
  obtain ⟨B1, q, _⟩ := part_at i hi k
  exact ⟨B1, q⟩
theorem Qs.blk {A : Nat → Prop} {L : List Asn} {w u : World} {X : Nat} {c : Array Value} {T : TypeId} (h : Qs A L w u) (i : Nat) (hi : L[i]? = some (Blk X c T)) : u.heap[X]? = some (.cells c T (0, 0)) := by
  obtain ⟨_, q, _⟩ := h.part i hi
  exact q
theorem Qs.new {A : Nat → Prop} {L : List Asn} {w u v : World} {Q : Asn} {B' : Nat → Prop} (h : Qs A L w u) (g : Gr u v) (hQ : Fr Q) (q : Q v B') (hn : ∀ x, B' x → u.heap.size ≤ x) : Qs A (Q :: L) w v := by
  obtain ⟨hF, B, k, n⟩ := h
  obtain ⟨B3, k3, n3⟩ := part_new (P := Q) hF k g q hn
  exact ⟨⟨hQ, hF⟩, B3, k3, n.trans n3⟩
theorem Qs.blk_new {A : Nat → Prop} {L : List Asn} {w u v : World} (h : Qs A L w u) (c : Array Value) (T : TypeId) (hv : v = u.alloc (.cells c T)) : Qs A (Blk u.heap.size c T :: L) w v := by
  subst hv
  exact h.new (B' := fun b => b = u.heap.size) (Below.alloc (Below.refl _ _) (Nat.le_refl _) _) (fr_blk _ _ _) ⟨heap_alloc_new u _, fun _ => Iff.rfl⟩ (fun b hb => by rw [hb]; exact Nat.le_refl _)
theorem frs_set {Q : Asn} (hQ : Fr Q) : ∀ {L : List Asn} (i : Nat), Frs L → Frs (L.set i Q)
  | [], _, h => h
  | _ :: _, 0, h => ⟨hQ, h.2⟩
  | _ :: _, i + 1, h => ⟨h.1, frs_set hQ i h.2⟩
theorem Qs.set {A : Nat → Prop} {L : List Asn} {w u : World} {X : Nat} {c : Array Value} {T : TypeId} (h : Qs A L w u) (i : Nat) (hi : L[i]? = some (Blk X c T)) (j : Nat) (x : Value) : Qs A (L.set i (Blk X (c.setIfInBounds j x) T)) w (u.setCell ⟨X, j, none⟩ x) := by
  obtain ⟨hF, B, k, n⟩ := h
  obtain ⟨B', k', n'⟩ := step_at i hi hF k fun B1 hb => blk_next (i := j) hb x
  exact ⟨frs_set (fr_blk _ _ _) i hF, B', k', n.trans n'⟩
theorem Qs.set3 {A : Nat → Prop} {L : List Asn} {w u : World} {X : Nat} {c : Array Value} {T : TypeId} (h : Qs A L w u) (i : Nat) (hi : L[i]? = some (Blk X c T)) (hc : c.size = 3) (x y z : Value) : Qs A (L.set i (Blk X #[x, y, z] T)) w (((u.setCell ⟨X, 0, none⟩ x).setCell ⟨X, 1, none⟩ y).setCell ⟨X, 2, none⟩ z) := by
  have il : i < L.length := by
    rcases Nat.lt_or_ge i L.length with h | h
    · exact h
    · rw [List.getElem?_eq_none h] at hi; cases hi
  have h1 := h.set i hi 0 x
  have h2 := h1.set i (by rw [List.getElem?_set_self il]) 1 y
  have h3 := h2.set i (by rw [List.getElem?_set_self (by simpa using il)]) 2 z
  rw [List.set_set, List.set_set] at h3
  match c, hc with
  | ⟨[_, _, _]⟩, _ => exact h3
theorem Qs.call0 {A : Nat → Prop} {Pr : Program} {f : FuncId} {args : Array Value} {P Q : Asn} {L : List Asn} {X : Ending → World → Prop} {w u : World} (h : Qs A (P :: L) w u) (hQ : Fr Q) (C : ∀ B1, P u B1 → Calls Pr f args u fun e w' => X e w' ∧ ∃ B', Q w' B' ∧ Nx B1 u B' w') :
    Calls Pr f args u fun e w' => X e w' ∧ Qs A (Q :: L) w w' := by
  obtain ⟨hF, B, ⟨B1, B2, p, r, a, e⟩, n⟩ := h
  refine (C B1 p).mono fun e' w' ⟨hx, B', q, n1⟩ => ⟨hx, ⟨hQ, hF.2⟩, ?_⟩
  obtain ⟨B3, h3, n3⟩ := star_of (fr_stars hF.2) r a e q n1
  exact ⟨B3, h3, n.trans n3⟩
theorem Qs.call1 {A : Nat → Prop} {Pr : Program} {f : FuncId} {args : Array Value} {O P Q : Asn} {L : List Asn} {X : Ending → World → Prop} {w u : World} (h : Qs A (O :: P :: L) w u) (hQ : Fr Q) (C : ∀ B1, P u B1 → Calls Pr f args u fun e w' => X e w' ∧ ∃ B', Q w' B' ∧ Nx B1 u B' w') :
    Calls Pr f args u fun e w' => X e w' ∧ Qs A (O :: Q :: L) w w' :=
  ((h.perm (List.Perm.swap P O L)).call0 hQ C).mono fun _ _ ⟨hx, k⟩ => ⟨hx, k.perm (List.Perm.swap O Q L)⟩
end Go.Proofs.YtignfbdgpgidpaaGreatDoor
/- A slice of strings as a part. -/
namespace Go.Proofs.YtignfbdgpgidpaaGreatDoor
open Go.RowKit
set_option linter.unusedVariables false
set_option linter.unusedSimpArgs false
set_option maxRecDepth 20000
def SlA (v : Value) (l : List ByteArray) : Asn := fun w B => Lies w v l ∧ (∀ b, B b → b < w.heap.size) ∧ (l = [] ∨ ∃ b o n c, v = .slice (some ⟨b, o, none⟩) n c ∧ B b)
theorem fr_sl (v : Value) (l : List ByteArray) : Fr (SlA v l) where
  fr := fun {w w' B C} ⟨h, hl, hb⟩ o d => by
    refine ⟨?_, fun b hb => Nat.lt_of_lt_of_le (hl b hb) o.size, hb⟩
    obtain ⟨a, c, e, hc, h⟩ := h
    rcases h with h | ⟨b, off, e2, k⟩
    · exact ⟨a, c, e, hc, .inl h⟩
    · rcases hb with hb | ⟨b', o', n', c', e3, hB⟩
      · exact ⟨a, c, e, hc, .inl hb⟩
      · rw [e, e2] at e3
        simp only [Value.slice.injEq, Option.some.injEq, Addr.mk.injEq] at e3
        obtain ⟨⟨hbb, _, _⟩, _, _⟩ := e3
        have hn : ¬ C b := by rw [hbb]; exact d b' hB
        exact ⟨a, c, e, hc, .inr ⟨b, off, e2, Nat.lt_of_lt_of_le k.1 o.size, fun j x hj => (o.cell (p := ⟨b, _, none⟩) k.1 hn).trans (k.2 j x hj)⟩⟩
  lo := fun ⟨_, hl, _⟩ => hl
theorem sl_new {w w' : World} {v : Value} {l : List ByteArray} (h : Lies w' v l) (hn : ∀ x, v.ownBlock = some x → w.heap.size ≤ x) : ∃ B, SlA v l w' B ∧ ∀ b, B b → w.heap.size ≤ b := by
  obtain ⟨a, c, e, hc, k⟩ := id h
  rcases k with k | ⟨b, off, e2, k⟩
  · exact ⟨fun _ => False, ⟨h, fun b hb => hb.elim, .inl k⟩, fun b hb => hb.elim⟩
  · refine ⟨fun x => x = b, ⟨h, fun x hx => by rw [hx]; exact k.1, .inr ⟨b, off, _, c, by rw [e, e2], rfl⟩⟩, fun x hx => ?_⟩
    rw [hx]
    exact hn b (by rw [e, e2]; rfl)
end Go.Proofs.YtignfbdgpgidpaaGreatDoor
/- The document's disk: its block, a call, a file's place. -/
namespace Go.Proofs.YtignfbdgpgidpaaGreatDoor
open Go.RowKit FsPlain
set_option linter.unusedVariables false
set_option linter.unusedSimpArgs false
set_option maxRecDepth 20000
def rcells (s : St) (v : Value) : Array Value := #[.int .i64 s.room, v, .int .i64 s.ahead, .bool s.down, .int .i64 s.calls]
theorem FLies.only {w w' : World} {v : Value} {l : List F} {d : Nat} {s : St} {u : Value} (h : FLies w v l) (hd : w.heap[d]? = some (.cells (rcells s u) 87 (0, 0))) (hu : ∃ a n c, u = .slice a n c) (g : Only (fun i => i = d) w w') : FLies w' v l := by
  rcases h with h | ⟨b, off, c, rfl, hc, hb, hl⟩
  · exact .inl h
  · refine .inr ⟨b, off, c, rfl, hc, Nat.lt_of_lt_of_le hb g.size, fun j x hj => ?_⟩
    by_cases hbd : b = d
    · exfalso
      subst hbd
      cases l with
      | nil => simp [fall3] at hj
      | cons f r =>
        have h0 := hl 0 (.string (bs f.name)) rfl
        rw [cells_at hd] at h0
        obtain ⟨a, n, c, rfl⟩ := hu
        unfold rcells at h0
        rw [Nat.add_zero] at h0
        match off, h0 with
        | 0, h => simp at h
        | 1, h => simp at h
        | 2, h => simp at h
        | 3, h => simp at h
        | 4, h => simp at h
        | off + 5, h => simp at h
    · rw [g.cell (p := ⟨b, off + j, none⟩) hb hbd]; exact hl j x hj
def RAt (w : World) (d : Nat) (s : St) (v : Value) : Prop := w.heap[d]? = some (.cells (rcells s v) 87 (0, 0)) ∧ FLies w v s.fs
def RB (w : World) (d : Nat) (v : Value) (B : Nat → Prop) : Prop := (∀ x, B x → x < w.heap.size) ∧ B d ∧ ∀ x, v.ownBlock = some x → B x
def RDisk (w : World) (d : Nat) (s : St) (B : Nat → Prop) : Prop := s.ok ∧ SortF s.fs ∧ ∃ v, RAt w d s v ∧ RB w d v B
theorem FLies.slice {w : World} {v : Value} {l : List F} (h : FLies w v l) : ∃ a c, v = .slice a l.length c := by
  rcases h with ⟨rfl, rfl⟩ | ⟨b, off, c, rfl, _⟩
  · exact ⟨_, _, rfl⟩
  · exact ⟨_, _, rfl⟩
theorem RAt.put {w w' : World} {d : Nat} {s s' : St} {v v' : Value} (h : RAt w d s v) (hv : FLies w v' s'.fs) (g : Only (fun i => i = d) w w') (hh : w'.heap[d]? = some (.cells (rcells s' v') 87 (0, 0))) : RAt w' d s' v' := by
  obtain ⟨a, c, e⟩ := h.2.slice
  exact ⟨hh, hv.only h.1 ⟨a, _, c, e⟩ g⟩
theorem RAt.only {w w' : World} {d : Nat} {s : St} {v : Value} {B C : Nat → Prop} (h : RAt w d s v) (hB : RB w d v B) (g : Only C w w') (hC : ∀ b, B b → ¬ C b) : RAt w' d s v := by
  refine ⟨by rw [g.block d (blk_lt2 h.1) (hC d hB.2.1)]; exact h.1, ?_⟩
  rcases h.2 with h2 | ⟨b, off, c, rfl, hc, hb, hl⟩
  · exact .inl h2
  · exact .inr ⟨b, off, c, rfl, hc, Nat.lt_of_lt_of_le hb g.size, fun j x hj => by rw [g.cell (p := ⟨b, off + j, none⟩) hb (hC b (hB.2.2 b rfl))]; exact hl j x hj⟩
def RDiskA (d : Nat) (s : St) : Asn := fun w B => RDisk w d s B
def RCalled (d : Nat) (s : St) (v : Value) (w w' : World) : Prop := w'.heap[d]? = some (.cells (rcells s.call v) 87 (0, 0)) ∧ Only (fun i => i = d) w w'
end Go.Proofs.YtignfbdgpgidpaaGreatDoor
/- The document's disk: a file's place, its bytes, what is used. -/
namespace Go.Proofs.YtignfbdgpgidpaaGreatDoor
open Go.RowKit FsPlain
set_option linter.unusedVariables false
set_option linter.unusedSimpArgs false
set_option maxRecDepth 20000
end Go.Proofs.YtignfbdgpgidpaaGreatDoor
/- The document's disk: is there a file, what is used. -/
namespace Go.Proofs.YtignfbdgpgidpaaGreatDoor
open Go.RowKit FsPlain
set_option linter.unusedVariables false
set_option linter.unusedSimpArgs false
set_option maxRecDepth 20000
end Go.Proofs.YtignfbdgpgidpaaGreatDoor
/- The document's disk: is it a name? By a walk of its loop. -/
namespace Go.Proofs.YtignfbdgpgidpaaGreatDoor
open Go.RowKit FsPlain
set_option linter.unusedVariables false
set_option linter.unusedSimpArgs false
set_option maxRecDepth 20000
end Go.Proofs.YtignfbdgpgidpaaGreatDoor
/- The document's disk: Create. -/
namespace Go.Proofs.YtignfbdgpgidpaaGreatDoor
open Go.RowKit FsPlain
set_option linter.unusedVariables false
set_option linter.unusedSimpArgs false
set_option maxRecDepth 20000
theorem RAt.called {d : Nat} {s : St} {v : Value} {w w' : World} (h : RAt w d s v) (c : RCalled d s v w w') : RAt w' d s.call v :=
  RAt.put (s' := s.call) h (h.2.only h.1 (by obtain ⟨a, c, e⟩ := h.2.slice; exact ⟨a, _, c, e⟩) c.2 |> fun _ => h.2) c.2 c.1
end Go.Proofs.YtignfbdgpgidpaaGreatDoor
/- The document's disk: List. -/
namespace Go.Proofs.YtignfbdgpgidpaaGreatDoor
open Go.RowKit FsPlain ScPlain
set_option linter.unusedVariables false
set_option linter.unusedSimpArgs false
set_option maxRecDepth 20000
def LsGot (T : Asn) (s : St) (B : Nat → Prop) (w : World) (e : Ending) (w' : World) : Prop := ∃ (a : Option Addr) (c : Nat), e = .returned (.tuple #[.slice a (listL s).length c, .int .i64 s.call.code]) ∧ ∃ B', star (SlA (.slice a (listL s).length c) (listL s)) T w' B' ∧ Nx B w B' w'
theorem ls_down {T : Asn} {s : St} {B B1 : Nat → Prop} {w w' : World} (h : s.call.down = true) (t : T w' B1) (n : Nx B w B1 w') : LsGot T s B w (.returned (.tuple #[.slice none 0 0, .int .i64 5])) w' := by
  have e : listL s = [] := by unfold listL; rw [if_pos h]
  have ec : s.call.code = 5 := by rw [code_down, if_pos h]
  refine ⟨none, 0, by rw [e, ec]; rfl, B1, ?_, n⟩
  rw [e]
  exact ⟨fun _ => False, B1, ⟨⟨none, 0, rfl, Nat.le_refl _, .inl rfl⟩, fun _ h => h.elim, .inl rfl⟩, t, fun _ h => h.elim, fun b => (false_or _).symm ▸ Iff.rfl⟩
end Go.Proofs.YtignfbdgpgidpaaGreatDoor
/- The program's disk: List, its row apart from the disk. -/
namespace Go.Proofs.YtignfbdgpgidpaaGreatDoor
open Go.RowKit FsPlain
set_option linter.unusedVariables false
set_option linter.unusedSimpArgs false
set_option maxRecDepth 20000
def Listed18 (p : Nat) (s : St) (B : Nat → Prop) (w : World) (e : Ending) (w' : World) : Prop :=
  (s.call.down = true ∧ e = .returned (.tuple #[.slice none 0 0, .int .i64 5]) ∧ Next w p s.call B w') ∨
    (s.call.down = false ∧ ∃ v, e = .returned (.tuple #[v, .int .i64 0]) ∧ ∃ B', star (DiskA p s.call) (RowA v (listN s)) w' B' ∧ Nx B w B' w')
set_option maxHeartbeats 1000000 in
theorem list18_c (p : Nat) (s : St) (B : Nat → Prop) (w : World) (h : Disk w p s B) (h1 : s.calls ≤ 1000000000000) :
    Calls Tryz.prog 24 #[.pointer (some ⟨p, 0, none⟩)] w (Listed18 p s B w) := by
  obtain ⟨hs, m, L, hD⟩ := h
  have C := call_yes p m s w hD.heap (by have := hs.c0; omega) h1 (by have := hs.a0; omega) (by have := hs.a1; omega)
  have HS := Lib.hid hs
  have HD := Lib.hid hD
  clear hD hs
  have hc : s.call.code = if s.call.down = true then 5 else 0 := rfl
  cases hd : s.call.down
  · rw [hd] at hc
    rw [show s.call.code = 0 from hc] at C
    have HDN := Lib.hid hd
    clear hc hd
    go_enter Tryz.func24, Tryz.ntmps24
    go_wp2_with fail
    refine C.mono ?_; rintro e w2 ⟨rfl, k⟩
    have HK := Lib.hid k
    have D2 := Lib.hid (HD.out.called k)
    have N2 := Lib.hid (next_called HS.out D2.out k.2)
    have CN := Lib.hid (names_c p m s.call B L w2 (ok_call HS.out) D2.out)
    clear k C
    go_wp2_with fail
    refine (CN.out).mono ?_; rintro e w3 ⟨v, rfl, ho, g⟩
    have HO := Lib.hid ho
    have G := Lib.hid g
    have sh : ∃ a n c, v = .slice a n c := by
      rcases ho.2 with ⟨e, _⟩ | ⟨g, cap, cur, e, _⟩
      · exact ⟨none, 0, 0, e⟩
      · exact ⟨_, _, _, e⟩
    obtain ⟨a, n, c, rfl⟩ := sh
    clear ho g
    go_wp2_with fail
    go_ret2
    refine .inr ⟨HDN.out, _, rfl, ?_⟩
    obtain ⟨B', hdk, hol, hnw⟩ := N2.out
    have hfs : (L.map fun x => x.f.name) = s.fs.map fun f => f.name := by
      have h := D2.out.fs
      have h2 := congrArg (List.map fun f : F => f.name) h
      rw [List.map_map] at h2
      exact h2
    have ho := HO.out
    rw [hfs] at ho
    have e1 : strs (listN s) = ((s.fs.map fun f => f.name).mergeSort (fun x y => decide (x ≤ y))).map encStr := by
      unfold strs listN
      rw [List.map_map]
      rfl
    have e2 : (listN s).length = ((s.fs.map fun f => f.name).mergeSort (fun x y => decide (x ≤ y))).length := by unfold listN; rw [List.length_map]
    rw [← e1, ← e2] at ho
    obtain ⟨B2, k2, n2⟩ := row_of_own ho
    have hlow := fun b hb => Disk.low hdk b hb
    have hws : w.heap.size ≤ w2.heap.size := HK.out.2.size
    refine ⟨fun b => B' b ∨ B2 b, ⟨B', B2, hdk.only (Only.ofGr (B := fun _ => False) G.out) (fun _ _ e => e), k2, fun b h1 h2 => by have := hlow b h1; have := n2 b h2; omega, fun _ => Iff.rfl⟩, hol.trans (Only.ofGr G.out), fun b hb => ?_⟩
    rcases hb with hb | hb
    · exact hnw b hb
    · exact .inr (Nat.le_trans hws (n2 b hb))
  · rw [hd] at hc
    rw [show s.call.code = 5 from hc] at C
    have HDN := Lib.hid hd
    clear hc hd
    go_enter Tryz.func24, Tryz.ntmps24
    go_wp2_with fail
    refine C.mono ?_; rintro e w2 ⟨rfl, k⟩
    have N2 := Lib.hid (next_called HS.out (HD.out.called k) k.2)
    clear k C
    go_wp2_with fail
    go_ret2
    exact .inl ⟨HDN.out, rfl, N2.out⟩
end Go.Proofs.YtignfbdgpgidpaaGreatDoor
/- The contract of a file's fall; the order of the names. -/
namespace Go.Proofs.YtignfbdgpgidpaaGreatDoor
open Go.RowKit Go.Maps FsPlain
set_option linter.unusedVariables false
set_option linter.unusedSimpArgs false
set_option maxRecDepth 20000
theorem before_le : ∀ a b : List UInt8, bytesBefore a b = true → a ≤ b
  | [], b, _ => List.nil_le b
  | _ :: _, [], h => by simp [bytesBefore] at h
  | x :: r, y :: q, h => by
    simp only [bytesBefore, Bool.or_eq_true, Bool.and_eq_true, decide_eq_true_eq, beq_iff_eq] at h
    rw [List.cons_le_cons_iff]
    rcases h with h | ⟨h1, h2⟩
    · exact .inl h
    · exact .inr ⟨h1, before_le r q h2⟩
theorem DiskAt.sorted {w : World} {p m : Nat} {s : St} {B : Nat → Prop} {L : List Pl} (h : DiskAt w p s B m L) : (L.map fun x => x.f.name).mergeSort (fun x y => decide (x ≤ y)) = L.map fun x => x.f.name := by
  obtain ⟨es, clock, _, F, _, hD⟩ := h.own
  have hp := sorted_sorted lawS.one _ (fit_keys F) (fit_apart lawS F)
  unfold ents at hD
  simp only [DataW.map.injEq] at hD
  rw [← hD] at hp
  rw [List.pairwise_map] at hp
  refine List.mergeSort_of_pairwise ?_
  rw [List.pairwise_map]
  exact hp.imp fun h => by simpa using before_le _ _ h
def stays (f : F) (k : Int) : Nat := f.kept + min (max k 0).toNat (f.data.length - f.kept)
end Go.Proofs.YtignfbdgpgidpaaGreatDoor
/- The contract of Rise: by a walk of its loop over the names. -/
namespace Go.Proofs.YtignfbdgpgidpaaGreatDoor
open Go.RowKit Go.Maps FsPlain
set_option linter.unusedVariables false
set_option linter.unusedSimpArgs false
set_option maxRecDepth 20000
end Go.Proofs.YtignfbdgpgidpaaGreatDoor
/- The document's disk: Append. -/
namespace Go.Proofs.YtignfbdgpgidpaaGreatDoor
open Go.RowKit FsPlain
set_option linter.unusedVariables false
set_option linter.unusedSimpArgs false
set_option maxRecDepth 20000
end Go.Proofs.YtignfbdgpgidpaaGreatDoor
/- The document's disk: New, Arm, Whole. -/
namespace Go.Proofs.YtignfbdgpgidpaaGreatDoor
open Go.RowKit FsPlain
set_option linter.unusedVariables false
set_option linter.unusedSimpArgs false
set_option maxRecDepth 20000
end Go.Proofs.YtignfbdgpgidpaaGreatDoor
/- The document's disk: Size, Read. -/
namespace Go.Proofs.YtignfbdgpgidpaaGreatDoor
open Go.RowKit FsPlain
set_option linter.unusedVariables false
set_option linter.unusedSimpArgs false
set_option maxRecDepth 20000
end Go.Proofs.YtignfbdgpgidpaaGreatDoor
/- The document's disk: Sync. -/
namespace Go.Proofs.YtignfbdgpgidpaaGreatDoor
open Go.RowKit FsPlain
set_option linter.unusedVariables false
set_option linter.unusedSimpArgs false
set_option maxRecDepth 20000
end Go.Proofs.YtignfbdgpgidpaaGreatDoor
/- The document's disk: Remove. -/
namespace Go.Proofs.YtignfbdgpgidpaaGreatDoor
open Go.RowKit FsPlain
set_option linter.unusedVariables false
set_option linter.unusedSimpArgs false
set_option maxRecDepth 20000
end Go.Proofs.YtignfbdgpgidpaaGreatDoor

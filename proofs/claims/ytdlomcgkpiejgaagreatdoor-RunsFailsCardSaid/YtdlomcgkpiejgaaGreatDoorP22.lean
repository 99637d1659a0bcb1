/- In one text: FsNew, RdStand, BudA, FsA0, RnForm. -/
import Derived.Test.YtdlomcgkpiejgaaGreatDoorP21
import Derived.Test.YtdlomcgkpiejgaaGreatDoorP14
import Derived.Test.YtdlomcgkpiejgaaGreatDoorP18
import Derived.Test.YtdlomcgkpiejgaaGreatDoorP10
import Derived.Test.YtdlomcgkpiejgaaGreatDoorP15
import Derived.Test.YtdlomcgkpiejgaaGreatDoorP17
/- The contracts of New, Arm and Calls. -/
namespace Go.Proofs.YtdlomcgkpiejgaaGreatDoor
open Go.RowKit FsPlain Go.Maps
set_option linter.unusedVariables false
set_option linter.unusedSimpArgs false
set_option maxRecDepth 20000

def fresh (room : Int) : St := ⟨room, 0, -1, false, []⟩
theorem fresh_ok {room : Int} (h0 : 0 ≤ room) (h1 : room ≤ 16777216) : (fresh room).ok :=
  ⟨h0, h1, Int.le_refl 0, Int.le_refl (-1), by show (-1 : Int) ≤ _; omega, by show ((0 : Nat) : Int) ≤ room; omega, (fun f hf => by cases hf), (fun f hf => by cases hf), by show 0 ≤ 200; omega, List.Pairwise.nil⟩

/-- A new disk, in new blocks. -/
def Born (room : Int) (w : World) (e : Ending) (w' : World) : Prop :=
  ∃ p B, e = .returned (.tuple #[.pointer (some ⟨p, 0, none⟩), .int .i64 0]) ∧ Disk w' p (fresh room) B ∧ Gr w w' ∧ ∀ b, B b → w.heap.size ≤ b

set_option maxRecDepth 20000 in
set_option maxHeartbeats 1000000 in
theorem new_c (room : Int) (h0 : 0 ≤ room) (h1 : room ≤ 16777216) (w : World) : Calls Tryz.prog 28 #[.int .i64 room] w (Born room w) := by
  have hmm := @run_makeMap Tryz.prog
  go_enter Tryz.func28, Tryz.ntmps28
  go_wp2_with fail
  go_ret2
  obtain ⟨w1, hw1⟩ : ∃ w1, w1 = w.alloc (.map #[] 0) := ⟨_, rfl⟩
  obtain ⟨w2, hw2⟩ : ∃ w2, w2 = w1.alloc (.cells (dcells (fresh room) w.heap.size) 79) := ⟨_, rfl⟩
  have s1 : w1.heap.size = w.heap.size + 1 := by rw [hw1]; simp
  have s2 : w2.heap.size = w.heap.size + 2 := by rw [hw2]; simp [s1]
  have hown : w1.ownsMap Tryz.prog 9 ptrElem w.heap.size 0 (ents []) := by rw [hw1]; exact World.ownsMap_made _ _ _ _
  have hD : DiskAt w2 (w.heap.size + 1) (fresh room) (fun b => b = w.heap.size ∨ b = w.heap.size + 1) w.heap.size [] := by
    refine ⟨?_, ?_, rfl, (fun x hx => by cases hx), by simp [blocks], ?_, ?_⟩
    · rw [hw2, ← s1]; exact heap_alloc_new w1 _
    · rw [hw2]; exact own_only hown (Only.alloc (fun _ => False) _ _) (fun e => e)
    · intro b hb; simp [blocks] at hb; rcases hb with e | e
      · exact .inr e
      · exact .inl e
    · intro b hb; rcases hb with e | e <;> omega
  refine ⟨w.heap.size + 1, (fun b => b = w.heap.size ∨ b = w.heap.size + 1), rfl, ⟨fresh_ok h0 h1, w.heap.size, [], ?_⟩, ?_, fun b hb => by rcases hb with e | e <;> omega⟩
  · have : w2 = _ := hw2
    rw [hw1] at this
    rw [this] at hD
    exact hD
  · exact (((Below.refl _ _).alloc (Nat.le_refl _) _).alloc (by simp) _)

theorem new_bad (room : Int) (h : room < 0 ∨ 16777216 < room) (w : World) : Calls Tryz.prog 28 #[.int .i64 room] w fun e w' => e = .returned (.tuple #[.pointer none, .int .i64 1]) ∧ w = w' := by
  by_cases h0 : room < 0
  all_goals
    go_enter Tryz.func28, Tryz.ntmps28
    go_wp2_with fail
    go_ret2
    exact ⟨rfl, rfl⟩
def armed (s : St) (n : Int) : St := { s with ahead := max n (-1) }
set_option maxRecDepth 20000 in
set_option maxHeartbeats 1000000 in
theorem arm_c (p : Nat) (s : St) (B : Nat → Prop) (n : Int) (w : World) (h : Disk w p s B) (h0 : -9223372036854775808 ≤ n) (h1 : n ≤ 9223372036854775807) :
    Calls Tryz.prog 19 #[.pointer (some ⟨p, 0, none⟩), .int .i64 n] w (Tells w p (armed s n) B (.tuple #[])) := by
  obtain ⟨hs, m, L, hD⟩ := h
  have C0 := made_c p m s w hD.heap
  have c3 : w.cell? ⟨p, 3, none⟩ = some (.int .i64 s.ahead) := by rw [cells_at hD.heap]; rfl
  have f3 := cells_free hD.heap 3
  have key : ∀ a, a = max n (-1) → Next w p (armed s n) B (w.setCell ⟨p, 3, none⟩ (.int .i64 a)) := by
    intro a ha
    subst ha
    have o := Only.cell1 w p 3 (.int .i64 (max n (-1)))
    have hD2 := hD.own_block o (s' := armed s n) (by rw [cells_set hD.heap 3 _]; rfl) rfl
    have ho2 : (armed s n).ok := ⟨hs.r0, hs.r1, hs.c0, by show -1 ≤ max n (-1); omega, by show max n (-1) ≤ _; omega, hs.u, hs.k, hs.n, hs.m, hs.d⟩
    exact ⟨B, ⟨ho2, m, L, hD2⟩, o.mono fun i e => by subst e; exact hD.mine _ (by simp), fun i hi => .inl hi⟩
  have HK := Lib.hid key
  clear key hs hD
  go_enter Tryz.func19, Tryz.ntmps19
  go_wp2_with fail
  refine C0.mono ?_; rintro e w2 ⟨rfl, rfl⟩
  go_wp2_with fail
  all_goals
    go_end0
    exact ⟨rfl, HK.out _ (by omega)⟩

end Go.Proofs.YtdlomcgkpiejgaaGreatDoor
/- Plain facts: a disk with one file that was written; what holds of a reader at each round of the laws. -/
namespace Go.Proofs.YtdlomcgkpiejgaaGreatDoor
open Go.RowKit FsPlain CrcPlain OctPlain FramePlain RecPlain
set_option linter.unusedVariables false
set_option linter.unusedSimpArgs false
set_option maxRecDepth 20000
namespace RdPlain
/-- A disk with the file a, which is empty. -/
def stC (r : Int) : St := ⟨r, 1, -1, false, [⟨[97], [], 0⟩]⟩
/-- A disk with the file a of these bytes. -/
def stA (r : Int) (S : ByteArray) : St := ⟨r, 2, -1, false, [⟨[97], S.data.toList, 0⟩]⟩
theorem st_create (r : Int) : createR (fresh r) nmA.data.toList = (stC r, 0) := rfl
theorem st_append (r : Int) (S : ByteArray) (h : (S.size : Int) ≤ r) : appendR (stC r) nmA.data.toList S.data.toList = (stA r S, 0) := by
  unfold appendR
  rw [if_neg (show ¬ (stC r).call.down = true by simp [stC, St.call])]
  have hg : (stC r).get nmA.data.toList = some ⟨[97], [], 0⟩ := rfl
  rw [hg]
  have hu : used (stC r).fs = 0 := rfl
  simp only [hu]
  rw [if_neg (by show ¬ r < ((0 : Nat) : Int) + (S.data.toList.length : Nat); rw [data_length]; omega)]
  rfl
theorem st_stands (r : Int) (S : ByteArray) : Stands (stA r S) nmA.data.toList S := ⟨⟨⟨[97], S.data.toList, 0⟩, rfl, rfl⟩, rfl, rfl⟩
theorem st_size (r : Int) (S : ByteArray) (k : Int) (h : (sizeR (armed (stA r S) k) nmA.data.toList).2 = 0) : (sizeR (armed (stA r S) k) nmA.data.toList).1 = (S.size : Nat) := by
  unfold sizeR at h ⊢
  split at h
  · simp at h
  · rename_i h1
    rw [if_neg h1]
    have hg : (armed (stA r S) k).get nmA.data.toList = some ⟨[97], S.data.toList, 0⟩ := rfl
    rw [hg]
    simp only [data_length]
/-- The budget: four while it is open, none behind. -/
def Bud4 (m : N3) : Prop := (m.x.opn = true → m.b.now = 4) ∧ (m.x.opn = false → m.b.now = 0)
theorem give4 {b : Bu} (h : b.now = 4) : (b.give 4).now = 0 := by unfold Bu.give; rw [if_neg (by decide)]; simp only [h]; decide
theorem bud_shut {m : N3} (h : Bud4 m) : Bud4 (shutN m) := by
  unfold shutN
  split
  · rename_i ho; exact ⟨(fun e => by cases e), fun _ => give4 (h.1 ho)⟩
  · exact h
theorem bud_wrong {m : N3} (h : Bud4 m) : Bud4 (wrongN m) := bud_shut (m := m.isBad) h
theorem bud_close {m : N3} (h : Bud4 m) : Bud4 (closeN m) := by
  unfold closeN
  split
  · exact bud_wrong h
  · exact h
theorem bud_next {m : N3} (h : Bud4 m) : Bud4 (nextN m).1 := by
  unfold nextN
  split
  · exact h
  · split
    · unfold fillN
      split
      · exact bud_wrong (m := m.asked) h
      · split
        · exact bud_shut (m := m.asked.ended (bytesN m)) h
        · split
          · exact bud_wrong (m := m.asked) h
          · exact h
    · exact h
/-- How many records there can be yet. -/
def leftN (m : N3) : Nat := m.x.told + m.x.queue.length + m.x.left
theorem left_shut (m : N3) : leftN (shutN m) = leftN m := by unfold shutN; split <;> rfl
theorem left_close (m : N3) : leftN (closeN m) = leftN m := by
  unfold closeN
  split
  · exact left_shut m.isBad
  · rfl
theorem left_pop {m : N3} (h : m.x.queue ≠ []) : leftN m.popped = leftN m := by
  obtain ⟨r, q, hr⟩ := List.exists_cons_of_ne_nil h
  show m.x.told + 1 + m.x.queue.tail.length + m.x.left = m.x.told + m.x.queue.length + m.x.left
  rw [hr]; simp; omega
theorem left_next {m : N3} (h : m.ok) : leftN (nextN m).1 ≤ leftN m := by
  unfold nextN
  split
  · exact Nat.le_refl _
  · split
    · rename_i hq
      unfold fillN
      split
      · exact Nat.le_of_eq (left_shut m.asked.isBad)
      · rename_i h0
        split
        · exact Nat.le_of_eq (left_shut (m.asked.ended (bytesN m)))
        · split
          · exact Nat.le_of_eq (left_shut m.asked.isBad)
          · rename_i h2
            have hb : gB m.x.size (bytesN m) = true := by
              cases hb : gB m.x.size (bytesN m)
              · exact absurd (.inl hb) h2
              · rfl
            have hs := bytesN_size (m := m) (by simpa using h0)
            have hl := ask_left m.x
            obtain ⟨k1, k2⟩ := ok_filled (m := m.asked) (ok_asked h) hb (by rw [hs]; exact ask_left _) hq
            obtain ⟨_, z2, _⟩ := gL_size hb
            obtain ⟨_, n, hn, hn2, hn3, _⟩ := get_is hb
            show leftN (m.asked.filled (bytesN m)).popped ≤ _
            rw [left_pop k2]
            show m.x.told + (gL m.x.size (bytesN m)).length + (m.x.left - (gN m.x.size (bytesN m)).toNat) ≤ m.x.told + m.x.queue.length + m.x.left
            rw [hn, hq]
            simp only [Int.toNat_natCast, List.length_nil]
            omega
    · rename_i hq
      exact Nat.le_of_eq (left_pop hq)
/-- Behind a record it is open, and one more was told; behind none it is shut. -/
theorem next_none {m : N3} (h : (nextN m).2.2.1 = false) : (nextN m).1.x.opn = false ∧ (nextN m).2.1 = ⟨#[]⟩ := by
  revert h
  have hsh : ∀ m : N3, (shutN m).x.opn = false := fun m => by
    unfold shutN
    split
    · rfl
    · rename_i h; simpa using h
  unfold nextN
  split
  · rename_i ho; exact fun _ => ⟨ho, rfl⟩
  · split
    · unfold fillN
      split
      · exact fun _ => ⟨hsh _, rfl⟩
      · split
        · exact fun _ => ⟨hsh _, rfl⟩
        · split
          · exact fun _ => ⟨hsh _, rfl⟩
          · intro h; cases h
    · intro h; cases h
theorem next_some {m : N3} (h : (nextN m).2.2.1 = true) : m.x.opn = true ∧ (nextN m).1.x.opn = true ∧ (nextN m).1.x.told = m.x.told + 1 ∧ (nextN m).2.2.2 = 0 := by
  revert h
  unfold nextN
  split
  · intro h; cases h
  · rename_i ho
    have ho : m.x.opn = true := by simpa using ho
    split
    · unfold fillN
      split
      · intro h; cases h
      · split
        · intro h; cases h
        · split
          · intro h; cases h
          · exact fun _ => ⟨ho, ho, rfl, rfl⟩
    · exact fun _ => ⟨ho, ho, rfl, rfl⟩
/-- What holds at the head of round i. -/
structure PlayN (m : N3) (i : Nat) : Prop where
  ok : m.ok
  inv : m.inv
  told : m.x.told = i
  calls : m.s.calls ≤ 10 + (i : Int)
  bud : Bud4 m
  left : leftN m ≤ 689
theorem PlayN.few {m : N3} {i : Nat} (h : PlayN m i) : i ≤ 689 := by have h1 := h.told; have h2 := h.left; unfold leftN at h2; omega
theorem PlayN.close {m : N3} {i : Nat} (h : PlayN m i) : PlayN (closeN m) i :=
  ⟨ok_closeN h.ok, inv_closeN h.inv, (closeN_calls m).2.trans h.told, by rw [(closeN_calls m).1]; exact h.calls, bud_close h.bud, by rw [left_close]; exact h.left⟩
theorem PlayN.next {m : N3} {i : Nat} (h : PlayN m i) (hp : (nextN m).2.2.1 = true) : PlayN (nextN m).1 (i + 1) := by
  obtain ⟨_, _, h3, _⟩ := next_some hp
  have h4 := nextN_calls m
  have h5 := h.calls
  refine ⟨ok_nextN h.ok, inv_nextN h.inv h.ok, by rw [h3, h.told], by rw [Int.natCast_add]; simp only [Int.natCast_one]; omega, bud_next h.bud, Nat.le_trans (left_next h.ok) h.left⟩
theorem play_open {r : Int} (h0r : 0 ≤ r) {S : ByteArray} (hr : (S.size : Int) ≤ r) (hr2 : r ≤ 16777216) (hS : S.size ≤ 700) {k mm size : Int} (hk : k ≤ 9223372036854775807) (hm : 0 ≤ mm) (hm2 : mm ≤ 9223372036854775807) (hs : (armed (stA r S) k).ok) (R : St × Bu × Int × Nat) (hR : R = openN (armed (stA r S) k) ⟨mm, 0, 0⟩ nmA size) (h0 : R.2.2.1 = 0) : PlayN ⟨R.1, R.2.1, newRs nmA size R.2.2.2⟩ 0 := by
  subst hR
  have hb : (Bu.mk mm 0 0).ok := ⟨Int.le_refl 0, Int.le_refl 0, hm, hm2⟩
  have hok := openN_ok hs hb nmA_size nmA_right h0
  obtain ⟨h1, h2, h3, h4, h5, h6, h7, e⟩ := openN_yes h0
  have hc := openN_calls (armed (stA r S) k) ⟨mm, 0, 0⟩ nmA size
  have hsz := st_size r S k h3
  refine ⟨hok, inv_new _ _ _ _ _, rfl, ?_, ⟨fun _ => ?_, (fun e => by cases e)⟩, ?_⟩
  · have : (armed (stA r S) k).calls = 2 := rfl
    simp only [Int.natCast_zero]; omega
  · rw [e]
    show (Bu.take ⟨mm, 0, 0⟩ 4).now = 4
    unfold Bu.takeE at h2
    unfold Bu.take
    simp only [] at h2 ⊢
    split at h2
    · simp at h2
    · split at h2
      · simp at h2
      · rw [if_neg (by omega)]; simp
  · rw [e]
    show 0 + 0 + ((sizeR (armed (stA r S) k) nmA.data.toList).1.toNat - 11) ≤ 689
    rw [hsz]; simp only [Int.toNat_natCast]; omega
end RdPlain
end Go.Proofs.YtdlomcgkpiejgaaGreatDoor
/- A budget as a part of a world: the program's, and the document's. -/
namespace Go.Proofs.YtdlomcgkpiejgaaGreatDoor
open Go.RowKit
set_option linter.unusedVariables false
set_option linter.unusedSimpArgs false
set_option maxRecDepth 20000
def BuA (p : Nat) (b : Bu) : Asn := fun w B => b.ok ∧ Blk p (bcells b) 63 w B
theorem fr_bu (p : Nat) (b : Bu) : Fr (BuA p b) := ⟨fun h o d => ⟨h.1, (fr_blk _ _ _).fr h.2 o d⟩, fun h => (fr_blk _ _ _).lo h.2⟩
theorem BuA.at {p : Nat} {b : Bu} {w : World} {B : Nat → Prop} (h : BuA p b w B) : BAt w p b := ⟨h.1, h.2.1⟩
theorem bu_next {p : Nat} {b b' : Bu} {w w' : World} {B : Nat → Prop} (h : BuA p b w B) (k : BAt w' p b') (g : Only (fun i => i = p) w w') : ∃ B', BuA p b' w' B' ∧ Nx B w B' w' :=
  ⟨B, ⟨k.1, k.2, h.2.2⟩, Nx.of g fun b hb => (h.2.2 b).2 hb⟩
theorem bu_take (p : Nat) (b : Bu) (n : Int) (w : World) (B : Nat → Prop) (h : BuA p b w B) :
    Calls Tryz.prog 31 #[.pointer (some ⟨p, 0, none⟩), .int .i64 n] w (Does w B (BuA p (b.take n)) (.int .i64 (b.takeE n))) :=
  (btake_c p b n w h.at).mono fun e w' ⟨he, k, g⟩ => ⟨he, bu_next h k g⟩
theorem bu_give (p : Nat) (b : Bu) (n : Int) (w : World) (B : Nat → Prop) (h : BuA p b w B) :
    Calls Tryz.prog 32 #[.pointer (some ⟨p, 0, none⟩), .int .i64 n] w (Does w B (BuA p (b.give n)) (.tuple #[])) :=
  (bgive_c p b n w h.at).mono fun e w' ⟨he, k, g⟩ => ⟨he, bu_next h k g⟩
theorem bu_new (m : Int) (w : World) (h : 0 ≤ m) (h2 : m ≤ 9223372036854775807) :
    Calls Tryz.prog 9 #[.int .i64 m] w fun e w' => e = .returned (.pointer (some ⟨w.heap.size, 0, none⟩)) ∧ BuA w.heap.size ⟨m, 0, 0⟩ w' (fun x => x = w.heap.size) ∧ Gr w w' :=
  (bnew_c m w h h2).mono fun e w' ⟨he, k, g⟩ => ⟨he, ⟨k.1, k.2, fun _ => Iff.rfl⟩, g⟩
/-! The document's. -/
def rbcells (b : Bu) : Array Value := #[.int .i64 b.m, .int .i64 b.now, .int .i64 b.high]
end Go.Proofs.YtdlomcgkpiejgaaGreatDoor
/- The program's disk as a part of a world: what Create, Append, Sync, Size, Read leave. -/
namespace Go.Proofs.YtdlomcgkpiejgaaGreatDoor
open Go.RowKit Go.Maps FsPlain
set_option linter.unusedVariables false
set_option linter.unusedSimpArgs false
set_option maxRecDepth 20000
def DiskA (p : Nat) (s : St) : Asn := fun w B => Disk w p s B
theorem fr_disk (p : Nat) (s : St) : Fr (DiskA p s) := ⟨fun h o d => Disk.only h o d, fun h => Disk.low h⟩
theorem tells_does {w w' : World} {p : Nat} {s : St} {B : Nat → Prop} {v : Value} {e : Ending} (h : Tells w p s B v e w') : Does w B (DiskA p s) v e w' := by
  obtain ⟨he, B', d, o, f⟩ := h
  exact ⟨he, B', d, o, f⟩
theorem d_create (p : Nat) (s : St) (n : ByteArray) (hn : n.size ≤ 1000) (hm : rightB n.data.toList = true) (h1 : s.calls ≤ 1000000000000) (w : World) (B : Nat → Prop) (h : DiskA p s w B) :
    Calls Tryz.prog 29 #[.pointer (some ⟨p, 0, none⟩), .string n] w (Does w B (DiskA p (createR s n.data.toList).1) (.int .i64 (createR s n.data.toList).2)) :=
  (create_c p s B n w h (by unfold maxLen; omega) hm h1).mono fun _ _ => tells_does
theorem d_append (p : Nat) (s : St) (n t : ByteArray) (hn : n.size ≤ 1000) (hm : rightB n.data.toList = true) (h1 : s.calls ≤ 1000000000000) (ht : t.size ≤ 1000000000) (w : World) (B : Nat → Prop) (h : DiskA p s w B) :
    Calls Tryz.prog 30 #[.pointer (some ⟨p, 0, none⟩), .string n, .string t] w (Does w B (DiskA p (appendR s n.data.toList t.data.toList).1) (.int .i64 (appendR s n.data.toList t.data.toList).2)) :=
  (append_c p s B n t w h (by unfold maxLen; omega) hm h1 (by omega)).mono fun _ _ => tells_does
theorem d_sync (p : Nat) (s : St) (n : ByteArray) (hn : n.size ≤ 1000) (hm : rightB n.data.toList = true) (h1 : s.calls ≤ 1000000000000) (w : World) (B : Nat → Prop) (h : DiskA p s w B) :
    Calls Tryz.prog 135 #[.pointer (some ⟨p, 0, none⟩), .string n] w (Does w B (DiskA p (syncR s n.data.toList).1) (.int .i64 (syncR s n.data.toList).2)) :=
  (sync_c p s B n w h (by unfold maxLen; omega) hm h1).mono fun _ _ => tells_does
theorem d_size (p : Nat) (s : St) (n : ByteArray) (hn : n.size ≤ 1000) (hm : rightB n.data.toList = true) (h1 : s.calls ≤ 1000000000000) (w : World) (B : Nat → Prop) (h : DiskA p s w B) :
    Calls Tryz.prog 42 #[.pointer (some ⟨p, 0, none⟩), .string n] w (Does w B (DiskA p s.call) (.tuple #[.int .i64 (sizeR s n.data.toList).1, .int .i64 (sizeR s n.data.toList).2])) :=
  (size_c p s B n w h (by unfold maxLen; omega) hm h1).mono fun _ _ => tells_does
theorem d_read (p : Nat) (s : St) (n : ByteArray) (i k : Nat) (hn : n.size ≤ 1000) (hm : rightB n.data.toList = true) (h1 : s.calls ≤ 1000000000000) (hi : i ≤ 1000000000) (hk : k ≤ 1000000000) (w : World) (B : Nat → Prop) (h : DiskA p s w B) :
    Calls Tryz.prog 43 #[.pointer (some ⟨p, 0, none⟩), .string n, .int .i64 (i : Int), .int .i64 (k : Int)] w (Does w B (DiskA p s.call) (.tuple #[.string (bs (readR s n.data.toList i k).1), .int .i64 (readR s n.data.toList i k).2])) :=
  (read_c p s B n i k w h (by unfold maxLen; omega) hm h1 (by omega) (by omega)).mono fun _ _ => tells_does
end Go.Proofs.YtdlomcgkpiejgaaGreatDoor
/- What Form leaves of a disk and a budget: as the laws want it, whatever its text. -/
namespace Go.Proofs.YtdlomcgkpiejgaaGreatDoor
open Go.RowKit FsPlain CrcPlain OctPlain FramePlain RecPlain RdPlain RnPlain
set_option linter.unusedVariables false
set_option linter.unusedSimpArgs false
set_option maxRecDepth 20000
/-- The runs' names may be made. -/
def Names16 (s : St) (inn out : ByteArray) : Prop := ∀ i : Nat, i < 3000 → rightB (nameN out i).data.toList = true ∧ (nameN out i).size ≤ 24 ∧ nameN out i ≠ inn ∧ s.get (nameN out i).data.toList = none
/-- The runs of L are there, and nothing else is new. -/
structure RunsOf (s s' : St) (out : ByteArray) (size m : Int) (u : Bool) (L : List ByteArray) (k : Int) : Prop where
  k : k = ((runsT m.toNat u L.length L).length : Nat)
  file : ∀ (i : Nat) (l : List ByteArray), (runsT m.toNat u L.length L)[i]? = some l → HasD s' (nameN out i).data.toList (bs (layL size l))
  len : s'.fs.length = s.fs.length + (runsT m.toNat u L.length L).length
structure FormR (s : St) (b : Bu) (C inn out : ByteArray) (size m : Int) (u : Bool) (s' : St) (b' : Bu) (k er : Int) : Prop where
  k0 : er ≠ 0 → k = 0
  now : b'.now = b.now
  bm : b'.m = b.m
  calls : s'.calls ≤ s.calls + 1000000
  arg : m < 1 → er = 1
  yes : er = 0 → ∃ L, IsFile size C L ∧ RunsOf s s' out size m u L k
  code : ∀ L, IsFile size C L → 1 ≤ m → m + 8 ≤ b.m - b.now → er = 0 ∨ er = 4 ∨ er = 5
  calm : ∀ L, IsFile size C L → 1 ≤ m → m + 8 ≤ b.m - b.now → s.down = false → s.ahead = -1 → L.length ≤ 100 → s.fs.length ≤ 50 → (used s.fs : Int) + 100 * (L.length : Nat) ≤ s.room → er = 0 ∧ s'.down = false ∧ s'.ahead = -1
def FormGot (D P : Nat) (s : St) (b : Bu) (C inn out : ByteArray) (size m : Int) (u : Bool) (w : World) (B : Nat → Prop) (e : Ending) (w' : World) : Prop :=
  ∃ s' b' k er, e = .returned (.tuple #[.int .i64 k, .int .i64 er]) ∧ FormR s b C inn out size m u s' b' k er ∧ ∃ B', stars [DiskA D s', BuA P b'] w' B' ∧ Nx B w B' w'
theorem dig_right : ∀ f n : Nat, n < f → (digB n).all letterB = true
  | f + 1, n, h => by
    have d : ∀ k : Nat, k < 10 → letterB (UInt8.ofNat (48 + k)) = true := by
      intro k hk
      have : (UInt8.ofNat (48 + k)).toNat = 48 + k := by simp; omega
      unfold letterB
      rw [this]
      simp only [decide_eq_true_eq]
      omega
    by_cases h10 : n < 10
    · rw [digB_small h10, List.all_cons, List.all_nil, d n h10]; rfl
    · rw [digB_big h10, List.all_append, dig_right f (n / 10) (by omega), List.all_cons, List.all_nil, d (n % 10) (by omega)]; rfl
theorem dig_few : ∀ n : Nat, n < 10000 → 1 ≤ (digB n).length ∧ (digB n).length ≤ 4 := by
  intro n hn
  by_cases h1 : n < 10
  · rw [digB_small h1]; simp
  · rw [digB_big h1]
    by_cases h2 : n / 10 < 10
    · rw [digB_small h2]; simp
    · rw [digB_big h2]
      by_cases h3 : n / 10 / 10 < 10
      · rw [digB_small h3]; simp
      · rw [digB_big h3, digB_small (n := n / 10 / 10 / 10) (by omega)]; simp
/-- The name of the i-th run of b. -/
def nmB : ByteArray := ⟨#[98]⟩
theorem name_data (i : Nat) : (nameN nmB (i : Int)).data.toList = 98 :: 46 :: digB i := by
  unfold nameN
  rw [if_neg (by omega), Int.toNat_natCast]
  simp [ByteArray.data_append, nmB, bs]
theorem name_b {i : Nat} (h : i < 3000) : rightB (nameN nmB (i : Int)).data.toList = true ∧ (nameN nmB (i : Int)).size ≤ 24 ∧ nameN nmB (i : Int) ≠ nmA := by
  obtain ⟨h1, h2⟩ := dig_few i (by omega)
  have hd := name_data i
  refine ⟨?_, ?_, fun e => ?_⟩
  · rw [hd]
    unfold rightB
    simp only [List.all_cons, List.length_cons, Bool.and_eq_true, decide_eq_true_eq]
    exact ⟨⟨by decide, by decide, dig_right (i + 1) i (by omega)⟩, by omega, by omega⟩
  · have : (nameN nmB (i : Int)).size = (nameN nmB (i : Int)).data.toList.length := Array.length_toList.symm
    rw [this, hd]; simp; omega
  · have := congrArg (fun b : ByteArray => b.data.toList) e
    rw [hd] at this
    simp [nmA] at this
theorem names_a (r : Int) (S : ByteArray) (k : Int) : Names16 (armed (stA r S) k) nmA nmB := by
  intro i hi
  obtain ⟨h1, h2, h3⟩ := name_b hi
  refine ⟨h1, h2, h3, ?_⟩
  rw [name_data]
  rfl
end Go.Proofs.YtdlomcgkpiejgaaGreatDoor

/- In one text: FsNew, FsA0. -/
import Derived.Test.YtibajmjplpnbmaaP18
import Derived.Test.YtibajmjplpnbmaaP04
/- The contracts of New, Arm and Calls. -/
namespace Go.Proofs.Ytibajmjplpnbmaa
open Go.RowKit FsPlain Go.Maps
set_option linter.unusedVariables false
set_option linter.unusedSimpArgs false
set_option maxRecDepth 20000

def fresh (room : Int) : St := ⟨room, 0, -1, false, []⟩
theorem fresh_ok {room : Int} (h0 : 0 ≤ room) (h1 : room ≤ 16777216) : (fresh room).ok :=
  ⟨h0, h1, Int.le_refl 0, Int.le_refl (-1), by show (-1 : Int) ≤ _; omega, by show ((0 : Nat) : Int) ≤ room; omega, (fun f hf => by cases hf), (fun f hf => by cases hf), by show 0 ≤ 200; omega, List.Pairwise.nil⟩

/-- A new disk, in new blocks. -/
def Born (room : Int) (w : World) (e : Ending) (w' : World) : Prop :=
  ∃ p B, e = .returned (.tuple #[.pointer (some ⟨p, 0, none⟩), .int .i64 0]) ∧ Disk w' p (fresh room) B ∧ Gr w w' ∧ ∀ b, B b → w.heap.size ≤ b

set_option maxRecDepth 20000 in
set_option maxHeartbeats 1000000 in
theorem new_c (room : Int) (h0 : 0 ≤ room) (h1 : room ≤ 16777216) (w : World) : Calls Try.prog 8 #[.int .i64 room] w (Born room w) := by
  have hmm := @run_makeMap Try.prog
  go_enter Try.func8, Try.ntmps8
  go_wp2_with fail
  go_ret2
  obtain ⟨w1, hw1⟩ : ∃ w1, w1 = w.alloc (.map #[] 0) := ⟨_, rfl⟩
  obtain ⟨w2, hw2⟩ : ∃ w2, w2 = w1.alloc (.cells (dcells (fresh room) w.heap.size) 55) := ⟨_, rfl⟩
  have s1 : w1.heap.size = w.heap.size + 1 := by rw [hw1]; simp
  have s2 : w2.heap.size = w.heap.size + 2 := by rw [hw2]; simp [s1]
  have hown : w1.ownsMap Try.prog 9 ptrElem w.heap.size 0 (ents []) := by rw [hw1]; exact World.ownsMap_made _ _ _ _
  have hD : DiskAt w2 (w.heap.size + 1) (fresh room) (fun b => b = w.heap.size ∨ b = w.heap.size + 1) w.heap.size [] := by
    refine ⟨?_, ?_, rfl, (fun x hx => by cases hx), by simp [blocks], ?_, ?_⟩
    · rw [hw2, ← s1]; exact heap_alloc_new w1 _
    · rw [hw2]; exact own_only hown (Only.alloc (fun _ => False) _ _) (fun e => e)
    · intro b hb; simp [blocks] at hb; rcases hb with e | e
      · exact .inr e
      · exact .inl e
    · intro b hb; rcases hb with e | e <;> omega
  refine ⟨w.heap.size + 1, (fun b => b = w.heap.size ∨ b = w.heap.size + 1), rfl, ⟨fresh_ok h0 h1, w.heap.size, [], ?_⟩, ?_, fun b hb => by rcases hb with e | e <;> omega⟩
  · have : w2 = _ := hw2
    rw [hw1] at this
    rw [this] at hD
    exact hD
  · exact (((Below.refl _ _).alloc (Nat.le_refl _) _).alloc (by simp) _)

theorem new_bad (room : Int) (h : room < 0 ∨ 16777216 < room) (w : World) : Calls Try.prog 8 #[.int .i64 room] w fun e w' => e = .returned (.tuple #[.pointer none, .int .i64 1]) ∧ w = w' := by
  by_cases h0 : room < 0
  all_goals
    go_enter Try.func8, Try.ntmps8
    go_wp2_with fail
    go_ret2
    exact ⟨rfl, rfl⟩
def armed (s : St) (n : Int) : St := { s with ahead := max n (-1) }
end Go.Proofs.Ytibajmjplpnbmaa
/- The program's disk as a part of a world: what Create, Append, Sync, Size, Read leave. -/
namespace Go.Proofs.Ytibajmjplpnbmaa
open Go.RowKit Go.Maps FsPlain
set_option linter.unusedVariables false
set_option linter.unusedSimpArgs false
set_option maxRecDepth 20000
def DiskA (p : Nat) (s : St) : Asn := fun w B => Disk w p s B
theorem fr_disk (p : Nat) (s : St) : Fr (DiskA p s) := ⟨fun h o d => Disk.only h o d, fun h => Disk.low h⟩
theorem tells_does {w w' : World} {p : Nat} {s : St} {B : Nat → Prop} {v : Value} {e : Ending} (h : Tells w p s B v e w') : Does w B (DiskA p s) v e w' := by
  obtain ⟨he, B', d, o, f⟩ := h
  exact ⟨he, B', d, o, f⟩
theorem d_create (p : Nat) (s : St) (n : ByteArray) (hn : n.size ≤ 1000) (hm : rightB n.data.toList = true) (h1 : s.calls ≤ 1000000000000) (w : World) (B : Nat → Prop) (h : DiskA p s w B) :
    Calls Try.prog 10 #[.pointer (some ⟨p, 0, none⟩), .string n] w (Does w B (DiskA p (createR s n.data.toList).1) (.int .i64 (createR s n.data.toList).2)) :=
  (create_c p s B n w h (by unfold maxLen; omega) hm h1).mono fun _ _ => tells_does
theorem d_append (p : Nat) (s : St) (n t : ByteArray) (hn : n.size ≤ 1000) (hm : rightB n.data.toList = true) (h1 : s.calls ≤ 1000000000000) (ht : t.size ≤ 1000000000) (w : World) (B : Nat → Prop) (h : DiskA p s w B) :
    Calls Try.prog 11 #[.pointer (some ⟨p, 0, none⟩), .string n, .string t] w (Does w B (DiskA p (appendR s n.data.toList t.data.toList).1) (.int .i64 (appendR s n.data.toList t.data.toList).2)) :=
  (append_c p s B n t w h (by unfold maxLen; omega) hm h1 (by omega)).mono fun _ _ => tells_does
theorem d_size (p : Nat) (s : St) (n : ByteArray) (hn : n.size ≤ 1000) (hm : rightB n.data.toList = true) (h1 : s.calls ≤ 1000000000000) (w : World) (B : Nat → Prop) (h : DiskA p s w B) :
    Calls Try.prog 33 #[.pointer (some ⟨p, 0, none⟩), .string n] w (Does w B (DiskA p s.call) (.tuple #[.int .i64 (sizeR s n.data.toList).1, .int .i64 (sizeR s n.data.toList).2])) :=
  (size_c p s B n w h (by unfold maxLen; omega) hm h1).mono fun _ _ => tells_does
theorem d_read (p : Nat) (s : St) (n : ByteArray) (i k : Nat) (hn : n.size ≤ 1000) (hm : rightB n.data.toList = true) (h1 : s.calls ≤ 1000000000000) (hi : i ≤ 1000000000) (hk : k ≤ 1000000000) (w : World) (B : Nat → Prop) (h : DiskA p s w B) :
    Calls Try.prog 34 #[.pointer (some ⟨p, 0, none⟩), .string n, .int .i64 (i : Int), .int .i64 (k : Int)] w (Does w B (DiskA p s.call) (.tuple #[.string (bs (readR s n.data.toList i k).1), .int .i64 (readR s n.data.toList i k).2])) :=
  (read_c p s B n i k w h (by unfold maxLen; omega) hm h1 (by omega) (by omega)).mono fun _ _ => tells_does
end Go.Proofs.Ytibajmjplpnbmaa

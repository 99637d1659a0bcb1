/- The contracts of New, Arm and Calls. -/
import Derived.Test.YthmcmgbhjdfncaaFsCreate
namespace Go.Proofs.Ythmcmgbhjdfncaa
open Go.RowKit FsPlain Go.Maps
set_option linter.unusedVariables false
set_option linter.unusedSimpArgs false

def fresh (room : Int) : St := ⟨room, 0, -1, false, []⟩
theorem fresh_ok {room : Int} (h0 : 0 ≤ room) (h1 : room ≤ 16777216) : (fresh room).ok :=
  ⟨h0, h1, Int.le_refl 0, Int.le_refl (-1), by show (-1 : Int) ≤ _; omega, by show ((0 : Nat) : Int) ≤ room; omega, (fun f hf => by cases hf), (fun f hf => by cases hf), by show 0 ≤ 200; omega, List.Pairwise.nil⟩

/-- A new disk, in new blocks. -/
def Born (room : Int) (w : World) (e : Ending) (w' : World) : Prop :=
  ∃ p B, e = .returned (.tuple #[.pointer (some ⟨p, 0, none⟩), .int .i64 0]) ∧ Disk w' p (fresh room) B ∧ Gr w w' ∧ ∀ b, B b → w.heap.size ≤ b

set_option maxHeartbeats 1000000 in
theorem new_c (room : Int) (h0 : 0 ≤ room) (h1 : room ≤ 16777216) (w : World) : Calls Try.prog 6 #[.int .i64 room] w (Born room w) := by
  have hmm := @run_makeMap Try.prog
  go_enter Try.func6, Try.ntmps6
  go_wp2_with fail
  go_ret2
  obtain ⟨w1, hw1⟩ : ∃ w1, w1 = w.alloc (.map #[] 0) := ⟨_, rfl⟩
  obtain ⟨w2, hw2⟩ : ∃ w2, w2 = w1.alloc (.cells (dcells (fresh room) w.heap.size) 45) := ⟨_, rfl⟩
  have s1 : w1.heap.size = w.heap.size + 1 := by rw [hw1]; simp
  have s2 : w2.heap.size = w.heap.size + 2 := by rw [hw2]; simp [s1]
  have hown : w1.ownsMap Try.prog 9 ptrElem w.heap.size 0 (ents []) := by rw [hw1]; exact World.ownsMap_made _ _ _ _
  have hD : DiskAt w2 (w.heap.size + 1) (fresh room) (fun b => b = w.heap.size ∨ b = w.heap.size + 1) w.heap.size [] := by
    refine ⟨?_, ?_, rfl, (fun x hx => by cases hx), by simp [blocks], ?_, ?_⟩
    · rw [hw2, ← s1]; exact heap_alloc_new w1 _
    · rw [hw2]; exact own_only hown (Only.alloc (fun _ => False) _ _) (fun e => e)
    · intro b hb; simp [blocks] at hb; rcases hb with e | e
      · exact .inr e
      · exact .inl e
    · intro b hb; rcases hb with e | e <;> omega
  refine ⟨w.heap.size + 1, (fun b => b = w.heap.size ∨ b = w.heap.size + 1), rfl, ⟨fresh_ok h0 h1, w.heap.size, [], ?_⟩, ?_, fun b hb => by rcases hb with e | e <;> omega⟩
  · have : w2 = _ := hw2
    rw [hw1] at this
    rw [this] at hD
    exact hD
  · exact (((Below.refl _ _).alloc (Nat.le_refl _) _).alloc (by simp) _)

def armed (s : St) (n : Int) : St := { s with ahead := max n (-1) }
set_option maxHeartbeats 1000000 in
theorem arm_c (p : Nat) (s : St) (B : Nat → Prop) (n : Int) (w : World) (h : Disk w p s B) (h0 : -9223372036854775808 ≤ n) (h1 : n ≤ 9223372036854775807) :
    Calls Try.prog 9 #[.pointer (some ⟨p, 0, none⟩), .int .i64 n] w (Tells w p (armed s n) B (.tuple #[])) := by
  obtain ⟨hs, m, L, hD⟩ := h
  have C0 := made_c p m s w hD.heap
  have c3 : w.cell? ⟨p, 3, none⟩ = some (.int .i64 s.ahead) := by rw [cells_at hD.heap]; rfl
  have f3 := cells_free hD.heap 3
  have key : ∀ a, a = max n (-1) → Next w p (armed s n) B (w.setCell ⟨p, 3, none⟩ (.int .i64 a)) := by
    intro a ha
    subst ha
    have o := Only.cell1 w p 3 (.int .i64 (max n (-1)))
    have hD2 := hD.own_block o (s' := armed s n) (by rw [cells_set hD.heap 3 _]; rfl) rfl
    have ho2 : (armed s n).ok := ⟨hs.r0, hs.r1, hs.c0, by show -1 ≤ max n (-1); omega, by show max n (-1) ≤ _; omega, hs.u, hs.k, hs.n, hs.m, hs.d⟩
    exact ⟨B, ⟨ho2, m, L, hD2⟩, o.mono fun i e => by subst e; exact hD.mine _ (by simp), fun i hi => .inl hi⟩
  have HK := Lib.hid key
  clear key hs hD
  go_enter Try.func9, Try.ntmps9
  go_wp2_with fail
  refine C0.mono ?_; rintro e w2 ⟨rfl, rfl⟩
  go_wp2_with fail
  all_goals
    go_end0
    exact ⟨rfl, HK.out _ (by omega)⟩

theorem calls_c (p : Nat) (s : St) (B : Nat → Prop) (w : World) (h : Disk w p s B) : Calls Try.prog 19 #[.pointer (some ⟨p, 0, none⟩)] w fun e w' => e = .returned (.int .i64 s.calls) ∧ w = w' := by
  obtain ⟨hs, m, L, hD⟩ := h
  have C0 := made_c p m s w hD.heap
  have c2 : w.cell? ⟨p, 2, none⟩ = some (.int .i64 s.calls) := by rw [cells_at hD.heap]; rfl
  clear hs hD
  go_enter Try.func19, Try.ntmps19
  go_wp2_with fail
  refine C0.mono ?_; rintro e w2 ⟨rfl, rfl⟩
  go_wp2_with fail
  go_ret
  exact ⟨rfl, rfl⟩
end Go.Proofs.Ythmcmgbhjdfncaa

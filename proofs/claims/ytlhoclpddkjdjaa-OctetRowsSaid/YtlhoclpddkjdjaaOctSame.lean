/- The statement's comparison of two lists says that they are one, where they hold the same. -/
import Derived.Test.YtlhoclpddkjdjaaOctSplit
namespace Go.Proofs.Ytlhoclpddkjdjaa
open Go.RowKit OctPlain
set_option linter.unusedVariables false
set_option linter.unusedSimpArgs false

theorem same_none (a b : Option Addr) (c d : Nat) (w : World) :
    Calls Try.prog 19 #[.slice a 0 c, .slice b 0 d] w fun e w' => e = .returned (.bool true) ∧ Gr w w' := by
  go_enter Try.func19, Try.ntmps19
  go_wp2_with fail
  go_rounds 1
  go_ret
  exact ⟨rfl, Gr.refl _⟩

def SameAt (n : Nat) (w : World) (i : Value) (wr : World) : Prop := ∃ j : Nat, j ≤ n ∧ i = .int .i64 j ∧ Below w.heap.size w wr

set_option maxHeartbeats 2000000 in
theorem same_some (g1 g2 n c d : Nat) (L : List ByteArray) (hL : L.length = n) (hn : n ≤ 1000) (w : World) (hg1 : g1 < w.heap.size) (hg2 : g2 < w.heap.size)
    (h1 : ∀ j (hj : j < L.length), w.cell? ⟨g1, j, none⟩ = some (.string L[j])) (h2 : ∀ j (hj : j < L.length), w.cell? ⟨g2, j, none⟩ = some (.string L[j])) :
    Calls Try.prog 19 #[.slice (some ⟨g1, 0, none⟩) n c, .slice (some ⟨g2, 0, none⟩) n d] w fun e w' => e = .returned (.bool true) ∧ Gr w w' := by
  go_enter Try.func19, Try.ntmps19
  go_wp2_with fail
  go_loopw [5] (fun i wr => SameAt n w i wr) (fun i _ => n - (intOf i).toNat)
  case atStart => exact ⟨0, Nat.zero_le _, rfl, Below.refl _ _⟩
  case round =>
    obtain ⟨j, hj, rfl, hbel⟩ := hrel
    by_cases hlt : j < n
    · have c1 : wr.cell? ⟨g1, j, none⟩ = some (.string (L[j]'(by omega))) := by rw [hbel.cell hg1]; exact h1 j (by omega)
      have c2 : wr.cell? ⟨g2, j, none⟩ = some (.string (L[j]'(by omega))) := by rw [hbel.cell hg2]; exact h2 j (by omega)
      generalize (L[j]'(by omega)) = x at c1 c2
      clear h1 h2
      go_wp2_with fail
      go_region
      go_wp2
      refine ⟨⟨j + 1, by omega, rfl, ?_⟩, ?_⟩
      · exact hbel.drew
      · simp [intOf]; omega
    · obtain rfl : j = n := by omega
      clear h1 h2
      go_wp2
      go_ret
      exact ⟨rfl, Gr.of hbel⟩

theorem strs_get {L : List ByteArray} {j : Nat} (hj : j < L.length) : (strs L)[j]? = some (.string L[j]) := by
  unfold strs; rw [List.getElem?_map, List.getElem?_eq_getElem hj]; rfl

theorem add0 (g j : Nat) : Addr.add ⟨g, 0, none⟩ j = ⟨g, j, none⟩ := by
  by_cases h : j = 0 <;> simp [Addr.add, h]
theorem same_c {B1 B2 : Nat} {v1 v2 : Value} {L : List ByteArray} (w : World) (hn : L.length ≤ 1000)
    (h1 : w.ownsRow B1 9 1 v1 L.length (strs L)) (h2 : w.ownsRow B2 9 1 v2 L.length (strs L)) :
    Calls Try.prog 19 #[v1, v2] w fun e w' => e = .returned (.bool true) ∧ Gr w w' := by
  have k1 := @World.ownsRow.cells w _ _ _ _ _ _ h1
  have k2 := @World.ownsRow.cells w _ _ _ _ _ _ h2
  have l1 := h1.lt
  have l2 := h2.lt
  obtain ⟨_, p1⟩ := h1
  obtain ⟨_, p2⟩ := h2
  rcases p1 with ⟨rfl, z1⟩ | ⟨g1, c1, u1, rfl, _⟩
  · rcases p2 with ⟨rfl, z2⟩ | ⟨g2, c2, u2, rfl, _⟩
    · exact same_none _ _ _ _ w
    · rw [z1]; exact same_none _ _ _ _ w
  · rcases p2 with ⟨rfl, z2⟩ | ⟨g2, c2, u2, rfl, _⟩
    · rw [z2]; exact same_none _ _ _ _ w
    · refine same_some g1 g2 L.length c1 c2 L rfl hn w (l1 g1 rfl).2 (l2 g2 rfl).2 ?_ ?_
      · intro j hj
        have := k1 (g := g1) rfl j _ (strs_get hj)
        rwa [add0] at this
      · intro j hj
        have := k2 (g := g2) rfl j _ (strs_get hj)
        rwa [add0] at this

theorem splL_le (s : ByteArray) (k : Int) (hs : s.size ≤ 1000) : (splL s k).length ≤ 1000 := by
  unfold splL
  split
  · rw [pieces_length]; exact Nat.le_trans (Nat.div_le_self _ _) hs
  · simp
end Go.Proofs.Ytlhoclpddkjdjaa

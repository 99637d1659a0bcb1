/- A slice that holds these strings, whoever made it; the document's comparison of two such. -/
import Derived.Test.YtckgdnaocmefjaaArgs
import Derived.Test.YtckgdnaocmefjaaFramePlain
import Derived.Test.YtckgdnaocmefjaaOctSplit
import Derived.RegionTactic
import Derived.BigRegion
namespace Go.Proofs.Ytckgdnaocmefjaa
open Go.RowKit OctPlain FramePlain
set_option linter.unusedVariables false
set_option linter.unusedSimpArgs false
/-- v is a slice of these strings. -/
def Lies (w : World) (v : Value) (L : List ByteArray) : Prop := ∃ a c, v = .slice a L.length c ∧ L.length ≤ c ∧ (L = [] ∨ ∃ b off, a = some ⟨b, off, none⟩ ∧ SRow w b off L)
theorem Lies.gr {w w' : World} {v : Value} {L : List ByteArray} (h : Lies w v L) (g : Gr w w') : Lies w' v L := by
  obtain ⟨a, c, rfl, hc, h⟩ := h
  refine ⟨a, c, rfl, hc, h.imp id ?_⟩
  rintro ⟨b, off, rfl, hr⟩
  exact ⟨b, off, rfl, hr.gr g⟩
theorem lies_own {w : World} {B : Nat} {v : Value} {L : List ByteArray} (h : w.ownsRow B 9 1 v L.length (strs L)) : Lies w v L := by
  have hc := @World.ownsRow.cells w _ _ _ _ _ _ h
  have hl := h.lt
  obtain ⟨_, p⟩ := h
  rcases p with ⟨rfl, z⟩ | ⟨g, cap, cur, rfl, _, _, hn, _⟩
  · exact ⟨none, 0, by rw [z], by omega, .inl (List.eq_nil_of_length_eq_zero z)⟩
  · refine ⟨_, cap, rfl, hn, .inr ⟨g, 0, rfl, (hl g rfl).2, fun j x hj => ?_⟩⟩
    have := hc (g := g) rfl j (.string x) (by unfold strs; rw [List.getElem?_map, hj]; rfl)
    rw [Nat.zero_add]
    have ea : Addr.add ⟨g, 0, none⟩ j = ⟨g, j, none⟩ := by by_cases h : j = 0 <;> simp [Addr.add, h]
    rwa [ea] at this
theorem lies_in {w : World} {t : TypeId} {v : Value} (ht : Try.prog.underlying t = some (.slice 9)) (h : Rd Try.prog w t v) : ∃ L : List ByteArray, Lies w v L ∧ L.length ≤ maxLen ∧ ∀ s ∈ L, s.size ≤ maxLen := by
  obtain ⟨a, n, c, hv, hc⟩ := rd_cap ht h
  obtain ⟨a', c', l, rfl, hl, hr, hs⟩ := rd_strings ht Try.underlying9 (by kernel_rfl) h
  simp only [Value.slice.injEq] at hv
  obtain ⟨rfl, rfl, rfl⟩ := hv
  refine ⟨l, ⟨a', c', rfl, hc, ?_⟩, hl, hs⟩
  rcases Nat.eq_zero_or_pos l.length with h0 | h0
  · exact .inl (List.eq_nil_of_length_eq_zero h0)
  · exact .inr (srow_of hr h0)
/-- A slice of one string that the call has just made. -/
theorem lies_one (w : World) (s : ByteArray) (T : TypeId) : Lies (w.alloc (.cells #[.string s] T)) (.slice (some ⟨w.heap.size, 0, none⟩) 1 1) [s] := by
  refine ⟨_, 1, rfl, Nat.le_refl _, .inr ⟨_, _, rfl, by rw [World.size_alloc]; omega, fun j x hj => ?_⟩⟩
  obtain rfl : j = 0 := by have := (List.getElem?_eq_some_iff.1 hj).1; simpa using this
  simp at hj
  subst hj
  rw [World.cell?_alloc_new]
  rfl

theorem same_none4 (a b : Option Addr) (c d : Nat) (w : World) :
    Calls Try.prog 16 #[.slice a 0 c, .slice b 0 d] w fun e w' => e = .returned (.bool true) ∧ Gr w w' := by
  go_enter Try.func16, Try.ntmps16
  go_wp2_with fail
  go_rounds 1
  go_ret
  exact ⟨rfl, Gr.refl _⟩
def Same4At (n : Nat) (w : World) (i : Value) (wr : World) : Prop := ∃ j : Nat, j ≤ n ∧ i = .int .i64 j ∧ Below w.heap.size w wr
set_option maxHeartbeats 2000000 in
theorem same_some4 (g1 g2 o1 o2 n c d : Nat) (L : List ByteArray) (hL : L.length = n) (hn : n ≤ 1000000) (w : World) (h1 : SRow w g1 o1 L) (h2 : SRow w g2 o2 L) :
    Calls Try.prog 16 #[.slice (some ⟨g1, o1, none⟩) n c, .slice (some ⟨g2, o2, none⟩) n d] w fun e w' => e = .returned (.bool true) ∧ Gr w w' := by
  go_enter Try.func16, Try.ntmps16
  go_wp2_with fail
  go_loopw [5] (fun i wr => Same4At n w i wr) (fun i _ => n - (intOf i).toNat)
  case atStart => exact ⟨0, Nat.zero_le _, rfl, Below.refl _ _⟩
  case round =>
    obtain ⟨j, hj, rfl, hbel⟩ := hrel
    by_cases hlt : j < n
    · obtain ⟨x, hx, _, _⟩ := take_at (l := L) (j := j) (by omega)
      have c1 : wr.cell? ⟨g1, o1 + j, none⟩ = some (.string x) := (h1.gr hbel).2 j x hx
      have c2 : wr.cell? ⟨g2, o2 + j, none⟩ = some (.string x) := (h2.gr hbel).2 j x hx
      clear h1 h2 hx
      go_wp2_with fail
      go_region
      go_wp2
      refine ⟨⟨j + 1, by omega, rfl, ?_⟩, ?_⟩
      · exact hbel.drew
      · simp [intOf]; omega
    · obtain rfl : j = n := by omega
      clear h1 h2
      go_wp2
      go_ret
      exact ⟨rfl, Gr.of hbel⟩
theorem same_lies {w : World} {v1 v2 : Value} {L : List ByteArray} (hn : L.length ≤ 1000000) (h1 : Lies w v1 L) (h2 : Lies w v2 L) :
    Calls Try.prog 16 #[v1, v2] w fun e w' => e = .returned (.bool true) ∧ Gr w w' := by
  obtain ⟨a1, c1, rfl, _, h1⟩ := h1
  obtain ⟨a2, c2, rfl, _, h2⟩ := h2
  rcases h1 with rfl | ⟨b1, o1, rfl, r1⟩
  · exact same_none4 _ _ _ _ w
  · rcases h2 with rfl | ⟨b2, o2, rfl, r2⟩
    · exact same_none4 _ _ _ _ w
    · exact same_some4 b1 b2 o1 o2 L.length c1 c2 L rfl hn w r1 r2
end Go.Proofs.Ytckgdnaocmefjaa

/- In one text: Strs. -/
import Derived.Test.YtgopodgjnblgkaaDoorP01
/- Rows of strings in memory; a slice that holds these strings, whoever made it. -/
namespace Go.Proofs.YtgopodgjnblgkaaDoor
open Go.RowKit
set_option linter.unusedVariables false
set_option linter.unusedSimpArgs false
set_option maxRecDepth 20000
def strs (l : List ByteArray) : List Value := l.map Value.string
/-- A row of strings lies at b, from off on. -/
def SRow (w : World) (b off : Nat) (l : List ByteArray) : Prop := b < w.heap.size ∧ ∀ j x, l[j]? = some x → w.cell? ⟨b, off + j, none⟩ = some (.string x)
theorem SRow.gr {w w' : World} {b off : Nat} {l : List ByteArray} (h : SRow w b off l) (g : Gr w w') : SRow w' b off l := by
  refine ⟨Nat.lt_of_lt_of_le h.1 g.size, fun j x hj => ?_⟩
  rw [Below.cell g (p := ⟨b, off + j, none⟩) h.1]
  exact h.2 j x hj
theorem srow_of {w : World} {a : Option Addr} {l : List ByteArray} (h : RowIn w a (l.map .string)) (hne : 1 ≤ l.length) : ∃ b off, a = some ⟨b, off, none⟩ ∧ SRow w b off l := by
  rcases h with h | ⟨b, off, rfl, hb, hc⟩
  · cases l with
    | nil => simp at hne
    | cons x r => simp at h
  · exact ⟨b, off, rfl, hb, fun j x hj => hc j _ (by rw [List.getElem?_map, hj]; rfl)⟩
theorem take_at {l : List ByteArray} {j : Nat} (hj : j < l.length) : ∃ x, l[j]? = some x ∧ l.take (j + 1) = l.take j ++ [x] ∧ x ∈ l :=
  ⟨l[j], List.getElem?_eq_getElem hj, List.take_succ_eq_append_getElem hj, List.getElem_mem hj⟩
/-- v is a slice of these strings. -/
def Lies (w : World) (v : Value) (L : List ByteArray) : Prop := ∃ a c, v = .slice a L.length c ∧ L.length ≤ c ∧ (L = [] ∨ ∃ b off, a = some ⟨b, off, none⟩ ∧ SRow w b off L)
theorem Lies.gr {w w' : World} {v : Value} {L : List ByteArray} (h : Lies w v L) (g : Gr w w') : Lies w' v L := by
  obtain ⟨a, c, rfl, hc, h⟩ := h
  refine ⟨a, c, rfl, hc, h.imp id ?_⟩
  rintro ⟨b, off, rfl, hr⟩
  exact ⟨b, off, rfl, hr.gr g⟩
theorem lies_own {w : World} {B : Nat} {v : Value} {L : List ByteArray} (h : w.ownsRow B 9 1 v L.length (strs L)) : Lies w v L := by
  have hc := @World.ownsRow.cells w _ _ _ _ _ _ h
  have hl := h.lt
  obtain ⟨_, p⟩ := h
  rcases p with ⟨rfl, z⟩ | ⟨g, cap, cur, rfl, _, _, hn, _⟩
  · exact ⟨none, 0, by rw [z], by omega, .inl (List.eq_nil_of_length_eq_zero z)⟩
  · refine ⟨_, cap, rfl, hn, .inr ⟨g, 0, rfl, (hl g rfl).2, fun j x hj => ?_⟩⟩
    have := hc (g := g) rfl j (.string x) (by unfold strs; rw [List.getElem?_map, hj]; rfl)
    rw [Nat.zero_add]
    have ea : Addr.add ⟨g, 0, none⟩ j = ⟨g, j, none⟩ := by by_cases h : j = 0 <;> simp [Addr.add, h]
    rwa [ea] at this
theorem lies_in {w : World} {t : TypeId} {v : Value} (ht : Tryd.prog.underlying t = some (.slice 9)) (h : Rd Tryd.prog w t v) : ∃ L : List ByteArray, Lies w v L ∧ L.length ≤ maxLen ∧ ∀ s ∈ L, s.size ≤ maxLen := by
  obtain ⟨a, n, c, hv, hc⟩ := rd_cap ht h
  obtain ⟨a', c', l, rfl, hl, hr, hs⟩ := rd_strings ht Tryd.underlying9 (by kernel_rfl) h
  simp only [Value.slice.injEq] at hv
  obtain ⟨rfl, rfl, rfl⟩ := hv
  refine ⟨l, ⟨a', c', rfl, hc, ?_⟩, hl, hs⟩
  rcases Nat.eq_zero_or_pos l.length with h0 | h0
  · exact .inl (List.eq_nil_of_length_eq_zero h0)
  · exact .inr (srow_of hr h0)
/-- A slice of one string that the call has just made. -/
theorem lies_one (w : World) (s : ByteArray) (T : TypeId) : Lies (w.alloc (.cells #[.string s] T)) (.slice (some ⟨w.heap.size, 0, none⟩) 1 1) [s] := by
  refine ⟨_, 1, rfl, Nat.le_refl _, .inr ⟨_, _, rfl, by rw [World.size_alloc]; omega, fun j x hj => ?_⟩⟩
  obtain rfl : j = 0 := by have := (List.getElem?_eq_some_iff.1 hj).1; simpa using this
  simp at hj
  subst hj
  rw [World.cell?_alloc_new]
  rfl
end Go.Proofs.YtgopodgjnblgkaaDoor

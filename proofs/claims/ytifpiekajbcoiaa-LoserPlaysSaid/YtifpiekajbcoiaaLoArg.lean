/- An argument that is a slice of steps (a head, and whether it is over). -/
import Derived.Test.YtifpiekajbcoiaaLoRef3
namespace Go.Proofs.Ytifpiekajbcoiaa
open Go.RowKit Go.ChangeShapes Go.WideShapes Go.Deep LoPlain
set_option linter.unusedVariables false
set_option linter.unusedSimpArgs false
set_option maxRecDepth 20000
/-- A step lies at b, from o on. -/
def StAt (w : World) (b o : Nat) (x : Hd) : Prop := w.cell? ⟨b, o, none⟩ = some (.string x.s) ∧ w.cell? ⟨b, o + 1, none⟩ = some (.bool x.o)
def StRow (w : World) (b o : Nat) (l : List Hd) : Prop := b < w.heap.size ∧ ∀ (j : Nat) (x : Hd), l[j]? = some x → StAt w b (o + j * 2) x
def LiesSt (w : World) (v : Value) (l : List Hd) : Prop := ∃ a c, v = .slice a l.length c ∧ l.length ≤ c ∧ (l = [] ∨ ∃ b o, a = some ⟨b, o, none⟩ ∧ StRow w b o l)
theorem st_of {W : World} {H : Type} {enc : TypeId × Value → H} {fuel : Nat} {y : DataW H × List MemPlace} {c0 c1 : Value} (h : DataW.trod enc Try.prog W 0 (fun _ => true) true fuel 38 [c0, c1] = some y) :
    ∃ x : Hd, c0 = .string x.s ∧ c1 = .bool x.o ∧ x.s.size ≤ maxLen := by
  obtain ⟨xs, n, _, hx, _, hlen, hg⟩ := DataW.trod_struct Try.underlying38 h
  have g0 : DataW.trod enc Try.prog W 0 (fun _ => true) true n 9 ((([c0, c1] : List Value).drop 0).take (Try.prog.cellsOf 9)) = xs[0]? := hg 0 _ rfl
  have g1 : DataW.trod enc Try.prog W 0 (fun _ => true) true n 4 ((([c0, c1] : List Value).drop 1).take (Try.prog.cellsOf 4)) = xs[1]? := hg 1 _ rfl
  have k0 : Try.prog.cellsOf 9 = 1 := by kernel_rfl
  have k1 : Try.prog.cellsOf 4 = 1 := by kernel_rfl
  have hl : xs.length = 2 := hlen
  rw [k0, List.getElem?_eq_getElem (by omega)] at g0
  rw [k1, List.getElem?_eq_getElem (by omega)] at g1
  obtain ⟨s, e0, b0⟩ := rd_string Try.underlying9 ⟨H, enc, n, _, g0⟩
  obtain ⟨o, e1⟩ := rd_bool Try.underlying4 ⟨H, enc, n, _, g1⟩
  exact ⟨⟨s, o⟩, e0, e1, b0⟩
theorem add_lit15 (b o i : Nat) : (⟨b, o, none⟩ : Addr).add i = ⟨b, o + i, none⟩ := by by_cases h : i = 0 <;> simp [Addr.add, h]
def W2T (w : World) (a : Addr) (k : Nat) (x : Hd) : Prop := w.cell? (a.add k) = some (.string x.s) ∧ w.cell? (a.add (k + 1)) = some (.bool x.o)
theorem liesSt_in {w : World} {t : TypeId} {v : Value} (ht : Try.prog.underlying t = some (.slice 38)) (h : Rd Try.prog w t v) : ∃ l : List Hd, LiesSt w v l ∧ l.length ≤ maxLen ∧ ∀ x ∈ l, x.s.size ≤ maxLen := by
  obtain ⟨H, enc, fuel, y, h⟩ := h
  rcases open_slice ht h with ⟨h1, _⟩ | ⟨a, len, cap, m, n, D, Pl, h1, hb, hl, hm, hmm, _, hi⟩
  · exact ⟨[], ⟨none, 0, by simpa using h1, Nat.le_refl _, .inl rfl⟩, by simp, by simp⟩
  · have hv : v = .slice (some a) len cap := by simpa using h1
    simp only [if_true] at hmm
    subst hmm
    have k3 : Try.prog.cellsOf 38 = 2 := by kernel_rfl
    have el : ∀ i, i < len → ∃ x : Hd, W2T w a (i * 2) x ∧ x.s.size ≤ maxLen := by
      intro i hlt
      obtain ⟨cs', hcs, htr⟩ := hi i (by omega)
      rw [k3] at hcs
      obtain ⟨_, hcl, hat⟩ := World.cells?_some hcs
      match cs', hcl with
      | [c0, c1], _ =>
        obtain ⟨x, rfl, rfl, h3⟩ := st_of htr
        refine ⟨x, ⟨?_, ?_⟩, h3⟩
        · have := hat (i := 0) (by omega); rw [Go.Deep.add_add] at this; simpa using this
        · have := hat (i := 1) (by omega); rw [Go.Deep.add_add] at this; simpa using this
    by_cases h0 : len = 0
    · subst h0
      exact ⟨[], ⟨some a, m, hv, Nat.zero_le _, .inl rfl⟩, by simp, by simp⟩
    · obtain ⟨x0, hx0, _⟩ := el 0 (by omega)
      have hspot : a.spot = none := by simpa [Addr.add] using World.cell?_spot hx0.1
      have hlt : a.block < w.heap.size := by simpa [Addr.add] using World.block_lt_of_cell? w _ hx0.1
      obtain ⟨b, off, spot⟩ := a
      simp only at hspot hlt
      subst hspot
      have hex : ∀ i : Nat, ∃ x : Hd, i < len → W2T w ⟨b, off, none⟩ (i * 2) x ∧ x.s.size ≤ maxLen := by
        intro i
        by_cases h : i < len
        · obtain ⟨x, hx⟩ := el i h; exact ⟨x, fun _ => hx⟩
        · exact ⟨x0, fun h' => absurd h' h⟩
      obtain ⟨f, hf⟩ := Classical.axiomOfChoice hex
      refine ⟨(List.range len).map f, ⟨some ⟨b, off, none⟩, m, by rw [hv]; simp, by simpa using hl, .inr ⟨b, off, rfl, hlt, ?_⟩⟩, by simp; omega, ?_⟩
      · intro j x hj
        rw [List.getElem?_map, Option.map_eq_some_iff] at hj
        obtain ⟨i, hi1, rfl⟩ := hj
        obtain ⟨hi2, rfl⟩ := List.getElem?_eq_some_iff.1 hi1
        simp only [List.getElem_range]
        obtain ⟨⟨q0, q1⟩, _⟩ := hf j (by simpa using hi2)
        rw [add_lit15] at q0 q1
        exact ⟨q0, by rw [Nat.add_assoc]; exact q1⟩
      · intro x hx
        obtain ⟨i, hi1, rfl⟩ := List.mem_map.1 hx
        exact (hf i (List.mem_range.1 hi1)).2
/-- Steps stay while only new blocks, and those made since, are written. -/
theorem StRow.only {w w' : World} {b o : Nat} {l : List Hd} {C : Nat → Prop} (h : StRow w b o l) (q : Only C w w') (hC : ∀ b, b < w.heap.size → ¬ C b) : StRow w' b o l :=
  ⟨Nat.lt_of_lt_of_le h.1 q.size, fun j x hj => ⟨by rw [q.cell (p := ⟨b, o + j * 2, none⟩) h.1 (hC b h.1)]; exact (h.2 j x hj).1, by rw [q.cell (p := ⟨b, o + j * 2 + 1, none⟩) h.1 (hC b h.1)]; exact (h.2 j x hj).2⟩⟩
end Go.Proofs.Ytifpiekajbcoiaa

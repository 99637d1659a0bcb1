/- An argument that is a slice of near ones. -/
import Derived.Test.YtllfecgaadfkoaaTkRow
namespace Go.Proofs.Ytllfecgaadfkoaa
open Go.RowKit Go.ChangeShapes Go.WideShapes Go.Deep TkPlain
set_option linter.unusedVariables false
set_option linter.unusedSimpArgs false
set_option maxRecDepth 20000
theorem add_lit (b o i : Nat) : (⟨b, o, none⟩ : Addr).add i = ⟨b, o + i, none⟩ := by by_cases h : i = 0 <;> simp [Addr.add, h]
/-- Three cells that read as a near one. -/
theorem nr_of {W : World} {H : Type} {enc : TypeId × Value → H} {fuel : Nat} {y : DataW H × List MemPlace} {c0 c1 c2 : Value} (h : DataW.trod enc Try.prog W 0 (fun _ => true) true fuel 26 [c0, c1, c2] = some y) :
    ∃ x : Nr, c0 = .int .i64 x.d ∧ c1 = .int .i64 x.id ∧ c2 = .bool x.nw ∧ I64 x.d ∧ I64 x.id := by
  obtain ⟨xs, n, _, hx, _, hlen, hg⟩ := DataW.trod_struct Try.underlying26 h
  have g0 : DataW.trod enc Try.prog W 0 (fun _ => true) true n 3 ((([c0, c1, c2] : List Value).drop 0).take (Try.prog.cellsOf 3)) = xs[0]? := hg 0 _ rfl
  have g1 : DataW.trod enc Try.prog W 0 (fun _ => true) true n 3 ((([c0, c1, c2] : List Value).drop 1).take (Try.prog.cellsOf 3)) = xs[1]? := hg 1 _ rfl
  have g2 : DataW.trod enc Try.prog W 0 (fun _ => true) true n 4 ((([c0, c1, c2] : List Value).drop 2).take (Try.prog.cellsOf 4)) = xs[2]? := hg 2 _ rfl
  have k0 : Try.prog.cellsOf 3 = 1 := by kernel_rfl
  have k1 : Try.prog.cellsOf 4 = 1 := by kernel_rfl
  have hl : xs.length = 3 := hlen
  rw [k0, List.getElem?_eq_getElem (by omega)] at g0 g1
  rw [k1, List.getElem?_eq_getElem (by omega)] at g2
  obtain ⟨d, e0, b0⟩ := rd_int Try.underlying3 ⟨H, enc, n, _, g0⟩
  obtain ⟨id, e1, b1⟩ := rd_int Try.underlying3 ⟨H, enc, n, _, g1⟩
  obtain ⟨nw, e2⟩ := rd_bool Try.underlying4 ⟨H, enc, n, _, g2⟩
  exact ⟨⟨d, id, nw⟩, e0, e1, e2, bounds_i64 b0, bounds_i64 b1⟩
def W3 (w : World) (a : Addr) (k : Nat) (x : Nr) : Prop := w.cell? (a.add k) = some (.int .i64 x.d) ∧ w.cell? (a.add (k + 1)) = some (.int .i64 x.id) ∧ w.cell? (a.add (k + 2)) = some (.bool x.nw)
theorem liesN_in {w : World} {t : TypeId} {v : Value} (ht : Try.prog.underlying t = some (.slice 26)) (h : Rd Try.prog w t v) : ∃ l : List Nr, LiesN w v l ∧ l.length ≤ maxLen ∧ ∀ x ∈ l, I64 x.d ∧ I64 x.id := by
  obtain ⟨H, enc, fuel, y, h⟩ := h
  rcases open_slice ht h with ⟨h1, _⟩ | ⟨a, len, cap, m, n, D, Pl, h1, hb, hl, hm, hmm, _, hi⟩
  · exact ⟨[], ⟨none, 0, by simpa using h1, Nat.le_refl _, .inl rfl⟩, by simp, by simp⟩
  · have hv : v = .slice (some a) len cap := by simpa using h1
    simp only [if_true] at hmm
    subst hmm
    have k3 : Try.prog.cellsOf 26 = 3 := by kernel_rfl
    have el : ∀ i, i < len → ∃ x : Nr, W3 w a (i * 3) x ∧ I64 x.d ∧ I64 x.id := by
      intro i hlt
      obtain ⟨cs', hcs, htr⟩ := hi i (by omega)
      rw [k3] at hcs
      obtain ⟨_, hcl, hat⟩ := World.cells?_some hcs
      match cs', hcl with
      | [c0, c1, c2], _ =>
        obtain ⟨x, rfl, rfl, rfl, h3, h4⟩ := nr_of htr
        refine ⟨x, ⟨?_, ?_, ?_⟩, h3, h4⟩
        · have := hat (i := 0) (by omega); rw [Go.Deep.add_add] at this; simpa using this
        · have := hat (i := 1) (by omega); rw [Go.Deep.add_add] at this; simpa using this
        · have := hat (i := 2) (by omega); rw [Go.Deep.add_add] at this; simpa using this
    by_cases h0 : len = 0
    · subst h0
      exact ⟨[], ⟨some a, m, hv, Nat.zero_le _, .inl rfl⟩, by simp, by simp⟩
    · obtain ⟨x0, hx0, _⟩ := el 0 (by omega)
      have hspot : a.spot = none := by simpa [Addr.add] using World.cell?_spot hx0.1
      have hlt : a.block < w.heap.size := by simpa [Addr.add] using World.block_lt_of_cell? w _ hx0.1
      obtain ⟨b, off, spot⟩ := a
      simp only at hspot hlt
      subst hspot
      have hex : ∀ i : Nat, ∃ x : Nr, i < len → W3 w ⟨b, off, none⟩ (i * 3) x ∧ I64 x.d ∧ I64 x.id := by
        intro i
        by_cases h : i < len
        · obtain ⟨x, hx⟩ := el i h; exact ⟨x, fun _ => hx⟩
        · exact ⟨x0, fun h' => absurd h' h⟩
      obtain ⟨f, hf⟩ := Classical.axiomOfChoice hex
      refine ⟨(List.range len).map f, ⟨some ⟨b, off, none⟩, m, by rw [hv]; simp, by simpa using hl, .inr ⟨b, off, rfl, hlt, ?_⟩⟩, by simp; omega, ?_⟩
      · intro j x hj
        rw [List.getElem?_map, Option.map_eq_some_iff] at hj
        obtain ⟨i, hi1, rfl⟩ := hj
        obtain ⟨hi2, rfl⟩ := List.getElem?_eq_some_iff.1 hi1
        simp only [List.getElem_range]
        obtain ⟨⟨q0, q1, q2⟩, _⟩ := hf j (by simpa using hi2)
        rw [add_lit] at q0 q1 q2
        exact ⟨q0, by rw [Nat.add_assoc]; exact q1, by rw [Nat.add_assoc]; exact q2⟩
      · intro x hx
        obtain ⟨i, hi1, rfl⟩ := List.mem_map.1 hx
        exact (hf i (List.mem_range.1 hi1)).2
end Go.Proofs.Ytllfecgaadfkoaa

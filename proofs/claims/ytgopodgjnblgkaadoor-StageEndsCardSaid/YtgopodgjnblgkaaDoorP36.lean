/- In one text: LoRow. -/
import Derived.Test.YtgopodgjnblgkaaDoorP11
import Derived.Test.YtgopodgjnblgkaaDoorP27
import Derived.Deep.AppendLies
/- Rows of one's own whose elements are written; slices of one-cell values, whoever made them. -/
namespace Go.Proofs.YtgopodgjnblgkaaDoor
open Go.RowKit
set_option linter.unusedVariables false
set_option linter.unusedSimpArgs false
set_option maxRecDepth 20000
/-- A store into an element of a row of one's own. -/
theorem rowE_set {E : TypeId} {v : Value} {n : Nat} {xs : List Value} {w : World} {B : Nat → Prop} (h : RowE E 1 v n xs w B) {g c : Nat} (hv : v = .slice (some ⟨g, 0, none⟩) n c) {j : Nat} (hj : j < n) (x : Value) :
    ∃ B', RowE E 1 v n (xs.set j x) (w.setCell ⟨g, j, none⟩ x) B' ∧ Nx B w B' (w.setCell ⟨g, j, none⟩ x) := by
  obtain ⟨hown, hB, hl⟩ := h
  obtain ⟨h1, h2⟩ := hown
  have hg : B g := hB g (by rw [hv]; rfl)
  refine ⟨B, ⟨⟨by rw [List.length_set]; exact h1, ?_⟩, hB, fun b hb => by simpa using hl b hb⟩, Nx.of (Only.cell1 _ _ _ _) (fun b hb => hb ▸ hg)⟩
  rcases h2 with ⟨h2, h3⟩ | ⟨g', c', cur, h2, h3, h4, h5, h6, h7, h8⟩
  · rw [hv] at h2; cases h2
  · rw [hv] at h2
    simp only [Value.slice.injEq, Option.some.injEq, Addr.mk.injEq, true_and] at h2
    obtain ⟨⟨rfl, _⟩, rfl⟩ := h2
    refine .inr ⟨g, c, cur.setIfInBounds j x, hv, h3, cells_set h4 j x, h5, h6, by rw [Array.size_setIfInBounds]; exact h7, ?_⟩
    rw [Array.toList_setIfInBounds, List.take_set, h8]
/-- An element of it, and that it may be written. -/
theorem rowE_at {E : TypeId} {v : Value} {n : Nat} {xs : List Value} {w : World} {B : Nat → Prop} (h : RowE E 1 v n xs w B) {g c : Nat} (hv : v = .slice (some ⟨g, 0, none⟩) n c) {j : Nat} {x : Value} (hx : xs[j]? = some x) : w.cell? ⟨g, j, none⟩ = some x ∧ w.frozen? ⟨g, j, none⟩ = false := by
  have hc := h.1.cells (g := g) (by rw [hv]; rfl) j x hx
  rw [add_zero g j] at hc
  refine ⟨hc, ?_⟩
  rcases h.1.2 with ⟨h2, h3⟩ | ⟨g', c', cur, h2, h3, h4, _⟩
  · rw [hv] at h2; cases h2
  · rw [hv] at h2
    simp only [Value.slice.injEq, Option.some.injEq, Addr.mk.injEq, true_and] at h2
    obtain ⟨⟨rfl, _⟩, rfl⟩ := h2
    exact cells_free h4 j
/-- The shape of one that is not empty. -/
theorem rowE_form {E : TypeId} {v : Value} {n : Nat} {xs : List Value} {w : World} {B : Nat → Prop} (h : RowE E 1 v n xs w B) (hn : 0 < n) : ∃ g c, v = .slice (some ⟨g, 0, none⟩) n c ∧ g < w.heap.size := by
  obtain ⟨g, c, h1, _, h2⟩ := h.1.form hn
  exact ⟨g, c, h1, h2⟩
/-- v is a slice of these one-cell values. -/
def LiesV (w : World) (v : Value) (xs : List Value) : Prop := ∃ a c, v = .slice a xs.length c ∧ xs.length ≤ c ∧ (xs = [] ∨ ∃ b off, a = some ⟨b, off, none⟩ ∧ VRow w b off xs)
theorem LiesV.gr {w w' : World} {v : Value} {l : List Value} (h : LiesV w v l) (g : Gr w w') : LiesV w' v l := by
  obtain ⟨a, c, rfl, hc, h⟩ := h
  refine ⟨a, c, rfl, hc, h.imp id ?_⟩
  rintro ⟨b, off, rfl, hr⟩
  exact ⟨b, off, rfl, hr.gr g⟩
/-- .. while others are written. -/
theorem LiesV.only {w w' : World} {v : Value} {l : List Value} {C : Nat → Prop} (h : LiesV w v l) (o : Only C w w') (hC : ∀ b, b < w.heap.size → ¬ C b) : LiesV w' v l := by
  obtain ⟨a, c, rfl, hc, h⟩ := h
  refine ⟨a, c, rfl, hc, h.imp id ?_⟩
  rintro ⟨b, off, rfl, hr⟩
  exact ⟨b, off, rfl, Nat.lt_of_lt_of_le hr.1 o.size, fun j x hj => by rw [o.cell (p := ⟨b, off + j, none⟩) hr.1 (hC b hr.1)]; exact hr.2 j x hj⟩
theorem liesV_in {w : World} {t e : TypeId} {v : Value} (ht : Tryd.prog.underlying t = some (.slice e)) (hc : Tryd.prog.cellsOf e = 1) (h : Rd Tryd.prog w t v) : ∃ l : List Value, LiesV w v l ∧ l.length ≤ maxLen ∧ ∀ x ∈ l, Rd Tryd.prog w e x := by
  obtain ⟨a, n, c, hv, hcap⟩ := rd_cap ht h
  obtain ⟨a', l, c', rfl, hl, hr, hs⟩ := rd_slice ht hc h
  simp only [Value.slice.injEq] at hv
  obtain ⟨rfl, rfl, rfl⟩ := hv
  refine ⟨l, ⟨a', c', rfl, hcap, ?_⟩, hl, hs⟩
  rcases Nat.eq_zero_or_pos l.length with h0 | h0
  · exact .inl (List.eq_nil_of_length_eq_zero h0)
  · exact .inr (vrow_of hr h0)
def bools (l : List Bool) : List Value := l.map .bool
theorem liesV_bools {w : World} {t : TypeId} {v : Value} (ht : Tryd.prog.underlying t = some (.slice 4)) (h : Rd Tryd.prog w t v) : ∃ l : List Bool, LiesV w v (bools l) ∧ l.length ≤ maxLen := by
  obtain ⟨l, h1, h2, h3⟩ := liesV_in ht (by kernel_rfl) h
  obtain ⟨m, rfl, _⟩ := list_of (mk := Value.bool) (ok := fun _ => True) l fun x hx => by obtain ⟨b, rfl⟩ := rd_bool Tryd.underlying4 (h3 x hx); exact ⟨b, rfl, trivial⟩
  exact ⟨m, h1, by simpa using h2⟩
theorem infoBo : (Tryd.prog.info? 4).map (fun i => (i.zero, i.size, i.bytes)) = some (some (.bool false), 1, 1) := by kernel_rfl
theorem rowE_app {E : TypeId} {v : Value} {n n' : Nat} {xs xs' : List Value} {w w1 w' : World} {B : Nat → Prop} {g c : Nat} (h : RowE E 1 v n xs w B) (q : Gr w w1) (hown : w'.ownsRow 0 E 1 (.slice (some ⟨g, 0, none⟩) n' c) n' xs') (hg : w1.grownBy w' v.ownBlock) (hat : v.ownBlock = some g ∨ g = w1.heap.size) :
    ∃ B', RowE E 1 (.slice (some ⟨g, 0, none⟩) n' c) n' xs' w' B' ∧ Nx B w B' w' :=
  rowE_next h q hown hg (hat.imp (fun e => by rw [e]; rfl) (fun e => by rw [e]; rfl))
end Go.Proofs.YtgopodgjnblgkaaDoor

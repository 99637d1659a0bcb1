/- In one text: MnArg. -/
import Derived.Test.YtgopodgjnblgkaaDoorP21
import Derived.Test.YtgopodgjnblgkaaDoorP01
import Derived.Test.YtgopodgjnblgkaaDoorP08
/- An argument that is a slice of a manifest's files. -/
namespace Go.Proofs.YtgopodgjnblgkaaDoor
open Go.RowKit Go.ChangeShapes Go.WideShapes Go.Deep MnPlain
set_option linter.unusedVariables false
set_option linter.unusedSimpArgs false
set_option maxRecDepth 20000
/-- A file lies at b, from o on. -/
def FlAt (w : World) (b o : Nat) (x : Fl) : Prop := w.cell? ⟨b, o, none⟩ = some (.string x.name) ∧ w.cell? ⟨b, o + 1, none⟩ = some (.int .i64 x.size) ∧ w.cell? ⟨b, o + 2, none⟩ = some (.int .i64 x.count) ∧ w.cell? ⟨b, o + 3, none⟩ = some (.int .u32 x.sum)
def FlRow (w : World) (b o : Nat) (l : List Fl) : Prop := b < w.heap.size ∧ ∀ (j : Nat) (x : Fl), l[j]? = some x → FlAt w b (o + j * 4) x
def LiesFl (w : World) (v : Value) (l : List Fl) : Prop := ∃ a c, v = .slice a l.length c ∧ l.length ≤ c ∧ (l = [] ∨ ∃ b o, a = some ⟨b, o, none⟩ ∧ FlRow w b o l)
/-- What its kinds say of a file. -/
def flK (x : Fl) : Prop := x.name.size ≤ maxLen ∧ I64 x.size ∧ I64 x.count ∧ 0 ≤ x.sum ∧ x.sum < 4294967296
theorem fl_of {W : World} {H : Type} {enc : TypeId × Value → H} {fuel : Nat} {y : DataW H × List MemPlace} {c0 c1 c2 c3 : Value} (h : DataW.trod enc Tryd.prog W 0 (fun _ => true) true fuel 43 [c0, c1, c2, c3] = some y) :
    ∃ x : Fl, c0 = .string x.name ∧ c1 = .int .i64 x.size ∧ c2 = .int .i64 x.count ∧ c3 = .int .u32 x.sum ∧ flK x := by
  obtain ⟨xs, n, _, hx, _, hlen, hg⟩ := DataW.trod_struct Tryd.underlying43 h
  have k0 : Tryd.prog.cellsOf 9 = 1 := by kernel_rfl
  have k1 : Tryd.prog.cellsOf 3 = 1 := by kernel_rfl
  have k2 : Tryd.prog.cellsOf 41 = 1 := by kernel_rfl
  have g0 : DataW.trod enc Tryd.prog W 0 (fun _ => true) true n 9 ((([c0, c1, c2, c3] : List Value).drop 0).take (Tryd.prog.cellsOf 9)) = xs[0]? := hg 0 _ rfl
  have g1 : DataW.trod enc Tryd.prog W 0 (fun _ => true) true n 3 ((([c0, c1, c2, c3] : List Value).drop 1).take (Tryd.prog.cellsOf 3)) = xs[1]? := hg 1 _ rfl
  have g2 : DataW.trod enc Tryd.prog W 0 (fun _ => true) true n 3 ((([c0, c1, c2, c3] : List Value).drop 2).take (Tryd.prog.cellsOf 3)) = xs[2]? := hg 2 _ rfl
  have g3 : DataW.trod enc Tryd.prog W 0 (fun _ => true) true n 41 ((([c0, c1, c2, c3] : List Value).drop 3).take (Tryd.prog.cellsOf 41)) = xs[3]? := hg 3 _ rfl
  have hl : xs.length = 4 := hlen
  rw [k0, List.getElem?_eq_getElem (by omega)] at g0
  rw [k1, List.getElem?_eq_getElem (by omega)] at g1
  rw [k1, List.getElem?_eq_getElem (by omega)] at g2
  rw [k2, List.getElem?_eq_getElem (by omega)] at g3
  obtain ⟨s, e0, b0⟩ := rd_string Tryd.underlying9 ⟨H, enc, n, _, g0⟩
  obtain ⟨i1, e1, b1⟩ := rd_int Tryd.underlying3 ⟨H, enc, n, _, g1⟩
  obtain ⟨i2, e2, b2⟩ := rd_int Tryd.underlying3 ⟨H, enc, n, _, g2⟩
  obtain ⟨i3, e3, b3⟩ := rd_int Tryd.underlying41 ⟨H, enc, n, _, g3⟩
  exact ⟨⟨s, i1, i2, i3⟩, e0, e1, e2, e3, b0, bounds_i64 b1, bounds_i64 b2, (bounds_u32 b3).1, Int.lt_add_one_of_le (bounds_u32 b3).2⟩
theorem add_lit19 (b o i : Nat) : (⟨b, o, none⟩ : Addr).add i = ⟨b, o + i, none⟩ := by by_cases h : i = 0 <;> simp [Addr.add, h]
def W4T (w : World) (a : Addr) (k : Nat) (x : Fl) : Prop := w.cell? (a.add k) = some (.string x.name) ∧ w.cell? (a.add (k + 1)) = some (.int .i64 x.size) ∧ w.cell? (a.add (k + 2)) = some (.int .i64 x.count) ∧ w.cell? (a.add (k + 3)) = some (.int .u32 x.sum)
theorem liesFl_in {w : World} {t : TypeId} {v : Value} (ht : Tryd.prog.underlying t = some (.slice 43)) (h : Rd Tryd.prog w t v) : ∃ l : List Fl, LiesFl w v l ∧ l.length ≤ maxLen ∧ ∀ x ∈ l, flK x := by
  obtain ⟨H, enc, fuel, y, h⟩ := h
  rcases open_slice ht h with ⟨h1, _⟩ | ⟨a, len, cap, m, n, D, Pl, h1, hb, hl, hm, hmm, _, hi⟩
  · exact ⟨[], ⟨none, 0, by simpa using h1, Nat.le_refl _, .inl rfl⟩, by simp, by simp⟩
  · have hv : v = .slice (some a) len cap := by simpa using h1
    simp only [if_true] at hmm
    subst hmm
    have k3 : Tryd.prog.cellsOf 43 = 4 := by kernel_rfl
    have el : ∀ i, i < len → ∃ x : Fl, W4T w a (i * 4) x ∧ flK x := by
      intro i hlt
      obtain ⟨cs', hcs, htr⟩ := hi i (by omega)
      rw [k3] at hcs
      obtain ⟨_, hcl, hat⟩ := World.cells?_some hcs
      match cs', hcl with
      | [c0, c1, c2, c3], _ =>
        obtain ⟨x, rfl, rfl, rfl, rfl, h3⟩ := fl_of htr
        refine ⟨x, ⟨?_, ?_, ?_, ?_⟩, h3⟩
        · have := hat (i := 0) (by omega); rw [Go.Deep.add_add] at this; simpa using this
        · have := hat (i := 1) (by omega); rw [Go.Deep.add_add] at this; simpa using this
        · have := hat (i := 2) (by omega); rw [Go.Deep.add_add] at this; simpa using this
        · have := hat (i := 3) (by omega); rw [Go.Deep.add_add] at this; simpa using this
    by_cases h0 : len = 0
    · subst h0
      exact ⟨[], ⟨some a, m, hv, Nat.zero_le _, .inl rfl⟩, by simp, by simp⟩
    · obtain ⟨x0, hx0, _⟩ := el 0 (by omega)
      have hspot : a.spot = none := by simpa [Addr.add] using World.cell?_spot hx0.1
      have hlt : a.block < w.heap.size := by simpa [Addr.add] using World.block_lt_of_cell? w _ hx0.1
      obtain ⟨b, off, spot⟩ := a
      simp only at hspot hlt
      subst hspot
      have hex : ∀ i : Nat, ∃ x : Fl, i < len → W4T w ⟨b, off, none⟩ (i * 4) x ∧ flK x := by
        intro i
        by_cases h : i < len
        · obtain ⟨x, hx⟩ := el i h; exact ⟨x, fun _ => hx⟩
        · exact ⟨x0, fun h' => absurd h' h⟩
      obtain ⟨f, hf⟩ := Classical.axiomOfChoice hex
      refine ⟨(List.range len).map f, ⟨some ⟨b, off, none⟩, m, by rw [hv]; simp, by simpa using hl, .inr ⟨b, off, rfl, hlt, ?_⟩⟩, by simp; omega, ?_⟩
      · intro j x hj
        rw [List.getElem?_map, Option.map_eq_some_iff] at hj
        obtain ⟨i, hi1, rfl⟩ := hj
        obtain ⟨hi2, rfl⟩ := List.getElem?_eq_some_iff.1 hi1
        simp only [List.getElem_range]
        obtain ⟨⟨q0, q1, q2, q3⟩, _⟩ := hf j (by simpa using hi2)
        rw [add_lit19] at q0 q1 q2 q3
        exact ⟨q0, by rw [Nat.add_assoc]; exact q1, by rw [Nat.add_assoc]; exact q2, by rw [Nat.add_assoc]; exact q3⟩
      · intro x hx
        obtain ⟨i, hi1, rfl⟩ := List.mem_map.1 hx
        exact (hf i (List.mem_range.1 hi1)).2
/-- Files stay while only new blocks, and those made since, are written. -/
theorem FlRow.only {w w' : World} {b o : Nat} {l : List Fl} {C : Nat → Prop} (h : FlRow w b o l) (q : Only C w w') (hC : ∀ b, b < w.heap.size → ¬ C b) : FlRow w' b o l :=
  ⟨Nat.lt_of_lt_of_le h.1 q.size, fun j x hj => ⟨by rw [q.cell (p := ⟨b, o + j * 4, none⟩) h.1 (hC b h.1)]; exact (h.2 j x hj).1, by rw [q.cell (p := ⟨b, o + j * 4 + 1, none⟩) h.1 (hC b h.1)]; exact (h.2 j x hj).2.1, by rw [q.cell (p := ⟨b, o + j * 4 + 2, none⟩) h.1 (hC b h.1)]; exact (h.2 j x hj).2.2.1, by rw [q.cell (p := ⟨b, o + j * 4 + 3, none⟩) h.1 (hC b h.1)]; exact (h.2 j x hj).2.2.2⟩⟩
theorem FlRow.gr {w w' : World} {b o : Nat} {l : List Fl} (h : FlRow w b o l) (g : Gr w w') : FlRow w' b o l := h.only (Only.ofGr (B := fun _ => False) g) fun _ _ k => k
theorem LiesFl.gr {w w' : World} {v : Value} {l : List Fl} (h : LiesFl w v l) (g : Gr w w') : LiesFl w' v l := by
  obtain ⟨a, c, e, hc, h⟩ := h
  exact ⟨a, c, e, hc, h.imp id fun ⟨b, o, e2, k⟩ => ⟨b, o, e2, k.gr g⟩⟩
/-- A manifest, as a value. -/
def mnV (m : Mn) (v : Value) : Value := .agg #[.int .i64 m.stage, .int .i64 m.pass, v]
end Go.Proofs.YtgopodgjnblgkaaDoor

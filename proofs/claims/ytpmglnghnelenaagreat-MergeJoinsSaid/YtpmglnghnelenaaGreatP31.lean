/- In one text: DsRow, LoRow, LoRef, LoRef2, Text. -/
import Derived.Test.YtpmglnghnelenaaGreatP00
import Derived.Maps.AppendAt
import Derived.Test.YtpmglnghnelenaaGreatP09
import Derived.Deep.AppendLies
import Derived.Test.YtpmglnghnelenaaGreatP26
import Derived.BigQuiet
import Derived.Deep.RegionHeld3
import Derived.Orders
/- Slices of whole numbers, and slices of these, whoever made them; rows of one's own of either. -/
namespace Go.Proofs.YtpmglnghnelenaaGreat
open Go.RowKit
set_option linter.unusedVariables false
set_option linter.unusedSimpArgs false
set_option maxRecDepth 20000
theorem gr_grownN {A B : World} (h : Gr A B) : A.grownBy B none := ⟨h.1, h.2, h.3, h.size, fun k hk _ => h.block k hk⟩
theorem add_zero (g j : Nat) : (⟨g, 0, none⟩ : Addr).add j = ⟨g, j, none⟩ := by by_cases h : j = 0 <;> simp [Addr.add, h]
def ints (l : List Int) : List Value := l.map (Value.int .i64)
theorem ints_snoc (l : List Int) (x : Int) : ints (l ++ [x]) = ints l ++ [.int .i64 x] := by simp [ints]
/-- Values lie at b, from off on. -/
def VRow (w : World) (b off : Nat) (vs : List Value) : Prop := b < w.heap.size ∧ ∀ j x, vs[j]? = some x → w.cell? ⟨b, off + j, none⟩ = some x
theorem VRow.gr {w w' : World} {b off : Nat} {vs : List Value} (h : VRow w b off vs) (g : Gr w w') : VRow w' b off vs := by
  refine ⟨Nat.lt_of_lt_of_le h.1 g.size, fun j x hj => ?_⟩
  rw [Below.cell g (p := ⟨b, off + j, none⟩) h.1]
  exact h.2 j x hj
/-- v is a slice of these numbers. -/
def LiesI (w : World) (v : Value) (l : List Int) : Prop := ∃ a c, v = .slice a l.length c ∧ l.length ≤ c ∧ (l = [] ∨ ∃ b off, a = some ⟨b, off, none⟩ ∧ VRow w b off (ints l))
theorem LiesI.gr {w w' : World} {v : Value} {l : List Int} (h : LiesI w v l) (g : Gr w w') : LiesI w' v l := by
  obtain ⟨a, c, rfl, hc, h⟩ := h
  refine ⟨a, c, rfl, hc, h.imp id ?_⟩
  rintro ⟨b, off, rfl, hr⟩
  exact ⟨b, off, rfl, hr.gr g⟩
theorem LiesI.kept {w w' : World} {row : Option Nat} {v : Value} {l : List Int} (h : LiesI w v l) (hg : w.grownBy w' row) (hne : ∀ a n c, v = .slice (some a) n c → row ≠ some a.block) : LiesI w' v l := by
  obtain ⟨a, c, rfl, hc, h⟩ := h
  refine ⟨a, c, rfl, hc, h.imp id ?_⟩
  rintro ⟨b, off, rfl, hr⟩
  have hb := hne _ _ _ rfl
  refine ⟨b, off, rfl, Nat.lt_of_lt_of_le hr.1 hg.size, fun j x hj => ?_⟩
  exact hg.cell (hr.2 j x hj) (fun e => hb e.symm)
theorem own_row {w : World} {B : Nat} {E : TypeId} {v : Value} {n : Nat} {xs : List Value} (h : w.ownsRow B E 1 v n xs) : ∃ a c, v = .slice a n c ∧ n ≤ c ∧ (n = 0 ∨ ∃ b, a = some ⟨b, 0, none⟩ ∧ VRow w b 0 xs) := by
  have hc := @World.ownsRow.cells w _ _ _ _ _ _ h
  have hl := h.lt
  obtain ⟨_, p⟩ := h
  rcases p with ⟨rfl, z⟩ | ⟨g, cap, cur, rfl, _, _, hn, _⟩
  · exact ⟨none, 0, by rw [z], by omega, .inl z⟩
  · refine ⟨_, cap, rfl, hn, .inr ⟨g, rfl, (hl g rfl).2, fun j x hj => ?_⟩⟩
    have := hc (g := g) rfl j x hj
    rwa [Nat.zero_add, ← add_zero g j]
theorem liesI_own {w : World} {B : Nat} {v : Value} {l : List Int} (h : w.ownsRow B 3 1 v l.length (ints l)) : LiesI w v l := by
  obtain ⟨a, c, rfl, hc, hh⟩ := own_row h
  refine ⟨a, c, rfl, hc, ?_⟩
  rcases hh with h0 | ⟨b, rfl, hr⟩
  · exact .inl (List.eq_nil_of_length_eq_zero h0)
  · exact .inr ⟨b, 0, rfl, hr⟩
theorem vrow_of {w : World} {a : Option Addr} {l : List Value} (h : RowIn w a l) (hne : 1 ≤ l.length) : ∃ b off, a = some ⟨b, off, none⟩ ∧ VRow w b off l := by
  rcases h with h | ⟨b, off, rfl, hb, hc⟩
  · rw [h] at hne; simp at hne
  · exact ⟨b, off, rfl, hb, hc⟩
theorem liesI_in {w : World} {t : TypeId} {v : Value} (ht : Tryz.prog.underlying t = some (.slice 3)) (h : Rd Tryz.prog w t v) : ∃ l : List Int, LiesI w v l ∧ l.length ≤ maxLen ∧ ∀ n ∈ l, I64 n := by
  obtain ⟨a, n, c, hv, hc⟩ := rd_cap ht h
  obtain ⟨a', c', l, rfl, hl, hr, hs⟩ := rd_ints ht Tryz.underlying3 (by kernel_rfl) h
  simp only [Value.slice.injEq] at hv
  obtain ⟨rfl, rfl, rfl⟩ := hv
  refine ⟨l, ⟨a', c', rfl, hc, ?_⟩, hl, fun n hn => bounds_i64 (hs n hn)⟩
  rcases Nat.eq_zero_or_pos l.length with h0 | h0
  · exact .inl (List.eq_nil_of_length_eq_zero h0)
  · exact .inr (vrow_of hr (by unfold ints; rw [List.length_map]; exact h0))
/-- v is a slice of slices of these numbers. -/
def LiesII (w : World) (v : Value) (L : List (List Int)) : Prop :=
  ∃ a c vs, v = .slice a L.length c ∧ L.length ≤ c ∧ vs.length = L.length ∧ (L = [] ∨ ∃ b off, a = some ⟨b, off, none⟩ ∧ VRow w b off vs) ∧ ∀ (j : Nat) (l : List Int), L[j]? = some l → ∃ x, vs[j]? = some x ∧ LiesI w x l
theorem LiesII.gr {w w' : World} {v : Value} {L : List (List Int)} (h : LiesII w v L) (g : Gr w w') : LiesII w' v L := by
  obtain ⟨a, c, vs, rfl, hc, hl, h, hr⟩ := h
  refine ⟨a, c, vs, rfl, hc, hl, h.imp id ?_, fun j l hj => ?_⟩
  · rintro ⟨b, off, rfl, hr⟩
    exact ⟨b, off, rfl, hr.gr g⟩
  · obtain ⟨x, hx, hi⟩ := hr j l hj
    exact ⟨x, hx, hi.gr g⟩
theorem liesII_nil (w : World) : LiesII w (.slice none 0 0) [] := ⟨none, 0, [], rfl, Nat.le_refl _, rfl, .inl rfl, by simp⟩
/-- Its elements, each where it lies. -/
theorem liesII_at {w : World} {v : Value} {L : List (List Int)} (h : LiesII w v L) : ∃ a c, v = .slice a L.length c ∧ L.length ≤ c ∧ (1 ≤ L.length → ∃ b off, a = some ⟨b, off, none⟩ ∧ b < w.heap.size ∧ ∀ (j : Nat) (l : List Int), L[j]? = some l → ∃ x, w.cell? ⟨b, off + j, none⟩ = some x ∧ LiesI w x l) := by
  obtain ⟨a, c, vs, rfl, hc, hl, h, hr⟩ := h
  refine ⟨a, c, rfl, hc, fun h1 => ?_⟩
  rcases h with rfl | ⟨b, off, rfl, hv⟩
  · simp at h1
  · refine ⟨b, off, rfl, hv.1, fun j l hj => ?_⟩
    obtain ⟨x, hx, hi⟩ := hr j l hj
    exact ⟨x, hv.2 j x hx, hi⟩
theorem liesII_in {w : World} {t : TypeId} {v : Value} (ht : Tryz.prog.underlying t = some (.slice 181)) (h : Rd Tryz.prog w t v) : ∃ L : List (List Int), LiesII w v L ∧ L.length ≤ maxLen ∧ ∀ l ∈ L, ∀ n ∈ l, I64 n := by
  obtain ⟨a, n, c, hv, hc⟩ := rd_cap ht h
  obtain ⟨a', l, c', rfl, hl, hr, hs⟩ := rd_slice ht (by kernel_rfl) h
  simp only [Value.slice.injEq] at hv
  obtain ⟨rfl, rfl, rfl⟩ := hv
  have hex : ∀ (l : List Value), (∀ x ∈ l, Rd Tryz.prog w 181 x) → ∃ L : List (List Int), L.length = l.length ∧ (∀ (j : Nat) (y : List Int), L[j]? = some y → ∃ x, l[j]? = some x ∧ LiesI w x y) ∧ ∀ y ∈ L, ∀ n ∈ y, I64 n := by
    intro l
    induction l with
    | nil => intro _; exact ⟨[], rfl, by simp, by simp⟩
    | cons x r ih =>
      intro hx
      obtain ⟨L, h1, h2, h3⟩ := ih fun z hz => hx z (by simp [hz])
      obtain ⟨y, hy, _, hi⟩ := liesI_in Tryz.underlying181 (hx x (by simp))
      refine ⟨y :: L, by simp [h1], fun j z hj => ?_, fun z hz => ?_⟩
      · match j, hj with
        | 0, hj => simp at hj; subst hj; exact ⟨x, rfl, hy⟩
        | j + 1, hj => exact h2 j z (by simpa using hj)
      · rcases List.mem_cons.1 hz with rfl | hz
        · exact hi
        · exact h3 z hz
  obtain ⟨L, h1, h2, h3⟩ := hex l hs
  refine ⟨L, ⟨a', c', l, by rw [h1], by omega, h1.symm, ?_, h2⟩, by omega, h3⟩
  rcases Nat.eq_zero_or_pos l.length with h0 | h0
  · exact .inl (List.eq_nil_of_length_eq_zero (by omega))
  · exact .inr (vrow_of hr h0)
/-- The slice x does not lie where the row v may be written. -/
def ApartI (w : World) (x v : Value) : Prop := ∀ a n c, x = .slice (some a) n c → v.ownBlock ≠ some a.block ∧ a.block < w.heap.size
/-- A row of one's own, of slices of numbers that nobody writes. -/
def RowsI (w : World) (v : Value) (L : List (List Int)) (vs : List Value) : Prop := ∀ (j : Nat) (l : List Int), L[j]? = some l → ∃ x, vs[j]? = some x ∧ LiesI w x l ∧ ApartI w x v
def OwnII (base : Nat) (w : World) (v : Value) (L : List (List Int)) : Prop := ∃ vs, w.ownsRow base 181 1 v L.length vs ∧ RowsI w v L vs
theorem rowsI_nil (w : World) (v : Value) (vs : List Value) : RowsI w v [] vs := fun j l h => by simp at h
theorem ownII_nil (base : Nat) (w : World) : OwnII base w (.slice none 0 0) [] := ⟨[], World.ownsRow_nil _ _ _ _, rowsI_nil _ _ _⟩
theorem ownII_lies {base : Nat} {w : World} {v : Value} {L : List (List Int)} (h : OwnII base w v L) : LiesII w v L := by
  obtain ⟨vs, ho, hr⟩ := h
  have hvs : vs.length = L.length := by have := ho.1; omega
  obtain ⟨a, c, rfl, hc, hh⟩ := own_row ho
  refine ⟨a, c, vs, rfl, hc, hvs, ?_, fun j l hj => ?_⟩
  · rcases hh with h0 | ⟨b, rfl, hrow⟩
    · exact .inl (List.eq_nil_of_length_eq_zero h0)
    · exact .inr ⟨b, 0, rfl, hrow⟩
  · obtain ⟨x, h1, h2, _⟩ := hr j l hj
    exact ⟨x, h1, h2⟩
theorem RowsI.gr {w w' : World} {v : Value} {L : List (List Int)} {vs : List Value} (h : RowsI w v L vs) (g : Gr w w') : RowsI w' v L vs := fun j l hj => by
  obtain ⟨x, h1, h2, h3⟩ := h j l hj
  exact ⟨x, h1, h2.gr g, fun a n c e => ⟨(h3 a n c e).1, Nat.lt_of_lt_of_le (h3 a n c e).2 g.size⟩⟩
theorem OwnII.gr {base : Nat} {w w' : World} {v : Value} {L : List (List Int)} (h : OwnII base w v L) (g : Gr w w') : OwnII base w' v L := by
  obtain ⟨vs, ho, hr⟩ := h
  exact ⟨vs, ho.kept (gr_grownN g) (by cases hv : v.ownBlock <;> simp), hr.gr g⟩
theorem ownsRow_gr {base : Nat} {E : TypeId} {z : Nat} {w w' : World} {v : Value} {n : Nat} {xs : List Value} (h : w.ownsRow base E z v n xs) (g : Gr w w') : w'.ownsRow base E z v n xs := h.kept (gr_grownN g) (by cases hv : v.ownBlock <;> simp)
/-- A slice that a call has just made lies apart from every row that was there ahead. -/
theorem apart_new {w u : World} {E E2 : TypeId} {base : Nat} {x v : Value} {n m : Nat} {xs ys : List Value} (hv : w.ownsRow base E2 1 v m ys) (hx : u.ownsRow w.heap.size E 1 x n xs) : ApartI u x v := by
  intro a k c e
  have h1 := hx.lt a.block (by rw [e]; rfl)
  refine ⟨fun h2 => ?_, h1.2⟩
  have := (hv.lt _ h2).2
  omega
/-- Behind an append of a slice that a call has just made. -/
theorem ownII_snoc {base : Nat} {w u w1 w2 : World} {v v' x : Value} {vs : List Value} {L : List (List Int)} {l : List Int} (hown : w.ownsRow base 181 1 v L.length vs) (hr : RowsI w v L vs) (g : Gr w u) (hx : u.ownsRow w.heap.size 3 1 x l.length (ints l)) (g1 : Gr u w1)
    (ho : w2.ownsRow base 181 1 v' (L.length + 1) (vs ++ [x])) (hg : w1.grownBy w2 v.ownBlock) (hat : v'.ownBlock = v.ownBlock ∨ v'.ownBlock = some w1.heap.size) : OwnII base w2 v' (L ++ [l]) := by
  have hvs : vs.length = L.length := by have := hown.1; omega
  have move : ∀ y k, LiesI w1 y k → ApartI w1 y v → LiesI w2 y k ∧ ApartI w2 y v' := by
    intro y k h1 h2
    refine ⟨h1.kept hg fun a n c e => (h2 a n c e).1, fun a n c e => ⟨?_, Nat.lt_of_lt_of_le (h2 a n c e).2 hg.size⟩⟩
    rcases hat with h3 | h3
    · rw [h3]; exact (h2 a n c e).1
    · rw [h3]; have := (h2 a n c e).2; intro h4; have := Option.some.inj h4; omega
  refine ⟨vs ++ [x], by rw [List.length_append, List.length_singleton]; exact ho, fun j k hj => ?_⟩
  by_cases hlt : j < L.length
  · rw [List.getElem?_append_left hlt] at hj
    obtain ⟨y, h1, h2, h3⟩ := (hr.gr (g.trans g1)) j k hj
    exact ⟨y, by rw [List.getElem?_append_left (by omega)]; exact h1, move y k h2 h3⟩
  · have hj1 := (List.getElem?_eq_some_iff.1 hj).1
    rw [List.length_append, List.length_singleton] at hj1
    obtain rfl : j = L.length := by omega
    obtain rfl : l = k := by simpa using hj
    refine ⟨x, by rw [← hvs]; simp, move x l ((liesI_own hx).gr g1) fun a n c e => ?_⟩
    have := apart_new hown hx a n c e
    exact ⟨this.1, Nat.lt_of_lt_of_le this.2 g1.size⟩
theorem infoI : (Tryz.prog.info? 3).map (fun i => (i.zero, i.size, i.bytes)) = some (some (.int .i64 0), 1, 8) := by kernel_rfl
theorem infoII : (Tryz.prog.info? 181).map (fun i => (i.zero, i.size, i.bytes)) = some (some (.slice none 0 0), 1, 24) := by kernel_rfl
end Go.Proofs.YtpmglnghnelenaaGreat
/- Rows of one's own whose elements are written; slices of one-cell values, whoever made them. -/
namespace Go.Proofs.YtpmglnghnelenaaGreat
open Go.RowKit
set_option linter.unusedVariables false
set_option linter.unusedSimpArgs false
set_option maxRecDepth 20000
/-- A store into an element of a row of one's own. -/
theorem rowE_set {E : TypeId} {v : Value} {n : Nat} {xs : List Value} {w : World} {B : Nat → Prop} (h : RowE E 1 v n xs w B) {g c : Nat} (hv : v = .slice (some ⟨g, 0, none⟩) n c) {j : Nat} (hj : j < n) (x : Value) :
    ∃ B', RowE E 1 v n (xs.set j x) (w.setCell ⟨g, j, none⟩ x) B' ∧ Nx B w B' (w.setCell ⟨g, j, none⟩ x) := by
  obtain ⟨hown, hB, hl⟩ := h
  obtain ⟨h1, h2⟩ := hown
  have hg : B g := hB g (by rw [hv]; rfl)
  refine ⟨B, ⟨⟨by rw [List.length_set]; exact h1, ?_⟩, hB, fun b hb => by simpa using hl b hb⟩, Nx.of (Only.cell1 _ _ _ _) (fun b hb => hb ▸ hg)⟩
  rcases h2 with ⟨h2, h3⟩ | ⟨g', c', cur, h2, h3, h4, h5, h6, h7, h8⟩
  · rw [hv] at h2; cases h2
  · rw [hv] at h2
    simp only [Value.slice.injEq, Option.some.injEq, Addr.mk.injEq, true_and] at h2
    obtain ⟨⟨rfl, _⟩, rfl⟩ := h2
    refine .inr ⟨g, c, cur.setIfInBounds j x, hv, h3, cells_set h4 j x, h5, h6, by rw [Array.size_setIfInBounds]; exact h7, ?_⟩
    rw [Array.toList_setIfInBounds, List.take_set, h8]
/-- An element of it, and that it may be written. -/
theorem rowE_at {E : TypeId} {v : Value} {n : Nat} {xs : List Value} {w : World} {B : Nat → Prop} (h : RowE E 1 v n xs w B) {g c : Nat} (hv : v = .slice (some ⟨g, 0, none⟩) n c) {j : Nat} {x : Value} (hx : xs[j]? = some x) : w.cell? ⟨g, j, none⟩ = some x ∧ w.frozen? ⟨g, j, none⟩ = false := by
  have hc := h.1.cells (g := g) (by rw [hv]; rfl) j x hx
  rw [add_zero g j] at hc
  refine ⟨hc, ?_⟩
  rcases h.1.2 with ⟨h2, h3⟩ | ⟨g', c', cur, h2, h3, h4, _⟩
  · rw [hv] at h2; cases h2
  · rw [hv] at h2
    simp only [Value.slice.injEq, Option.some.injEq, Addr.mk.injEq, true_and] at h2
    obtain ⟨⟨rfl, _⟩, rfl⟩ := h2
    exact cells_free h4 j
/-- The shape of one that is not empty. -/
theorem rowE_form {E : TypeId} {v : Value} {n : Nat} {xs : List Value} {w : World} {B : Nat → Prop} (h : RowE E 1 v n xs w B) (hn : 0 < n) : ∃ g c, v = .slice (some ⟨g, 0, none⟩) n c ∧ g < w.heap.size := by
  obtain ⟨g, c, h1, _, h2⟩ := h.1.form hn
  exact ⟨g, c, h1, h2⟩
/-- v is a slice of these one-cell values. -/
def LiesV (w : World) (v : Value) (xs : List Value) : Prop := ∃ a c, v = .slice a xs.length c ∧ xs.length ≤ c ∧ (xs = [] ∨ ∃ b off, a = some ⟨b, off, none⟩ ∧ VRow w b off xs)
theorem LiesV.gr {w w' : World} {v : Value} {l : List Value} (h : LiesV w v l) (g : Gr w w') : LiesV w' v l := by
  obtain ⟨a, c, rfl, hc, h⟩ := h
  refine ⟨a, c, rfl, hc, h.imp id ?_⟩
  rintro ⟨b, off, rfl, hr⟩
  exact ⟨b, off, rfl, hr.gr g⟩
/-- .. while others are written. -/
theorem LiesV.only {w w' : World} {v : Value} {l : List Value} {C : Nat → Prop} (h : LiesV w v l) (o : Only C w w') (hC : ∀ b, b < w.heap.size → ¬ C b) : LiesV w' v l := by
  obtain ⟨a, c, rfl, hc, h⟩ := h
  refine ⟨a, c, rfl, hc, h.imp id ?_⟩
  rintro ⟨b, off, rfl, hr⟩
  exact ⟨b, off, rfl, Nat.lt_of_lt_of_le hr.1 o.size, fun j x hj => by rw [o.cell (p := ⟨b, off + j, none⟩) hr.1 (hC b hr.1)]; exact hr.2 j x hj⟩
theorem liesV_in {w : World} {t e : TypeId} {v : Value} (ht : Tryz.prog.underlying t = some (.slice e)) (hc : Tryz.prog.cellsOf e = 1) (h : Rd Tryz.prog w t v) : ∃ l : List Value, LiesV w v l ∧ l.length ≤ maxLen ∧ ∀ x ∈ l, Rd Tryz.prog w e x := by
  obtain ⟨a, n, c, hv, hcap⟩ := rd_cap ht h
  obtain ⟨a', l, c', rfl, hl, hr, hs⟩ := rd_slice ht hc h
  simp only [Value.slice.injEq] at hv
  obtain ⟨rfl, rfl, rfl⟩ := hv
  refine ⟨l, ⟨a', c', rfl, hcap, ?_⟩, hl, hs⟩
  rcases Nat.eq_zero_or_pos l.length with h0 | h0
  · exact .inl (List.eq_nil_of_length_eq_zero h0)
  · exact .inr (vrow_of hr h0)
def bools (l : List Bool) : List Value := l.map .bool
theorem liesV_bools {w : World} {t : TypeId} {v : Value} (ht : Tryz.prog.underlying t = some (.slice 4)) (h : Rd Tryz.prog w t v) : ∃ l : List Bool, LiesV w v (bools l) ∧ l.length ≤ maxLen := by
  obtain ⟨l, h1, h2, h3⟩ := liesV_in ht (by kernel_rfl) h
  obtain ⟨m, rfl, _⟩ := list_of (mk := Value.bool) (ok := fun _ => True) l fun x hx => by obtain ⟨b, rfl⟩ := rd_bool Tryz.underlying4 (h3 x hx); exact ⟨b, rfl, trivial⟩
  exact ⟨m, h1, by simpa using h2⟩
theorem infoBo : (Tryz.prog.info? 4).map (fun i => (i.zero, i.size, i.bytes)) = some (some (.bool false), 1, 1) := by kernel_rfl
theorem rowE_app {E : TypeId} {v : Value} {n n' : Nat} {xs xs' : List Value} {w w1 w' : World} {B : Nat → Prop} {g c : Nat} (h : RowE E 1 v n xs w B) (q : Gr w w1) (hown : w'.ownsRow 0 E 1 (.slice (some ⟨g, 0, none⟩) n' c) n' xs') (hg : w1.grownBy w' v.ownBlock) (hat : v.ownBlock = some g ∨ g = w1.heap.size) :
    ∃ B', RowE E 1 (.slice (some ⟨g, 0, none⟩) n' c) n' xs' w' B' ∧ Nx B w B' w' :=
  rowE_next h q hown hg (hat.imp (fun e => by rw [e]; rfl) (fun e => by rw [e]; rfl))
end Go.Proofs.YtpmglnghnelenaaGreat
/- The document's tree: the least, how many are left. -/
namespace Go.Proofs.YtpmglnghnelenaaGreat
open Go.RowKit LoPlain
set_option linter.unusedVariables false
set_option linter.unusedSimpArgs false
set_option maxRecDepth 20000
def hdS (l : List Hd) : List Value := l.map (fun x => .string x.s)
def hdO (l : List Hd) : List Value := l.map (fun x => .bool x.o)
theorem hdS_len (l : List Hd) : (hdS l).length = l.length := by simp [hdS]
theorem hdO_len (l : List Hd) : (hdO l).length = l.length := by simp [hdO]
theorem hdS_at {l : List Hd} {i : Nat} {x : Hd} (h : l[i]? = some x) : (hdS l)[i]? = some (.string x.s) := by simp [hdS, h]
theorem hdO_at {l : List Hd} {i : Nat} {x : Hd} (h : l[i]? = some x) : (hdO l)[i]? = some (.bool x.o) := by simp [hdO, h]
theorem lt_list15 (a b : ByteArray) : ltS a b = Op.bytesLess a.toList b.toList := rfl
/-- Its cells. -/
def RLoC (q : Nat) (l : List Hd) (w : World) : Prop :=
  ∃ a1 c1 a2 c2, w.cell? ⟨q, 0, none⟩ = some (.slice a1 l.length c1) ∧ w.cell? ⟨q, 1, none⟩ = some (.slice a2 l.length c2) ∧ q < w.heap.size ∧
    (1 ≤ l.length → ∃ g1 g2, a1 = some ⟨g1, 0, none⟩ ∧ a2 = some ⟨g2, 0, none⟩ ∧ g1 < w.heap.size ∧ g2 < w.heap.size ∧ ∀ i x, l[i]? = some x → w.cell? ⟨g1, i, none⟩ = some (.string x.s) ∧ w.cell? ⟨g2, i, none⟩ = some (.bool x.o))
theorem RLoC.gr {q : Nat} {l : List Hd} {w u : World} (h : RLoC q l w) (g : Gr w u) : RLoC q l u := by
  obtain ⟨a1, c1, a2, c2, h1, h2, hq, h3⟩ := h
  refine ⟨a1, c1, a2, c2, by rw [Below.cell g (p := ⟨q, 0, none⟩) hq]; exact h1, by rw [Below.cell g (p := ⟨q, 1, none⟩) hq]; exact h2, Nat.lt_of_lt_of_le hq g.size, fun hn => ?_⟩
  obtain ⟨g1, g2, e1, e2, k1, k2, hc⟩ := h3 hn
  exact ⟨g1, g2, e1, e2, Nat.lt_of_lt_of_le k1 g.size, Nat.lt_of_lt_of_le k2 g.size, fun i x hx => ⟨by rw [Below.cell g (p := ⟨g1, i, none⟩) k1]; exact (hc i x hx).1, by rw [Below.cell g (p := ⟨g2, i, none⟩) k2]; exact (hc i x hx).2⟩⟩
theorem ret_ib15 {a b : Int} {p q : Bool} (h : a = b) (k : p = q) : Ending.returned (.tuple #[.int .i64 a, .bool p]) = .returned (.tuple #[.int .i64 b, .bool q]) := by rw [h, k]
theorem ret_i15 {a b : Int} (h : a = b) : Ending.returned (.int .i64 a) = .returned (.int .i64 b) := by rw [h]
def LstAt (q : Nat) (l : List Hd) (w : World) (b i : Value) (wr : World) : Prop := ∃ j : Nat, j ≤ l.length ∧ i = .int .i64 (j : Int) ∧ b = .int .i64 (bestN l j) ∧ Gr w wr
end Go.Proofs.YtpmglnghnelenaaGreat
/- The document's tree: how many are left; what Next makes of it; New. -/
namespace Go.Proofs.YtpmglnghnelenaaGreat
open Go.RowKit LoPlain
set_option linter.unusedVariables false
set_option linter.unusedSimpArgs false
set_option maxRecDepth 20000
def LftAt (l : List Hd) (w : World) (b i : Value) (wr : World) : Prop := ∃ j : Nat, j ≤ l.length ∧ i = .int .i64 (j : Int) ∧ b = .int .i64 ((leftN (l.take j) : Nat) : Int) ∧ wr = w
theorem hdS_set (l : List Hd) (i : Nat) (x : Hd) : hdS (l.set i x) = (hdS l).set i (.string x.s) := by simp [hdS, List.map_set]
theorem hdO_set (l : List Hd) (i : Nat) (x : Hd) : hdO (l.set i x) = (hdO l).set i (.bool x.o) := by simp [hdO, List.map_set]
end Go.Proofs.YtpmglnghnelenaaGreat
/- A region that draws its order, walked once, in the order of its text: where each of its operations hands out one value in whatever world holds S, and leaves such a world (a copy, a load of a cell that stays; a call that makes memory), all its orders come to one. -/
namespace Go.Proofs.YtpmglnghnelenaaGreat
open Go.RowKit
set_option linter.unusedVariables false
set_option linter.unusedSimpArgs false
section
variable {P : Program} {ops : Array Oper} {Q : Exit → Act → World → Prop} {md : Region.Mode} {S : World → Prop}
/-- In every world that holds S the operation hands out v, and leaves a world that holds S. -/
def StepsTo (P : Program) (S : World → Prop) (o : Oper) (v : Value) (a : Act) : Prop :=
  ∀ w, S w → (∃ w', (execOp a.eval o).run P w = .ok (.value v) w' ∧ S w') ∨ (∃ f args w', (execOp a.eval o).run P w = .ok (.enter f args) w' ∧ Calls P f args w' fun e w'' => e = .returned v ∧ S w'')
def Steps (P : Program) (ops : Array Oper) (S : World → Prop) (o : Oper) (v : Value) (a : Act) : Prop :=
  (Region.wanted o (yielded ops a.tmps) = true ∧ StepsTo P S o v a) ∨ (Region.wanted o (yielded ops a.tmps) = false ∧ v = undef)
theorem Steps.of_same {o : Oper} {v : Value} {a a' : Act} (h : Steps P ops S o v a) (he : execOp a'.eval o = execOp a.eval o) (hw : Region.wanted o (yielded ops a'.tmps) = Region.wanted o (yielded ops a.tmps)) : Steps P ops S o v a' := by
  unfold Steps StepsTo at *
  rw [he, hw]
  exact h
theorem Steps.wpOp {i : Nat} {o : Oper} {v : Value} {a : Act} (hi : ops[i]? = some o) (h : Steps P ops S o v a) {K : Act → World → Prop} {w : World} (hS : S w) (hK : ∀ w', S w' → K (a.put o.dst v) w') : wpOp P ops Q i K a w := by
  unfold Go.wpOp
  simp only [hi]
  rcases h with ⟨hw, hv⟩ | ⟨hw, rfl⟩
  · simp only [hw, if_true]
    refine .inl ?_
    unfold Oper.wp
    rcases hv w hS with ⟨w', h1, h2⟩ | ⟨f, args, w', h1, h2⟩
    · rw [h1]; exact hK w' h2
    · rw [h1]
      refine Calls.mono h2 ?_
      rintro e w'' ⟨rfl, h3⟩
      exact hK w'' h3
  · simp only [hw, Bool.false_eq_true, if_false]
    exact hK w hS
/-- A way through the rest, an operation at a time; no world is spoken of till the end. -/
inductive Plan (P : Program) (md : Region.Mode) (ops : Array Oper) (Q : Exit → Act → World → Prop) (S : World → Prop) : Nat → Array Bool → Act → Prop
  | done {fuel : Nat} {listed : Array Bool} {a : Act} (h : Region.ready md ops listed = []) (k : ∀ w, S w → Q .normal a w) : Plan P md ops Q S fuel listed a
  | take {fuel : Nat} {listed : Array Bool} {a : Act} (i : Nat) (o : Oper) (v : Value) (hi : ops[i]? = some o) (hf : Region.free md ops listed i = true) (hr : i ∈ Region.ready md ops listed) (h : Steps P ops S o v a)
      (k : Plan P md ops Q S fuel (listed.setIfInBounds i true) (a.put o.dst v)) : Plan P md ops Q S (fuel + 1) listed a
theorem free_set {i j : Nat} {listed : Array Bool} {o : Oper} (hi : ops[i]? = some o) (h : Region.free md ops listed i = true) : Region.free md ops (listed.setIfInBounds j true) i = true := by
  unfold Region.free at *
  rw [hi] at h ⊢
  simp only [List.all_eq_true, List.mem_range] at h ⊢
  intro k hk
  have h1 := h k hk
  by_cases hjk : j = k
  · subst hjk
    have h2 : (listed.setIfInBounds j true).getD j true = true := by
      by_cases hb : j < listed.size
      · simp [hb]
      · simp [Array.getElem?_eq_none (Nat.le_of_not_lt hb)]
    rw [h2]; simp
  · rw [getD_set_ne true hjk]; exact h1
/-- Whatever may come up may come up first. -/
theorem Plan.first (hs : Region.noSelect ops = true) : ∀ {fuel : Nat} {listed : Array Bool} {a : Act}, Plan P md ops Q S fuel listed a → ∀ {j : Nat}, j ∈ Region.ready md ops listed →
    ∃ fuel' o v, fuel = fuel' + 1 ∧ ops[j]? = some o ∧ Steps P ops S o v a ∧ Plan P md ops Q S fuel' (listed.setIfInBounds j true) (a.put o.dst v) := by
  intro fuel listed a h
  induction h with
  | done hr k => intro j hj; rw [hr] at hj; cases hj
  | @take fuel listed a i oi vi hi hf hr hst hk ih =>
    intro j hj
    by_cases hji : j = i
    · subst hji
      exact ⟨fuel, oi, vi, rfl, hi, hst, hk⟩
    · obtain ⟨fuel', oj, vj, hfu, hoj, hsj, hpj⟩ := ih (ready_mono hj hji)
      obtain ⟨hjun, oj', hoj', hall⟩ := mem_ready.1 hj
      rw [hoj] at hoj'
      cases hoj'
      have hnot : ∀ e ∈ oj.after, Region.binds md e = true → e.on ≠ i := fun e he hb heq => by
        have h1 := hall e he hb
        have h0 := (mem_ready.1 hr).1
        rw [heq] at h1
        rcases Nat.lt_or_ge i listed.size with h' | h'
        · simp [h'] at h0 h1; rw [h0] at h1; cases h1
        · simp [Array.getElem?_eq_none h'] at h1
      have hap := Region.free_spec hi hf j oj hoj hji hjun hnot
      obtain ⟨h1, h2, h3⟩ := Oper.apart_spec hap
      have hseli := fun cs b => Region.noSelect_spec hs i oi cs b hi
      have hselj := fun cs b => Region.noSelect_spec hs j oj cs b hoj
      refine ⟨fuel, oj, vj, rfl, hoj, hsj.of_same (execOp_put oj hselj a oi.dst vi h1).symm (wanted_put oj a oi.dst vi h1).symm, ?_⟩
      subst hfu
      refine Plan.take i oi vi hi (free_set hi hf) (ready_mono hr (Ne.symm hji)) (hst.of_same (execOp_put oi hseli a oj.dst vj h3) (wanted_put oi a oj.dst vj h3)) ?_
      rw [Array.setIfInBounds_comm _ _ hji, ← Act.put_comm a vi vj h2]
      exact hpj
theorem plan_any (hs : Region.noSelect ops = true) : ∀ (fuel : Nat) (listed : Array Bool) (a : Act), Plan P md ops Q S fuel listed a → ∀ w, S w → wpAny P md ops Q fuel listed a w
  | 0, listed, a, h, w, hS => by
    cases h with
    | done hr k => exact ⟨hr, k w hS⟩
  | fuel + 1, listed, a, h, w, hS => by
    refine ⟨fun hr => ?_, fun j hj => ?_⟩
    · cases h with
      | done _ k => exact k w hS
      | take i o v hi hf hr' hst k => rw [hr] at hr'; cases hr'
    · obtain ⟨fuel', o, v, hfu, hoj, hst, hp⟩ := h.first hs hj
      cases hfu
      exact hst.wpOp hoj hS fun w' hS' => plan_any hs fuel _ _ hp w' hS'
/-- The text's order serves: each operation may come up behind those ahead of it. -/
def textOk (md : Region.Mode) (ops : Array Oper) : Bool :=
  (List.range ops.size).all fun i => Region.free md ops ((List.replicate i true ++ List.replicate (ops.size - i) false).toArray) i && (Region.ready md ops ((List.replicate i true ++ List.replicate (ops.size - i) false).toArray)).contains i
/-- The walk over what is left of the text. -/
def Text (P : Program) (ops : Array Oper) (Q : Exit → Act → World → Prop) (S : World → Prop) : List Oper → Act → Prop
  | [], a => ∀ w, S w → Q .normal a w
  | o :: rest, a => ∃ v, Steps P ops S o v a ∧ Text P ops Q S rest (a.put o.dst v)
theorem text_plan (ht : textOk md ops = true) : ∀ (rest : List Oper) (i : Nat) (a : Act), i + rest.length = ops.size → ops.toList.drop i = rest → Text P ops Q S rest a →
    Plan P md ops Q S rest.length ((List.replicate i true ++ List.replicate rest.length false).toArray) a
  | [], i, a, hl, _, h => by
    refine Plan.done ?_ h
    have : Region.ready md ops ((List.replicate i true ++ List.replicate 0 false).toArray) = [] := by
      rw [List.eq_nil_iff_forall_not_mem]
      intro j hj
      obtain ⟨h0, o, ho, _⟩ := mem_ready.1 hj
      have hlt := (Array.getElem?_eq_some_iff.1 ho).1
      have hlen : ([] : List Oper).length = 0 := rfl
      have : j < i := by rw [hlen] at hl; omega
      simp [this] at h0
    exact this
  | o :: rest, i, a, hl, hd, h => by
    obtain ⟨v, h1, h2⟩ := h
    have hlen : (o :: rest).length = rest.length + 1 := rfl
    have hi : i < ops.size := by rw [hlen] at hl; omega
    have ho : ops[i]? = some o := by
      have : (ops.toList.drop i)[0]? = some o := by rw [hd]; rfl
      rw [List.getElem?_drop] at this
      simpa using this
    have hk := List.all_eq_true.1 ht i (List.mem_range.2 hi)
    rw [Bool.and_eq_true] at hk
    have hs : ops.size - i = rest.length + 1 := by rw [hlen] at hl; omega
    rw [hs] at hk
    refine Plan.take i o v ho hk.1 (by simpa using hk.2) h1 ?_
    have hd2 : ops.toList.drop (i + 1) = rest := by rw [← List.drop_drop, hd]; rfl
    have ih := text_plan ht rest (i + 1) (a.put o.dst v) (by rw [hlen] at hl; omega) hd2 h2
    have e : (List.replicate i true ++ List.replicate (rest.length + 1) false).toArray.setIfInBounds i true = (List.replicate (i + 1) true ++ List.replicate rest.length false).toArray := by
      rw [List.setIfInBounds_toArray, List.set_append_right _ _ (by simp), List.length_replicate, Nat.sub_self, List.replicate_succ, List.set_cons_zero]
      congr 1
      rw [List.replicate_succ', List.append_assoc]
      rfl
    rw [hlen, e]
    exact ih
/-- The region. -/
theorem text_region (S : World → Prop) {id : Nat} {a : Act} {w : World} (hm : P.follows .mixedOrders = true) (hs : Region.noSelect ops = true) (ht : textOk .any ops = true) (hS : S w.drew) (h : Text P ops Q S ops.toList a) : (Code.region id ops true).wp P Q a w := by
  refine wp_region_any hm ?_
  have := plan_any hs _ _ _ (text_plan (md := .any) ht ops.toList 0 a (by simp) (by simp) h) w.drew hS
  simpa using this
theorem text_val {o : Oper} {rest : List Oper} {a : Act} {v : Value} (hw : Region.wanted o (yielded ops a.tmps) = true) (h : ∀ w, S w → (execOp a.eval o).run P w = .ok (.value v) w) (k : Text P ops Q S rest (a.put o.dst v)) : Text P ops Q S (o :: rest) a :=
  ⟨v, .inl ⟨hw, fun w hS => .inl ⟨w, h w hS, hS⟩⟩, k⟩
theorem text_skip {o : Oper} {rest : List Oper} {a : Act} (hw : Region.wanted o (yielded ops a.tmps) = false) (k : Text P ops Q S rest (a.put o.dst undef)) : Text P ops Q S (o :: rest) a :=
  ⟨undef, .inr ⟨hw, rfl⟩, k⟩
theorem text_call {o : Oper} {rest : List Oper} {a : Act} {v : Value} {f : FuncId} {args : Array Value} (h : ∀ w, S w → Calls P f args w fun e w' => e = .returned v ∧ S w') (hw : Region.wanted o (yielded ops a.tmps) = true) (he : ∀ w, (execOp a.eval o).run P w = .ok (.enter f args) w) (k : Text P ops Q S rest (a.put o.dst v)) : Text P ops Q S (o :: rest) a :=
  ⟨v, .inl ⟨hw, fun w hS => .inr ⟨f, args, w, he w, h w hS⟩⟩, k⟩
theorem text_done {a : Act} (k : ∀ w, S w → Q .normal a w) : Text P ops Q S [] a := k
end
end Go.Proofs.YtpmglnghnelenaaGreat

/- Slices of whole numbers, and slices of these, whoever made them; rows of one's own of either. -/
import Derived.Test.YtipfdildnnfmkaaArgs
import Derived.Maps.AppendAt
namespace Go.Proofs.Ytipfdildnnfmkaa
open Go.RowKit
set_option linter.unusedVariables false
set_option linter.unusedSimpArgs false
set_option maxRecDepth 20000
theorem gr_grownN {A B : World} (h : Gr A B) : A.grownBy B none := ⟨h.1, h.2, h.3, h.size, fun k hk _ => h.block k hk⟩
theorem add_zero (g j : Nat) : (⟨g, 0, none⟩ : Addr).add j = ⟨g, j, none⟩ := by by_cases h : j = 0 <;> simp [Addr.add, h]
def ints (l : List Int) : List Value := l.map (Value.int .i64)
theorem ints_snoc (l : List Int) (x : Int) : ints (l ++ [x]) = ints l ++ [.int .i64 x] := by simp [ints]
/-- Values lie at b, from off on. -/
def VRow (w : World) (b off : Nat) (vs : List Value) : Prop := b < w.heap.size ∧ ∀ j x, vs[j]? = some x → w.cell? ⟨b, off + j, none⟩ = some x
theorem VRow.gr {w w' : World} {b off : Nat} {vs : List Value} (h : VRow w b off vs) (g : Gr w w') : VRow w' b off vs := by
  refine ⟨Nat.lt_of_lt_of_le h.1 g.size, fun j x hj => ?_⟩
  rw [Below.cell g (p := ⟨b, off + j, none⟩) h.1]
  exact h.2 j x hj
/-- v is a slice of these numbers. -/
def LiesI (w : World) (v : Value) (l : List Int) : Prop := ∃ a c, v = .slice a l.length c ∧ l.length ≤ c ∧ (l = [] ∨ ∃ b off, a = some ⟨b, off, none⟩ ∧ VRow w b off (ints l))
theorem LiesI.gr {w w' : World} {v : Value} {l : List Int} (h : LiesI w v l) (g : Gr w w') : LiesI w' v l := by
  obtain ⟨a, c, rfl, hc, h⟩ := h
  refine ⟨a, c, rfl, hc, h.imp id ?_⟩
  rintro ⟨b, off, rfl, hr⟩
  exact ⟨b, off, rfl, hr.gr g⟩
theorem LiesI.kept {w w' : World} {row : Option Nat} {v : Value} {l : List Int} (h : LiesI w v l) (hg : w.grownBy w' row) (hne : ∀ a n c, v = .slice (some a) n c → row ≠ some a.block) : LiesI w' v l := by
  obtain ⟨a, c, rfl, hc, h⟩ := h
  refine ⟨a, c, rfl, hc, h.imp id ?_⟩
  rintro ⟨b, off, rfl, hr⟩
  have hb := hne _ _ _ rfl
  refine ⟨b, off, rfl, Nat.lt_of_lt_of_le hr.1 hg.size, fun j x hj => ?_⟩
  exact hg.cell (hr.2 j x hj) (fun e => hb e.symm)
theorem own_row {w : World} {B : Nat} {E : TypeId} {v : Value} {n : Nat} {xs : List Value} (h : w.ownsRow B E 1 v n xs) : ∃ a c, v = .slice a n c ∧ n ≤ c ∧ (n = 0 ∨ ∃ b, a = some ⟨b, 0, none⟩ ∧ VRow w b 0 xs) := by
  have hc := @World.ownsRow.cells w _ _ _ _ _ _ h
  have hl := h.lt
  obtain ⟨_, p⟩ := h
  rcases p with ⟨rfl, z⟩ | ⟨g, cap, cur, rfl, _, _, hn, _⟩
  · exact ⟨none, 0, by rw [z], by omega, .inl z⟩
  · refine ⟨_, cap, rfl, hn, .inr ⟨g, rfl, (hl g rfl).2, fun j x hj => ?_⟩⟩
    have := hc (g := g) rfl j x hj
    rwa [Nat.zero_add, ← add_zero g j]
theorem liesI_own {w : World} {B : Nat} {v : Value} {l : List Int} (h : w.ownsRow B 3 1 v l.length (ints l)) : LiesI w v l := by
  obtain ⟨a, c, rfl, hc, hh⟩ := own_row h
  refine ⟨a, c, rfl, hc, ?_⟩
  rcases hh with h0 | ⟨b, rfl, hr⟩
  · exact .inl (List.eq_nil_of_length_eq_zero h0)
  · exact .inr ⟨b, 0, rfl, hr⟩
theorem vrow_of {w : World} {a : Option Addr} {l : List Value} (h : RowIn w a l) (hne : 1 ≤ l.length) : ∃ b off, a = some ⟨b, off, none⟩ ∧ VRow w b off l := by
  rcases h with h | ⟨b, off, rfl, hb, hc⟩
  · rw [h] at hne; simp at hne
  · exact ⟨b, off, rfl, hb, hc⟩
theorem liesI_in {w : World} {t : TypeId} {v : Value} (ht : Try.prog.underlying t = some (.slice 3)) (h : Rd Try.prog w t v) : ∃ l : List Int, LiesI w v l ∧ l.length ≤ maxLen ∧ ∀ n ∈ l, I64 n := by
  obtain ⟨a, n, c, hv, hc⟩ := rd_cap ht h
  obtain ⟨a', c', l, rfl, hl, hr, hs⟩ := rd_ints ht Try.underlying3 (by kernel_rfl) h
  simp only [Value.slice.injEq] at hv
  obtain ⟨rfl, rfl, rfl⟩ := hv
  refine ⟨l, ⟨a', c', rfl, hc, ?_⟩, hl, fun n hn => bounds_i64 (hs n hn)⟩
  rcases Nat.eq_zero_or_pos l.length with h0 | h0
  · exact .inl (List.eq_nil_of_length_eq_zero h0)
  · exact .inr (vrow_of hr (by unfold ints; rw [List.length_map]; exact h0))
/-- v is a slice of slices of these numbers. -/
def LiesII (w : World) (v : Value) (L : List (List Int)) : Prop :=
  ∃ a c vs, v = .slice a L.length c ∧ L.length ≤ c ∧ vs.length = L.length ∧ (L = [] ∨ ∃ b off, a = some ⟨b, off, none⟩ ∧ VRow w b off vs) ∧ ∀ (j : Nat) (l : List Int), L[j]? = some l → ∃ x, vs[j]? = some x ∧ LiesI w x l
theorem LiesII.gr {w w' : World} {v : Value} {L : List (List Int)} (h : LiesII w v L) (g : Gr w w') : LiesII w' v L := by
  obtain ⟨a, c, vs, rfl, hc, hl, h, hr⟩ := h
  refine ⟨a, c, vs, rfl, hc, hl, h.imp id ?_, fun j l hj => ?_⟩
  · rintro ⟨b, off, rfl, hr⟩
    exact ⟨b, off, rfl, hr.gr g⟩
  · obtain ⟨x, hx, hi⟩ := hr j l hj
    exact ⟨x, hx, hi.gr g⟩
theorem liesII_nil (w : World) : LiesII w (.slice none 0 0) [] := ⟨none, 0, [], rfl, Nat.le_refl _, rfl, .inl rfl, by simp⟩
/-- Its elements, each where it lies. -/
theorem liesII_at {w : World} {v : Value} {L : List (List Int)} (h : LiesII w v L) : ∃ a c, v = .slice a L.length c ∧ L.length ≤ c ∧ (1 ≤ L.length → ∃ b off, a = some ⟨b, off, none⟩ ∧ b < w.heap.size ∧ ∀ (j : Nat) (l : List Int), L[j]? = some l → ∃ x, w.cell? ⟨b, off + j, none⟩ = some x ∧ LiesI w x l) := by
  obtain ⟨a, c, vs, rfl, hc, hl, h, hr⟩ := h
  refine ⟨a, c, rfl, hc, fun h1 => ?_⟩
  rcases h with rfl | ⟨b, off, rfl, hv⟩
  · simp at h1
  · refine ⟨b, off, rfl, hv.1, fun j l hj => ?_⟩
    obtain ⟨x, hx, hi⟩ := hr j l hj
    exact ⟨x, hv.2 j x hx, hi⟩
theorem liesII_in {w : World} {t : TypeId} {v : Value} (ht : Try.prog.underlying t = some (.slice 22)) (h : Rd Try.prog w t v) : ∃ L : List (List Int), LiesII w v L ∧ L.length ≤ maxLen ∧ ∀ l ∈ L, ∀ n ∈ l, I64 n := by
  obtain ⟨a, n, c, hv, hc⟩ := rd_cap ht h
  obtain ⟨a', l, c', rfl, hl, hr, hs⟩ := rd_slice ht (by kernel_rfl) h
  simp only [Value.slice.injEq] at hv
  obtain ⟨rfl, rfl, rfl⟩ := hv
  have hex : ∀ (l : List Value), (∀ x ∈ l, Rd Try.prog w 22 x) → ∃ L : List (List Int), L.length = l.length ∧ (∀ (j : Nat) (y : List Int), L[j]? = some y → ∃ x, l[j]? = some x ∧ LiesI w x y) ∧ ∀ y ∈ L, ∀ n ∈ y, I64 n := by
    intro l
    induction l with
    | nil => intro _; exact ⟨[], rfl, by simp, by simp⟩
    | cons x r ih =>
      intro hx
      obtain ⟨L, h1, h2, h3⟩ := ih fun z hz => hx z (by simp [hz])
      obtain ⟨y, hy, _, hi⟩ := liesI_in Try.underlying22 (hx x (by simp))
      refine ⟨y :: L, by simp [h1], fun j z hj => ?_, fun z hz => ?_⟩
      · match j, hj with
        | 0, hj => simp at hj; subst hj; exact ⟨x, rfl, hy⟩
        | j + 1, hj => exact h2 j z (by simpa using hj)
      · rcases List.mem_cons.1 hz with rfl | hz
        · exact hi
        · exact h3 z hz
  obtain ⟨L, h1, h2, h3⟩ := hex l hs
  refine ⟨L, ⟨a', c', l, by rw [h1], by omega, h1.symm, ?_, h2⟩, by omega, h3⟩
  rcases Nat.eq_zero_or_pos l.length with h0 | h0
  · exact .inl (List.eq_nil_of_length_eq_zero (by omega))
  · exact .inr (vrow_of hr h0)
/-- The slice x does not lie where the row v may be written. -/
def ApartI (w : World) (x v : Value) : Prop := ∀ a n c, x = .slice (some a) n c → v.ownBlock ≠ some a.block ∧ a.block < w.heap.size
/-- A row of one's own, of slices of numbers that nobody writes. -/
def RowsI (w : World) (v : Value) (L : List (List Int)) (vs : List Value) : Prop := ∀ (j : Nat) (l : List Int), L[j]? = some l → ∃ x, vs[j]? = some x ∧ LiesI w x l ∧ ApartI w x v
def OwnII (base : Nat) (w : World) (v : Value) (L : List (List Int)) : Prop := ∃ vs, w.ownsRow base 22 1 v L.length vs ∧ RowsI w v L vs
theorem rowsI_nil (w : World) (v : Value) (vs : List Value) : RowsI w v [] vs := fun j l h => by simp at h
theorem ownII_nil (base : Nat) (w : World) : OwnII base w (.slice none 0 0) [] := ⟨[], World.ownsRow_nil _ _ _ _, rowsI_nil _ _ _⟩
theorem ownII_lies {base : Nat} {w : World} {v : Value} {L : List (List Int)} (h : OwnII base w v L) : LiesII w v L := by
  obtain ⟨vs, ho, hr⟩ := h
  have hvs : vs.length = L.length := by have := ho.1; omega
  obtain ⟨a, c, rfl, hc, hh⟩ := own_row ho
  refine ⟨a, c, vs, rfl, hc, hvs, ?_, fun j l hj => ?_⟩
  · rcases hh with h0 | ⟨b, rfl, hrow⟩
    · exact .inl (List.eq_nil_of_length_eq_zero h0)
    · exact .inr ⟨b, 0, rfl, hrow⟩
  · obtain ⟨x, h1, h2, _⟩ := hr j l hj
    exact ⟨x, h1, h2⟩
theorem RowsI.gr {w w' : World} {v : Value} {L : List (List Int)} {vs : List Value} (h : RowsI w v L vs) (g : Gr w w') : RowsI w' v L vs := fun j l hj => by
  obtain ⟨x, h1, h2, h3⟩ := h j l hj
  exact ⟨x, h1, h2.gr g, fun a n c e => ⟨(h3 a n c e).1, Nat.lt_of_lt_of_le (h3 a n c e).2 g.size⟩⟩
theorem OwnII.gr {base : Nat} {w w' : World} {v : Value} {L : List (List Int)} (h : OwnII base w v L) (g : Gr w w') : OwnII base w' v L := by
  obtain ⟨vs, ho, hr⟩ := h
  exact ⟨vs, ho.kept (gr_grownN g) (by cases hv : v.ownBlock <;> simp), hr.gr g⟩
theorem ownsRow_gr {base : Nat} {E : TypeId} {z : Nat} {w w' : World} {v : Value} {n : Nat} {xs : List Value} (h : w.ownsRow base E z v n xs) (g : Gr w w') : w'.ownsRow base E z v n xs := h.kept (gr_grownN g) (by cases hv : v.ownBlock <;> simp)
/-- A slice that a call has just made lies apart from every row that was there ahead. -/
theorem apart_new {w u : World} {E E2 : TypeId} {base : Nat} {x v : Value} {n m : Nat} {xs ys : List Value} (hv : w.ownsRow base E2 1 v m ys) (hx : u.ownsRow w.heap.size E 1 x n xs) : ApartI u x v := by
  intro a k c e
  have h1 := hx.lt a.block (by rw [e]; rfl)
  refine ⟨fun h2 => ?_, h1.2⟩
  have := (hv.lt _ h2).2
  omega
/-- Behind an append of a slice that a call has just made. -/
theorem ownII_snoc {base : Nat} {w u w1 w2 : World} {v v' x : Value} {vs : List Value} {L : List (List Int)} {l : List Int} (hown : w.ownsRow base 22 1 v L.length vs) (hr : RowsI w v L vs) (g : Gr w u) (hx : u.ownsRow w.heap.size 3 1 x l.length (ints l)) (g1 : Gr u w1)
    (ho : w2.ownsRow base 22 1 v' (L.length + 1) (vs ++ [x])) (hg : w1.grownBy w2 v.ownBlock) (hat : v'.ownBlock = v.ownBlock ∨ v'.ownBlock = some w1.heap.size) : OwnII base w2 v' (L ++ [l]) := by
  have hvs : vs.length = L.length := by have := hown.1; omega
  have move : ∀ y k, LiesI w1 y k → ApartI w1 y v → LiesI w2 y k ∧ ApartI w2 y v' := by
    intro y k h1 h2
    refine ⟨h1.kept hg fun a n c e => (h2 a n c e).1, fun a n c e => ⟨?_, Nat.lt_of_lt_of_le (h2 a n c e).2 hg.size⟩⟩
    rcases hat with h3 | h3
    · rw [h3]; exact (h2 a n c e).1
    · rw [h3]; have := (h2 a n c e).2; intro h4; have := Option.some.inj h4; omega
  refine ⟨vs ++ [x], by rw [List.length_append, List.length_singleton]; exact ho, fun j k hj => ?_⟩
  by_cases hlt : j < L.length
  · rw [List.getElem?_append_left hlt] at hj
    obtain ⟨y, h1, h2, h3⟩ := (hr.gr (g.trans g1)) j k hj
    exact ⟨y, by rw [List.getElem?_append_left (by omega)]; exact h1, move y k h2 h3⟩
  · have hj1 := (List.getElem?_eq_some_iff.1 hj).1
    rw [List.length_append, List.length_singleton] at hj1
    obtain rfl : j = L.length := by omega
    obtain rfl : l = k := by simpa using hj
    refine ⟨x, by rw [← hvs]; simp, move x l ((liesI_own hx).gr g1) fun a n c e => ?_⟩
    have := apart_new hown hx a n c e
    exact ⟨this.1, Nat.lt_of_lt_of_le this.2 g1.size⟩
theorem infoI : (Try.prog.info? 3).map (fun i => (i.zero, i.size, i.bytes)) = some (some (.int .i64 0), 1, 8) := by kernel_rfl
theorem infoII : (Try.prog.info? 22).map (fun i => (i.zero, i.size, i.bytes)) = some (some (.slice none 0 0), 1, 24) := by kernel_rfl
end Go.Proofs.Ytipfdildnnfmkaa

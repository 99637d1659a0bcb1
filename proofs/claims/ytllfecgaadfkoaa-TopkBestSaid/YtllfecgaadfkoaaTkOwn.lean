/- Rows of one's own of near ones; a new slice of them; the last ones of a slice. -/
import Derived.Test.YtllfecgaadfkoaaTkSame
import Derived.Test.YtllfecgaadfkoaaTkArg
namespace Go.Proofs.Ytllfecgaadfkoaa
open Go.RowKit TkPlain
set_option linter.unusedVariables false
set_option linter.unusedSimpArgs false
set_option maxRecDepth 20000
def nrs : List Nr → List Value
  | [] => []
  | x :: l => .int .i64 x.d :: .int .i64 x.id :: .bool x.nw :: nrs l
theorem nrs_length : ∀ l : List Nr, (nrs l).length = l.length * 3
  | [] => rfl
  | x :: l => by simp only [nrs, List.length_cons, nrs_length l]; omega
theorem nrs_snoc : ∀ (l : List Nr) (x : Nr), nrs (l ++ [x]) = nrs l ++ [.int .i64 x.d, .int .i64 x.id, .bool x.nw]
  | [], x => rfl
  | y :: l, x => by simp only [nrs, List.cons_append, nrs_snoc l x]
theorem nrs_at : ∀ {l : List Nr} {j : Nat} {x : Nr}, l[j]? = some x → (nrs l)[j * 3]? = some (.int .i64 x.d) ∧ (nrs l)[j * 3 + 1]? = some (.int .i64 x.id) ∧ (nrs l)[j * 3 + 2]? = some (.bool x.nw)
  | [], j, x, h => by simp at h
  | y :: l, 0, x, h => by
    obtain rfl : y = x := by simpa using h
    exact ⟨rfl, rfl, rfl⟩
  | y :: l, j + 1, x, h => by
    have h' : l[j]? = some x := by simpa using h
    have e : (j + 1) * 3 = j * 3 + 1 + 1 + 1 := by omega
    obtain ⟨h1, h2, h3⟩ := nrs_at h'
    rw [e]
    simp only [nrs, List.getElem?_cons_succ]
    exact ⟨h1, h2, h3⟩
theorem nrRow_of {w : World} {b o : Nat} {l : List Nr} (hb : b < w.heap.size) (h : ∀ j u, (nrs l)[j]? = some u → w.cell? ⟨b, o + j, none⟩ = some u) : NrRow w b o l := ⟨hb, fun j x hj => by
  obtain ⟨h1, h2, h3⟩ := nrs_at hj
  exact ⟨h _ _ h1, by rw [Nat.add_assoc]; exact h _ _ h2, by rw [Nat.add_assoc]; exact h _ _ h3⟩⟩
theorem grA (w : World) (o : Obj) : Gr w (w.alloc o) := Below.alloc (Below.refl _ _) (Nat.le_refl _) _
/-- A slice of near ones that a call has just made. -/
theorem liesN_new (w : World) (l : List Nr) (T : TypeId) : LiesN (w.alloc (.cells (nrs l).toArray T)) (.slice (some ⟨w.heap.size, 0, none⟩) l.length l.length) l := by
  refine ⟨_, l.length, rfl, Nat.le_refl _, .inr ⟨_, _, rfl, nrRow_of (by simp) fun j u hj => ?_⟩⟩
  rw [Nat.zero_add, World.cell?_alloc_new, List.getElem?_toArray]
  exact hj
theorem liesN_nil (w : World) : LiesN w (.slice none 0 0) [] := ⟨none, 0, rfl, Nat.le_refl _, .inl rfl⟩
theorem liesN_own {w : World} {B : Nat} {v : Value} {l : List Nr} (h : w.ownsRow B 26 3 v l.length (nrs l)) : LiesN w v l := by
  have hc := @World.ownsRow.cells w _ _ _ _ _ _ h
  have hl := h.lt
  obtain ⟨_, p⟩ := h
  rcases p with ⟨rfl, z⟩ | ⟨g, cap, cur, rfl, _, _, hn, _⟩
  · exact ⟨none, 0, by rw [z], by omega, .inl (List.eq_nil_of_length_eq_zero z)⟩
  · refine ⟨_, cap, rfl, hn, .inr ⟨g, 0, rfl, nrRow_of (hl g rfl).2 fun j x hj => ?_⟩⟩
    have := hc (g := g) rfl j x hj
    rw [add_lit] at this
    exact this
/-- A slice of the first ones, of the last ones. -/
theorem first_any (a : Option Addr) (n c i : Nat) (h1 : i ≤ n) (h2 : n ≤ c) (w : World) :
    (Instr.slice 22 (.slice a n c) none (some (.int .i64 (i : Int))) none).run Try.prog w = .ok (.slice a i c) w := by
  have h3 : (i : Int) ≤ (c : Int) := by omega
  cases a <;> simp [Instr.slice, Instr.sliceBounds, run_underlying Try.underlying22, go_sem, sliced, h3, show Try.prog.cellsOf 26 = 3 by kernel_rfl]
theorem last_any (a : Option Addr) (n c i : Nat) (h1 : i ≤ n) (h2 : n ≤ c) (w : World) :
    (Instr.slice 22 (.slice a n c) (some (.int .i64 (i : Int))) none none).run Try.prog w = .ok (.slice (if c = i then a else a.map (·.add (i * 3))) (n - i) (c - i)) w := by
  have h3 : (i : Int) ≤ (n : Int) := by omega
  have h4 : (n : Int) ≤ (c : Int) := by omega
  cases a <;> simp [Instr.slice, Instr.sliceBounds, run_underlying Try.underlying22, go_sem, sliced, h3, h4, show Try.prog.cellsOf 26 = 3 by kernel_rfl]
theorem lies_first {w : World} {a : Option Addr} {n c : Nat} {l : List Nr} (h : LiesN w (.slice a n c) l) (i : Nat) (hi : i ≤ n) : LiesN w (.slice a i c) (l.take i) := by
  obtain ⟨a', c', hv, hc, h⟩ := h
  simp only [Value.slice.injEq] at hv
  obtain ⟨rfl, rfl, rfl⟩ := hv
  have hl : (l.take i).length = i := by rw [List.length_take]; omega
  refine ⟨a, c, by rw [hl], by omega, ?_⟩
  rcases h with rfl | ⟨b, o, rfl, hr⟩
  · exact .inl (by simp)
  · exact .inr ⟨b, o, rfl, nrRow_take hr i⟩
theorem lies_last {w : World} {a : Option Addr} {n c : Nat} {l : List Nr} (h : LiesN w (.slice a n c) l) (i : Nat) (hi : i ≤ n) : LiesN w (.slice (if c = i then a else a.map (·.add (i * 3))) (n - i) (c - i)) (l.drop i) := by
  obtain ⟨a', c', hv, hc, h⟩ := h
  simp only [Value.slice.injEq] at hv
  obtain ⟨rfl, rfl, rfl⟩ := hv
  have hl : (l.drop i).length = l.length - i := by rw [List.length_drop]
  refine ⟨_, c - i, by rw [hl], by omega, ?_⟩
  by_cases h0 : l.length = i
  · exact .inl (List.drop_eq_nil_of_le (by omega))
  · rcases h with rfl | ⟨b, o, rfl, hr⟩
    · simp at h0 hi; omega
    · rw [if_neg (by omega)]
      refine .inr ⟨b, o + i * 3, by simp only [Option.map_some, add_lit], hr.1, fun j x hj => ?_⟩
      rw [List.getElem?_drop] at hj
      have := hr.2 _ _ hj
      rw [show o + i * 3 + j * 3 = o + (i + j) * 3 by omega]
      exact this
theorem infoN : (Try.prog.info? 26).map (fun i => (i.zero, i.size, i.bytes)) = some (some (.agg #[.int .i64 0, .int .i64 0, .bool false]), 3, 24) := by kernel_rfl
theorem gr_grownT {A B : World} (h : Gr A B) : A.grownBy B none := ⟨h.1, h.2, h.3, h.size, fun k hk _ => h.block k hk⟩
theorem ownsRow_grT {base : Nat} {E : TypeId} {z : Nat} {w w' : World} {v : Value} {n : Nat} {xs : List Value} (h : w.ownsRow base E z v n xs) (g : Gr w w') : w'.ownsRow base E z v n xs := h.kept (gr_grownT g) (by cases hv : v.ownBlock <;> simp)
theorem info_partsT {o : Option TypeInfo} {a : Option Value} {b c : Nat} (h : o.map (fun i => (i.zero, i.size, i.bytes)) = some (a, b, c)) : ∃ i, o = some i ∧ i.zero = a ∧ i.size = b ∧ i.bytes = c := by
  cases o with
  | none => cases h
  | some i => simp at h; exact ⟨i, rfl, h.1, h.2.1, h.2.2⟩
end Go.Proofs.Ytllfecgaadfkoaa

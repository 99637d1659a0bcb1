/- An append of near ones to a row of one's own, whatever slice of them it is. -/
import Derived.Test.YtllfecgaadfkoaaTkOwn
namespace Go.Proofs.Ytllfecgaadfkoaa
open Go.RowKit TkPlain
set_option linter.unusedVariables false
set_option linter.unusedSimpArgs false
set_option maxRecDepth 20000
theorem nrs_app : ∀ (l m : List Nr), nrs (l ++ m) = nrs l ++ nrs m
  | [], m => rfl
  | y :: l, m => by simp only [nrs, List.cons_append, nrs_app l m]
theorem nrs_one : ∀ (l : List Nr), ∀ u ∈ nrs l, u.oneCell' = true
  | [], u, h => by simp [nrs] at h
  | y :: l, u, h => by
    simp only [nrs, List.mem_cons] at h
    rcases h with rfl | rfl | rfl | h
    · rfl
    · rfl
    · rfl
    · exact nrs_one l u h
theorem nrs_row {w : World} {b o : Nat} : ∀ {l : List Nr}, (∀ (j : Nat) (x : Nr), l[j]? = some x → NrAt w b (o + j * 3) x) → ∀ j u, (nrs l)[j]? = some u → w.cell? ⟨b, o + j, none⟩ = some u := by
  intro l h j u hj
  have hlt := (List.getElem?_eq_some_iff.1 hj).1
  rw [nrs_length] at hlt
  obtain ⟨x, hx, _, _⟩ := take_onT (l := l) (j := j / 3) (by omega)
  obtain ⟨a1, a2, a3⟩ := nrs_at hx
  obtain ⟨b1, b2, b3⟩ := h _ x hx
  rcases (by omega : j = j / 3 * 3 ∨ j = j / 3 * 3 + 1 ∨ j = j / 3 * 3 + 2) with e | e | e
  · rw [e] at hj ⊢
    rw [a1] at hj; cases hj; exact b1
  · rw [e] at hj ⊢
    rw [a2] at hj; cases hj; rw [← Nat.add_assoc]; exact b2
  · rw [e] at hj ⊢
    rw [a3] at hj; cases hj; rw [← Nat.add_assoc]; exact b3
/-- append of near ones to a row of one's own, whatever slice of them it is. -/
theorem run_app_near (w : World) (base : Nat) (ty : TypeId) {v vx : Value} {xs ys : List Nr} (hown : w.ownsRow base 26 3 v xs.length (nrs xs)) (hl : LiesN w vx ys) (hlen : xs.length + ys.length ≤ 100000) (hbase : base ≤ w.heap.size) :
    ∃ v' w', (Builtin.append_ #[22, 22] ty #[v, vx]).run Try.prog w = .ok v' w' ∧ w'.ownsRow base 26 3 v' (xs.length + ys.length) (nrs (xs ++ ys)) ∧ w.grownBy w' v.ownBlock ∧ (v'.ownBlock = v.ownBlock ∨ v'.ownBlock = some w.heap.size) := by
  obtain ⟨i0, hi, hz0, hz1, hz2⟩ := info_partsT infoN
  obtain ⟨a, c, rfl, hc, h⟩ := hl
  have key : ∀ ad : Addr, a = some ad → (∀ j u, (nrs ys)[j]? = some u → w.cell? (ad.add j) = some u) → ∃ v' w', (Builtin.append_ #[22, 22] ty #[v, .slice a ys.length c]).run Try.prog w = .ok v' w' ∧ w'.ownsRow base 26 3 v' (xs.length + ys.length) (nrs (xs ++ ys)) ∧ w.grownBy w' v.ownBlock ∧ (v'.ownBlock = v.ownBlock ∨ v'.ownBlock = some w.heap.size) := by
    rintro ad rfl hcell
    obtain ⟨v', w', h1, h2, h3, _, h5⟩ := run_append_own_at (P := Try.prog) w base 22 ty 26 i0 (.agg #[.int .i64 0, .int .i64 0, .bool false]) 3 24 Try.underlying22 hi hz0 hz1 hz2 rfl (by decide) v xs.length (nrs xs) hown ad ys.length c (nrs ys) (nrs_length ys) hcell (nrs_one ys) (by unfold maxLen; omega) (by omega) hbase
    exact ⟨v', w', h1, by rw [nrs_app]; exact h2, h3, h5⟩
  cases a with
  | none =>
    have hy : ys = [] := h.elim id (fun ⟨b, o, e, _⟩ => by cases e)
    subst hy
    refine ⟨v, w, ?_, by simpa using hown, ⟨rfl, rfl, rfl, Nat.le_refl _, fun _ _ _ => rfl⟩, .inl rfl⟩
    rcases hown.2 with ⟨rfl, _⟩ | ⟨g, cap, cur, rfl, _, _, hnc, _⟩
    · simp [Builtin.append_, run_underlying Try.underlying22, sizeOf, typeInfo, hi, Builtin.lenOf, Builtin.firstCells]
    · simp [Builtin.append_, run_underlying Try.underlying22, sizeOf, typeInfo, hi, Builtin.lenOf, Builtin.firstCells, hnc, storeCells]
  | some ad =>
    refine key ad rfl fun j u hj => ?_
    rcases h with rfl | ⟨b, o, e, hr⟩
    · simp [nrs] at hj
    · cases e
      rw [add_lit]
      exact nrs_row hr.2 j u hj
theorem wpList_app_near {w : World} {ops : Array Oper} {rest : List Oper} {o : Oper} {a : Act} {Q : Exit → Act → World → Prop} (hgd : o.guard = none) (s x : Operand) (base : Nat) {v vx : Value} {xs ys : List Nr}
    (ho : o.op = .call { callee := .builtin .append, args := #[s, x], argTypes := #[22, 22] }) (hs : a.eval s = v) (hown : w.ownsRow base 26 3 v xs.length (nrs xs)) (hx : a.eval x = vx) (hl : LiesN w vx ys) (hlen : xs.length + ys.length ≤ 100000) (hbase : base ≤ w.heap.size)
    (h : ∀ v' w', w'.ownsRow base 26 3 v' (xs.length + ys.length) (nrs (xs ++ ys)) → w.grownBy w' v.ownBlock → (v'.ownBlock = v.ownBlock ∨ v'.ownBlock = some w.heap.size) → wpList Try.prog ops Q rest (a.put o.dst v') w') :
    wpList Try.prog ops Q (o :: rest) a w := by
  refine wpList_plain hgd fun K hK => ?_
  obtain ⟨v', w', hr, h2, h3, h5⟩ := run_app_near w base o.type hown hl hlen hbase
  unfold Oper.wp execOp
  simp only [ho, resolve, invoke, builtin, Sem.run_bind, Sem.run_pure, Result.andThen_ok, List.map_toArray, List.map_cons, List.map_nil, hs, hx, hr]
  exact hK _ _ (h v' w' h2 h3 h5)
end Go.Proofs.Ytllfecgaadfkoaa

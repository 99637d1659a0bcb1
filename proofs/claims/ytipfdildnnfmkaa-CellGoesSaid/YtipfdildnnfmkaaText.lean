/- A region that draws its order, walked once, in the order of its text: where each of its operations hands out one value in whatever world holds S, and leaves such a world (a copy, a load of a cell that stays; a call that makes memory), all its orders come to one. -/
import Derived.Test.YtipfdildnnfmkaaBase
import Derived.Orders
namespace Go.Proofs.Ytipfdildnnfmkaa
open Go.RowKit
set_option linter.unusedVariables false
set_option linter.unusedSimpArgs false
section
variable {P : Program} {ops : Array Oper} {Q : Exit → Act → World → Prop} {md : Region.Mode} {S : World → Prop}
/-- In every world that holds S the operation hands out v, and leaves a world that holds S. -/
def StepsTo (P : Program) (S : World → Prop) (o : Oper) (v : Value) (a : Act) : Prop :=
  ∀ w, S w → (∃ w', (execOp a.eval o).run P w = .ok (.value v) w' ∧ S w') ∨ (∃ f args w', (execOp a.eval o).run P w = .ok (.enter f args) w' ∧ Calls P f args w' fun e w'' => e = .returned v ∧ S w'')
def Steps (P : Program) (ops : Array Oper) (S : World → Prop) (o : Oper) (v : Value) (a : Act) : Prop :=
  (Region.wanted o (yielded ops a.tmps) = true ∧ StepsTo P S o v a) ∨ (Region.wanted o (yielded ops a.tmps) = false ∧ v = undef)
theorem Steps.of_same {o : Oper} {v : Value} {a a' : Act} (h : Steps P ops S o v a) (he : execOp a'.eval o = execOp a.eval o) (hw : Region.wanted o (yielded ops a'.tmps) = Region.wanted o (yielded ops a.tmps)) : Steps P ops S o v a' := by
  unfold Steps StepsTo at *
  rw [he, hw]
  exact h
theorem Steps.wpOp {i : Nat} {o : Oper} {v : Value} {a : Act} (hi : ops[i]? = some o) (h : Steps P ops S o v a) {K : Act → World → Prop} {w : World} (hS : S w) (hK : ∀ w', S w' → K (a.put o.dst v) w') : wpOp P ops Q i K a w := by
  unfold Go.wpOp
  simp only [hi]
  rcases h with ⟨hw, hv⟩ | ⟨hw, rfl⟩
  · simp only [hw, if_true]
    refine .inl ?_
    unfold Oper.wp
    rcases hv w hS with ⟨w', h1, h2⟩ | ⟨f, args, w', h1, h2⟩
    · rw [h1]; exact hK w' h2
    · rw [h1]
      refine Calls.mono h2 ?_
      rintro e w'' ⟨rfl, h3⟩
      exact hK w'' h3
  · simp only [hw, Bool.false_eq_true, if_false]
    exact hK w hS
/-- A way through the rest, an operation at a time; no world is spoken of till the end. -/
inductive Plan (P : Program) (md : Region.Mode) (ops : Array Oper) (Q : Exit → Act → World → Prop) (S : World → Prop) : Nat → Array Bool → Act → Prop
  | done {fuel : Nat} {listed : Array Bool} {a : Act} (h : Region.ready md ops listed = []) (k : ∀ w, S w → Q .normal a w) : Plan P md ops Q S fuel listed a
  | take {fuel : Nat} {listed : Array Bool} {a : Act} (i : Nat) (o : Oper) (v : Value) (hi : ops[i]? = some o) (hf : Region.free md ops listed i = true) (hr : i ∈ Region.ready md ops listed) (h : Steps P ops S o v a)
      (k : Plan P md ops Q S fuel (listed.setIfInBounds i true) (a.put o.dst v)) : Plan P md ops Q S (fuel + 1) listed a
theorem free_set {i j : Nat} {listed : Array Bool} {o : Oper} (hi : ops[i]? = some o) (h : Region.free md ops listed i = true) : Region.free md ops (listed.setIfInBounds j true) i = true := by
  unfold Region.free at *
  rw [hi] at h ⊢
  simp only [List.all_eq_true, List.mem_range] at h ⊢
  intro k hk
  have h1 := h k hk
  by_cases hjk : j = k
  · subst hjk
    have h2 : (listed.setIfInBounds j true).getD j true = true := by
      by_cases hb : j < listed.size
      · simp [hb]
      · simp [Array.getElem?_eq_none (Nat.le_of_not_lt hb)]
    rw [h2]; simp
  · rw [getD_set_ne true hjk]; exact h1
/-- Whatever may come up may come up first. -/
theorem Plan.first (hs : Region.noSelect ops = true) : ∀ {fuel : Nat} {listed : Array Bool} {a : Act}, Plan P md ops Q S fuel listed a → ∀ {j : Nat}, j ∈ Region.ready md ops listed →
    ∃ fuel' o v, fuel = fuel' + 1 ∧ ops[j]? = some o ∧ Steps P ops S o v a ∧ Plan P md ops Q S fuel' (listed.setIfInBounds j true) (a.put o.dst v) := by
  intro fuel listed a h
  induction h with
  | done hr k => intro j hj; rw [hr] at hj; cases hj
  | @take fuel listed a i oi vi hi hf hr hst hk ih =>
    intro j hj
    by_cases hji : j = i
    · subst hji
      exact ⟨fuel, oi, vi, rfl, hi, hst, hk⟩
    · obtain ⟨fuel', oj, vj, hfu, hoj, hsj, hpj⟩ := ih (ready_mono hj hji)
      obtain ⟨hjun, oj', hoj', hall⟩ := mem_ready.1 hj
      rw [hoj] at hoj'
      cases hoj'
      have hnot : ∀ e ∈ oj.after, Region.binds md e = true → e.on ≠ i := fun e he hb heq => by
        have h1 := hall e he hb
        have h0 := (mem_ready.1 hr).1
        rw [heq] at h1
        rcases Nat.lt_or_ge i listed.size with h' | h'
        · simp [h'] at h0 h1; rw [h0] at h1; cases h1
        · simp [Array.getElem?_eq_none h'] at h1
      have hap := Region.free_spec hi hf j oj hoj hji hjun hnot
      obtain ⟨h1, h2, h3⟩ := Oper.apart_spec hap
      have hseli := fun cs b => Region.noSelect_spec hs i oi cs b hi
      have hselj := fun cs b => Region.noSelect_spec hs j oj cs b hoj
      refine ⟨fuel, oj, vj, rfl, hoj, hsj.of_same (execOp_put oj hselj a oi.dst vi h1).symm (wanted_put oj a oi.dst vi h1).symm, ?_⟩
      subst hfu
      refine Plan.take i oi vi hi (free_set hi hf) (ready_mono hr (Ne.symm hji)) (hst.of_same (execOp_put oi hseli a oj.dst vj h3) (wanted_put oi a oj.dst vj h3)) ?_
      rw [Array.setIfInBounds_comm _ _ hji, ← Act.put_comm a vi vj h2]
      exact hpj
theorem plan_any (hs : Region.noSelect ops = true) : ∀ (fuel : Nat) (listed : Array Bool) (a : Act), Plan P md ops Q S fuel listed a → ∀ w, S w → wpAny P md ops Q fuel listed a w
  | 0, listed, a, h, w, hS => by
    cases h with
    | done hr k => exact ⟨hr, k w hS⟩
  | fuel + 1, listed, a, h, w, hS => by
    refine ⟨fun hr => ?_, fun j hj => ?_⟩
    · cases h with
      | done _ k => exact k w hS
      | take i o v hi hf hr' hst k => rw [hr] at hr'; cases hr'
    · obtain ⟨fuel', o, v, hfu, hoj, hst, hp⟩ := h.first hs hj
      cases hfu
      exact hst.wpOp hoj hS fun w' hS' => plan_any hs fuel _ _ hp w' hS'
/-- The text's order serves: each operation may come up behind those ahead of it. -/
def textOk (md : Region.Mode) (ops : Array Oper) : Bool :=
  (List.range ops.size).all fun i => Region.free md ops ((List.replicate i true ++ List.replicate (ops.size - i) false).toArray) i && (Region.ready md ops ((List.replicate i true ++ List.replicate (ops.size - i) false).toArray)).contains i
/-- The walk over what is left of the text. -/
def Text (P : Program) (ops : Array Oper) (Q : Exit → Act → World → Prop) (S : World → Prop) : List Oper → Act → Prop
  | [], a => ∀ w, S w → Q .normal a w
  | o :: rest, a => ∃ v, Steps P ops S o v a ∧ Text P ops Q S rest (a.put o.dst v)
theorem text_plan (ht : textOk md ops = true) : ∀ (rest : List Oper) (i : Nat) (a : Act), i + rest.length = ops.size → ops.toList.drop i = rest → Text P ops Q S rest a →
    Plan P md ops Q S rest.length ((List.replicate i true ++ List.replicate rest.length false).toArray) a
  | [], i, a, hl, _, h => by
    refine Plan.done ?_ h
    have : Region.ready md ops ((List.replicate i true ++ List.replicate 0 false).toArray) = [] := by
      rw [List.eq_nil_iff_forall_not_mem]
      intro j hj
      obtain ⟨h0, o, ho, _⟩ := mem_ready.1 hj
      have hlt := (Array.getElem?_eq_some_iff.1 ho).1
      have hlen : ([] : List Oper).length = 0 := rfl
      have : j < i := by rw [hlen] at hl; omega
      simp [this] at h0
    exact this
  | o :: rest, i, a, hl, hd, h => by
    obtain ⟨v, h1, h2⟩ := h
    have hlen : (o :: rest).length = rest.length + 1 := rfl
    have hi : i < ops.size := by rw [hlen] at hl; omega
    have ho : ops[i]? = some o := by
      have : (ops.toList.drop i)[0]? = some o := by rw [hd]; rfl
      rw [List.getElem?_drop] at this
      simpa using this
    have hk := List.all_eq_true.1 ht i (List.mem_range.2 hi)
    rw [Bool.and_eq_true] at hk
    have hs : ops.size - i = rest.length + 1 := by rw [hlen] at hl; omega
    rw [hs] at hk
    refine Plan.take i o v ho hk.1 (by simpa using hk.2) h1 ?_
    have hd2 : ops.toList.drop (i + 1) = rest := by rw [← List.drop_drop, hd]; rfl
    have ih := text_plan ht rest (i + 1) (a.put o.dst v) (by rw [hlen] at hl; omega) hd2 h2
    have e : (List.replicate i true ++ List.replicate (rest.length + 1) false).toArray.setIfInBounds i true = (List.replicate (i + 1) true ++ List.replicate rest.length false).toArray := by
      rw [List.setIfInBounds_toArray, List.set_append_right _ _ (by simp), List.length_replicate, Nat.sub_self, List.replicate_succ, List.set_cons_zero]
      congr 1
      rw [List.replicate_succ', List.append_assoc]
      rfl
    rw [hlen, e]
    exact ih
/-- The region. -/
theorem text_region (S : World → Prop) {id : Nat} {a : Act} {w : World} (hm : P.follows .mixedOrders = true) (hs : Region.noSelect ops = true) (ht : textOk .any ops = true) (hS : S w.drew) (h : Text P ops Q S ops.toList a) : (Code.region id ops true).wp P Q a w := by
  refine wp_region_any hm ?_
  have := plan_any hs _ _ _ (text_plan (md := .any) ht ops.toList 0 a (by simp) (by simp) h) w.drew hS
  simpa using this
theorem text_val {o : Oper} {rest : List Oper} {a : Act} {v : Value} (hw : Region.wanted o (yielded ops a.tmps) = true) (h : ∀ w, S w → (execOp a.eval o).run P w = .ok (.value v) w) (k : Text P ops Q S rest (a.put o.dst v)) : Text P ops Q S (o :: rest) a :=
  ⟨v, .inl ⟨hw, fun w hS => .inl ⟨w, h w hS, hS⟩⟩, k⟩
theorem text_skip {o : Oper} {rest : List Oper} {a : Act} (hw : Region.wanted o (yielded ops a.tmps) = false) (k : Text P ops Q S rest (a.put o.dst undef)) : Text P ops Q S (o :: rest) a :=
  ⟨undef, .inr ⟨hw, rfl⟩, k⟩
theorem text_call {o : Oper} {rest : List Oper} {a : Act} {v : Value} {f : FuncId} {args : Array Value} (h : ∀ w, S w → Calls P f args w fun e w' => e = .returned v ∧ S w') (hw : Region.wanted o (yielded ops a.tmps) = true) (he : ∀ w, (execOp a.eval o).run P w = .ok (.enter f args) w) (k : Text P ops Q S rest (a.put o.dst v)) : Text P ops Q S (o :: rest) a :=
  ⟨v, .inl ⟨hw, fun w hS => .inr ⟨f, args, w, he w, h w hS⟩⟩, k⟩
theorem text_done {a : Act} (k : ∀ w, S w → Q .normal a w) : Text P ops Q S [] a := k
end
end Go.Proofs.Ytipfdildnnfmkaa

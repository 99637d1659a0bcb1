/- In one text: TextW. -/
import Derived.Test.YtckmciafonnohaaP23
/- A region that draws its order, walked once in the order of its text, some of whose operations write (a slice made, an append, a store at the end): these stand in one forced order; all others read what the writing ones ahead of the last leave as it is. -/
namespace Go.Proofs.Ytckmciafonnohaa
open Go.RowKit
set_option linter.unusedVariables false
set_option linter.unusedSimpArgs false
section
variable {P : Program} {ops : Array Oper} {Q : Exit → Act → World → Prop} {md : Region.Mode} {S : World → Prop} {M : List Nat} {W : Nat → World}
/-- Operation i hands out v: one that reads, in whatever world of S; one that writes, at its own stage. -/
def StepW (P : Program) (ops : Array Oper) (S : World → Prop) (M : List Nat) (W : Nat → World) (i : Nat) (o : Oper) (v : Value) (a : Act) : Prop :=
  (i ∉ M ∧ ((Region.wanted o (yielded ops a.tmps) = true ∧ ∀ w, S w → (execOp a.eval o).run P w = .ok (.value v) w) ∨ (Region.wanted o (yielded ops a.tmps) = false ∧ v = undef))) ∨
  (∃ k, M[k]? = some i ∧ Region.wanted o (yielded ops a.tmps) = true ∧ ((execOp a.eval o).run P (W k) = .ok (.value v) (W (k + 1)) ∨ (o.dst = none ∧ (execOp a.eval o).run P (W k) = .ok .skip (W (k + 1)))))
theorem StepW.of_same {i : Nat} {o : Oper} {v : Value} {a a' : Act} (h : StepW P ops S M W i o v a) (he : execOp a'.eval o = execOp a.eval o) (hw : Region.wanted o (yielded ops a'.tmps) = Region.wanted o (yielded ops a.tmps)) : StepW P ops S M W i o v a' := by
  unfold StepW at *
  rw [he, hw]
  exact h
inductive PlanW (P : Program) (md : Region.Mode) (ops : Array Oper) (Q : Exit → Act → World → Prop) (S : World → Prop) (M : List Nat) (W : Nat → World) : Nat → Array Bool → Act → Prop
  | done {fuel : Nat} {listed : Array Bool} {a : Act} (h : Region.ready md ops listed = []) (hm : ∀ i ∈ M, listed.getD i true = true) (k : Q .normal a (W M.length)) : PlanW P md ops Q S M W fuel listed a
  | take {fuel : Nat} {listed : Array Bool} {a : Act} (i : Nat) (o : Oper) (v : Value) (hi : ops[i]? = some o) (hf : Region.free md ops listed i = true) (hr : i ∈ Region.ready md ops listed) (h : StepW P ops S M W i o v a)
      (k : PlanW P md ops Q S M W fuel (listed.setIfInBounds i true) (a.put o.dst v)) : PlanW P md ops Q S M W (fuel + 1) listed a
theorem PlanW.first (hs : Region.noSelect ops = true) : ∀ {fuel : Nat} {listed : Array Bool} {a : Act}, PlanW P md ops Q S M W fuel listed a → ∀ {j : Nat}, j ∈ Region.ready md ops listed →
    ∃ fuel' o v, fuel = fuel' + 1 ∧ ops[j]? = some o ∧ StepW P ops S M W j o v a ∧ PlanW P md ops Q S M W fuel' (listed.setIfInBounds j true) (a.put o.dst v) := by
  intro fuel listed a h
  induction h with
  | done hr _ k => intro j hj; rw [hr] at hj; cases hj
  | @take fuel listed a i oi vi hi hf hr hst hk ih =>
    intro j hj
    by_cases hji : j = i
    · subst hji
      exact ⟨fuel, oi, vi, rfl, hi, hst, hk⟩
    · obtain ⟨fuel', oj, vj, hfu, hoj, hsj, hpj⟩ := ih (ready_mono hj hji)
      obtain ⟨hjun, oj', hoj', hall⟩ := mem_ready.1 hj
      rw [hoj] at hoj'
      cases hoj'
      have hnot : ∀ e ∈ oj.after, Region.binds md e = true → e.on ≠ i := fun e he hb heq => by
        have h1 := hall e he hb
        have h0 := (mem_ready.1 hr).1
        rw [heq] at h1
        rcases Nat.lt_or_ge i listed.size with h' | h'
        · simp [h'] at h0 h1; rw [h0] at h1; cases h1
        · simp [Array.getElem?_eq_none h'] at h1
      have hap := Region.free_spec hi hf j oj hoj hji hjun hnot
      obtain ⟨h1, h2, h3⟩ := Oper.apart_spec hap
      have hseli := fun cs b => Region.noSelect_spec hs i oi cs b hi
      have hselj := fun cs b => Region.noSelect_spec hs j oj cs b hoj
      refine ⟨fuel, oj, vj, rfl, hoj, hsj.of_same (execOp_put oj hselj a oi.dst vi h1).symm (wanted_put oj a oi.dst vi h1).symm, ?_⟩
      subst hfu
      refine PlanW.take i oi vi hi (free_set hi hf) (ready_mono hr (Ne.symm hji)) (hst.of_same (execOp_put oi hseli a oj.dst vj h3) (wanted_put oi a oj.dst vj h3)) ?_
      rw [Array.setIfInBounds_comm _ _ hji, ← Act.put_comm a vi vj h2]
      exact hpj
/-- Those that write stand one behind the other, the last of them behind all. -/
def mutOk (md : Region.Mode) (ops : Array Oper) (M : List Nat) : Bool :=
  decide (0 < M.length) && decide M.Nodup &&
  ((List.range M.length).all fun m => m == 0 || match M[m]?, M[m - 1]? with
    | some i, some p => match ops[i]? with
      | some o => o.after.any fun e => Region.binds md e && e.on == p
      | none => false
    | _, _ => false) &&
  (match M[M.length - 1]? with
    | some i => match ops[i]? with
      | some o => (List.range ops.size).all fun j => j == i || o.after.any fun e => Region.binds md e && (e.on == j || match ops[e.on]? with
        | some p => p.after.any fun e' => Region.binds md e' && e'.on == j
        | none => false)
      | none => false
    | none => false)
structure InvW (md : Region.Mode) (ops : Array Oper) (M : List Nat) (listed : Array Bool) (k : Nat) : Prop where
  le : k ≤ M.length
  on : ∀ m i, M[m]? = some i → (listed.getD i true = true ↔ m < k)
  all : k = M.length → ∀ i, i < ops.size → listed.getD i true = true
  cl : ∀ p o, ops[p]? = some o → listed.getD p false = true → ∀ e ∈ o.after, Region.binds md e = true → listed.getD e.on false = true
theorem getD_tt {l : Array Bool} {i : Nat} (h : l.getD i false = true) : l.getD i true = true := by
  rcases Nat.lt_or_ge i l.size with h' | h'
  · simp [h'] at h ⊢; exact h
  · simp [Array.getElem?_eq_none h']
theorem getD_set_tt (l : Array Bool) (i j : Nat) : (l.setIfInBounds i true).getD j true = if j = i then true else l.getD j true := by
  by_cases h : j = i
  · subst h
    rw [if_pos rfl]
    rcases Nat.lt_or_ge j l.size with h' | h'
    · simp [h']
    · simp [Array.getElem?_eq_none h']
  · rw [if_neg h, getD_set_ne true (Ne.symm h)]
theorem getD_set_ff {l : Array Bool} {i j : Nat} (h : l.getD j false = true) : (l.setIfInBounds i true).getD j false = true := by
  by_cases hji : j = i
  · subst hji
    rcases Nat.lt_or_ge j l.size with h' | h'
    · simp [h']
    · simp [Array.getElem?_eq_none h'] at h
  · rw [getD_set_ne false (Ne.symm hji)]; exact h
theorem getD_set_ff2 {l : Array Bool} {i j : Nat} (h : (l.setIfInBounds i true).getD j false = true) : j = i ∨ l.getD j false = true := by
  by_cases hji : j = i
  · exact .inl hji
  · rw [getD_set_ne false (Ne.symm hji)] at h; exact .inr h
theorem planW_any (hs : Region.noSelect ops = true) (hM : mutOk md ops M = true) (hS : ∀ k, k < M.length → S (W k)) : ∀ (fuel : Nat) (listed : Array Bool) (a : Act), PlanW P md ops Q S M W fuel listed a → ∀ k, InvW md ops M listed k → wpAny P md ops Q fuel listed a (W k) := by
  unfold mutOk at hM
  simp only [Bool.and_eq_true, decide_eq_true_eq] at hM
  obtain ⟨⟨⟨hpos, hnd⟩, hchain⟩, hlast⟩ := hM
  have fin : ∀ {listed : Array Bool} {k : Nat}, InvW md ops M listed k → (∀ i ∈ M, listed.getD i true = true) → k = M.length := by
    intro listed k hI hm
    have h1 := hI.le
    refine Nat.le_antisymm h1 (Nat.le_of_not_lt fun hlt => ?_)
    have h2 : M[k]? = some M[k] := List.getElem?_eq_getElem hlt
    have := (hI.on k _ h2).1 (hm _ (List.getElem_mem hlt))
    omega
  intro fuel
  induction fuel with
  | zero =>
    intro listed a h k hI
    cases h with
    | done hr hm kk => have := fin hI hm; subst this; exact ⟨hr, kk⟩
  | succ fuel ih =>
    intro listed a h k hI
    refine ⟨fun hr => ?_, fun j hj => ?_⟩
    · cases h with
      | done _ hm kk => have := fin hI hm; subst this; exact kk
      | take i o v hi hf hr' hst kk => rw [hr] at hr'; cases hr'
    · obtain ⟨fuel', o, v, hfu, hoj, hst, hp⟩ := h.first hs hj
      cases hfu
      obtain ⟨hjun, o', ho', hall⟩ := mem_ready.1 hj
      rw [hoj] at ho'
      cases ho'
      have hjs : j < ops.size := (Array.getElem?_eq_some_iff.1 hoj).1
      have hcl : ∀ p o, ops[p]? = some o → (listed.setIfInBounds j true).getD p false = true → ∀ e ∈ o.after, Region.binds md e = true → (listed.setIfInBounds j true).getD e.on false = true := by
        intro p o1 hp1 hl e he hb
        apply getD_set_ff
        rcases getD_set_ff2 hl with rfl | hl
        · rw [hoj] at hp1; cases hp1; exact hall e he hb
        · exact hI.cl p o1 hp1 hl e he hb
      have hk : k < M.length := by
        refine Nat.lt_of_le_of_ne hI.le fun e => ?_
        rw [hI.all e j hjs] at hjun; cases hjun
      unfold Go.wpOp
      simp only [hoj]
      rcases hst with ⟨hjM, hst⟩ | ⟨m, hm, hw, hrun⟩
      · have hI' : InvW md ops M (listed.setIfInBounds j true) k := by
          refine ⟨hI.le, fun m i hmi => ?_, fun e => absurd e (by omega), hcl⟩
          rw [getD_set_tt, if_neg (fun (e : i = j) => hjM (e ▸ List.mem_of_getElem? hmi))]
          exact hI.on m i hmi
        rcases hst with ⟨hw, hrun⟩ | ⟨hw, rfl⟩
        · simp only [hw, if_true]
          refine .inl ?_
          unfold Oper.wp
          rw [hrun _ (hS k hk)]
          exact ih _ _ hp k hI'
        · simp only [hw, Bool.false_eq_true, if_false]
          exact ih _ _ hp k hI'
      · have hmk : m = k := by
          have h1 := hI.on m j hm
          rw [hjun] at h1
          have h2 : ¬ m < k := fun e => by have := h1.2 e; cases this
          by_cases h3 : m = k
          · exact h3
          · have hml : m < M.length := (List.getElem?_eq_some_iff.1 hm).1
            have hc := List.all_eq_true.1 hchain m (List.mem_range.2 hml)
            have hp1 : M[m - 1]? = some (M[m - 1]'(by omega)) := List.getElem?_eq_getElem (by omega)
            rw [hm, hp1] at hc
            simp only [hoj, Bool.or_eq_true, beq_iff_eq] at hc
            rcases hc with hc | hc
            · omega
            · rw [Array.any_eq_true'] at hc
              obtain ⟨e, he, hb⟩ := hc
              simp only [Bool.and_eq_true, beq_iff_eq] at hb
              have h4 := getD_tt (hall e he hb.1)
              rw [hb.2] at h4
              have := (hI.on (m - 1) _ hp1).1 h4
              omega
        subst hmk
        have hI' : InvW md ops M (listed.setIfInBounds j true) (m + 1) := by
          refine ⟨hk, fun q i hq => ?_, fun e i hi => ?_, hcl⟩
          · rw [getD_set_tt]
            by_cases hij : i = j
            · subst hij
              rw [if_pos rfl]
              have hqm : q = m := ((List.getElem?_inj (List.getElem?_eq_some_iff.1 hq).1 hnd).1 (hq.trans hm.symm))
              simp [hqm]
            · rw [if_neg hij]
              have h5 : q ≠ m := fun e => hij (by rw [e, hm] at hq; exact (Option.some.inj hq).symm)
              exact (hI.on q i hq).trans (by omega)
          · rw [getD_set_tt]
            by_cases hij : i = j
            · rw [if_pos hij]
            · rw [if_neg hij]
              have hl : M[M.length - 1]? = some j := by rw [show M.length - 1 = m by omega]; exact hm
              rw [hl] at hlast
              simp only [hoj] at hlast
              have h6 := List.all_eq_true.1 hlast i (List.mem_range.2 hi)
              simp only [Bool.or_eq_true, beq_iff_eq] at h6
              rcases h6 with h6 | h6
              · exact absurd h6 hij
              · rw [Array.any_eq_true'] at h6
                obtain ⟨e', he, hb⟩ := h6
                simp only [Bool.and_eq_true, Bool.or_eq_true, beq_iff_eq] at hb
                have h4 := hall e' he hb.1
                rcases hb.2 with hb2 | hb2
                · rw [hb2] at h4; exact getD_tt h4
                · cases hp2 : ops[e'.on]? with
                  | none => rw [hp2] at hb2; cases hb2
                  | some p2 =>
                    rw [hp2] at hb2
                    simp only [Array.any_eq_true', Bool.and_eq_true, beq_iff_eq] at hb2
                    obtain ⟨e2, he2, hb3⟩ := hb2
                    have h7 := hI.cl _ p2 hp2 h4 e2 he2 hb3.1
                    rw [hb3.2] at h7; exact getD_tt h7
        simp only [hw, if_true]
        refine .inl ?_
        unfold Oper.wp
        rcases hrun with hrun | ⟨hd, hrun⟩
        · rw [hrun]
          exact ih _ _ hp (m + 1) hI'
        · rw [hrun]
          rw [hd] at hp
          show wpAny P md ops Q fuel (listed.setIfInBounds j true) (a.put o.dst undef) (W (m + 1))
          rw [hd]
          exact ih _ _ hp (m + 1) hI'
/-- The walk over what is left of the text, from operation i on. -/
def TextW (P : Program) (ops : Array Oper) (Q : Exit → Act → World → Prop) (S : World → Prop) (M : List Nat) (W : Nat → World) : List Oper → Nat → Act → Prop
  | [], _, a => Q .normal a (W M.length)
  | o :: rest, i, a => ∃ v, StepW P ops S M W i o v a ∧ TextW P ops Q S M W rest (i + 1) (a.put o.dst v)
theorem textW_plan (ht : textOk md ops = true) (hMs : ∀ i ∈ M, i < ops.size) : ∀ (rest : List Oper) (i : Nat) (a : Act), i + rest.length = ops.size → ops.toList.drop i = rest → TextW P ops Q S M W rest i a →
    PlanW P md ops Q S M W rest.length ((List.replicate i true ++ List.replicate rest.length false).toArray) a
  | [], i, a, hl, _, h => by
    have hz : i = ops.size := by simpa using hl
    refine PlanW.done ?_ (fun q hq => ?_) h
    · rw [List.eq_nil_iff_forall_not_mem]
      intro j hj
      obtain ⟨h0, o, ho, _⟩ := mem_ready.1 hj
      have hlt := (Array.getElem?_eq_some_iff.1 ho).1
      have : j < i := by omega
      simp [this] at h0
    · have := hMs q hq
      have : q < i := by omega
      simp [this]
  | o :: rest, i, a, hl, hd, h => by
    obtain ⟨v, h1, h2⟩ := h
    have hlen : (o :: rest).length = rest.length + 1 := rfl
    have hi : i < ops.size := by rw [hlen] at hl; omega
    have ho : ops[i]? = some o := by
      have : (ops.toList.drop i)[0]? = some o := by rw [hd]; rfl
      rw [List.getElem?_drop] at this
      simpa using this
    have hk := List.all_eq_true.1 ht i (List.mem_range.2 hi)
    rw [Bool.and_eq_true] at hk
    have hs : ops.size - i = rest.length + 1 := by rw [hlen] at hl; omega
    rw [hs] at hk
    refine PlanW.take i o v ho hk.1 (by simpa using hk.2) h1 ?_
    have hd2 : ops.toList.drop (i + 1) = rest := by rw [← List.drop_drop, hd]; rfl
    have ih := textW_plan ht hMs rest (i + 1) (a.put o.dst v) (by rw [hlen] at hl; omega) hd2 h2
    have e : (List.replicate i true ++ List.replicate (rest.length + 1) false).toArray.setIfInBounds i true = (List.replicate (i + 1) true ++ List.replicate rest.length false).toArray := by
      rw [List.setIfInBounds_toArray, List.set_append_right _ _ (by simp), List.length_replicate, Nat.sub_self, List.replicate_succ, List.set_cons_zero]
      congr 1
      rw [List.replicate_succ', List.append_assoc]
      rfl
    rw [hlen, e]
    exact ih
/-- The region: W's worlds, from the one behind the draw on, one behind each that writes. -/
theorem textW_region (M : List Nat) (W : Nat → World) (S : World → Prop) {id : Nat} {a : Act} {w : World} (hm : P.follows .mixedOrders = true) (hs : Region.noSelect ops = true) (ht : textOk .any ops = true) (hM : mutOk .any ops M = true) (hMs : (M.all fun i => decide (i < ops.size)) = true) (h0 : W 0 = w.drew) (hS : ∀ k, k < M.length → S (W k)) (h : TextW P ops Q S M W ops.toList 0 a) : (Code.region id ops true).wp P Q a w := by
  refine wp_region_any hm ?_
  have hMs' : ∀ i ∈ M, i < ops.size := fun i hi => by simpa using List.all_eq_true.1 hMs i hi
  have hpos : 0 < M.length := by
    unfold mutOk at hM
    simp only [Bool.and_eq_true, decide_eq_true_eq] at hM
    exact hM.1.1.1
  have hI : InvW .any ops M ((List.replicate 0 true ++ List.replicate ops.toList.length false).toArray) 0 := by
    refine ⟨Nat.zero_le _, fun m i hmi => ?_, fun e => by omega, fun p o hp hl => by
      exfalso
      have hlt := (Array.getElem?_eq_some_iff.1 hp).1
      simp [hlt] at hl⟩
    have := hMs' i (List.mem_of_getElem? hmi)
    simp [this]
  have := planW_any hs hM hS _ _ _ (textW_plan (md := .any) ht hMs' ops.toList 0 a (by simp) (by simp) h) 0 hI
  rw [h0] at this
  simpa using this
theorem textW_val {o : Oper} {rest : List Oper} {i : Nat} {a : Act} {v : Value} (hi : i ∉ M) (hw : Region.wanted o (yielded ops a.tmps) = true) (h : ∀ w, S w → (execOp a.eval o).run P w = .ok (.value v) w) (k : TextW P ops Q S M W rest (i + 1) (a.put o.dst v)) : TextW P ops Q S M W (o :: rest) i a :=
  ⟨v, .inl ⟨hi, .inl ⟨hw, h⟩⟩, k⟩
theorem textW_skip {o : Oper} {rest : List Oper} {i : Nat} {a : Act} (hi : i ∉ M) (hw : Region.wanted o (yielded ops a.tmps) = false) (k : TextW P ops Q S M W rest (i + 1) (a.put o.dst undef)) : TextW P ops Q S M W (o :: rest) i a :=
  ⟨undef, .inl ⟨hi, .inr ⟨hw, rfl⟩⟩, k⟩
theorem textW_mut {o : Oper} {rest : List Oper} {i : Nat} {a : Act} {v : Value} (m : Nat) (hi : M[m]? = some i) (hw : Region.wanted o (yielded ops a.tmps) = true) (h : (execOp a.eval o).run P (W m) = .ok (.value v) (W (m + 1))) (k : TextW P ops Q S M W rest (i + 1) (a.put o.dst v)) : TextW P ops Q S M W (o :: rest) i a :=
  ⟨v, .inr ⟨m, hi, hw, .inl h⟩, k⟩
theorem textW_store {o : Oper} {rest : List Oper} {i : Nat} {a : Act} (m : Nat) (hi : M[m]? = some i) (hw : Region.wanted o (yielded ops a.tmps) = true) (hd : o.dst = none) (h : (execOp a.eval o).run P (W m) = .ok .skip (W (m + 1))) (k : TextW P ops Q S M W rest (i + 1) a) : TextW P ops Q S M W (o :: rest) i a :=
  ⟨undef, .inr ⟨m, hi, hw, .inr ⟨hd, h⟩⟩, by rw [hd]; exact k⟩
/-- Four worlds, one behind the other. -/
def Ws4 (a b c d : World) : Nat → World
  | 0 => a
  | 1 => b
  | 2 => c
  | _ => d
theorem ws4_all {S : World → Prop} {a b c d : World} (h0 : S a) (h1 : S b) (h2 : S c) : ∀ k, k < 3 → S (Ws4 a b c d k)
  | 0, _ => h0
  | 1, _ => h1
  | 2, _ => h2
  | k + 3, h => by omega
def Ws2 (a b : World) : Nat → World
  | 0 => a
  | _ => b
theorem ws2_all {S : World → Prop} {a b : World} (h0 : S a) : ∀ k, k < 1 → S (Ws2 a b k)
  | 0, _ => h0
  | k + 1, h => by omega
theorem exec_append {o : Oper} {ev : Operand → Value} {w w' : World} {v y r : Value} (s x : Operand) (t u : TypeId) (ho : o.op = .call { callee := .builtin .append, args := #[s, x], argTypes := #[t, u] }) (hs : ev s = v) (hx : ev x = y)
    (hr : (Builtin.append_ #[t, u] o.type #[v, y]).run P w = .ok r w') : (execOp ev o).run P w = .ok (.value r) w' := by
  unfold execOp
  simp only [ho, resolve, invoke, builtin, Sem.run_bind, Sem.run_pure, Result.andThen_ok, List.map_toArray, List.map_cons, List.map_nil, hs, hx, hr]
theorem textW_done {i : Nat} {a : Act} (k : Q .normal a (W M.length)) : TextW P ops Q S M W [] i a := k
end
end Go.Proofs.Ytckmciafonnohaa

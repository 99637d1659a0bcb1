/- The document's Right of near ones. -/
import Derived.Test.YtllfecgaadfkoaaTkRow
import Derived.RegionTactic
import Derived.BigRegion
import Derived.Test.YtllfecgaadfkoaaText
import Derived.IntWalk
namespace Go.Proofs.Ytllfecgaadfkoaa
open Go.RowKit TkPlain
set_option linter.unusedVariables false
set_option linter.unusedSimpArgs false
set_option maxRecDepth 20000
/-- A slice of the first ones. -/
theorem first_run (b o n c i : Nat) (h1 : i ≤ n) (h2 : n ≤ c) (w : World) :
    (Instr.slice 22 (.slice (some ⟨b, o, none⟩) n c) none (some (.int .i64 (i : Int))) none).run Try.prog w = .ok (.slice (some ⟨b, o, none⟩) i c) w := by
  have h3 : (i : Int) ≤ (c : Int) := by omega
  simp [Instr.slice, Instr.sliceBounds, run_underlying Try.underlying22, go_sem, sliced, h3, show Try.prog.cellsOf 26 = 3 by kernel_rfl]
theorem nrRow_take {w : World} {b o : Nat} {l : List Nr} (h : NrRow w b o l) (j : Nat) : NrRow w b o (l.take j) := ⟨h.1, fun i x hx => by
  rw [List.getElem?_take] at hx
  split at hx
  · exact h.2 i x hx
  · cases hx⟩
/-- So far it is right. -/
def RtAt (l : List Nr) (w : World) (i : Value) (wr : World) : Prop := ∃ j : Nat, j ≤ l.length ∧ i = .int .i64 (j : Int) ∧ ((∀ x ∈ l.take j, oneN x = true) ∧ Rise (l.take j) ∧ Unlike (l.take j)) ∧ Below w.heap.size w wr
theorem right_len {l : List Nr} {k : Int} (h : ¬ ((1 ≤ k ∧ k ≤ 64) ∧ (l.length : Int) ≤ k)) : rightN l k = false := by
  cases hr : rightN l k
  · rfl
  · have := right_iff.1 hr
    exact absurd ⟨this.1, this.2.1⟩ h
theorem right_one {l : List Nr} {k : Int} {x : Nr} (hx : x ∈ l) (h : oneN x = false) : rightN l k = false := by
  cases hr : rightN l k
  · rfl
  · have := (right_iff.1 hr).2.2.1 x hx
    rw [h] at this; cases this
theorem right_less {l : List Nr} {k : Int} {j : Nat} {x y : Nr} (hx : l[j]? = some x) (hy : l[j + 1]? = some y) (h : lessN x y = false) : rightN l k = false := by
  cases hr : rightN l k
  · rfl
  · have h2 := (right_iff.1 hr).2.2.2.1
    obtain ⟨h3, rfl⟩ := List.getElem?_eq_some_iff.1 hx
    obtain ⟨h4, rfl⟩ := List.getElem?_eq_some_iff.1 hy
    have := List.pairwise_iff_getElem.1 h2 j (j + 1) h3 h4 (by omega)
    rw [h] at this; cases this
theorem right_has {l : List Nr} {k : Int} {j : Nat} {x : Nr} (hx : l[j]? = some x) (h : hasN (l.take j) x.id = true) : rightN l k = false := by
  cases hr : rightN l k
  · rfl
  · have h2 := (right_iff.1 hr).2.2.2.2
    obtain ⟨y, hy, e⟩ := hasN_iff.1 h
    obtain ⟨h3, rfl⟩ := List.getElem?_eq_some_iff.1 hx
    obtain ⟨i, hi⟩ := List.getElem?_of_mem hy
    obtain ⟨hil, hiy⟩ := List.getElem?_eq_some_iff.1 hi
    rw [List.length_take] at hil
    rw [List.getElem_take] at hiy
    have := List.pairwise_iff_getElem.1 h2 i j (by omega) h3 (by omega)
    rw [hiy] at this
    exact absurd e this
/-- One place on. -/
theorem right_step {l : List Nr} {j : Nat} {x : Nr} (hs : l.take (j + 1) = l.take j ++ [x]) (h : (∀ y ∈ l.take j, oneN y = true) ∧ Rise (l.take j) ∧ Unlike (l.take j)) (h1 : oneN x = true) (h2 : ∀ y ∈ l.take j, lessN y x = true) (h3 : hasN (l.take j) x.id = false) :
    (∀ y ∈ l.take (j + 1), oneN y = true) ∧ Rise (l.take (j + 1)) ∧ Unlike (l.take (j + 1)) := by
  rw [hs]
  refine ⟨fun y hy => ?_, List.pairwise_append.2 ⟨h.2.1, by simp, fun a ha b hb => ?_⟩, List.pairwise_append.2 ⟨h.2.2, by simp, fun a ha b hb => ?_⟩⟩
  · rcases List.mem_append.1 hy with hy | hy
    · exact h.1 y hy
    · simp at hy; subst hy; exact h1
  · simp at hb; subst hb; exact h2 a ha
  · simp at hb; subst hb
    intro e
    have := hasN_iff.2 ⟨a, ha, e⟩
    rw [h3] at this; cases this
theorem less_all {l : List Nr} {j : Nat} {x z : Nr} (hz : l[j]? = some z) (hr : Rise (l.take (j + 1))) (h : lessN z x = true) : ∀ y ∈ l.take (j + 1), lessN y x = true := by
  intro y hy
  obtain ⟨h3, rfl⟩ := List.getElem?_eq_some_iff.1 hz
  rw [List.take_succ_eq_append_getElem h3] at hy hr
  rcases List.mem_append.1 hy with hy | hy
  · exact less_trans ((List.pairwise_append.1 hr).2.2 y hy _ (by simp)) h
  · simp at hy; subst hy; exact h
set_option maxHeartbeats 4000000 in
theorem rright12_c {w : World} {v : Value} {l : List Nr} (h : LiesN w v l) (hl : l.length ≤ 1000000) (k : Int) (hk : I64 k) :
    Calls Try.prog 8 #[v, .int .i64 k] w fun e w' => e = .returned (.bool (rightN l k)) ∧ Gr w w' := by
  obtain ⟨a, c, rfl, hc, h⟩ := h
  have H0 : 1 ≤ l.length → ∃ b o, a = some ⟨b, o, none⟩ ∧ NrRow w b o l := fun h1 => h.elim (fun h0 => by rw [h0] at h1; simp at h1) (fun k => k)
  have H := Lib.hid H0
  clear h H0
  by_cases t1 : k < 1
  · have HX := Lib.hid (right_len (l := l) (k := k) (by omega))
    go_enter Try.func8, Try.ntmps8
    go_wp2_with fail
    go_ret
    exact ⟨retbT HX.out.symm, Gr.refl _⟩
  · by_cases t2 : 64 < k
    · have HX := Lib.hid (right_len (l := l) (k := k) (by omega))
      go_enter Try.func8, Try.ntmps8
      go_wp2_with fail
      go_ret
      exact ⟨retbT HX.out.symm, Gr.refl _⟩
    · by_cases t3 : k < l.length
      · have HX := Lib.hid (right_len (l := l) (k := k) (by omega))
        go_enter Try.func8, Try.ntmps8
        go_wp2_with fail
        go_ret
        exact ⟨retbT HX.out.symm, Gr.refl _⟩
      · go_enter Try.func8, Try.ntmps8
        go_wp2_with fail
        go_loopw [5] (fun i wr => RtAt l w i wr) (fun i _ => l.length - (intOf i).toNat)
        case atStart => exact ⟨0, Nat.zero_le _, rfl, ⟨by simp, by simp, by simp⟩, Below.refl _ _⟩
        case round =>
          obtain ⟨j, hj, rfl, hall, hbel⟩ := hrel
          have hsz := hbel.size
          by_cases hlt : j < l.length
          · obtain ⟨x, hx, hstep, hmem⟩ := take_onT hlt
            obtain ⟨b, o, rfl, hv⟩ := H.out (by omega)
            have hvr := hv.gr (Gr.of hbel)
            have hA := hvr.2 j x hx
            have HV := Lib.hid hvr
            have gd : Gr wr wr.drew := Below.drew (Gr.refl wr)
            have S : ∀ u, Gr wr u → Gr wr u ∧ u.cell? ⟨b, o + j * 3, none⟩ = some (.int .i64 x.d) ∧ u.cell? ⟨b, o + j * 3 + 1, none⟩ = some (.int .i64 x.id) ∧ u.cell? ⟨b, o + j * 3 + 2, none⟩ = some (.bool x.nw) := fun u gu => ⟨gu, hA.gr hvr.1 gu⟩
            have SH := Lib.hid S
            have O0 : ∀ u, Gr wr u → Calls Try.prog 5 #[.agg #[.int .i64 x.d, .int .i64 x.id, .bool x.nw]] u fun e w' => e = .returned (.bool (oneN x)) ∧ Gr wr w' := by
              intro u gu
              refine (rone_c x u).mono ?_
              rintro e w' ⟨rfl, g⟩
              exact ⟨rfl, gu.trans g⟩
            have hsl := first_run b o l.length c j (by omega) hc
            have htl : (l.take j).length = j := by rw [List.length_take]; omega
            have N0 : ∀ u, Gr wr u → Calls Try.prog 6 #[.slice (some ⟨b, o, none⟩) j c, .int .i64 x.id] u fun e w' => e = .returned (.bool (hasN (l.take j) x.id)) ∧ Gr wr w' := by
              intro u gu
              have hL : LiesN u (.slice (some ⟨b, o, none⟩) j c) (l.take j) := ⟨_, c, by rw [htl], by rw [htl]; omega, .inr ⟨b, o, rfl, nrRow_take (hvr.gr gu) j⟩⟩
              refine (rhas12_c hL (by omega) x.id).mono ?_
              rintro e w' ⟨rfl, rfl⟩
              exact ⟨rfl, gu⟩
            cases h1 : oneN x
            · have HX := Lib.hid (right_one (k := k) hmem h1)
              rw [h1] at O0
              have O := Lib.hid O0
              clear hx hstep hmem hv hvr h1 hall S O0 N0 hA htl
              go_wp2_with fail
              refine text_region (S := fun u => Gr wr u ∧ u.cell? ⟨b, o + j * 3, none⟩ = some (.int .i64 x.d) ∧ u.cell? ⟨b, o + j * 3 + 1, none⟩ = some (.int .i64 x.id) ∧ u.cell? ⟨b, o + j * 3 + 2, none⟩ = some (.bool x.nw)) (by kernel_rfl) (by kernel_rfl) (by kernel_rfl) (SH.out _ gd) ?_
              repeat (first
                | (refine text_skip (by rfl) ?_; (try simp only [Act.put, List.setIfInBounds_toArray, List.set_cons_zero, List.set_cons_succ]))
                | (refine text_val (v := ?_) (by rfl) ?_ ?_; rotate_left 1; (· intro u hu; (try dsimp only at hu); go_simp <;> with_reducible rfl); (try simp only [Act.put, List.setIfInBounds_toArray, List.set_cons_zero, List.set_cons_succ]))
                | (refine text_call (fun u hu => ((O.out u hu.1).mono (fun e w' h => ⟨h.1, SH.out w' h.2⟩))) (by rfl) ?_ ?_; (· intro u; go_simp); (try simp only [Act.put, List.setIfInBounds_toArray, List.set_cons_zero, List.set_cons_succ])))
              refine text_done (fun u hu => ?_)
              have gu := hu.1
              clear hu
              go_wp2_with fail
              go_ret
              exact ⟨retbT HX.out.symm, Gr.of (Below.trans hbel (gu.mono hsz))⟩
            · rw [h1] at O0
              have O := Lib.hid O0
              clear O0
              by_cases h0 : j = 0
              · have hh : hasN (l.take j) x.id = false := by rw [h0]; rfl
                rw [hh] at N0
                have N := Lib.hid N0
                have HX := Lib.hid (right_step hstep hall h1 (by rw [h0]; simp) hh)
                have d1 : decide (0 < j) = false := by rw [decide_eq_false_iff_not]; omega
                clear hx hstep hmem hv hvr h1 hall S N0 hA htl hh h0
                go_wp2_with fail
                refine text_region (S := fun u => Gr wr u ∧ u.cell? ⟨b, o + j * 3, none⟩ = some (.int .i64 x.d) ∧ u.cell? ⟨b, o + j * 3 + 1, none⟩ = some (.int .i64 x.id) ∧ u.cell? ⟨b, o + j * 3 + 2, none⟩ = some (.bool x.nw)) (by kernel_rfl) (by kernel_rfl) (by kernel_rfl) (SH.out _ gd) ?_
                repeat (first
                  | (refine text_skip (by rfl) ?_; (try simp only [Act.put, List.setIfInBounds_toArray, List.set_cons_zero, List.set_cons_succ]))
                  | (refine text_val (v := ?_) (by rfl) ?_ ?_; rotate_left 1; (· intro u hu; (try dsimp only at hu); go_simp <;> with_reducible rfl); (try simp only [Act.put, List.setIfInBounds_toArray, List.set_cons_zero, List.set_cons_succ]))
                  | (refine text_call (fun u hu => ((O.out u hu.1).mono (fun e w' h => ⟨h.1, SH.out w' h.2⟩))) (by rfl) ?_ ?_; (· intro u; go_simp); (try simp only [Act.put, List.setIfInBounds_toArray, List.set_cons_zero, List.set_cons_succ]))
                  | (refine text_call (fun u hu => ((N.out u hu.1).mono (fun e w' h => ⟨h.1, SH.out w' h.2⟩))) (by rfl) ?_ ?_; (· intro u; go_simp); (try simp only [Act.put, List.setIfInBounds_toArray, List.set_cons_zero, List.set_cons_succ])))
                refine text_done (fun u hu => ?_)
                have gu := hu.1
                clear hu
                go_wp2_with fail
                refine ⟨⟨j + 1, by omega, rfl, HX.out, Below.trans hbel (gu.mono hsz)⟩, ?_⟩
                simp [intOf]; omega
              · obtain ⟨i, hi⟩ : ∃ i, j = i + 1 := ⟨j - 1, by omega⟩
                obtain ⟨z, hz, _, _⟩ := take_onT (l := l) (j := i) (by omega)
                have hA2 := hvr.2 i z hz
                have S2 : ∀ u, Gr wr u → Gr wr u ∧ (u.cell? ⟨b, o + j * 3, none⟩ = some (.int .i64 x.d) ∧ u.cell? ⟨b, o + j * 3 + 1, none⟩ = some (.int .i64 x.id) ∧ u.cell? ⟨b, o + j * 3 + 2, none⟩ = some (.bool x.nw)) ∧ u.cell? ⟨b, o + i * 3, none⟩ = some (.int .i64 z.d) ∧ u.cell? ⟨b, o + i * 3 + 1, none⟩ = some (.int .i64 z.id) ∧ u.cell? ⟨b, o + i * 3 + 2, none⟩ = some (.bool z.nw) := fun u gu => ⟨gu, hA.gr hvr.1 gu, hA2.gr hvr.1 gu⟩
                have SH2 := Lib.hid S2
                have L0 : ∀ u, Gr wr u → Calls Try.prog 9 #[.agg #[.int .i64 z.d, .int .i64 z.id, .bool z.nw], .agg #[.int .i64 x.d, .int .i64 x.id, .bool x.nw]] u fun e w' => e = .returned (.bool (lessN z x)) ∧ Gr wr w' := by
                  intro u gu
                  refine (rless_c z x u).mono ?_
                  rintro e w' ⟨rfl, g⟩
                  exact ⟨rfl, gu.trans g⟩
                have d1 : decide (0 < j) = true := by rw [decide_eq_true_iff]; omega
                have d2 : (j : Int) - 1 = (i : Int) := by omega
                have d3 : i < l.length := by omega
                have d4 : IntKind.i64.wrap (i : Int) = (i : Int) := IntWalk.i64_in _ (by omega)
                cases h2 : lessN z x
                · rw [h2] at L0
                  have L := Lib.hid L0
                  have HX := Lib.hid (right_less (k := k) hz (by rw [← hi]; exact hx) h2)
                  clear hx hstep hmem hv hvr h1 hall S N0 hA htl h0 hA2 S2 L0 h2 hz hi
                  go_wp2_with fail
                  refine text_region (S := fun u => Gr wr u ∧ (u.cell? ⟨b, o + j * 3, none⟩ = some (.int .i64 x.d) ∧ u.cell? ⟨b, o + j * 3 + 1, none⟩ = some (.int .i64 x.id) ∧ u.cell? ⟨b, o + j * 3 + 2, none⟩ = some (.bool x.nw)) ∧ u.cell? ⟨b, o + i * 3, none⟩ = some (.int .i64 z.d) ∧ u.cell? ⟨b, o + i * 3 + 1, none⟩ = some (.int .i64 z.id) ∧ u.cell? ⟨b, o + i * 3 + 2, none⟩ = some (.bool z.nw)) (by kernel_rfl) (by kernel_rfl) (by kernel_rfl) (SH2.out _ gd) ?_
                  repeat (first
                    | (refine text_skip (by rfl) ?_; (try simp only [Act.put, List.setIfInBounds_toArray, List.set_cons_zero, List.set_cons_succ]))
                    | (refine text_val (v := ?_) (by rfl) ?_ ?_; rotate_left 1; (· intro u hu; (try dsimp only at hu); go_simp <;> with_reducible rfl); (try simp only [Act.put, List.setIfInBounds_toArray, List.set_cons_zero, List.set_cons_succ]))
                    | (refine text_call (fun u hu => ((O.out u hu.1).mono (fun e w' h => ⟨h.1, SH2.out w' h.2⟩))) (by rfl) ?_ ?_; (· intro u; go_simp); (try simp only [Act.put, List.setIfInBounds_toArray, List.set_cons_zero, List.set_cons_succ]))
                    | (refine text_call (fun u hu => ((L.out u hu.1).mono (fun e w' h => ⟨h.1, SH2.out w' h.2⟩))) (by rfl) ?_ ?_; (· intro u; go_simp); (try simp only [Act.put, List.setIfInBounds_toArray, List.set_cons_zero, List.set_cons_succ])))
                  refine text_done (fun u hu => ?_)
                  have gu := hu.1
                  clear hu
                  go_wp2_with fail
                  go_ret
                  exact ⟨retbT HX.out.symm, Gr.of (Below.trans hbel (gu.mono hsz))⟩
                · rw [h2] at L0
                  have L := Lib.hid L0
                  cases h3 : hasN (l.take j) x.id
                  · rw [h3] at N0
                    have N := Lib.hid N0
                    have HX := Lib.hid (right_step hstep hall h1 (by rw [hi] at hall ⊢; exact less_all hz hall.2.1 h2) h3)
                    clear hx hstep hmem hv hvr h1 hall S N0 hA htl h0 hA2 S2 L0 h2 hz hi h3
                    go_wp2_with fail
                    refine text_region (S := fun u => Gr wr u ∧ (u.cell? ⟨b, o + j * 3, none⟩ = some (.int .i64 x.d) ∧ u.cell? ⟨b, o + j * 3 + 1, none⟩ = some (.int .i64 x.id) ∧ u.cell? ⟨b, o + j * 3 + 2, none⟩ = some (.bool x.nw)) ∧ u.cell? ⟨b, o + i * 3, none⟩ = some (.int .i64 z.d) ∧ u.cell? ⟨b, o + i * 3 + 1, none⟩ = some (.int .i64 z.id) ∧ u.cell? ⟨b, o + i * 3 + 2, none⟩ = some (.bool z.nw)) (by kernel_rfl) (by kernel_rfl) (by kernel_rfl) (SH2.out _ gd) ?_
                    repeat (first
                      | (refine text_skip (by rfl) ?_; (try simp only [Act.put, List.setIfInBounds_toArray, List.set_cons_zero, List.set_cons_succ]))
                      | (refine text_val (v := ?_) (by rfl) ?_ ?_; rotate_left 1; (· intro u hu; (try dsimp only at hu); go_simp <;> with_reducible rfl); (try simp only [Act.put, List.setIfInBounds_toArray, List.set_cons_zero, List.set_cons_succ]))
                      | (refine text_call (fun u hu => ((O.out u hu.1).mono (fun e w' h => ⟨h.1, SH2.out w' h.2⟩))) (by rfl) ?_ ?_; (· intro u; go_simp); (try simp only [Act.put, List.setIfInBounds_toArray, List.set_cons_zero, List.set_cons_succ]))
                      | (refine text_call (fun u hu => ((L.out u hu.1).mono (fun e w' h => ⟨h.1, SH2.out w' h.2⟩))) (by rfl) ?_ ?_; (· intro u; go_simp); (try simp only [Act.put, List.setIfInBounds_toArray, List.set_cons_zero, List.set_cons_succ]))
                      | (refine text_call (fun u hu => ((N.out u hu.1).mono (fun e w' h => ⟨h.1, SH2.out w' h.2⟩))) (by rfl) ?_ ?_; (· intro u; go_simp); (try simp only [Act.put, List.setIfInBounds_toArray, List.set_cons_zero, List.set_cons_succ])))
                    refine text_done (fun u hu => ?_)
                    have gu := hu.1
                    clear hu
                    go_wp2_with fail
                    refine ⟨⟨j + 1, by omega, rfl, HX.out, Below.trans hbel (gu.mono hsz)⟩, ?_⟩
                    simp [intOf]; omega
                  · rw [h3] at N0
                    have N := Lib.hid N0
                    have HX := Lib.hid (right_has (k := k) hx h3)
                    clear hx hstep hmem hv hvr h1 hall S N0 hA htl h0 hA2 S2 L0 h2 hz hi h3
                    go_wp2_with fail
                    refine text_region (S := fun u => Gr wr u ∧ (u.cell? ⟨b, o + j * 3, none⟩ = some (.int .i64 x.d) ∧ u.cell? ⟨b, o + j * 3 + 1, none⟩ = some (.int .i64 x.id) ∧ u.cell? ⟨b, o + j * 3 + 2, none⟩ = some (.bool x.nw)) ∧ u.cell? ⟨b, o + i * 3, none⟩ = some (.int .i64 z.d) ∧ u.cell? ⟨b, o + i * 3 + 1, none⟩ = some (.int .i64 z.id) ∧ u.cell? ⟨b, o + i * 3 + 2, none⟩ = some (.bool z.nw)) (by kernel_rfl) (by kernel_rfl) (by kernel_rfl) (SH2.out _ gd) ?_
                    repeat (first
                      | (refine text_skip (by rfl) ?_; (try simp only [Act.put, List.setIfInBounds_toArray, List.set_cons_zero, List.set_cons_succ]))
                      | (refine text_val (v := ?_) (by rfl) ?_ ?_; rotate_left 1; (· intro u hu; (try dsimp only at hu); go_simp <;> with_reducible rfl); (try simp only [Act.put, List.setIfInBounds_toArray, List.set_cons_zero, List.set_cons_succ]))
                      | (refine text_call (fun u hu => ((O.out u hu.1).mono (fun e w' h => ⟨h.1, SH2.out w' h.2⟩))) (by rfl) ?_ ?_; (· intro u; go_simp); (try simp only [Act.put, List.setIfInBounds_toArray, List.set_cons_zero, List.set_cons_succ]))
                      | (refine text_call (fun u hu => ((L.out u hu.1).mono (fun e w' h => ⟨h.1, SH2.out w' h.2⟩))) (by rfl) ?_ ?_; (· intro u; go_simp); (try simp only [Act.put, List.setIfInBounds_toArray, List.set_cons_zero, List.set_cons_succ]))
                      | (refine text_call (fun u hu => ((N.out u hu.1).mono (fun e w' h => ⟨h.1, SH2.out w' h.2⟩))) (by rfl) ?_ ?_; (· intro u; go_simp); (try simp only [Act.put, List.setIfInBounds_toArray, List.set_cons_zero, List.set_cons_succ])))
                    refine text_done (fun u hu => ?_)
                    have gu := hu.1
                    clear hu
                    go_wp2_with fail
                    go_ret
                    exact ⟨retbT HX.out.symm, Gr.of (Below.trans hbel (gu.mono hsz))⟩
          · obtain rfl : j = l.length := by omega
            have HX : RowKit.Hid (rightN l k = true) := by
              refine Lib.hid (right_iff.2 ?_)
              rw [List.take_length] at hall
              exact ⟨by omega, by omega, hall.1, hall.2.1, hall.2.2⟩
            clear hall
            go_wp2_with fail
            go_ret
            exact ⟨retbT HX.out.symm, Gr.of hbel⟩
end Go.Proofs.Ytllfecgaadfkoaa

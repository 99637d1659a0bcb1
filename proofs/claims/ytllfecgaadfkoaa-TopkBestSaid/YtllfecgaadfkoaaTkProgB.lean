/- The program's follows and Right of near ones. -/
import Derived.Test.YtllfecgaadfkoaaTkProgA
namespace Go.Proofs.Ytllfecgaadfkoaa
open Go.RowKit TkPlain
set_option linter.unusedVariables false
set_option linter.unusedSimpArgs false
set_option maxRecDepth 20000
/-- The one at j is a near one, the one ahead of it is nearer, none ahead has its Id. -/
def folN (l : List Nr) (j : Nat) (x : Nr) : Bool := oneN x && (match j with | 0 => true | i + 1 => (match l[i]? with | some z => lessN z x | none => false)) && !hasN (l.take j) x.id
set_option maxHeartbeats 4000000 in
theorem follows_c {w : World} {v : Value} {l : List Nr} (h : LiesN w v l) (hl : l.length ≤ 1000) (j : Nat) (x : Nr) (hx : l[j]? = some x) :
    Calls Try.prog 20 #[v, .int .i64 j] w fun e w' => e = .returned (.bool (folN l j x)) ∧ Gr w w' := by
  have hlt := (List.getElem?_eq_some_iff.1 hx).1
  obtain ⟨a, c, rfl, hc, h⟩ := h
  rcases h with h0 | ⟨b, o, rfl, hv⟩
  · rw [h0] at hlt; simp at hlt
  obtain ⟨a1, a2, a3⟩ := hv.2 j x hx
  obtain ⟨Z, hZ⟩ : ∃ Z, Z = w.alloc (.cells #[.int .i64 x.d, .int .i64 x.id, .bool x.nw] 26) := ⟨_, rfl⟩
  have gZ : Gr w Z := by rw [hZ]; exact grT _ _
  have hvr := hv.gr gZ
  have hwr : w.heap.size < Z.heap.size := by rw [hZ, World.size_alloc]; omega
  have hA : NrAt Z w.heap.size 0 x := by
    refine ⟨?_, ?_, ?_⟩ <;> (rw [hZ, World.cell?_alloc_new]; rfl)
  have gd : Gr Z Z.drew := Below.drew (Gr.refl Z)
  have S1 : ∀ u, Gr Z u → Gr Z u ∧ (u.cell? ⟨w.heap.size, 0, none⟩ = some (.int .i64 x.d) ∧ u.cell? ⟨w.heap.size, 1, none⟩ = some (.int .i64 x.id) ∧ u.cell? ⟨w.heap.size, 2, none⟩ = some (.bool x.nw)) := fun u gu => ⟨gu, hA.gr hwr gu⟩
  have O0 : ∀ u, Gr Z u → Calls Try.prog 23 #[.agg #[.int .i64 x.d, .int .i64 x.id, .bool x.nw]] u fun e w' => e = .returned (.bool (oneN x)) ∧ Gr Z w' := by
    intro u gu
    refine (tnear_c x u).mono ?_
    rintro e w' ⟨rfl, g⟩
    exact ⟨rfl, gu.trans g⟩
  have hsl := first_run b o l.length c j (by omega) hc
  have htl : (l.take j).length = j := by rw [List.length_take]; omega
  have N0 : ∀ u, Gr Z u → Calls Try.prog 10 #[.slice (some ⟨b, o, none⟩) j c, .int .i64 x.id] u fun e w' => e = .returned (.bool (hasN (l.take j) x.id)) ∧ Gr Z w' := by
    intro u gu
    have hL : LiesN u (.slice (some ⟨b, o, none⟩) j c) (l.take j) := ⟨_, c, by rw [htl], by rw [htl]; omega, .inr ⟨b, o, rfl, nrRow_take (hvr.gr gu) j⟩⟩
    refine (thas_c hL (by omega) x.id).mono ?_
    rintro e w' ⟨rfl, g⟩
    exact ⟨rfl, gu.trans g⟩
  cases h1 : oneN x
  · have HX := Lib.hid (show folN l j x = false by unfold folN; rw [h1]; rfl)
    rw [h1] at O0
    have O := Lib.hid O0
    have SH := Lib.hid S1
    clear hx hv hvr h1 S1 O0 N0 hA htl hsl
    go_enter Try.func20, Try.ntmps20
    go_wp2_with fail
    rw [← hZ]
    refine text_region (S := fun u => Gr Z u ∧ (u.cell? ⟨w.heap.size, 0, none⟩ = some (.int .i64 x.d) ∧ u.cell? ⟨w.heap.size, 1, none⟩ = some (.int .i64 x.id) ∧ u.cell? ⟨w.heap.size, 2, none⟩ = some (.bool x.nw))) (by kernel_rfl) (by kernel_rfl) (by kernel_rfl) (SH.out _ gd) ?_
    repeat (first
        | (refine text_skip (by rfl) ?_; (try simp only [Act.put, List.setIfInBounds_toArray, List.set_cons_zero, List.set_cons_succ]))
        | (refine text_val (v := ?_) (by rfl) ?_ ?_; rotate_left 1; (· intro u hu; (try dsimp only at hu); go_simp <;> with_reducible rfl); (try simp only [Act.put, List.setIfInBounds_toArray, List.set_cons_zero, List.set_cons_succ]))
        | (refine text_call (fun u hu => ((O.out u hu.1).mono (fun e w' h => ⟨h.1, SH.out w' h.2⟩))) (by rfl) ?_ ?_; (· intro u; go_simp); (try simp only [Act.put, List.setIfInBounds_toArray, List.set_cons_zero, List.set_cons_succ])))
    refine text_done (fun u hu => ?_)
    have gu := hu.1
    clear hu
    go_wp2_with fail
    go_ret
    exact ⟨retbT HX.out.symm, gZ.trans gu⟩
  · rw [h1] at O0
    have O := Lib.hid O0
    clear O0
    by_cases h0 : j = 0
    · have hh : hasN (l.take j) x.id = false := by rw [h0]; rfl
      rw [hh] at N0
      have N := Lib.hid N0
      have SH := Lib.hid S1
      have HX := Lib.hid (show folN l j x = true by unfold folN; rw [h1, hh, h0]; rfl)
      have d1 : ((j : Int) == 0) = true := by simp [h0]
      clear hx hv hvr h1 S1 N0 hA htl hh h0
      go_enter Try.func20, Try.ntmps20
      go_wp2_with fail
      rw [← hZ]
      refine text_region (S := fun u => Gr Z u ∧ (u.cell? ⟨w.heap.size, 0, none⟩ = some (.int .i64 x.d) ∧ u.cell? ⟨w.heap.size, 1, none⟩ = some (.int .i64 x.id) ∧ u.cell? ⟨w.heap.size, 2, none⟩ = some (.bool x.nw))) (by kernel_rfl) (by kernel_rfl) (by kernel_rfl) (SH.out _ gd) ?_
      repeat (first
          | (refine text_skip (by rfl) ?_; (try simp only [Act.put, List.setIfInBounds_toArray, List.set_cons_zero, List.set_cons_succ]))
          | (refine text_val (v := ?_) (by rfl) ?_ ?_; rotate_left 1; (· intro u hu; (try dsimp only at hu); go_simp <;> with_reducible rfl); (try simp only [Act.put, List.setIfInBounds_toArray, List.set_cons_zero, List.set_cons_succ]))
          | (refine text_call (fun u hu => ((O.out u hu.1).mono (fun e w' h => ⟨h.1, SH.out w' h.2⟩))) (by rfl) ?_ ?_; (· intro u; go_simp); (try simp only [Act.put, List.setIfInBounds_toArray, List.set_cons_zero, List.set_cons_succ]))
          | (refine text_call (fun u hu => ((N.out u hu.1).mono (fun e w' h => ⟨h.1, SH.out w' h.2⟩))) (by rfl) ?_ ?_; (· intro u; go_simp); (try simp only [Act.put, List.setIfInBounds_toArray, List.set_cons_zero, List.set_cons_succ])))
      refine text_done (fun u hu => ?_)
      have gu := hu.1
      clear hu
      go_wp2_with fail
      go_ret
      exact ⟨retbT HX.out.symm, gZ.trans gu⟩
    · obtain ⟨i, hi⟩ : ∃ i, j = i + 1 := ⟨j - 1, by omega⟩
      obtain ⟨z, hz, _, _⟩ := take_onT (l := l) (j := i) (by omega)
      have hA2 := hvr.2 i z hz
      have S2 : ∀ u, Gr Z u → Gr Z u ∧ (u.cell? ⟨w.heap.size, 0, none⟩ = some (.int .i64 x.d) ∧ u.cell? ⟨w.heap.size, 1, none⟩ = some (.int .i64 x.id) ∧ u.cell? ⟨w.heap.size, 2, none⟩ = some (.bool x.nw)) ∧ (u.cell? ⟨b, o + i * 3, none⟩ = some (.int .i64 z.d) ∧ u.cell? ⟨b, o + i * 3 + 1, none⟩ = some (.int .i64 z.id) ∧ u.cell? ⟨b, o + i * 3 + 2, none⟩ = some (.bool z.nw)) := fun u gu => ⟨gu, hA.gr hwr gu, hA2.gr hvr.1 gu⟩
      have SH := Lib.hid S2
      have L0 : ∀ u, Gr Z u → Calls Try.prog 25 #[.agg #[.int .i64 z.d, .int .i64 z.id, .bool z.nw], .agg #[.int .i64 x.d, .int .i64 x.id, .bool x.nw]] u fun e w' => e = .returned (.bool (lessN z x)) ∧ Gr Z w' := by
        intro u gu
        refine (tless_c z x u).mono ?_
        rintro e w' ⟨rfl, g⟩
        exact ⟨rfl, gu.trans g⟩
      have d1 : ((j : Int) == 0) = false := beq_eq_false_iff_ne.2 (by omega)
      have d2 : (j : Int) - 1 = (i : Int) := by omega
      have d3 : i < l.length := by omega
      have d4 : IntKind.i64.wrap (i : Int) = (i : Int) := IntWalk.i64_in _ (by omega)
      have hf : folN l j x = (lessN z x && !hasN (l.take j) x.id) := by unfold folN; rw [h1, hi]; simp only [hz, Bool.true_and]
      cases h2 : lessN z x
      · rw [h2] at L0
        have L := Lib.hid L0
        have HX := Lib.hid (show folN l j x = false by rw [hf, h2]; rfl)
        clear hx hv hvr h1 S1 N0 hA htl h0 hA2 S2 L0 h2 hz hi hsl hf
        go_enter Try.func20, Try.ntmps20
        go_wp2_with fail
        rw [← hZ]
        refine text_region (S := fun u => Gr Z u ∧ (u.cell? ⟨w.heap.size, 0, none⟩ = some (.int .i64 x.d) ∧ u.cell? ⟨w.heap.size, 1, none⟩ = some (.int .i64 x.id) ∧ u.cell? ⟨w.heap.size, 2, none⟩ = some (.bool x.nw)) ∧ (u.cell? ⟨b, o + i * 3, none⟩ = some (.int .i64 z.d) ∧ u.cell? ⟨b, o + i * 3 + 1, none⟩ = some (.int .i64 z.id) ∧ u.cell? ⟨b, o + i * 3 + 2, none⟩ = some (.bool z.nw))) (by kernel_rfl) (by kernel_rfl) (by kernel_rfl) (SH.out _ gd) ?_
        repeat (first
            | (refine text_skip (by rfl) ?_; (try simp only [Act.put, List.setIfInBounds_toArray, List.set_cons_zero, List.set_cons_succ]))
            | (refine text_val (v := ?_) (by rfl) ?_ ?_; rotate_left 1; (· intro u hu; (try dsimp only at hu); go_simp <;> with_reducible rfl); (try simp only [Act.put, List.setIfInBounds_toArray, List.set_cons_zero, List.set_cons_succ]))
            | (refine text_call (fun u hu => ((O.out u hu.1).mono (fun e w' h => ⟨h.1, SH.out w' h.2⟩))) (by rfl) ?_ ?_; (· intro u; go_simp); (try simp only [Act.put, List.setIfInBounds_toArray, List.set_cons_zero, List.set_cons_succ]))
            | (refine text_call (fun u hu => ((L.out u hu.1).mono (fun e w' h => ⟨h.1, SH.out w' h.2⟩))) (by rfl) ?_ ?_; (· intro u; go_simp); (try simp only [Act.put, List.setIfInBounds_toArray, List.set_cons_zero, List.set_cons_succ])))
        refine text_done (fun u hu => ?_)
        have gu := hu.1
        clear hu
        go_wp2_with fail
        go_ret
        exact ⟨retbT HX.out.symm, gZ.trans gu⟩
      · rw [h2] at L0
        have L := Lib.hid L0
        cases h3 : hasN (l.take j) x.id
        · rw [h3] at N0
          have N := Lib.hid N0
          have HX := Lib.hid (show folN l j x = true by rw [hf, h2, h3]; rfl)
          clear hx hv hvr h1 S1 N0 hA htl h0 hA2 S2 L0 h2 hz hi h3 hf
          go_enter Try.func20, Try.ntmps20
          go_wp2_with fail
          rw [← hZ]
          refine text_region (S := fun u => Gr Z u ∧ (u.cell? ⟨w.heap.size, 0, none⟩ = some (.int .i64 x.d) ∧ u.cell? ⟨w.heap.size, 1, none⟩ = some (.int .i64 x.id) ∧ u.cell? ⟨w.heap.size, 2, none⟩ = some (.bool x.nw)) ∧ (u.cell? ⟨b, o + i * 3, none⟩ = some (.int .i64 z.d) ∧ u.cell? ⟨b, o + i * 3 + 1, none⟩ = some (.int .i64 z.id) ∧ u.cell? ⟨b, o + i * 3 + 2, none⟩ = some (.bool z.nw))) (by kernel_rfl) (by kernel_rfl) (by kernel_rfl) (SH.out _ gd) ?_
          repeat (first
              | (refine text_skip (by rfl) ?_; (try simp only [Act.put, List.setIfInBounds_toArray, List.set_cons_zero, List.set_cons_succ]))
              | (refine text_val (v := ?_) (by rfl) ?_ ?_; rotate_left 1; (· intro u hu; (try dsimp only at hu); go_simp <;> with_reducible rfl); (try simp only [Act.put, List.setIfInBounds_toArray, List.set_cons_zero, List.set_cons_succ]))
              | (refine text_call (fun u hu => ((O.out u hu.1).mono (fun e w' h => ⟨h.1, SH.out w' h.2⟩))) (by rfl) ?_ ?_; (· intro u; go_simp); (try simp only [Act.put, List.setIfInBounds_toArray, List.set_cons_zero, List.set_cons_succ]))
              | (refine text_call (fun u hu => ((L.out u hu.1).mono (fun e w' h => ⟨h.1, SH.out w' h.2⟩))) (by rfl) ?_ ?_; (· intro u; go_simp); (try simp only [Act.put, List.setIfInBounds_toArray, List.set_cons_zero, List.set_cons_succ]))
              | (refine text_call (fun u hu => ((N.out u hu.1).mono (fun e w' h => ⟨h.1, SH.out w' h.2⟩))) (by rfl) ?_ ?_; (· intro u; go_simp); (try simp only [Act.put, List.setIfInBounds_toArray, List.set_cons_zero, List.set_cons_succ])))
          refine text_done (fun u hu => ?_)
          have gu := hu.1
          clear hu
          go_wp2_with fail
          go_ret
          exact ⟨retbT HX.out.symm, gZ.trans gu⟩
        · rw [h3] at N0
          have N := Lib.hid N0
          have HX := Lib.hid (show folN l j x = false by rw [hf, h2, h3]; rfl)
          clear hx hv hvr h1 S1 N0 hA htl h0 hA2 S2 L0 h2 hz hi h3 hf
          go_enter Try.func20, Try.ntmps20
          go_wp2_with fail
          rw [← hZ]
          refine text_region (S := fun u => Gr Z u ∧ (u.cell? ⟨w.heap.size, 0, none⟩ = some (.int .i64 x.d) ∧ u.cell? ⟨w.heap.size, 1, none⟩ = some (.int .i64 x.id) ∧ u.cell? ⟨w.heap.size, 2, none⟩ = some (.bool x.nw)) ∧ (u.cell? ⟨b, o + i * 3, none⟩ = some (.int .i64 z.d) ∧ u.cell? ⟨b, o + i * 3 + 1, none⟩ = some (.int .i64 z.id) ∧ u.cell? ⟨b, o + i * 3 + 2, none⟩ = some (.bool z.nw))) (by kernel_rfl) (by kernel_rfl) (by kernel_rfl) (SH.out _ gd) ?_
          repeat (first
              | (refine text_skip (by rfl) ?_; (try simp only [Act.put, List.setIfInBounds_toArray, List.set_cons_zero, List.set_cons_succ]))
              | (refine text_val (v := ?_) (by rfl) ?_ ?_; rotate_left 1; (· intro u hu; (try dsimp only at hu); go_simp <;> with_reducible rfl); (try simp only [Act.put, List.setIfInBounds_toArray, List.set_cons_zero, List.set_cons_succ]))
              | (refine text_call (fun u hu => ((O.out u hu.1).mono (fun e w' h => ⟨h.1, SH.out w' h.2⟩))) (by rfl) ?_ ?_; (· intro u; go_simp); (try simp only [Act.put, List.setIfInBounds_toArray, List.set_cons_zero, List.set_cons_succ]))
              | (refine text_call (fun u hu => ((L.out u hu.1).mono (fun e w' h => ⟨h.1, SH.out w' h.2⟩))) (by rfl) ?_ ?_; (· intro u; go_simp); (try simp only [Act.put, List.setIfInBounds_toArray, List.set_cons_zero, List.set_cons_succ]))
              | (refine text_call (fun u hu => ((N.out u hu.1).mono (fun e w' h => ⟨h.1, SH.out w' h.2⟩))) (by rfl) ?_ ?_; (· intro u; go_simp); (try simp only [Act.put, List.setIfInBounds_toArray, List.set_cons_zero, List.set_cons_succ])))
          refine text_done (fun u hu => ?_)
          have gu := hu.1
          clear hu
          go_wp2_with fail
          go_ret
          exact ⟨retbT HX.out.symm, gZ.trans gu⟩
theorem fol_no {l : List Nr} {j : Nat} {x : Nr} {k : Int} (hx : l[j]? = some x) (h : folN l j x = false) : rightN l k = false := by
  unfold folN at h
  cases h1 : oneN x
  · exact right_one (List.mem_of_getElem? hx) h1
  · cases h3 : hasN (l.take j) x.id
    · rw [h1, h3] at h
      match j, hx, h with
      | 0, hx, h => simp at h
      | i + 1, hx, h =>
        have hlt := (List.getElem?_eq_some_iff.1 hx).1
        obtain ⟨z, hz, _, _⟩ := take_onT (l := l) (j := i) (by omega)
        simp only [hz] at h
        exact right_less hz hx (by simpa using h)
    · exact right_has hx h3
theorem fol_yes {l : List Nr} {j : Nat} {x : Nr} (hx : l[j]? = some x) (hs : l.take (j + 1) = l.take j ++ [x]) (ha : (∀ y ∈ l.take j, oneN y = true) ∧ Rise (l.take j) ∧ Unlike (l.take j)) (h : folN l j x = true) :
    (∀ y ∈ l.take (j + 1), oneN y = true) ∧ Rise (l.take (j + 1)) ∧ Unlike (l.take (j + 1)) := by
  unfold folN at h
  simp only [Bool.and_eq_true, Bool.not_eq_true'] at h
  obtain ⟨⟨h1, h2⟩, h3⟩ := h
  refine right_step hs ha h1 ?_ h3
  match j, hx, h2, ha with
  | 0, hx, h2, ha => simp
  | i + 1, hx, h2, ha =>
    have hlt := (List.getElem?_eq_some_iff.1 hx).1
    obtain ⟨z, hz, _, _⟩ := take_onT (l := l) (j := i) (by omega)
    simp only [hz] at h2
    exact less_all hz ha.2.1 h2
set_option maxHeartbeats 4000000 in
theorem tright_c {w : World} {v : Value} {l : List Nr} (h : LiesN w v l) (hl : l.length ≤ 1000) (k : Int) (hk : I64 k) :
    Calls Try.prog 13 #[v, .int .i64 k] w fun e w' => e = .returned (.bool (rightN l k)) ∧ Gr w w' := by
  have HF := Lib.hid (fun u (g : Gr w u) (j : Nat) (x : Nr) (hx : l[j]? = some x) => follows_c (h.gr g) hl j x hx)
  obtain ⟨a, c, rfl, hc, h⟩ := h
  clear h
  have KS := tasked_c k w
  cases t1 : kB k
  · rw [t1] at KS
    have HX := Lib.hid (show rightN l k = false by unfold rightN; rw [t1]; rfl)
    clear t1
    go_enter Try.func13, Try.ntmps13
    go_wp2_with fail
    refine KS.mono ?_; rintro e u ⟨rfl, rfl⟩
    go_wp2_with fail
    go_ret
    exact ⟨retbT HX.out.symm, Gr.refl _⟩
  · rw [t1] at KS
    have hkb : 1 ≤ k ∧ k ≤ 64 := by unfold kB at t1; rwa [decide_eq_true_iff] at t1
    clear t1
    by_cases t3 : k < l.length
    · have HX := Lib.hid (right_len (l := l) (k := k) (by omega))
      go_enter Try.func13, Try.ntmps13
      go_wp2_with fail
      refine KS.mono ?_; rintro e u ⟨rfl, rfl⟩
      go_wp2_with fail
      go_ret
      exact ⟨retbT HX.out.symm, Gr.refl _⟩
    · go_enter Try.func13, Try.ntmps13
      go_wp2_with fail
      refine KS.mono ?_; rintro e u ⟨rfl, rfl⟩
      clear KS
      go_wp2_with fail
      go_loopw [5, 17] (fun _ i wr => RtAt l w i wr) (fun _ i _ => l.length - (intOf i).toNat)
      case atStart => exact ⟨0, Nat.zero_le _, rfl, ⟨by simp, by simp, by simp⟩, Below.refl _ _⟩
      case round =>
        obtain ⟨j, hj, rfl, hall, hbel⟩ := hrel
        have hsz := hbel.size
        by_cases hlt : j < l.length
        · obtain ⟨x, hx, hstep, hmem⟩ := take_onT hlt
          have F0 := HF.out wr (Gr.of hbel) j x hx
          cases h1 : folN l j x
          · rw [h1] at F0
            have F := Lib.hid F0
            have HX := Lib.hid (fol_no (k := k) hx h1)
            clear hx hstep hmem hall h1 F0
            go_wp2_with fail
            refine F.out.mono ?_; rintro e u ⟨rfl, g⟩
            go_wp2_with fail
            go_ret
            exact ⟨retbT HX.out.symm, Gr.of (Below.trans hbel (g.mono hsz))⟩
          · rw [h1] at F0
            have F := Lib.hid F0
            have HX := Lib.hid (fol_yes hx hstep hall h1)
            clear hx hstep hmem hall h1 F0
            go_wp2_with fail
            refine F.out.mono ?_; rintro e u ⟨rfl, g⟩
            go_wp2_with fail
            refine ⟨⟨j + 1, by omega, rfl, HX.out, Below.trans hbel (g.mono hsz)⟩, ?_⟩
            simp [intOf]; omega
        · obtain rfl : j = l.length := by omega
          have HX : RowKit.Hid (rightN l k = true) := by
            refine Lib.hid (right_iff.2 ?_)
            rw [List.take_length] at hall
            exact ⟨by omega, by omega, hall.1, hall.2.1, hall.2.2⟩
          clear hall
          go_wp2_with fail
          go_ret
          exact ⟨retbT HX.out.symm, Gr.of hbel⟩
end Go.Proofs.Ytllfecgaadfkoaa

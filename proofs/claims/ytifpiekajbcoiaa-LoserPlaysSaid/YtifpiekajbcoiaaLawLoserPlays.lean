/- Rows.LoserPlaysSaid holds: for every input the law returns true and leaves its arguments as they were. Conditions: none beside the row's own. -/
import Derived.Test.YtifpiekajbcoiaaRows
import Derived.WalkKit
import Derived.ProofKit
import Derived.OpenShut
import Derived.ShutString
import Derived.ChangeOld
import Derived.Below
import Derived.Test.YtifpiekajbcoiaaArgs
import Derived.Test.YtifpiekajbcoiaaLoLaw
namespace Go.Proofs.Ytifpiekajbcoiaa.loserPlays
open Go.ChangeShapes Go.WideShapes Go.ChangeAt Go.RowKit
open Go.ChangeMaps (open_string shut_string)
open LoPlain
set_option linter.unusedVariables false
set_option linter.unusedSimpArgs false

theorem own : ownKnob Try.prog.godebug = none := by kernel_rfl
theorem laidOut : laidOutB Try.prog = true := by kernel_rfl


set_option maxRecDepth 100000 in
set_option maxHeartbeats 4000000 in
theorem walk (v0 v1 v2 : Value) (w : World) (w0 : Rd Try.prog w 22 v0) (w1 : Rd Try.prog w 23 v1) (w2 : Rd Try.prog w 24 v2) :
    Calls Try.prog 3 #[v0, v1, v2] w fun e w' => e = .returned (.bool true) ∧ Gr w w' := by
  obtain ⟨hs, h1, hm1, _⟩ := lies_in Try.underlying22 w0
  obtain ⟨os, h2, hm2⟩ := liesV_bools Try.underlying23 w1
  obtain ⟨st, h3, hm3, hss⟩ := liesSt_in Try.underlying24 w2
  clear w0 w1 w2
  unfold maxLen at hm1 hm2 hm3 hss
  have F := few6_c h1 30 (by omega) (by omega)
  have AW := Lib.hid (fun u (g : Gr w u) => (awake15_c u).mono (fun e v h => (⟨h.1, g.trans h.2⟩ : e = .returned (.bool true) ∧ Gr w v)))
  have H1 := Lib.hid h1
  have H2 := Lib.hid h2
  obtain ⟨a1, c1, e1, k1, _⟩ := h1
  obtain ⟨a2, c2, e2, k2, _⟩ := h2
  obtain ⟨a3, c3, e3, k3, r3⟩ := h3
  obtain ⟨n1, hn1⟩ : ∃ n, hs.length = n := ⟨_, rfl⟩
  obtain ⟨n2, hn2⟩ : ∃ n, os.length = n := ⟨_, rfl⟩
  obtain ⟨n3, hn3⟩ : ∃ n, st.length = n := ⟨_, rfl⟩
  have hb2 : (bools os).length = n2 := by simpa [bools] using hn2
  rw [hn1] at e1 k1 hm1
  rw [hb2] at e2 k2
  rw [hn2] at hm2
  rw [hn3] at e3 k3 hm3
  have R3 := Lib.hid (show 1 ≤ n3 → ∃ b o, a3 = some ⟨b, o, none⟩ ∧ StRow w b o st from fun hh => r3.elim (fun e => by rw [e] at hn3; simp at hn3; omega) id)
  have SS := Lib.hid hss
  have N1 := Lib.hid hn1
  have N2 := Lib.hid hn2
  have N3 := Lib.hid hn3
  subst e1 e2 e3
  clear r3 hss hb2 hn1 hn2 hn3 k1 k2 k3
  have hi2 : (n2 : Int) ≤ 9223372036854775807 := by omega
  have hi3 : (n3 : Int) ≤ 9223372036854775807 := by omega
  have FH := Lib.hid F
  have AB := Lib.hid (fun (hq : few6 hs 30 = false ∨ ¬ (n2 : Int) ≤ 40 ∨ ¬ (n3 : Int) ≤ 60) => hq)
  clear F
  cases hf : few6 hs 30
  · rw [hf] at FH
    clear hf AB
    go_enter Try.func3, Try.ntmps3
    go_wp2_with fail
    refine (FH.out).mono ?_; rintro e u ⟨rfl, rfl⟩
    go_wp2_with fail
    refine (AW.out _ (Gr.refl _)).mono ?_; rintro e v ⟨rfl, g⟩
    go_wp2_with fail
    go_ret
    exact ⟨rfl, g⟩
  · rw [hf] at FH
    obtain ⟨hl30, hsz⟩ := few6_yes hf
    have HSZ := Lib.hid hsz
    clear hsz
    clear hf AB
    rw [N1.out] at hl30
    by_cases hc2 : n2 ≤ 40
    · by_cases hc3 : n3 ≤ 60
      · have hi4 : (n2 : Int) ≤ 40 := by omega
        have hi5 : (n3 : Int) ≤ 60 := by omega
        have t1 : ¬ (40 : Int) < n2 := by omega
        have t2 : ¬ (60 : Int) < n3 := by omega
        have P := Lib.hid (lo_new_c H1.out H2.out (by have := N1.out; omega) (by have := N2.out; omega) (fun s hs => by have := HSZ.out s hs; omega))
        have R := Lib.hid (fun u (g : Gr w u) => rlo_new_c (H1.out.gr g) (H2.out.gr g) (by have := N1.out; omega) (by have := N2.out; omega))
        have hlen : (mkL hs os).length = n1 := by rw [mkL_length, N1.out]
        have HL := Lib.hid hlen
        generalize mkL hs os = l0 at P R HL hlen
        clear hlen
        go_enter Try.func3, Try.ntmps3
        go_wp2_with fail
        refine (FH.out).mono ?_; rintro e u ⟨rfl, rfl⟩
        go_wp2_with fail
        refine (P.out).mono ?_; rintro e u1 ⟨⟨p, B1, rfl, hp, np⟩, g1⟩
        have HP := Lib.hid hp
        have NP := Lib.hid np
        have G1 := Lib.hid g1
        clear hp np
        go_wp2_with fail
        refine (R.out _ G1.out).mono ?_; rintro e u2 ⟨⟨q, B2, rfl, hq, nq⟩, g2⟩
        obtain ⟨x1, x2, hbo⟩ := bo_made HP.out NP.out G1.out hq nq g2
        have HB := Lib.hid hbo
        clear hq nq hbo g1 g2
        go_wp2_with fail
        go_loopw [9] (fun i wr => ∃ (j : Nat) (l : List Hd) (y1 y2 : Value), j ≤ n3 + 1 ∧ i = .int .i64 (j : Int) ∧ l.length = n1 ∧ Bo p q y1 y2 l l w wr) (fun i _ => n3 + 1 - (intOf i).toNat)
        case atStart => exact ⟨0, l0, x1, x2, Nat.zero_le _, rfl, HL.out, HB.out⟩
        case round =>
          obtain ⟨j, l, y1, y2, hj, rfl, hll, hB⟩ := hrel
          have HLL := Lib.hid hll
          have HBW := Lib.hid hB
          have CL := Lib.hid (fun v (k : Bo p q y1 y2 l l w v) => bo_least (by omega) k)
          have CR := Lib.hid (fun v (k : Bo p q y1 y2 l l w v) => bo_rleast (by omega) k)
          have CF := Lib.hid (fun v (k : Bo p q y1 y2 l l w v) => bo_left (by omega) k)
          have CG := Lib.hid (fun v (k : Bo p q y1 y2 l l w v) => bo_rleft (by omega) k)
          have CH := Lib.hid (fun v (k : Bo p q y1 y2 l l w v) => bo_head (by omega) k)
          have CN := Lib.hid (fun v s o (hz : s.size ≤ 1000) (k : Bo p q y1 y2 l l w v) => bo_next (by omega) s o hz k)
          have CM := Lib.hid (fun v s o (k : Bo p q y1 y2 (nextL l s o) l w v) => bo_rnext (by omega) s o k)
          have BG := Lib.hid (fun v v' (k : Bo p q y1 y2 l l w v) (g : Gr v v') => bo_gr k g)
          clear hB hll
          by_cases hle : j ≤ n3
          · have hleI : (j : Int) ≤ (n3 : Int) := by omega
            have hr := leastN_range l
            cases hq : leastB l
            · have E1 : leastI l = 0 := by
                unfold leastB at hq
                rw [decide_eq_false_iff_not] at hq
                unfold leastI; omega
              have E2 : headS l = ⟨#[]⟩ := by unfold headS; rw [hq]; rfl
              rw [hq, E1] at CL CR
              rw [E2] at CH
              generalize leftN l = m at CF CG
              clear hr hq E1 E2
              go_wp2_with fail
              refine (CL.out _ HBW.out).mono ?_; rintro e v1 ⟨rfl, hb1⟩
              have HB1 := Lib.hid hb1
              clear hb1
              go_wp2_with fail
              refine (CR.out _ HB1.out).mono ?_; rintro e v2 ⟨rfl, hb2⟩
              have HB2 := Lib.hid hb2
              clear hb2
              go_wp2_with fail
              refine text_region (S := fun v => Bo p q y1 y2 l l w v) (by kernel_rfl) (by kernel_rfl) (by kernel_rfl) (BG.out _ _ HB2.out (Below.drew (Gr.refl _))) ?_
              repeat (first
                | (refine text_skip (by rfl) ?_; (try simp only [Act.put, List.setIfInBounds_toArray, List.set_cons_zero, List.set_cons_succ]))
                | (refine text_val (v := ?_) (by rfl) ?_ ?_; rotate_left 1; (· intro u hu; (try dsimp only at hu); go_simp <;> with_reducible rfl); (try simp only [Act.put, List.setIfInBounds_toArray, List.set_cons_zero, List.set_cons_succ]))
                | (refine text_call (fun u hu => (CF.out u hu)) (by rfl) ?_ ?_; (· intro u; go_simp); (try simp only [Act.put, List.setIfInBounds_toArray, List.set_cons_zero, List.set_cons_succ]))
                | (refine text_call (fun u hu => (CG.out u hu)) (by rfl) ?_ ?_; (· intro u; go_simp); (try simp only [Act.put, List.setIfInBounds_toArray, List.set_cons_zero, List.set_cons_succ]))
                | (refine text_call (fun u hu => (CH.out u hu)) (by rfl) ?_ ?_; (· intro u; go_simp); (try simp only [Act.put, List.setIfInBounds_toArray, List.set_cons_zero, List.set_cons_succ])))
              refine text_done (fun v3 hu => ?_)
              have HB3 := Lib.hid hu
              clear hu
              by_cases hlt : j < n3
              · obtain ⟨x, hx⟩ : ∃ x, st[j]? = some x := ⟨st[j]'(by have := N3.out; omega), List.getElem?_eq_getElem _⟩
                have hmem : x ∈ st := List.mem_of_getElem? hx
                have hxs := SS.out x hmem
                obtain ⟨sb, so, rfl, hsr⟩ := R3.out (by omega)
                have SC := Lib.hid (fun v (k : StRow v sb so st) => k.2 j x hx)
                obtain ⟨d0, d1⟩ := SC.out _ (bo_steps HB3.out hsr)
                obtain ⟨xs, xo⟩ := x
                dsimp only at d0 d1 hxs SC
                have hltI : (j : Int) < (n3 : Int) := by omega
                by_cases hz : xs.size ≤ 80
                · have hzI : ¬ (80 : Int) < xs.size := by omega
                  have CNS := Lib.hid (fun v (k : Bo p q y1 y2 l l w v) => (CN.out v xs xo (by omega) k).mono (fun e v' h => (⟨h.1, h.2, (SC.out _ (bo_steps h.2 hsr)).1, (SC.out _ (bo_steps h.2 hsr)).2⟩ : e = .returned (.tuple #[]) ∧ Bo p q y1 y2 (nextL l xs xo) l w v' ∧ v'.cell? ⟨sb, so + j * 2, none⟩ = some (.string xs) ∧ v'.cell? ⟨sb, so + j * 2 + 1, none⟩ = some (.bool xo))))
                  have CMS := Lib.hid (fun v (k : Bo p q y1 y2 (nextL l xs xo) l w v) => (CM.out v xs xo k).mono (fun e v' h => (⟨h.1, h.2, by obtain ⟨_, _, hh⟩ := h.2; exact (SC.out _ (bo_steps hh hsr)).1, by obtain ⟨_, _, hh⟩ := h.2; exact (SC.out _ (bo_steps hh hsr)).2⟩ : e = .returned (.tuple #[]) ∧ (∃ v1' v2', Bo p q v1' v2' (nextL l xs xo) (nextL l xs xo) w v') ∧ v'.cell? ⟨sb, so + j * 2, none⟩ = some (.string xs) ∧ v'.cell? ⟨sb, so + j * 2 + 1, none⟩ = some (.bool xo))))
                  have HNL := Lib.hid (nextL_length l xs xo)
                  have B3 := Lib.hid (BG.out v3 v3.drew HB3.out (Below.drew (Gr.refl v3)))
                  clear hx hmem hsr
                  go_wp2_with fail
                  go_region_held3 (fun v => v.cell? ⟨sb, so + j * 2, none⟩ = some (.string xs) ∧ v.cell? ⟨sb, so + j * 2 + 1, none⟩ = some (.bool xo)) (first | exact ⟨d0, d1⟩ | assumption | go_keep)
                    ((go_at_call 14; (with_reducible refine (CNS.out _ B3.out).mono ?_); rintro e t2 ⟨rfl, hst, hk0, hk1⟩))
                  have HB4 := Lib.hid hst
                  clear hst d0 d1
                  have B4 := Lib.hid (bo_gr HB4.out (show Gr t2 t2.drew from Below.drew (Gr.refl t2)))
                  go_wp2_with fail
                  go_region_held3 (fun v => v.cell? ⟨sb, so + j * 2, none⟩ = some (.string xs) ∧ v.cell? ⟨sb, so + j * 2 + 1, none⟩ = some (.bool xo)) (first | exact ⟨hk0, hk1⟩ | assumption | go_keep)
                    ((go_at_call 15; (with_reducible refine (CMS.out _ B4.out).mono ?_); rintro e t3 ⟨rfl, hst, hm0, hm1⟩))
                  have HB5 := Lib.hid hst
                  clear hst hk0 hk1 hm0 hm1
                  go_wp2_with fail
                  obtain ⟨z1, z2, hz5⟩ := HB5.out
                  refine ⟨⟨j + 1, nextL l xs xo, z1, z2, by omega, rfl, by rw [HNL.out]; exact HLL.out, hz5⟩, ?_⟩
                  simp [intOf]; omega
                · have hzI : (80 : Int) < xs.size := by omega
                  clear hx hmem hsr
                  go_wp2_with fail
                  refine (AW.out _ (bo_end HB3.out)).mono ?_; rintro e v4 ⟨rfl, g⟩
                  go_wp2_with fail
                  go_ret
                  exact ⟨rfl, g⟩
              · have hltI : ¬ (j : Int) < (n3 : Int) := by omega
                go_wp2_with fail
                refine ⟨⟨j + 1, l, _, y2, by omega, rfl, HLL.out, HB3.out⟩, ?_⟩
                simp [intOf]; omega
            · obtain ⟨i, hi⟩ : ∃ i : Nat, leastN l = (i : Int) := ⟨(leastN l).toNat, by unfold leastB at hq; rw [decide_eq_true_iff] at hq; omega⟩
              have hil : i < l.length := by omega
              obtain ⟨z, hz⟩ : ∃ z, l[i]? = some z := ⟨l[i], List.getElem?_eq_getElem hil⟩
              have E1 : leastI l = (i : Int) := by unfold leastI; omega
              have E2 : headS l = z.s := by unfold headS; rw [if_pos hq, hi, Int.toNat_natCast, sAt_at hz]
              obtain ⟨gh, ch, rfl, hcell⟩ := bo_cells HBW.out hz
              have hin : i < n1 := by have := HLL.out; omega
              have hcell2 : ∀ u : World, Bo p q (.slice (some ⟨gh, 0, none⟩) l.length ch) y2 l l w u → u.cell? ⟨q, 0, none⟩ = some (.slice (some ⟨gh, 0, none⟩) n1 ch) ∧ u.cell? ⟨gh, i, none⟩ = some (.string z.s) := fun u k => by
                have hh := hcell u k
                rw [HLL.out] at hh
                exact hh
              have HC := Lib.hid hcell2
              clear hcell2
              rw [hq, E1] at CL CR
              rw [E2] at CH
              generalize leftN l = m at CF CG
              generalize z.s = zs at CH HC
              clear hr hq E1 E2 hi hz hcell hil
              go_wp2_with fail
              refine (CL.out _ HBW.out).mono ?_; rintro e v1 ⟨rfl, hb1⟩
              have HB1 := Lib.hid hb1
              clear hb1
              go_wp2_with fail
              refine (CR.out _ HB1.out).mono ?_; rintro e v2 ⟨rfl, hb2⟩
              have HB2 := Lib.hid hb2
              clear hb2
              go_wp2_with fail
              refine text_region (S := fun v => Bo p q (.slice (some ⟨gh, 0, none⟩) l.length ch) y2 l l w v ∧ v.cell? ⟨q, 0, none⟩ = some (.slice (some ⟨gh, 0, none⟩) n1 ch) ∧ v.cell? ⟨gh, i, none⟩ = some (.string zs)) (by kernel_rfl) (by kernel_rfl) (by kernel_rfl) (⟨BG.out _ _ HB2.out (Below.drew (Gr.refl _)), HC.out _ (BG.out _ _ HB2.out (Below.drew (Gr.refl _)))⟩) ?_
              repeat (first
                | (refine text_skip (by rfl) ?_; (try simp only [Act.put, List.setIfInBounds_toArray, List.set_cons_zero, List.set_cons_succ]))
                | (refine text_val (v := ?_) (by rfl) ?_ ?_; rotate_left 1; (· intro u hu; (try dsimp only at hu); go_simp <;> with_reducible rfl); (try simp only [Act.put, List.setIfInBounds_toArray, List.set_cons_zero, List.set_cons_succ]))
                | (refine text_call (fun u hu => ((CF.out u hu.1).mono (fun e v' h => ⟨h.1, h.2, HC.out _ h.2⟩))) (by rfl) ?_ ?_; (· intro u; go_simp); (try simp only [Act.put, List.setIfInBounds_toArray, List.set_cons_zero, List.set_cons_succ]))
                | (refine text_call (fun u hu => ((CG.out u hu.1).mono (fun e v' h => ⟨h.1, h.2, HC.out _ h.2⟩))) (by rfl) ?_ ?_; (· intro u; go_simp); (try simp only [Act.put, List.setIfInBounds_toArray, List.set_cons_zero, List.set_cons_succ]))
                | (refine text_call (fun u hu => ((CH.out u hu.1).mono (fun e v' h => ⟨h.1, h.2, HC.out _ h.2⟩))) (by rfl) ?_ ?_; (· intro u; go_simp); (try simp only [Act.put, List.setIfInBounds_toArray, List.set_cons_zero, List.set_cons_succ])))
              refine text_done (fun v3 hu2 => ?_)
              have hu := hu2.1
              clear hu2
              have HB3 := Lib.hid hu
              clear hu
              by_cases hlt : j < n3
              · obtain ⟨x, hx⟩ : ∃ x, st[j]? = some x := ⟨st[j]'(by have := N3.out; omega), List.getElem?_eq_getElem _⟩
                have hmem : x ∈ st := List.mem_of_getElem? hx
                have hxs := SS.out x hmem
                obtain ⟨sb, so, rfl, hsr⟩ := R3.out (by omega)
                have SC := Lib.hid (fun v (k : StRow v sb so st) => k.2 j x hx)
                obtain ⟨d0, d1⟩ := SC.out _ (bo_steps HB3.out hsr)
                obtain ⟨xs, xo⟩ := x
                dsimp only at d0 d1 hxs SC
                have hltI : (j : Int) < (n3 : Int) := by omega
                by_cases hz : xs.size ≤ 80
                · have hzI : ¬ (80 : Int) < xs.size := by omega
                  have CNS := Lib.hid (fun v (k : Bo p q (.slice (some ⟨gh, 0, none⟩) l.length ch) y2 l l w v) => (CN.out v xs xo (by omega) k).mono (fun e v' h => (⟨h.1, h.2, (SC.out _ (bo_steps h.2 hsr)).1, (SC.out _ (bo_steps h.2 hsr)).2⟩ : e = .returned (.tuple #[]) ∧ Bo p q (.slice (some ⟨gh, 0, none⟩) l.length ch) y2 (nextL l xs xo) l w v' ∧ v'.cell? ⟨sb, so + j * 2, none⟩ = some (.string xs) ∧ v'.cell? ⟨sb, so + j * 2 + 1, none⟩ = some (.bool xo))))
                  have CMS := Lib.hid (fun v (k : Bo p q (.slice (some ⟨gh, 0, none⟩) l.length ch) y2 (nextL l xs xo) l w v) => (CM.out v xs xo k).mono (fun e v' h => (⟨h.1, h.2, by obtain ⟨_, _, hh⟩ := h.2; exact (SC.out _ (bo_steps hh hsr)).1, by obtain ⟨_, _, hh⟩ := h.2; exact (SC.out _ (bo_steps hh hsr)).2⟩ : e = .returned (.tuple #[]) ∧ (∃ v1' v2', Bo p q v1' v2' (nextL l xs xo) (nextL l xs xo) w v') ∧ v'.cell? ⟨sb, so + j * 2, none⟩ = some (.string xs) ∧ v'.cell? ⟨sb, so + j * 2 + 1, none⟩ = some (.bool xo))))
                  have HNL := Lib.hid (nextL_length l xs xo)
                  have B3 := Lib.hid (BG.out v3 v3.drew HB3.out (Below.drew (Gr.refl v3)))
                  clear hx hmem hsr
                  go_wp2_with fail
                  go_region_held3 (fun v => v.cell? ⟨sb, so + j * 2, none⟩ = some (.string xs) ∧ v.cell? ⟨sb, so + j * 2 + 1, none⟩ = some (.bool xo)) (first | exact ⟨d0, d1⟩ | assumption | go_keep)
                    ((go_at_call 14; (with_reducible refine (CNS.out _ B3.out).mono ?_); rintro e t2 ⟨rfl, hst, hk0, hk1⟩))
                  have HB4 := Lib.hid hst
                  clear hst d0 d1
                  have B4 := Lib.hid (bo_gr HB4.out (show Gr t2 t2.drew from Below.drew (Gr.refl t2)))
                  go_wp2_with fail
                  go_region_held3 (fun v => v.cell? ⟨sb, so + j * 2, none⟩ = some (.string xs) ∧ v.cell? ⟨sb, so + j * 2 + 1, none⟩ = some (.bool xo)) (first | exact ⟨hk0, hk1⟩ | assumption | go_keep)
                    ((go_at_call 15; (with_reducible refine (CMS.out _ B4.out).mono ?_); rintro e t3 ⟨rfl, hst, hm0, hm1⟩))
                  have HB5 := Lib.hid hst
                  clear hst hk0 hk1 hm0 hm1
                  go_wp2_with fail
                  obtain ⟨z1, z2, hz5⟩ := HB5.out
                  refine ⟨⟨j + 1, nextL l xs xo, z1, z2, by omega, rfl, by rw [HNL.out]; exact HLL.out, hz5⟩, ?_⟩
                  simp [intOf]; omega
                · have hzI : (80 : Int) < xs.size := by omega
                  clear hx hmem hsr
                  go_wp2_with fail
                  refine (AW.out _ (bo_end HB3.out)).mono ?_; rintro e v4 ⟨rfl, g⟩
                  go_wp2_with fail
                  go_ret
                  exact ⟨rfl, g⟩
              · have hltI : ¬ (j : Int) < (n3 : Int) := by omega
                go_wp2_with fail
                refine ⟨⟨j + 1, l, _, y2, by omega, rfl, HLL.out, HB3.out⟩, ?_⟩
                simp [intOf]; omega
          · obtain rfl : j = n3 + 1 := by omega
            have hleI : ¬ ((n3 + 1 : Nat) : Int) ≤ (n3 : Int) := by omega
            go_wp2_with fail
            refine (AW.out _ (bo_end HBW.out)).mono ?_; rintro e v4 ⟨rfl, g⟩
            go_wp2_with fail
            go_ret
            exact ⟨rfl, g⟩
      · have t1 : ¬ (40 : Int) < n2 := by omega
        have t2 : (60 : Int) < n3 := by omega
        go_enter Try.func3, Try.ntmps3
        go_wp2_with fail
        refine (FH.out).mono ?_; rintro e u ⟨rfl, rfl⟩
        go_wp2_with fail
        refine (AW.out _ (Gr.refl _)).mono ?_; rintro e v ⟨rfl, g⟩
        go_wp2_with fail
        go_ret
        exact ⟨rfl, g⟩
    · have t1 : (40 : Int) < n2 := by omega
      go_enter Try.func3, Try.ntmps3
      go_wp2_with fail
      refine (FH.out).mono ?_; rintro e u ⟨rfl, rfl⟩
      go_wp2_with fail
      refine (AW.out _ (Gr.refl _)).mono ?_; rintro e v ⟨rfl, g⟩
      go_wp2_with fail
      go_ret
      exact ⟨rfl, g⟩

set_option maxRecDepth 100000 in
theorem lifted (os : Os) (started : os.Started) (H : Type) (enc : TypeId × Value → H) :
    ReturnsInHanded {} Try.checked os 3 .any (Rows.loserPlaysSpec.pre6 enc Try.prog Try.f3 Rows.loserPlaysRow.domain false) (Rows.loserPlaysSpec.post enc Try.prog Try.f3 false true false false) := by
  refine returnsInHanded_of_change (C := Try.checked) own started (by kernel_rfl) Try.func3
    (ChangeSpec.witness6 (enc := enc) (C := Try.checked) false ⟨#[], #[.slice none 0 0, .slice none 0 0, .slice none 0 0], []⟩ 8 (by kernel_rfl) (by kernel_rfl) (by kernel_rfl) (by kernel_rfl)) ?_
  intro W base args ds gs before hval0 hW hcnd _
  have hval : ∀ (j : Nat) t v, Try.f3.params[j]? = some t → args[j]? = some v → Value.okWide Try.prog W .any base t v := hval0
  have hW' := hW
  obtain ⟨p, q, hA0, hV, rfl, hfz, hnd⟩ := hW
  have hA : DataW.TrodAll enc Try.prog W 0 (fun _ => true) true Try.f3.params.toList args.toList ds p := hA0
  rw [Try.params3] at hA hval
  obtain ⟨v0, vs0, d0, ds0, p0, q0, hargs, rfl, rfl, h0, r0⟩ := trodAll_cons hA
  obtain ⟨v1, vs1, d1, ds1, p1, q1, rfl, rfl, rfl, h1, r1⟩ := trodAll_cons r0
  obtain ⟨v2, vs2, d2, ds2, p2, q2, rfl, rfl, rfl, h2, r2⟩ := trodAll_cons r1
  obtain ⟨rfl, rfl, rfl⟩ := trodAll_nil r2
  obtain rfl : args = #[v0, v1, v2] := by cases args; simp_all
  obtain ⟨rfl, rfl⟩ := trodVars_none hV
  have k0 := h0
  have lt0 : ∀ x ∈ p0, x.block < W.heap.size := by obtain ⟨m, hm⟩ := k0; exact DataW.trod_lt m _ _ _ hm
  obtain ⟨a0, l0, c0, e0⟩ := okWide_slice Try.underlying22 (hval 0 22 v0 rfl rfl)
  have w0 : Rd Try.prog W 22 v0 := by
    obtain ⟨fuel, hf⟩ := h0
    subst e0
    exact ⟨H, enc, fuel, _, by simpa [Value.cells] using hf⟩
  have k1 := h1
  have lt1 : ∀ x ∈ p1, x.block < W.heap.size := by obtain ⟨m, hm⟩ := k1; exact DataW.trod_lt m _ _ _ hm
  obtain ⟨a1, l1, c1, e1⟩ := okWide_slice Try.underlying23 (hval 1 23 v1 rfl rfl)
  have w1 : Rd Try.prog W 23 v1 := by
    obtain ⟨fuel, hf⟩ := h1
    subst e1
    exact ⟨H, enc, fuel, _, by simpa [Value.cells] using hf⟩
  have k2 := h2
  have lt2 : ∀ x ∈ p2, x.block < W.heap.size := by obtain ⟨m, hm⟩ := k2; exact DataW.trod_lt m _ _ _ hm
  obtain ⟨a2, l2, c2, e2⟩ := okWide_slice Try.underlying24 (hval 2 24 v2 rfl rfl)
  have w2 : Rd Try.prog W 24 v2 := by
    obtain ⟨fuel, hf⟩ := h2
    subst e2
    exact ⟨H, enc, fuel, _, by simpa [Value.cells] using hf⟩
  clear hA0 hval0
  refine (walk v0 v1 v2 W w0 w1 w2).mono fun e W' ⟨he, bel⟩ => ?_
  subst he
  exact ⟨_, rfl, _, _, _, [], _, [], hW', trodAll_mk1 (shut_bool Try.underlying4 _), (trodAll_cons_mk (Below.trod laidOut (by kernel_rfl) (of_decide_eq_true (by kernel_rfl)) k0 bel lt0) (trodAll_cons_mk (Below.trod laidOut (by kernel_rfl) (of_decide_eq_true (by kernel_rfl)) k1 bel lt1) (trodAll_cons_mk (Below.trod laidOut (by kernel_rfl) (of_decide_eq_true (by kernel_rfl)) k2 bel lt2) trodAll_mk0))), rfl, bel.frame _, fun h => by cases h⟩

theorem over : Rows.loserPlaysRow.holds Try.pinned (OpenSpec.ofChange Rows.loserPlaysSpec) :=
  OpenClaim.holds_of_wide 3 Try.f3 rfl rfl rfl rfl rfl rfl rfl ⟨rfl, rfl, rfl, rfl, rfl⟩ rfl rfl rfl rfl rfl (by kernel_rfl) Try.func3 (by kernel_rfl)
    (of_decide_eq_true (by kernel_rfl)) (by unfold Func.isWrapper; first | (rw [if_pos (by decide +kernel)]; kernel_rfl) | (rw [if_neg (by decide +kernel)]; exact ⟨rfl, rfl⟩))
    (fun os started H enc _ => lifted os started H enc)

theorem proved : Rows.LoserPlaysSaid := over
#print axioms proved
end Go.Proofs.Ytifpiekajbcoiaa.loserPlays

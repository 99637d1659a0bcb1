/- Rows.TopkBestSaid holds: for every input the law returns true and leaves its arguments as they were. Conditions: none beside the row's own. -/
import Derived.Test.YtllfecgaadfkoaaRows
import Derived.WalkKit
import Derived.ProofKit
import Derived.OpenShut
import Derived.ShutString
import Derived.ChangeOld
import Derived.Below
import Derived.Test.YtllfecgaadfkoaaArgs
import Derived.Test.YtllfecgaadfkoaaTkBest
import Derived.Test.YtllfecgaadfkoaaTkAwake
namespace Go.Proofs.Ytllfecgaadfkoaa.topkBest
open Go.ChangeShapes Go.WideShapes Go.ChangeAt Go.RowKit
open Go.ChangeMaps (open_string shut_string)
open TkPlain
set_option linter.unusedVariables false
set_option linter.unusedSimpArgs false

theorem own : ownKnob Try.prog.godebug = none := by kernel_rfl
theorem laidOut : laidOutB Try.prog = true := by kernel_rfl


set_option maxRecDepth 100000 in
set_option maxHeartbeats 2000000 in
theorem walk (v0 v1 v2 : Value) (w : World) (w0 : Rd Try.prog w 22 v0) (w1 : Rd Try.prog w 5 v1) (w2 : Rd Try.prog w 5 v2) :
    Calls Try.prog 3 #[v0, v1, v2] w fun e w' => e = .returned (.bool true) ∧ Gr w w' := by
  obtain ⟨l, hl, hll, hli⟩ := liesN_in Try.underlying22 w0
  obtain ⟨z0, rfl, hw1⟩ := rd_int Try.underlying5 w1
  obtain ⟨z1, rfl, hw2⟩ := rd_int Try.underlying5 w2
  have hk : 0 ≤ z0 ∧ z0 ≤ 255 := by
    have h := hw1
    simp only [Lit.wf, Bool.and_eq_true, decide_eq_true_eq] at h
    exact h
  have hk1 : 0 ≤ z1 ∧ z1 ≤ 255 := by
    have h := hw2
    simp only [Lit.wf, Bool.and_eq_true, decide_eq_true_eq] at h
    exact h
  unfold maxLen at hll
  clear w0 w1 w2 hw1 hw2
  have HL := Lib.hid (fun u (g : Gr w u) => hl.gr g)
  obtain ⟨a, c, rfl, hc, h⟩ := hl
  have H0 : 1 ≤ l.length → ∃ b o, a = some ⟨b, o, none⟩ ∧ NrRow w b o l := fun h1 => h.elim (fun h0 => by rw [h0] at h1; simp at h1) (fun k => k)
  have H := Lib.hid H0
  have HI := Lib.hid hli
  clear h H0 hli
  by_cases h1 : l.length ≤ 20
  · have t1 : ¬ (20 : Int) < l.length := by omega
    obtain ⟨N, hN⟩ : ∃ N : Nat, 1 + z0 % 64 = (N : Int) := ⟨(1 + z0 % 64).toNat, by omega⟩
    have hn1 : 1 ≤ N ∧ N ≤ 64 := by omega
    go_enter Try.func3, Try.ntmps3
    go_wp2_with fail
    go_loopw [8] (fun i wr => BsAt l w i wr) (fun i _ => l.length - (intOf i).toNat)
    case atStart => exact ⟨0, Nat.zero_le _, rfl, ⟨by simp, by simp⟩, Below.refl _ _⟩
    case round =>
      obtain ⟨j, hj, rfl, hall, hbel⟩ := hrel
      have hsz := hbel.size
      by_cases hlt : j < l.length
      · obtain ⟨x, hx, hstep, hmem⟩ := take_onT hlt
        obtain ⟨b, o, rfl, hv⟩ := H.out (by omega)
        have hvr := hv.gr (Gr.of hbel)
        have hA := hvr.2 j x hx
        have gd : Gr wr wr.drew := Below.drew (Gr.refl wr)
        have S : ∀ u, Gr wr u → Gr wr u ∧ u.cell? ⟨b, o + j * 3, none⟩ = some (.int .i64 x.d) ∧ u.cell? ⟨b, o + j * 3 + 1, none⟩ = some (.int .i64 x.id) ∧ u.cell? ⟨b, o + j * 3 + 2, none⟩ = some (.bool x.nw) := fun u gu => ⟨gu, hA.gr hvr.1 gu⟩
        have SH := Lib.hid S
        have O0 : ∀ u, Gr wr u → Calls Try.prog 5 #[.agg #[.int .i64 x.d, .int .i64 x.id, .bool x.nw]] u fun e w' => e = .returned (.bool (oneN x)) ∧ Gr wr w' := by
          intro u gu
          refine (rone_c x u).mono ?_
          rintro e w' ⟨rfl, g⟩
          exact ⟨rfl, gu.trans g⟩
        have hsl := first_run b o l.length c j (by omega) hc
        have htl : (l.take j).length = j := by rw [List.length_take]; omega
        have N0 : ∀ u, Gr wr u → Calls Try.prog 6 #[.slice (some ⟨b, o, none⟩) j c, .int .i64 x.id] u fun e w' => e = .returned (.bool (hasN (l.take j) x.id)) ∧ Gr wr w' := by
          intro u gu
          have hL : LiesN u (.slice (some ⟨b, o, none⟩) j c) (l.take j) := ⟨_, c, by rw [htl], by rw [htl]; omega, .inr ⟨b, o, rfl, nrRow_take (hvr.gr gu) j⟩⟩
          refine (rhas12_c hL (by omega) x.id).mono ?_
          rintro e w' ⟨rfl, rfl⟩
          exact ⟨rfl, gu⟩
        have HV := Lib.hid hvr
        cases q1 : oneN x
        · rw [q1] at O0
          have O := Lib.hid O0
          clear hx hstep hmem hv hvr q1 hall S O0 N0 hA htl
          go_wp2_with fail
          refine text_region (S := fun u => Gr wr u ∧ u.cell? ⟨b, o + j * 3, none⟩ = some (.int .i64 x.d) ∧ u.cell? ⟨b, o + j * 3 + 1, none⟩ = some (.int .i64 x.id) ∧ u.cell? ⟨b, o + j * 3 + 2, none⟩ = some (.bool x.nw)) (by kernel_rfl) (by kernel_rfl) (by kernel_rfl) (SH.out _ gd) ?_
          repeat (first
            | (refine text_skip (by rfl) ?_; (try simp only [Act.put, List.setIfInBounds_toArray, List.set_cons_zero, List.set_cons_succ]))
            | (refine text_val (v := ?_) (by rfl) ?_ ?_; rotate_left 1; (· intro u hu; (try dsimp only at hu); go_simp <;> with_reducible rfl); (try simp only [Act.put, List.setIfInBounds_toArray, List.set_cons_zero, List.set_cons_succ]))
            | (refine text_call (fun u hu => ((O.out u hu.1).mono (fun e w' h => ⟨h.1, SH.out w' h.2⟩))) (by rfl) ?_ ?_; (· intro u; go_simp); (try simp only [Act.put, List.setIfInBounds_toArray, List.set_cons_zero, List.set_cons_succ])))
          refine text_done (fun u hu => ?_)
          have gu := hu.1
          clear hu
          go_wp2_with fail
          refine (awake12_c _).mono ?_; rintro e u5 ⟨rfl, g5⟩
          go_wp2_with fail
          go_ret
          exact ⟨rfl, (Gr.of (Below.trans hbel (gu.mono hsz))).trans g5⟩
        · rw [q1] at O0
          have O := Lib.hid O0
          cases q2 : hasN (l.take j) x.id
          · rw [q2] at N0
            have N := Lib.hid N0
            have HX := Lib.hid (unlike_step hstep hall q1 q2)
            clear hx hstep hmem hv hvr q1 q2 hall S O0 N0 hA htl
            go_wp2_with fail
            refine text_region (S := fun u => Gr wr u ∧ u.cell? ⟨b, o + j * 3, none⟩ = some (.int .i64 x.d) ∧ u.cell? ⟨b, o + j * 3 + 1, none⟩ = some (.int .i64 x.id) ∧ u.cell? ⟨b, o + j * 3 + 2, none⟩ = some (.bool x.nw)) (by kernel_rfl) (by kernel_rfl) (by kernel_rfl) (SH.out _ gd) ?_
            repeat (first
              | (refine text_skip (by rfl) ?_; (try simp only [Act.put, List.setIfInBounds_toArray, List.set_cons_zero, List.set_cons_succ]))
              | (refine text_val (v := ?_) (by rfl) ?_ ?_; rotate_left 1; (· intro u hu; (try dsimp only at hu); go_simp <;> with_reducible rfl); (try simp only [Act.put, List.setIfInBounds_toArray, List.set_cons_zero, List.set_cons_succ]))
              | (refine text_call (fun u hu => ((O.out u hu.1).mono (fun e w' h => ⟨h.1, SH.out w' h.2⟩))) (by rfl) ?_ ?_; (· intro u; go_simp); (try simp only [Act.put, List.setIfInBounds_toArray, List.set_cons_zero, List.set_cons_succ]))
              | (refine text_call (fun u hu => ((N.out u hu.1).mono (fun e w' h => ⟨h.1, SH.out w' h.2⟩))) (by rfl) ?_ ?_; (· intro u; go_simp); (try simp only [Act.put, List.setIfInBounds_toArray, List.set_cons_zero, List.set_cons_succ])))
            refine text_done (fun u hu => ?_)
            have gu := hu.1
            clear hu
            go_wp2_with fail
            refine ⟨⟨j + 1, by omega, rfl, HX.out, Below.trans hbel (gu.mono hsz)⟩, ?_⟩
            simp [intOf]; omega
          · rw [q2] at N0
            have N := Lib.hid N0
            clear hx hstep hmem hv hvr q1 q2 hall S O0 N0 hA htl
            go_wp2_with fail
            refine text_region (S := fun u => Gr wr u ∧ u.cell? ⟨b, o + j * 3, none⟩ = some (.int .i64 x.d) ∧ u.cell? ⟨b, o + j * 3 + 1, none⟩ = some (.int .i64 x.id) ∧ u.cell? ⟨b, o + j * 3 + 2, none⟩ = some (.bool x.nw)) (by kernel_rfl) (by kernel_rfl) (by kernel_rfl) (SH.out _ gd) ?_
            repeat (first
              | (refine text_skip (by rfl) ?_; (try simp only [Act.put, List.setIfInBounds_toArray, List.set_cons_zero, List.set_cons_succ]))
              | (refine text_val (v := ?_) (by rfl) ?_ ?_; rotate_left 1; (· intro u hu; (try dsimp only at hu); go_simp <;> with_reducible rfl); (try simp only [Act.put, List.setIfInBounds_toArray, List.set_cons_zero, List.set_cons_succ]))
              | (refine text_call (fun u hu => ((O.out u hu.1).mono (fun e w' h => ⟨h.1, SH.out w' h.2⟩))) (by rfl) ?_ ?_; (· intro u; go_simp); (try simp only [Act.put, List.setIfInBounds_toArray, List.set_cons_zero, List.set_cons_succ]))
              | (refine text_call (fun u hu => ((N.out u hu.1).mono (fun e w' h => ⟨h.1, SH.out w' h.2⟩))) (by rfl) ?_ ?_; (· intro u; go_simp); (try simp only [Act.put, List.setIfInBounds_toArray, List.set_cons_zero, List.set_cons_succ])))
            refine text_done (fun u hu => ?_)
            have gu := hu.1
            clear hu
            go_wp2_with fail
            refine (awake12_c _).mono ?_; rintro e u5 ⟨rfl, g5⟩
            go_wp2_with fail
            go_ret
            exact ⟨rfl, (Gr.of (Below.trans hbel (gu.mono hsz))).trans g5⟩
      · obtain rfl : j = l.length := by omega
        rw [List.take_length] at hall
        have HB := bestOf (n := N) (by omega) hall.1 hall.2
        obtain ⟨B, hB⟩ : ∃ B, bestL l (N : Int) = B := ⟨_, rfl⟩
        rw [hB] at HB
        have BE := fun u (g : Gr w u) => best_c (HL.out u g) (by omega) (N : Int) ⟨by omega, by omega⟩
        rw [hB] at BE
        have BEH := Lib.hid BE
        have HBB := Lib.hid HB
        have gW : Gr w wr := Gr.of hbel
        clear hall BE HB hB
        go_wp2_with fail
        refine (BEH.out _ gW).mono ?_; rintro e u1 ⟨vb, rfl, hvb, g1⟩
        have HVB := Lib.hid (fun u (g : Gr u1 u) => hvb.gr g)
        obtain ⟨ba, bc, rfl, hbc, hbr⟩ := hvb
        have K0 : 1 ≤ B.length → ∃ b o, ba = some ⟨b, o, none⟩ ∧ NrRow u1 b o B := fun h1 => hbr.elim (fun h0 => by rw [h0] at h1; simp at h1) (fun k => k)
        have K := Lib.hid K0
        have gU : Gr w u1 := gW.trans g1
        have RR := rright12_c (HVB.out u1 (Gr.refl _)) (by rw [HBB.out.len]; omega) (N : Int) ⟨by omega, by omega⟩
        rw [HBB.out.right] at RR
        have RRH := Lib.hid RR
        have tm : (if l.length < N then (l.length : Int) else (N : Int)) = (B.length : Int) := by rw [HBB.out.len]; split <;> omega
        have tm2 : min (N : Int) (l.length : Int) = (B.length : Int) := by rw [HBB.out.len]; omega
        have hBl : B.length ≤ 20 := by rw [HBB.out.len]; omega
        clear hbr K0 RR g1
        go_wp2_with fail
        refine RRH.out.mono ?_; rintro e u2 ⟨rfl, g2⟩
        clear RRH
        go_wp2_with fail
        go_loopw [10, 11, 12] (fun i _ _ wr => NiAt l u2 i wr) (fun i _ _ _ => l.length - (intOf i).toNat)
        case atStart => exact ⟨0, Nat.zero_le _, rfl, Below.refl _ _⟩
        case round =>
          obtain ⟨j, hj, rfl, hb2⟩ := hrel
          by_cases hlt : j < l.length
          · obtain ⟨y, hy, hsy, hmy⟩ := take_onT hlt
            obtain ⟨b, o, rfl, hv⟩ := H.out (by omega)
            rename_i wo _ _ _ _ _
            go_wp2_with fail
            go_loopw [11, 12] (fun c i wr => NjAt l y u2 c i wr) (fun _ i _ => l.length - (intOf i).toNat)
            case atStart => exact ⟨0, Nat.zero_le _, rfl, rfl, hb2⟩
            case round =>
              obtain ⟨q, hq, rfl, rfl, hb3⟩ := hrel
              have hs3 := hb3.size
              have gR : Gr w wr := (gU.trans g2).trans (Gr.of hb3)
              by_cases hlq : q < l.length
              · obtain ⟨x, hx, hsx, hmx⟩ := take_onT hlq
                have hvr := hv.gr gR
                have hAx := hvr.2 q x hx
                have hAy := hvr.2 j y hy
                have gd : Gr wr wr.drew := Below.drew (Gr.refl wr)
                have S : ∀ u, Gr wr u → Gr wr u ∧ (u.cell? ⟨b, o + q * 3, none⟩ = some (.int .i64 x.d) ∧ u.cell? ⟨b, o + q * 3 + 1, none⟩ = some (.int .i64 x.id) ∧ u.cell? ⟨b, o + q * 3 + 2, none⟩ = some (.bool x.nw)) ∧ (u.cell? ⟨b, o + j * 3, none⟩ = some (.int .i64 y.d) ∧ u.cell? ⟨b, o + j * 3 + 1, none⟩ = some (.int .i64 y.id) ∧ u.cell? ⟨b, o + j * 3 + 2, none⟩ = some (.bool y.nw)) := fun u gu => ⟨gu, hAx.gr hvr.1 gu, hAy.gr hvr.1 gu⟩
                have SH := Lib.hid S
                have L0 : ∀ u, Gr wr u → Calls Try.prog 9 #[.agg #[.int .i64 x.d, .int .i64 x.id, .bool x.nw], .agg #[.int .i64 y.d, .int .i64 y.id, .bool y.nw]] u fun e w' => e = .returned (.bool (lessN x y)) ∧ Gr wr w' := by
                  intro u gu
                  refine (rless_c x y u).mono ?_
                  rintro e w' ⟨rfl, g⟩
                  exact ⟨rfl, gu.trans g⟩
                have hns := near_step (y := y) hsx
                have hml := near_le (l.take q) y
                rw [List.length_take] at hml
                obtain ⟨m, hm⟩ : ∃ m, nearN (l.take q) y = m := ⟨_, rfl⟩
                rw [hm] at hns hml
                rw [hm]
                have HV := Lib.hid hv
                cases hls : lessN x y
                · rw [hls] at L0
                  have L := Lib.hid L0
                  have HX := Lib.hid (show nearN (l.take (q + 1)) y = m by rw [hns, hls]; rfl)
                  clear hx hsx hmx hy hsy hmy hv hvr hAx hAy S L0 hls hns hm
                  go_wp2_with fail
                  refine text_region (S := fun u => Gr wr u ∧ (u.cell? ⟨b, o + q * 3, none⟩ = some (.int .i64 x.d) ∧ u.cell? ⟨b, o + q * 3 + 1, none⟩ = some (.int .i64 x.id) ∧ u.cell? ⟨b, o + q * 3 + 2, none⟩ = some (.bool x.nw)) ∧ (u.cell? ⟨b, o + j * 3, none⟩ = some (.int .i64 y.d) ∧ u.cell? ⟨b, o + j * 3 + 1, none⟩ = some (.int .i64 y.id) ∧ u.cell? ⟨b, o + j * 3 + 2, none⟩ = some (.bool y.nw))) (by kernel_rfl) (by kernel_rfl) (by kernel_rfl) (SH.out _ gd) ?_
                  repeat (first
                    | (refine text_skip (by rfl) ?_; (try simp only [Act.put, List.setIfInBounds_toArray, List.set_cons_zero, List.set_cons_succ]))
                    | (refine text_val (v := ?_) (by rfl) ?_ ?_; rotate_left 1; (· intro u hu; (try dsimp only at hu); go_simp <;> with_reducible rfl); (try simp only [Act.put, List.setIfInBounds_toArray, List.set_cons_zero, List.set_cons_succ]))
                    | (refine text_call (fun u hu => ((L.out u hu.1).mono (fun e w' h => ⟨h.1, SH.out w' h.2⟩))) (by rfl) ?_ ?_; (· intro u; go_simp); (try simp only [Act.put, List.setIfInBounds_toArray, List.set_cons_zero, List.set_cons_succ])))
                  refine text_done (fun u hu => ?_)
                  have gu := hu.1
                  clear hu
                  go_wp2_with fail
                  refine ⟨⟨q + 1, by omega, rfl, by rw [HX.out], Below.trans hb3 (gu.mono hs3)⟩, ?_⟩
                  simp [intOf]; omega
                · rw [hls] at L0
                  have L := Lib.hid L0
                  have HX := Lib.hid (show nearN (l.take (q + 1)) y = m + 1 by rw [hns, hls]; rfl)
                  clear hx hsx hmx hy hsy hmy hv hvr hAx hAy S L0 hls hns hm
                  go_wp2_with fail
                  refine text_region (S := fun u => Gr wr u ∧ (u.cell? ⟨b, o + q * 3, none⟩ = some (.int .i64 x.d) ∧ u.cell? ⟨b, o + q * 3 + 1, none⟩ = some (.int .i64 x.id) ∧ u.cell? ⟨b, o + q * 3 + 2, none⟩ = some (.bool x.nw)) ∧ (u.cell? ⟨b, o + j * 3, none⟩ = some (.int .i64 y.d) ∧ u.cell? ⟨b, o + j * 3 + 1, none⟩ = some (.int .i64 y.id) ∧ u.cell? ⟨b, o + j * 3 + 2, none⟩ = some (.bool y.nw))) (by kernel_rfl) (by kernel_rfl) (by kernel_rfl) (SH.out _ gd) ?_
                  repeat (first
                    | (refine text_skip (by rfl) ?_; (try simp only [Act.put, List.setIfInBounds_toArray, List.set_cons_zero, List.set_cons_succ]))
                    | (refine text_val (v := ?_) (by rfl) ?_ ?_; rotate_left 1; (· intro u hu; (try dsimp only at hu); go_simp <;> with_reducible rfl); (try simp only [Act.put, List.setIfInBounds_toArray, List.set_cons_zero, List.set_cons_succ]))
                    | (refine text_call (fun u hu => ((L.out u hu.1).mono (fun e w' h => ⟨h.1, SH.out w' h.2⟩))) (by rfl) ?_ ?_; (· intro u; go_simp); (try simp only [Act.put, List.setIfInBounds_toArray, List.set_cons_zero, List.set_cons_succ])))
                  refine text_done (fun u hu => ?_)
                  have gu := hu.1
                  clear hu
                  go_wp2_with fail
                  refine ⟨⟨q + 1, by omega, rfl, by rw [HX.out]; rfl, Below.trans hb3 (gu.mono hs3)⟩, ?_⟩
                  simp [intOf]; omega
              · obtain rfl : q = l.length := by omega
                rw [List.take_length]
                have hvr := hv.gr gR
                have hAy := hvr.2 j y hy
                have hml := near_le l y
                have hhas := HBB.out.has j y hy
                have hat := HBB.out.at_ j y hy
                obtain ⟨m, hm⟩ : ∃ m, nearN l y = m := ⟨_, rfl⟩
                rw [hm] at hml hhas hat
                rw [hm]
                have gd : Gr wr wr.drew := Below.drew (Gr.refl wr)
                have gB : Gr u1 wr := g2.trans (Gr.of hb3)
                have T0 : ∀ u, Gr wr u → Calls Try.prog 10 #[.slice ba B.length bc, .int .i64 y.id] u fun e w' => e = .returned (.bool (decide (m < N))) ∧ Gr wr w' := by
                  intro u gu
                  have := thas_c (HVB.out u (gB.trans gu)) (by omega) y.id
                  rw [hhas] at this
                  refine this.mono ?_
                  rintro e w' ⟨rfl, g⟩
                  exact ⟨rfl, gu.trans g⟩
                by_cases hp : m < N
                · obtain ⟨hmB, hBm⟩ := hat hp
                  obtain ⟨bb, bo, rfl, hr⟩ := K.out (by omega)
                  have hAB := (hr.gr gB).2 m y hBm
                  have hb0 := (hr.gr gB).1
                  have S : ∀ u, Gr wr u → Gr wr u ∧ (u.cell? ⟨b, o + j * 3, none⟩ = some (.int .i64 y.d) ∧ u.cell? ⟨b, o + j * 3 + 1, none⟩ = some (.int .i64 y.id) ∧ u.cell? ⟨b, o + j * 3 + 2, none⟩ = some (.bool y.nw)) ∧ (u.cell? ⟨bb, bo + m * 3, none⟩ = some (.int .i64 y.d) ∧ u.cell? ⟨bb, bo + m * 3 + 1, none⟩ = some (.int .i64 y.id) ∧ u.cell? ⟨bb, bo + m * 3 + 2, none⟩ = some (.bool y.nw)) := fun u gu => ⟨gu, hAy.gr hvr.1 gu, hAB.gr hb0 gu⟩
                  have SH := Lib.hid S
                  rw [decide_eq_true hp] at T0
                  have T := Lib.hid T0
                  have d1 : decide (m < N) = true := decide_eq_true hp
                  have d2 : decide (B.length ≤ m) = false := by rw [decide_eq_false_iff_not]; omega
                  have hne := nr_neq y y
                  rw [show decide (y ≠ y) = false by simp] at hne
                  clear hy hsy hmy hv hvr hAy S T0 hhas hat hBm hr hAB hm hb0
                  go_wp2_with fail
                  refine text_region (S := fun u => Gr wr u ∧ (u.cell? ⟨b, o + j * 3, none⟩ = some (.int .i64 y.d) ∧ u.cell? ⟨b, o + j * 3 + 1, none⟩ = some (.int .i64 y.id) ∧ u.cell? ⟨b, o + j * 3 + 2, none⟩ = some (.bool y.nw)) ∧ (u.cell? ⟨bb, bo + m * 3, none⟩ = some (.int .i64 y.d) ∧ u.cell? ⟨bb, bo + m * 3 + 1, none⟩ = some (.int .i64 y.id) ∧ u.cell? ⟨bb, bo + m * 3 + 2, none⟩ = some (.bool y.nw))) (by kernel_rfl) (by kernel_rfl) (by kernel_rfl) (SH.out _ gd) ?_
                  repeat (first
                    | (refine text_skip (by rfl) ?_; (try simp only [Act.put, List.setIfInBounds_toArray, List.set_cons_zero, List.set_cons_succ]))
                    | (refine text_val (v := ?_) (by rfl) ?_ ?_; rotate_left 1; (· intro u hu; (try dsimp only at hu); go_simp <;> with_reducible rfl); (try simp only [Act.put, List.setIfInBounds_toArray, List.set_cons_zero, List.set_cons_succ]))
                    | (refine text_call (fun u hu => ((T.out u hu.1).mono (fun e w' h => ⟨h.1, SH.out w' h.2⟩))) (by rfl) ?_ ?_; (· intro u; go_simp); (try simp only [Act.put, List.setIfInBounds_toArray, List.set_cons_zero, List.set_cons_succ])))
                  refine text_done (fun u hu => ?_)
                  have gu := hu.1
                  clear hu
                  go_wp2_with fail
                  refine ⟨⟨j + 1, by omega, rfl, Below.trans hb3 (gu.mono hs3)⟩, ?_⟩
                  simp [intOf]; omega
                · have S : ∀ u, Gr wr u → Gr wr u ∧ (u.cell? ⟨b, o + j * 3, none⟩ = some (.int .i64 y.d) ∧ u.cell? ⟨b, o + j * 3 + 1, none⟩ = some (.int .i64 y.id) ∧ u.cell? ⟨b, o + j * 3 + 2, none⟩ = some (.bool y.nw)) := fun u gu => ⟨gu, hAy.gr hvr.1 gu⟩
                  have SH := Lib.hid S
                  rw [decide_eq_false hp] at T0
                  have T := Lib.hid T0
                  have d1 : decide (m < N) = false := decide_eq_false hp
                  clear hy hsy hmy hv hvr hAy S T0 hhas hat hm
                  go_wp2_with fail
                  refine text_region (S := fun u => Gr wr u ∧ (u.cell? ⟨b, o + j * 3, none⟩ = some (.int .i64 y.d) ∧ u.cell? ⟨b, o + j * 3 + 1, none⟩ = some (.int .i64 y.id) ∧ u.cell? ⟨b, o + j * 3 + 2, none⟩ = some (.bool y.nw))) (by kernel_rfl) (by kernel_rfl) (by kernel_rfl) (SH.out _ gd) ?_
                  repeat (first
                    | (refine text_skip (by rfl) ?_; (try simp only [Act.put, List.setIfInBounds_toArray, List.set_cons_zero, List.set_cons_succ]))
                    | (refine text_val (v := ?_) (by rfl) ?_ ?_; rotate_left 1; (· intro u hu; (try dsimp only at hu); go_simp <;> with_reducible rfl); (try simp only [Act.put, List.setIfInBounds_toArray, List.set_cons_zero, List.set_cons_succ]))
                    | (refine text_call (fun u hu => ((T.out u hu.1).mono (fun e w' h => ⟨h.1, SH.out w' h.2⟩))) (by rfl) ?_ ?_; (· intro u; go_simp); (try simp only [Act.put, List.setIfInBounds_toArray, List.set_cons_zero, List.set_cons_succ])))
                  refine text_done (fun u hu => ?_)
                  have gu := hu.1
                  clear hu
                  go_wp2_with fail
                  refine ⟨⟨j + 1, by omega, rfl, Below.trans hb3 (gu.mono hs3)⟩, ?_⟩
                  simp [intOf]; omega
          · obtain rfl : j = l.length := by omega
            obtain ⟨wb, hwb⟩ : ∃ wb : World, wb = wr := ⟨_, rfl⟩
            subst hwb
            have gO : Gr w wb := (gU.trans g2).trans (Gr.of hb2)
            have gOB : Gr u1 wb := g2.trans (Gr.of hb2)
            obtain ⟨i0, hi, hz0, hz1, hz2⟩ := info_partsT infoN
            go_wp2_with fail
            go_loopw [13, 14] (fun v i wr => RvAt l wb v i wr) (fun _ i _ => (intOf i + 1).toNat)
            case atStart => exact ⟨l.length, [], Nat.le_refl _, rfl, by simp, World.ownsRow_nil _ _ _ _, Below.refl _ _⟩
            case round =>
              obtain ⟨j, r, hj, rfl, hr, hown, hb4⟩ := hrel
              have hs4 := hb4.size
              by_cases hj1 : 1 ≤ j
              · obtain ⟨q, rfl⟩ : ∃ q, j = q + 1 := ⟨j - 1, by omega⟩
                obtain ⟨x, hx, _, _⟩ := take_onT (l := l) (j := q) (by omega)
                obtain ⟨b, o, rfl, hv⟩ := H.out (by omega)
                obtain ⟨c1, c2, c3⟩ := (hv.gr (gO.trans (Gr.of hb4))).2 q x hx
                have hrl : r.length = l.length - (q + 1) := by rw [hr]; simp
                have HR := Lib.hid (show (l.drop q).reverse = r ++ [x] by rw [hr]; exact rev_step hx)
                have HOW := Lib.hid hown
                have d1 : ((q : Int) + 1 - 1) = (q : Int) := by omega
                have d3 : q < l.length := by omega
                rw [show (((q + 1 : Nat) : Int) - 1) = (q : Int) by omega]
                clear hr hx hv
                go_wp2_with (first
                  | (at_builtin; refine wpList_append_own_at _ rfl _ _ 22 rfl wb.heap.size 26 i0 (.agg #[.int .i64 0, .int .i64 0, .bool false]) 3 24 Try.underlying22 hi hz0 hz1 hz2 rfl (by decide) _ _ _ rfl (hown.alloc _) ⟨wr.heap.size, 0, none⟩ 1 1 [.int .i64 x.d, .int .i64 x.id, .bool x.nw] rfl ?c0 ?c1 ?c2 ?c3 ?c4 ?c5 ?_)
                  | go_in)
                case c0 => rfl
                case c1 =>
                  intro jj z hjz
                  rw [add_lit, World.cell?_alloc_new, List.getElem?_toArray, Nat.zero_add]
                  exact hjz
                case c2 => intro z hz; simp at hz; rcases hz with rfl | rfl | rfl <;> rfl
                case c3 => unfold maxLen; omega
                case c4 => omega
                case c5 => simp only [World.size_alloc]; omega
                intro X' w2 hown2 hgrow _ hat
                have b2' : Below wb.heap.size wb w2 := (hb4.alloc (by omega) _).grown hgrow (by simp only [World.size_alloc]; omega) (fun q hq => (HOW.out.lt q hq).1)
                have HO2 := Lib.hid hown2
                clear hown hown2 hgrow hat
                go_wp2
                refine ⟨⟨q, r ++ [x], by omega, rfl, HR.out.symm, by rw [List.length_append, nrs_snoc, hrl]; exact HO2.out, b2'⟩, ?_⟩
                simp [intOf]
              · obtain rfl : j = 0 := by omega
                obtain ⟨M, hM⟩ : ∃ M : Nat, z1 % ((l.length : Int) + 1) = (M : Int) := ⟨(z1 % ((l.length : Int) + 1)).toNat, by have := Int.emod_nonneg z1 (b := (l.length : Int) + 1) (by omega); omega⟩
                have hMl : M ≤ l.length := by have := Int.emod_lt_of_pos z1 (b := (l.length : Int) + 1) (by omega); omega
                have gX : Gr w wr := gO.trans (Gr.of hb4)
                have gXB : Gr u1 wr := gOB.trans (Gr.of hb4)
                have hrB : bestL r (N : Int) = B := HBB.out.all r (by rw [hr]; exact List.reverse_perm _)
                have hrl : r.length ≤ 20 := by rw [hr]; simp; omega
                have RB := fun u (g : Gr wr u) => best_c (liesN_own (ownsRow_grT hown g)) (by omega) (N : Int) ⟨by omega, by omega⟩
                rw [hrB] at RB
                have RBH := Lib.hid RB
                have hpa := HBB.out.parts M
                have hhf := HBB.out.half M
                have S1 := fun u (g : Gr wr u) => best_c (lies_first (HL.out u (gX.trans g)) M hMl) (by rw [List.length_take]; omega) (N : Int) ⟨by omega, by omega⟩
                obtain ⟨A, hA⟩ : ∃ A, bestL (l.take M) (N : Int) = A := ⟨_, rfl⟩
                rw [hA] at S1 hpa hhf
                have f1 := first_any a l.length c M hMl hc
                have f2 := last_any a l.length c M hMl hc
                have L2 := fun u (g : Gr wr u) => lies_last (HL.out u (gX.trans g)) M hMl
                obtain ⟨v2, hv2⟩ : ∃ v2, v2 = Value.slice (if c = M then a else a.map (·.add (M * 3))) (l.length - M) (c - M) := ⟨_, rfl⟩
                rw [← hv2] at f2
                simp only [← hv2] at L2
                have S2 := fun u v (g : Gr wr u) (h : LiesN u v A) => merge_c h (L2 u g) (by omega) (by rw [List.length_drop]; omega) (N : Int) ⟨by omega, by omega⟩
                rw [hpa] at S2
                have S1H := Lib.hid (fun u (g : Gr wr u) => (S1 u g).mono (fun e w' h => (show ∃ v', e = .returned v' ∧ LiesN w' v' A ∧ Gr wr w' from h.elim fun v' k => ⟨v', k.1, k.2.1, g.trans k.2.2⟩)))
                have S2H := Lib.hid (fun u v (g : Gr wr u) (h : LiesN u v A) => (S2 u v g h).mono (fun e w' h => (show ∃ v' n, e = .returned (.tuple #[v', .int .i64 n]) ∧ LiesN w' v' B ∧ Gr wr w' from h.elim fun v' k => k.elim fun n k => ⟨v', n, k.1, k.2.1, g.trans k.2.2⟩)))
                clear S1 S2 L2 hA hpa hhf hv2 hr hrB hown RB
                go_wp2_with fail
                go_region_with (first
                  | (refine (S1H.out _ ?_).mono ?_
                     · first | exact Gr.refl _ | exact grN _ _ | exact Below.drew (Gr.refl _)
                     rintro e u5 ⟨v5, rfl, h5, g5⟩)
                  | (refine (S2H.out _ _ ?_ ?_).mono ?_
                     · assumption
                     · assumption
                     rintro e u6 ⟨v6, n6, rfl, h6, g6⟩))
                have H6 := Lib.hid (fun u (g : Gr u6 u) => h6.gr g)
                clear h6 h5
                go_wp2_with fail
                refine (RBH.out _ g6).mono ?_; rintro e u7 ⟨v7, rfl, h7, g7⟩
                have H7 := Lib.hid h7
                have gA : Gr u1 u7 := (gXB.trans g6).trans g7
                clear h7
                go_wp2_with fail
                refine (rsame12_c (by omega) H7.out (HVB.out _ gA)).mono ?_; rintro e u8 ⟨rfl, g8⟩
                go_wp2_with fail
                refine (rsame12_c (by omega) (H6.out _ (g7.trans g8)) (HVB.out _ (gA.trans g8))).mono ?_; rintro e u9 ⟨rfl, g9⟩
                go_wp2_with fail
                refine (awake12_c _).mono ?_; rintro e u10 ⟨rfl, g10⟩
                go_wp2_with fail
                go_ret
                exact ⟨rfl, ((((gX.trans g6).trans g7).trans g8).trans g9).trans g10⟩
  · have t1 : (20 : Int) < l.length := by omega
    go_enter Try.func3, Try.ntmps3
    go_wp2_with fail
    refine (awake12_c _).mono ?_; rintro e u5 ⟨rfl, g5⟩
    go_wp2_with fail
    go_ret
    exact ⟨rfl, g5⟩

set_option maxRecDepth 100000 in
theorem lifted (os : Os) (started : os.Started) (H : Type) (enc : TypeId × Value → H) :
    ReturnsInHanded {} Try.checked os 3 .any (Rows.topkBestSpec.pre6 enc Try.prog Try.f3 Rows.topkBestRow.domain false) (Rows.topkBestSpec.post enc Try.prog Try.f3 false true false false) := by
  refine returnsInHanded_of_change (C := Try.checked) own started (by kernel_rfl) Try.func3
    (ChangeSpec.witness6 (enc := enc) (C := Try.checked) false ⟨#[], #[.slice none 0 0, .int .u8 0, .int .u8 0], []⟩ 8 (by kernel_rfl) (by kernel_rfl) (by kernel_rfl) (by kernel_rfl)) ?_
  intro W base args ds gs before hval0 hW hcnd _
  have hval : ∀ (j : Nat) t v, Try.f3.params[j]? = some t → args[j]? = some v → Value.okWide Try.prog W .any base t v := hval0
  have hW' := hW
  obtain ⟨p, q, hA0, hV, rfl, hfz, hnd⟩ := hW
  have hA : DataW.TrodAll enc Try.prog W 0 (fun _ => true) true Try.f3.params.toList args.toList ds p := hA0
  rw [Try.params3] at hA hval
  obtain ⟨v0, vs0, d0, ds0, p0, q0, hargs, rfl, rfl, h0, r0⟩ := trodAll_cons hA
  obtain ⟨v1, vs1, d1, ds1, p1, q1, rfl, rfl, rfl, h1, r1⟩ := trodAll_cons r0
  obtain ⟨v2, vs2, d2, ds2, p2, q2, rfl, rfl, rfl, h2, r2⟩ := trodAll_cons r1
  obtain ⟨rfl, rfl, rfl⟩ := trodAll_nil r2
  obtain rfl : args = #[v0, v1, v2] := by cases args; simp_all
  obtain ⟨rfl, rfl⟩ := trodVars_none hV
  have k0 := h0
  have lt0 : ∀ x ∈ p0, x.block < W.heap.size := by obtain ⟨m, hm⟩ := k0; exact DataW.trod_lt m _ _ _ hm
  obtain ⟨a0, l0, c0, e0⟩ := okWide_slice Try.underlying22 (hval 0 22 v0 rfl rfl)
  have w0 : Rd Try.prog W 22 v0 := by
    obtain ⟨fuel, hf⟩ := h0
    subst e0
    exact ⟨H, enc, fuel, _, by simpa [Value.cells] using hf⟩
  have k1 := h1
  have lt1 : ∀ x ∈ p1, x.block < W.heap.size := by obtain ⟨m, hm⟩ := k1; exact DataW.trod_lt m _ _ _ hm
  obtain ⟨n1, e1⟩ := okWide_int Try.underlying5 (hval 1 5 v1 rfl rfl)
  have w1 : Rd Try.prog W 5 v1 := by
    obtain ⟨fuel, hf⟩ := h1
    subst e1
    exact ⟨H, enc, fuel, _, by simpa [Value.cells] using hf⟩
  have k2 := h2
  have lt2 : ∀ x ∈ p2, x.block < W.heap.size := by obtain ⟨m, hm⟩ := k2; exact DataW.trod_lt m _ _ _ hm
  obtain ⟨n2, e2⟩ := okWide_int Try.underlying5 (hval 2 5 v2 rfl rfl)
  have w2 : Rd Try.prog W 5 v2 := by
    obtain ⟨fuel, hf⟩ := h2
    subst e2
    exact ⟨H, enc, fuel, _, by simpa [Value.cells] using hf⟩
  clear hA0 hval0
  refine (walk v0 v1 v2 W w0 w1 w2).mono fun e W' ⟨he, bel⟩ => ?_
  subst he
  exact ⟨_, rfl, _, _, _, [], _, [], hW', trodAll_mk1 (shut_bool Try.underlying4 _), (trodAll_cons_mk (Below.trod laidOut (by kernel_rfl) (of_decide_eq_true (by kernel_rfl)) k0 bel lt0) (trodAll_cons_mk (Below.trod laidOut (by kernel_rfl) (of_decide_eq_true (by kernel_rfl)) k1 bel lt1) (trodAll_cons_mk (Below.trod laidOut (by kernel_rfl) (of_decide_eq_true (by kernel_rfl)) k2 bel lt2) trodAll_mk0))), rfl, bel.frame _, fun h => by cases h⟩

theorem over : Rows.topkBestRow.holds Try.pinned (OpenSpec.ofChange Rows.topkBestSpec) :=
  OpenClaim.holds_of_wide 3 Try.f3 rfl rfl rfl rfl rfl rfl rfl ⟨rfl, rfl, rfl, rfl, rfl⟩ rfl rfl rfl rfl rfl (by kernel_rfl) Try.func3 (by kernel_rfl)
    (of_decide_eq_true (by kernel_rfl)) (by unfold Func.isWrapper; first | (rw [if_pos (by decide +kernel)]; kernel_rfl) | (rw [if_neg (by decide +kernel)]; exact ⟨rfl, rfl⟩))
    (fun os started H enc _ => lifted os started H enc)

theorem proved : Rows.TopkBestSaid := over
#print axioms proved
end Go.Proofs.Ytllfecgaadfkoaa.topkBest

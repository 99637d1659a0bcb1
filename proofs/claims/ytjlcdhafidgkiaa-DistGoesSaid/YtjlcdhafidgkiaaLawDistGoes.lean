/- Rows.DistGoesSaid holds: for every input the law returns true and leaves its arguments as they were. Conditions: none beside the row's own. -/
import Derived.Test.YtjlcdhafidgkiaaRows
import Derived.WalkKit
import Derived.ProofKit
import Derived.OpenShut
import Derived.ShutString
import Derived.ChangeOld
import Derived.Below
import Derived.Test.YtjlcdhafidgkiaaArgs
import Derived.Test.YtjlcdhafidgkiaaDiGoes
namespace Go.Proofs.Ytjlcdhafidgkiaa.distGoes
open Go.ChangeShapes Go.WideShapes Go.ChangeAt Go.RowKit
open Go.ChangeMaps (open_string shut_string)
open DiPlain
set_option linter.unusedVariables false
set_option linter.unusedSimpArgs false

theorem own : ownKnob Try.prog.godebug = none := by kernel_rfl
theorem laidOut : laidOutB Try.prog = true := by kernel_rfl


set_option maxRecDepth 100000 in
set_option maxHeartbeats 8000000 in
theorem walk (v0 v1 v2 v3 : Value) (w : World) (w0 : Rd Try.prog w 22 v0) (w1 : Rd Try.prog w 22 v1) (w2 : Rd Try.prog w 22 v2) (w3 : Rd Try.prog w 21 v3) :
    Calls Try.prog 4 #[v0, v1, v2, v3] w fun e w' => e = .returned (.bool true) ∧ Gr w w' := by
  obtain ⟨a, ha, hal, _⟩ := liesI_in Try.underlying22 w0
  obtain ⟨b, hb, hbl, _⟩ := liesI_in Try.underlying22 w1
  obtain ⟨c, hc, hcl, _⟩ := liesI_in Try.underlying22 w2
  obtain ⟨mv, rfl, hmv⟩ := rd_int Try.underlying21 w3
  have hmv := bounds_i32 hmv
  unfold maxLen at hal hbl hcl
  clear w0 w1 w2 w3
  have HA := Lib.hid (fun u (g : Gr w u) => ha.gr g)
  have HB := Lib.hid (fun u (g : Gr w u) => hb.gr g)
  have HC := Lib.hid (fun u (g : Gr w u) => hc.gr g)
  obtain ⟨a0, ac, rfl, _, hra⟩ := ha
  obtain ⟨b0, bc, rfl, _, hrb⟩ := hb
  obtain ⟨c0, cc, rfl, _, _⟩ := hc
  by_cases h1 : a.length ≤ 30
  · have t1 : ¬ (30 : Int) < a.length := by omega
    by_cases h2 : b.length = a.length
    · rw [h2] at HB ⊢
      by_cases h3 : c.length = a.length
      · rw [h3] at HC ⊢
        have RA := Lib.hid (fun u (g : Gr w u) => rright11_c (HA.out u g) (by omega))
        have RB := Lib.hid (fun u (g : Gr w u) => rright11_c (HB.out u g) (by omega))
        have RC := Lib.hid (fun u (g : Gr w u) => rright11_c (HC.out u g) (by omega))
        cases ra : rightV a
        · rw [ra] at RA
          clear hra hrb ra
          go_enter Try.func4, Try.ntmps4
          go_wp2_with fail
          refine (RA.out _ (Gr.refl _)).mono ?_; rintro e u1 ⟨rfl, rfl⟩
          go_wp2_with fail
          refine (awake11_c _).mono ?_; rintro e u5 ⟨rfl, g5⟩
          go_wp2_with fail
          go_ret
          exact ⟨rfl, g5⟩
        · rw [ra] at RA
          cases rb : rightV b
          · rw [rb] at RB
            clear hra hrb ra rb
            go_enter Try.func4, Try.ntmps4
            go_wp2_with fail
            refine (RA.out _ (Gr.refl _)).mono ?_; rintro e u1 ⟨rfl, rfl⟩
            go_wp2_with fail
            refine (RB.out _ (Gr.refl _)).mono ?_; rintro e u1 ⟨rfl, rfl⟩
            go_wp2_with fail
            refine (awake11_c _).mono ?_; rintro e u5 ⟨rfl, g5⟩
            go_wp2_with fail
            go_ret
            exact ⟨rfl, g5⟩
          · rw [rb] at RB
            cases rc : rightV c
            · rw [rc] at RC
              clear hra hrb ra rb rc
              go_enter Try.func4, Try.ntmps4
              go_wp2_with fail
              refine (RA.out _ (Gr.refl _)).mono ?_; rintro e u1 ⟨rfl, rfl⟩
              go_wp2_with fail
              refine (RB.out _ (Gr.refl _)).mono ?_; rintro e u1 ⟨rfl, rfl⟩
              go_wp2_with fail
              refine (RC.out _ (Gr.refl _)).mono ?_; rintro e u1 ⟨rfl, rfl⟩
              go_wp2_with fail
              refine (awake11_c _).mono ?_; rintro e u5 ⟨rfl, g5⟩
              go_wp2_with fail
              go_ret
              exact ⟨rfl, g5⟩
            · rw [rc] at RC
              have Bab := squareB_yes ra rb h2.symm
              have Bba := squareB_yes rb ra h2
              have Bac := squareB_yes ra rc h3.symm
              have Bcb := squareB_yes rc rb (by omega)
              have Baa := squareB_yes ra ra rfl
              have S1 := Lib.hid (fun u (g : Gr w u) => dsquare_c (HA.out u g) (HB.out u g) (by omega) (by omega))
              have S2 := Lib.hid (fun u (g : Gr w u) => dsquare_c (HB.out u g) (HA.out u g) (by omega) (by omega))
              have S3 := Lib.hid (fun u (g : Gr w u) => dsquare_c (HA.out u g) (HC.out u g) (by omega) (by omega))
              have S4 := Lib.hid (fun u (g : Gr w u) => dsquare_c (HC.out u g) (HB.out u g) (by omega) (by omega))
              have S5 := Lib.hid (fun u (g : Gr w u) => dsquare_c (HA.out u g) (HA.out u g) (by omega) (by omega))
              have WI1 := Lib.hid (fun u (g : Gr w u) => dwithin_c (HA.out u g) (HB.out u g) (by omega) (by omega) (far a b))
              have WI2 := Lib.hid (fun u (g : Gr w u) => dwithin_c (HA.out u g) (HB.out u g) (by omega) (by omega) (far a b - 1))
              rw [show withinB a b (far a b) = true by unfold withinB; rw [Bab]; simp] at WI1
              rw [show withinB a b (far a b - 1) = false by unfold withinB; rw [Bab]; simp; omega] at WI2
              rw [squareN_yes Bab, squareE_yes Bab] at S1
              rw [squareN_yes Bba, squareE_yes Bba, far_comm b a] at S2
              rw [squareN_yes Bac, squareE_yes Bac] at S3
              rw [squareN_yes Bcb, squareE_yes Bcb] at S4
              rw [squareN_yes Baa, squareE_yes Baa, far_self] at S5
              have f1 := far_few ra rb h1
              have f2 := far_few ra rc h1
              have f3 := far_few rc rb (by omega)
              have f4 := far_three (a := a) (b := b) (c := c) h2.symm h3.symm
              have hzero := far_zero (a := a) (b := b) h2.symm
              obtain ⟨t, ht⟩ : ∃ t, mv.tmod 1048576 = t := ⟨_, rfl⟩
              have htb : -1048576 < t ∧ t < 1048576 := by
                have e1 := Int.tmod_lt_of_pos mv (show (0 : Int) < 1048576 by omega)
                have e2 := Int.lt_tmod_of_pos mv (show (0 : Int) < 1048576 by omega)
                omega
              have HM := Lib.hid (fun (h1 : rightV (a.map (· + t)) = true) (h2 : rightV (b.map (· + t)) = true) => (show squareN (a.map (· + t)) (b.map (· + t)) = far a b ∧ squareE (a.map (· + t)) (b.map (· + t)) = 0 by
                have hB := squareB_yes h1 h2 (by simp; omega)
                exact ⟨by rw [squareN_yes hB, far_move], squareE_yes hB⟩))
              have hra1 := (rightV_parts ra).2
              have hrb1 := (rightV_parts rb).2
              have hla := (rightV_parts ra).1
              have HRA := Lib.hid hra1
              have HRB := Lib.hid hrb1
              have K1 : ∃ b1 o1, a0 = some ⟨b1, o1, none⟩ ∧ VRow w b1 o1 (ints a) := hra.elim (fun h0 => by rw [h0] at hla; simp at hla) id
              have K2 : ∃ b1 o1, b0 = some ⟨b1, o1, none⟩ ∧ VRow w b1 o1 (ints b) := hrb.elim (fun h0 => by rw [h0] at h2; simp at h2; omega) id
              obtain ⟨b1, o1, rfl, r1⟩ := K1
              obtain ⟨b2, o2, rfl, r2⟩ := K2
              have HV1 := Lib.hid r1
              have HV2 := Lib.hid r2
              have HL := Lib.hid h2
              have q1 : ((far a b) == 0) = decide (a = b) := by
                by_cases hab : a = b
                · rw [decide_eq_true hab, hzero.2 hab]; rfl
                · rw [decide_eq_false hab]
                  exact beq_eq_false_iff_ne.2 fun h => hab (hzero.1 h)
              generalize far a b = nab at S1 S2 WI1 WI2 HM f1 f4 q1
              generalize far a c = nac at S3 f2 f4
              generalize far c b = ncb at S4 f3 f4
              have q2 : (nab != nab) = false := by simp
              have q3 : (decide (a = b) == decide (a = b)) = true := by simp
              have q4 : (decide (a = b) != decide (a = b)) = false := by simp
              have f5 : ¬ nab < 0 := by omega
              have f6 : ¬ nac < 0 := by omega
              have f7 : ¬ ncb < 0 := by omega
              have f8 : ¬ 2 * (nac + ncb) < nab := by omega
              obtain ⟨i0, hi, hz0, hz1, hz2⟩ := info_parts infoI
              clear ra rb rc Bab Bba Bac Bcb Baa hzero hra hrb hra1 hrb1 r1 r2 f4 hla
              go_enter Try.func4, Try.ntmps4
              go_wp2_with fail
              refine (RA.out _ (Gr.refl _)).mono ?_; rintro e u1 ⟨rfl, rfl⟩
              go_wp2_with fail
              refine (RB.out _ (Gr.refl _)).mono ?_; rintro e u1 ⟨rfl, rfl⟩
              go_wp2_with fail
              refine (RC.out _ (Gr.refl _)).mono ?_; rintro e u1 ⟨rfl, rfl⟩
              go_wp2_with fail
              refine (S1.out _ (Gr.refl _)).mono ?_; rintro e u1 ⟨rfl, g1⟩
              go_wp2_with fail
              refine (S2.out _ g1).mono ?_; rintro e u2 ⟨rfl, g2⟩
              have g2 := g1.trans g2
              go_wp2_with fail
              refine (S3.out _ g2).mono ?_; rintro e u3 ⟨rfl, g3⟩
              have g3 := g2.trans g3
              go_wp2_with fail
              refine (S4.out _ g3).mono ?_; rintro e u4 ⟨rfl, g4⟩
              have g4 := g3.trans g4
              go_wp2_with fail
              refine (S5.out _ g4).mono ?_; rintro e u5 ⟨rfl, g5⟩
              have g5 := g4.trans g5
              go_wp2_with fail
              go_loopw [19, 20, 21, 22] (fun c X Y i wr => GoAt a b t w c X Y i wr) (fun _ _ _ i _ => a.length - (intOf i).toNat)
              case atStart => exact ⟨0, Nat.zero_le _, rfl, rfl, twoRows_nil _ _, g5⟩
              case round =>
                obtain ⟨j, hj, rfl, rfl, hrows, hbel⟩ := hrel
                have hsz := hbel.size
                by_cases hlt : j < a.length
                · obtain ⟨x, hx, hsx, hmx⟩ := take_on hlt
                  obtain ⟨y, hy, hsy, hmy⟩ := take_on (l := b) (j := j) (by rw [HL.out]; exact hlt)
                  have c1 : wr.cell? ⟨b1, o1 + j, none⟩ = some (.int .i64 x) := (HV1.out.gr (Gr.of hbel)).2 j _ (ints_at hx)
                  have c2 : wr.cell? ⟨b2, o2 + j, none⟩ = some (.int .i64 y) := (HV2.out.gr (Gr.of hbel)).2 j _ (ints_at hy)
                  have bx := HRA.out x hmx
                  have by' := HRB.out y hmy
                  have hts := take_same hsx hsy
                  have hmx2 := map_snoc (a.take j) x t
                  have hmy2 := map_snoc (b.take j) y t
                  rw [← hsx] at hmx2
                  rw [← hsy] at hmy2
                  have hxl : ((a.take j).map (· + t)).length = j := by rw [List.length_map, List.length_take]; omega
                  have hyl : ((b.take j).map (· + t)).length = j := by rw [List.length_map, List.length_take, HL.out]; omega
                  have HVY := Lib.hid (ints_at hy)
                  obtain ⟨xs, hxs⟩ : ∃ xs, (a.take j).map (· + t) = xs := ⟨_, rfl⟩
                  obtain ⟨ys, hys⟩ : ∃ ys, (b.take j).map (· + t) = ys := ⟨_, rfl⟩
                  rw [hxs] at hmx2 hxl hrows
                  rw [hys] at hmy2 hyl hrows
                  obtain ⟨cb, hcb⟩ : ∃ cb, decide (a.take j = b.take j) = cb := ⟨_, rfl⟩
                  rw [hcb] at hts
                  rw [hcb]
                  have HTS := Lib.hid hts
                  have HXS := Lib.hid hmx2
                  have HYS := Lib.hid hmy2
                  have HRW := Lib.hid hrows
                  clear hx hy hsx hsy hmx hmy hts hmx2 hmy2 hxs hys hcb hrows
                  cases cb
                  all_goals
                    go_wp2_with fail
                    go_quiet (fail)
                    rename_i nq
                    obtain ⟨Z, hZ⟩ : ∃ Z, Z = wr.drewN nq := ⟨_, rfl⟩
                    rw [← hZ]
                    have gZ : Gr wr Z := by rw [hZ]; exact grN _ _
                    have hzw : w.heap.size ≤ Z.heap.size := Nat.le_trans hsz gZ.size
                    have bZ : Below w.heap.size w Z := Below.trans hbel (gZ.mono hsz)
                    have d1 : Z.cell? ⟨b1, o1 + j, none⟩ = some (.int .i64 x) := cellZ gZ c1
                    have hown := (HRW.out.gr gZ).x
                    clear c1 c2 hZ
                    go_wp2_with (first
                      | (at_builtin; refine wpList_append_own_at _ rfl _ _ 22 rfl w.heap.size 3 i0 (.int .i64 0) 1 8 Try.underlying22 hi hz0 hz1 hz2 rfl (by decide) _ _ _ rfl (hown.alloc _) ⟨Z.heap.size, 0, none⟩ 1 1 [.int .i64 (x + t)] rfl ?c0 ?c1 ?c2 ?c3 ?c4 ?c5 ?_)
                      | go_in)
                    case c0 => rfl
                    case c1 =>
                      intro jj z hjz
                      match jj, hjz with
                      | 0, hjz => simp at hjz; subst hjz; simp [Addr.add]
                    case c2 => intro z hz; simp at hz; subst hz; rfl
                    case c3 => unfold maxLen; omega
                    case c4 => omega
                    case c5 => simp only [World.size_alloc]; omega
                    intro X' w2 hown2 hgrow _ hat
                    have b2' : Below w.heap.size w w2 := (bZ.alloc (by omega) _).grown hgrow (by simp only [World.size_alloc]; omega) (fun q hq => (HRW.out.x.lt q hq).1)
                    have rows2 := HRW.out.app (gZ.trans (grA Z _)) (by rw [hxl]; exact hown2) hgrow (by rw [World.size_alloc]; exact hat)
                    have HR2 := Lib.hid rows2
                    have d2 : w2.cell? ⟨b2, o2 + j, none⟩ = some (.int .i64 y) := (HV2.out.gr (Gr.of b2')).2 j _ HVY.out
                    have hw2 : w.heap.size ≤ w2.heap.size := b2'.size
                    have hownY := rows2.y
                    clear hown hown2 hgrow hat rows2 d1
                    go_wp2_with (first
                      | (at_builtin; refine wpList_append_own_at _ rfl _ _ 22 rfl w.heap.size 3 i0 (.int .i64 0) 1 8 Try.underlying22 hi hz0 hz1 hz2 rfl (by decide) _ _ _ rfl (hownY.alloc _) ⟨w2.heap.size, 0, none⟩ 1 1 [.int .i64 (y + t)] rfl ?c0 ?c1 ?c2 ?c3 ?c4 ?c5 ?_)
                      | go_in)
                    case c0 => rfl
                    case c1 =>
                      intro jj z hjz
                      match jj, hjz with
                      | 0, hjz => simp at hjz; subst hjz; simp [Addr.add]
                    case c2 => intro z hz; simp at hz; subst hz; rfl
                    case c3 => unfold maxLen; omega
                    case c4 => omega
                    case c5 => simp only [World.size_alloc]; omega
                    intro Y' w3 hown3 hgrow3 _ hat3
                    have b3' : Below w.heap.size w w3 := (b2'.alloc (by omega) _).grown hgrow3 (by simp only [World.size_alloc]; omega) (fun q hq => (HR2.out.y.lt q hq).1)
                    have rows3 := (HR2.out.swap.app (grA w2 _) (by rw [hyl]; exact hown3) hgrow3 (by rw [World.size_alloc]; exact hat3)).swap
                    have HR3 := Lib.hid rows3
                    clear hownY hown3 hgrow3 hat3 rows3 d2
                    go_wp2
                    refine ⟨⟨j + 1, by omega, rfl, ?_, by rw [HXS.out, HYS.out]; exact HR3.out, b3'⟩, ?_⟩
                    · rw [HTS.out]; first | (simp; done) | (simp; rfl)
                    · simp [intOf]; omega
                · obtain rfl : j = a.length := by omega
                  have hta : a.take a.length = a := List.take_length
                  have htb2 : b.take a.length = b := List.take_of_length_le (by rw [HL.out]; exact Nat.le_refl _)
                  rw [hta, htb2] at hrows ⊢
                  have hxl : (a.map (· + t)).length = a.length := by simp
                  have hyl : (b.map (· + t)).length = a.length := by rw [List.length_map]; exact HL.out
                  have LX := Lib.hid (fun u (g : Gr wr u) => liesI_own (hrows.gr g).x)
                  have LY := Lib.hid (fun u (g : Gr wr u) => liesI_own (hrows.gr g).y)
                  have TX := Lib.hid (fun u (g : Gr wr u) => rright11_c (LX.out u g) (by omega))
                  have TY := Lib.hid (fun u (g : Gr wr u) => rright11_c (LY.out u g) (by omega))
                  have gW : Gr w wr := Gr.of hbel
                  cases rx : rightV (a.map (· + t))
                  · rw [rx] at TX
                    clear hrows hta htb2 rx hxl hyl
                    go_wp2_with fail
                    refine (TX.out _ (Gr.refl _)).mono ?_; rintro e u6 ⟨rfl, rfl⟩
                    go_wp2_with fail
                    refine (WI1.out _ gW).mono ?_; rintro e u7 ⟨rfl, g7⟩
                    go_wp2_with fail
                    refine (WI2.out _ (gW.trans g7)).mono ?_; rintro e u8 ⟨rfl, g8⟩
                    go_wp2_with fail
                    refine (awake11_c _).mono ?_; rintro e u9 ⟨rfl, g9⟩
                    go_wp2_with fail
                    go_ret
                    exact ⟨rfl, ((gW.trans g7).trans g8).trans g9⟩
                  · rw [rx] at TX
                    cases ry : rightV (b.map (· + t))
                    · rw [ry] at TY
                      clear hrows hta htb2 rx ry hxl hyl
                      go_wp2_with fail
                      refine (TX.out _ (Gr.refl _)).mono ?_; rintro e u6 ⟨rfl, rfl⟩
                      go_wp2_with fail
                      refine (TY.out _ (Gr.refl _)).mono ?_; rintro e u6 ⟨rfl, rfl⟩
                      go_wp2_with fail
                      refine (WI1.out _ gW).mono ?_; rintro e u7 ⟨rfl, g7⟩
                      go_wp2_with fail
                      refine (WI2.out _ (gW.trans g7)).mono ?_; rintro e u8 ⟨rfl, g8⟩
                      go_wp2_with fail
                      refine (awake11_c _).mono ?_; rintro e u9 ⟨rfl, g9⟩
                      go_wp2_with fail
                      go_ret
                      exact ⟨rfl, ((gW.trans g7).trans g8).trans g9⟩
                    · rw [ry] at TY
                      have DX := dsquare_c (LX.out wr (Gr.refl _)) (LY.out wr (Gr.refl _)) (by omega) (by omega)
                      rw [(HM.out rx ry).1, (HM.out rx ry).2] at DX
                      have HDX := Lib.hid DX
                      clear hrows hta htb2 rx ry hxl hyl DX
                      go_wp2_with fail
                      refine (TX.out _ (Gr.refl _)).mono ?_; rintro e u6 ⟨rfl, rfl⟩
                      go_wp2_with fail
                      refine (TY.out _ (Gr.refl _)).mono ?_; rintro e u6 ⟨rfl, rfl⟩
                      go_wp2_with fail
                      refine HDX.out.mono ?_; rintro e u6 ⟨rfl, g6⟩
                      go_wp2_with fail
                      refine (WI1.out _ (gW.trans g6)).mono ?_; rintro e u7 ⟨rfl, g7⟩
                      go_wp2_with fail
                      refine (WI2.out _ ((gW.trans g6).trans g7)).mono ?_; rintro e u8 ⟨rfl, g8⟩
                      go_wp2_with fail
                      refine (awake11_c _).mono ?_; rintro e u9 ⟨rfl, g9⟩
                      go_wp2_with fail
                      go_ret
                      exact ⟨rfl, (((gW.trans g6).trans g7).trans g8).trans g9⟩
      · have t3 : ((c.length : Int) != (a.length : Int)) = true := by simp; omega
        clear hra hrb
        go_enter Try.func4, Try.ntmps4
        go_wp2_with fail
        refine (awake11_c _).mono ?_; rintro e u5 ⟨rfl, g5⟩
        go_wp2_with fail
        go_ret
        exact ⟨rfl, g5⟩
    · have t2 : ((b.length : Int) != (a.length : Int)) = true := by simp; omega
      clear hra hrb
      go_enter Try.func4, Try.ntmps4
      go_wp2_with fail
      refine (awake11_c _).mono ?_; rintro e u5 ⟨rfl, g5⟩
      go_wp2_with fail
      go_ret
      exact ⟨rfl, g5⟩
  · have t1 : (30 : Int) < a.length := by omega
    clear hra hrb
    go_enter Try.func4, Try.ntmps4
    go_wp2_with fail
    refine (awake11_c _).mono ?_; rintro e u5 ⟨rfl, g5⟩
    go_wp2_with fail
    go_ret
    exact ⟨rfl, g5⟩

set_option maxRecDepth 100000 in
theorem lifted (os : Os) (started : os.Started) (H : Type) (enc : TypeId × Value → H) :
    ReturnsInHanded {} Try.checked os 4 .any (Rows.distGoesSpec.pre6 enc Try.prog Try.f4 Rows.distGoesRow.domain false) (Rows.distGoesSpec.post enc Try.prog Try.f4 false true false false) := by
  refine returnsInHanded_of_change (C := Try.checked) own started (by kernel_rfl) Try.func4
    (ChangeSpec.witness6 (enc := enc) (C := Try.checked) false ⟨#[], #[.slice none 0 0, .slice none 0 0, .slice none 0 0, .int .i32 0], []⟩ 8 (by kernel_rfl) (by kernel_rfl) (by kernel_rfl) (by kernel_rfl)) ?_
  intro W base args ds gs before hval0 hW hcnd _
  have hval : ∀ (j : Nat) t v, Try.f4.params[j]? = some t → args[j]? = some v → Value.okWide Try.prog W .any base t v := hval0
  have hW' := hW
  obtain ⟨p, q, hA0, hV, rfl, hfz, hnd⟩ := hW
  have hA : DataW.TrodAll enc Try.prog W 0 (fun _ => true) true Try.f4.params.toList args.toList ds p := hA0
  rw [Try.params4] at hA hval
  obtain ⟨v0, vs0, d0, ds0, p0, q0, hargs, rfl, rfl, h0, r0⟩ := trodAll_cons hA
  obtain ⟨v1, vs1, d1, ds1, p1, q1, rfl, rfl, rfl, h1, r1⟩ := trodAll_cons r0
  obtain ⟨v2, vs2, d2, ds2, p2, q2, rfl, rfl, rfl, h2, r2⟩ := trodAll_cons r1
  obtain ⟨v3, vs3, d3, ds3, p3, q3, rfl, rfl, rfl, h3, r3⟩ := trodAll_cons r2
  obtain ⟨rfl, rfl, rfl⟩ := trodAll_nil r3
  obtain rfl : args = #[v0, v1, v2, v3] := by cases args; simp_all
  obtain ⟨rfl, rfl⟩ := trodVars_none hV
  have k0 := h0
  have lt0 : ∀ x ∈ p0, x.block < W.heap.size := by obtain ⟨m, hm⟩ := k0; exact DataW.trod_lt m _ _ _ hm
  obtain ⟨a0, l0, c0, e0⟩ := okWide_slice Try.underlying22 (hval 0 22 v0 rfl rfl)
  have w0 : Rd Try.prog W 22 v0 := by
    obtain ⟨fuel, hf⟩ := h0
    subst e0
    exact ⟨H, enc, fuel, _, by simpa [Value.cells] using hf⟩
  have k1 := h1
  have lt1 : ∀ x ∈ p1, x.block < W.heap.size := by obtain ⟨m, hm⟩ := k1; exact DataW.trod_lt m _ _ _ hm
  obtain ⟨a1, l1, c1, e1⟩ := okWide_slice Try.underlying22 (hval 1 22 v1 rfl rfl)
  have w1 : Rd Try.prog W 22 v1 := by
    obtain ⟨fuel, hf⟩ := h1
    subst e1
    exact ⟨H, enc, fuel, _, by simpa [Value.cells] using hf⟩
  have k2 := h2
  have lt2 : ∀ x ∈ p2, x.block < W.heap.size := by obtain ⟨m, hm⟩ := k2; exact DataW.trod_lt m _ _ _ hm
  obtain ⟨a2, l2, c2, e2⟩ := okWide_slice Try.underlying22 (hval 2 22 v2 rfl rfl)
  have w2 : Rd Try.prog W 22 v2 := by
    obtain ⟨fuel, hf⟩ := h2
    subst e2
    exact ⟨H, enc, fuel, _, by simpa [Value.cells] using hf⟩
  have k3 := h3
  have lt3 : ∀ x ∈ p3, x.block < W.heap.size := by obtain ⟨m, hm⟩ := k3; exact DataW.trod_lt m _ _ _ hm
  obtain ⟨n3, e3⟩ := okWide_int Try.underlying21 (hval 3 21 v3 rfl rfl)
  have w3 : Rd Try.prog W 21 v3 := by
    obtain ⟨fuel, hf⟩ := h3
    subst e3
    exact ⟨H, enc, fuel, _, by simpa [Value.cells] using hf⟩
  clear hA0 hval0
  refine (walk v0 v1 v2 v3 W w0 w1 w2 w3).mono fun e W' ⟨he, bel⟩ => ?_
  subst he
  exact ⟨_, rfl, _, _, _, [], _, [], hW', trodAll_mk1 (shut_bool Try.underlying4 _), (trodAll_cons_mk (Below.trod laidOut (by kernel_rfl) (of_decide_eq_true (by kernel_rfl)) k0 bel lt0) (trodAll_cons_mk (Below.trod laidOut (by kernel_rfl) (of_decide_eq_true (by kernel_rfl)) k1 bel lt1) (trodAll_cons_mk (Below.trod laidOut (by kernel_rfl) (of_decide_eq_true (by kernel_rfl)) k2 bel lt2) (trodAll_cons_mk (Below.trod laidOut (by kernel_rfl) (of_decide_eq_true (by kernel_rfl)) k3 bel lt3) trodAll_mk0)))), rfl, bel.frame _, fun h => by cases h⟩

theorem over : Rows.distGoesRow.holds Try.pinned (OpenSpec.ofChange Rows.distGoesSpec) :=
  OpenClaim.holds_of_wide 4 Try.f4 rfl rfl rfl rfl rfl rfl rfl ⟨rfl, rfl, rfl, rfl, rfl⟩ rfl rfl rfl rfl rfl (by kernel_rfl) Try.func4 (by kernel_rfl)
    (of_decide_eq_true (by kernel_rfl)) (by unfold Func.isWrapper; first | (rw [if_pos (by decide +kernel)]; kernel_rfl) | (rw [if_neg (by decide +kernel)]; exact ⟨rfl, rfl⟩))
    (fun os started H enc _ => lifted os started H enc)

theorem proved : Rows.DistGoesSaid := over
#print axioms proved
end Go.Proofs.Ytjlcdhafidgkiaa.distGoes

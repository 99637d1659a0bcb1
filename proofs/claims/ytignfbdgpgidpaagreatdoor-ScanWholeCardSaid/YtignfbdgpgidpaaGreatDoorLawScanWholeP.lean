/- Rows.ScanWholeSaid holds: for every input the law returns true and leaves its arguments as they were. Conditions: none beside the row's own. -/
import Derived.Test.YtignfbdgpgidpaaGreatDoorRows
import Derived.WalkKit
import Derived.ProofKit
import Derived.OpenShut
import Derived.ShutString
import Derived.ChangeOld
import Derived.Below
import Derived.Test.YtignfbdgpgidpaaGreatDoorW00
import Derived.Test.YtignfbdgpgidpaaGreatDoorW30
import Derived.Test.YtignfbdgpgidpaaGreatDoorW37
import Derived.Test.YtignfbdgpgidpaaGreatDoorW42
import Derived.Test.YtignfbdgpgidpaaGreatDoorW28
import Derived.Test.YtignfbdgpgidpaaGreatDoorTie
import Derived.Test.YtignfbdgpgidpaaGreatDoorCards
import Derived.LaidMore
import Derived.SevenTiedAt
import Derived.Stop.Joined
namespace Go.Proofs.YtignfbdgpgidpaaGreatDoor.scanWhole
open Go.ChangeShapes Go.WideShapes Go.ChangeAt Go.RowKit
open Go.ChangeMaps (open_string shut_string)
open FsPlain CrcPlain OctPlain MnPlain CmPlain ScPlain FramePlain RecPlain
set_option linter.unusedVariables false
set_option linter.unusedSimpArgs false
theorem own : ownKnob Tryz.prog.godebug = none := by kernel_rfl
theorem laidOut : laidOutB Tryz.prog = true := by kernel_rfl
set_option maxRecDepth 100000 in
set_option maxHeartbeats 8000000 in
theorem walk (v0 v1 v2 v3 v4 v5 : Value) (w : World) (w0 : Rd Tryz.prog w 9 v0) (w1 : RdAgg Tryz.prog w 48 v1) (w2 : Rd Tryz.prog w 5 v2) (w3 : Rd Tryz.prog w 23 v3) (w4 : Rd Tryz.prog w 67 v4) (w5 : Rd Tryz.prog w 46 v5) (wL : laidMetH Tryz.prog Rows.scanWholeRow.laid w) :
    Calls Tryz.prog 5 #[v0, v1, v2, v3, v4, v5] w fun e w' => e = .returned (.bool true) ∧ Gr w w' := by
  obtain ⟨S, rfl, hSm⟩ := rd_string Tryz.underlying9 w0
  obtain ⟨f, rfl, hfK⟩ := fl_in w1
  obtain ⟨z0, rfl, hz0⟩ := rd_int Tryz.underlying5 w2
  obtain ⟨l, hl, hlm, hls⟩ := lies_in Tryz.underlying23 w3
  obtain ⟨at_, rfl, hat⟩ := rd_int Tryz.underlying67 w4
  obtain ⟨bits_, rfl, hbits⟩ := rd_int Tryz.underlying46 w5
  have bz : 0 ≤ z0 ∧ z0 ≤ 255 := by
    have h := hz0
    simp only [Lit.wf, Bool.and_eq_true, decide_eq_true_eq] at h
    exact h
  have b4 := bounds_u16 hat
  have b5 := bounds_u32 hbits
  obtain ⟨at', rfl⟩ : ∃ p : Nat, at_ = p := ⟨at_.toNat, by omega⟩
  obtain ⟨bi, rfl⟩ : ∃ q : Nat, bits_ = q := ⟨bits_.toNat, by omega⟩
  clear w0 w1 w2 w3 w4 w5 hat hbits hz0 hls
  unfold maxLen at hlm hSm
  have HL := Lib.hid (fun u (g : Gr w u) => hl.gr g)
  obtain ⟨la, lc, rfl, hlc, -⟩ := hl
  have AW := Lib.hid (fun u => awake22_c u)
  obtain ⟨fname, fsize, fcount, fsum⟩ := f
  obtain ⟨hk1, hk2, hk3, hk4, hk5⟩ := hfK
  simp only at hk1 hk2 hk3 hk4 hk5
  unfold maxLen at hk1
  have D0 := Lib.hid ((Qs.blk_new (Qs.nil w) #[.string fname, .int .i64 fsize, .int .i64 fcount, .int .u32 fsum] 48 rfl).set 0 rfl 0 (.string ⟨#[97]⟩))
  have c0 : (w.alloc (.cells #[.string fname, .int .i64 fsize, .int .i64 fcount, .int .u32 fsum] 48)).cell? ⟨w.heap.size, 0, none⟩ = some (.string fname) := by rw [cells_at (heap_alloc_new w _)]; rfl
  have c0f : (w.alloc (.cells #[.string fname, .int .i64 fsize, .int .i64 fcount, .int .u32 fsum] 48)).frozen? ⟨w.heap.size, 0, none⟩ = false := cells_free (heap_alloc_new w _) 0
  have GA : Gr w (w.alloc (.cells #[.string fname, .int .i64 fsize, .int .i64 fcount, .int .u32 fsum] 48)) := gr22 w _
  have F := few6_c (HL.out _ GA) 20 (by omega) (by omega)
  obtain ⟨V0, hV0⟩ : ∃ V, w.alloc (.cells #[.string fname, .int .i64 fsize, .int .i64 fcount, .int .u32 fsum] 48) = V := ⟨_, rfl⟩
  rw [hV0] at D0 c0 c0f F GA
  have HV0 := Lib.hid hV0
  have GA := Lib.hid GA
  clear hV0
  by_cases h7 : 700 < S.size
  · have h7' : (700 : Int) < (S.size : Int) := by omega
    clear h7 F D0 HL
    go_enter Tryz.func5, Tryz.ntmps5
    go_wp2_with fail
    rw [HV0.out]
    refine (AW.out _).mono ?_; rintro e u ⟨rfl, g⟩
    go_wp2_with fail
    go_ret
    exact ⟨rfl, GA.out.trans g⟩
  have h7' : ¬ (700 : Int) < (S.size : Int) := by omega
  cases hf : few6 l 20
  · rw [hf] at F
    clear hf h7 D0 HL
    go_enter Tryz.func5, Tryz.ntmps5
    go_wp2_with fail
    rw [HV0.out]
    refine F.mono ?_; rintro e u ⟨rfl, rfl⟩
    go_wp2_with fail
    refine (AW.out _).mono ?_; rintro e u ⟨rfl, g⟩
    go_wp2_with fail
    go_ret
    exact ⟨rfl, GA.out.trans g⟩
  rw [hf] at F
  obtain ⟨hl20, hl80⟩ := few6_yes hf
  clear hf
  by_cases h40 : 40 < fname.size
  · have h40' : (40 : Int) < (fname.size : Int) := by omega
    clear h40 h7 hl20 hl80 D0 HL
    go_enter Tryz.func5, Tryz.ntmps5
    go_wp2_with fail
    rw [HV0.out]
    refine F.mono ?_; rintro e u ⟨rfl, rfl⟩
    go_wp2_with fail
    refine (AW.out _).mono ?_; rintro e u ⟨rfl, g⟩
    go_wp2_with fail
    go_ret
    exact ⟨rfl, GA.out.trans g⟩
  have h40' : ¬ (40 : Int) < (fname.size : Int) := by omega
  have HL80 := Lib.hid hl80
  have S7 : S.size ≤ 700 := by omega
  clear h40 h7 hl80
  go_enter Tryz.func5, Tryz.ntmps5
  go_wp2_with fail
  rw [HV0.out]
  refine F.mono ?_; rintro e u ⟨rfl, rfl⟩
  clear F
  go_wp2_with fail
  have D1 := Lib.hid (show Ps [Blk w.heap.size #[.string ⟨#[97]⟩, .int .i64 fsize, .int .i64 fcount, .int .u32 fsum] 48] w _ from D0.out)
  obtain ⟨V1, hV1⟩ : ∃ V, V0.setCell ⟨w.heap.size, 0, none⟩ (.string ⟨#[97]⟩) = V := ⟨_, rfl⟩
  rw [hV1] at D1
  have HV1 := Lib.hid hV1
  clear hV1 D0 c0 c0f
  have C1 := Lib.hid (wh_new D1.out)
  try rw [HV1.out]
  refine C1.out.mono ?_; rintro e u1 ⟨p, rfl, d1⟩
  have C2 := Lib.hid (wh_rnew d1)
  clear d1 C1 D1
  go_wp2_with fail
  refine C2.out.mono ?_; rintro e u2 ⟨d, rfl, d2⟩
  have C3 := Lib.hid (wh_bnew d2)
  clear d2 C2
  go_wp2_with fail
  refine C3.out.mono ?_; rintro e u3 ⟨q, rfl, d3⟩
  have C4 := Lib.hid (wh_c1 d3)
  clear d3 C3
  go_wp2_with fail
  refine C4.out.mono ?_; rintro e u4 ⟨rfl, d4⟩
  have C5 := Lib.hid (wh_c2 d4 S (by omega))
  clear d4 C4
  go_wp2_with fail
  refine C5.out.mono ?_; rintro e u5 ⟨rfl, d5⟩
  have C6 := Lib.hid (wh_c3 d5)
  clear d5 C5
  go_wp2_with fail
  refine C6.out.mono ?_; rintro e u6 ⟨rfl, d6⟩
  have C7 := Lib.hid (wh_d1 d6)
  clear d6 C6
  go_wp2_with fail
  refine C7.out.mono ?_; rintro e u7 ⟨rfl, d7⟩
  have C8 := Lib.hid (wh_d2 d7 S (by omega))
  clear d7 C7
  go_wp2_with fail
  refine C8.out.mono ?_; rintro e u8 ⟨rfl, d8⟩
  have FC := Lib.hid (fun (s : St) (b : Bu) (t : St) (u : World) (h : W3 p q d s b t [Blk w.heap.size #[.string ⟨#[97]⟩, .int .i64 fsize, .int .i64 fcount, .int .u32 fsum] 48] w u) => fl_cells22 (Qs.blk h 3 rfl))
  obtain ⟨k0, k1, k2, k3⟩ := FC.out _ _ _ _ d8
  have C9 := Lib.hid (wh_a d8 (stB_wd S.data.toList) ⟨rfl, rfl, by decide⟩ (by decide) (by rw [data_length]; omega) fsize fcount fsum hk2 hk3)
  clear d8 C8
  go_wp2_with fail
  refine C9.out.mono ?_; rintro e u9 ⟨s1, b1, r1, rfl, hw1, hz1, hr1, d9⟩
  clear C9
  obtain ⟨k0, k1, k2, k3⟩ := FC.out _ _ _ _ d9
  cases hsz : sizeB fsize with
  | false =>
    obtain rfl := bool_no hr1 (whole_size hsz)
    have hbad : fsize < 1 ∨ (¬ fsize < 1 ∧ 64 < fsize) := by
      simp only [sizeB, decide_eq_false_iff_not] at hsz
      omega
    have e1 : (if false = true then (0 : Int) else 1) = 1 := rfl
    rw [e1]
    have G9 := Lib.hid d9.gr
    clear hsz hr1 hw1 hz1 d9 hk1 hk2 hk3 hk4 hk5 HL FC
    rcases hbad with x1 | ⟨x1, x2⟩
    · go_wp2_with fail
      refine (AW.out _).mono ?_; rintro e u ⟨rfl, g⟩
      have G := Lib.hid (G9.out.trans g)
      clear g
      go_wp2_with fail
      go_ret
      exact ⟨rfl, G.out⟩
    · go_wp2_with fail
      refine (AW.out _).mono ?_; rintro e u ⟨rfl, g⟩
      have G := Lib.hid (G9.out.trans g)
      clear g
      go_wp2_with fail
      go_ret
      exact ⟨rfl, G.out⟩
  | true =>
    have e1 : (if true = true then (0 : Int) else 1) = 0 := rfl
    rw [e1]
    have ⟨x1, x2⟩ : ¬ fsize < 1 ∧ ¬ 64 < fsize := by
      simp only [sizeB, decide_eq_true_eq] at hsz
      omega
    have R1 := Lib.hid hr1
    have W1 := Lib.hid hw1
    have Z1 := Lib.hid hz1
    have D9 := Lib.hid d9
    have CR := Lib.hid (wh_ref d9 (by omega) fsize fcount fsum hk2)
    clear hsz hr1 hw1 hz1 d9 hk1 hk2 hk3 hk4 hk5 e1
    go_wp2_with fail
    refine CR.out.mono ?_; rintro e v1 ⟨r2, rfl, hr2, dv1⟩
    obtain rfl := bool_same R1.out hr2
    have DV1 := Lib.hid dv1
    have CN := Lib.hid (wh_now dv1 Z1.out)
    clear hr2 dv1 CR D9 R1
    have hx1 : (r1 != r1) = false := by cases r1 <;> rfl
    go_wp2_with fail
    refine CN.out.mono ?_; rintro e v2 ⟨rfl, rfl⟩
    clear CN k0 k1 k2 k3 x1 x2
    obtain ⟨n, hn⟩ : ∃ n : Nat, 1 + z0 % 64 = (n : Int) := ⟨(1 + z0 % 64).toNat, by omega⟩
    have n1 : 1 ≤ n := by omega
    have n64 : n ≤ 64 := by omega
    have CL := Lib.hid (rlay_c (HL.out _ DV1.out.gr) n (by unfold I64; omega) (by omega) (fun s hs => by have := HL80.out s hs; omega))
    go_wp2_with fail
    refine CL.out.mono ?_; rintro e v3 ⟨rfl, g3⟩
    have DV3 := Lib.hid (DV1.out.on g3)
    clear g3 CL DV1
    cases hlb : layB n l with
    | false =>
      clear hlb HL HL80 FC W1 Z1
      go_wp2_with fail
      refine (AW.out _).mono ?_; rintro e u ⟨rfl, g⟩
      have G := Lib.hid (DV3.out.gr.trans g)
      clear g
      go_wp2_with fail
      go_ret
      exact ⟨rfl, G.out⟩
    | true =>
    by_cases hl0 : l.length = 0
    · have t1 : ((l.length : Int) == 0) = true := by rw [hl0]; rfl
      clear hlb hl0 HL HL80 FC W1 Z1
      go_wp2_with fail
      refine (AW.out _).mono ?_; rintro e u ⟨rfl, g⟩
      have G := Lib.hid (DV3.out.gr.trans g)
      clear g
      go_wp2_with fail
      go_ret
      exact ⟨rfl, G.out⟩
    have t1 : ((l.length : Int) == 0) = false := by rw [beq_eq_false_iff_ne]; omega
    have CS := Lib.hid (rsum_c (HL.out _ DV3.out.gr) (by omega) (fun s hs => by have := HL80.out s hs; omega))
    have LB := Lib.hid hlb
    have LF := Lib.hid (lay_file hlb)
    have LZ := Lib.hid (wh_size hlb n64 hl20)
    have LY := Lib.hid (layR_yes hlb)
    have l1 : 1 ≤ l.length := by omega
    clear hlb hl0 HL80
    go_wp2_with fail
    refine CS.out.mono ?_; rintro e v4 ⟨rfl, g4⟩
    have d4 := DV3.out.on g4
    have i0 := inf_cells22 (heap_alloc_new v4 (.cells #[.int .i64 (l.length : Nat), .int .u32 (sumN l : Nat)] 50))
    obtain ⟨i0, i1⟩ := i0
    have d5 := w3_blk (w3_blk d4 #[.int .i64 (l.length : Nat), .int .u32 (sumN l : Nat)] 50 rfl) #[.string ⟨#[98]⟩, .int .i64 (n : Int), .int .i64 (l.length : Nat), .int .u32 (sumN l : Nat)] 48 rfl
    obtain ⟨V5, hV5⟩ : ∃ V, (v4.alloc (.cells #[.int .i64 (l.length : Nat), .int .u32 (sumN l : Nat)] 50)).alloc (.cells #[.string ⟨#[98]⟩, .int .i64 (n : Int), .int .i64 (l.length : Nat), .int .u32 (sumN l : Nat)] 48) = V := ⟨_, rfl⟩
    obtain ⟨H, hH⟩ : ∃ x, v4.heap.size + 1 = x := ⟨_, rfl⟩
    have hH2 : (v4.alloc (.cells #[.int .i64 (l.length : Nat), .int .u32 (sumN l : Nat)] 50)).heap.size = H := by rw [← hH]; simp
    rw [hV5, hH2] at d5
    have HV5 := Lib.hid hV5
    have HH := Lib.hid hH
    obtain ⟨M, hM⟩ : ∃ M, [Blk H #[.string ⟨#[98]⟩, .int .i64 (n : Int), .int .i64 (l.length : Nat), .int .u32 (sumN l : Nat)] 48, Blk v4.heap.size #[.int .i64 (l.length : Nat), .int .u32 (sumN l : Nat)] 50, Blk w.heap.size #[.string ⟨#[97]⟩, .int .i64 fsize, .int .i64 fcount, .int .u32 fsum] 48] = M := ⟨_, rfl⟩
    rw [hM] at d5
    have KH := Lib.hid (fun (s : St) (b : Bu) (t : St) (u : World) (h : W3 p q d s b t M w u) => fl_cells22 (Qs.blk (show W3 p q d s b t [Blk H #[.string ⟨#[98]⟩, .int .i64 (n : Int), .int .i64 (l.length : Nat), .int .u32 (sumN l : Nat)] 48, Blk v4.heap.size #[.int .i64 (l.length : Nat), .int .u32 (sumN l : Nat)] 50, Blk w.heap.size #[.string ⟨#[97]⟩, .int .i64 fsize, .int .i64 fcount, .int .u32 fsum] 48] w u from hM ▸ h) 3 rfl))
    have CA := Lib.hid (wh_app d5 W1.out (by decide) (by rw [data_length]; omega) (layR n l) LZ.out)
    clear g4 d4 d5 CS DV3 hV5 hH hH2 hM
    go_wp2_with fail
    rw [HV5.out]
    rw [HH.out]
    refine CA.out.mono ?_; rintro e v6 ⟨s2, rfl, hw2, d6⟩
    have CB := Lib.hid (wh_b d6 hw2 Z1.out (by decide) (by rw [data_length]; exact LZ.out) n l.length (sumN l) (by unfold I64; omega) (by unfold I64; omega))
    obtain ⟨k0, k1, k2, k3⟩ := KH.out _ _ _ _ d6
    clear hw2 d6 CA i0 i1 HV5 W1 Z1
    go_wp2_with fail
    refine CB.out.mono ?_; rintro e v7 ⟨s3, b3, r3, rfl, hw3, hz3, hr3, d7⟩
    have D7 := Lib.hid d7
    have W3' := Lib.hid hw3
    have Z3 := Lib.hid hz3
    obtain rfl : r3 = true := hr3.2 ⟨l, by rw [bs_toList]; exact LF.out, rfl, rfl⟩
    have e2 : (if sizeB (n : Int) = true then (0 : Int) else 1) = 0 := by
      have : sizeB (n : Int) = true := by simp [sizeB]; omega
      rw [this]; rfl
    rw [e2]
    clear hr3 d7 hw3 hz3 CB k0 k1 k2 k3 e2
    obtain ⟨k, m, A, Bm, E, F, fr, N⟩ := wh_nums n1 n64 l1 hl20 at' bi
    have NH := Lib.hid N
    obtain ⟨kE, mE, aE, bE, k4, m4, km, aM, bM, fE, eE, frI, frF, frE, eT, _, _, _, _, _⟩ := N
    have m40 := m4.1
    have m41 := m4.2
    have e8 : (8 : Int) * (11 + (A : Int) + 1) = (F : Int) := by omega
    have e9 : (8 : Int) * (11 + (A : Int) + 1 + (Bm : Int) + 4) = (E : Int) := by omega
    obtain ⟨g, hg⟩ : ∃ g, fr - F = g := ⟨_, rfl⟩
    rw [hg, Int.natCast_ediv] at frI
    have frI : (bi : Int) / 256 % ((E : Int) - (F : Int)) = (g : Int) := frI
    have e10 : (F : Int) + (g : Int) = (fr : Int) := by omega
    have eM : E ≤ 128 + 8 * 1044 + 8 * 256 := by omega
    have hTl : (layL n l).length = 28 + 5 * ((l.length + 3) / 4) + l.length * n := layL_length LB.out
    have hTX : (layR n l).data.toList = layL n l := LF.out.2
    have TZ : (layL n l).length ≤ 3000 := by rw [← hTX, data_length]; exact LZ.out
    have ET : E ≤ 8 * (layL n l).length := by rw [hTl]; exact eT
    rw [hTX] at W3'
    obtain ⟨T0, hT0⟩ : ∃ T, layL (n : Int) l = T := ⟨_, rfl⟩
    rw [hT0] at W3' ET TZ
    have HT0 := Lib.hid hT0
    have HS3 := Lib.hid (show S.data.toList.length ≤ 3000 by rw [data_length]; omega)
    have ATS := Lib.hid (show WhAt p q d b3 (RdPlain.stA 1048576 S) M S.data.toList T0 fr E bi (3 + 100000 + 1 + 100000) w (.bool false) (.int .i64 0) v7 from ⟨0, s3, T0, false, by omega, by omega, rfl, rfl, D7.out, W3'.out, Turn.start _ _ _, ⟨fun h => (by cases h), fun h => absurd (by rw [Nat.pow_zero, Nat.mod_one]) h⟩⟩)
    clear hg fE eE frF eT m4 hTl hTX hT0 LF LY LZ D7 W3'
    go_wp2_with fail
    clear kE mE aE bE e8 e9 e10 frI
    go_loopw [31, 32] (fun v1 v2 wr => WhAt p q d b3 (RdPlain.stA 1048576 S) M S.data.toList T0 fr E bi (3 + 100000 + 1 + 100000) w v1 v2 wr) (fun _ v _ => 32 - (intOf v).toNat)
    case atStart => exact ATS.out
    case round =>
      obtain ⟨j, s4, l', sm, hj, hE, rfl, rfl, dd, hw, ht, hs⟩ := hrel
      have hll : l'.length = T0.length := ht.1
      by_cases hlt : j < 32 ∧ fr + j < E
      · obtain ⟨j32, jE⟩ := hlt
        have q1 : (j : Int) < 32 := by omega
        have q2 : (fr : Int) + (j : Int) < (E : Int) := by omega
        by_cases hbit : bi / 2 ^ j % 2 = 1
        · have e1 := bit_is bi j (by omega) hbit
          have CT := Lib.hid (by
            have := wh_turn dd hw (fr + j) (by omega)
            rw [Int.natCast_add] at this
            exact this)
          have NX := Lib.hid (fun (u : World) (l2 : List UInt8) (s5 : St) (h2 : Turn l' l2 (fr + j) 1) (hw2 : Wd s5 S.data.toList l2 (3 + 100000 + 1 + 100000)) (d2 : W3 p q d s5 b3 (RdPlain.stA 1048576 S) M w u) => show WhAt p q d b3 (RdPlain.stA 1048576 S) M S.data.toList T0 fr E bi (3 + 100000 + 1 + 100000) w (.bool true) (.int .i64 ((j : Int) + 1)) u from ⟨j + 1, s5, l2, true, by omega, by omega, rfl, by rw [Int.natCast_add]; rfl, d2, hw2, ht.more h2 hbit, ⟨fun _ => low_pos _ _ hbit, fun _ => rfl⟩⟩)
          clear dd hw ht hs hbit hj hE
          go_wp2_with fail
          refine CT.out.mono ?_; rintro e u5 ⟨l2, s5, rfl, h2, hw2, d2⟩
          have NX2 := Lib.hid (NX.out u5 l2 s5 h2 hw2 d2)
          clear h2 hw2 d2 NX CT
          go_wp2_with fail
          refine ⟨NX2.out, ?_⟩
          simp [intOf]; omega
        · have e1 := bit_not bi j (by omega) (by omega)
          have NX := Lib.hid (show WhAt p q d b3 (RdPlain.stA 1048576 S) M S.data.toList T0 fr E bi (3 + 100000 + 1 + 100000) w (.bool sm) (.int .i64 ((j : Int) + 1)) wr from ⟨j + 1, s4, l', sm, by omega, by omega, rfl, by rw [Int.natCast_add]; rfl, dd, hw, ht.off (by omega), by rw [low_same _ _ (by omega)]; exact hs⟩)
          clear dd hw ht hs hbit hj hE
          go_wp2_with fail
          refine ⟨NX.out, ?_⟩
          simp [intOf]; omega
      · have CB := Lib.hid (wh_b dd hw Z3.out (by decide) (by rw [hll]; exact TZ) n l.length (sumN l) (by unfold I64; omega) (by unfold I64; omega))
        obtain ⟨k0, k1, k2, k3⟩ := KH.out _ _ _ _ dd
        have LST := Lib.hid (fun (r : Bool) (hr : r = true ↔ WholeB l' n l.length (sumN l)) => wh_last NH.out LB.out l1 (by rw [HT0.out]; exact ht) hE hj hs hr)
        have e2 : (if sizeB (n : Int) = true then (0 : Int) else 1) = 0 := by
          have : sizeB (n : Int) = true := by simp [sizeB]; omega
          rw [this]; rfl
        have q1 : ¬ (j : Int) < 32 ∨ ((j : Int) < 32 ∧ ¬ (fr : Int) + (j : Int) < (E : Int)) := by omega
        have E2 := Lib.hid e2
        clear dd hw ht hs hlt e2
        rcases q1 with q1 | ⟨q1, q2⟩
        · go_wp2_with fail
          refine CB.out.mono ?_; rintro e v9 ⟨s6, b6, r6, rfl, hw6, hz6, hr6, d10⟩
          have hrs := LST.out r6 hr6
          have CC := Lib.hid (wh_c d10 hw6 hz6 (by decide) 1 0 0 (by unfold I64; omega) (by unfold I64; omega))
          rw [E2.out]
          cases sm
          · obtain rfl : r6 = true := hrs
            clear hr6 d10 hw6 hz6 CB LST k0 k1 k2 k3
            go_wp2_with fail
            refine CC.out.mono ?_; rintro e v10 ⟨s7, b7, rfl, hw7, hz7, d11⟩
            rw [show (if sizeB 1 = true then (0 : Int) else 1) = 0 from rfl]
            have CHI := Lib.hid (wh_high d11 hz7)
            have G11 := Lib.hid d11.gr
            clear hw7 hz7 d11 CC
            go_wp2_with fail
            refine CHI.out.mono ?_; rintro e v12 ⟨x, rfl, hx, rfl⟩
            go_wp2_with fail
            refine (AW.out _).mono ?_; rintro e u ⟨rfl, g⟩
            have G := Lib.hid (G11.out.trans g)
            clear g
            go_wp2_with fail
            go_ret
            exact ⟨rfl, G.out⟩
          · obtain rfl : r6 = false := hrs
            clear hr6 d10 hw6 hz6 CB LST k0 k1 k2 k3
            go_wp2_with fail
            refine CC.out.mono ?_; rintro e v10 ⟨s7, b7, rfl, hw7, hz7, d11⟩
            rw [show (if sizeB 1 = true then (0 : Int) else 1) = 0 from rfl]
            have CHI := Lib.hid (wh_high d11 hz7)
            have G11 := Lib.hid d11.gr
            clear hw7 hz7 d11 CC
            go_wp2_with fail
            refine CHI.out.mono ?_; rintro e v12 ⟨x, rfl, hx, rfl⟩
            go_wp2_with fail
            refine (AW.out _).mono ?_; rintro e u ⟨rfl, g⟩
            have G := Lib.hid (G11.out.trans g)
            clear g
            go_wp2_with fail
            go_ret
            exact ⟨rfl, G.out⟩
        · go_wp2_with fail
          refine CB.out.mono ?_; rintro e v9 ⟨s6, b6, r6, rfl, hw6, hz6, hr6, d10⟩
          have hrs := LST.out r6 hr6
          have CC := Lib.hid (wh_c d10 hw6 hz6 (by decide) 1 0 0 (by unfold I64; omega) (by unfold I64; omega))
          rw [E2.out]
          cases sm
          · obtain rfl : r6 = true := hrs
            clear hr6 d10 hw6 hz6 CB LST k0 k1 k2 k3
            go_wp2_with fail
            refine CC.out.mono ?_; rintro e v10 ⟨s7, b7, rfl, hw7, hz7, d11⟩
            rw [show (if sizeB 1 = true then (0 : Int) else 1) = 0 from rfl]
            have CHI := Lib.hid (wh_high d11 hz7)
            have G11 := Lib.hid d11.gr
            clear hw7 hz7 d11 CC
            go_wp2_with fail
            refine CHI.out.mono ?_; rintro e v12 ⟨x, rfl, hx, rfl⟩
            go_wp2_with fail
            refine (AW.out _).mono ?_; rintro e u ⟨rfl, g⟩
            have G := Lib.hid (G11.out.trans g)
            clear g
            go_wp2_with fail
            go_ret
            exact ⟨rfl, G.out⟩
          · obtain rfl : r6 = false := hrs
            clear hr6 d10 hw6 hz6 CB LST k0 k1 k2 k3
            go_wp2_with fail
            refine CC.out.mono ?_; rintro e v10 ⟨s7, b7, rfl, hw7, hz7, d11⟩
            rw [show (if sizeB 1 = true then (0 : Int) else 1) = 0 from rfl]
            have CHI := Lib.hid (wh_high d11 hz7)
            have G11 := Lib.hid d11.gr
            clear hw7 hz7 d11 CC
            go_wp2_with fail
            refine CHI.out.mono ?_; rintro e v12 ⟨x, rfl, hx, rfl⟩
            go_wp2_with fail
            refine (AW.out _).mono ?_; rintro e u ⟨rfl, g⟩
            have G := Lib.hid (G11.out.trans g)
            clear g
            go_wp2_with fail
            go_ret
            exact ⟨rfl, G.out⟩
theorem door_met (os : Os) (args : Array Value) : laidMetH Tryz.prog Rows.scanWholeRow.laid ((World.doorLaid Tryz.prog 24 os).forCall (fun _ _ => 0) ⟨#[], args, []⟩).memory :=
  laidMetH_of_parts3 (fuel := 8) (laidMet_of_run' 8 (by kernel_rfl) (by kernel_rfl)) (by kernel_rfl) (by kernel_rfl)
set_option maxRecDepth 100000 in
theorem lifted (os : Os) (started : os.Started) (H : Type) (enc : TypeId × Value → H) :
    ReturnsInHanded {} Tryz.checked os 5 .any (fun w args => (Rows.scanWholeSpec.pre enc Tryz.prog Tryz.f5 [] false w args ∧ laidMetH Tryz.prog Rows.scanWholeRow.laid w) ∧ sizedMet enc Tryz.prog Tryz.f5 (OpenSpec.ofChange Rows.scanWholeSpec) false w args) (Rows.scanWholeSpec.post enc Tryz.prog Tryz.f5 false true false false) := by
  refine returnsInHanded_of_change_and (C := Tryz.checked) (X := fun w _ => laidMetH Tryz.prog Rows.scanWholeRow.laid w) (fun _ _ _ hh h => h.of_heap hh) own started (by kernel_rfl) Tryz.func5
    (ChangeSpec.witness_shaped (enc := enc) (C := Tryz.checked) (os := os) (X := fun w _ => laidMetH Tryz.prog Rows.scanWholeRow.laid w) false (World.doorLaid Tryz.prog 24 os) #[.string ByteArray.empty, .agg #[.string ByteArray.empty, .int .i64 0, .int .i64 0, .int .u32 0], .int .u8 0, .slice none 0 0, .int .u16 0, .int .u32 0] 8 rfl (World.shaped_of_RefB (by kernel_rfl) (by kernel_rfl)) (by kernel_rfl) (by kernel_rfl) (by kernel_rfl) (door_met os _)) ?_
  intro W base args ds gs before hval0 hW _ _ hL _
  have hval : ∀ (j : Nat) t v, Tryz.f5.params[j]? = some t → args[j]? = some v → Value.okWide Tryz.prog W .any base t v := hval0
  have hW' := hW
  obtain ⟨p, q, hA0, hV, rfl, hfz, hnd⟩ := hW
  have hA : DataW.TrodAll enc Tryz.prog W 0 (fun _ => true) true Tryz.f5.params.toList args.toList ds p := hA0
  rw [Tryz.params5] at hA hval
  obtain ⟨v0, vs0, d0, ds0, p0, q0, hargs, rfl, rfl, h0, r0⟩ := trodAll_cons hA
  obtain ⟨v1, vs1, d1, ds1, p1, q1, rfl, rfl, rfl, h1, r1⟩ := trodAll_cons r0
  obtain ⟨v2, vs2, d2, ds2, p2, q2, rfl, rfl, rfl, h2, r2⟩ := trodAll_cons r1
  obtain ⟨v3, vs3, d3, ds3, p3, q3, rfl, rfl, rfl, h3, r3⟩ := trodAll_cons r2
  obtain ⟨v4, vs4, d4, ds4, p4, q4, rfl, rfl, rfl, h4, r4⟩ := trodAll_cons r3
  obtain ⟨v5, vs5, d5, ds5, p5, q5, rfl, rfl, rfl, h5, r5⟩ := trodAll_cons r4
  obtain ⟨rfl, rfl, rfl⟩ := trodAll_nil r5
  obtain rfl : args = #[v0, v1, v2, v3, v4, v5] := by cases args; simp_all
  obtain ⟨rfl, rfl⟩ := trodVars_none hV
  have k0 := h0
  have lt0 : ∀ x ∈ p0, x.block < W.heap.size := by obtain ⟨m, hm⟩ := k0; exact DataW.trod_lt m _ _ _ hm
  obtain ⟨n0, e0⟩ := okWide_string Tryz.underlying9 (hval 0 9 v0 rfl rfl)
  have w0 : Rd Tryz.prog W 9 v0 := by
    obtain ⟨fuel, hf⟩ := h0
    subst e0
    exact ⟨H, enc, fuel, _, by simpa [Value.cells] using hf⟩
  have k1 := h1
  have lt1 : ∀ x ∈ p1, x.block < W.heap.size := by obtain ⟨m, hm⟩ := k1; exact DataW.trod_lt m _ _ _ hm
  have w1 : RdAgg Tryz.prog W 48 v1 := rd_agg Tryz.underlying48 (by kernel_rfl) (by kernel_rfl) (hval 1 48 v1 rfl rfl) h1
  have k2 := h2
  have lt2 : ∀ x ∈ p2, x.block < W.heap.size := by obtain ⟨m, hm⟩ := k2; exact DataW.trod_lt m _ _ _ hm
  obtain ⟨n2, e2⟩ := okWide_int Tryz.underlying5 (hval 2 5 v2 rfl rfl)
  have w2 : Rd Tryz.prog W 5 v2 := by
    obtain ⟨fuel, hf⟩ := h2
    subst e2
    exact ⟨H, enc, fuel, _, by simpa [Value.cells] using hf⟩
  have k3 := h3
  have lt3 : ∀ x ∈ p3, x.block < W.heap.size := by obtain ⟨m, hm⟩ := k3; exact DataW.trod_lt m _ _ _ hm
  obtain ⟨a3, l3, c3, e3⟩ := okWide_slice Tryz.underlying23 (hval 3 23 v3 rfl rfl)
  have w3 : Rd Tryz.prog W 23 v3 := by
    obtain ⟨fuel, hf⟩ := h3
    subst e3
    exact ⟨H, enc, fuel, _, by simpa [Value.cells] using hf⟩
  have k4 := h4
  have lt4 : ∀ x ∈ p4, x.block < W.heap.size := by obtain ⟨m, hm⟩ := k4; exact DataW.trod_lt m _ _ _ hm
  obtain ⟨n4, e4⟩ := okWide_int Tryz.underlying67 (hval 4 67 v4 rfl rfl)
  have w4 : Rd Tryz.prog W 67 v4 := by
    obtain ⟨fuel, hf⟩ := h4
    subst e4
    exact ⟨H, enc, fuel, _, by simpa [Value.cells] using hf⟩
  have k5 := h5
  have lt5 : ∀ x ∈ p5, x.block < W.heap.size := by obtain ⟨m, hm⟩ := k5; exact DataW.trod_lt m _ _ _ hm
  obtain ⟨n5, e5⟩ := okWide_int Tryz.underlying46 (hval 5 46 v5 rfl rfl)
  have w5 : Rd Tryz.prog W 46 v5 := by
    obtain ⟨fuel, hf⟩ := h5
    subst e5
    exact ⟨H, enc, fuel, _, by simpa [Value.cells] using hf⟩
  clear hA0 hval0
  refine (walk v0 v1 v2 v3 v4 v5 W w0 w1 w2 w3 w4 w5 hL).mono fun e W' ⟨he, bel⟩ => ?_
  subst he
  exact ⟨_, rfl, _, _, _, [], _, [], hW', trodAll_mk1 (shut_bool Tryz.underlying4 _), (trodAll_cons_mk (Below.trod laidOut (by kernel_rfl) (of_decide_eq_true (by kernel_rfl)) k0 bel lt0) (trodAll_cons_mk (Below.trod laidOut (by kernel_rfl) (of_decide_eq_true (by kernel_rfl)) k1 bel lt1) (trodAll_cons_mk (Below.trod laidOut (by kernel_rfl) (of_decide_eq_true (by kernel_rfl)) k2 bel lt2) (trodAll_cons_mk (Below.trod laidOut (by kernel_rfl) (of_decide_eq_true (by kernel_rfl)) k3 bel lt3) (trodAll_cons_mk (Below.trod laidOut (by kernel_rfl) (of_decide_eq_true (by kernel_rfl)) k4 bel lt4) (trodAll_cons_mk (Below.trod laidOut (by kernel_rfl) (of_decide_eq_true (by kernel_rfl)) k5 bel lt5) trodAll_mk0)))))), rfl, bel.frame _, fun h => by cases h⟩
theorem over : Rows.scanWholeRow.holds Tryz.pinned (OpenSpec.ofChange Rows.scanWholeSpec) :=
  OpenClaim.holds_of_wide 5 Tryz.f5 rfl rfl rfl rfl rfl rfl rfl ⟨rfl, rfl, rfl, rfl, rfl⟩ rfl rfl rfl rfl rfl (by kernel_rfl) Tryz.func5 (by kernel_rfl)
    (of_decide_eq_true (by kernel_rfl)) (by unfold Func.isWrapper; first | (rw [if_pos (by decide +kernel)]; kernel_rfl) | (rw [if_neg (by decide +kernel)]; exact ⟨rfl, rfl⟩))
    (fun os started H enc _ => lifted os started H enc)
theorem proved : Rows.ScanWholeCardSaid :=
  Claim7.holds_tied_plain_at .later [] [.data, .data, .data] true (true, "5cd68afcb9ed6da0acd7bbebbf77a50a3cf06ce5e33d9c2beb645bca1aa7441b") false
    over (fun _ h => by cases h) (by kernel_rfl) (fun _ h => by cases h) scanWhole_row_tie rfl ⟨rfl, rfl⟩ (by kernel_rfl) rfl
    (fun f fn hf hfn => by
      obtain rfl : f = 5 := Option.some.inj ((show Tryz.prog.funcNamed Rows.scanWholeRow.func = some 5 by kernel_rfl).symm.trans hf) |>.symm
      obtain rfl : fn = Tryz.f5 := (Option.some.inj (Tryz.func5.symm.trans hfn)).symm
      exact ⟨by kernel_rfl, fun j t ht => by
        rw [Tryz.params5] at ht
        have hm : t ∈ [9, 48, 5, 23, 67, 46] := by simpa using Array.mem_of_getElem? ht
        have hall : ([9, 48, 5, 23, 67, 46].all fun u => !Tryz.prog.wantsStandIn u) = true := by kernel_rfl
        exact (show Tryz.prog.wantsStandIn t = false by simpa using List.all_eq_true.1 hall t hm)⟩)
    (by kernel_rfl)
#print axioms proved
end Go.Proofs.YtignfbdgpgidpaaGreatDoor.scanWhole

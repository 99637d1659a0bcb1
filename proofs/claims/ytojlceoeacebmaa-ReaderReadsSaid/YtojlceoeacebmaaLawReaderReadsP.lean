/- Rows.ReaderReadsSaid holds: for every input the law returns true and leaves its arguments as they were. Conditions: none beside the row's own. -/
import Derived.Test.YtojlceoeacebmaaRows
import Derived.WalkKit
import Derived.ProofKit
import Derived.OpenShut
import Derived.ShutString
import Derived.ChangeOld
import Derived.Below
import Derived.Test.YtojlceoeacebmaaP00
import Derived.Test.YtojlceoeacebmaaP23
namespace Go.Proofs.Ytojlceoeacebmaa.readerReads
open Go.ChangeShapes Go.WideShapes Go.ChangeAt Go.RowKit
open Go.ChangeMaps (open_string shut_string)
open FsPlain CrcPlain OctPlain FramePlain RecPlain RdPlain
set_option linter.unusedVariables false
set_option linter.unusedSimpArgs false

theorem own : ownKnob Try.prog.godebug = none := by kernel_rfl
theorem laidOut : laidOutB Try.prog = true := by kernel_rfl


set_option maxRecDepth 100000 in
set_option maxHeartbeats 4000000 in
theorem walk (v0 v1 v2 : Value) (w : World) (w0 : Rd Try.prog w 5 v0) (w1 : Rd Try.prog w 22 v1) (w2 : Rd Try.prog w 9 v2) :
    Calls Try.prog 3 #[v0, v1, v2] w fun e w' => e = .returned (.bool true) ∧ Gr w w' := by
  obtain ⟨z0, rfl, hw0⟩ := rd_int Try.underlying5 w0
  obtain ⟨l, hl, hlm, hls⟩ := lies_in Try.underlying22 w1
  obtain ⟨S, rfl, hw2⟩ := rd_string Try.underlying9 w2
  have hk : 0 ≤ z0 ∧ z0 ≤ 255 := by
    have h := hw0
    simp only [Lit.wf, Bool.and_eq_true, decide_eq_true_eq] at h
    exact h
  clear w0 w1 w2 hw0 hls
  unfold maxLen at hlm hw2
  have F := few6_c hl 30 (by omega) (by omega)
  have HL := Lib.hid (fun u (g : Gr w u) => hl.gr g)
  obtain ⟨la, lc, rfl, hlc, hrow⟩ := hl
  have HF := Lib.hid F
  obtain ⟨nn, hnn⟩ : ∃ nn : Int, nn = 1 + z0 % 64 := ⟨_, rfl⟩
  have hn1 : 1 ≤ nn := by omega
  have hn2 : nn ≤ 64 := by omega
  clear hrow F
  cases hf : few6 l 30
  · have F := HF.out
    rw [hf] at F
    go_enter Try.func3, Try.ntmps3
    go_wp2_with fail
    refine F.mono ?_; rintro e u ⟨rfl, rfl⟩
    go_wp2_with fail
    refine (awake9_c _).mono ?_; rintro e u7 ⟨rfl, g7⟩
    go_wp2_with fail
    go_ret
    exact ⟨rfl, g7⟩
  · have F := HF.out
    rw [hf] at F
    obtain ⟨hl30, hl80⟩ := few6_yes hf
    have HL80 := Lib.hid hl80
    clear hf HF hl80
    by_cases h7 : 700 < S.size
    · have h7' : (700 : Int) < (S.size : Int) := by omega
      clear h7
      go_enter Try.func3, Try.ntmps3
      go_wp2_with fail
      refine F.mono ?_; rintro e u ⟨rfl, rfl⟩
      go_wp2_with fail
      refine (awake9_c _).mono ?_; rintro e u7 ⟨rfl, g7⟩
      go_wp2_with fail
      go_ret
      exact ⟨rfl, g7⟩
    · have h7' : decide (700 < S.size) = false := by simpa using h7
      have h7'' : (S.size : Int) ≤ 700 := by omega
      clear h7
      have HZ := Lib.hid (show sizeB nn = true by simp [sizeB]; omega)
      have HKN := Lib.hid (show I64 nn by unfold I64; omega)
      have C1 := Lib.hid (new_c 1048576 (by decide) (by decide))
      have C2 := Lib.hid (fun u => bu_new 4 u (by decide) (by decide))
      have CL := Lib.hid (fun u (g : Gr w u) => rlay_c (HL.out u g) nn HKN.out (by omega) (fun s hs => by have := HL80.out s hs; omega))
      obtain ⟨n, hn⟩ : ∃ n, l.length = n := ⟨_, rfl⟩
      have HN := Lib.hid hn
      have HLF := Lib.hid (show layB nn l = true → IsFile nn (layR nn l) l ∧ (layR nn l).size ≤ 3000 from fun h => ⟨lay_file h, lay_size3 h hl30⟩)
      have HL30 := Lib.hid hl30
      obtain ⟨LR, hLR⟩ : ∃ LR, LR = layR nn l := ⟨_, rfl⟩
      obtain ⟨lb, hlb⟩ : ∃ lb, lb = layB nn l := ⟨_, rfl⟩
      rw [← hLR, ← hlb] at CL HLF
      rw [hn] at hlm hlc hl30 CL F
      clear hLR hlb HL HL80
      simp only [hn]
      clear hn
      go_enter Try.func3, Try.ntmps3
      go_wp2_with fail
      rw [← hnn]
      clear hnn hk
      refine F.mono ?_; rintro e u ⟨rfl, rfl⟩
      clear F
      go_wp2_with fail
      refine (C1.out _).mono ?_; rintro e u1 hb
      obtain ⟨p, B1, rfl, hd1, g1, hn1'⟩ := hb
      have N1 := Lib.hid (show Nx (fun _ => False) w B1 u1 from ⟨Only.ofGr g1, fun b hb => .inr (hn1' b hb)⟩)
      have Q1 := Lib.hid hd1
      clear hd1 g1 hn1'
      go_wp2_with fail
      refine (C2.out _).mono ?_; rintro e u2 ⟨rfl, hd2, g2⟩
      obtain ⟨E2, q2, n2⟩ := part_new (P := BuA u1.heap.size ⟨4, 0, 0⟩) (L := [DiskA p (fresh 1048576)]) ⟨fr_disk _ _, trivial⟩ (stars_one Q1.out) g2 hd2 (fun b hb => by omega)
      obtain ⟨pb, hpb⟩ : ∃ pb, pb = u1.heap.size := ⟨_, rfl⟩
      rw [← hpb] at q2 ⊢
      have Q2 := Lib.hid (show stars [DiskA p (fresh 1048576), BuA pb ⟨4, 0, 0⟩] u2 E2 from stars_perm (List.Perm.swap _ _ _) q2)
      have N2 := Lib.hid (N1.out.trans n2)
      clear hd2 g2 q2 n2 hpb Q1 N1
      go_wp2_with fail
      refine (CL.out _ (nx_gr N2.out)).mono ?_; rintro e u3 ⟨rfl, g3⟩
      have Q3 := Lib.hid (stars_gr (L := [DiskA p (fresh 1048576), BuA pb ⟨4, 0, 0⟩]) ⟨fr_disk _ _, fr_bu _ _, trivial⟩ Q2.out g3)
      have N3' := Lib.hid (N2.out.trans (Nx.gr g3))
      clear g3 Q2 N2 C1 C2 CL
      go_upto_if 51 with (fail)
      go_cut [2] (fun sv wx => BytesAt w p pb nn sv wx)
      case first =>
        cases lb
        · go_wp2_with fail
          go_meet
          exact ⟨S, rfl, by omega, .inl (by omega), E2, Q3.out, N3'.out⟩
        · go_wp2_with fail
          go_meet
          obtain ⟨k1, k2⟩ := HLF.out (by trivial)
          exact ⟨LR, rfl, k2, .inr ⟨l, k1, HL30.out⟩, E2, Q3.out, N3'.out⟩
      case rest =>
        obtain ⟨D, rfl, hD3, hD, E4, q4, n4⟩ := hcut
        have HD := Lib.hid hD
        have Q4 := Lib.hid q4
        have N4 := Lib.hid n4
        have CP := Lib.hid (fun u => rparse_q nn HKN.out D hD3 u)
        clear hD q4 n4 Q3 N3' HLF HL30 h7' h7''
        go_wp2_with fail
        refine (CP.out _).mono ?_; rintro e u5 ⟨al, av, pc, ps, pe, E5, rfl, hPH, hQ5, hE5, g5⟩
        obtain ⟨Ba, qa, na⟩ := part_new (P := QueA av al) (L := [DiskA p (fresh 1048576), BuA pb ⟨4, 0, 0⟩]) ⟨fr_disk _ _, fr_bu _ _, trivial⟩ Q4.out g5 hQ5 hE5
        obtain ⟨Bb, qb, nb⟩ := part_new (P := Blk u5.heap.size (infR pc ps) 35) (B' := fun b => b = u5.heap.size) (L := [QueA av al, DiskA p (fresh 1048576), BuA pb ⟨4, 0, 0⟩]) ⟨fr_que _ _, fr_disk _ _, fr_bu _ _, trivial⟩ qa ((Gr.refl u5).alloc (Nat.le_refl _) (.cells (infR pc ps) 35)) ⟨heap_alloc_new u5 _, fun _ => Iff.rfl⟩ (fun b hb => by omega)
        obtain ⟨q, hq⟩ : ∃ q, q = u5.heap.size := ⟨_, rfl⟩
        obtain ⟨V, hV⟩ : ∃ V, V = u5.alloc (.cells (infR pc ps) 35) := ⟨_, rfl⟩
        rw [← hq, ← hV] at qb
        rw [← hV] at nb
        have qc : stars [DiskA p (fresh 1048576), BuA pb ⟨4, 0, 0⟩, QueA av al, Blk q (infR pc ps) 35] V Bb := stars_perm ((List.perm_append_comm (l₁ := [Blk q (infR pc ps) 35, QueA av al]) (l₂ := [DiskA p (fresh 1048576), BuA pb ⟨4, 0, 0⟩])).trans (.cons _ (.cons _ (List.Perm.swap _ _ _)))) qb
        have K5 := Lib.hid (does_at (f := 10) (args := #[.pointer (some ⟨p, 0, none⟩), .string nmA]) (v := .int .i64 0) (L := [DiskA p (fresh 1048576), BuA pb ⟨4, 0, 0⟩, QueA av al, Blk q (infR pc ps) 35]) (Q := DiskA p (stC 1048576)) 0 rfl ⟨fr_disk _ _, fr_bu _ _, fr_que _ _, fr_blk _ _ _, trivial⟩ qc fun B h => by have := d_create p (fresh 1048576) nmA (by decide) nmA_right (by decide) V B h; rw [st_create] at this; exact this)
        have N5 := Lib.hid ((N4.out.trans na).trans nb)
        have HV := Lib.hid (show V = u5.alloc (.cells #[.int .i64 pc, .int .u32 ps] 35) from hV)
        have HQ := Lib.hid hq
        have HPH := Lib.hid hPH
        clear hQ5 hE5 g5 qa na qb nb qc hq hV hPH Q4 N4 CP
        go_wp2_with fail
        rw [← HQ.out, ← HV.out]
        change Calls _ _ #[_, .string nmA] _ _
        refine K5.out.mono ?_; rintro e u6 ⟨rfl, E6, q6, n6⟩
        have K6 := Lib.hid (does_at (f := 11) (args := #[.pointer (some ⟨p, 0, none⟩), .string nmA, .string D]) (v := .int .i64 0) (L := [DiskA p (stC 1048576), BuA pb ⟨4, 0, 0⟩, QueA av al, Blk q (infR pc ps) 35]) (Q := DiskA p (stA 1048576 D)) 0 rfl ⟨fr_disk _ _, fr_bu _ _, fr_que _ _, fr_blk _ _ _, trivial⟩ q6 fun B h => by have := d_append p (stC 1048576) nmA D (by decide) nmA_right (by decide) (by omega) u6 B h; rw [st_append 1048576 D (by omega)] at this; exact this)
        have N6 := Lib.hid (N5.out.trans n6)
        clear q6 n6 K5
        go_wp2_with fail
        change Calls _ _ #[_, .string nmA, _] _ _
        refine K6.out.mono ?_; rintro e u7 ⟨rfl, E7, q7, n7⟩
        obtain ⟨R, hR⟩ : ∃ R, R = openN (stA 1048576 D) ⟨4, 0, 0⟩ nmA nn := ⟨_, rfl⟩
        have HRO := Lib.hid (read_open HZ.out hD3 R hR)
        obtain ⟨E8, q8, K8⟩ := pre_nx [DiskA p (stA 1048576 D), BuA pb ⟨4, 0, 0⟩] (M := [QueA av al, Blk q (infR pc ps) 35]) ⟨fr_que _ _, fr_blk _ _ _, trivial⟩ q7
        have CO := rp_open p pb (stA 1048576 D) ⟨4, 0, 0⟩ nmA nn HKN.out (stA_ok (by decide) (by decide) (by omega)) nmA_size nmA_right (show (2 : Int) ≤ 100000000000 by decide) u7 E8 q8
        rw [← hR] at CO
        have COH := Lib.hid CO
        have HK8 := Lib.hid K8
        have N7 := Lib.hid (N6.out.trans n7)
        clear q7 n7 K6 q8 K8 CO hR
        go_wp2_with fail
        change Calls _ _ #[_, _, .string nmA, _] _ _
        by_cases hc0 : R.2.2.1 = 0
        · refine COH.out.mono ?_; rintro e v1 hmade
          obtain ⟨-, x, rfl, E9, q9, n9⟩ | ⟨hc1, _⟩ := hmade
          rotate_left
          · exact absurd hc0 hc1
          have hRN : ReadN ⟨R.1, R.2.1, newRs nmA nn R.2.2.2⟩ D nn [] := by
            rcases HRO.out with h | h
            · exact h.2
            · rw [hc0] at h; exact absurd h.1 (by decide)
          obtain ⟨E10, q10, n10⟩ := HK8.out [RP3 x p pb ⟨R.1, R.2.1, newRs nmA nn R.2.2.2⟩] _ _ (stars_one q9) n9
          obtain ⟨E11, q11, n11⟩ := part_new (w' := v1) (P := RowA (.slice none 0 0) []) (L := [RP3 x p pb ⟨R.1, R.2.1, newRs nmA nn R.2.2.2⟩, QueA av al, Blk q (infR pc ps) 35]) ⟨fr_rp3 _ _ _ _, fr_que _ _, fr_blk _ _ _, trivial⟩ q10 (Gr.refl _) (row_nil _) (fun b hb => hb.elim)
          have HST := Lib.hid (show ReadsAt w x p pb D nn av al q pc ps (.slice none 0 0) (.int .i64 0) v1 from ⟨[], _, rfl, hRN, E11, q11, (N7.out.trans n10).trans n11⟩)
          clear q9 n9 q10 n10 q11 n11 HK8 COH hRN HRO N7 N6 N5 HV HQ hc0
          go_wp2_with fail
          go_loopw [17, 18, 19] (fun fv sv iv wr => fv = .int .i64 0 ∧ ReadsAt w x p pb D nn av al q pc ps sv iv wr) (fun fv sv iv _ => 800 - (intOf iv).toNat)
          case atStart => exact ⟨rfl, HST.out⟩
          case round =>
            obtain ⟨rfl, got, m, rfl, hRN, B, hB, hNx⟩ := hrel
            have hfew := hRN.few HD.out
            obtain ⟨k, hk⟩ : ∃ k, got.length = k := ⟨_, rfl⟩
            have hk8 : (k : Int) < 800 := by omega
            have hk9 : k ≤ 689 := by omega
            have CN := r4_next hRN hfew hB
            obtain ⟨_, hrw, _⟩ := part_at 0 rfl hB
            obtain ⟨sa, cs, rfl, _⟩ := rowE_shape hrw
            have hnx := read_next hRN hD3
            obtain ⟨⟨M, a, pp, er⟩, hM⟩ : ∃ X, X = nextN m := ⟨_, rfl⟩
            rw [← hM] at CN hnx
            unfold ansV at CN
            have CNH := Lib.hid CN
            have HNX := Lib.hid hNx
            have HKK := Lib.hid hk
            simp only [hk]
            clear HST CN hB hrw hM hNx hRN hfew hk
            rcases hnx with ⟨rfl, hRN⟩ | ⟨rfl, hLast⟩
            · have HRN := Lib.hid hRN
              clear hRN
              go_wp2_with fail
              refine CNH.out.mono ?_; rintro e u4 hd
              obtain ⟨rfl, B4, h4, n4⟩ := hd
              obtain ⟨_, hr4, _⟩ := part_at 0 rfl h4
              have RW := Lib.hid hr4.1
              have H4 := Lib.hid h4
              have N4 := Lib.hid (HNX.out.trans n4)
              obtain ⟨i0, hi', hz0, hz1, hz2⟩ := info_parts infoS
              clear h4 n4 hr4 CNH
              go_wp2_with (at_builtin; refine wpList_append_own_at _ rfl _ _ 22 rfl 0 9 i0 (.string ⟨#[]⟩) 1 16 Try.underlying22 hi' hz0 hz1 hz2 rfl (by decide) (.slice sa k cs) k (strs got) rfl (by have := RW.out; rw [HKK.out] at this; exact this.alloc _) ⟨u4.heap.size, 0, none⟩ 1 1 [.string a] rfl rfl (cell_one_new _ _ _) (by simp [Value.oneCell']) (by unfold maxLen; omega) (by omega) (Nat.zero_le _) ?_)
              intro v5 w5 ho5 hg5 _ ha5
              obtain ⟨B5, h5, n5⟩ := r4_app H4.out HKK.out ((Gr.refl u4).alloc (Nat.le_refl _) (.cells #[.string a] 9)) ho5 (by rw [HKK.out]; exact hg5) (by rw [HKK.out, World.size_alloc]; exact ha5)
              have REL := Lib.hid (show ReadsAt w x p pb D nn av al q pc ps v5 (.int .i64 ((k : Int) + 1)) w5 from ⟨got ++ [a], M, by rw [List.length_append, HKK.out]; rfl, HRN.out, B5, h5, N4.out.trans n5⟩)
              clear ho5 hg5 ha5 h5 n5 H4 RW hi' hz0 hz1 hz2
              go_wp2_with fail
              refine ⟨⟨rfl, REL.out⟩, ?_⟩
              simp [intOf]; omega
            · have HLA := Lib.hid hLast
              clear hLast
              go_wp2_with fail
              refine CNH.out.mono ?_; rintro e u4 hd
              obtain ⟨rfl, B4, h4, n4⟩ := hd
              obtain ⟨Br, hr, _⟩ := part_at 1 rfl h4
              have hbu := rp_bu hr
              rw [HLA.out.bud] at hbu
              have CNO := Lib.hid (bnow_c pb ⟨4, 0, 4⟩ u4 hbu)
              have CHI := Lib.hid (bhigh_c pb ⟨4, 0, 4⟩ u4 hbu)
              have H4 := Lib.hid h4
              have N4 := Lib.hid (HNX.out.trans n4)
              clear h4 n4 CNH hr hbu
              go_wp2_with fail
              refine CNO.out.mono ?_; rintro e u5 ⟨rfl, rfl⟩
              go_wp2_with fail
              refine CHI.out.mono ?_; rintro e u5 ⟨rfl, rfl⟩
              rcases HPH.out with ⟨rfl, hF, hpc, hps⟩ | ⟨rfl, hno⟩
              · have hhow : er = 0 ∧ got = al ∧ M.x.whole = true ∧ M.x.ec = pc ∧ M.x.em = ps := by
                  rcases HLA.out.how with ⟨h1, h2, h3, h4, h5⟩ | ⟨_, h2⟩
                  · have e := file_one h2 hF
                    exact ⟨h1, e, h3, by rw [h4, hpc, e], by rw [h5, hps, e]⟩
                  · exact absurd hF (h2 al)
                obtain ⟨rfl, hga, hwh, hec, hem⟩ := hhow
                obtain ⟨Br, hr, _⟩ := part_at 1 rfl H4.out
                have CI := rp_info x p pb M HLA.out.inv u4 Br hr
                rw [hwh, hec, hem] at CI
                have CIH := Lib.hid CI
                have CS := Lib.hid (fun v (g : Gr u4 v) => by
                  have h := stars_gr (frs_r4 _ _ _ _ _ _ _ _ _ _ _) H4.out g
                  obtain ⟨_, h0, _⟩ := part_at 0 rfl h
                  obtain ⟨_, h2, _⟩ := part_at 2 rfl h
                  exact same_lies (by rw [HKK.out]; omega) (row_lies h0) (by rw [hga]; exact h2.1))
                have KQ := Lib.hid (fun v (g : Gr u4 v) => by
                  have h := stars_gr (frs_r4 _ _ _ _ _ _ _ _ _ _ _) H4.out g
                  obtain ⟨_, h3, _⟩ := part_at 3 rfl h
                  exact (⟨by rw [cells_at h3.1]; rfl, by rw [cells_at h3.1]; rfl⟩ : v.cell? ⟨q, 0, none⟩ = some (.int .i64 pc) ∧ v.cell? ⟨q, 1, none⟩ = some (.int .u32 ps)))
                have IE := info_eq pc ps
                have IS := info_same pc ps
                clear hF hpc hps hga hwh hec hem CI hr CNO CHI
                go_wp2_with fail
                refine CIH.out.mono ?_; rintro e u6 ⟨rfl, g6⟩
                have gX : Gr u6 (u6.alloc (.cells #[.int .i64 pc, .int .u32 ps] 35)) := (Gr.refl u6).alloc (Nat.le_refl _) _
                have hqX := heap_alloc_new u6 (.cells #[.int .i64 pc, .int .u32 ps] 35)
                obtain ⟨X, hX⟩ : ∃ X, X = u6.alloc (.cells #[.int .i64 pc, .int .u32 ps] 35) := ⟨_, rfl⟩
                obtain ⟨q2, hq2⟩ : ∃ q2, q2 = u6.heap.size := ⟨_, rfl⟩
                rw [← hX] at gX hqX
                rw [← hq2] at hqX
                have CS1 := CS.out X (g6.trans gX)
                simp only [HKK.out] at CS1
                have CSH := Lib.hid CS1
                have HX := Lib.hid hX
                have HQ2 := Lib.hid hq2
                have HQX := Lib.hid hqX
                have G6 := Lib.hid (g6.trans gX)
                clear g6 gX hqX hX hq2 CIH CS CS1
                go_wp2_with fail
                rw [← HX.out, ← HQ2.out]
                refine CSH.out.mono ?_; rintro e u8 ⟨rfl, g8⟩
                obtain ⟨x0, x1⟩ := KQ.out u8 (G6.out.trans g8)
                have y0 : u8.cell? ⟨q2, 0, none⟩ = some (.int .i64 pc) := by rw [g8.cell (p := ⟨q2, 0, none⟩) (lt_of_block HQX.out), cells_at HQX.out]; rfl
                have y1 : u8.cell? ⟨q2, 1, none⟩ = some (.int .u32 ps) := by rw [g8.cell (p := ⟨q2, 1, none⟩) (lt_of_block HQX.out), cells_at HQX.out]; rfl
                have G8 := Lib.hid ((nx_gr N4.out).trans (G6.out.trans g8))
                clear g8 CSH KQ
                go_wp2_with fail
                refine (awake9_c _).mono ?_; rintro e u7 ⟨rfl, g7⟩
                go_wp2_with fail
                go_ret
                exact ⟨rfl, G8.out.trans g7⟩
              · have her : er = 6 := by
                  rcases HLA.out.how with ⟨_, h2, _⟩ | ⟨h1, _⟩
                  · exact absurd h2 (hno got)
                  · exact h1
                subst her
                have G4 := Lib.hid (nx_gr N4.out)
                clear hno CNO CHI
                go_wp2_with fail
                refine (awake9_c _).mono ?_; rintro e u7 ⟨rfl, g7⟩
                go_wp2_with fail
                go_ret
                exact ⟨rfl, G4.out.trans g7⟩
        · refine COH.out.mono ?_; rintro e v1 hmade
          obtain ⟨hc1, _⟩ | ⟨-, rfl, E9, q9, n9⟩ := hmade
          · exact absurd hc1 hc0
          have hRN : R.2.2.1 = 6 ∧ (∀ L, ¬ IsFile nn D L) ∧ R.2.1 = ⟨4, 0, 4⟩ := by
            rcases HRO.out with h | h
            · exact absurd h.1 hc0
            · exact h
          obtain ⟨h6, hno, hbud⟩ := hRN
          have hpe : pe = 6 := by
            rcases HPH.out with ⟨_, hF, _⟩ | ⟨h1, _⟩
            · exact absurd hF (hno al)
            · exact h1
          subst hpe
          obtain ⟨_, hb9, _⟩ := part_at 1 rfl q9
          rw [hbud] at hb9
          obtain ⟨E10, q10, n10⟩ := HK8.out [DiskA p R.1, BuA pb R.2.1] _ _ q9 n9
          have GV := Lib.hid (nx_gr (N7.out.trans n10))
          have CNO := Lib.hid (bnow_c pb ⟨4, 0, 4⟩ v1 hb9.at)
          have CHI := Lib.hid (bhigh_c pb ⟨4, 0, 4⟩ v1 hb9.at)
          rw [h6]
          clear q9 n9 q10 n10 HK8 COH hb9 hbud hno h6 hc0 HRO N7 N6 N5 HV HQ HPH
          go_wp2_with fail
          go_loopw [17, 19] (fun fv iv wr => fv = .int .i64 6 ∧ iv = .int .i64 0 ∧ wr = v1) (fun _ _ _ => 0)
          case atStart => exact ⟨rfl, rfl, rfl⟩
          case round =>
            obtain ⟨rfl, rfl, rfl⟩ := hrel
            go_wp2_with fail
            refine CNO.out.mono ?_; rintro e u5 ⟨rfl, rfl⟩
            go_wp2_with fail
            refine CHI.out.mono ?_; rintro e u5 ⟨rfl, rfl⟩
            go_wp2_with fail
            refine (awake9_c _).mono ?_; rintro e u7 ⟨rfl, g7⟩
            go_wp2_with fail
            go_ret
            exact ⟨rfl, GV.out.trans g7⟩

set_option maxRecDepth 100000 in
theorem lifted (os : Os) (started : os.Started) (H : Type) (enc : TypeId × Value → H) :
    ReturnsInHanded {} Try.checked os 3 .any (Rows.readerReadsSpec.pre6 enc Try.prog Try.f3 Rows.readerReadsRow.domain false) (Rows.readerReadsSpec.post enc Try.prog Try.f3 false true false false) := by
  refine returnsInHanded_of_change (C := Try.checked) own started (by kernel_rfl) Try.func3
    (ChangeSpec.witness6 (enc := enc) (C := Try.checked) false ⟨#[], #[.int .u8 0, .slice none 0 0, .string ByteArray.empty], []⟩ 8 (by kernel_rfl) (by kernel_rfl) (by kernel_rfl) (by kernel_rfl)) ?_
  intro W base args ds gs before hval0 hW hcnd _
  have hval : ∀ (j : Nat) t v, Try.f3.params[j]? = some t → args[j]? = some v → Value.okWide Try.prog W .any base t v := hval0
  have hW' := hW
  obtain ⟨p, q, hA0, hV, rfl, hfz, hnd⟩ := hW
  have hA : DataW.TrodAll enc Try.prog W 0 (fun _ => true) true Try.f3.params.toList args.toList ds p := hA0
  rw [Try.params3] at hA hval
  obtain ⟨v0, vs0, d0, ds0, p0, q0, hargs, rfl, rfl, h0, r0⟩ := trodAll_cons hA
  obtain ⟨v1, vs1, d1, ds1, p1, q1, rfl, rfl, rfl, h1, r1⟩ := trodAll_cons r0
  obtain ⟨v2, vs2, d2, ds2, p2, q2, rfl, rfl, rfl, h2, r2⟩ := trodAll_cons r1
  obtain ⟨rfl, rfl, rfl⟩ := trodAll_nil r2
  obtain rfl : args = #[v0, v1, v2] := by cases args; simp_all
  obtain ⟨rfl, rfl⟩ := trodVars_none hV
  have k0 := h0
  have lt0 : ∀ x ∈ p0, x.block < W.heap.size := by obtain ⟨m, hm⟩ := k0; exact DataW.trod_lt m _ _ _ hm
  obtain ⟨n0, e0⟩ := okWide_int Try.underlying5 (hval 0 5 v0 rfl rfl)
  have w0 : Rd Try.prog W 5 v0 := by
    obtain ⟨fuel, hf⟩ := h0
    subst e0
    exact ⟨H, enc, fuel, _, by simpa [Value.cells] using hf⟩
  have k1 := h1
  have lt1 : ∀ x ∈ p1, x.block < W.heap.size := by obtain ⟨m, hm⟩ := k1; exact DataW.trod_lt m _ _ _ hm
  obtain ⟨a1, l1, c1, e1⟩ := okWide_slice Try.underlying22 (hval 1 22 v1 rfl rfl)
  have w1 : Rd Try.prog W 22 v1 := by
    obtain ⟨fuel, hf⟩ := h1
    subst e1
    exact ⟨H, enc, fuel, _, by simpa [Value.cells] using hf⟩
  have k2 := h2
  have lt2 : ∀ x ∈ p2, x.block < W.heap.size := by obtain ⟨m, hm⟩ := k2; exact DataW.trod_lt m _ _ _ hm
  obtain ⟨n2, e2⟩ := okWide_string Try.underlying9 (hval 2 9 v2 rfl rfl)
  have w2 : Rd Try.prog W 9 v2 := by
    obtain ⟨fuel, hf⟩ := h2
    subst e2
    exact ⟨H, enc, fuel, _, by simpa [Value.cells] using hf⟩
  clear hA0 hval0
  refine (walk v0 v1 v2 W w0 w1 w2).mono fun e W' ⟨he, bel⟩ => ?_
  subst he
  exact ⟨_, rfl, _, _, _, [], _, [], hW', trodAll_mk1 (shut_bool Try.underlying4 _), (trodAll_cons_mk (Below.trod laidOut (by kernel_rfl) (of_decide_eq_true (by kernel_rfl)) k0 bel lt0) (trodAll_cons_mk (Below.trod laidOut (by kernel_rfl) (of_decide_eq_true (by kernel_rfl)) k1 bel lt1) (trodAll_cons_mk (Below.trod laidOut (by kernel_rfl) (of_decide_eq_true (by kernel_rfl)) k2 bel lt2) trodAll_mk0))), rfl, bel.frame _, fun h => by cases h⟩

theorem over : Rows.readerReadsRow.holds Try.pinned (OpenSpec.ofChange Rows.readerReadsSpec) :=
  OpenClaim.holds_of_wide 3 Try.f3 rfl rfl rfl rfl rfl rfl rfl ⟨rfl, rfl, rfl, rfl, rfl⟩ rfl rfl rfl rfl rfl (by kernel_rfl) Try.func3 (by kernel_rfl)
    (of_decide_eq_true (by kernel_rfl)) (by unfold Func.isWrapper; first | (rw [if_pos (by decide +kernel)]; kernel_rfl) | (rw [if_neg (by decide +kernel)]; exact ⟨rfl, rfl⟩))
    (fun os started H enc _ => lifted os started H enc)

theorem proved : Rows.ReaderReadsSaid := over
#print axioms proved
end Go.Proofs.Ytojlceoeacebmaa.readerReads

/- Rows.ReaderPlaysSaid holds: for every input the law returns true and leaves its arguments as they were. Conditions: none beside the row's own. -/
import Derived.Test.YtojlceoeacebmaaGreatRows
import Derived.WalkKit
import Derived.ProofKit
import Derived.OpenShut
import Derived.ShutString
import Derived.ChangeOld
import Derived.Below
import Derived.Test.YtojlceoeacebmaaGreatP00
import Derived.Test.YtojlceoeacebmaaGreatP21
import Derived.Test.YtojlceoeacebmaaGreatP22
namespace Go.Proofs.YtojlceoeacebmaaGreat.readerPlays
open Go.ChangeShapes Go.WideShapes Go.ChangeAt Go.RowKit
open Go.ChangeMaps (open_string shut_string)
open FsPlain CrcPlain OctPlain FramePlain RecPlain RdPlain
set_option linter.unusedVariables false
set_option linter.unusedSimpArgs false

theorem own : ownKnob Tryz.prog.godebug = none := by kernel_rfl
theorem laidOut : laidOutB Tryz.prog = true := by kernel_rfl


set_option maxRecDepth 100000 in
set_option maxHeartbeats 4000000 in
theorem walk (v0 v1 v2 v3 v4 : Value) (w : World) (w0 : Rd Tryz.prog w 9 v0) (w1 : Rd Tryz.prog w 3 v1) (w2 : Rd Tryz.prog w 3 v2) (w3 : Rd Tryz.prog w 3 v3) (w4 : Rd Tryz.prog w 3 v4) :
    Calls Tryz.prog 3 #[v0, v1, v2, v3, v4] w fun e w' => e = .returned (.bool true) ∧ Gr w w' := by
  obtain ⟨S, rfl, hw0⟩ := rd_string Tryz.underlying9 w0
  obtain ⟨size, rfl, hw1⟩ := rd_int Tryz.underlying3 w1
  obtain ⟨m0, rfl, hw2⟩ := rd_int Tryz.underlying3 w2
  obtain ⟨fuse, rfl, hw3⟩ := rd_int Tryz.underlying3 w3
  obtain ⟨cl, rfl, hw4⟩ := rd_int Tryz.underlying3 w4
  have hk : I64 size := bounds_i64 hw1
  have bm := bounds_i64 hw2
  have bf := bounds_i64 hw3
  unfold maxLen at hw0
  clear w0 w1 w2 w3 w4 hw1 hw2 hw3 hw4
  by_cases h7 : 700 < S.size
  · have h7' : (700 : Int) < (S.size : Int) := by omega
    clear hk bm bf h7
    go_enter Tryz.func3, Tryz.ntmps3
    go_wp2_with fail
    refine (awake9_c _).mono ?_; rintro e u7 ⟨rfl, g7⟩
    go_wp2_with fail
    go_ret
    exact ⟨rfl, g7⟩
  · have h7' : decide (700 < S.size) = false := by simpa using h7
    have h7'' : (S.size : Int) ≤ 700 := by omega
    by_cases hm : m0 < 0
    · clear hk bm bf h7
      go_enter Tryz.func3, Tryz.ntmps3
      go_wp2_with fail
      refine (awake9_c _).mono ?_; rintro e u7 ⟨rfl, g7⟩
      go_wp2_with fail
      go_ret
      exact ⟨rfl, g7⟩
    · have hm' : 0 ≤ m0 := by omega
      have t1 : decide (m0 < 0) = false := by simpa using hm
      have C1 := Lib.hid (new_c 1048576 (by decide) (by decide))
      have C2 := Lib.hid (fun u => bu_new m0 u hm' bm.2)
      have C3 := Lib.hid (fun u => rnew_c 1048576 u (by decide) (by decide))
      have CC := Lib.hid (fun p u B (h : DiskA p (fresh 1048576) u B) => show Calls Tryz.prog 7 #[.pointer (some ⟨p, 0, none⟩), .string nmA] u (Does u B (DiskA p (stC 1048576)) (.int .i64 0)) from by have := d_create p (fresh 1048576) nmA (by decide) nmA_right (by decide) u B h; rw [st_create] at this; exact this)
      have CA := Lib.hid (fun p u B (h : DiskA p (stC 1048576) u B) => show Calls Tryz.prog 8 #[.pointer (some ⟨p, 0, none⟩), .string nmA, .string S] u (Does u B (DiskA p (stA 1048576 S)) (.int .i64 0)) from by have := d_append p (stC 1048576) nmA S (by decide) nmA_right (by decide) (by omega) u B h; rw [st_append 1048576 S (by omega)] at this; exact this)
      have RC := Lib.hid (fun p u B (h : RDiskA p (fresh 1048576) u B) => show Calls Tryz.prog 10 #[.pointer (some ⟨p, 0, none⟩), .string nmA] u (Does u B (RDiskA p (stC 1048576)) (.int .i64 0)) from by have := r_create p (fresh 1048576) nmA (by decide) nmA_right (by decide) u B h; rw [st_create] at this; exact this)
      have RA := Lib.hid (fun p u B (h : RDiskA p (stC 1048576) u B) => show Calls Tryz.prog 11 #[.pointer (some ⟨p, 0, none⟩), .string nmA, .string S] u (Does u B (RDiskA p (stA 1048576 S)) (.int .i64 0)) from by have := r_append p (stC 1048576) nmA S (by decide) nmA_right (by decide) (by omega) u B h; rw [st_append 1048576 S (by omega)] at this; exact this)
      obtain ⟨sA, hsA⟩ : ∃ sA, sA = armed (stA 1048576 S) fuse := ⟨_, rfl⟩
      have HSA := Lib.hid hsA
      have DA := Lib.hid (fun p u B (h : DiskA p (stA 1048576 S) u B) => show Calls Tryz.prog 12 #[.pointer (some ⟨p, 0, none⟩), .int .i64 fuse] u (Does u B (DiskA p sA) (.tuple #[])) from by rw [hsA]; exact d_arm p (stA 1048576 S) fuse bf.1 bf.2 u B h)
      have RM := Lib.hid (fun p u B (h : RDiskA p (stA 1048576 S) u B) => show Calls Tryz.prog 13 #[.pointer (some ⟨p, 0, none⟩), .int .i64 fuse] u (Does u B (RDiskA p sA) (.tuple #[])) from by rw [hsA]; exact rarm_c p (stA 1048576 S) fuse u h bf)
      have HB0 := Lib.hid (show (Bu.mk m0 0 0).ok from ⟨Int.le_refl 0, Int.le_refl 0, hm', bm.2⟩)
      obtain ⟨R, hR⟩ : ∃ R, R = openN sA ⟨m0, 0, 0⟩ nmA size := ⟨_, rfl⟩
      have HR := Lib.hid hR
      have HK := Lib.hid hk
      have HBF := Lib.hid bf
      have HBM := Lib.hid bm
      have hcl0 : sA.calls = 2 := by rw [hsA]; rfl
      have HCL0 := Lib.hid hcl0
      clear hsA hR hk bf bm hm h7 hcl0
      go_enter Tryz.func3, Tryz.ntmps3
      go_wp2_with fail
      refine (C1.out _).mono ?_; rintro e u1 hb
      obtain ⟨p, B1, rfl, hd1, g1, hn1⟩ := hb
      have N1 := Lib.hid (show Nx (fun _ => False) w B1 u1 from ⟨Only.ofGr g1, fun b hb => .inr (hn1 b hb)⟩)
      have Q1 := Lib.hid hd1
      clear hd1 g1 hn1
      go_wp2_with fail
      refine (C2.out _).mono ?_; rintro e u2 ⟨rfl, hd2, g2⟩
      obtain ⟨E2, q2, n2⟩ := part_new (P := BuA u1.heap.size ⟨m0, 0, 0⟩) (L := [DiskA p (fresh 1048576)]) ⟨fr_disk _ _, trivial⟩ (stars_one Q1.out) g2 hd2 (fun b hb => by omega)
      obtain ⟨pb, hpb⟩ : ∃ pb, pb = u1.heap.size := ⟨_, rfl⟩
      rw [← hpb] at q2 ⊢
      have K2 := Lib.hid (does_at (f := 7) (L := [BuA pb ⟨m0, 0, 0⟩, DiskA p (fresh 1048576)]) 1 rfl ⟨fr_bu _ _, fr_disk _ _, trivial⟩ q2 fun B h => CC.out p u2 B h)
      have N2 := Lib.hid (N1.out.trans n2)
      clear hd2 g2 q2 n2 hpb
      go_wp2_with fail
      change Calls _ _ #[_, .string nmA] _ _
      refine K2.out.mono ?_; rintro e u3 ⟨rfl, E3, q3, n3⟩
      have K3 := Lib.hid (does_at (f := 8) (L := [BuA pb ⟨m0, 0, 0⟩, DiskA p (stC 1048576)]) 1 rfl ⟨fr_bu _ _, fr_disk _ _, trivial⟩ q3 fun B h => CA.out p u3 B h)
      have N3 := Lib.hid (N2.out.trans n3)
      clear q3 n3 K2
      go_wp2_with fail
      change Calls _ _ #[_, .string nmA, _] _ _
      refine K3.out.mono ?_; rintro e u4 ⟨rfl, E4, q4, n4⟩
      have Q4 := Lib.hid (show stars [BuA pb ⟨m0, 0, 0⟩, DiskA p (stA 1048576 S)] u4 E4 from q4)
      have N4 := Lib.hid (N3.out.trans n4)
      clear q4 n4 K3
      go_wp2_with fail
      refine (C3.out _).mono ?_; rintro e u5 ⟨rfl, hd5, g5⟩
      obtain ⟨E5, q5, n5⟩ := part_new (P := RDiskA u4.heap.size (fresh 1048576)) (L := [BuA pb ⟨m0, 0, 0⟩, DiskA p (stA 1048576 S)]) ⟨fr_bu _ _, fr_disk _ _, trivial⟩ Q4.out g5 hd5 (fun b hb => by omega)
      obtain ⟨D, hD⟩ : ∃ D, D = u4.heap.size := ⟨_, rfl⟩
      rw [← hD] at q5 ⊢
      have K5 := Lib.hid (does_at (f := 10) (L := [RDiskA D (fresh 1048576), BuA pb ⟨m0, 0, 0⟩, DiskA p (stA 1048576 S)]) 0 rfl ⟨fr_rdisk _ _, fr_bu _ _, fr_disk _ _, trivial⟩ q5 fun B h => RC.out D u5 B h)
      have N5 := Lib.hid (N4.out.trans n5)
      clear hd5 g5 q5 n5 hD
      go_wp2_with fail
      change Calls _ _ #[_, .string nmA] _ _
      refine K5.out.mono ?_; rintro e u6 ⟨rfl, E6, q6, n6⟩
      have K6 := Lib.hid (does_at (f := 11) (L := [RDiskA D (stC 1048576), BuA pb ⟨m0, 0, 0⟩, DiskA p (stA 1048576 S)]) 0 rfl ⟨fr_rdisk _ _, fr_bu _ _, fr_disk _ _, trivial⟩ q6 fun B h => RA.out D u6 B h)
      have N6 := Lib.hid (N5.out.trans n6)
      clear q6 n6 K5
      go_wp2_with fail
      change Calls _ _ #[_, .string nmA, _] _ _
      refine K6.out.mono ?_; rintro e u7 ⟨rfl, E7, q7, n7⟩
      obtain ⟨E8, q8, n8⟩ := part_new (P := RBuA u7.heap.size ⟨m0, 0, 0⟩) (B' := fun b => b = u7.heap.size) (L := [RDiskA D (stA 1048576 S), BuA pb ⟨m0, 0, 0⟩, DiskA p (stA 1048576 S)]) ⟨fr_rdisk _ _, fr_bu _ _, fr_disk _ _, trivial⟩ q7 ((Gr.refl u7).alloc (Nat.le_refl _) (.cells #[.int .i64 m0, .int .i64 0, .int .i64 0] 35)) ⟨HB0.out, heap_alloc_new u7 _, fun _ => Iff.rfl⟩ (fun b hb => by omega)
      obtain ⟨P, hP⟩ : ∃ P, P = u7.heap.size := ⟨_, rfl⟩
      obtain ⟨V8, hV8⟩ : ∃ V8, V8 = u7.alloc (.cells #[.int .i64 m0, .int .i64 0, .int .i64 0] 35) := ⟨_, rfl⟩
      rw [← hP, ← hV8] at q8
      rw [← hV8] at n8
      have q9 : stars (t4 p pb D P (stA 1048576 S) (stA 1048576 S) ⟨m0, 0, 0⟩) V8 E8 := stars_perm (List.reverse_perm [DiskA p (stA 1048576 S), BuA pb ⟨m0, 0, 0⟩, RDiskA D (stA 1048576 S), RBuA P ⟨m0, 0, 0⟩]) q8
      have K8 := Lib.hid (does_at (f := 12) 0 rfl (frs_t4 _ _ _ _ _ _ _) q9 fun B h => DA.out p V8 B h)
      have N8 := Lib.hid ((N6.out.trans n7).trans n8)
      have HP := Lib.hid hP
      have HV8 := Lib.hid hV8
      clear q7 n7 q8 n8 q9 hP hV8 K6
      go_wp2_with fail
      rw [← HP.out, ← HV8.out]
      refine K8.out.mono ?_; rintro e u9 ⟨rfl, E9, q9, n9⟩
      have K9 := Lib.hid (does_at (f := 13) (L := t4 p pb D P sA (stA 1048576 S) ⟨m0, 0, 0⟩) 2 rfl (frs_t4 _ _ _ _ _ _ _) q9 fun B h => RM.out D u9 B h)
      have N9 := Lib.hid (N8.out.trans n9)
      clear q9 n9 K8
      go_wp2_with fail
      refine K9.out.mono ?_; rintro e v0 ⟨rfl, E0, q0, n0⟩
      have Q0 := Lib.hid (show stars (t4 p pb D P sA sA ⟨m0, 0, 0⟩) v0 E0 from q0)
      have N0 := Lib.hid (N9.out.trans n0)
      clear q0 n0 K9 C1 C2 C3 CC CA RC RA DA RM N1 N2 N3 N4 N5 N6 N8 N9 Q1 Q4
      have HOK := Lib.hid (show sA.ok by obtain ⟨_, hq, _⟩ := part_at 2 rfl Q0.out; exact hq.1)
      obtain ⟨E7, q7, K7⟩ := pre_nx [DiskA p sA, BuA pb ⟨m0, 0, 0⟩] (M := [RDiskA D sA, RBuA P ⟨m0, 0, 0⟩]) ⟨fr_rdisk _ _, fr_rbu _ _, trivial⟩ Q0.out
      have CP := rp_open p pb sA ⟨m0, 0, 0⟩ nmA size HK.out HOK.out nmA_size nmA_right (by rw [HCL0.out]; decide) v0 E7 q7
      rw [← HR.out] at CP
      have CPH := Lib.hid CP
      have HK7 := Lib.hid K7
      clear q7 K7 CP
      go_wp2_with fail
      change Calls _ _ #[_, _, .string nmA, _] _ _
      by_cases hc0 : R.2.2.1 = 0
      · refine CPH.out.mono ?_; rintro e v1 hmade
        obtain ⟨-, x, rfl, E8, q8, n8⟩ | ⟨hc1, _⟩ := hmade
        rotate_left
        · exact absurd hc0 hc1
        obtain ⟨E9, q9, n9⟩ := HK7.out [RP3 x p pb ⟨R.1, R.2.1, newRs nmA size R.2.2.2⟩] _ _ (stars_one q8) n8
        obtain ⟨E10, q10, K10⟩ := suf_nx [RP3 x p pb ⟨R.1, R.2.1, newRs nmA size R.2.2.2⟩] (M := [RDiskA D sA, RBuA P ⟨m0, 0, 0⟩]) ⟨fr_rp3 _ _ _ _, trivial⟩ q9
        have CR := rr_open D P sA ⟨m0, 0, 0⟩ nmA size HK.out HOK.out nmA_size nmA_right (by rw [HCL0.out]; decide) v1 E10 q10
        rw [← HR.out] at CR
        have CRH := Lib.hid CR
        have HK10 := Lib.hid K10
        have N10 := Lib.hid (N0.out.trans n9)
        clear q8 n8 q9 n9 q10 K10 CR CPH HK7
        go_wp2_with fail
        change Calls _ _ #[_, _, .string nmA, _] _ _
        refine CRH.out.mono ?_; rintro e v2 hmade
        obtain ⟨-, xr, rfl, E11, q11, n11⟩ | ⟨hc1, _⟩ := hmade
        rotate_left
        · exact absurd hc0 hc1
        obtain ⟨E12, q12, n12⟩ := HK10.out [RR3 xr D P ⟨R.1, R.2.1, newRs nmA size R.2.2.2⟩] _ _ (stars_one q11) n11
        obtain ⟨M, hM⟩ : ∃ M : N3, M = ⟨R.1, R.2.1, newRs nmA size R.2.2.2⟩ := ⟨_, rfl⟩
        have HB := Lib.hid (show RBoth w x p pb xr D P M M v2 by rw [hM]; exact ⟨E12, q12, N10.out.trans n12⟩)
        have HP0 := Lib.hid (show PlayN M 0 by rw [hM]; exact play_open (by decide) (show (S.size : Int) ≤ 1048576 by omega) (by decide) (by omega) HBF.out.2 hm' HBM.out.2 (by rw [← HSA.out]; exact HOK.out) R (by rw [← HSA.out]; exact HR.out) hc0)
        have CN := Lib.hid (fun v (g : Gr v2 v) => rb_now (HB.out.gr g))
        have CK := Lib.hid (fun v (g : Gr v2 v) => rb_calls (HB.out.gr g))
        obtain ⟨bn, hbn⟩ : ∃ bn, bn = M.b.now := ⟨_, rfl⟩
        obtain ⟨sc, hsc⟩ : ∃ sc, sc = M.s.calls := ⟨_, rfl⟩
        have p1 := HB.out.cells.p1
        have d4 := HB.out.cells.d4
        rw [← hbn] at CN p1
        rw [← hsc] at CK d4
        clear hc0 q11 n11 q12 n12 HK10 CRH hM hbn hsc HR HK HBF HBM HCL0 HSA HOK HB0 N0 N10
        go_wp2_with fail
        go_quiet (first | (go_at_call 16; exact quiet_call (CN.out _ (grN _ _))) | (go_at_call 17; exact quiet_call (CK.out _ (grN _ _))))
        have HST := Lib.hid (show ReadAt w x p pb xr D P (.int .i64 0) (v2.drewN nq) from ⟨0, M, rfl, HP0.out, HB.out.gr (grN _ _)⟩)
        clear CN CK p1 d4 HB HP0
        go_wp2_with fail
        go_loopw [20] (fun iv wr => ReadAt w x p pb xr D P iv wr) (fun iv _ => 720 - (intOf iv).toNat)
        case atStart => exact HST.out
        case round =>
          obtain ⟨i, m, rfl, hp, hB⟩ := hrel
          have hf := hp.few
          have hi7 : (i : Int) < 720 := by omega
          have HP := Lib.hid hp
          have HB := Lib.hid hB
          clear HST hp hB
          go_upto_if 127 with (fail)
          go_cut [] from 117 to 242 (fun wx => MidAt w x p pb xr D P i wx)
          case first =>
            by_cases hcl : (i : Int) = cl
            · have CX := Lib.hid (fun v (h : RBoth w x p pb xr D P m m v) => rb_close HP.out.inv h)
              have CY := Lib.hid (fun v (h : RBoth w x p pb xr D P (closeN m) m v) => rb_rclose h)
              subst hcl
              go_wp2_with fail
              refine (CX.out _ HB.out).mono ?_; rintro e y1 ⟨rfl, hB1⟩
              have HB1 := Lib.hid hB1
              clear hB1 CX
              go_wp2_with fail
              refine (CY.out _ HB1.out).mono ?_; rintro e y2 ⟨rfl, hB2⟩
              have HB2 := Lib.hid hB2
              clear hB2 CY HB HB1
              go_wp2_with fail
              go_meet
              exact ⟨closeN m, HP.out.close, HB2.out⟩
            · have t2 : ((i : Int) == cl) = false := by simpa using hcl
              go_wp2_with fail
              go_meet
              exact ⟨m, HP.out, HB.out⟩
          case rest =>
            clear HP HB
            obtain ⟨m1, hp1, hb1⟩ := hcut
            have HP1 := Lib.hid hp1
            have HB2 := Lib.hid hb1
            clear hp1 hb1
            obtain ⟨⟨M, a, pp, er⟩, hM⟩ : ∃ X, X = nextN m1 := ⟨_, rfl⟩
            have hN1 := rb_next (x := x) (p := p) (pb := pb) (xr := xr) (D := D) (P := P) (w := w) (wr := wc) HP1.out.ok HP1.out.inv (by have := HP1.out.told; omega) (by have := HP1.out.calls; omega) HB2.out
            rw [← hM] at hN1
            have hN2 := fun v (h : RBoth w x p pb xr D P M m1 v) => rb_rnext HP1.out.ok (by have := HP1.out.told; omega) (by have := HP1.out.calls; omega) h
            rw [← hM] at hN2
            have hMi : M.inv := by have := inv_nextN HP1.out.inv HP1.out.ok; rw [← hM] at this; exact this
            have hMo : M.ok := by have := ok_nextN HP1.out.ok; rw [← hM] at this; exact this
            have hMb : Bud4 M := by have := bud_next HP1.out.bud; rw [← hM] at this; exact this
            have hMt : M.x.told ≤ 50000 ∧ M.s.calls ≤ 1000000000000 := by have h := nextN_calls m1; rw [← hM] at h; have := HP1.out.told; have := HP1.out.calls; simp only [] at h; omega
            have CI := Lib.hid (fun v (h : RBoth w x p pb xr D P M M v) => rb_info hMi h)
            have N1H := Lib.hid hN1
            have N2H := Lib.hid hN2
            have HM := Lib.hid hM
            have HMI := Lib.hid hMi
            have HMO := Lib.hid hMo
            have HMB := Lib.hid hMb
            have HMT := Lib.hid hMt
            clear hN1 hN2 hM hMi hMo hMb hMt
            unfold ansV at N1H N2H
            go_wp2_with fail
            refine N1H.out.mono ?_; rintro e y3 ⟨rfl, hB3⟩
            have HB3 := Lib.hid hB3
            clear hB3 N1H
            go_wp2_with fail
            refine (N2H.out _ HB3.out).mono ?_; rintro e y4 ⟨rfl, hB4⟩
            have HB4 := Lib.hid hB4
            clear hB4 N2H
            go_wp2_with fail
            refine (CI.out _ HB4.out).mono ?_; rintro e y5 ⟨rfl, hB5⟩
            obtain ⟨ec, hec⟩ : ∃ ec, ec = M.x.ec := ⟨_, rfl⟩
            obtain ⟨em, hem⟩ : ∃ em, em = M.x.em := ⟨_, rfl⟩
            obtain ⟨wh, hwh⟩ : ∃ wh, wh = M.x.whole := ⟨_, rfl⟩
            obtain ⟨tl, htl⟩ : ∃ tl : Nat, tl = M.x.told := ⟨_, rfl⟩
            obtain ⟨bn, hbn⟩ : ∃ bn, bn = M.b.now := ⟨_, rfl⟩
            obtain ⟨bh, hbh⟩ : ∃ bh, bh = M.b.high := ⟨_, rfl⟩
            obtain ⟨sc, hsc⟩ : ∃ sc, sc = M.s.calls := ⟨_, rfl⟩
            have gX : Gr y5 (y5.alloc (.cells #[.int .i64 ec, .int .u32 em] 51)) := (Gr.refl y5).alloc (Nat.le_refl _) _
            have hqX := heap_alloc_new y5 (.cells #[.int .i64 ec, .int .u32 em] 51)
            obtain ⟨X, hX⟩ : ∃ X, X = y5.alloc (.cells #[.int .i64 ec, .int .u32 em] 51) := ⟨_, rfl⟩
            rw [← hX] at gX hqX
            have hB6 := hB5.gr gX
            have CN := Lib.hid (fun v (g : Gr X v) => rb_now (hB6.gr g))
            have CK := Lib.hid (fun v (g : Gr X v) => rb_calls (hB6.gr g))
            have CH := Lib.hid (fun v (g : Gr X v) => rb_high (hB6.gr g))
            have CT := Lib.hid (fun v (g : Gr X v) => rb_count HMI.out (hB6.gr g))
            obtain ⟨p1, p2, x8, x11, x13, x14, d4⟩ := hB6.cells
            rw [← hec] at x13
            rw [← hem] at x14
            rw [← hwh] at x11
            rw [← htl] at x8 CT
            rw [← hbn] at p1 CN
            rw [← hbh] at p2 CH
            rw [← hsc] at d4 CK
            obtain ⟨q, hq⟩ : ∃ q, q = y5.heap.size := ⟨_, rfl⟩
            rw [← hq] at hqX
            have z0 : X.cell? ⟨q, 0, none⟩ = some (.int .i64 ec) := by rw [cells_at hqX]; rfl
            have z1 : X.cell? ⟨q, 1, none⟩ = some (.int .u32 em) := by rw [cells_at hqX]; rfl
            have IE := info_neq ec em
            have IS := info_same ec em
            have HB6 := Lib.hid hB6
            have HX := Lib.hid hX
            have HQ := Lib.hid hq
            have HBN := Lib.hid hbn
            rw [← hec, ← hem, ← hwh]
            clear hB5 hB6 gX hqX hX hq hec hem hwh htl hbn hbh hsc CI HB3 HB4
            go_wp2_with fail
            rw [← HX.out, ← HQ.out]
            go_quiet (first
              | (go_at_call 16; exact quiet_call (CN.out _ (grN _ _)))
              | (go_at_call 23; exact quiet_call (CH.out _ (grN _ _)))
              | (go_at_call 24; exact quiet_call (CT.out _ (grN _ _)))
              | (go_at_call 17; exact quiet_call (CK.out _ (grN _ _))))
            have HB7 := Lib.hid (HB6.out.gr (grN X nq))
            clear CN CK CH CT p1 p2 x8 x11 x13 x14 d4 z0 z1 IE IS HB6
            cases pp
            · have hop : M.x.opn = false := by have := (next_none (m := m1) (by rw [← HM.out])).1; rw [← HM.out] at this; exact this
              have hb0 : bn = 0 := by rw [HBN.out]; exact HMB.out.2 hop
              obtain ⟨ef, hef⟩ : ∃ ef : Int, ef = (if M.x.bad = true then 14 else 0) := ⟨_, rfl⟩
              have hnx : nextN M = (M, noneA ef) := by unfold nextN; rw [if_pos hop, hef]
              have C7 := rb_next HMO.out HMI.out HMT.out.1 HMT.out.2 HB7.out
              have C8 := fun v (h : RBoth w x p pb xr D P M M v) => rb_rnext HMO.out HMT.out.1 HMT.out.2 h
              rw [hnx] at C7 C8
              unfold ansV noneA at C7 C8
              have C7H := Lib.hid C7
              have C8H := Lib.hid C8
              subst hb0
              clear C7 C8 hop hef hnx
              go_wp2_with fail
              refine C7H.out.mono ?_; rintro e y7 ⟨rfl, hB8⟩
              have HB8 := Lib.hid hB8
              clear hB8 C7H
              go_wp2_with fail
              refine (C8H.out _ HB8.out).mono ?_; rintro e y8 ⟨rfl, hB9⟩
              have HG := Lib.hid hB9.old
              have CN := Lib.hid (rb_now hB9)
              rw [← HBN.out] at CN
              clear hB9 C8H HB8 HB7
              go_wp2_with fail
              refine CN.out.mono ?_; rintro e y9 ⟨rfl, rfl⟩
              go_wp2_with fail
              refine (awake9_c _).mono ?_; rintro e y9 ⟨rfl, g9⟩
              go_wp2_with fail
              go_ret
              exact ⟨rfl, HG.out.trans g9⟩
            · have HP2 := Lib.hid (show PlayN M (i + 1) by have := HP1.out.next (by rw [← HM.out]); rw [← HM.out] at this; exact this)
              go_wp2_with fail
              refine ⟨⟨i + 1, M, rfl, HP2.out, HB7.out⟩, ?_⟩
              simp [intOf]; omega
      · refine CPH.out.mono ?_; rintro e v1 hmade
        obtain ⟨hc1, _⟩ | ⟨-, rfl, E8, q8, n8⟩ := hmade
        · exact absurd hc1 hc0
        obtain ⟨E9, q9, n9⟩ := HK7.out [DiskA p R.1, BuA pb R.2.1] _ _ q8 n8
        obtain ⟨E10, q10, K10⟩ := suf_nx [DiskA p R.1, BuA pb R.2.1] (M := [RDiskA D sA, RBuA P ⟨m0, 0, 0⟩]) ⟨fr_disk _ _, fr_bu _ _, trivial⟩ q9
        have CR := rr_open D P sA ⟨m0, 0, 0⟩ nmA size HK.out HOK.out nmA_size nmA_right (by rw [HCL0.out]; decide) v1 E10 q10
        rw [← HR.out] at CR
        have CRH := Lib.hid CR
        have HK10 := Lib.hid K10
        have N10 := Lib.hid (N0.out.trans n9)
        have HC0 := Lib.hid hc0
        clear q8 n8 q9 n9 q10 K10 CR CPH HK7 hc0
        go_wp2_with fail
        change Calls _ _ #[_, _, .string nmA, _] _ _
        refine CRH.out.mono ?_; rintro e v2 hmade
        obtain ⟨hc1, _⟩ | ⟨-, rfl, E11, q11, n11⟩ := hmade
        · exact absurd hc1 HC0.out
        obtain ⟨E12, q12, n12⟩ := HK10.out [RDiskA D R.1, RBuA P R.2.1] _ _ q11 n11
        have NS := Lib.hid (fun v (g : Gr v2 v) => NoneS.gr (p := p) (pb := pb) (D := D) (P := P) (s := R.1) (b := R.2.1) q12 g)
        have G12 := Lib.hid (nx_gr (N10.out.trans n12))
        have CN := Lib.hid (fun v (g : Gr v2 v) => bnow_c pb R.2.1 v (NS.out v g).bu)
        have CK := Lib.hid (fun v (g : Gr v2 v) => by obtain ⟨B, h⟩ := (NS.out v g).dk; exact d_calls p R.1 v B h)
        have p1 := (NS.out v2 (Gr.refl _)).p1
        have d4 := (NS.out v2 (Gr.refl _)).d4
        obtain ⟨bn, hbn⟩ : ∃ bn, bn = R.2.1.now := ⟨_, rfl⟩
        obtain ⟨sc, hsc⟩ : ∃ sc, sc = R.1.calls := ⟨_, rfl⟩
        obtain ⟨ec, hec⟩ : ∃ ec, ec = R.2.2.1 := ⟨_, rfl⟩
        rw [← hbn] at CN p1
        rw [← hsc] at CK d4
        rw [← hec]
        clear q11 n11 q12 n12 HK10 CRH hbn hsc hec HR HK HBF HBM HCL0 HSA HOK HB0 N0 N10 NS HC0
        go_wp2_with fail
        go_quiet (first | (go_at_call 16; exact quiet_call (CN.out _ (grN _ _))) | (go_at_call 17; exact quiet_call (CK.out _ (grN _ _))))
        have GQ := Lib.hid (G12.out.trans (grN v2 nq))
        clear CN CK p1 d4 G12
        go_wp2_with fail
        go_loopw [20] (fun iv wr => iv = .int .i64 0 ∧ Gr w wr) (fun _ _ => 0)
        case atStart => exact ⟨rfl, GQ.out⟩
        case round =>
          obtain ⟨rfl, gr⟩ := hrel
          have GR := Lib.hid gr
          clear gr GQ
          go_wp2_with fail
          refine (awake9_c _).mono ?_; rintro e u7 ⟨rfl, g7⟩
          go_wp2_with fail
          go_ret
          exact ⟨rfl, GR.out.trans g7⟩

set_option maxRecDepth 100000 in
theorem lifted (os : Os) (started : os.Started) (H : Type) (enc : TypeId × Value → H) :
    ReturnsInHanded {} Tryz.checked os 3 .any (Rows.readerPlaysSpec.pre6 enc Tryz.prog Tryz.f3 Rows.readerPlaysRow.domain false) (Rows.readerPlaysSpec.post enc Tryz.prog Tryz.f3 false true false false) := by
  refine returnsInHanded_of_change (C := Tryz.checked) own started (by kernel_rfl) Tryz.func3
    (ChangeSpec.witness6 (enc := enc) (C := Tryz.checked) false ⟨#[], #[.string ByteArray.empty, .int .i64 0, .int .i64 0, .int .i64 0, .int .i64 0], []⟩ 8 (by kernel_rfl) (by kernel_rfl) (by kernel_rfl) (by kernel_rfl)) ?_
  intro W base args ds gs before hval0 hW hcnd _
  have hval : ∀ (j : Nat) t v, Tryz.f3.params[j]? = some t → args[j]? = some v → Value.okWide Tryz.prog W .any base t v := hval0
  have hW' := hW
  obtain ⟨p, q, hA0, hV, rfl, hfz, hnd⟩ := hW
  have hA : DataW.TrodAll enc Tryz.prog W 0 (fun _ => true) true Tryz.f3.params.toList args.toList ds p := hA0
  rw [Tryz.params3] at hA hval
  obtain ⟨v0, vs0, d0, ds0, p0, q0, hargs, rfl, rfl, h0, r0⟩ := trodAll_cons hA
  obtain ⟨v1, vs1, d1, ds1, p1, q1, rfl, rfl, rfl, h1, r1⟩ := trodAll_cons r0
  obtain ⟨v2, vs2, d2, ds2, p2, q2, rfl, rfl, rfl, h2, r2⟩ := trodAll_cons r1
  obtain ⟨v3, vs3, d3, ds3, p3, q3, rfl, rfl, rfl, h3, r3⟩ := trodAll_cons r2
  obtain ⟨v4, vs4, d4, ds4, p4, q4, rfl, rfl, rfl, h4, r4⟩ := trodAll_cons r3
  obtain ⟨rfl, rfl, rfl⟩ := trodAll_nil r4
  obtain rfl : args = #[v0, v1, v2, v3, v4] := by cases args; simp_all
  obtain ⟨rfl, rfl⟩ := trodVars_none hV
  have k0 := h0
  have lt0 : ∀ x ∈ p0, x.block < W.heap.size := by obtain ⟨m, hm⟩ := k0; exact DataW.trod_lt m _ _ _ hm
  obtain ⟨n0, e0⟩ := okWide_string Tryz.underlying9 (hval 0 9 v0 rfl rfl)
  have w0 : Rd Tryz.prog W 9 v0 := by
    obtain ⟨fuel, hf⟩ := h0
    subst e0
    exact ⟨H, enc, fuel, _, by simpa [Value.cells] using hf⟩
  have k1 := h1
  have lt1 : ∀ x ∈ p1, x.block < W.heap.size := by obtain ⟨m, hm⟩ := k1; exact DataW.trod_lt m _ _ _ hm
  obtain ⟨n1, e1⟩ := okWide_int Tryz.underlying3 (hval 1 3 v1 rfl rfl)
  have w1 : Rd Tryz.prog W 3 v1 := by
    obtain ⟨fuel, hf⟩ := h1
    subst e1
    exact ⟨H, enc, fuel, _, by simpa [Value.cells] using hf⟩
  have k2 := h2
  have lt2 : ∀ x ∈ p2, x.block < W.heap.size := by obtain ⟨m, hm⟩ := k2; exact DataW.trod_lt m _ _ _ hm
  obtain ⟨n2, e2⟩ := okWide_int Tryz.underlying3 (hval 2 3 v2 rfl rfl)
  have w2 : Rd Tryz.prog W 3 v2 := by
    obtain ⟨fuel, hf⟩ := h2
    subst e2
    exact ⟨H, enc, fuel, _, by simpa [Value.cells] using hf⟩
  have k3 := h3
  have lt3 : ∀ x ∈ p3, x.block < W.heap.size := by obtain ⟨m, hm⟩ := k3; exact DataW.trod_lt m _ _ _ hm
  obtain ⟨n3, e3⟩ := okWide_int Tryz.underlying3 (hval 3 3 v3 rfl rfl)
  have w3 : Rd Tryz.prog W 3 v3 := by
    obtain ⟨fuel, hf⟩ := h3
    subst e3
    exact ⟨H, enc, fuel, _, by simpa [Value.cells] using hf⟩
  have k4 := h4
  have lt4 : ∀ x ∈ p4, x.block < W.heap.size := by obtain ⟨m, hm⟩ := k4; exact DataW.trod_lt m _ _ _ hm
  obtain ⟨n4, e4⟩ := okWide_int Tryz.underlying3 (hval 4 3 v4 rfl rfl)
  have w4 : Rd Tryz.prog W 3 v4 := by
    obtain ⟨fuel, hf⟩ := h4
    subst e4
    exact ⟨H, enc, fuel, _, by simpa [Value.cells] using hf⟩
  clear hA0 hval0
  refine (walk v0 v1 v2 v3 v4 W w0 w1 w2 w3 w4).mono fun e W' ⟨he, bel⟩ => ?_
  subst he
  exact ⟨_, rfl, _, _, _, [], _, [], hW', trodAll_mk1 (shut_bool Tryz.underlying4 _), (trodAll_cons_mk (Below.trod laidOut (by kernel_rfl) (of_decide_eq_true (by kernel_rfl)) k0 bel lt0) (trodAll_cons_mk (Below.trod laidOut (by kernel_rfl) (of_decide_eq_true (by kernel_rfl)) k1 bel lt1) (trodAll_cons_mk (Below.trod laidOut (by kernel_rfl) (of_decide_eq_true (by kernel_rfl)) k2 bel lt2) (trodAll_cons_mk (Below.trod laidOut (by kernel_rfl) (of_decide_eq_true (by kernel_rfl)) k3 bel lt3) (trodAll_cons_mk (Below.trod laidOut (by kernel_rfl) (of_decide_eq_true (by kernel_rfl)) k4 bel lt4) trodAll_mk0))))), rfl, bel.frame _, fun h => by cases h⟩

theorem over : Rows.readerPlaysRow.holds Tryz.pinned (OpenSpec.ofChange Rows.readerPlaysSpec) :=
  OpenClaim.holds_of_wide 3 Tryz.f3 rfl rfl rfl rfl rfl rfl rfl ⟨rfl, rfl, rfl, rfl, rfl⟩ rfl rfl rfl rfl rfl (by kernel_rfl) Tryz.func3 (by kernel_rfl)
    (of_decide_eq_true (by kernel_rfl)) (by unfold Func.isWrapper; first | (rw [if_pos (by decide +kernel)]; kernel_rfl) | (rw [if_neg (by decide +kernel)]; exact ⟨rfl, rfl⟩))
    (fun os started H enc _ => lifted os started H enc)

theorem proved : Rows.ReaderPlaysSaid := over
#print axioms proved
end Go.Proofs.YtojlceoeacebmaaGreat.readerPlays

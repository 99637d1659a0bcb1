/- Rows.WriterLaysSaid holds: for every input the law returns true and leaves its arguments as they were. Conditions: none beside the row's own. -/
import Derived.Test.YtcpaaenjfljocaaGreatRows
import Derived.WalkKit
import Derived.ProofKit
import Derived.OpenShut
import Derived.ShutString
import Derived.ChangeOld
import Derived.Below
import Derived.Test.YtcpaaenjfljocaaGreatP00
import Derived.Test.YtcpaaenjfljocaaGreatP23
namespace Go.Proofs.YtcpaaenjfljocaaGreat.writerLays
open Go.ChangeShapes Go.WideShapes Go.ChangeAt Go.RowKit
open Go.ChangeMaps (open_string shut_string)
open FsPlain CrcPlain OctPlain FramePlain RecPlain WrPlain
set_option linter.unusedVariables false
set_option linter.unusedSimpArgs false

theorem own : ownKnob Tryz.prog.godebug = none := by kernel_rfl
theorem laidOut : laidOutB Tryz.prog = true := by kernel_rfl


set_option maxRecDepth 100000 in
set_option maxHeartbeats 20000000 in
theorem walk (v0 v1 : Value) (w : World) (w0 : Rd Tryz.prog w 5 v0) (w1 : Rd Tryz.prog w 22 v1) :
    Calls Tryz.prog 4 #[v0, v1] w fun e w' => e = .returned (.bool true) ∧ Gr w w' := by
  obtain ⟨z0, rfl, hw0⟩ := rd_int Tryz.underlying5 w0
  obtain ⟨l, hl, hlm, hls⟩ := lies_in Tryz.underlying22 w1
  have hk : 0 ≤ z0 ∧ z0 ≤ 255 := by
    have h := hw0
    simp only [Lit.wf, Bool.and_eq_true, decide_eq_true_eq] at h
    exact h
  clear w0 w1 hw0 hls
  unfold maxLen at hlm
  have F := few6_c hl 30 (by omega) (by omega)
  obtain ⟨la, lc, rfl, hlc, hrow⟩ := hl
  have HROW := Lib.hid hrow
  have HF := Lib.hid F
  obtain ⟨nn, hnn⟩ : ∃ nn : Int, nn = 1 + z0 % 64 := ⟨_, rfl⟩
  have hn1 : 1 ≤ nn := by omega
  have hn2 : nn ≤ 64 := by omega
  clear hrow F
  cases hf : few6 l 30
  · have F := HF.out
    rw [hf] at F
    go_enter Tryz.func4, Tryz.ntmps4
    go_wp2_with fail
    refine F.mono ?_; rintro e u ⟨rfl, rfl⟩
    go_wp2_with fail
    refine (awake8_c _).mono ?_; rintro e u7 ⟨rfl, g7⟩
    go_wp2_with fail
    go_ret
    exact ⟨rfl, g7⟩
  · have F := HF.out
    rw [hf] at F
    obtain ⟨hl30, hl80⟩ := few6_yes hf
    have HL80 := Lib.hid hl80
    clear hf HF hl80
    go_enter Tryz.func4, Tryz.ntmps4
    go_wp2_with fail
    rw [← hnn]
    clear hnn hk
    refine F.mono ?_; rintro e u ⟨rfl, rfl⟩
    clear F
    have C1 := Lib.hid (new_c 1048576 (by decide) (by decide))
    have C3 := Lib.hid (fun u => bu_new 4 u (by decide) (by decide))
    obtain ⟨hR0, hOK0⟩ := lays_new hn1 hn2
    obtain ⟨m0, hm0⟩ : ∃ m0 : M3, m0 = ⟨(createM (fresh 1048576) ⟨4, 0, 0⟩ nmA nn).1, (createM (fresh 1048576) ⟨4, 0, 0⟩ nmA nn).2.1, newWs nmA nn⟩ := ⟨_, rfl⟩
    rw [← hm0] at hOK0
    have hall0 : m0.x.all = [] := by rw [hm0]; rfl
    have CC0 : ∀ p pb u B, stars [DiskA p (fresh 1048576), BuA pb ⟨4, 0, 0⟩] u B → Calls Tryz.prog 12 #[.pointer (some ⟨p, 0, none⟩), .pointer (some ⟨pb, 0, none⟩), .string ⟨#[97]⟩, .int .i64 nn] u fun e w' => ∃ x, Does u B (W3 x p pb m0) (.tuple #[.pointer (some ⟨x, 0, none⟩), .int .i64 0]) e w' := by
      intro p pb u B h
      refine (w_create p pb (fresh 1048576) ⟨4, 0, 0⟩ nmA nn (by unfold I64; omega) nmA_size nmA_right (by decide) u B h).mono ?_
      rintro e w' (⟨_, x, hd⟩ | ⟨h0, _⟩)
      · rw [hm0]; exact ⟨x, hd⟩
      · exact absurd hR0 h0
    have CC := Lib.hid CC0
    have HOK0 := Lib.hid hOK0
    have HA0 := Lib.hid hall0
    clear CC0 hOK0 hR0 hm0 hall0
    go_wp2_with fail
    refine (C1.out _).mono ?_; rintro e u1 hb
    obtain ⟨p, B1, rfl, hd1, g1, hn1'⟩ := hb
    obtain ⟨E1, q1, n1⟩ := part_new (P := DiskA p (fresh 1048576)) (L := []) trivial (stars_none w) g1 hd1 hn1'
    have Q1 := Lib.hid q1
    have N1 := Lib.hid n1
    clear hd1 g1 hn1' q1 n1
    go_wp2_with fail
    refine (C3.out _).mono ?_; rintro e u2 ⟨rfl, hd2, g2⟩
    obtain ⟨E2, q2, n2⟩ := part_new (P := BuA u1.heap.size ⟨4, 0, 0⟩) (L := [DiskA p (fresh 1048576)]) ⟨fr_disk _ _, trivial⟩ Q1.out g2 hd2 (fun b hb => by omega)
    obtain ⟨pb, hpb⟩ : ∃ pb, pb = u1.heap.size := ⟨_, rfl⟩
    rw [← hpb] at q2 ⊢
    have q3 : stars [DiskA p (fresh 1048576), BuA pb ⟨4, 0, 0⟩] u2 E2 := stars_perm (List.Perm.swap _ _ _) q2
    have CC1 := Lib.hid (CC.out p pb u2 E2 q3)
    have N2 := Lib.hid (N1.out.trans n2)
    clear hd2 g2 q2 q3 n2 hpb
    go_wp2_with fail
    refine CC1.out.mono ?_; rintro e u3 ⟨x, rfl, E3, q3, n3⟩
    obtain ⟨E4, q4, n4⟩ := part_new (w' := u3) (P := RowA (.slice none 0 0) []) (L := [WrA x p pb m0.x, DiskA p m0.s, BuA pb m0.b]) (frs_w3 _ _ _ _) q3 (Gr.refl _) (row_nil _) (fun b hb => hb.elim)
    obtain ⟨n, hn⟩ : ∃ n, l.length = n := ⟨_, rfl⟩
    have HN := Lib.hid hn
    have hst : LAt w x p pb nn n (.slice none 0 0) (.int .i64 0) u3 := ⟨0, m0, Nat.zero_le _, rfl, HOK0.out, E4, by rw [HA0.out]; exact q4, (N2.out.trans n3).trans n4⟩
    have HST := Lib.hid hst
    rw [hn] at hlm hlc hl30
    clear q3 n3 q4 n4 CC1 CC hst
    go_wp2_with fail
    clear hn
    go_loopw [11, 12] (fun sv iv wr => LAt w x p pb nn n sv iv wr) (fun sv iv _ => n - (intOf iv).toNat)
    case atStart => exact HST.out
    case round =>
      obtain ⟨i, m, hi, rfl, hok, B, hB, hN⟩ := hrel
      have HOK := Lib.hid hok
      have HB := Lib.hid hB
      have HNX := Lib.hid hN
      clear HST hok
      by_cases hlt : i < n
      · obtain ⟨b, off, rfl, hr⟩ : ∃ b off, la = some ⟨b, off, none⟩ ∧ SRow w b off l := HROW.out.elim (fun h0 => by have := HN.out; rw [h0] at this; simp at this; omega) id
        obtain ⟨r, hr1, _, hr3⟩ := take_at (l := l) (j := i) (by rw [HN.out]; exact hlt)
        have hbl := hr.1
        have hold : w.cell? ⟨b, off + i, none⟩ = some (.string r) := hr.2 i r hr1
        have hcell : wr.cell? ⟨b, off + i, none⟩ = some (.string r) := by rw [(nx_gr hN).cell (p := ⟨b, off + i, none⟩) hbl]; exact hold
        have OLD := Lib.hid (fun v (g : Gr w v) => show v.cell? ⟨b, off + i, none⟩ = some (.string r) by rw [g.cell (p := ⟨b, off + i, none⟩) hbl]; exact hold)
        have hi0 : (0 : Int) ≤ (i : Int) := by omega
        have hi1 : (i : Int) < (n : Int) := by omega
        have hbw : b < wr.heap.size := Nat.lt_of_lt_of_le hbl (nx_gr hN).size
        have CP := l_put (w := w) (r := r) HOK.out.ok (by have := HOK.out.all; omega) (by have := HOK.out.calls; omega) hB
        obtain ⟨_, hrw, _⟩ := part_at 0 rfl hB
        obtain ⟨sa, cs, rfl, _⟩ := rowE_shape hrw
        obtain ⟨k, hk⟩ : ∃ k, m.x.all.length = k := ⟨_, rfl⟩
        have HKK := Lib.hid hk
        have hkn : k ≤ 30 := by have := HOK.out.all; omega
        simp only [hk]
        by_cases hz : (r.size : Int) = nn
        · obtain ⟨p1, p2, p3⟩ := lays_put HOK.out (by omega) hz
          obtain ⟨M, hM⟩ : ∃ M, M = (putM m r).1 := ⟨_, rfl⟩
          rw [p1, ← hM] at CP
          rw [← hM] at p2 p3
          have CPH := Lib.hid CP
          have P2 := Lib.hid p2
          have P3 := Lib.hid p3
          clear hr hr1 hr3 hold hz hB hN hrw hk p1 p2 p3 hM CP
          go_wp2_with fail
          refine CPH.out.mono ?_; rintro e u4 hd
          obtain ⟨rfl, B4, h4, n4⟩ := hd
          have N4 := Lib.hid (HNX.out.trans n4)
          have hcell4 := OLD.out _ (nx_gr N4.out)
          obtain ⟨_, hr4, _⟩ := part_at 0 rfl h4
          have RW := Lib.hid hr4.1
          have H4 := Lib.hid h4
          obtain ⟨i0, hi', hz0, hz1, hz2⟩ := info_parts infoS
          clear h4 n4 hr4 CPH
          go_wp2_with (at_builtin; refine wpList_append_own_at _ rfl _ _ 22 rfl 0 9 i0 (.string ⟨#[]⟩) 1 16 Tryz.underlying22 hi' hz0 hz1 hz2 rfl (by decide) (.slice sa k cs) k (strs m.x.all) rfl (by have := RW.out; rw [HKK.out] at this; exact this.alloc _) ⟨u4.heap.size, 0, none⟩ 1 1 [.string r] rfl rfl (cell_one_new _ _ _) (by simp [Value.oneCell']) (by unfold maxLen; omega) (by omega) (Nat.zero_le _) ?_)
          intro v5 w5 ho5 hg5 _ ha5
          obtain ⟨B5, h5, n5⟩ := l_app (w := w) H4.out HKK.out ((Gr.refl u4).alloc (Nat.le_refl _) (.cells #[.string r] 9)) ho5 (by rw [HKK.out]; exact hg5) (by rw [HKK.out, World.size_alloc]; exact ha5)
          have REL := Lib.hid (show LAt w x p pb nn n v5 (.int .i64 ((i : Int) + 1)) w5 from ⟨i + 1, M, hlt, by simp, P2.out, B5, by rw [P3.out]; exact h5, N4.out.trans n5⟩)
          clear ho5 hg5 ha5 h5 n5 hcell4 H4 RW hi' hz0 hz1 hz2
          go_wp2_with fail
          exact ⟨REL.out, by simp [intOf]; omega⟩
        · have hbad := lays_bad HOK.out hz
          rw [hbad] at CP
          have CPH := Lib.hid CP
          clear hr hr1 hr3 hold hz hB hN hrw CP hbad
          go_wp2_with fail
          refine CPH.out.mono ?_; rintro e u4 hd
          obtain ⟨rfl, B4, h4, n4⟩ := hd
          have REL := Lib.hid (show LAt w x p pb nn n (.slice sa k cs) (.int .i64 ((i : Int) + 1)) u4 from ⟨i + 1, m, hlt, by simp, HOK.out.le (by omega), B4, by rw [← hk]; exact h4, HNX.out.trans n4⟩)
          clear h4 n4 hk
          go_wp2_with fail
          exact ⟨REL.out, by simp [intOf]; omega⟩
      · have hge : ¬ (i : Int) < (n : Int) := by omega
        have hin : i ≤ 30 := by omega
        obtain ⟨hc0, hB0, ho3, ha3, hb3, hk3, hsz, hrd⟩ := lays_close HOK.out hin hn1 hn2
        obtain ⟨m3, hm3⟩ : ∃ m3, m3 = (closeM m).1 := ⟨_, rfl⟩
        obtain ⟨su, hsu⟩ : ∃ su : Nat, su = sumN m.x.all := ⟨_, rfl⟩
        obtain ⟨LR, hLR⟩ : ∃ LR, LR = layR nn m.x.all := ⟨_, rfl⟩
        obtain ⟨L, hL⟩ : ∃ L, L = m.x.all := ⟨_, rfl⟩
        obtain ⟨_, hrw, _⟩ := part_at 0 rfl hB
        obtain ⟨sa, cs, rfl, _⟩ := rowE_shape hrw
        obtain ⟨k, hk⟩ : ∃ k, m.x.all.length = k := ⟨_, rfl⟩
        have hkn : k ≤ 30 := by have := HOK.out.all; omega
        have hLk : L.length = k := by rw [hL]; exact hk
        have hLz : ∀ s ∈ L, s.size ≤ 1000 := fun s hs => by
          have := HOK.out.ok.az s (by rw [← hL]; exact hs); have := HOK.out.size; omega
        have CV : closeV m (closeM m).2 = .tuple #[.agg #[.int .i64 k, .int .u32 su], .int .i64 0] := by rw [hc0]; unfold closeV; rw [hk, ← hsu]; rfl
        have CK := l_close (w := w) HOK.out.ok (by have := HOK.out.all; omega) (by have := HOK.out.calls; omega) hB
        rw [CV, ← hm3, ← hL] at CK
        rw [← hm3] at ho3 ha3 hb3 hk3 hsz hrd
        rw [← hLR] at hsz hrd
        rw [← hL] at ha3
        have C1 : Calls Tryz.prog 22 #[.pointer (some ⟨x, 0, none⟩)] wr (Does wr B (stars (l4 (.slice sa k cs) x p pb L m3)) (.tuple #[.agg #[.int .i64 k, .int .u32 su], .int .i64 0])) := by rw [← hk]; rw [← hk] at CK; rw [hL] at CK ⊢; exact CK
        have CL0 : ∀ v B, stars (l4 (.slice sa k cs) x p pb L m3) v B → Calls Tryz.prog 30 #[.int .i64 nn, .slice sa k cs] v fun e w' => e = .returned (.tuple #[.string LR, .bool true]) ∧ Gr v w' := by
          intro v B h
          obtain ⟨_, hr, _⟩ := part_at 0 rfl h
          have := rlay_c (row_lies hr) nn (by unfold I64; omega) (by omega) hLz
          rw [hL, hB0, ← hLR] at this
          exact this
        have CS0 : ∀ v B, RowA (.slice sa k cs) L v B → Calls Tryz.prog 31 #[.slice sa k cs] v fun e w' => e = .returned (.agg #[.int .i64 k, .int .u32 su]) ∧ Gr v w' := by
          intro v B hr
          have := rsum_c (row_lies hr) (by omega) hLz
          unfold SumGot at this
          rw [hLk, hL, ← hsu] at this
          exact this
        have CR0 : ∀ v B, stars (l4 (.slice sa k cs) x p pb L m3) v B → Calls Tryz.prog 24 #[.pointer (some ⟨p, 0, none⟩), .slice none 0 0] v (Does v B (stars (l4 (.slice sa k cs) x p pb L ⟨riseR m3.s [], m3.b, m3.x⟩)) (.tuple #[])) := fun v B h => l4_disk h fun B2 h2 => d_rise p m3.s v B2 h2
        obtain ⟨zs, hzs⟩ : ∃ zs : Nat, zs = LR.size := ⟨_, rfl⟩
        have hc7 := rise_calls m3.s []
        have hzsm : zs ≤ 1000000000 := by rw [hzs, hLR]; exact lay_room hB0 (by omega)
        have CZ0 : ∀ v B, stars (l4 (.slice sa k cs) x p pb L ⟨riseR m3.s [], m3.b, m3.x⟩) v B → Calls Tryz.prog 25 #[.pointer (some ⟨p, 0, none⟩), .string ⟨#[97]⟩] v (Does v B (stars (l4 (.slice sa k cs) x p pb L ⟨(riseR m3.s []).call, m3.b, m3.x⟩)) (.tuple #[.int .i64 zs, .int .i64 0])) := by
          intro v B h
          refine l4_disk (m := ⟨riseR m3.s [], m3.b, m3.x⟩) h fun B2 h2 => ?_
          have := d_size p (riseR m3.s []) nmA (by decide) nmA_right (by omega) v B2 h2
          rw [hsz, ← hzs] at this
          exact this
        have CE0 : ∀ v B, stars (l4 (.slice sa k cs) x p pb L ⟨(riseR m3.s []).call, m3.b, m3.x⟩) v B → Calls Tryz.prog 26 #[.pointer (some ⟨p, 0, none⟩), .string ⟨#[97]⟩, .int .i64 0, .int .i64 zs] v (Does v B (stars (l4 (.slice sa k cs) x p pb L ⟨(riseR m3.s []).call.call, m3.b, m3.x⟩)) (.tuple #[.string LR, .int .i64 0])) := by
          intro v B h
          refine l4_disk (m := ⟨(riseR m3.s []).call, m3.b, m3.x⟩) h fun B2 h2 => ?_
          have := d_read p (riseR m3.s []).call nmA 0 zs (by decide) nmA_right (by show (riseR m3.s []).calls + 1 ≤ _; omega) (by decide) hzsm v B2 h2
          rw [hzs, hrd] at this
          rw [hzs]
          exact this
        have HL := Lib.hid hLk
        have HO3 := Lib.hid ho3
        have HA3 := Lib.hid ha3
        have HB3 := Lib.hid hb3
        have C1H := Lib.hid C1
        have CLH := Lib.hid CL0
        have CSH := Lib.hid CS0
        have CRH := Lib.hid CR0
        have CZH := Lib.hid CZ0
        have CEH := Lib.hid CE0
        rw [hk]
        clear hsz hrd hLz hLk hL hLR hsu hm3 ho3 ha3 hb3 hc0 hB0 CV CK C1 CL0 CS0 CR0 CZ0 CE0 hrw hB hN hzs hc7 hk3 hk
        go_wp2_with fail
        refine C1H.out.mono ?_; rintro e u4 hd
        obtain ⟨rfl, B4, h4, n4⟩ := hd
        have N4 := Lib.hid (HNX.out.trans n4)
        have H4 := Lib.hid h4
        clear h4 n4 C1H
        go_wp2_with fail
        obtain ⟨X, hX⟩ : ∃ X, X = u4.alloc (.cells #[.int .i64 (k : Nat), .int .u32 (su : Nat)] 50) := ⟨_, rfl⟩
        have gX : Gr u4 X := by rw [hX]; exact (Gr.refl u4).alloc (Nat.le_refl _) _
        obtain ⟨q, hq⟩ : ∃ q, q = u4.heap.size := ⟨_, rfl⟩
        have hXl : q < X.heap.size := by rw [hX, World.size_alloc, hq]; omega
        have x0 : X.cell? ⟨q, 0, none⟩ = some (.int .i64 (k : Nat)) := by rw [hX, hq, World.cell?_alloc_mark]; rfl
        have x1 : X.cell? ⟨q, 1, none⟩ = some (.int .u32 (su : Nat)) := by rw [hX, hq, World.cell?_alloc_mark]; rfl
        have hnq : ¬ B4 q := fun hb => by have := (fr_stars (frs_l4 (.slice sa k cs) x p pb L m3)).lo H4.out q hb; omega
        have hsh := l4_shut HO3.out H4.out
        have hxl4 := lt_of_block hsh
        have s0 : u4.cell? ⟨x, 0, none⟩ = some (.pointer none) := by rw [cells_at hsh]; rfl
        have C2H := Lib.hid (w_close_none (.pointer (some ⟨x, 0, none⟩)) X (fun u g => wopen_no x u (((gX.trans g).cell (p := ⟨x, 0, none⟩) hxl4).trans s0)))
        have GX := Lib.hid gX
        have HNQ := Lib.hid hnq
        rw [← hX, ← hq]
        clear hX gX hq hsh hxl4 s0 hnq
        refine C2H.out.mono ?_; rintro e u5 ⟨rfl, g5⟩
        have g45 := GX.out.trans g5
        have y0 := (g5.cell (p := ⟨q, 0, none⟩) hXl).trans x0
        have y1 := (g5.cell (p := ⟨q, 1, none⟩) hXl).trans x1
        have hYl := Nat.lt_of_lt_of_le hXl g5.size
        have gA : Gr u5 (u5.alloc (.cells #[.int .i64 0, .int .u32 0] 50)) := (Gr.refl u5).alloc (Nat.le_refl _) _
        have CL1 := Lib.hid (CLH.out _ B4 (stars_gr (frs_l4 (.slice sa k cs) x p pb L m3) H4.out (g45.trans gA)))
        have G45 := Lib.hid g45
        clear g5 x0 x1 hXl C2H GX g45 gA
        go_wp2_with fail
        refine CL1.out.mono ?_; rintro e u6 ⟨rfl, g6⟩
        have g56 := Gr.trans (b := u5.alloc (.cells #[.int .i64 0, .int .u32 0] 50)) ((Gr.refl u5).alloc (Nat.le_refl _) _) g6
        have g46 := G45.out.trans g56
        have z0' := (g56.cell (p := ⟨q, 0, none⟩) hYl).trans y0
        have z1' := (g56.cell (p := ⟨q, 1, none⟩) hYl).trans y1
        have hZl := Nat.lt_of_lt_of_le hYl g56.size
        have CR1 := Lib.hid (CRH.out u6 B4 (stars_gr (frs_l4 (.slice sa k cs) x p pb L m3) H4.out g46))
        have N6 := Lib.hid (N4.out.trans (Nx.gr g46))
        clear g6 y0 y1 hYl CL1 G45 g56 g46 CRH
        go_wp2_with fail
        refine CR1.out.mono ?_; rintro e u7 ⟨rfl, B7, h7, n7⟩
        have a0 := (n7.only.cell (p := ⟨q, 0, none⟩) hZl HNQ.out).trans z0'
        have a1 := (n7.only.cell (p := ⟨q, 1, none⟩) hZl HNQ.out).trans z1'
        have hAl := Nat.lt_of_lt_of_le hZl n7.only.size
        have hnq7 : ¬ B7 q := fun hb => by rcases n7.new q hb with h | h; exact HNQ.out h; omega
        have CZ1 := Lib.hid (CZH.out u7 B7 h7)
        have N7 := Lib.hid (N6.out.trans n7)
        clear z0' z1' hZl h7 n7 CR1 CZH
        go_wp2_with fail
        refine CZ1.out.mono ?_; rintro e u8 ⟨rfl, B8, h8, n8⟩
        have b0 := (n8.only.cell (p := ⟨q, 0, none⟩) hAl hnq7).trans a0
        have b1 := (n8.only.cell (p := ⟨q, 1, none⟩) hAl hnq7).trans a1
        have hBl := Nat.lt_of_lt_of_le hAl n8.only.size
        have hnq8 : ¬ B8 q := fun hb => by rcases n8.new q hb with h | h; exact hnq7 h; omega
        have CE1 := Lib.hid (CEH.out u8 B8 h8)
        have N8 := Lib.hid (N7.out.trans n8)
        clear a0 a1 hAl h8 n8 CZ1 CEH hnq7
        go_wp2_with fail
        refine CE1.out.mono ?_; rintro e u9 ⟨rfl, B9, h9, n9⟩
        have d0 := (n9.only.cell (p := ⟨q, 0, none⟩) hBl hnq8).trans b0
        have d1 := (n9.only.cell (p := ⟨q, 1, none⟩) hBl hnq8).trans b1
        have hDl := Nat.lt_of_lt_of_le hBl n9.only.size
        have N9 := Lib.hid (N8.out.trans n9)
        have H9 := Lib.hid h9
        have hsh := l4_shut (m := ⟨(riseR m3.s []).call.call, m3.b, m3.x⟩) HO3.out h9
        have hxl9 := lt_of_block hsh
        have s0 : u9.cell? ⟨x, 0, none⟩ = some (.pointer none) := by rw [cells_at hsh]; rfl
        obtain ⟨Bbu, hbu, _⟩ := part_at 3 rfl h9
        have hbu' : BuA pb ⟨4, 0, 4⟩ u9 Bbu := by rw [← HB3.out]; exact hbu
        have KS0 : ∀ v, Gr u9 v → v.cell? ⟨q, 0, none⟩ = some (.int .i64 (k : Nat)) ∧ v.cell? ⟨q, 1, none⟩ = some (.int .u32 (su : Nat)) := fun v g => ⟨(g.cell (p := ⟨q, 0, none⟩) hDl).trans d0, (g.cell (p := ⟨q, 1, none⟩) hDl).trans d1⟩
        have CPO0 : ∀ v, Gr u9 v → Calls Tryz.prog 15 #[.pointer (some ⟨x, 0, none⟩), .string ⟨#[97]⟩] v fun e w' => e = .returned (.int .i64 14) ∧ Gr u9 w' := fun v g => (w_put_off x ⟨#[97]⟩ v ((g.cell (p := ⟨x, 0, none⟩) hxl9).trans s0)).mono fun e w' ⟨he, hw⟩ => ⟨he, by rw [← hw]; exact g⟩
        have CSU0 : ∀ v, Gr u9 v → Calls Tryz.prog 31 #[.slice sa k cs] v fun e w' => e = .returned (.agg #[.int .i64 k, .int .u32 su]) ∧ Gr u9 w' := fun v g => by
          obtain ⟨_, hr, _⟩ := part_at 0 rfl h9
          exact (CSH.out v _ (star_gr (fr_row _ _) hr g)).mono fun e w' ⟨he, g2⟩ => ⟨he, g.trans g2⟩
        have CNO0 : ∀ v, Gr u9 v → Calls Tryz.prog 14 #[.pointer (some ⟨pb, 0, none⟩)] v fun e w' => e = .returned (.int .i64 0) ∧ Gr u9 w' := fun v g => (bnow_c pb ⟨4, 0, 4⟩ v (hbu'.at.gr g)).mono fun e w' ⟨he, hw⟩ => ⟨he, by rw [← hw]; exact g⟩
        have CHI0 : ∀ v, Gr u9 v → Calls Tryz.prog 28 #[.pointer (some ⟨pb, 0, none⟩)] v fun e w' => e = .returned (.int .i64 4) ∧ Gr u9 w' := fun v g => (bhigh_c pb ⟨4, 0, 4⟩ v (hbu'.at.gr g)).mono fun e w' ⟨he, hw⟩ => ⟨he, by rw [← hw]; exact g⟩
        obtain ⟨B10, h10⟩ := l4_w3 h9
        have CCO0 : ∀ v, Gr u9 v → Calls Tryz.prog 17 #[.pointer (some ⟨x, 0, none⟩)] v fun e w' => e = .returned (.int .i64 (k : Nat)) ∧ Gr u9 w' := fun v g => by
          have := w_count x p pb ⟨(riseR m3.s []).call.call, m3.b, m3.x⟩ v B10 (stars_gr (frs_w3 _ _ _ _) h10 g)
          rw [show (M3.mk (riseR m3.s []).call.call m3.b m3.x).x.all.length = k by show m3.x.all.length = k; rw [HA3.out, HL.out]] at this
          exact this.mono fun e w' ⟨he, g2⟩ => ⟨he, g.trans g2⟩
        have CAW := Lib.hid (fun v (g : Gr u9 v) => (awake8_c v).mono fun e w' h => (⟨h.1, g.trans h.2⟩ : _ ∧ Gr u9 w'))
        have CPO := Lib.hid CPO0
        have CSU := Lib.hid CSU0
        have CNO := Lib.hid CNO0
        have CHI := Lib.hid CHI0
        have CCO := Lib.hid CCO0
        have KS := Lib.hid KS0
        have IE := info_eq (k : Nat) (su : Nat)
        have IS := info_same (k : Nat) (su : Nat)
        have gU := Gr.refl u9
        have gUd : Gr u9 u9.drew := Below.drew gU
        clear h9 n9 b0 b1 hBl CE1 hnq8 hsh s0 hbu hbu' KS0 CPO0 CSU0 CNO0 CHI0 CCO0 h10 hDl hxl9
        go_wp2_with fail
        go_region_held3 (fun w' => w'.cell? ⟨q, 0, none⟩ = some (.int .i64 (k : Nat)) ∧ w'.cell? ⟨q, 1, none⟩ = some (.int .u32 (su : Nat))) (first | exact KS.out _ gUd | exact KS.out _ (by assumption) | go_keep)
          ((first
            | (go_at_call 15; (with_reducible refine (CPO.out _ (by assumption)).mono ?_); rintro e t1 ⟨rfl, g1⟩)
            | (go_at_call 31; (with_reducible refine (CSU.out _ (by assumption)).mono ?_); rintro e t2 ⟨rfl, g2⟩)
            | (go_at_call 14; (with_reducible refine (CNO.out _ (by assumption)).mono ?_); rintro e t3 ⟨rfl, g3⟩)
            | (go_at_call 28; (with_reducible refine (CHI.out _ (by assumption)).mono ?_); rintro e t4 ⟨rfl, g4⟩)
            | (go_at_call 17; (with_reducible refine (CCO.out _ (by assumption)).mono ?_); rintro e t5 ⟨rfl, g5⟩)
            | (go_at_call 6; (with_reducible refine (CAW.out _ (by assumption)).mono ?_); rintro e t6 ⟨rfl, g6⟩)))
        go_wp2_with fail
        go_ret
        exact ⟨rfl, (nx_gr N9.out).trans g6⟩

set_option maxRecDepth 100000 in
theorem lifted (os : Os) (started : os.Started) (H : Type) (enc : TypeId × Value → H) :
    ReturnsInHanded {} Tryz.checked os 4 .any (Rows.writerLaysSpec.pre6 enc Tryz.prog Tryz.f4 Rows.writerLaysRow.domain false) (Rows.writerLaysSpec.post enc Tryz.prog Tryz.f4 false true false false) := by
  refine returnsInHanded_of_change (C := Tryz.checked) own started (by kernel_rfl) Tryz.func4
    (ChangeSpec.witness6 (enc := enc) (C := Tryz.checked) false ⟨#[], #[.int .u8 0, .slice none 0 0], []⟩ 8 (by kernel_rfl) (by kernel_rfl) (by kernel_rfl) (by kernel_rfl)) ?_
  intro W base args ds gs before hval0 hW hcnd _
  have hval : ∀ (j : Nat) t v, Tryz.f4.params[j]? = some t → args[j]? = some v → Value.okWide Tryz.prog W .any base t v := hval0
  have hW' := hW
  obtain ⟨p, q, hA0, hV, rfl, hfz, hnd⟩ := hW
  have hA : DataW.TrodAll enc Tryz.prog W 0 (fun _ => true) true Tryz.f4.params.toList args.toList ds p := hA0
  rw [Tryz.params4] at hA hval
  obtain ⟨v0, vs0, d0, ds0, p0, q0, hargs, rfl, rfl, h0, r0⟩ := trodAll_cons hA
  obtain ⟨v1, vs1, d1, ds1, p1, q1, rfl, rfl, rfl, h1, r1⟩ := trodAll_cons r0
  obtain ⟨rfl, rfl, rfl⟩ := trodAll_nil r1
  obtain rfl : args = #[v0, v1] := by cases args; simp_all
  obtain ⟨rfl, rfl⟩ := trodVars_none hV
  have k0 := h0
  have lt0 : ∀ x ∈ p0, x.block < W.heap.size := by obtain ⟨m, hm⟩ := k0; exact DataW.trod_lt m _ _ _ hm
  obtain ⟨n0, e0⟩ := okWide_int Tryz.underlying5 (hval 0 5 v0 rfl rfl)
  have w0 : Rd Tryz.prog W 5 v0 := by
    obtain ⟨fuel, hf⟩ := h0
    subst e0
    exact ⟨H, enc, fuel, _, by simpa [Value.cells] using hf⟩
  have k1 := h1
  have lt1 : ∀ x ∈ p1, x.block < W.heap.size := by obtain ⟨m, hm⟩ := k1; exact DataW.trod_lt m _ _ _ hm
  obtain ⟨a1, l1, c1, e1⟩ := okWide_slice Tryz.underlying22 (hval 1 22 v1 rfl rfl)
  have w1 : Rd Tryz.prog W 22 v1 := by
    obtain ⟨fuel, hf⟩ := h1
    subst e1
    exact ⟨H, enc, fuel, _, by simpa [Value.cells] using hf⟩
  clear hA0 hval0
  refine (walk v0 v1 W w0 w1).mono fun e W' ⟨he, bel⟩ => ?_
  subst he
  exact ⟨_, rfl, _, _, _, [], _, [], hW', trodAll_mk1 (shut_bool Tryz.underlying4 _), (trodAll_cons_mk (Below.trod laidOut (by kernel_rfl) (of_decide_eq_true (by kernel_rfl)) k0 bel lt0) (trodAll_cons_mk (Below.trod laidOut (by kernel_rfl) (of_decide_eq_true (by kernel_rfl)) k1 bel lt1) trodAll_mk0)), rfl, bel.frame _, fun h => by cases h⟩

theorem over : Rows.writerLaysRow.holds Tryz.pinned (OpenSpec.ofChange Rows.writerLaysSpec) :=
  OpenClaim.holds_of_wide 4 Tryz.f4 rfl rfl rfl rfl rfl rfl rfl ⟨rfl, rfl, rfl, rfl, rfl⟩ rfl rfl rfl rfl rfl (by kernel_rfl) Tryz.func4 (by kernel_rfl)
    (of_decide_eq_true (by kernel_rfl)) (by unfold Func.isWrapper; first | (rw [if_pos (by decide +kernel)]; kernel_rfl) | (rw [if_neg (by decide +kernel)]; exact ⟨rfl, rfl⟩))
    (fun os started H enc _ => lifted os started H enc)

theorem proved : Rows.WriterLaysSaid := over
#print axioms proved
end Go.Proofs.YtcpaaenjfljocaaGreat.writerLays

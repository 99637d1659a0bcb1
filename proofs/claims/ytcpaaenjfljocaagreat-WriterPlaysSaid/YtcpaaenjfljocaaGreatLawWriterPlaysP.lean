/- Rows.WriterPlaysSaid holds: for every input the law returns true and leaves its arguments as they were. Conditions: none beside the row's own. -/
import Derived.Test.YtcpaaenjfljocaaGreatRows
import Derived.WalkKit
import Derived.ProofKit
import Derived.OpenShut
import Derived.ShutString
import Derived.ChangeOld
import Derived.Below
import Derived.Test.YtcpaaenjfljocaaGreatP00
import Derived.Test.YtcpaaenjfljocaaGreatP21
import Derived.Test.YtcpaaenjfljocaaGreatP22
namespace Go.Proofs.YtcpaaenjfljocaaGreat.writerPlays
open Go.ChangeShapes Go.WideShapes Go.ChangeAt Go.RowKit
open Go.ChangeMaps (open_string shut_string)
open FsPlain CrcPlain OctPlain FramePlain RecPlain WrPlain
set_option linter.unusedVariables false
set_option linter.unusedSimpArgs false

theorem own : ownKnob Tryz.prog.godebug = none := by kernel_rfl
theorem laidOut : laidOutB Tryz.prog = true := by kernel_rfl


set_option maxRecDepth 100000 in
set_option maxHeartbeats 20000000 in
theorem walk (v0 v1 v2 v3 v4 v5 : Value) (w : World) (w0 : Rd Tryz.prog w 3 v0) (w1 : Rd Tryz.prog w 22 v1) (w2 : Rd Tryz.prog w 3 v2) (w3 : Rd Tryz.prog w 3 v3) (w4 : Rd Tryz.prog w 3 v4) (w5 : Rd Tryz.prog w 4 v5) :
    Calls Tryz.prog 3 #[v0, v1, v2, v3, v4, v5] w fun e w' => e = .returned (.bool true) ∧ Gr w w' := by
  obtain ⟨size, rfl, hw0⟩ := rd_int Tryz.underlying3 w0
  obtain ⟨l, hl, hlm, hls⟩ := lies_in Tryz.underlying22 w1
  obtain ⟨room, rfl, hw2⟩ := rd_int Tryz.underlying3 w2
  obtain ⟨m0, rfl, hw3⟩ := rd_int Tryz.underlying3 w3
  obtain ⟨fuse, rfl, hw4⟩ := rd_int Tryz.underlying3 w4
  obtain ⟨drop, rfl⟩ := rd_bool Tryz.underlying4 w5
  have hk : I64 size := bounds_i64 hw0
  have bm := bounds_i64 hw3
  have bf := bounds_i64 hw4
  clear w0 w1 w2 w3 w4 w5 hw0 hw2 hw3 hw4 hls
  unfold maxLen at hlm
  have F := few6_c hl 30 (by omega) (by omega)
  have HL := Lib.hid (fun u (g : Gr w u) => hl.gr g)
  obtain ⟨la, lc, rfl, hlc, hrow⟩ := hl
  have HROW := Lib.hid hrow
  have HF := Lib.hid F
  have HK := Lib.hid hk
  clear hrow F hk
  cases hf : few6 l 30
  · have F := HF.out
    rw [hf] at F
    clear hf HF
    go_enter Tryz.func3, Tryz.ntmps3
    go_wp2_with fail
    refine F.mono ?_; rintro e u ⟨rfl, rfl⟩
    go_wp2_with fail
    refine (awake8_c _).mono ?_; rintro e u7 ⟨rfl, g7⟩
    go_wp2_with fail
    go_ret
    exact ⟨rfl, g7⟩
  · have F := HF.out
    rw [hf] at F
    obtain ⟨hl30, hl80⟩ := few6_yes hf
    have HL80 := Lib.hid hl80
    clear hf HF hl80
    by_cases hroom : room < 0 ∨ 16777216 < room
    · have C1 := Lib.hid (new_bad room hroom)
      have C2 := Lib.hid (rnew_no room · hroom)
      clear hroom
      by_cases hm : m0 < 0
      · have C3 := Lib.hid (fun u => bnew_no m0 u hm)
        have t1 : decide (m0 < 0) = true := by simpa using hm
        go_enter Tryz.func3, Tryz.ntmps3
        go_wp2_with fail
        refine F.mono ?_; rintro e u ⟨rfl, rfl⟩
        clear F
        go_wp2_with fail
        refine (C1.out _).mono ?_; rintro e u ⟨rfl, rfl⟩
        go_wp2_with fail
        refine (C2.out _).mono ?_; rintro e u ⟨rfl, rfl⟩
        go_wp2_with fail
        refine (C3.out _).mono ?_; rintro e u ⟨rfl, rfl⟩
        go_wp2_with fail
        refine (awake8_c _).mono ?_; rintro e u7 ⟨rfl, g7⟩
        go_wp2_with fail
        go_ret
        exact ⟨rfl, g7⟩
      · have C3 := Lib.hid (fun u => bnew_c m0 u (by omega) (by omega))
        have t1 : decide (m0 < 0) = false := by simpa using hm
        have hm' : 0 ≤ m0 := by omega
        go_enter Tryz.func3, Tryz.ntmps3
        go_wp2_with fail
        refine F.mono ?_; rintro e u ⟨rfl, rfl⟩
        clear F
        go_wp2_with fail
        refine (C1.out _).mono ?_; rintro e u ⟨rfl, rfl⟩
        go_wp2_with fail
        refine (C2.out _).mono ?_; rintro e u ⟨rfl, rfl⟩
        go_wp2_with fail
        refine (C3.out _).mono ?_; rintro e u ⟨rfl, _, g3⟩
        have G3 := Lib.hid g3
        clear g3
        go_wp2_with fail
        refine (awake8_c _).mono ?_; rintro e u7 ⟨rfl, g7⟩
        have G7 := Lib.hid g7
        clear g7
        go_wp2_with fail
        go_ret
        exact ⟨rfl, G3.out.trans G7.out⟩
    · have C1 := Lib.hid (new_c room (by omega) (by omega))
      have C2 := Lib.hid (fun u => rnew_c room u (by omega) (by omega))
      clear hroom
      by_cases hm : m0 < 0
      · have C3 := Lib.hid (fun u => bnew_no m0 u hm)
        have t1 : decide (m0 < 0) = true := by simpa using hm
        go_enter Tryz.func3, Tryz.ntmps3
        go_wp2_with fail
        refine F.mono ?_; rintro e u ⟨rfl, rfl⟩
        clear F
        go_wp2_with fail
        refine (C1.out _).mono ?_; rintro e u1 hb
        obtain ⟨p, B1, rfl, _, g1, _⟩ := hb
        have G1 := Lib.hid g1
        clear g1
        go_wp2_with fail
        refine (C2.out _).mono ?_; rintro e u2 ⟨rfl, _, g2⟩
        have G2 := Lib.hid g2
        clear g2
        go_wp2_with fail
        refine (C3.out _).mono ?_; rintro e u ⟨rfl, rfl⟩
        go_wp2_with fail
        refine (awake8_c _).mono ?_; rintro e u7 ⟨rfl, g7⟩
        have G7 := Lib.hid g7
        clear g7
        go_wp2_with fail
        go_ret
        exact ⟨rfl, (G1.out.trans G2.out).trans G7.out⟩
      · have C3 := Lib.hid (fun u => bu_new m0 u (by omega) (by omega))
        have t1 : decide (m0 < 0) = false := by simpa using hm
        have hm' : 0 ≤ m0 := by omega
        have HBM := Lib.hid bm
        have HBF := Lib.hid bf
        clear bm bf
        go_enter Tryz.func3, Tryz.ntmps3
        go_wp2_with fail
        refine F.mono ?_; rintro e u ⟨rfl, rfl⟩
        clear F
        go_wp2_with fail
        refine (C1.out _).mono ?_; rintro e u1 hb
        obtain ⟨p, B1, rfl, hd1, g1, hn1⟩ := hb
        obtain ⟨E1, q1, n1⟩ := part_new (P := DiskA p (fresh room)) (L := []) trivial (stars_none w) g1 hd1 hn1
        have Q1 := Lib.hid q1
        have N1 := Lib.hid n1
        clear hd1 g1 hn1 q1 n1
        go_wp2_with fail
        refine (C2.out _).mono ?_; rintro e u2 ⟨rfl, hd2, g2⟩
        obtain ⟨E2, q2, n2⟩ := part_new (P := RDiskA u1.heap.size (fresh room)) (L := [DiskA p (fresh room)]) ⟨fr_disk _ _, trivial⟩ Q1.out g2 hd2 (fun b hb => by omega)
        have Q2 := Lib.hid q2
        have N2 := Lib.hid (N1.out.trans n2)
        clear hd2 g2 q2 n2
        go_wp2_with fail
        refine (C3.out _).mono ?_; rintro e u3 ⟨rfl, hd3, g3⟩
        obtain ⟨E3, q3, n3⟩ := part_new (P := BuA u2.heap.size ⟨m0, 0, 0⟩) (L := [RDiskA u1.heap.size (fresh room), DiskA p (fresh room)]) ⟨fr_rdisk _ _, fr_disk _ _, trivial⟩ Q2.out g3 hd3 (fun b hb => by omega)
        have Q3 := Lib.hid q3
        have N3 := Lib.hid (N2.out.trans n3)
        clear hd3 g3 q3 n3
        go_wp2_with fail
        have hbok : (Bu.mk m0 0 0).ok := ⟨Int.le_refl 0, Int.le_refl 0, hm', HBM.out.2⟩
        obtain ⟨E4, q4, n4⟩ := part_new (P := RBuA u3.heap.size ⟨m0, 0, 0⟩) (B' := fun b => b = u3.heap.size) (L := [BuA u2.heap.size ⟨m0, 0, 0⟩, RDiskA u1.heap.size (fresh room), DiskA p (fresh room)]) ⟨fr_bu _ _, fr_rdisk _ _, fr_disk _ _, trivial⟩ Q3.out ((Gr.refl u3).alloc (Nat.le_refl _) (.cells #[.int .i64 m0, .int .i64 0, .int .i64 0] 35)) ⟨hbok, heap_alloc_new u3 _, fun _ => Iff.rfl⟩ (fun b hb => by omega)
        have q5 : stars (s4 p u2.heap.size u1.heap.size u3.heap.size (fresh room) ⟨m0, 0, 0⟩) _ E4 := stars_perm (perm4 _ _ _ _) q4
        obtain ⟨D, hD⟩ : ∃ D, u1.heap.size = D := ⟨_, rfl⟩
        obtain ⟨pb, hpb⟩ : ∃ pb, u2.heap.size = pb := ⟨_, rfl⟩
        obtain ⟨P, hP⟩ : ∃ P, u3.heap.size = P := ⟨_, rfl⟩
        rw [hD, hpb, hP] at q5
        have CA := does_at (f := 10) (Q := DiskA p (armed (fresh room) fuse)) 0 rfl (frs_s4 _ _ _ _ _ _) q5 fun B2 h2 => d_arm p (fresh room) fuse HBF.out.1 HBF.out.2 _ B2 h2
        have CAH := Lib.hid CA
        have N4 := Lib.hid (N3.out.trans n4)
        have HBOK := Lib.hid hbok
        clear q4 q5 n4 CA hbok
        simp only [hD, hpb, hP]
        refine CAH.out.mono ?_; rintro e u4 hd
        obtain ⟨rfl, E5, q5, n5⟩ := hd
        have CB := does_at (f := 11) (Q := RDiskA D (armed (fresh room) fuse)) 2 rfl (L := [DiskA p (armed (fresh room) fuse), BuA pb ⟨m0, 0, 0⟩, RDiskA D (fresh room), RBuA P ⟨m0, 0, 0⟩]) ⟨fr_disk _ _, fr_bu _ _, fr_rdisk _ _, fr_rbu _ _, trivial⟩ q5 fun B2 h2 => rarm_c D (fresh room) fuse u4 h2 HBF.out
        have CBH := Lib.hid CB
        have N5 := Lib.hid (N4.out.trans n5)
        have HD := Lib.hid hD
        have HPB := Lib.hid hpb
        have HP := Lib.hid hP
        clear q5 n5 CB CAH hD hpb hP
        go_wp2_with fail
        refine CBH.out.mono ?_; rintro e u5 hd
        obtain ⟨rfl, E6, q6, n6⟩ := hd
        have Q6 := Lib.hid (show stars (s4 p pb D P (armed (fresh room) fuse) ⟨m0, 0, 0⟩) u5 E6 from q6)
        have N6 := Lib.hid (N5.out.trans n6)
        clear q6 n6 CBH
        obtain ⟨sA, hsA⟩ : ∃ sA, sA = armed (fresh room) fuse := ⟨_, rfl⟩
        obtain ⟨R, hR⟩ : ∃ R, R = createM sA ⟨m0, 0, 0⟩ nmA size := ⟨_, rfl⟩
        rw [← hsA] at Q6
        have HOKA := Lib.hid (show sA.ok by obtain ⟨_, hq, _⟩ := part_at 2 rfl Q6.out; exact hq.1)
        have hcs : sA.calls = 0 := by rw [hsA]; rfl
        obtain ⟨E7, q7, K7⟩   := pre_nx [DiskA p sA, BuA pb ⟨m0, 0, 0⟩] (M := [RDiskA D sA, RBuA P ⟨m0, 0, 0⟩]) ⟨fr_rdisk _ _, fr_rbu _ _, trivial⟩ Q6.out
        have CC := w_create p pb sA ⟨m0, 0, 0⟩ nmA size HK.out nmA_size nmA_right (by omega) u5 E7 q7
        rw [← hR] at CC
        have CCH := Lib.hid CC
        have HK7 := Lib.hid K7
        have HSA := Lib.hid hsA
        have HR := Lib.hid hR
        have HCS := Lib.hid hcs
        clear q7 K7 CC hsA hR hcs
        go_wp2_with fail
        by_cases hc0 : R.2.2 = 0
        · refine CCH.out.mono ?_; rintro e u6 hmade
          obtain ⟨hc1, x, rfl, E8, q8, n8⟩ | ⟨hc1, _⟩ := hmade
          rotate_left
          · exact absurd hc0 hc1
          obtain ⟨E9, q9, n9⟩ := HK7.out _ _ _ q8 n8
          have N9 := Lib.hid (N6.out.trans n9)
          obtain ⟨E10, q10, K10⟩ := suf_nx [WrA x p pb (newWs nmA size), DiskA p R.1, BuA pb R.2.1] (M := [RDiskA D sA, RBuA P ⟨m0, 0, 0⟩]) ⟨fr_wr _ _ _ _, fr_disk _ _, fr_bu _ _, trivial⟩ q9
          have CR := rw_create D P sA ⟨m0, 0, 0⟩ nmA size HK.out nmA_size nmA_right (by have := HCS.out; omega) u6 E10 q10
          rw [← HR.out] at CR
          have CRH := Lib.hid CR
          have HK10 := Lib.hid K10
          have HC0 := Lib.hid hc0
          clear hc1 q8 n8 q9 n9 q10 K10 CR CCH HK7 hc0
          go_wp2_with fail
          refine CRH.out.mono ?_; rintro e u7 hmade
          obtain ⟨hc1, xr, rfl, E11, q11, n11⟩ | ⟨hc1, _⟩ := hmade
          rotate_left
          · exact absurd HC0.out hc1
          obtain ⟨E12, q12, n12⟩ := HK10.out _ _ _ q11 n11
          have HB := Lib.hid (show Both w [] x p pb xr D P ⟨R.1, R.2.1, newWs nmA size⟩ u7 from ⟨E12, q12, N9.out.trans n12⟩)
          clear hc1 q11 n11 q12 n12 HK10 CRH
          have d1 : u7.cell? ⟨P, 1, none⟩ = some (.int .i64 R.2.1.now) := by rw [cells_at HB.out.rbu]; rfl
          have hPl := lt_of_block HB.out.rbu
          have CN0 : ∀ v, Gr u7 v → Calls Tryz.prog 14 #[.pointer (some ⟨pb, 0, none⟩)] v fun e w' => e = .returned (.int .i64 R.2.1.now) ∧ Gr u7 w' ∧ w'.cell? ⟨P, 1, none⟩ = some (.int .i64 R.2.1.now) := fun v g =>
            (bnow_c pb R.2.1 v (HB.out.bu.gr g)).mono fun e w' ⟨he, hw⟩ => ⟨he, by rw [← hw]; exact g, by rw [← hw, g.cell (p := ⟨P, 1, none⟩) hPl]; exact d1⟩
          have CN := Lib.hid CN0
          have gU := Gr.refl u7
          have gUd : Gr u7 u7.drew := Below.drew gU
          clear CN0
          go_wp2_with fail
          go_region_held3 (fun w' => w'.cell? ⟨P, 1, none⟩ = some (.int .i64 R.2.1.now)) (first | assumption | go_keep)
            ((go_at_call 14; (with_reducible refine (CN.out _ (by assumption)).mono ?_); rintro e u8 ⟨rfl, g8, hu8⟩))
          have HB8 := Lib.hid (HB.out.gr trivial g8)
          clear d1 hPl CN gU gUd g8 hu8 HB
          go_wp2_with fail
          obtain ⟨n, hn⟩ : ∃ n, l.length = n := ⟨_, rfl⟩
          have HN := Lib.hid hn
          rw [hn] at hlm hlc hl30
          have hst := play_start (n := n) HOKA.out HCS.out HBOK.out HR.out HC0.out HB8.out
          have HST := Lib.hid hst
          simp only [hn]
          clear hst hn HB8 HBOK HR HC0 HCS HSA
          go_loopw [22] (fun iv wr => PlayAt w x p pb xr D P n iv wr) (fun iv _ => n - (intOf iv).toNat)
          case atStart => exact HST.out
          case round =>
            obtain ⟨i, m, hi, rfl, hok, ha, hc, hnm, hh, hB⟩ := hrel
            have HOK := Lib.hid hok
            have HNM := Lib.hid hnm
            have HH := Lib.hid hh
            have HB := Lib.hid hB
            clear HST hok hnm hh hB
            by_cases hlt : i < n
            · obtain ⟨b, off, rfl, hr⟩ : ∃ b off, la = some ⟨b, off, none⟩ ∧ SRow w b off l := HROW.out.elim (fun h0 => by have := HN.out; rw [h0] at this; simp at this; omega) id
              obtain ⟨r, hr1, _, hr3⟩ := take_at (l := l) (j := i) (by rw [HN.out]; exact hlt)
              have hbl := hr.1
              have hold : w.cell? ⟨b, off + i, none⟩ = some (.string r) := hr.2 i r hr1
              have hcell : wr.cell? ⟨b, off + i, none⟩ = some (.string r) := by rw [HB.out.old.cell (p := ⟨b, off + i, none⟩) hbl]; exact hold
              have OLD := Lib.hid (fun v (g : Gr w v) => show v.cell? ⟨b, off + i, none⟩ = some (.string r) by rw [g.cell (p := ⟨b, off + i, none⟩) hbl]; exact hold)
              have hi0 : (0 : Int) ≤ (i : Int) := by omega
              have hi1 : (i : Int) < (n : Int) := by omega
              have CP := Lib.hid (fun v (g : Gr wr v) => (play_put (r := r) HOK.out (by omega) (by omega) (HB.out.gr trivial g)).mono fun e w' h => (⟨h.1, h.2, OLD.out _ h.2.old, by rw [cells_at h.2.rbu]; rfl⟩ : _ ∧ _ ∧ w'.cell? ⟨b, off + i, none⟩ = some (.string r) ∧ w'.cell? ⟨P, 1, none⟩ = some (.int .i64 m.b.now)))
              have CR := Lib.hid (fun v (h : Half w [] x p pb xr D P m (putM m r).1 v) => (play_rput HOK.out (by omega) (by omega) h).mono fun e w' h => (⟨h.1, h.2, OLD.out _ h.2.old, by rw [cells_at h.2.rbu]; rfl⟩ : _ ∧ _ ∧ w'.cell? ⟨b, off + i, none⟩ = some (.string r) ∧ w'.cell? ⟨P, 1, none⟩ = some (.int .i64 (putM m r).1.b.now)))
              have CC := Lib.hid (fun v (h : Both w [] x p pb xr D P (putM m r).1 v) => (play_count h).mono fun e w' h => (⟨h.1, h.2, OLD.out _ h.2.old, by rw [cells_at h.2.rbu]; rfl⟩ : _ ∧ _ ∧ w'.cell? ⟨b, off + i, none⟩ = some (.string r) ∧ w'.cell? ⟨P, 1, none⟩ = some (.int .i64 (putM m r).1.b.now)))
              have CD := Lib.hid (fun v (h : Both w [] x p pb xr D P (putM m r).1 v) => (play_rcount h).mono fun e w' h => (⟨h.1, h.2, OLD.out _ h.2.old, by rw [cells_at h.2.rbu]; rfl⟩ : _ ∧ _ ∧ w'.cell? ⟨b, off + i, none⟩ = some (.string r) ∧ w'.cell? ⟨P, 1, none⟩ = some (.int .i64 (putM m r).1.b.now)))
              have CN := Lib.hid (fun v (h : Both w [] x p pb xr D P (putM m r).1 v) => (play_now h).mono fun e w' h => (⟨h.1, h.2.1, OLD.out _ h.2.1.old, h.2.2⟩ : _ ∧ _ ∧ w'.cell? ⟨b, off + i, none⟩ = some (.string r) ∧ w'.cell? ⟨P, 1, none⟩ = some (.int .i64 (putM m r).1.b.now)))
              obtain ⟨kk, hkk⟩ : ∃ kk, (putM m r).1.x.all.length = kk := ⟨_, rfl⟩
              obtain ⟨nn, hnn⟩ : ∃ nn, (putM m r).1.b.now = nn := ⟨_, rfl⟩
              obtain ⟨ee, hee⟩ : ∃ ee, (putM m r).2 = ee := ⟨_, rfl⟩
              rw [hkk] at CC CD
              rw [hnn] at CN CR CC CD
              rw [hee] at CP CR
              have hcell1 : wr.drew.cell? ⟨b, off + i, none⟩ = some (.string r) := hcell
              have gU := Gr.refl wr
              have gUd : Gr wr wr.drew := Below.drew gU
              clear hr hr1 hr3 hold hkk hnn hee
              go_wp2_with fail
              refine wp_region_held_drew (S := fun w' => w'.cell? ⟨b, off + i, none⟩ = some (.string r)) (by kernel_rfl) hcell1 (fun hHeld => ?_)
              refine wpAnyH_take (i := 0) (oi := ?_) (v := ?_) ?_ (by kernel_rfl) (by kernel_rfl) (by kernel_rfl) ?_ (Or.inl ⟨?_, ?_⟩) (by assumption) ?_
              rotate_left 2
              · simp only [List.getElem?_toArray, List.getElem?_cons_succ, List.getElem?_cons_zero]; rfl
              · exact fun _ _ _ h => h
              · rfl
              · intro w hSw; (try dsimp only at hSw); go_simp <;> with_reducible rfl
              (try simp only [Act.put, List.setIfInBounds_toArray, List.set_cons_zero, List.set_cons_succ])
              refine wpAnyH_take (i := 1) (oi := ?_) (v := ?_) ?_ (by kernel_rfl) (by kernel_rfl) (by kernel_rfl) ?_ (Or.inl ⟨?_, ?_⟩) (by assumption) ?_
              rotate_left 2
              · simp only [List.getElem?_toArray, List.getElem?_cons_succ, List.getElem?_cons_zero]; rfl
              · exact fun _ _ _ h => h
              · rfl
              · intro w hSw; (try dsimp only at hSw); go_simp <;> with_reducible rfl
              (try simp only [Act.put, List.setIfInBounds_toArray, List.set_cons_zero, List.set_cons_succ])
              refine wpAnyH_take (i := 2) (oi := ?_) (v := ?_) ?_ (by kernel_rfl) (by kernel_rfl) (by kernel_rfl) ?_ (Or.inl ⟨?_, ?_⟩) (by assumption) ?_
              rotate_left 2
              · simp only [List.getElem?_toArray, List.getElem?_cons_succ, List.getElem?_cons_zero]; rfl
              · exact fun _ _ _ h => h
              · rfl
              · intro w hSw; (try dsimp only at hSw); go_simp <;> with_reducible rfl
              (try simp only [Act.put, List.setIfInBounds_toArray, List.set_cons_zero, List.set_cons_succ])
              refine wpAnyH_take (i := 3) (oi := ?_) (v := ?_) ?_ (by kernel_rfl) (by kernel_rfl) (by kernel_rfl) ?_ (Or.inl ⟨?_, ?_⟩) (by assumption) ?_
              rotate_left 2
              · simp only [List.getElem?_toArray, List.getElem?_cons_succ, List.getElem?_cons_zero]; rfl
              · exact fun _ _ _ h => h
              · rfl
              · intro w hSw; (try dsimp only at hSw); go_simp <;> with_reducible rfl
              (try simp only [Act.put, List.setIfInBounds_toArray, List.set_cons_zero, List.set_cons_succ])
              refine wpAnyH_take (i := 4) (oi := ?_) (v := ?_) ?_ (by kernel_rfl) (by kernel_rfl) (by kernel_rfl) ?_ (Or.inl ⟨?_, ?_⟩) (by assumption) ?_
              rotate_left 2
              · simp only [List.getElem?_toArray, List.getElem?_cons_succ, List.getElem?_cons_zero]; rfl
              · exact fun _ _ _ h => h
              · rfl
              · intro w hSw; (try dsimp only at hSw); go_simp <;> with_reducible rfl
              (try simp only [Act.put, List.setIfInBounds_toArray, List.set_cons_zero, List.set_cons_succ])
              refine wpAnyH_take (i := 6) (oi := ?_) (v := ?_) ?_ (by kernel_rfl) (by kernel_rfl) (by kernel_rfl) ?_ (Or.inl ⟨?_, ?_⟩) (by assumption) ?_
              rotate_left 2
              · simp only [List.getElem?_toArray, List.getElem?_cons_succ, List.getElem?_cons_zero]; rfl
              · exact fun _ _ _ h => h
              · rfl
              · intro w hSw; (try dsimp only at hSw); go_simp <;> with_reducible rfl
              (try simp only [Act.put, List.setIfInBounds_toArray, List.set_cons_zero, List.set_cons_succ])
              refine wpAnyH_take (i := 7) (oi := ?_) (v := ?_) ?_ (by kernel_rfl) (by kernel_rfl) (by kernel_rfl) ?_ (Or.inl ⟨?_, ?_⟩) (by assumption) ?_
              rotate_left 2
              · simp only [List.getElem?_toArray, List.getElem?_cons_succ, List.getElem?_cons_zero]; rfl
              · exact fun _ _ _ h => h
              · rfl
              · intro w hSw; (try dsimp only at hSw); go_simp <;> with_reducible rfl
              (try simp only [Act.put, List.setIfInBounds_toArray, List.set_cons_zero, List.set_cons_succ])
              refine wpAnyH_take (i := 8) (oi := ?_) (v := ?_) ?_ (by kernel_rfl) (by kernel_rfl) (by kernel_rfl) ?_ (Or.inl ⟨?_, ?_⟩) (by assumption) ?_
              rotate_left 2
              · simp only [List.getElem?_toArray, List.getElem?_cons_succ, List.getElem?_cons_zero]; rfl
              · exact fun _ _ _ h => h
              · rfl
              · intro w hSw; (try dsimp only at hSw); go_simp <;> with_reducible rfl
              (try simp only [Act.put, List.setIfInBounds_toArray, List.set_cons_zero, List.set_cons_succ])
              refine wpAnyH_take (i := 9) (oi := ?_) (v := ?_) ?_ (by kernel_rfl) (by kernel_rfl) (by kernel_rfl) ?_ (Or.inl ⟨?_, ?_⟩) (by assumption) ?_
              rotate_left 2
              · simp only [List.getElem?_toArray, List.getElem?_cons_succ, List.getElem?_cons_zero]; rfl
              · exact fun _ _ _ h => h
              · rfl
              · intro w hSw; (try dsimp only at hSw); go_simp <;> with_reducible rfl
              (try simp only [Act.put, List.setIfInBounds_toArray, List.set_cons_zero, List.set_cons_succ])
              refine wpAnyH_take (i := 10) (oi := ?_) (v := ?_) ?_ (by kernel_rfl) (by kernel_rfl) (by kernel_rfl) ?_ (Or.inl ⟨?_, ?_⟩) (by assumption) ?_
              rotate_left 2
              · simp only [List.getElem?_toArray, List.getElem?_cons_succ, List.getElem?_cons_zero]; rfl
              · exact fun _ _ _ h => h
              · rfl
              · intro w hSw; (try dsimp only at hSw); go_simp <;> with_reducible rfl
              (try simp only [Act.put, List.setIfInBounds_toArray, List.set_cons_zero, List.set_cons_succ])
              refine wpAnyH_ready (rs := [5]) (by kernel_rfl) (by simp) ?_
              refine AllReadyH.cons (o := ?_) ?_ (fun K hK => ?_) AllReadyH.nil
              rotate_left 1
              · simp only [List.getElem?_toArray, List.getElem?_cons_succ, List.getElem?_cons_zero]; rfl
              go_simp
              ((with_reducible refine (CP.out _ gUd).mono ?_)); rintro e y1 ⟨rfl, k1, z1, q1⟩
              go_wp2_with fail
              refine hK.out _ _ ?_ (fun hHeld => ?_)
              · exact z1
              clear hK K
              (try simp only [Act.put, List.setIfInBounds_toArray, List.set_cons_zero, List.set_cons_succ])
              refine wpAnyH_ready (rs := [11]) (by kernel_rfl) (by simp) ?_
              refine AllReadyH.cons (o := ?_) ?_ (fun K hK => ?_) AllReadyH.nil
              rotate_left 1
              · simp only [List.getElem?_toArray, List.getElem?_cons_succ, List.getElem?_cons_zero]; rfl
              go_simp
              ((with_reducible refine (CR.out _ k1).mono ?_)); rintro e y2 ⟨rfl, k2, z2, q2⟩
              go_wp2_with fail
              refine hK.out _ _ ?_ (fun hHeld => ?_)
              · exact z2
              clear hK K
              (try simp only [Act.put, List.setIfInBounds_toArray, List.set_cons_zero, List.set_cons_succ])
              refine wpAnyH_mono (S := fun w' => w'.cell? ⟨b, off + i, none⟩ = some (.string r) ∧ w'.cell? ⟨P, 1, none⟩ = some (.int .i64 nn)) (fun _ h => h.1) _ _ _ _ ?_
              have hHeld2 : (fun w' : World => w'.cell? ⟨b, off + i, none⟩ = some (.string r) ∧ w'.cell? ⟨P, 1, none⟩ = some (.int .i64 nn)) y2 := ⟨z2, q2⟩
              clear hHeld
              refine wpAnyH_take (i := 12) (oi := ?_) (v := ?_) ?_ (by kernel_rfl) (by kernel_rfl) (by kernel_rfl) ?_ (Or.inl ⟨?_, ?_⟩) (by assumption) ?_
              rotate_left 2
              · simp only [List.getElem?_toArray, List.getElem?_cons_succ, List.getElem?_cons_zero]; rfl
              · exact fun _ _ _ h => h
              · rfl
              · intro w hSw; (try dsimp only at hSw); go_simp <;> with_reducible rfl
              (try simp only [Act.put, List.setIfInBounds_toArray, List.set_cons_zero, List.set_cons_succ])
              refine wpAnyH_take (i := 13) (oi := ?_) (v := ?_) ?_ (by kernel_rfl) (by kernel_rfl) (by kernel_rfl) ?_ (Or.inl ⟨?_, ?_⟩) (by assumption) ?_
              rotate_left 2
              · simp only [List.getElem?_toArray, List.getElem?_cons_succ, List.getElem?_cons_zero]; rfl
              · exact fun _ _ _ h => h
              · rfl
              · intro w hSw; (try dsimp only at hSw); go_simp <;> with_reducible rfl
              (try simp only [Act.put, List.setIfInBounds_toArray, List.set_cons_zero, List.set_cons_succ])
              refine wpAnyH_take (i := 14) (oi := ?_) (v := ?_) ?_ (by kernel_rfl) (by kernel_rfl) (by kernel_rfl) ?_ (Or.inl ⟨?_, ?_⟩) (by assumption) ?_
              rotate_left 2
              · simp only [List.getElem?_toArray, List.getElem?_cons_succ, List.getElem?_cons_zero]; rfl
              · exact fun _ _ _ h => h
              · rfl
              · intro w hSw; (try dsimp only at hSw); go_simp <;> with_reducible rfl
              (try simp only [Act.put, List.setIfInBounds_toArray, List.set_cons_zero, List.set_cons_succ])
              refine wpAnyH_take (i := 16) (oi := ?_) (v := ?_) ?_ (by kernel_rfl) (by kernel_rfl) (by kernel_rfl) ?_ (Or.inl ⟨?_, ?_⟩) (by assumption) ?_
              rotate_left 2
              · simp only [List.getElem?_toArray, List.getElem?_cons_succ, List.getElem?_cons_zero]; rfl
              · exact fun _ _ _ h => h
              · rfl
              · intro w hSw; (try dsimp only at hSw); go_simp <;> with_reducible rfl
              (try simp only [Act.put, List.setIfInBounds_toArray, List.set_cons_zero, List.set_cons_succ])
              refine wpAnyH_ready (rs := [15]) (by kernel_rfl) (by simp) ?_
              refine AllReadyH.cons (o := ?_) ?_ (fun K hK => ?_) AllReadyH.nil
              rotate_left 1
              · simp only [List.getElem?_toArray, List.getElem?_cons_succ, List.getElem?_cons_zero]; rfl
              go_simp
              ((with_reducible refine (CC.out _ k2).mono ?_)); rintro e y3 ⟨rfl, k3, z3, q3⟩
              go_wp2_with fail
              refine hK.out _ _ ?_ (fun hHeld => ?_)
              · exact ⟨z3, q3⟩
              clear hK K
              (try simp only [Act.put, List.setIfInBounds_toArray, List.set_cons_zero, List.set_cons_succ])
              refine wpAnyH_ready (rs := [17]) (by kernel_rfl) (by simp) ?_
              refine AllReadyH.cons (o := ?_) ?_ (fun K hK => ?_) AllReadyH.nil
              rotate_left 1
              · simp only [List.getElem?_toArray, List.getElem?_cons_succ, List.getElem?_cons_zero]; rfl
              go_simp
              ((with_reducible refine (CD.out _ k3).mono ?_)); rintro e y4 ⟨rfl, k4, z4, q4⟩
              go_wp2_with fail
              refine hK.out _ _ ?_ (fun hHeld => ?_)
              · exact ⟨z4, q4⟩
              clear hK K
              (try simp only [Act.put, List.setIfInBounds_toArray, List.set_cons_zero, List.set_cons_succ])
              refine wpAnyH_take (i := 18) (oi := ?_) (v := ?_) ?_ (by kernel_rfl) (by kernel_rfl) (by kernel_rfl) ?_ (Or.inl ⟨?_, ?_⟩) (by assumption) ?_
              rotate_left 2
              · simp only [List.getElem?_toArray, List.getElem?_cons_succ, List.getElem?_cons_zero]; rfl
              · exact fun _ _ _ h => h
              · rfl
              · intro w hSw; (try dsimp only at hSw); go_simp <;> with_reducible rfl
              (try simp only [Act.put, List.setIfInBounds_toArray, List.set_cons_zero, List.set_cons_succ])
              refine wpAnyH_take (i := 19) (oi := ?_) (v := ?_) ?_ (by kernel_rfl) (by kernel_rfl) (by kernel_rfl) ?_ (Or.inl ⟨?_, ?_⟩) (by assumption) ?_
              rotate_left 2
              · simp only [List.getElem?_toArray, List.getElem?_cons_succ, List.getElem?_cons_zero]; rfl
              · exact fun _ _ _ h => h
              · rfl
              · intro w hSw; (try dsimp only at hSw); go_simp <;> with_reducible rfl
              (try simp only [Act.put, List.setIfInBounds_toArray, List.set_cons_zero, List.set_cons_succ])
              refine wpAnyH_take (i := 20) (oi := ?_) (v := ?_) ?_ (by kernel_rfl) (by kernel_rfl) (by kernel_rfl) ?_ (Or.inl ⟨?_, ?_⟩) (by assumption) ?_
              rotate_left 2
              · simp only [List.getElem?_toArray, List.getElem?_cons_succ, List.getElem?_cons_zero]; rfl
              · exact fun _ _ _ h => h
              · rfl
              · intro w hSw; (try dsimp only at hSw); go_simp <;> with_reducible rfl
              (try simp only [Act.put, List.setIfInBounds_toArray, List.set_cons_zero, List.set_cons_succ])
              refine wpAnyH_take (i := 21) (oi := ?_) (v := ?_) ?_ (by kernel_rfl) (by kernel_rfl) (by kernel_rfl) ?_ (Or.inl ⟨?_, ?_⟩) (by assumption) ?_
              rotate_left 2
              · simp only [List.getElem?_toArray, List.getElem?_cons_succ, List.getElem?_cons_zero]; rfl
              · exact fun _ _ _ h => h
              · rfl
              · intro w hSw; (try dsimp only at hSw); go_simp <;> with_reducible rfl
              (try simp only [Act.put, List.setIfInBounds_toArray, List.set_cons_zero, List.set_cons_succ])
              refine wpAnyH_take (i := 23) (oi := ?_) (v := ?_) ?_ (by kernel_rfl) (by kernel_rfl) (by kernel_rfl) ?_ (Or.inl ⟨?_, ?_⟩) (by assumption) ?_
              rotate_left 2
              · simp only [List.getElem?_toArray, List.getElem?_cons_succ, List.getElem?_cons_zero]; rfl
              · exact fun _ _ _ h => h
              · rfl
              · intro w hSw; (try dsimp only at hSw); go_simp <;> with_reducible rfl
              (try simp only [Act.put, List.setIfInBounds_toArray, List.set_cons_zero, List.set_cons_succ])
              refine wpAnyH_take (i := 24) (oi := ?_) (v := ?_) ?_ (by kernel_rfl) (by kernel_rfl) (by kernel_rfl) ?_ (Or.inl ⟨?_, ?_⟩) (by assumption) ?_
              rotate_left 2
              · simp only [List.getElem?_toArray, List.getElem?_cons_succ, List.getElem?_cons_zero]; rfl
              · exact fun _ _ _ h => h
              · rfl
              · intro w hSw; (try dsimp only at hSw); go_simp <;> with_reducible rfl
              (try simp only [Act.put, List.setIfInBounds_toArray, List.set_cons_zero, List.set_cons_succ])
              refine wpAnyH_take (i := 25) (oi := ?_) (v := ?_) ?_ (by kernel_rfl) (by kernel_rfl) (by kernel_rfl) ?_ (Or.inl ⟨?_, ?_⟩) (by assumption) ?_
              rotate_left 2
              · simp only [List.getElem?_toArray, List.getElem?_cons_succ, List.getElem?_cons_zero]; rfl
              · exact fun _ _ _ h => h
              · rfl
              · intro w hSw; (try dsimp only at hSw); go_simp <;> with_reducible rfl
              (try simp only [Act.put, List.setIfInBounds_toArray, List.set_cons_zero, List.set_cons_succ])
              refine wpAnyH_take (i := 26) (oi := ?_) (v := ?_) ?_ (by kernel_rfl) (by kernel_rfl) (by kernel_rfl) ?_ (Or.inl ⟨?_, ?_⟩) (by assumption) ?_
              rotate_left 2
              · simp only [List.getElem?_toArray, List.getElem?_cons_succ, List.getElem?_cons_zero]; rfl
              · exact fun _ _ _ h => h
              · rfl
              · intro w hSw; (try dsimp only at hSw); go_simp <;> with_reducible rfl
              (try simp only [Act.put, List.setIfInBounds_toArray, List.set_cons_zero, List.set_cons_succ])
              refine wpAnyH_ready (rs := [22]) (by kernel_rfl) (by simp) ?_
              refine AllReadyH.cons (o := ?_) ?_ (fun K hK => ?_) AllReadyH.nil
              rotate_left 1
              · simp only [List.getElem?_toArray, List.getElem?_cons_succ, List.getElem?_cons_zero]; rfl
              go_simp
              ((with_reducible refine (CN.out _ k4).mono ?_)); rintro e y5 ⟨rfl, k5, z5, q5⟩
              go_wp2_with fail
              refine hK.out _ _ ?_ (fun hHeld => ?_)
              · exact ⟨z5, q5⟩
              clear hK K
              (try simp only [Act.put, List.setIfInBounds_toArray, List.set_cons_zero, List.set_cons_succ])
              refine wpAnyH_take (i := 27) (oi := ?_) (v := ?_) ?_ (by kernel_rfl) (by kernel_rfl) (by kernel_rfl) ?_ (Or.inl ⟨?_, ?_⟩) (by assumption) ?_
              rotate_left 2
              · simp only [List.getElem?_toArray, List.getElem?_cons_succ, List.getElem?_cons_zero]; rfl
              · exact fun _ _ _ h => h
              · rfl
              · intro w hSw; (try dsimp only at hSw); go_simp <;> with_reducible rfl
              (try simp only [Act.put, List.setIfInBounds_toArray, List.set_cons_zero, List.set_cons_succ])
              refine wpAnyH_take (i := 28) (oi := ?_) (v := ?_) ?_ (by kernel_rfl) (by kernel_rfl) (by kernel_rfl) ?_ (Or.inl ⟨?_, ?_⟩) (by assumption) ?_
              rotate_left 2
              · simp only [List.getElem?_toArray, List.getElem?_cons_succ, List.getElem?_cons_zero]; rfl
              · exact fun _ _ _ h => h
              · rfl
              · intro w hSw; (try dsimp only at hSw); go_simp <;> with_reducible rfl
              (try simp only [Act.put, List.setIfInBounds_toArray, List.set_cons_zero, List.set_cons_succ])
              refine wpAnyH_done (by kernel_rfl) ?_ _
              -- END18
              go_wp2_with fail
              exact ⟨play_next hlt HOK.out ha hc HNM.out HH.out k5, by simp [intOf]; omega⟩
            · obtain rfl : i = n := by omega
              cases drop
              · obtain ⟨M2, hM2⟩ : ∃ M2, M2 = m := ⟨_, rfl⟩
                have HB2 := Lib.hid (show Both w [] x p pb xr D P M2 wr by rw [hM2]; exact HB.out)
                have OK2 := Lib.hid (show M2.ok by rw [hM2]; exact HOK.out)
                have HN2 := Lib.hid (show M2.x.nm = nmA by rw [hM2]; exact HNM.out)
                have HH2 := Lib.hid (show WrPlain.Has M2.s nmA.data.toList by rw [hM2]; exact HH.out)
                have HA2 := Lib.hid (show M2.x.all.length ≤ 100 by rw [hM2]; omega)
                have HC2 := Lib.hid (show M2.s.calls ≤ 100 by rw [hM2]; omega)
                clear hM2 HB HOK HNM HH ha hc
                have hm3 := closeM_has (m := M2) (n := nmA.data.toList) (by rw [HN2.out]) HH2.out
                have hc3 := closeM_calls M2
                have hal2 := HA2.out
                have hc2 := HC2.out
                obtain ⟨vn, hvn⟩ : ∃ vn : Int, vn = if (closeM M2).2 = 0 then (M2.x.all.length : Int) else 0 := ⟨_, rfl⟩
                obtain ⟨vs, hvs⟩ : ∃ vs : Int, vs = if (closeM M2).2 = 0 then (sumN M2.x.all : Int) else 0 := ⟨_, rfl⟩
                obtain ⟨ec, hec⟩ : ∃ ec : Int, ec = (closeM M2).2 := ⟨_, rfl⟩
                have CV : closeV M2 (closeM M2).2 = .tuple #[.agg #[.int .i64 vn, .int .u32 vs], .int .i64 ec] := by rw [hvn, hvs, hec]; rfl
                have K1 : ∀ v B, W3 x p pb M2 v B → Calls Tryz.prog 22 #[.pointer (some ⟨x, 0, none⟩)] v (Does v B (W3 x p pb (closeM M2).1) (.tuple #[.agg #[.int .i64 vn, .int .u32 vs], .int .i64 ec])) := fun v B h => by rw [← CV]; exact w_close x p pb M2 OK2.out (by omega) (by omega) v B h
                have K2 : ∀ v B, R3 xr D P M2 v B → Calls Tryz.prog 23 #[.pointer (some ⟨xr, 0, none⟩)] v (Does v B (R3 xr D P (closeM M2).1) (.tuple #[.agg #[.int .i64 vn, .int .u32 vs], .int .i64 ec])) := fun v B h => by rw [← CV]; exact rw_close xr D P M2 OK2.out (by omega) (by omega) v B h
                have C1 := both_one (X := []) (m' := (closeM M2).1) trivial HB2.out (K1 _)
                have C1H := Lib.hid C1
                have K2H := Lib.hid K2
                obtain ⟨m3, hm3e⟩ : ∃ m3, m3 = (closeM M2).1 := ⟨_, rfl⟩
                rw [← hm3e] at hm3 hc3
                have HM3 := Lib.hid hm3e
                have HHA := Lib.hid hm3
                have HCV := Lib.hid CV
                clear hvn hvs hec CV K1 K2 C1 hm3e hm3
                go_wp2_with fail
                refine C1H.out.mono ?_; rintro e z1 ⟨rfl, h1⟩
                have h1b := h1.blk trivial (infoC vn vs) 50
                have C2 := both_two (X := [Blk z1.heap.size (infoC vn vs) 50]) (m' := (closeM M2).1) ⟨fr_blk _ _ _, trivial⟩ h1b (K2H.out _)
                have C2H := Lib.hid C2
                obtain ⟨q1, hq1⟩ : ∃ q1, q1 = z1.heap.size := ⟨_, rfl⟩
                have HQ1 := Lib.hid hq1
                clear h1 h1b C2 C1H hq1
                go_wp2_with fail
                refine C2H.out.mono ?_; rintro e z2 ⟨rfl, h2⟩
                have h2b := h2.blk ⟨fr_blk _ _ _, trivial⟩ (infoC vn vs) 50
                obtain ⟨q2, hq2⟩ : ∃ q2, q2 = z2.heap.size := ⟨_, rfl⟩
                rw [← HM3.out, ← HQ1.out, ← hq2] at h2b
                have h3 : Fin7 w [Blk q2 (infoC vn vs) 50, Blk q1 (infoC vn vs) 50] x p pb xr D P m3.x m3.b m3.s m3.s _ := h2b
                have hX : Frs [Blk q2 (infoC vn vs) 50, Blk q1 (infoC vn vs) 50] := ⟨fr_blk _ _ _, fr_blk _ _ _, trivial⟩
                have HX := Lib.hid hX
                have hok3 : m3.s.ok := by obtain ⟨_, _, ⟨_, hk, _⟩, _⟩ := h3.parts; exact hk
                obtain ⟨f, f1, f2, f3⟩ := rise_told hok3 HHA.out
                have hokr := rise_ok [] hok3
                obtain ⟨fl, hfl⟩ : ∃ fl, f.data.length = fl := ⟨_, rfl⟩
                have hfle : fl ≤ 16777216 := by have h4 := used_le (get_mem f1); have h5 := hokr.u; have h6 := hokr.r1; omega
                have hcr : (riseR m3.s []).calls = m3.s.calls := rise_calls _ _
                obtain ⟨sr, hsr⟩ : ∃ sr, sr = riseR m3.s [] := ⟨_, rfl⟩
                have C3 := fin_one (s' := sr) hX h3 (fun B h => by rw [hsr]; exact d_rise p m3.s _ B h)
                have C3H := Lib.hid C3
                rw [← hsr] at f1 f2 f3 hcr
                rw [hfl] at f2 f3
                have K4 : ∀ v B, DiskA p sr v B → Calls Tryz.prog 25 #[.pointer (some ⟨p, 0, none⟩), .string ⟨#[97]⟩] v (Does v B (DiskA p sr.call) (.tuple #[.int .i64 (fl : Int), .int .i64 0])) := fun v B h => by
                  have := d_size p sr nmA (by decide) nmA_right (by omega) v B h
                  rw [f2] at this
                  exact this
                have K5 : ∀ v B, DiskA p sr.call v B → Calls Tryz.prog 26 #[.pointer (some ⟨p, 0, none⟩), .string ⟨#[97]⟩, .int .i64 0, .int .i64 (fl : Int)] v (Does v B (DiskA p sr.call.call) (.tuple #[.string (bs f.data), .int .i64 0])) := fun v B h => by
                  have := d_read p sr.call nmA 0 fl (by decide) nmA_right (by show sr.calls + 1 ≤ _; omega) (by omega) (by omega) v B h
                  rw [f3] at this
                  exact this
                have K6 : ∀ v B, RDiskA D m3.s v B → Calls Tryz.prog 27 #[.pointer (some ⟨D, 0, none⟩), .slice none 0 0] v (Does v B (RDiskA D sr) (.tuple #[])) := fun v B h => by rw [hsr]; exact rrise_c D m3.s v h
                have K4H := Lib.hid K4
                have K5H := Lib.hid K5
                have K6H := Lib.hid K6
                have F1 := Lib.hid f1
                have HSR := Lib.hid hsr
                have HCR := Lib.hid hcr
                have HQ2 := Lib.hid hq2
                clear h2 h2b h3 hX hok3 f1 f2 f3 hokr hfl hcr hsr C3 K4 K5 K6 C2H hq2 K2H
                go_wp2_with fail
                refine C3H.out.mono ?_; rintro e z3 ⟨rfl, h4⟩
                have C4H := Lib.hid (fin_one HX.out h4 (K4H.out _))
                clear h4 C3H K4H
                go_wp2_with fail
                refine C4H.out.mono ?_; rintro e z4 ⟨rfl, h5⟩
                have C5H := Lib.hid (fin_one HX.out h5 (K5H.out _))
                clear h5 C4H K5H
                go_wp2_with fail
                refine C5H.out.mono ?_; rintro e z5 ⟨rfl, h6⟩
                have C6H := Lib.hid (fin_two HX.out h6 (K6H.out _))
                clear h6 C5H K6H
                go_wp2_with fail
                refine C6H.out.mono ?_; rintro e z6 ⟨rfl, h7⟩
                obtain ⟨nn, hnn⟩ : ∃ nn, m3.b.now = nn := ⟨_, rfl⟩
                obtain ⟨hh7, hhh⟩ : ∃ hh, m3.b.high = hh := ⟨_, rfl⟩
                obtain ⟨yc, hyc⟩ : ∃ yc, sr.calls = yc := ⟨_, rfl⟩
                have hyc0 : 0 ≤ yc := by obtain ⟨_, _, ⟨_, hk, _⟩, _⟩ := h7.parts; rw [← hyc]; exact hk.c0
                have hyc1 : yc ≤ 1000000000000 := by have := HCR.out; omega
                have KS0 : ∀ u, Gr z6 u → u.cell? ⟨q1, 0, none⟩ = some (.int .i64 vn) ∧ u.cell? ⟨q1, 1, none⟩ = some (.int .u32 vs) ∧ u.cell? ⟨q2, 0, none⟩ = some (.int .i64 vn) ∧ u.cell? ⟨q2, 1, none⟩ = some (.int .u32 vs) ∧ u.cell? ⟨P, 1, none⟩ = some (.int .i64 nn) ∧ u.cell? ⟨P, 2, none⟩ = some (.int .i64 hh7) ∧ u.cell? ⟨D, 4, none⟩ = some (.int .i64 yc) := fun u g => by
                  have h := end_s h7 g
                  rw [hnn, hhh, hyc] at h
                  exact ⟨h.a0, h.a1, h.b0, h.b1, h.p1, h.p2, h.d4⟩
                have CNOW := Lib.hid (fun v (g : Gr z6 v) => fin_now h7 g)
                have CHIGH := Lib.hid (fun v (g : Gr z6 v) => fin_high h7 g)
                have CWH0 : ∀ v, Gr z6 v → Calls Tryz.prog 29 #[.pointer (some ⟨D, 0, none⟩), .string ⟨#[97]⟩] v fun e w' => e = .returned (.string (bs f.data)) ∧ Gr z6 w' := fun v g => fin_whole h7 g (n := nmA) F1.out
                have CWH := Lib.hid CWH0
                have CCA := Lib.hid (fun v (g : Gr z6 v) => fin_calls h7 g)
                have CAW := Lib.hid (fun v (g : Gr z6 v) => (awake8_c v).mono fun e w' h => (⟨h.1, g.trans h.2⟩ : _ ∧ Gr z6 w'))
                rw [show sr.call.call.calls = yc + 2 by show sr.calls + 1 + 1 = _; omega] at CCA
                rw [hnn] at CNOW
                rw [hhh] at CHIGH
                have KS := Lib.hid KS0
                have H7 := Lib.hid h7
                have IS := info_same vn vs
                have gZ := Gr.refl z6
                have gZd : Gr z6 z6.drew := Below.drew gZ
                have s0 := KS0 _ gZ
                obtain ⟨x1, x2, x3, x4, x5, x6, x7⟩ := s0
                clear h7 KS0 CWH0 C6H hnn hhh hyc hc2 hal2 hc3
                go_wp2_with fail
                simp only [← HQ1.out, ← HQ2.out]
                have hw1 : IntKind.i64.wrap (yc + 2) = yc + 2 := IntWalk.i64_in _ (by omega)
                have hw2 : wrap64 (yc + 2) = yc + 2 := IntWalk.wrap64_in _ (by omega)
                go_region_held3 (fun w' => w'.cell? ⟨q1, 0, none⟩ = some (.int .i64 vn) ∧ w'.cell? ⟨q1, 1, none⟩ = some (.int .u32 vs) ∧ w'.cell? ⟨q2, 0, none⟩ = some (.int .i64 vn) ∧ w'.cell? ⟨q2, 1, none⟩ = some (.int .u32 vs) ∧ w'.cell? ⟨P, 1, none⟩ = some (.int .i64 nn) ∧ w'.cell? ⟨P, 2, none⟩ = some (.int .i64 hh7) ∧ w'.cell? ⟨D, 4, none⟩ = some (.int .i64 yc)) (first | exact KS.out _ gZd | exact KS.out _ (by assumption) | go_keep)
                  ((first
                    | (go_at_call 14; (with_reducible refine (CNOW.out _ (by assumption)).mono ?_); rintro e t1 ⟨rfl, g1⟩)
                    | (go_at_call 28; (with_reducible refine (CHIGH.out _ (by assumption)).mono ?_); rintro e t2 ⟨rfl, g2⟩)
                    | (go_at_call 29; (with_reducible refine (CWH.out _ (by assumption)).mono ?_); rintro e t3 ⟨rfl, g3⟩)
                    | (go_at_call 19; (with_reducible refine (CCA.out _ (by assumption)).mono ?_); rintro e t4 ⟨rfl, g4⟩)
                    | (go_at_call 6; (with_reducible refine (CAW.out _ (by assumption)).mono ?_); rintro e t5 ⟨rfl, g5⟩)))
                go_wp2_with fail
                go_ret
                exact ⟨rfl, H7.out.old.trans g5⟩
              · have C1 := Lib.hid (both_one (X := []) trivial HB.out (fun B h => w_drop x p pb m wr B h))
                go_wp2_with fail
                refine C1.out.mono ?_; rintro e y1 ⟨rfl, h1⟩
                have C2 := Lib.hid (both_two (X := []) trivial h1 (fun B h => rw_drop xr D P m y1 B h))
                clear h1 C1
                go_wp2_with fail
                refine C2.out.mono ?_; rintro e y2 ⟨rfl, h2⟩
                obtain ⟨M2, hM2⟩ : ∃ M2, M2 = dropM m := ⟨_, rfl⟩
                have hx : (dropM m).x.nm = m.x.nm ∧ (dropM m).x.all = m.x.all := by unfold dropM; split <;> exact ⟨rfl, rfl⟩
                have HB2 := Lib.hid (show Both w [] x p pb xr D P M2 y2 by rw [hM2]; exact h2)
                have OK2 := Lib.hid (show M2.ok by rw [hM2]; exact ok_dropM HOK.out)
                have HN2 := Lib.hid (show M2.x.nm = nmA by rw [hM2, hx.1]; exact HNM.out)
                have HH2 := Lib.hid (show WrPlain.Has M2.s nmA.data.toList by rw [hM2]; exact dropM_has HH.out)
                have HA2 := Lib.hid (show M2.x.all.length ≤ 100 by rw [hM2, hx.2]; omega)
                have HC2 := Lib.hid (show M2.s.calls ≤ 100 by rw [hM2, dropM_calls]; omega)
                clear hM2 HB HOK HNM HH ha hc h2 C2 hx
                have hm3 := closeM_has (m := M2) (n := nmA.data.toList) (by rw [HN2.out]) HH2.out
                have hc3 := closeM_calls M2
                have hal2 := HA2.out
                have hc2 := HC2.out
                obtain ⟨vn, hvn⟩ : ∃ vn : Int, vn = if (closeM M2).2 = 0 then (M2.x.all.length : Int) else 0 := ⟨_, rfl⟩
                obtain ⟨vs, hvs⟩ : ∃ vs : Int, vs = if (closeM M2).2 = 0 then (sumN M2.x.all : Int) else 0 := ⟨_, rfl⟩
                obtain ⟨ec, hec⟩ : ∃ ec : Int, ec = (closeM M2).2 := ⟨_, rfl⟩
                have CV : closeV M2 (closeM M2).2 = .tuple #[.agg #[.int .i64 vn, .int .u32 vs], .int .i64 ec] := by rw [hvn, hvs, hec]; rfl
                have K1 : ∀ v B, W3 x p pb M2 v B → Calls Tryz.prog 22 #[.pointer (some ⟨x, 0, none⟩)] v (Does v B (W3 x p pb (closeM M2).1) (.tuple #[.agg #[.int .i64 vn, .int .u32 vs], .int .i64 ec])) := fun v B h => by rw [← CV]; exact w_close x p pb M2 OK2.out (by omega) (by omega) v B h
                have K2 : ∀ v B, R3 xr D P M2 v B → Calls Tryz.prog 23 #[.pointer (some ⟨xr, 0, none⟩)] v (Does v B (R3 xr D P (closeM M2).1) (.tuple #[.agg #[.int .i64 vn, .int .u32 vs], .int .i64 ec])) := fun v B h => by rw [← CV]; exact rw_close xr D P M2 OK2.out (by omega) (by omega) v B h
                have C1 := both_one (X := []) (m' := (closeM M2).1) trivial HB2.out (K1 _)
                have C1H := Lib.hid C1
                have K2H := Lib.hid K2
                obtain ⟨m3, hm3e⟩ : ∃ m3, m3 = (closeM M2).1 := ⟨_, rfl⟩
                rw [← hm3e] at hm3 hc3
                have HM3 := Lib.hid hm3e
                have HHA := Lib.hid hm3
                have HCV := Lib.hid CV
                clear hvn hvs hec CV K1 K2 C1 hm3e hm3
                go_wp2_with fail
                refine C1H.out.mono ?_; rintro e z1 ⟨rfl, h1⟩
                have h1b := h1.blk trivial (infoC vn vs) 50
                have C2 := both_two (X := [Blk z1.heap.size (infoC vn vs) 50]) (m' := (closeM M2).1) ⟨fr_blk _ _ _, trivial⟩ h1b (K2H.out _)
                have C2H := Lib.hid C2
                obtain ⟨q1, hq1⟩ : ∃ q1, q1 = z1.heap.size := ⟨_, rfl⟩
                have HQ1 := Lib.hid hq1
                clear h1 h1b C2 C1H hq1
                go_wp2_with fail
                refine C2H.out.mono ?_; rintro e z2 ⟨rfl, h2⟩
                have h2b := h2.blk ⟨fr_blk _ _ _, trivial⟩ (infoC vn vs) 50
                obtain ⟨q2, hq2⟩ : ∃ q2, q2 = z2.heap.size := ⟨_, rfl⟩
                rw [← HM3.out, ← HQ1.out, ← hq2] at h2b
                have h3 : Fin7 w [Blk q2 (infoC vn vs) 50, Blk q1 (infoC vn vs) 50] x p pb xr D P m3.x m3.b m3.s m3.s _ := h2b
                have hX : Frs [Blk q2 (infoC vn vs) 50, Blk q1 (infoC vn vs) 50] := ⟨fr_blk _ _ _, fr_blk _ _ _, trivial⟩
                have HX := Lib.hid hX
                have hok3 : m3.s.ok := by obtain ⟨_, _, ⟨_, hk, _⟩, _⟩ := h3.parts; exact hk
                obtain ⟨f, f1, f2, f3⟩ := rise_told hok3 HHA.out
                have hokr := rise_ok [] hok3
                obtain ⟨fl, hfl⟩ : ∃ fl, f.data.length = fl := ⟨_, rfl⟩
                have hfle : fl ≤ 16777216 := by have h4 := used_le (get_mem f1); have h5 := hokr.u; have h6 := hokr.r1; omega
                have hcr : (riseR m3.s []).calls = m3.s.calls := rise_calls _ _
                obtain ⟨sr, hsr⟩ : ∃ sr, sr = riseR m3.s [] := ⟨_, rfl⟩
                have C3 := fin_one (s' := sr) hX h3 (fun B h => by rw [hsr]; exact d_rise p m3.s _ B h)
                have C3H := Lib.hid C3
                rw [← hsr] at f1 f2 f3 hcr
                rw [hfl] at f2 f3
                have K4 : ∀ v B, DiskA p sr v B → Calls Tryz.prog 25 #[.pointer (some ⟨p, 0, none⟩), .string ⟨#[97]⟩] v (Does v B (DiskA p sr.call) (.tuple #[.int .i64 (fl : Int), .int .i64 0])) := fun v B h => by
                  have := d_size p sr nmA (by decide) nmA_right (by omega) v B h
                  rw [f2] at this
                  exact this
                have K5 : ∀ v B, DiskA p sr.call v B → Calls Tryz.prog 26 #[.pointer (some ⟨p, 0, none⟩), .string ⟨#[97]⟩, .int .i64 0, .int .i64 (fl : Int)] v (Does v B (DiskA p sr.call.call) (.tuple #[.string (bs f.data), .int .i64 0])) := fun v B h => by
                  have := d_read p sr.call nmA 0 fl (by decide) nmA_right (by show sr.calls + 1 ≤ _; omega) (by omega) (by omega) v B h
                  rw [f3] at this
                  exact this
                have K6 : ∀ v B, RDiskA D m3.s v B → Calls Tryz.prog 27 #[.pointer (some ⟨D, 0, none⟩), .slice none 0 0] v (Does v B (RDiskA D sr) (.tuple #[])) := fun v B h => by rw [hsr]; exact rrise_c D m3.s v h
                have K4H := Lib.hid K4
                have K5H := Lib.hid K5
                have K6H := Lib.hid K6
                have F1 := Lib.hid f1
                have HSR := Lib.hid hsr
                have HCR := Lib.hid hcr
                have HQ2 := Lib.hid hq2
                clear h2 h2b h3 hX hok3 f1 f2 f3 hokr hfl hcr hsr C3 K4 K5 K6 C2H hq2 K2H
                go_wp2_with fail
                refine C3H.out.mono ?_; rintro e z3 ⟨rfl, h4⟩
                have C4H := Lib.hid (fin_one HX.out h4 (K4H.out _))
                clear h4 C3H K4H
                go_wp2_with fail
                refine C4H.out.mono ?_; rintro e z4 ⟨rfl, h5⟩
                have C5H := Lib.hid (fin_one HX.out h5 (K5H.out _))
                clear h5 C4H K5H
                go_wp2_with fail
                refine C5H.out.mono ?_; rintro e z5 ⟨rfl, h6⟩
                have C6H := Lib.hid (fin_two HX.out h6 (K6H.out _))
                clear h6 C5H K6H
                go_wp2_with fail
                refine C6H.out.mono ?_; rintro e z6 ⟨rfl, h7⟩
                obtain ⟨nn, hnn⟩ : ∃ nn, m3.b.now = nn := ⟨_, rfl⟩
                obtain ⟨hh7, hhh⟩ : ∃ hh, m3.b.high = hh := ⟨_, rfl⟩
                obtain ⟨yc, hyc⟩ : ∃ yc, sr.calls = yc := ⟨_, rfl⟩
                have hyc0 : 0 ≤ yc := by obtain ⟨_, _, ⟨_, hk, _⟩, _⟩ := h7.parts; rw [← hyc]; exact hk.c0
                have hyc1 : yc ≤ 1000000000000 := by have := HCR.out; omega
                have KS0 : ∀ u, Gr z6 u → u.cell? ⟨q1, 0, none⟩ = some (.int .i64 vn) ∧ u.cell? ⟨q1, 1, none⟩ = some (.int .u32 vs) ∧ u.cell? ⟨q2, 0, none⟩ = some (.int .i64 vn) ∧ u.cell? ⟨q2, 1, none⟩ = some (.int .u32 vs) ∧ u.cell? ⟨P, 1, none⟩ = some (.int .i64 nn) ∧ u.cell? ⟨P, 2, none⟩ = some (.int .i64 hh7) ∧ u.cell? ⟨D, 4, none⟩ = some (.int .i64 yc) := fun u g => by
                  have h := end_s h7 g
                  rw [hnn, hhh, hyc] at h
                  exact ⟨h.a0, h.a1, h.b0, h.b1, h.p1, h.p2, h.d4⟩
                have CNOW := Lib.hid (fun v (g : Gr z6 v) => fin_now h7 g)
                have CHIGH := Lib.hid (fun v (g : Gr z6 v) => fin_high h7 g)
                have CWH0 : ∀ v, Gr z6 v → Calls Tryz.prog 29 #[.pointer (some ⟨D, 0, none⟩), .string ⟨#[97]⟩] v fun e w' => e = .returned (.string (bs f.data)) ∧ Gr z6 w' := fun v g => fin_whole h7 g (n := nmA) F1.out
                have CWH := Lib.hid CWH0
                have CCA := Lib.hid (fun v (g : Gr z6 v) => fin_calls h7 g)
                have CAW := Lib.hid (fun v (g : Gr z6 v) => (awake8_c v).mono fun e w' h => (⟨h.1, g.trans h.2⟩ : _ ∧ Gr z6 w'))
                rw [show sr.call.call.calls = yc + 2 by show sr.calls + 1 + 1 = _; omega] at CCA
                rw [hnn] at CNOW
                rw [hhh] at CHIGH
                have KS := Lib.hid KS0
                have H7 := Lib.hid h7
                have IS := info_same vn vs
                have gZ := Gr.refl z6
                have gZd : Gr z6 z6.drew := Below.drew gZ
                have s0 := KS0 _ gZ
                obtain ⟨x1, x2, x3, x4, x5, x6, x7⟩ := s0
                clear h7 KS0 CWH0 C6H hnn hhh hyc hc2 hal2 hc3
                go_wp2_with fail
                simp only [← HQ1.out, ← HQ2.out]
                have hw1 : IntKind.i64.wrap (yc + 2) = yc + 2 := IntWalk.i64_in _ (by omega)
                have hw2 : wrap64 (yc + 2) = yc + 2 := IntWalk.wrap64_in _ (by omega)
                go_region_held3 (fun w' => w'.cell? ⟨q1, 0, none⟩ = some (.int .i64 vn) ∧ w'.cell? ⟨q1, 1, none⟩ = some (.int .u32 vs) ∧ w'.cell? ⟨q2, 0, none⟩ = some (.int .i64 vn) ∧ w'.cell? ⟨q2, 1, none⟩ = some (.int .u32 vs) ∧ w'.cell? ⟨P, 1, none⟩ = some (.int .i64 nn) ∧ w'.cell? ⟨P, 2, none⟩ = some (.int .i64 hh7) ∧ w'.cell? ⟨D, 4, none⟩ = some (.int .i64 yc)) (first | exact KS.out _ gZd | exact KS.out _ (by assumption) | go_keep)
                  ((first
                    | (go_at_call 14; (with_reducible refine (CNOW.out _ (by assumption)).mono ?_); rintro e t1 ⟨rfl, g1⟩)
                    | (go_at_call 28; (with_reducible refine (CHIGH.out _ (by assumption)).mono ?_); rintro e t2 ⟨rfl, g2⟩)
                    | (go_at_call 29; (with_reducible refine (CWH.out _ (by assumption)).mono ?_); rintro e t3 ⟨rfl, g3⟩)
                    | (go_at_call 19; (with_reducible refine (CCA.out _ (by assumption)).mono ?_); rintro e t4 ⟨rfl, g4⟩)
                    | (go_at_call 6; (with_reducible refine (CAW.out _ (by assumption)).mono ?_); rintro e t5 ⟨rfl, g5⟩)))
                go_wp2_with fail
                go_ret
                exact ⟨rfl, H7.out.old.trans g5⟩
        · refine CCH.out.mono ?_; rintro e u6 hmade
          obtain ⟨hc1, _⟩ | ⟨hc1, rfl, E8, q8, n8⟩ := hmade
          · exact absurd hc1 hc0
          obtain ⟨E9, q9, n9⟩ := HK7.out _ _ _ q8 n8
          have N9 := Lib.hid (N6.out.trans n9)
          obtain ⟨E10, q10, K10⟩ := suf_nx [DiskA p R.1, BuA pb R.2.1] (M := [RDiskA D sA, RBuA P ⟨m0, 0, 0⟩]) ⟨fr_disk _ _, fr_bu _ _, trivial⟩ q9
          have CR := rw_create D P sA ⟨m0, 0, 0⟩ nmA size HK.out nmA_size nmA_right (by have := HCS.out; omega) u6 E10 q10
          rw [← HR.out] at CR
          have CRH := Lib.hid CR
          have HK10 := Lib.hid K10
          have HC0 := Lib.hid hc0
          obtain ⟨c0, hcc⟩ : ∃ c0, R.2.2 = c0 := ⟨_, rfl⟩
          have HCC := Lib.hid hcc
          rw [hcc]
          clear hc1 q8 n8 q9 n9 q10 K10 CR CCH HK7 hc0 hcc
          go_wp2_with fail
          refine CRH.out.mono ?_; rintro e u7 hmade
          obtain ⟨hc1, _⟩ | ⟨hc1, rfl, E11, q11, n11⟩ := hmade
          · exact absurd hc1 HC0.out
          obtain ⟨E12, q12, n12⟩ := HK10.out _ _ _ q11 n11
          have q13 : stars (s4 p pb D P R.1 R.2.1) u7 E12 := q12
          have N12 := Lib.hid (N9.out.trans n12)
          obtain ⟨B1, hd1, _⟩ := part_at 0 rfl q13
          obtain ⟨_, hb1, _⟩ := part_at 1 rfl q13
          obtain ⟨_, ⟨hok2, _, v2, hv2, _⟩, _⟩ := part_at 2 rfl q13
          obtain ⟨_, hp1, _⟩ := part_at 3 rfl q13
          have d1 : u7.cell? ⟨P, 1, none⟩ = some (.int .i64 R.2.1.now) := by rw [cells_at hp1.2.1]; rfl
          have d2 : u7.cell? ⟨D, 4, none⟩ = some (.int .i64 R.1.calls) := by rw [cells_at hv2.1]; rfl
          have hPl := lt_of_block hp1.2.1
          have hDl := lt_of_block hv2.1
          have CN0 : ∀ v, Gr u7 v → Calls Tryz.prog 14 #[.pointer (some ⟨pb, 0, none⟩)] v fun e w' => e = .returned (.int .i64 R.2.1.now) ∧ Gr u7 w' := fun v g =>
            (bnow_c pb R.2.1 v (hb1.at.gr g)).mono fun e w' ⟨he, hw⟩ => ⟨he, by rw [← hw]; exact g⟩
          have CK0 : ∀ v, Gr u7 v → Calls Tryz.prog 19 #[.pointer (some ⟨p, 0, none⟩)] v fun e w' => e = .returned (.int .i64 R.1.calls) ∧ Gr u7 w' := fun v g =>
            (d_calls p R.1 v B1 (star_gr (fr_disk _ _) hd1 g)).mono fun e w' ⟨he, hw⟩ => ⟨he, by rw [← hw]; exact g⟩
          have CA0 : ∀ v, Gr u7 v → Calls Tryz.prog 6 #[] v fun e w' => e = .returned (.bool true) ∧ Gr u7 w' := fun v g => (awake8_c v).mono fun e w' h => ⟨h.1, g.trans h.2⟩
          have KS0 : ∀ u, Gr u7 u → u.cell? ⟨P, 1, none⟩ = some (.int .i64 R.2.1.now) ∧ u.cell? ⟨D, 4, none⟩ = some (.int .i64 R.1.calls) := fun u g => ⟨by rw [g.cell (p := ⟨P, 1, none⟩) hPl]; exact d1, by rw [g.cell (p := ⟨D, 4, none⟩) hDl]; exact d2⟩
          have CN := Lib.hid CN0
          have CK := Lib.hid CK0
          have CA := Lib.hid CA0
          have KS := Lib.hid KS0
          have gU := Gr.refl u7
          have gUd : Gr u7 u7.drew := Below.drew gU
          rw [HCC.out]
          clear CN0 CK0 CA0 KS0 hd1 hb1 hok2 hv2 hp1 q11 n11 q12 n12 q13 hc1 hPl hDl HK10 CRH HC0
          go_wp2_with fail
          go_region_held3 (fun w' => w'.cell? ⟨P, 1, none⟩ = some (.int .i64 R.2.1.now) ∧ w'.cell? ⟨D, 4, none⟩ = some (.int .i64 R.1.calls)) (first | exact KS.out _ gUd | exact KS.out _ (by assumption) | go_keep)
            ((go_at_call 14; (with_reducible refine (CN.out _ (by assumption)).mono ?_); rintro e u8 ⟨rfl, g8⟩))
          have HG8 := Lib.hid g8
          clear gU gUd d1 d2 g8 CN HCC
          go_wp2_with fail
          go_loopw [22] (fun iv wr => iv = .int .i64 0 ∧ wr = u8) (fun iv _ => 0)
          case atStart => exact ⟨rfl, rfl⟩
          case round =>
            obtain ⟨rfl, rfl⟩ := hrel
            obtain ⟨e1, e2⟩ := KS.out _ HG8.out
            have gV := HG8.out
            have gVd : Gr u7 wr.drew := Below.drew gV
            obtain ⟨nl, hnl⟩ : ∃ nl, l.length = nl := ⟨_, rfl⟩
            simp only [hnl]
            have HNL := Lib.hid hnl
            clear hnl
            by_cases h0 : 0 < nl
            all_goals
              go_wp2_with fail
              go_region_held3 (fun w' => w'.cell? ⟨P, 1, none⟩ = some (.int .i64 R.2.1.now) ∧ w'.cell? ⟨D, 4, none⟩ = some (.int .i64 R.1.calls)) (first | exact KS.out _ gVd | exact KS.out _ (by assumption) | go_keep)
                ((first
                  | (go_at_call 19; (with_reducible refine (CK.out _ (by assumption)).mono ?_); rintro e t4 ⟨rfl, g4⟩)
                  | (go_at_call 6; (with_reducible refine (CA.out _ (by assumption)).mono ?_); rintro e t5 ⟨rfl, g5⟩)))
              go_wp2_with fail
              go_ret
              exact ⟨rfl, (nx_gr N12.out).trans g5⟩

set_option maxRecDepth 100000 in
theorem lifted (os : Os) (started : os.Started) (H : Type) (enc : TypeId × Value → H) :
    ReturnsInHanded {} Tryz.checked os 3 .any (Rows.writerPlaysSpec.pre6 enc Tryz.prog Tryz.f3 Rows.writerPlaysRow.domain false) (Rows.writerPlaysSpec.post enc Tryz.prog Tryz.f3 false true false false) := by
  refine returnsInHanded_of_change (C := Tryz.checked) own started (by kernel_rfl) Tryz.func3
    (ChangeSpec.witness6 (enc := enc) (C := Tryz.checked) false ⟨#[], #[.int .i64 0, .slice none 0 0, .int .i64 0, .int .i64 0, .int .i64 0, .bool false], []⟩ 8 (by kernel_rfl) (by kernel_rfl) (by kernel_rfl) (by kernel_rfl)) ?_
  intro W base args ds gs before hval0 hW hcnd _
  have hval : ∀ (j : Nat) t v, Tryz.f3.params[j]? = some t → args[j]? = some v → Value.okWide Tryz.prog W .any base t v := hval0
  have hW' := hW
  obtain ⟨p, q, hA0, hV, rfl, hfz, hnd⟩ := hW
  have hA : DataW.TrodAll enc Tryz.prog W 0 (fun _ => true) true Tryz.f3.params.toList args.toList ds p := hA0
  rw [Tryz.params3] at hA hval
  obtain ⟨v0, vs0, d0, ds0, p0, q0, hargs, rfl, rfl, h0, r0⟩ := trodAll_cons hA
  obtain ⟨v1, vs1, d1, ds1, p1, q1, rfl, rfl, rfl, h1, r1⟩ := trodAll_cons r0
  obtain ⟨v2, vs2, d2, ds2, p2, q2, rfl, rfl, rfl, h2, r2⟩ := trodAll_cons r1
  obtain ⟨v3, vs3, d3, ds3, p3, q3, rfl, rfl, rfl, h3, r3⟩ := trodAll_cons r2
  obtain ⟨v4, vs4, d4, ds4, p4, q4, rfl, rfl, rfl, h4, r4⟩ := trodAll_cons r3
  obtain ⟨v5, vs5, d5, ds5, p5, q5, rfl, rfl, rfl, h5, r5⟩ := trodAll_cons r4
  obtain ⟨rfl, rfl, rfl⟩ := trodAll_nil r5
  obtain rfl : args = #[v0, v1, v2, v3, v4, v5] := by cases args; simp_all
  obtain ⟨rfl, rfl⟩ := trodVars_none hV
  have k0 := h0
  have lt0 : ∀ x ∈ p0, x.block < W.heap.size := by obtain ⟨m, hm⟩ := k0; exact DataW.trod_lt m _ _ _ hm
  obtain ⟨n0, e0⟩ := okWide_int Tryz.underlying3 (hval 0 3 v0 rfl rfl)
  have w0 : Rd Tryz.prog W 3 v0 := by
    obtain ⟨fuel, hf⟩ := h0
    subst e0
    exact ⟨H, enc, fuel, _, by simpa [Value.cells] using hf⟩
  have k1 := h1
  have lt1 : ∀ x ∈ p1, x.block < W.heap.size := by obtain ⟨m, hm⟩ := k1; exact DataW.trod_lt m _ _ _ hm
  obtain ⟨a1, l1, c1, e1⟩ := okWide_slice Tryz.underlying22 (hval 1 22 v1 rfl rfl)
  have w1 : Rd Tryz.prog W 22 v1 := by
    obtain ⟨fuel, hf⟩ := h1
    subst e1
    exact ⟨H, enc, fuel, _, by simpa [Value.cells] using hf⟩
  have k2 := h2
  have lt2 : ∀ x ∈ p2, x.block < W.heap.size := by obtain ⟨m, hm⟩ := k2; exact DataW.trod_lt m _ _ _ hm
  obtain ⟨n2, e2⟩ := okWide_int Tryz.underlying3 (hval 2 3 v2 rfl rfl)
  have w2 : Rd Tryz.prog W 3 v2 := by
    obtain ⟨fuel, hf⟩ := h2
    subst e2
    exact ⟨H, enc, fuel, _, by simpa [Value.cells] using hf⟩
  have k3 := h3
  have lt3 : ∀ x ∈ p3, x.block < W.heap.size := by obtain ⟨m, hm⟩ := k3; exact DataW.trod_lt m _ _ _ hm
  obtain ⟨n3, e3⟩ := okWide_int Tryz.underlying3 (hval 3 3 v3 rfl rfl)
  have w3 : Rd Tryz.prog W 3 v3 := by
    obtain ⟨fuel, hf⟩ := h3
    subst e3
    exact ⟨H, enc, fuel, _, by simpa [Value.cells] using hf⟩
  have k4 := h4
  have lt4 : ∀ x ∈ p4, x.block < W.heap.size := by obtain ⟨m, hm⟩ := k4; exact DataW.trod_lt m _ _ _ hm
  obtain ⟨n4, e4⟩ := okWide_int Tryz.underlying3 (hval 4 3 v4 rfl rfl)
  have w4 : Rd Tryz.prog W 3 v4 := by
    obtain ⟨fuel, hf⟩ := h4
    subst e4
    exact ⟨H, enc, fuel, _, by simpa [Value.cells] using hf⟩
  have k5 := h5
  have lt5 : ∀ x ∈ p5, x.block < W.heap.size := by obtain ⟨m, hm⟩ := k5; exact DataW.trod_lt m _ _ _ hm
  obtain ⟨n5, e5⟩ := okWide_bool Tryz.underlying4 (hval 5 4 v5 rfl rfl)
  have w5 : Rd Tryz.prog W 4 v5 := by
    obtain ⟨fuel, hf⟩ := h5
    subst e5
    exact ⟨H, enc, fuel, _, by simpa [Value.cells] using hf⟩
  clear hA0 hval0
  refine (walk v0 v1 v2 v3 v4 v5 W w0 w1 w2 w3 w4 w5).mono fun e W' ⟨he, bel⟩ => ?_
  subst he
  exact ⟨_, rfl, _, _, _, [], _, [], hW', trodAll_mk1 (shut_bool Tryz.underlying4 _), (trodAll_cons_mk (Below.trod laidOut (by kernel_rfl) (of_decide_eq_true (by kernel_rfl)) k0 bel lt0) (trodAll_cons_mk (Below.trod laidOut (by kernel_rfl) (of_decide_eq_true (by kernel_rfl)) k1 bel lt1) (trodAll_cons_mk (Below.trod laidOut (by kernel_rfl) (of_decide_eq_true (by kernel_rfl)) k2 bel lt2) (trodAll_cons_mk (Below.trod laidOut (by kernel_rfl) (of_decide_eq_true (by kernel_rfl)) k3 bel lt3) (trodAll_cons_mk (Below.trod laidOut (by kernel_rfl) (of_decide_eq_true (by kernel_rfl)) k4 bel lt4) (trodAll_cons_mk (Below.trod laidOut (by kernel_rfl) (of_decide_eq_true (by kernel_rfl)) k5 bel lt5) trodAll_mk0)))))), rfl, bel.frame _, fun h => by cases h⟩

theorem over : Rows.writerPlaysRow.holds Tryz.pinned (OpenSpec.ofChange Rows.writerPlaysSpec) :=
  OpenClaim.holds_of_wide 3 Tryz.f3 rfl rfl rfl rfl rfl rfl rfl ⟨rfl, rfl, rfl, rfl, rfl⟩ rfl rfl rfl rfl rfl (by kernel_rfl) Tryz.func3 (by kernel_rfl)
    (of_decide_eq_true (by kernel_rfl)) (by unfold Func.isWrapper; first | (rw [if_pos (by decide +kernel)]; kernel_rfl) | (rw [if_neg (by decide +kernel)]; exact ⟨rfl, rfl⟩))
    (fun os started H enc _ => lifted os started H enc)

theorem proved : Rows.WriterPlaysSaid := over
#print axioms proved
end Go.Proofs.YtcpaaenjfljocaaGreat.writerPlays

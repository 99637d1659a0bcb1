/- Rows.VecsReadsSaid holds: for every input the law returns true and leaves its arguments as they were. Conditions: none beside the row's own. -/
import Derived.Test.YtibajmjplpnbmaaRows
import Derived.WalkKit
import Derived.ProofKit
import Derived.OpenShut
import Derived.ShutString
import Derived.ChangeOld
import Derived.Below
import Derived.Test.YtibajmjplpnbmaaP01
import Derived.Test.YtibajmjplpnbmaaP48
namespace Go.Proofs.Ytibajmjplpnbmaa.vecsReads
open Go.ChangeShapes Go.WideShapes Go.ChangeAt Go.RowKit
open Go.ChangeMaps (open_string shut_string)
open FsPlain OctPlain DsPlain
set_option linter.unusedVariables false
set_option linter.unusedSimpArgs false

theorem own : ownKnob Try.prog.godebug = none := by kernel_rfl
theorem laidOut : laidOutB Try.prog = true := by kernel_rfl


set_option maxRecDepth 100000 in
set_option maxHeartbeats 8000000 in
theorem walk (v0 v1 v2 : Value) (w : World) (w0 : Rd Try.prog w 22 v0) (w1 : Rd Try.prog w 23 v1) (w2 : Rd Try.prog w 5 v2) :
    Calls Try.prog 3 #[v0, v1, v2] w fun e w' => e = .returned (.bool true) ∧ Gr w w' := by
  obtain ⟨L, hL, hLm, hLi⟩ := liesII_in Try.underlying22 w0
  obtain ⟨qa, qc, q, rfl, hqm, hqr, hqw⟩ := rd_ints Try.underlying23 Try.underlying5 (by kernel_rfl) w1
  obtain ⟨z0, rfl, hw0⟩ := rd_int Try.underlying5 w2
  have hz0 : 0 ≤ z0 ∧ z0 ≤ 255 := by
    have h := hw0
    simp only [Lit.wf, Bool.and_eq_true, decide_eq_true_eq] at h
    exact h
  unfold maxLen at hLm hqm
  clear w0 w1 w2 hw0
  have HL := Lib.hid (fun u (g : Gr w u) => hL.gr g)
  have F := few10_c hL 20 10 (by omega) (by omega) (by omega)
  obtain ⟨a, c, rfl, hc, hat⟩ := liesII_at hL
  obtain ⟨n, hn⟩ : ∃ n, L.length = n := ⟨_, rfl⟩
  obtain ⟨m, hm⟩ : ∃ m, q.length = m := ⟨_, rfl⟩
  cases hf : few10 L 20 10
  · rw [hf] at F
    rw [hn] at F ⊢
    rw [hm] at hqm ⊢
    clear hf hLi hL hn hm hqr hqw HL hat
    go_enter Try.func3, Try.ntmps3
    go_wp2_with fail
    refine F.mono ?_; rintro e u ⟨rfl, rfl⟩
    go_wp2_with fail
    refine (awake13_c _).mono ?_; rintro e u7 ⟨rfl, g7⟩
    go_wp2_with fail
    go_ret
    exact ⟨rfl, g7⟩
  · rw [hf] at F
    obtain ⟨hl20, hz10⟩ := few10_yes hf
    have hz1 : ∀ l ∈ L, l.length ≤ 1000 := fun l hl => by have := hz10 l hl; omega
    have hz2 : ∀ l ∈ L, l.length ≤ 1000000 := fun l hl => by have := hz10 l hl; omega
    have LA := Lib.hid (fun u (g : Gr w u) => rlay10_c (HL.out u g) (by omega) hz1 hLi)
    have RG := Lib.hid (right10_c hL (by omega) hz1 hLi)
    cases hR : right L
    · rw [hR] at LA RG
      rw [hn] at F RG LA ⊢
      rw [hm] at hqm ⊢
      clear hf hLi hL hqr hqw HL hat hl20 hz10 hz1 hz2 hR LA hn hm
      go_enter Try.func3, Try.ntmps3
      go_wp2_with fail
      refine F.mono ?_; rintro e u ⟨rfl, rfl⟩
      go_wp2_with fail
      refine RG.out.mono ?_; rintro e u1 ⟨rfl, g1⟩
      have G1 := Lib.hid g1
      clear g1
      go_wp2_with fail
      refine (awake13_c _).mono ?_; rintro e u7 ⟨rfl, g7⟩
      go_wp2_with fail
      go_ret
      exact ⟨rfl, G1.out.trans g7⟩
    · rw [hR] at LA RG
      by_cases h40 : 40 < m
      · rw [hn] at F RG LA ⊢
        rw [hm] at hqm ⊢
        have t40 : (40 : Int) < (m : Int) := by omega
        clear hf hLi hL hqr hqw HL hat hl20 hz10 hz1 hz2 hR LA hn hm
        go_enter Try.func3, Try.ntmps3
        go_wp2_with fail
        refine F.mono ?_; rintro e u ⟨rfl, rfl⟩
        go_wp2_with fail
        refine RG.out.mono ?_; rintro e u1 ⟨rfl, g1⟩
        have G1 := Lib.hid g1
        clear g1
        go_wp2_with fail
        refine (awake13_c _).mono ?_; rintro e u7 ⟨rfl, g7⟩
        go_wp2_with fail
        go_ret
        exact ⟨rfl, G1.out.trans g7⟩
      · have t40 : ¬ (40 : Int) < (m : Int) := by omega
        obtain ⟨r1, r2, r3⟩ := right_parts hR
        have hlen := lay_len hR
        obtain ⟨b0, off0, rfl, hb0, hcell⟩ := hat (by omega)
        have hdim : dimN L ≤ 10 := by
          obtain ⟨y0, hy0⟩ : ∃ y0, L[0]? = some y0 := ⟨_, List.getElem?_eq_getElem (by omega)⟩
          have := hz10 y0 (List.mem_of_getElem? hy0)
          rw [(r3 y0 (List.mem_of_getElem? hy0)).1] at this
          exact this
        have hsz : (layS L).size ≤ 810 := by
          have := Nat.mul_le_mul hl20 (show dimN L * 4 ≤ 40 by omega)
          omega
        obtain ⟨room, hroom⟩ : ∃ room : Nat, 1 + z0 % 8 = (room : Int) := ⟨(1 + z0 % 8).toNat, by omega⟩
        have hrm : 1 ≤ room ∧ room ≤ 8 := by omega
        have ho : (⟨nmA, room, L.length, dimN L⟩ : So).ok := o_ok hR hrm.1 (by omega) nmA_size nmA_right (by omega)
        have C1 := Lib.hid (new_c 1048576 (by decide) (by decide))
        have C2 := Lib.hid (fun p u B h => d_create p (fresh 1048576) nmA (by decide) nmA_right (by decide) u B h)
        rw [vs_create] at C2
        have C30 := fun p u B h => d_append p (vsC 1048576) nmA (layS L) (by decide) nmA_right (by decide) (by omega) u B h
        rw [vs_append 1048576 _ (by omega)] at C30
        have C3 := Lib.hid C30
        have CB := Lib.hid (fun u => bu_new (room : Int) u (by omega) (by omega))
        have hb1 : (⟨room, 0, 0⟩ : Bu).takeE (room : Int) = 0 := by unfold Bu.takeE; simp only []; rw [if_neg (by omega), if_neg (by omega)]
        have CO := Lib.hid (fun D P u B h => v3_make hR D P (vsA 1048576 (layS L)) ⟨room, 0, 0⟩ nmA room hrm.1 hb1 (vs_stands _ _) nmA_size nmA_right (by show (2 : Int) ≤ _; omega) u B h)
        have HSZ := Lib.hid hsz
        have HO := Lib.hid ho
        have HR := Lib.hid hR
        have HZ2 := Lib.hid hz2
        have HN := Lib.hid hn
        have HM := Lib.hid hm
        have HC := Lib.hid hcell
        have HQ := Lib.hid (show RowIn w qa (q.map (.int .u8)) ∧ ∀ n ∈ q, (Lit.int .u8 n).wf = true from ⟨hqr, hqw⟩)
        have HR3 := Lib.hid r3
        rw [hn] at F RG LA r1 hc hl20 ⊢
        rw [hm] at hqm ⊢
        clear hf hLi hL hqr hqw HL hat hz10 hz1 hz2 hR hlen hdim hsz ho C30 hb1 hcell r3 hn hm h40 hLm
        go_enter Try.func3, Try.ntmps3
        go_wp2_with fail
        refine F.mono ?_; rintro e u ⟨rfl, rfl⟩
        clear F
        go_wp2_with fail
        refine RG.out.mono ?_; rintro e u1 ⟨rfl, g1⟩
        have G1 := Lib.hid g1
        clear g1 RG
        go_wp2_with fail
        refine (LA.out _ G1.out).mono ?_; rintro e u2 ⟨rfl, g2⟩
        have G2 := Lib.hid (G1.out.trans g2)
        clear g2 LA
        go_wp2_with fail
        refine (C1.out _).mono ?_; rintro e u3 hb
        obtain ⟨p, B1, rfl, hd1, g3, hn1⟩ := hb
        obtain ⟨E3, q3, n3⟩ := part_new (P := DiskA p (fresh 1048576)) (L := []) trivial (stars_none _) g3 hd1 hn1
        have N3 := Lib.hid ((Nx.gr G2.out).trans n3)
        have Q3 := Lib.hid q3
        clear hd1 g3 hn1 q3 n3
        go_wp2_with fail
        refine (CB.out _).mono ?_; rintro e u4 ⟨rfl, hb4, g4⟩
        obtain ⟨E4, q4, n4⟩ := part_new (P := BuA u3.heap.size ⟨room, 0, 0⟩) (L := [DiskA p (fresh 1048576)]) ⟨fr_disk _ _, trivial⟩ Q3.out g4 hb4 (fun b hb => by omega)
        obtain ⟨pb, hpb⟩ : ∃ pb, pb = u3.heap.size := ⟨_, rfl⟩
        rw [← hpb] at q4 ⊢
        have N4 := Lib.hid (N3.out.trans n4)
        have K4 := Lib.hid (fun u (g : Gr u4 u) => does_at (f := 10) (L := [BuA pb ⟨room, 0, 0⟩, DiskA p (fresh 1048576)]) (Q := DiskA p (vsC 1048576)) 1 rfl ⟨fr_bu _ _, fr_disk _ _, trivial⟩ (stars_gr (L := [BuA pb ⟨room, 0, 0⟩, DiskA p (fresh 1048576)]) ⟨fr_bu _ _, fr_disk _ _, trivial⟩ q4 g) fun B h => C2.out p u B h)
        clear hb4 g4 q4 n4 hpb
        go_wp2_with fail
        refine (K4.out _ (Gr.refl _)).mono ?_; rintro e u5 ⟨rfl, E5, q5, n5⟩
        have K5 := Lib.hid (does_at (f := 11) (L := [BuA pb ⟨room, 0, 0⟩, DiskA p (vsC 1048576)]) (Q := DiskA p (vsA 1048576 (layS L))) 1 rfl ⟨fr_bu _ _, fr_disk _ _, trivial⟩ q5 fun B h => C3.out p u5 B h)
        have N5 := Lib.hid (N4.out.trans n5)
        clear q5 n5 K4
        go_wp2_with fail
        refine K5.out.mono ?_; rintro e u6 ⟨rfl, E6, q6, n6⟩
        have K6 := Lib.hid (CO.out p pb u6 E6 (stars_perm (List.Perm.swap _ _ _) q6))
        have N6 := Lib.hid (N5.out.trans n6)
        clear q6 n6 K5
        go_wp2_with fail
        refine K6.out.mono ?_; rintro e u7 ⟨x, rfl, E7, q7, n7⟩
        have N7 := Lib.hid (N6.out.trans n7)
        have Q7 := Lib.hid (fun u (g : Gr u7 u) => stars_gr (frs_v3 _ _ _ _ _ _ _) q7 g)
        clear q7 n7 K6
        go_wp2_with fail
        obtain ⟨y0, hy0⟩ : ∃ y0, L[0]? = some y0 := ⟨_, List.getElem?_eq_getElem (by rw [HN.out]; omega)⟩
        obtain ⟨x0, hx0, lx0⟩ := HC.out 0 y0 hy0
        obtain ⟨a0, c0, rfl, _⟩ := lx0
        have hy0l : y0.length = dimN L := (HR3.out y0 (List.mem_of_getElem? hy0)).1
        obtain ⟨d, hd⟩ : ∃ d, d = dimN L := ⟨_, rfl⟩
        rw [hy0l, ← hd, Nat.add_zero] at hx0
        have h0c : ∀ u, Gr w u → u.cell? ⟨b0, off0, none⟩ = some (.slice a0 d c0) := fun u g => by
          rw [g.cell (p := ⟨b0, off0, none⟩) hb0]; exact hx0
        have g7 := nx_gr N7.out
        have g7d : Gr u7 u7.drew := Below.drew (Gr.refl u7)
        have CN := Lib.hid (fun u (g : Gr u7 u) => v3_n (Q7.out u g))
        have CD := Lib.hid (fun u (g : Gr u7 u) => v3_d (Q7.out u g))
        have CK := Lib.hid (fun u (g : Gr u7 u) => v3_check HR.out (by have := HSZ.out; omega) nmA_size nmA_right (vs_stands 1048576 (layS L)).call.1.call.1 (by show (4 : Int) ≤ _; omega) (Q7.out u g))
        dsimp only at CN CD
        rw [HN.out] at CN
        rw [← hd] at CD
        have e7 : u7.cell? ⟨b0, off0, none⟩ = some (.slice a0 d c0) := h0c u7 g7
        have e7d : u7.drew.cell? ⟨b0, off0, none⟩ = some (.slice a0 d c0) := h0c _ (g7.trans g7d)
        have H0C := Lib.hid h0c
        have HD := Lib.hid hd
        have hn0 : (0 : Int) < (n : Int) := by omega
        have hn1 : 0 < n := by omega
        clear hx0 h0c hy0 hy0l hd
        go_region_held3 (fun u => u.cell? ⟨b0, off0, none⟩ = some (.slice a0 d c0)) (first | assumption | go_keep)
          (first
            | (go_at_call 13; (with_reducible refine (CN.out _ g7d).mono ?_); rintro e t2 ⟨rfl, rfl⟩)
            | (go_at_call 14; (with_reducible refine (CD.out _ g7d).mono ?_); rintro e t2 ⟨rfl, rfl⟩)
            | (go_at_call 15; (refine (CK.out _ g7d).mono ?_); rintro e t2 ⟨rfl, E8, q8, n8⟩; have k8 := H0C.out _ (nx_gr ((N7.out.trans (Nx.gr g7d)).trans n8))))
        have hst : VcAt w x p pb ⟨nmA, room, L.length, dimN L⟩ L ((⟨room, 0, 0⟩ : Bu).take (room : Int)) m (.int .i64 0) t2 := ⟨0, [], _, Nat.zero_le _, rfl, vcOk_nil _ _, (vs_stands 1048576 (layS L)).call.1.call.1.call.1.call.1, (by show (6 : Int) ≤ 10 + ((0 : Nat) : Int); omega), E8, q8, (N7.out.trans (Nx.gr g7d)).trans n8⟩
        rw [bu_full hrm.1] at hst
        have HST := Lib.hid hst
        clear hst q8 n8 k8 e7 e7d g7 g7d CN CD CK Q7 N7 N6 N5 N4 N3 Q3 C1 C2 C3 CB CO G1 G2 H0C
        go_wp2_with fail
        go_loopw [15] (fun iv wr => VcAt w x p pb ⟨nmA, room, L.length, dimN L⟩ L ⟨room, room, room⟩ m iv wr) (fun iv _ => m - (intOf iv).toNat)
        case atStart => exact HST.out
        case round =>
          clear HST
          obtain ⟨i, hs, s, hi, rfl, hok, hsd, hcl, B, hB, hN⟩ := hrel
          have HOK := Lib.hid hok
          have HSD := Lib.hid hsd
          have HB := Lib.hid hB
          have HNX := Lib.hid hN
          have HCL := Lib.hid hcl
          by_cases hlt : i < m
          · obtain ⟨qb, qo, rfl, hqb, hqc⟩ : ∃ b off, qa = some ⟨b, off, none⟩ ∧ b < w.heap.size ∧ ∀ j x, (q.map (Value.int .u8))[j]? = some x → w.cell? ⟨b, off + j, none⟩ = some x := by
              rcases HQ.out.1 with h0 | h0
              · exfalso
                have h1 : q.length = 0 := by simpa using congrArg List.length h0
                have h2 := HM.out
                omega
              · exact h0
            obtain ⟨z1, hz1⟩ : ∃ z1, q[i]? = some z1 := ⟨_, List.getElem?_eq_getElem (by rw [HM.out]; exact hlt)⟩
            have hzb : 0 ≤ z1 ∧ z1 ≤ 255 := by
              have h := HQ.out.2 z1 (List.mem_of_getElem? hz1)
              simp only [Lit.wf, Bool.and_eq_true, decide_eq_true_eq] at h
              exact h
            have hzc : wr.cell? ⟨qb, qo + i, none⟩ = some (.int .u8 z1) := by rw [(nx_gr hN).cell (p := ⟨qb, qo + i, none⟩) hqb]; exact hqc i _ (by rw [List.getElem?_map, hz1]; rfl)
            have hqw : qb < wr.heap.size := Nat.lt_of_lt_of_le hqb (nx_gr hN).size
            obtain ⟨k, hk⟩ : ∃ k : Nat, z1 % (n : Int) = (k : Int) := ⟨(z1 % (n : Int)).toNat, (Int.toNat_of_nonneg (Int.emod_nonneg _ (by omega))).symm⟩
            have hkn : (k : Int) < (n : Int) := by rw [← hk]; exact Int.emod_lt_of_pos _ hn0
            have hkt : z1.tmod (n : Int) = (k : Int) := by rw [Int.tmod_eq_emod_of_nonneg hzb.1]; exact hk
            have hk0 : (0 : Int) ≤ (k : Int) := by omega
            obtain ⟨y, hy⟩ : ∃ y, L[k]? = some y := ⟨_, List.getElem?_eq_getElem (by rw [HN.out]; omega)⟩
            obtain ⟨xk, hxk, lxk⟩ := HC.out k y hy
            have lxr := Lib.hid (fun u (g : Gr w u) => lxk.gr g)
            obtain ⟨ak, ck, rfl, _⟩ := lxk
            have KX := Lib.hid (fun u (g : Gr w u) => (show u.cell? ⟨b0, off0 + k, none⟩ = some (.slice ak y.length ck) by rw [g.cell (p := ⟨b0, off0 + k, none⟩) hb0]; exact hxk))
            have hi0 : (0 : Int) ≤ (i : Int) := by omega
            have hi1 : (i : Int) < (m : Int) := by omega
            have hnz : ¬ (n : Int) = 0 := by omega
            have GO := Lib.hid (fun u (g : Gr wr u) => v3_got HR.out HZ2.out x p pb ⟨nmA, room, L.length, dimN L⟩ HO.out rfl rfl (by show room ≤ 1500000; omega) hs hok s hsd (by omega) ⟨room, room, room⟩ k y hy u B (stars_gr (frs_v3 _ _ _ _ _ _ _) hB g))
            have hyl : y.length ≤ 1000000 := HZ2.out y (List.mem_of_getElem? hy)
            have HYL := Lib.hid hyl
            have HIM := Lib.hid hi
            clear hqc hz1 hxk hok hsd hcl hB hN hyl hy hi
            go_wp2_with fail
            refine (GO.out _ (Gr.refl _)).mono ?_; rintro e u1 ⟨v1, r1', s1, E1, rfl, lv1, ok1, st1, c1, q1, n1⟩
            obtain ⟨E2, q2, n2⟩ := stars_drop (L := v3l x p pb ⟨nmA, room, L.length, dimN L⟩ (((k : Int), y) :: r1') s1 ⟨room, room, room⟩) q1
            have HE := v3_held q2 (by have := ok1.room; have : (⟨nmA, room, L.length, dimN L⟩ : So).room = room := rfl; omega)
            have HEH := Lib.hid HE
            have LV1 := Lib.hid (fun u (g : Gr u1 u) => lv1.gr g)
            have Q2 := Lib.hid (fun u (g : Gr u1 u) => stars_gr (frs_v3 _ _ _ _ _ _ _) q2 g)
            have NN := Lib.hid ((HNX.out.trans n1).trans n2)
            have OK1 := Lib.hid ok1
            have ST1 := Lib.hid st1
            have CC1 := Lib.hid c1
            obtain ⟨va, vc, rfl, _⟩ := lv1
            clear ok1 st1 c1 q1 n1 q2 n2 HE
            go_wp2_with fail
            refine HEH.out.mono ?_; rintro e u2 ⟨v2, rfl, lh2, g2⟩
            obtain ⟨ha, hc2, rfl, hcl, hcells⟩ := lh2
            obtain ⟨hg, ho2, rfl, hrow⟩ : ∃ b off, ha = some ⟨b, off, none⟩ ∧ VRow u2 b off (ints ((((k : Int), y) :: r1').map (·.1))) := hcells.elim (fun h0 => by simp at h0) id
            have hh0 : u2.cell? ⟨hg, ho2, none⟩ = some (.int .i64 (k : Int)) := by
              have := hrow.2 0 (.int .i64 (k : Int)) (by simp [ints])
              rw [Nat.add_zero] at this
              exact this
            obtain ⟨nh, hnh⟩ : ∃ nh, nh = ((((k : Int), y) :: r1').map (·.1)).length := ⟨_, rfl⟩
            have hnh1 : (1 : Int) ≤ (nh : Int) := by rw [hnh]; simp only [List.length_map, List.length_cons]; omega
            have hnh2 : (nh : Int) ≤ (room : Int) := by
              have h5 := OK1.out.room
              have : (⟨nmA, room, L.length, dimN L⟩ : So).room = room := rfl
              rw [hnh, List.length_map]
              omega
            rw [← hnh]
            have G2' := Lib.hid g2
            have gw2 : Gr w u2 := (nx_gr NN.out).trans g2
            have hxk2 := KX.out u2 gw2
            have SL := Lib.hid (samel_c HYL.out (LV1.out u2 g2) (lxr.out u2 gw2))
            have hb0w : b0 < u2.heap.size := Nat.lt_of_lt_of_le hb0 gw2.size
            clear hnh hcells hrow hcl g2 gw2
            go_wp2_with fail
            refine SL.out.mono ?_; rintro e u3 ⟨rfl, g3⟩
            have hh3 : u3.cell? ⟨hg, ho2, none⟩ = some (.int .i64 (k : Int)) := cell_grV g3 hh0
            have G3 := Lib.hid (G2'.out.trans g3)
            clear g3 hh0 hxk2
            go_wp2_with fail
            refine ⟨⟨i + 1, _, s1, by omega, by simp, OK1.out, ST1.out, ?_, E2, Q2.out _ G3.out, NN.out.trans (Nx.gr G3.out)⟩, ?_⟩
            · have := CC1.out; have := HCL.out; omega
            · simp [intOf]; omega
          · obtain rfl : i = m := by omega
            have NO := Lib.hid (v3_none HZ2.out x p pb ⟨nmA, room, L.length, dimN L⟩ HO.out rfl (by show room ≤ 1500000; omega) hs hok s (by omega) ⟨room, room, room⟩ wr B hB)
            have NO2 := NO.out
            dsimp only at NO2
            rw [HN.out] at NO2
            have NO3 := Lib.hid NO2
            clear NO NO2 hok hsd hcl hB hN HOK HSD HCL HB hi
            go_wp2_with fail
            refine NO3.out.mono ?_; rintro e u1 ⟨a1, c1, n1, rfl, E1, q1, x1⟩
            have CL := Lib.hid (v3_close q1)
            have N1 := Lib.hid (HNX.out.trans x1)
            clear NO3 q1 x1
            go_wp2_with fail
            refine CL.out.mono ?_; rintro e u2 ⟨rfl, E2, q2, x2⟩
            have N2 := Lib.hid (N1.out.trans x2)
            obtain ⟨_, hsh, _⟩ := part_at 0 rfl q2
            have SH := Lib.hid (vget_shut x 0 u2 (by rw [cells_at hsh.1]; rfl))
            have bu0 : BAt u2 pb ((⟨room, room, room⟩ : Bu).give (room : Int)) := by obtain ⟨_, hbq, _⟩ := part_at 1 rfl q2; exact BuA.at hbq
            rw [bu_none] at bu0
            have BU := Lib.hid (fun u (g : Gr u2 u) => bu0.gr g)
            clear bu0
            clear CL q2 x2 hsh
            go_wp2_with fail
            refine SH.out.mono ?_; rintro e u3 ⟨rfl, g3⟩
            have G3 := Lib.hid g3
            have BN := Lib.hid (bnow_c pb _ u3 (BU.out u3 g3))
            have BH := Lib.hid (bhigh_c pb _ u3 (BU.out u3 g3))
            clear g3 SH
            go_wp2_with fail
            refine BN.out.mono ?_; rintro e u4 ⟨rfl, rfl⟩
            go_wp2_with fail
            refine BH.out.mono ?_; rintro e u5 ⟨rfl, rfl⟩
            go_wp2_with fail
            refine (awake13_c _).mono ?_; rintro e u9 ⟨rfl, g9⟩
            go_wp2_with fail
            go_ret
            exact ⟨rfl, ((nx_gr N2.out).trans G3.out).trans g9⟩

set_option maxRecDepth 100000 in
theorem lifted (os : Os) (started : os.Started) (H : Type) (enc : TypeId × Value → H) :
    ReturnsInHanded {} Try.checked os 3 .any (Rows.vecsReadsSpec.pre6 enc Try.prog Try.f3 Rows.vecsReadsRow.domain false) (Rows.vecsReadsSpec.post enc Try.prog Try.f3 false true false false) := by
  refine returnsInHanded_of_change (C := Try.checked) own started (by kernel_rfl) Try.func3
    (ChangeSpec.witness6 (enc := enc) (C := Try.checked) false ⟨#[], #[.slice none 0 0, .slice none 0 0, .int .u8 0], []⟩ 8 (by kernel_rfl) (by kernel_rfl) (by kernel_rfl) (by kernel_rfl)) ?_
  intro W base args ds gs before hval0 hW hcnd _
  have hval : ∀ (j : Nat) t v, Try.f3.params[j]? = some t → args[j]? = some v → Value.okWide Try.prog W .any base t v := hval0
  have hW' := hW
  obtain ⟨p, q, hA0, hV, rfl, hfz, hnd⟩ := hW
  have hA : DataW.TrodAll enc Try.prog W 0 (fun _ => true) true Try.f3.params.toList args.toList ds p := hA0
  rw [Try.params3] at hA hval
  obtain ⟨v0, vs0, d0, ds0, p0, q0, hargs, rfl, rfl, h0, r0⟩ := trodAll_cons hA
  obtain ⟨v1, vs1, d1, ds1, p1, q1, rfl, rfl, rfl, h1, r1⟩ := trodAll_cons r0
  obtain ⟨v2, vs2, d2, ds2, p2, q2, rfl, rfl, rfl, h2, r2⟩ := trodAll_cons r1
  obtain ⟨rfl, rfl, rfl⟩ := trodAll_nil r2
  obtain rfl : args = #[v0, v1, v2] := by cases args; simp_all
  obtain ⟨rfl, rfl⟩ := trodVars_none hV
  have k0 := h0
  have lt0 : ∀ x ∈ p0, x.block < W.heap.size := by obtain ⟨m, hm⟩ := k0; exact DataW.trod_lt m _ _ _ hm
  obtain ⟨a0, l0, c0, e0⟩ := okWide_slice Try.underlying22 (hval 0 22 v0 rfl rfl)
  have w0 : Rd Try.prog W 22 v0 := by
    obtain ⟨fuel, hf⟩ := h0
    subst e0
    exact ⟨H, enc, fuel, _, by simpa [Value.cells] using hf⟩
  have k1 := h1
  have lt1 : ∀ x ∈ p1, x.block < W.heap.size := by obtain ⟨m, hm⟩ := k1; exact DataW.trod_lt m _ _ _ hm
  obtain ⟨a1, l1, c1, e1⟩ := okWide_slice Try.underlying23 (hval 1 23 v1 rfl rfl)
  have w1 : Rd Try.prog W 23 v1 := by
    obtain ⟨fuel, hf⟩ := h1
    subst e1
    exact ⟨H, enc, fuel, _, by simpa [Value.cells] using hf⟩
  have k2 := h2
  have lt2 : ∀ x ∈ p2, x.block < W.heap.size := by obtain ⟨m, hm⟩ := k2; exact DataW.trod_lt m _ _ _ hm
  obtain ⟨n2, e2⟩ := okWide_int Try.underlying5 (hval 2 5 v2 rfl rfl)
  have w2 : Rd Try.prog W 5 v2 := by
    obtain ⟨fuel, hf⟩ := h2
    subst e2
    exact ⟨H, enc, fuel, _, by simpa [Value.cells] using hf⟩
  clear hA0 hval0
  refine (walk v0 v1 v2 W w0 w1 w2).mono fun e W' ⟨he, bel⟩ => ?_
  subst he
  exact ⟨_, rfl, _, _, _, [], _, [], hW', trodAll_mk1 (shut_bool Try.underlying4 _), (trodAll_cons_mk (Below.trod laidOut (by kernel_rfl) (of_decide_eq_true (by kernel_rfl)) k0 bel lt0) (trodAll_cons_mk (Below.trod laidOut (by kernel_rfl) (of_decide_eq_true (by kernel_rfl)) k1 bel lt1) (trodAll_cons_mk (Below.trod laidOut (by kernel_rfl) (of_decide_eq_true (by kernel_rfl)) k2 bel lt2) trodAll_mk0))), rfl, bel.frame _, fun h => by cases h⟩

theorem over : Rows.vecsReadsRow.holds Try.pinned (OpenSpec.ofChange Rows.vecsReadsSpec) :=
  OpenClaim.holds_of_wide 3 Try.f3 rfl rfl rfl rfl rfl rfl rfl ⟨rfl, rfl, rfl, rfl, rfl⟩ rfl rfl rfl rfl rfl (by kernel_rfl) Try.func3 (by kernel_rfl)
    (of_decide_eq_true (by kernel_rfl)) (by unfold Func.isWrapper; first | (rw [if_pos (by decide +kernel)]; kernel_rfl) | (rw [if_neg (by decide +kernel)]; exact ⟨rfl, rfl⟩))
    (fun os started H enc _ => lifted os started H enc)

theorem proved : Rows.VecsReadsSaid := over
#print axioms proved
end Go.Proofs.Ytibajmjplpnbmaa.vecsReads

/- Rows.MergeJoinsSaid holds: for every input the law returns true and leaves its arguments as they were. Conditions: none beside the row's own. -/
import Derived.Test.YtpmglnghnelenaaGreatRows
import Derived.WalkKit
import Derived.ProofKit
import Derived.OpenShut
import Derived.ShutString
import Derived.ChangeOld
import Derived.Below
import Derived.Test.YtpmglnghnelenaaGreatP00
import Derived.Test.YtpmglnghnelenaaGreatP48
namespace Go.Proofs.YtpmglnghnelenaaGreat.mergeJoins
open Go.ChangeShapes Go.WideShapes Go.ChangeAt Go.RowKit
open Go.ChangeMaps (open_string shut_string)
open FsPlain CrcPlain OctPlain FramePlain RdPlain RecPlain RnPlain WrPlain
set_option linter.unusedVariables false
set_option linter.unusedSimpArgs false

theorem own : ownKnob Tryz.prog.godebug = none := by kernel_rfl
theorem laidOut : laidOutB Tryz.prog = true := by kernel_rfl


set_option maxRecDepth 100000 in
set_option maxHeartbeats 8000000 in
theorem walk (v0 v1 v2 : Value) (w : World) (w0 : Rd Tryz.prog w 5 v0) (w1 : Rd Tryz.prog w 22 v1) (w2 : Rd Tryz.prog w 4 v2) :
    Calls Tryz.prog 3 #[v0, v1, v2] w fun e w' => e = .returned (.bool true) ∧ Gr w w' := by
  obtain ⟨z0, rfl, hw0⟩ := rd_int Tryz.underlying5 w0
  obtain ⟨X, hX, hXm, hXs⟩ := liesSS_in Tryz.underlying22 w1
  obtain ⟨uq, rfl⟩ := rd_bool Tryz.underlying4 w2
  have hk : 0 ≤ z0 ∧ z0 ≤ 255 := by
    have h := hw0
    simp only [Lit.wf, Bool.and_eq_true, decide_eq_true_eq] at h
    exact h
  clear w0 w1 w2 hw0
  unfold maxLen at hXm hXs
  have AW := Lib.hid (fun u (g : Gr w u) => (awake17_c u).mono (fun e v h => (⟨h.1, g.trans h.2⟩ : e = .returned (.bool true) ∧ Gr w v)))
  have HSS := Lib.hid (fun u (g : Gr w u) => hX.gr g)
  obtain ⟨nn, hnn⟩ : ∃ nn : Int, nn = 1 + z0 % 64 := ⟨_, rfl⟩
  have hn1 : 1 ≤ nn := by omega
  have hn2 : nn ≤ 64 := by omega
  have HKN := Lib.hid (show I64 nn by unfold I64; omega)
  have LC := Lib.hid (lists17_c hX nn HKN.out hXm (fun l h => (hXs l h).1))
  obtain ⟨xa, xc, rfl, hxc, _⟩ := hX
  obtain ⟨lb, hlb⟩ : ∃ lb, listsB nn X = lb := ⟨_, rfl⟩
  rw [hlb] at LC
  obtain ⟨m, hm⟩ : ∃ m, X.length = m := ⟨_, rfl⟩
  have HM := Lib.hid hm
  rw [hm] at hXm hxc LC
  simp only [hm]
  have HLB := Lib.hid hlb
  clear hXm hXs hxc hlb
  cases lb
  · go_enter Tryz.func3, Tryz.ntmps3
    go_wp2_with fail
    rw [← hnn]
    clear hnn hk
    refine LC.out.mono ?_; rintro e u ⟨rfl, g⟩
    go_wp2_with fail
    refine (AW.out _ g).mono ?_; rintro e v ⟨rfl, g⟩
    go_wp2_with fail
    go_ret
    exact ⟨rfl, g⟩
  · obtain ⟨hm10, hall⟩ := listsB_yes HLB.out
    have HALL := Lib.hid hall
    have hsz : sizeB nn = true := by simp [sizeB]; omega
    have HSZ := Lib.hid hsz
    have HM10 := Lib.hid hm10
    rw [hm] at hm10
    have DK := Lib.hid (fun u (g : Gr w u) => disk17_c (HSS.out u g) nn HKN.out HM10.out HALL.out)
    have BN := Lib.hid (fun (u : World) => bu_new (4 * (m : Int) + 4) u (by omega) (by omega))
    rw [hm] at DK
    have e4 : IntKind.i64.wrap (4 * (m : Int)) = 4 * (m : Int) := IntWalk.i64_in _ (by omega)
    have e5 : IntKind.i64.wrap (4 * (m : Int) + 4) = 4 * (m : Int) + 4 := IntWalk.i64_in _ (by omega)
    have hmI : (m : Int) ≤ 10 := by omega
    clear hall hsz hm
    go_enter Tryz.func3, Tryz.ntmps3
    go_wp2_with fail
    rw [← hnn]
    clear hnn hk
    refine LC.out.mono ?_; rintro e u1 ⟨rfl, g1⟩
    have G1 := Lib.hid g1
    clear g1 LC
    go_wp2_with fail
    refine (DK.out _ G1.out).mono ?_; rintro e u2 ⟨p, v, s, B, rfl, hD, hst, nx⟩
    have hvs : ∃ a c, v = .slice a m c := by
      obtain ⟨_, hr, _⟩ := part_at 1 rfl hst
      obtain ⟨a, c, e, _⟩ := rowE_shape hr
      rw [nmsX_len, HM.out] at e
      exact ⟨a, c, e⟩
    obtain ⟨va, vc, rfl⟩ := hvs
    have HD := Lib.hid hD
    have HST := Lib.hid hst
    have NX := Lib.hid ((show Nx (fun _ => False) w (fun _ => False) u1 from Nx.gr G1.out).trans nx)
    clear hD hst nx DK
    go_wp2_with fail
    refine (BN.out _).mono ?_; rintro e u3 ⟨rfl, hb, g3⟩
    have DB := Lib.hid (dm_made HST.out NX.out hb (fun x hx => by omega) g3)
    clear hb g3 BN
    obtain ⟨P, hP⟩ : ∃ P, u2.heap.size = P := ⟨_, rfl⟩
    rw [hP] at DB ⊢
    clear hP
    have FR : Frs [RowA (.slice va m vc) (nmsX X.length)] := ⟨fr_row _ _, trivial⟩
    have MG := Lib.hid (DB.out.merge (fun B k => merge17_c (F := filesX nn X) (out := nmY) (v := .slice va m vc) HKN.out uq (filesX_ok HM10.out HALL.out HD.out) (by rw [filesX_len]; have := HM10.out; omega) (filesX_sum HM10.out HALL.out HD.out) nmY_size nmY_right (HD.out.none _ fun i hi e => (name_x (by have := HM10.out; omega)).2.2 e.symm) (by have := HD.out.calls; have := HM10.out; omega) FR (fun wr B' k => by
      rw [filesX_fst]
      obtain ⟨_, hr, _⟩ := part_at 0 rfl k
      exact row_lies hr) k))
    unfold nmY at MG
    clear FR
    go_wp2_with fail
    refine MG.out.mono ?_; rintro e u4 ⟨s', b', k, c, er, rfl, hR, db⟩
    have FR1 : Frs [RowA (.slice va m vc) (nmsX X.length)] := ⟨fr_row _ _, trivial⟩
    have hnow : b'.now = 0 := hR.now
    have hbm : b'.m = 4 * (m : Int) + 4 := hR.bm
    have hhigh : b'.high ≤ 4 * (m : Int) + 4 := by have h1 := db.bud.1.h1; omega
    have BTH := Lib.hid (mj_both HSZ.out HM10.out HALL.out HD.out (by rw [HM.out]; exact Int.le_refl _) hR)
    have D5 := Lib.hid (fun (u : World) (h : u = u4.alloc (.cells #[.int .i64 k, .int .u32 c] 33)) => db.blk_new FR1 _ _ h)
    obtain ⟨I, hI⟩ : ∃ I, u4.heap.size = I := ⟨_, rfl⟩
    rw [hI] at D5
    have HI := Lib.hid hI
    have FR2 : Frs [Blk I #[.int .i64 k, .int .u32 c] 33, RowA (.slice va m vc) (nmsX X.length)] := ⟨fr_blk _ _ _, fr_row _ _, trivial⟩
    have NW := Lib.hid (fun u (h : DM p P s' b' [Blk I #[.int .i64 k, .int .u32 c] 33, RowA (.slice va m vc) (nmsX X.length)] w u) => bnow_c P b' u h.bud)
    have HH := Lib.hid (fun u (h : DM p P s' b' [Blk I #[.int .i64 k, .int .u32 c] 33, RowA (.slice va m vc) (nmsX X.length)] w u) => bhigh_c P b' u h.bud)
    rw [hnow] at NW
    have th : decide (4 * (m : Int) + 4 < b'.high) = false := by simp; omega
    generalize b'.high = hg at HH hhigh th
    clear hR db hnow hbm FR1 MG hI hhigh
    have hIz : u4.heap.size = I := HI.out
    have RI := Lib.hid (fun u (g : Gr w u) => rrise17_c (HSS.out u g) (by have := HM10.out; omega) (fun l h => by have := (HALL.out l h).1; omega))
    rw [HM.out] at RI
    go_wp2_with fail
    have D := Lib.hid (D5.out _ rfl)
    obtain ⟨u5, hu5⟩ : ∃ u5, u4.alloc (.cells #[.int .i64 k, .int .u32 c] 33) = u5 := ⟨_, rfl⟩
    rw [hu5] at D ⊢
    clear hu5 D5 hIz
    refine (NW.out _ D.out).mono ?_; rintro e u6 ⟨rfl, rfl⟩
    go_wp2_with fail
    refine (HH.out _ D.out).mono ?_; rintro e u6 ⟨rfl, rfl⟩
    go_wp2_with fail
    clear NW HH th
    have FRH := Lib.hid FR2
    clear FR2
    rcases BTH.out with ⟨hrs, hok⟩ | ⟨hrs, rfl, rfl, rfl⟩
    · rw [hrs] at RI
      have he := hok.er
      subst he
      have OK := Lib.hid hok
      clear hrs hok BTH
      refine (RI.out _ D.out.end).mono ?_; rintro e u7 ⟨rfl, g7⟩
      have D7 := Lib.hid (DM.gr FRH.out D.out g7)
      clear g7 D RI
      have RM := Lib.hid (rmerged17_c (HSS.out u7 D7.out.end) (by have := HM10.out; omega) (fun l h => (HALL.out l h).1) uq)
      rw [HM.out] at RM
      obtain ⟨L9, hL9⟩ : ∃ L9, sortT X.flatten uq = L9 := ⟨_, rfl⟩
      rw [hL9] at RM
      have HL9 := Lib.hid hL9
      clear hL9
      go_wp2_with fail
      refine RM.out.mono ?_; rintro e u8 ⟨⟨v8, rfl, ho8⟩, g8⟩
      obtain ⟨sa, sc, rfl⟩ := own_shape16 ho8
      have D8 := Lib.hid (DM.row_new FRH.out D7.out g8 ho8)
      have FR3 := Lib.hid (show Frs [RowA (.slice sa L9.length sc) L9, Blk I #[.int .i64 k, .int .u32 c] 33, RowA (.slice va m vc) (nmsX X.length)] from ⟨fr_row _ _, FRH.out⟩)
      clear ho8 g8 D7 RM FRH
      have hlen := OK.out.len
      have LS := Lib.hid ((DM.list FR3.out D8.out OK.out.calm.1 OK.out.calm.2 (by have := OK.out.calls; omega)).mono (fun e w' h => by
        obtain ⟨a, cc, he, hd⟩ := h
        exact (⟨a, cc, by rw [he, hlen, HM.out], hd⟩ : ∃ a cc, e = .returned (.tuple #[.slice a (m + 1) cc, .int .i64 0]) ∧ DM p P s'.call b' [RowA (.slice sa L9.length sc) L9, Blk I #[.int .i64 k, .int .u32 c] 33, RowA (.slice va m vc) (nmsX X.length)] w w')))
      obtain ⟨ln, hln⟩ : ∃ ln, L9.length = ln := ⟨_, rfl⟩
      obtain ⟨C9, hC9⟩ : ∃ C9, layR nn L9 = C9 := ⟨_, rfl⟩
      have HC9 := Lib.hid hC9
      have hk9 : k = (L9.length : Nat) := by rw [OK.out.k, HL9.out]
      have hc9 : c = (sumN L9 : Nat) := by rw [OK.out.c, HL9.out]
      have hfew := OK.out.few
      have hsz9 := OK.out.size
      have hhas := OK.out.has
      rw [HL9.out] at hfew hsz9 hhas
      rw [hC9] at hsz9 hhas
      have SM := Lib.hid (fun u (h : DM p P s'.call b' [RowA (.slice sa L9.length sc) L9, Blk I #[.int .i64 k, .int .u32 c] 33, RowA (.slice va m vc) (nmsX X.length)] w u) => (rsum_c (h.row 0 rfl) (by omega) (fun s hs => by have := hfew.2.1 s hs; omega)).mono (fun e u' (q : SumGot L9 u e u') => (⟨by rw [q.1, hk9, hc9], q.2⟩ : e = .returned (.agg #[.int .i64 k, .int .u32 c]) ∧ Gr u u')))
      have q1 : Quiet s' s'.call := quiet_call s'
      have q3 : Quiet s' s'.call.call.call := (q1.trans (quiet_call _)).trans (quiet_call _)
      have W1 := Lib.hid (fun u (h : DM p P s'.call b' [RowA (.slice sa L9.length sc) L9, Blk I #[.int .i64 k, .int .u32 c] 33, RowA (.slice va m vc) (nmsX X.length)] w u) => h.disk FR3.out (fun B hB => whole17_c (hhas.quiet q1) (q1.calm OK.out.calm.1 OK.out.calm.2).1 (q1.calm OK.out.calm.1 OK.out.calm.2).2 (by have := OK.out.calls; show s'.calls + 1 ≤ _; omega) nmY_size nmY_right (by omega) u B hB))
      have MU := Lib.hid (fun u (h : DM p P s'.call.call.call b' [RowA (.slice sa L9.length sc) L9, Blk I #[.int .i64 k, .int .u32 c] 33, RowA (.slice va m vc) (nmsX X.length)] w u) => must6_c (h.row 0 rfl) nn HKN.out (by omega) (fun s hs => by have := hfew.2.1 s hs; omega))
      rw [hC9] at MU
      obtain ⟨c1, c2, c3, c4, c5, c6⟩ := mj_clear HM10.out OK.out q3 (ok_call (ok_call (ok_call OK.out.ok)))
      have CL := Lib.hid (fun u (h : DM p P s'.call.call.call b' [RowA (.slice sa L9.length sc) L9, Blk I #[.int .i64 k, .int .u32 c] 33, RowA (.slice va m vc) (nmsX X.length)] w u) => h.clear (fun B hB => clear17_c (l := nmsX X.length) (v := .slice va m vc) (by rw [nmsX_len]; have := HM10.out; omega) (fun n hn => by
        unfold nmsX at hn
        obtain ⟨i, hi, rfl⟩ := List.mem_map.1 hn
        rw [List.mem_range] at hi
        obtain ⟨n1, n2, _⟩ := name_x (i := i) (by have := HM10.out; omega)
        exact ⟨n1, n2⟩) (by have := OK.out.calls; show s'.calls + 1 + 1 + 1 ≤ _; omega) ⟨fr_bu _ _, FR3.out⟩ (fun wr B' j => by
        obtain ⟨_, hr, _⟩ := part_at (L := BuA P b' :: [RowA (.slice sa L9.length sc) L9, Blk I #[.int .i64 k, .int .u32 c] 33, RowA (.slice va m vc) (nmsX X.length)]) 3 rfl j
        exact row_lies hr) hB))
      rw [c1] at CL
      have c6' : (clearR s'.call.call.call ((nmsX X.length).map fun n => n.data.toList)).1.calls ≤ 3000000 := by have := OK.out.calls; have e : s'.call.call.call.calls = s'.calls + 1 + 1 + 1 := rfl; omega
      rw [HL9.out, hC9] at c3 c4
      obtain ⟨s4, hs4⟩ : ∃ s4, (clearR s'.call.call.call ((nmsX X.length).map fun n => n.data.toList)).1 = s4 := ⟨_, rfl⟩
      rw [hs4] at CL c2 c3 c4 c6'
      have US := Lib.hid (fun u (h : DM p P s4 b' [RowA (.slice sa L9.length sc) L9, Blk I #[.int .i64 k, .int .u32 c] 33, RowA (.slice va m vc) (nmsX X.length)] w u) => h.used)
      rw [c4] at US
      have W2 := Lib.hid (fun u (h : DM p P s4 b' [RowA (.slice sa L9.length sc) L9, Blk I #[.int .i64 k, .int .u32 c] 33, RowA (.slice va m vc) (nmsX X.length)] w u) => h.disk FR3.out (fun B hB => whole17_c c3 c2.1 c2.2 (by omega) nmY_size nmY_right (by omega) u B hB))
      have XC := Lib.hid (fun (s : St) u (h : DM p P s b' [RowA (.slice sa L9.length sc) L9, Blk I #[.int .i64 k, .int .u32 c] 33, RowA (.slice va m vc) (nmsX X.length)] w u) => (⟨h.blk 1 rfl 0, h.blk 1 rfl 1⟩ : u.cell? ⟨I, 0, none⟩ = some (.int .i64 k) ∧ u.cell? ⟨I, 1, none⟩ = some (.int .u32 c)))
      have IE := info_eq k c
      have e6 : IntKind.i64.wrap ((m : Int) + 1) = (m : Int) + 1 := IntWalk.i64_in _ (by omega)
      have AW2 := Lib.hid (fun u => awake17_c u)
      unfold nmY at W1 W2
      clear hC9 hk9 hc9 hfew hsz9 hhas q1 q3 c1 c2 c3 c4 c5 c6 c6' hs4 hln hlen
      go_wp2_with fail
      refine LS.out.mono ?_; rintro e u9 ⟨la, lc, rfl, d9⟩
      have D9 := Lib.hid (DM.gr FR3.out d9 (Gr.ofDrew (Gr.refl _) : Gr u9 u9.drew))
      obtain ⟨x0, x1⟩ := XC.out _ _ d9
      obtain ⟨y0, y1⟩ := XC.out _ _ D9.out
      clear d9 LS D8
      go_wp2_with fail
      go_region_held3 (fun u => u.cell? ⟨I, 0, none⟩ = some (.int .i64 k) ∧ u.cell? ⟨I, 1, none⟩ = some (.int .u32 c)) (first | assumption | exact ⟨by assumption, by assumption⟩ | go_keep)
        (first
          | (go_at_call 14; (with_reducible refine (SM.out _ D9.out).mono ?_); rintro e t1 ⟨rfl, g10⟩; have D10 := Lib.hid (DM.gr FR3.out D9.out g10); have k10 := XC.out _ _ D10.out)
          | (go_at_call 15; (with_reducible refine (W1.out _ D10.out).mono ?_); rintro e t2 ⟨rfl, d11⟩; have D11 := Lib.hid d11; have k11 := XC.out _ _ d11)
          | (go_at_call 16; (with_reducible refine (MU.out _ D11.out).mono ?_); rintro e t3 ⟨rfl, g12⟩; have D12 := Lib.hid (DM.gr FR3.out D11.out g12); have k12 := XC.out _ _ D12.out)
          | (go_at_call 17; (with_reducible refine (CL.out _ D12.out).mono ?_); rintro e t4 ⟨rfl, d13⟩; have D13 := Lib.hid d13; have k13 := XC.out _ _ d13)
          | (go_at_call 18; (with_reducible refine (US.out _ D13.out).mono ?_); rintro e t5 ⟨rfl, g14⟩; have D14 := Lib.hid (DM.gr FR3.out D13.out g14); have k14 := XC.out _ _ D14.out)
          | (go_at_call 15; (with_reducible refine (W2.out _ D14.out).mono ?_); rintro e t6 ⟨rfl, d15⟩; have D15 := Lib.hid d15; have k15 := XC.out _ _ d15)
          | (go_at_call 5; (with_reducible refine (AW2.out _).mono ?_); rintro e t7 ⟨rfl, g16⟩; have D16 := Lib.hid (DM.gr FR3.out D15.out g16); have k16 := XC.out _ _ D16.out))
      all_goals
        go_wp2_with fail
        go_ret
        exact ⟨rfl, D16.out.end⟩
    · rw [hrs] at RI
      have FR2 := FRH.out
      have XC := Lib.hid (fun u (h : DM p P s' b' [Blk I #[.int .i64 0, .int .u32 0] 33, RowA (.slice va m vc) (nmsX X.length)] w u) => (⟨h.blk 0 rfl 0, h.blk 0 rfl 1⟩ : u.cell? ⟨I, 0, none⟩ = some (.int .i64 0) ∧ u.cell? ⟨I, 1, none⟩ = some (.int .u32 0)))
      have IE := info_eq 0 0
      clear hrs BTH
      refine (RI.out _ D.out.end).mono ?_; rintro e u7 ⟨rfl, g7⟩
      have D7 := Lib.hid (DM.gr FR2 D.out g7)
      obtain ⟨x0, x1⟩ := XC.out _ D7.out
      clear g7 D RI FR2
      go_wp2_with fail
      refine (AW.out _ D7.out.end).mono ?_; rintro e v9 ⟨rfl, g⟩
      go_wp2_with fail
      go_ret
      exact ⟨rfl, g⟩

set_option maxRecDepth 100000 in
theorem lifted (os : Os) (started : os.Started) (H : Type) (enc : TypeId × Value → H) :
    ReturnsInHanded {} Tryz.checked os 3 .any (Rows.mergeJoinsSpec.pre6 enc Tryz.prog Tryz.f3 Rows.mergeJoinsRow.domain false) (Rows.mergeJoinsSpec.post enc Tryz.prog Tryz.f3 false true false false) := by
  refine returnsInHanded_of_change (C := Tryz.checked) own started (by kernel_rfl) Tryz.func3
    (ChangeSpec.witness6 (enc := enc) (C := Tryz.checked) false ⟨#[], #[.int .u8 0, .slice none 0 0, .bool false], []⟩ 8 (by kernel_rfl) (by kernel_rfl) (by kernel_rfl) (by kernel_rfl)) ?_
  intro W base args ds gs before hval0 hW hcnd _
  have hval : ∀ (j : Nat) t v, Tryz.f3.params[j]? = some t → args[j]? = some v → Value.okWide Tryz.prog W .any base t v := hval0
  have hW' := hW
  obtain ⟨p, q, hA0, hV, rfl, hfz, hnd⟩ := hW
  have hA : DataW.TrodAll enc Tryz.prog W 0 (fun _ => true) true Tryz.f3.params.toList args.toList ds p := hA0
  rw [Tryz.params3] at hA hval
  obtain ⟨v0, vs0, d0, ds0, p0, q0, hargs, rfl, rfl, h0, r0⟩ := trodAll_cons hA
  obtain ⟨v1, vs1, d1, ds1, p1, q1, rfl, rfl, rfl, h1, r1⟩ := trodAll_cons r0
  obtain ⟨v2, vs2, d2, ds2, p2, q2, rfl, rfl, rfl, h2, r2⟩ := trodAll_cons r1
  obtain ⟨rfl, rfl, rfl⟩ := trodAll_nil r2
  obtain rfl : args = #[v0, v1, v2] := by cases args; simp_all
  obtain ⟨rfl, rfl⟩ := trodVars_none hV
  have k0 := h0
  have lt0 : ∀ x ∈ p0, x.block < W.heap.size := by obtain ⟨m, hm⟩ := k0; exact DataW.trod_lt m _ _ _ hm
  obtain ⟨n0, e0⟩ := okWide_int Tryz.underlying5 (hval 0 5 v0 rfl rfl)
  have w0 : Rd Tryz.prog W 5 v0 := by
    obtain ⟨fuel, hf⟩ := h0
    subst e0
    exact ⟨H, enc, fuel, _, by simpa [Value.cells] using hf⟩
  have k1 := h1
  have lt1 : ∀ x ∈ p1, x.block < W.heap.size := by obtain ⟨m, hm⟩ := k1; exact DataW.trod_lt m _ _ _ hm
  obtain ⟨a1, l1, c1, e1⟩ := okWide_slice Tryz.underlying22 (hval 1 22 v1 rfl rfl)
  have w1 : Rd Tryz.prog W 22 v1 := by
    obtain ⟨fuel, hf⟩ := h1
    subst e1
    exact ⟨H, enc, fuel, _, by simpa [Value.cells] using hf⟩
  have k2 := h2
  have lt2 : ∀ x ∈ p2, x.block < W.heap.size := by obtain ⟨m, hm⟩ := k2; exact DataW.trod_lt m _ _ _ hm
  obtain ⟨n2, e2⟩ := okWide_bool Tryz.underlying4 (hval 2 4 v2 rfl rfl)
  have w2 : Rd Tryz.prog W 4 v2 := by
    obtain ⟨fuel, hf⟩ := h2
    subst e2
    exact ⟨H, enc, fuel, _, by simpa [Value.cells] using hf⟩
  clear hA0 hval0
  refine (walk v0 v1 v2 W w0 w1 w2).mono fun e W' ⟨he, bel⟩ => ?_
  subst he
  exact ⟨_, rfl, _, _, _, [], _, [], hW', trodAll_mk1 (shut_bool Tryz.underlying4 _), (trodAll_cons_mk (Below.trod laidOut (by kernel_rfl) (of_decide_eq_true (by kernel_rfl)) k0 bel lt0) (trodAll_cons_mk (Below.trod laidOut (by kernel_rfl) (of_decide_eq_true (by kernel_rfl)) k1 bel lt1) (trodAll_cons_mk (Below.trod laidOut (by kernel_rfl) (of_decide_eq_true (by kernel_rfl)) k2 bel lt2) trodAll_mk0))), rfl, bel.frame _, fun h => by cases h⟩

theorem over : Rows.mergeJoinsRow.holds Tryz.pinned (OpenSpec.ofChange Rows.mergeJoinsSpec) :=
  OpenClaim.holds_of_wide 3 Tryz.f3 rfl rfl rfl rfl rfl rfl rfl ⟨rfl, rfl, rfl, rfl, rfl⟩ rfl rfl rfl rfl rfl (by kernel_rfl) Tryz.func3 (by kernel_rfl)
    (of_decide_eq_true (by kernel_rfl)) (by unfold Func.isWrapper; first | (rw [if_pos (by decide +kernel)]; kernel_rfl) | (rw [if_neg (by decide +kernel)]; exact ⟨rfl, rfl⟩))
    (fun os started H enc _ => lifted os started H enc)

theorem proved : Rows.MergeJoinsSaid := over
#print axioms proved
end Go.Proofs.YtpmglnghnelenaaGreat.mergeJoins

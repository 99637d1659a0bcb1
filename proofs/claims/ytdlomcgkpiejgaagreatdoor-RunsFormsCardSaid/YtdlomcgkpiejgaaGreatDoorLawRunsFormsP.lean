/- Rows.RunsFormsSaid holds: for every input the law returns true and leaves its arguments as they were. Conditions: none beside the row's own. -/
import Derived.Test.YtdlomcgkpiejgaaGreatDoorRows
import Derived.WalkKit
import Derived.ProofKit
import Derived.OpenShut
import Derived.ShutString
import Derived.ChangeOld
import Derived.Below
import Derived.Test.YtdlomcgkpiejgaaGreatDoorP00
import Derived.Test.YtdlomcgkpiejgaaGreatDoorP47
import Derived.Test.YtdlomcgkpiejgaaGreatDoorP45
import Derived.Test.YtdlomcgkpiejgaaGreatDoorP26
import Derived.Test.YtdlomcgkpiejgaaGreatDoorTie
import Derived.Test.YtdlomcgkpiejgaaGreatDoorCards
import Derived.LaidMore
import Derived.SevenTiedAt
import Derived.Stop.Joined
namespace Go.Proofs.YtdlomcgkpiejgaaGreatDoor.runsForms
open Go.ChangeShapes Go.WideShapes Go.ChangeAt Go.RowKit
open Go.ChangeMaps (open_string shut_string)
open FsPlain RdPlain RecPlain RnPlain WrPlain
set_option linter.unusedVariables false
set_option linter.unusedSimpArgs false

theorem own : ownKnob Tryz.prog.godebug = none := by kernel_rfl
theorem laidOut : laidOutB Tryz.prog = true := by kernel_rfl


set_option maxRecDepth 100000 in
set_option maxHeartbeats 8000000 in
theorem walk (v0 v1 v2 v3 : Value) (w : World) (w0 : Rd Tryz.prog w 5 v0) (w1 : Rd Tryz.prog w 22 v1) (w2 : Rd Tryz.prog w 5 v2) (w3 : Rd Tryz.prog w 4 v3) (wL : laidMetH Tryz.prog Rows.runsFormsRow.laid w) :
    Calls Tryz.prog 3 #[v0, v1, v2, v3] w fun e w' => e = .returned (.bool true) ∧ Gr w w' := by
  obtain ⟨z0, rfl, hw0⟩ := rd_int Tryz.underlying5 w0
  obtain ⟨l, hl, hlm, hls⟩ := lies_in Tryz.underlying22 w1
  obtain ⟨z2, rfl, hw2⟩ := rd_int Tryz.underlying5 w2
  obtain ⟨uq, rfl⟩ := rd_bool Tryz.underlying4 w3
  have hk : 0 ≤ z0 ∧ z0 ≤ 255 := by
    have h := hw0
    simp only [Lit.wf, Bool.and_eq_true, decide_eq_true_eq] at h
    exact h
  have hk2 : 0 ≤ z2 ∧ z2 ≤ 255 := by
    have h := hw2
    simp only [Lit.wf, Bool.and_eq_true, decide_eq_true_eq] at h
    exact h
  clear w0 w1 w2 w3 hw0 hw2 hls
  unfold maxLen at hlm
  have TW := Lib.hid (show Tab w from tab_of wL rfl (by kernel_rfl) (by kernel_rfl))
  clear wL
  have AW := Lib.hid (fun u (g : Gr w u) => (awake16_c u (TW.out.gr g)).mono (fun e v h => (⟨h.1, g.trans h.2⟩ : e = .returned (.bool true) ∧ Gr w v)))
  have F := few6_c hl 40 (by omega) (by omega)
  have HL := Lib.hid (fun u (g : Gr w u) => hl.gr g)
  obtain ⟨la, lc, rfl, hlc, hrow⟩ := hl
  have HF := Lib.hid F
  obtain ⟨nn, hnn⟩ : ∃ nn : Int, nn = 1 + z0 % 64 := ⟨_, rfl⟩
  have hn1 : 1 ≤ nn := by omega
  have hn2 : nn ≤ 64 := by omega
  obtain ⟨mn, hmn⟩ : ∃ mn : Nat, (mn : Int) = 1 + z2 % 50 := ⟨(1 + z2 % 50).toNat, by omega⟩
  have hm1 : 1 ≤ mn := by omega
  have hm2 : mn ≤ 50 := by omega
  clear hrow F
  cases hf : few6 l 40
  · have F := HF.out
    rw [hf] at F
    go_enter Tryz.func3, Tryz.ntmps3
    go_wp2_with fail
    refine F.mono ?_; rintro e u ⟨rfl, rfl⟩
    go_wp2_with fail
    refine (AW.out _ (Gr.refl _)).mono ?_; rintro e v ⟨rfl, g⟩
    go_wp2_with fail
    go_ret
    exact ⟨rfl, g⟩
  · have F := HF.out
    rw [hf] at F
    obtain ⟨hl40, hl80⟩ := few6_yes hf
    have HL80 := Lib.hid hl80
    clear hf HF hl80
    have HKN := Lib.hid (show I64 nn by unfold I64; omega)
    have CL := Lib.hid (fun u (g : Gr w u) => rlay_c (HL.out u g) nn HKN.out (by omega) (fun s hs => by have := HL80.out s hs; omega))
    have hSZ := fun (r : List ByteArray) (h : layB nn r = true) (h40 : r.length ≤ 40) => (show (layR nn r).size ≤ 3000 by
      have h1 := lay_size h
      have h3 : (r.length : Int) * nn ≤ 40 * nn := Int.mul_le_mul_of_nonneg_right (by omega) (by omega)
      omega)
    have HSZ := Lib.hid hSZ
    obtain ⟨n, hn⟩ : ∃ n, l.length = n := ⟨_, rfl⟩
    have HN := Lib.hid hn
    have HL40 := Lib.hid hl40
    obtain ⟨lb, hlb⟩ : ∃ lb, lb = layB nn l := ⟨_, rfl⟩
    obtain ⟨LR, hLR⟩ : ∃ LR, LR = layR nn l := ⟨_, rfl⟩
    rw [← hLR, ← hlb] at CL
    have HLB := Lib.hid hlb
    have HLR := Lib.hid hLR
    rw [hn] at hlm hlc hl40 F
    simp only [hn]
    clear hn hSZ hlb hLR
    cases lb
    · go_enter Tryz.func3, Tryz.ntmps3
      go_wp2_with fail
      rw [← hnn, ← hmn]
      clear hnn hmn hk hk2
      refine F.mono ?_; rintro e u ⟨rfl, rfl⟩
      clear F
      go_wp2_with fail
      have C := CL.out w (Gr.refl _)
      rw [HN.out] at C
      refine C.mono ?_; rintro e u1 ⟨rfl, g1⟩
      go_wp2_with fail
      refine (AW.out _ g1).mono ?_; rintro e v ⟨rfl, g⟩
      go_wp2_with fail
      go_ret
      exact ⟨rfl, g⟩
    · have hLB : layB nn l = true := HLB.out.symm
      have hFile : IsFile nn LR l := by rw [HLR.out]; exact lay_file hLB
      have hz : LR.size ≤ 3000 := by rw [HLR.out]; exact HSZ.out l hLB HL40.out
      have DK := Lib.hid (fun (u : World) => disk16_c (r := 1048576) (S := LR) (by decide) (by omega) u)
      have BN := Lib.hid (fun (u : World) => bu_new ((mn : Int) + 8) u (by omega) (by omega))
      have hst : HasD (stA 1048576 LR) nmA.data.toList LR := (st_stands 1048576 LR).get
      have hnm : Names16 (stA 1048576 LR) nmA nmB := by
        intro i hi
        obtain ⟨h1, h2, h3⟩ := name_b hi
        refine ⟨h1, h2, h3, ?_⟩
        rw [name_data]; rfl
      have FM := Lib.hid (fun D P (u : World) (B : Nat → Prop) (tb : TabB u B) (h : stars [DiskA D (stA 1048576 LR), BuA P ⟨(mn : Int) + 8, 0, 0⟩] u B) => form16_c (size := nn) (m := (mn : Int)) (out := nmB) HKN.out (by unfold I64; omega) uq hst hz nmA_size nmA_right (by decide) hnm (by show (2 : Int) ≤ _; decide) tb h)
      have RR := Lib.hid (fun u (g : Gr w u) => rruns_c (HL.out u g) (by have := HL40.out; omega) mn ⟨hm1, by omega⟩ uq)
      obtain ⟨T, hT⟩ : ∃ T, runsT mn uq l.length l = T := ⟨_, rfl⟩
      have HT := Lib.hid hT
      rw [hT, HN.out] at RR
      -- what Form leaves
      have EX := Lib.hid (fun s' b' k er (h : FormR (stA 1048576 LR) ⟨(mn : Int) + 8, 0, 0⟩ LR nmA nmB nn (mn : Int) uq s' b' k er) => (show er = 0 ∧ k = (T.length : Nat) ∧ s'.down = false ∧ s'.ahead = -1 ∧ s'.calls ≤ 2000000 ∧ s'.fs.length = T.length + 1 ∧ b'.now = 0 ∧ b'.m = (mn : Int) + 8 ∧ ∀ (i : Nat) (r : List ByteArray), T[i]? = some r → HasD s' (nameN nmB (i : Int)).data.toList (layR nn r) by
        have hu : used (stA 1048576 LR).fs = LR.size := by
          show LR.data.toList.length + 0 = _
          rw [Array.length_toList]; rfl
        obtain ⟨c1, c2, c3⟩ := h.calm l hFile (by omega) (by show (mn : Int) + 8 ≤ (mn : Int) + 8 - 0; omega) rfl rfl (by have := HL40.out; omega) (show (1 : Nat) ≤ 50 by omega) (by rw [hu]; show (LR.size : Int) + 100 * (l.length : Int) ≤ 1048576; have := HL40.out; omega)
        obtain ⟨L2, hL2, hr⟩ := h.yes c1
        obtain rfl := file_one hL2 hFile
        have hk := hr.k
        have hfi := hr.file
        have hln := hr.len
        rw [Int.toNat_natCast, hT] at hk hfi hln
        have hc := h.calls
        have hcl : (stA 1048576 LR).calls = 2 := rfl
        have hfl : (stA 1048576 LR).fs.length = 1 := rfl
        refine ⟨c1, hk, c2, c3, by omega, by omega, h.now, h.bm, fun i r hir => ?_⟩
        have := hfi i r hir
        rwa [← layR_yes (runs_lay hLB (by rw [hT]; exact List.mem_of_getElem? hir))] at this))
      have hTl : T.length ≤ 40 := by rw [← hT]; exact Nat.le_trans (runs_few _ _ _ _) HL40.out
      have HTL := Lib.hid hTl
      obtain ⟨tn, htn⟩ : ∃ tn, T.length = tn := ⟨_, rfl⟩
      have HTN := Lib.hid htn
      have EL := Lib.hid (fun (i : Nat) r (h : T[i]? = some r) => (show layB nn r = true ∧ r.length ≤ 40 ∧ (layR nn r).size ≤ 3000 ∧ ∀ s ∈ r, s.size ≤ 1000 by
        have hmem : r ∈ runsT mn uq l.length l := by rw [hT]; exact List.mem_of_getElem? h
        have h1 := runs_lay hLB hmem
        have h2 := runs_mem mn uq l.length l r hmem
        have h3 : r.length ≤ 40 := Nat.le_trans h2.2 HL40.out
        exact ⟨h1, h3, HSZ.out r h1 h3, fun s hs => by have := HL80.out s (h2.1 s hs); omega⟩))
      rw [htn] at hTl
      unfold nmA nmB at FM
      clear hst hnm hFile hT hLB htn
      go_enter Tryz.func3, Tryz.ntmps3
      go_wp2_with fail
      rw [← hnn, ← hmn]
      clear hnn hmn hk hk2
      refine F.mono ?_; rintro e u ⟨rfl, rfl⟩
      clear F
      go_wp2_with fail
      have C := CL.out w (Gr.refl _)
      rw [HN.out] at C
      refine C.mono ?_; rintro e u1 ⟨rfl, g1⟩
      have G1 := Lib.hid g1
      clear g1 C
      go_wp2_with fail
      refine (DK.out _).mono ?_; rintro e u2 ⟨p, B, rfl, hd, g2, hnb⟩
      have HD := Lib.hid hd
      have G2 := Lib.hid (G1.out.trans g2)
      have HNB := Lib.hid (fun b hb => Nat.le_trans G1.out.size (hnb b hb))
      clear hd g2 hnb
      go_wp2_with fail
      refine (BN.out _).mono ?_; rintro e u3 ⟨rfl, hb, g3⟩
      have DB := Lib.hid (db_made HD.out HNB.out G2.out hb (fun x hx => by omega) g3)
      clear hb g3
      obtain ⟨P, hP⟩ : ∃ P, u2.heap.size = P := ⟨_, rfl⟩
      rw [hP] at DB ⊢
      clear hP
      go_wp2_with fail
      refine (DB.out.form TW.out (FM.out p P _)).mono ?_; rintro e u4 ⟨s', b', k, er, rfl, hf, db⟩
      have DB4 := Lib.hid db
      obtain ⟨rfl, hkk, hdn, hah, hcl, hfl, hnow, hbm, hfi⟩ := EX.out _ _ _ _ hf
      rw [HTN.out] at hkk hfl
      subst hkk
      have HFI := Lib.hid hfi
      have HDN := Lib.hid hdn
      have HAH := Lib.hid hah
      have HCL := Lib.hid hcl
      have hhigh : b'.high ≤ (mn : Int) + 8 := by have h1 := db.bud.1.h1; omega
      have NW := Lib.hid (fun u (h : BAt u P b') => bnow_c P b' u h)
      have HH := Lib.hid (fun u (h : BAt u P b') => bhigh_c P b' u h)
      rw [hnow] at NW
      have HFL := Lib.hid hfl
      have th : decide ((mn : Int) + 8 < b'.high) = false := by simp; omega
      generalize b'.high = hi at HH hhigh th
      clear hf db hfi hdn hah hcl hfl hnow hbm
      go_wp2_with fail
      have C5 := RR.out u4 DB4.out.end
      refine C5.mono ?_; rintro e u5 ⟨⟨vT, rfl, hown⟩, g5⟩
      have DX5 := Lib.hid (dx_made DB4.out g5)
      obtain ⟨ta, tc, rfl, htc, hcells⟩ := ownSS_at hown
      have LI := Lib.hid (DX5.out.list HDN.out HAH.out (by have := HCL.out; omega))
      rw [HFL.out] at LI
      obtain ⟨lo, hlo⟩ : ∃ lo, u4.heap.size = lo := ⟨_, rfl⟩
      rw [hlo] at LI DX5 hcells
      have HC := Lib.hid hcells
      rw [HTN.out] at htc ⊢
      clear hown hcells g5 hlo
      go_wp2_with fail
      refine LI.out.mono ?_; rintro e u6 ⟨na, nc, rfl, dx⟩
      have DX6 := Lib.hid dx
      have BA := Lib.hid dx.db.bud
      clear dx
      go_wp2_with fail
      refine (NW.out _ BA.out).mono ?_; rintro e u7 ⟨rfl, rfl⟩
      go_wp2_with fail
      refine (HH.out _ BA.out).mono ?_; rintro e u7 ⟨rfl, rfl⟩
      go_wp2_with fail
      go_loopw [21] (fun i wr => ∃ (j : Nat) (s2 : St), j ≤ tn ∧ i = .int .i64 (j : Int) ∧ Dx p P s2 b' w lo u5 wr ∧ Quiet s' s2 ∧ s2.calls ≤ 2000001 + 2 * (j : Int)) (fun i _ => tn - (intOf i).toNat)
      case atStart => exact ⟨0, s'.call, Nat.zero_le _, rfl, DX6.out, quiet_call s', by have := HCL.out; show s'.calls + 1 ≤ _; omega⟩
      case round =>
        obtain ⟨j, s2, hj, rfl, hdx, hq, hc2⟩ := hrel
        have DXR := Lib.hid hdx
        have HQ := Lib.hid hq
        have HC2 := Lib.hid hc2
        clear hdx hq hc2
        by_cases hlt : j < tn
        · have hltI : (j : Int) < (tn : Int) := by omega
          obtain ⟨r, hr⟩ : ∃ r, T[j]? = some r := ⟨T[j]'(by have := HTN.out; omega), List.getElem?_eq_getElem _⟩
          obtain ⟨tb, rfl, htb, htlo, hrows⟩ := HC.out (by have := HTN.out; omega)
          obtain ⟨x, hx, hxl, hxa⟩ := hrows j r hr
          obtain ⟨e1, e2, e3, e4⟩ := EL.out j r hr
          obtain ⟨n1, n2, _⟩ := name_b (i := j) (by omega)
          have N1 := Lib.hid (fun u (g : Gr w u) => name16_c nmB (j : Int) (by omega) (by decide) u (TW.out.gr g))
          have N2 := Lib.hid (fun u => rname16_c nmB (j : Int) (by omega) (by decide) u)
          have hF := HFI.out j r hr
          have hdd := HQ.out.calm HDN.out HAH.out
          have W1 := Lib.hid (fun u B h => whole16_c (p := p) (s := s2) (n := nameN nmB (j : Int)) (C := layR nn r) (hF.quiet HQ.out) hdd.1 hdd.2 (by have := HC2.out; omega) n2 n1 (by omega) u B h)
          have XC := Lib.hid (fun (s3 : St) u (h : Dx p P s3 b' w lo u5 u) => (show u.cell? ⟨tb, j, none⟩ = some x ∧ Lies u x r from ⟨by rw [h.cell htlo htb]; exact hx, h.lies hxl hxa⟩))
          have MU := Lib.hid (fun (s3 : St) u (h : Dx p P s3 b' w lo u5 u) => must6_c (h.lies hxl hxa) nn HKN.out (by omega) e4)
          generalize nameN nmB (j : Int) = nm at N1 N2 W1
          generalize layR nn r = C3 at W1 MU
          unfold nmB at N1 N2
          clear hx hxl hxa hrows hr htb htlo e1 e2 e3 e4 n1 n2 hF hdd
          go_wp2_with fail
          refine (N1.out _ DXR.out.db.end).mono ?_; rintro e u8 ⟨rfl, g8⟩
          have DX8 := Lib.hid (DXR.out.gr g8)
          clear g8
          go_wp2_with fail
          refine (DX8.out.disk (W1.out _)).mono ?_; rintro e u9 ⟨rfl, dx⟩
          have DX9 := Lib.hid dx
          obtain ⟨xc, _⟩ := XC.out _ _ dx
          clear dx
          go_wp2_with fail
          refine (MU.out _ _ DX9.out).mono ?_; rintro e u10 ⟨rfl, g10⟩
          have DX10 := Lib.hid (DX9.out.gr g10)
          clear g10
          go_wp2_with fail
          refine (N1.out _ DX10.out.db.end).mono ?_; rintro e u11 ⟨rfl, g11⟩
          have DX11 := Lib.hid (DX10.out.gr g11)
          clear g11
          go_wp2_with fail
          refine (N2.out _).mono ?_; rintro e u12 ⟨rfl, g12⟩
          have DX12 := Lib.hid (DX11.out.gr g12)
          clear g12
          go_wp2_with fail
          refine ⟨⟨j + 1, s2.call.call, by omega, rfl, DX12.out, (HQ.out.trans (quiet_call _)).trans (quiet_call _), by have := HC2.out; show s2.calls + 1 + 1 ≤ 2000001 + 2 * (((j + 1 : Nat)) : Int); omega⟩, ?_⟩
          simp [intOf]; omega
        · have hltI : ¬ (j : Int) < (tn : Int) := by omega
          go_wp2_with fail
          refine (AW.out _ DXR.out.db.end).mono ?_; rintro e v9 ⟨rfl, g⟩
          go_wp2_with fail
          go_ret
          exact ⟨rfl, g⟩

theorem door_met (os : Os) (args : Array Value) : laidMetH Tryz.prog Rows.runsFormsRow.laid ((World.doorLaid Tryz.prog 24 os).forCall (fun _ _ => 0) ⟨#[], args, []⟩).memory :=
  laidMetH_of_parts3 (fuel := 8) (laidMet_of_run' 8 (by kernel_rfl) (by kernel_rfl)) (by kernel_rfl) (by kernel_rfl)
set_option maxRecDepth 100000 in
theorem lifted (os : Os) (started : os.Started) (H : Type) (enc : TypeId × Value → H) :
    ReturnsInHanded {} Tryz.checked os 3 .any (fun w args => (Rows.runsFormsSpec.pre enc Tryz.prog Tryz.f3 [] false w args ∧ laidMetH Tryz.prog Rows.runsFormsRow.laid w) ∧ sizedMet enc Tryz.prog Tryz.f3 (OpenSpec.ofChange Rows.runsFormsSpec) false w args) (Rows.runsFormsSpec.post enc Tryz.prog Tryz.f3 false true false false) := by
  refine returnsInHanded_of_change_and (C := Tryz.checked) (X := fun w _ => laidMetH Tryz.prog Rows.runsFormsRow.laid w) (fun _ _ _ hh h => h.of_heap hh) own started (by kernel_rfl) Tryz.func3
    (ChangeSpec.witness_shaped (enc := enc) (C := Tryz.checked) (os := os) (X := fun w _ => laidMetH Tryz.prog Rows.runsFormsRow.laid w) false (World.doorLaid Tryz.prog 24 os) #[.int .u8 0, .slice none 0 0, .int .u8 0, .bool false] 8 rfl (World.shaped_of_RefB (by kernel_rfl) (by kernel_rfl)) (by kernel_rfl) (by kernel_rfl) (by kernel_rfl) (door_met os _)) ?_
  intro W base args ds gs before hval0 hW _ _ hL _
  have hval : ∀ (j : Nat) t v, Tryz.f3.params[j]? = some t → args[j]? = some v → Value.okWide Tryz.prog W .any base t v := hval0
  have hW' := hW
  obtain ⟨p, q, hA0, hV, rfl, hfz, hnd⟩ := hW
  have hA : DataW.TrodAll enc Tryz.prog W 0 (fun _ => true) true Tryz.f3.params.toList args.toList ds p := hA0
  rw [Tryz.params3] at hA hval
  obtain ⟨v0, vs0, d0, ds0, p0, q0, hargs, rfl, rfl, h0, r0⟩ := trodAll_cons hA
  obtain ⟨v1, vs1, d1, ds1, p1, q1, rfl, rfl, rfl, h1, r1⟩ := trodAll_cons r0
  obtain ⟨v2, vs2, d2, ds2, p2, q2, rfl, rfl, rfl, h2, r2⟩ := trodAll_cons r1
  obtain ⟨v3, vs3, d3, ds3, p3, q3, rfl, rfl, rfl, h3, r3⟩ := trodAll_cons r2
  obtain ⟨rfl, rfl, rfl⟩ := trodAll_nil r3
  obtain rfl : args = #[v0, v1, v2, v3] := by cases args; simp_all
  obtain ⟨rfl, rfl⟩ := trodVars_none hV
  have k0 := h0
  have lt0 : ∀ x ∈ p0, x.block < W.heap.size := by obtain ⟨m, hm⟩ := k0; exact DataW.trod_lt m _ _ _ hm
  obtain ⟨n0, e0⟩ := okWide_int Tryz.underlying5 (hval 0 5 v0 rfl rfl)
  have w0 : Rd Tryz.prog W 5 v0 := by
    obtain ⟨fuel, hf⟩ := h0
    subst e0
    exact ⟨H, enc, fuel, _, by simpa [Value.cells] using hf⟩
  have k1 := h1
  have lt1 : ∀ x ∈ p1, x.block < W.heap.size := by obtain ⟨m, hm⟩ := k1; exact DataW.trod_lt m _ _ _ hm
  obtain ⟨a1, l1, c1, e1⟩ := okWide_slice Tryz.underlying22 (hval 1 22 v1 rfl rfl)
  have w1 : Rd Tryz.prog W 22 v1 := by
    obtain ⟨fuel, hf⟩ := h1
    subst e1
    exact ⟨H, enc, fuel, _, by simpa [Value.cells] using hf⟩
  have k2 := h2
  have lt2 : ∀ x ∈ p2, x.block < W.heap.size := by obtain ⟨m, hm⟩ := k2; exact DataW.trod_lt m _ _ _ hm
  obtain ⟨n2, e2⟩ := okWide_int Tryz.underlying5 (hval 2 5 v2 rfl rfl)
  have w2 : Rd Tryz.prog W 5 v2 := by
    obtain ⟨fuel, hf⟩ := h2
    subst e2
    exact ⟨H, enc, fuel, _, by simpa [Value.cells] using hf⟩
  have k3 := h3
  have lt3 : ∀ x ∈ p3, x.block < W.heap.size := by obtain ⟨m, hm⟩ := k3; exact DataW.trod_lt m _ _ _ hm
  obtain ⟨n3, e3⟩ := okWide_bool Tryz.underlying4 (hval 3 4 v3 rfl rfl)
  have w3 : Rd Tryz.prog W 4 v3 := by
    obtain ⟨fuel, hf⟩ := h3
    subst e3
    exact ⟨H, enc, fuel, _, by simpa [Value.cells] using hf⟩
  clear hA0 hval0
  refine (walk v0 v1 v2 v3 W w0 w1 w2 w3 hL).mono fun e W' ⟨he, bel⟩ => ?_
  subst he
  exact ⟨_, rfl, _, _, _, [], _, [], hW', trodAll_mk1 (shut_bool Tryz.underlying4 _), (trodAll_cons_mk (Below.trod laidOut (by kernel_rfl) (of_decide_eq_true (by kernel_rfl)) k0 bel lt0) (trodAll_cons_mk (Below.trod laidOut (by kernel_rfl) (of_decide_eq_true (by kernel_rfl)) k1 bel lt1) (trodAll_cons_mk (Below.trod laidOut (by kernel_rfl) (of_decide_eq_true (by kernel_rfl)) k2 bel lt2) (trodAll_cons_mk (Below.trod laidOut (by kernel_rfl) (of_decide_eq_true (by kernel_rfl)) k3 bel lt3) trodAll_mk0)))), rfl, bel.frame _, fun h => by cases h⟩

theorem over : Rows.runsFormsRow.holds Tryz.pinned (OpenSpec.ofChange Rows.runsFormsSpec) :=
  OpenClaim.holds_of_wide 3 Tryz.f3 rfl rfl rfl rfl rfl rfl rfl ⟨rfl, rfl, rfl, rfl, rfl⟩ rfl rfl rfl rfl rfl (by kernel_rfl) Tryz.func3 (by kernel_rfl)
    (of_decide_eq_true (by kernel_rfl)) (by unfold Func.isWrapper; first | (rw [if_pos (by decide +kernel)]; kernel_rfl) | (rw [if_neg (by decide +kernel)]; exact ⟨rfl, rfl⟩))
    (fun os started H enc _ => lifted os started H enc)

theorem proved : Rows.RunsFormsCardSaid :=
  Claim7.holds_tied_plain_at .later [] [.data, .data, .data] true (true, "ce3aa0357e1792e79562c643a08077147cbc1edb575011b4bc61b15678bd6074") false
    over (fun _ h => by cases h) (by kernel_rfl) (fun _ h => by cases h) runsForms_row_tie rfl ⟨rfl, rfl⟩ (by kernel_rfl) rfl
    (fun f fn hf hfn => by
      obtain rfl : f = 3 := Option.some.inj ((show Tryz.prog.funcNamed Rows.runsFormsRow.func = some 3 by kernel_rfl).symm.trans hf) |>.symm
      obtain rfl : fn = Tryz.f3 := (Option.some.inj (Tryz.func3.symm.trans hfn)).symm
      exact ⟨by kernel_rfl, fun j t ht => by
        rw [Tryz.params3] at ht
        have hm : t ∈ [5, 22, 5, 4] := by simpa using Array.mem_of_getElem? ht
        have hall : ([5, 22, 5, 4].all fun u => !Tryz.prog.wantsStandIn u) = true := by kernel_rfl
        exact (show Tryz.prog.wantsStandIn t = false by simpa using List.all_eq_true.1 hall t hm)⟩)
    (by kernel_rfl)
#print axioms proved
end Go.Proofs.YtdlomcgkpiejgaaGreatDoor.runsForms

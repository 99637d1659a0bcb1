/- Rows.ScanSweepsSaid holds: for every input the law returns true and leaves its arguments as they were. Conditions: none beside the row's own. -/
import Derived.Test.YtignfbdgpgidpaaGreatDoorRows
import Derived.WalkKit
import Derived.ProofKit
import Derived.OpenShut
import Derived.ShutString
import Derived.ChangeOld
import Derived.Below
import Derived.Test.YtignfbdgpgidpaaGreatDoorS00
import Derived.Test.YtignfbdgpgidpaaGreatDoorS31
import Derived.Test.YtignfbdgpgidpaaGreatDoorS34
import Derived.Test.YtignfbdgpgidpaaGreatDoorS43
import Derived.Test.YtignfbdgpgidpaaGreatDoorS03
import Derived.Test.YtignfbdgpgidpaaGreatDoorTie
import Derived.Test.YtignfbdgpgidpaaGreatDoorCards
import Derived.LaidMore
import Derived.SevenTiedAt
import Derived.Stop.Joined
namespace Go.Proofs.YtignfbdgpgidpaaGreatDoor.scanSweeps
open Go.ChangeShapes Go.WideShapes Go.ChangeAt Go.RowKit
open Go.ChangeMaps (open_string shut_string)
open FsPlain CrcPlain OctPlain MnPlain CmPlain ScPlain
set_option linter.unusedVariables false
set_option linter.unusedSimpArgs false
theorem own : ownKnob Tryz.prog.godebug = none := by kernel_rfl
theorem laidOut : laidOutB Tryz.prog = true := by kernel_rfl
set_option maxRecDepth 100000 in
set_option maxHeartbeats 8000000 in
theorem walk (v0 v1 v2 : Value) (w : World) (w0 : Rd Tryz.prog w 22 v0) (w1 : Rd Tryz.prog w 23 v1) (w2 : Rd Tryz.prog w 3 v2) (wL : laidMetH Tryz.prog Rows.scanSweepsRow.laid w) :
    Calls Tryz.prog 3 #[v0, v1, v2] w fun e w' => e = .returned (.bool true) ∧ Gr w w' := by
  obtain ⟨l, hl, hlm, hlK⟩ := liesFy_in Tryz.underlying22 w0
  obtain ⟨a, c, rfl, _⟩ := id hl
  obtain ⟨kl, hkl, hklm, hkls⟩ := lies_in Tryz.underlying23 w1
  obtain ⟨ka, kc, rfl, _⟩ := id hkl
  obtain ⟨fu, rfl, hfu⟩ := rd_int Tryz.underlying3 w2
  have hfI := bounds_i64 hfu
  have F := few22_c (n := l.length) w hl hlm
  have AW := Lib.hid (fun u => awake22_c u)
  have HKS := Lib.hid hkls
  clear w0 w1 w2 hlK hfu hkls
  by_cases hok : fewFy l = true ∧ kl.length ≤ 20
  · obtain ⟨hf, h20⟩ := hok
    rw [hf] at F
    have q20 : ¬ (20 : Int) < (kl.length : Int) := by omega
    have HL := Lib.hid (fun u (g : Gr w u) => hl.gr g)
    have HK := Lib.hid (fun u (g : Gr w u) => hkl.gr g)
    have F := Lib.hid F
    have HI := Lib.hid hfI
    have H20 := Lib.hid h20
    have BT := Lib.hid (fun u (g : Gr w u) => both22_c u (hl.gr g) hf)
    obtain ⟨h12, _⟩ := few_fy hf
    have RT := Lib.hid (both_rt l)
    have CL := Lib.hid (show (bothL (fresh 1048576) l).calls ≤ 24 by have := RT.out.2; omega)
    clear hl hkl hlm hklm hf hfI h20 h12
    go_enter Tryz.func3, Tryz.ntmps3
    go_wp2_with fail
    refine F.out.mono ?_; rintro e u1 ⟨rfl, g1⟩
    have G1 := Lib.hid g1
    have BT1 := Lib.hid (BT.out u1 g1)
    clear g1 F BT
    go_wp2_with fail
    refine BT1.out.mono ?_; rintro e u2 ⟨p, d, rfl, d2⟩
    obtain ⟨s0, hs0⟩ : ∃ s, bothL (fresh 1048576) l = s := ⟨_, rfl⟩
    rw [hs0] at d2 RT CL
    have D2 := Lib.hid (show Pl20 p d s0 s0 [] w u2 from by
      obtain ⟨hF, B, k, n⟩ := d2
      exact ⟨hF, B, k, (Nx.gr G1.out).trans n⟩)
    have AR := Lib.hid (tw_arm_p D2.out fu HI.out)
    clear d2 BT1 hs0
    go_wp2_with fail
    refine AR.out.mono ?_; rintro e u3 ⟨rfl, d3⟩
    have AD := Lib.hid (tw_arm_d d3 fu HI.out)
    clear d3 AR D2
    go_wp2_with fail
    refine AD.out.mono ?_; rintro e u4 ⟨rfl, d4⟩
    obtain ⟨s1, hs1⟩ : ∃ s, armed s0 fu = s := ⟨_, rfl⟩
    rw [hs1] at d4
    have R1 := Lib.hid (show RtS s1 ∧ s1.calls ≤ 1000000000 from by rw [← hs1]; exact ⟨RT.out.1, by show s0.calls ≤ _; have := CL.out; omega⟩)
    have SP := Lib.hid (psweep_c (M := [RDiskA d s1]) (kv := .slice ka kl.length kc) (keep := kl) (show Qs _ (DiskA p s1 :: [RDiskA d s1]) w u4 from d4) R1.out.2 (by have := H20.out; omega) HKS.out R1.out.1 (fun P wr q => HK.out wr (Qs.gr q)))
    clear d4 AD hs1
    go_wp2_with fail
    refine SP.out.mono ?_; rintro e u5 ⟨rfl, d5⟩
    obtain ⟨T, hT⟩ : ∃ T, sweepR kl s1 = T := ⟨_, rfl⟩
    have SD := Lib.hid (by
      have h := rsweep_c (M := [DiskA p (sweepR kl s1).1]) (kv := .slice ka kl.length kc) (keep := kl) (Qs.perm d5 (List.Perm.swap _ _ _)) R1.out.2 (by have := H20.out; omega) R1.out.1 (fun P wr q => HK.out wr (Qs.gr q))
      rw [hT] at h
      exact h)
    rw [hT]
    clear d5 SP hT
    go_wp2_with fail
    refine SD.out.mono ?_; rintro e u6 ⟨rfl, d6⟩
    have D6 := Lib.hid (show Pl20 p d T.1 T.1 [] w u6 from Qs.perm d6 (List.Perm.swap _ _ _))
    have UP := Lib.hid (tw_used_p D6.out)
    clear d6 SD
    go_wp2_with fail
    refine UP.out.mono ?_; rintro e u7 ⟨rfl, d7⟩
    have UD := Lib.hid (tw_used_d d7)
    clear d7 UP D6
    go_wp2_with fail
    refine UD.out.mono ?_; rintro e u8 ⟨rfl, d8⟩
    have G8 := Lib.hid d8.gr
    clear d8 UD
    go_wp2_with fail
    refine (AW.out u8).mono ?_; rintro e u9 ⟨rfl, g9⟩
    have G9 := Lib.hid (G8.out.trans g9)
    clear g9
    go_wp2_with fail
    go_ret
    exact ⟨rfl, G9.out⟩
  · obtain ⟨r, hr⟩ : ∃ r, fewFy l = r := ⟨_, rfl⟩
    rw [hr] at F hok
    have F := Lib.hid F
    clear hl hkl hlm hr hklm hfI
    cases r with
    | false =>
      clear hok
      go_enter Tryz.func3, Tryz.ntmps3
      go_wp2_with fail
      refine F.out.mono ?_; rintro e u1 ⟨rfl, g1⟩
      have G1 := Lib.hid g1
      clear g1
      go_wp2_with fail
      refine (AW.out u1).mono ?_; rintro e u ⟨rfl, g⟩
      have G := Lib.hid (G1.out.trans g)
      clear g
      go_wp2_with fail
      go_ret
      exact ⟨rfl, G.out⟩
    | true =>
      have q20 : (20 : Int) < (kl.length : Int) := by
        rcases Nat.lt_or_ge 20 kl.length with h | h
        · omega
        · exact absurd ⟨rfl, h⟩ hok
      clear hok
      go_enter Tryz.func3, Tryz.ntmps3
      go_wp2_with fail
      refine F.out.mono ?_; rintro e u1 ⟨rfl, g1⟩
      have G1 := Lib.hid g1
      clear g1
      go_wp2_with fail
      refine (AW.out u1).mono ?_; rintro e u ⟨rfl, g⟩
      have G := Lib.hid (G1.out.trans g)
      clear g
      go_wp2_with fail
      go_ret
      exact ⟨rfl, G.out⟩
theorem door_met (os : Os) (args : Array Value) : laidMetH Tryz.prog Rows.scanSweepsRow.laid ((World.doorLaid Tryz.prog 24 os).forCall (fun _ _ => 0) ⟨#[], args, []⟩).memory :=
  laidMetH_of_parts3 (fuel := 8) (laidMet_of_run' 8 (by kernel_rfl) (by kernel_rfl)) (by kernel_rfl) (by kernel_rfl)
set_option maxRecDepth 100000 in
theorem lifted (os : Os) (started : os.Started) (H : Type) (enc : TypeId × Value → H) :
    ReturnsInHanded {} Tryz.checked os 3 .any (fun w args => (Rows.scanSweepsSpec.pre enc Tryz.prog Tryz.f3 [] false w args ∧ laidMetH Tryz.prog Rows.scanSweepsRow.laid w) ∧ sizedMet enc Tryz.prog Tryz.f3 (OpenSpec.ofChange Rows.scanSweepsSpec) false w args) (Rows.scanSweepsSpec.post enc Tryz.prog Tryz.f3 false true false false) := by
  refine returnsInHanded_of_change_and (C := Tryz.checked) (X := fun w _ => laidMetH Tryz.prog Rows.scanSweepsRow.laid w) (fun _ _ _ hh h => h.of_heap hh) own started (by kernel_rfl) Tryz.func3
    (ChangeSpec.witness_shaped (enc := enc) (C := Tryz.checked) (os := os) (X := fun w _ => laidMetH Tryz.prog Rows.scanSweepsRow.laid w) false (World.doorLaid Tryz.prog 24 os) #[.slice none 0 0, .slice none 0 0, .int .i64 0] 8 rfl (World.shaped_of_RefB (by kernel_rfl) (by kernel_rfl)) (by kernel_rfl) (by kernel_rfl) (by kernel_rfl) (door_met os _)) ?_
  intro W base args ds gs before hval0 hW _ _ hL _
  have hval : ∀ (j : Nat) t v, Tryz.f3.params[j]? = some t → args[j]? = some v → Value.okWide Tryz.prog W .any base t v := hval0
  have hW' := hW
  obtain ⟨p, q, hA0, hV, rfl, hfz, hnd⟩ := hW
  have hA : DataW.TrodAll enc Tryz.prog W 0 (fun _ => true) true Tryz.f3.params.toList args.toList ds p := hA0
  rw [Tryz.params3] at hA hval
  obtain ⟨v0, vs0, d0, ds0, p0, q0, hargs, rfl, rfl, h0, r0⟩ := trodAll_cons hA
  obtain ⟨v1, vs1, d1, ds1, p1, q1, rfl, rfl, rfl, h1, r1⟩ := trodAll_cons r0
  obtain ⟨v2, vs2, d2, ds2, p2, q2, rfl, rfl, rfl, h2, r2⟩ := trodAll_cons r1
  obtain ⟨rfl, rfl, rfl⟩ := trodAll_nil r2
  obtain rfl : args = #[v0, v1, v2] := by cases args; simp_all
  obtain ⟨rfl, rfl⟩ := trodVars_none hV
  have k0 := h0
  have lt0 : ∀ x ∈ p0, x.block < W.heap.size := by obtain ⟨m, hm⟩ := k0; exact DataW.trod_lt m _ _ _ hm
  obtain ⟨a0, l0, c0, e0⟩ := okWide_slice Tryz.underlying22 (hval 0 22 v0 rfl rfl)
  have w0 : Rd Tryz.prog W 22 v0 := by
    obtain ⟨fuel, hf⟩ := h0
    subst e0
    exact ⟨H, enc, fuel, _, by simpa [Value.cells] using hf⟩
  have k1 := h1
  have lt1 : ∀ x ∈ p1, x.block < W.heap.size := by obtain ⟨m, hm⟩ := k1; exact DataW.trod_lt m _ _ _ hm
  obtain ⟨a1, l1, c1, e1⟩ := okWide_slice Tryz.underlying23 (hval 1 23 v1 rfl rfl)
  have w1 : Rd Tryz.prog W 23 v1 := by
    obtain ⟨fuel, hf⟩ := h1
    subst e1
    exact ⟨H, enc, fuel, _, by simpa [Value.cells] using hf⟩
  have k2 := h2
  have lt2 : ∀ x ∈ p2, x.block < W.heap.size := by obtain ⟨m, hm⟩ := k2; exact DataW.trod_lt m _ _ _ hm
  obtain ⟨n2, e2⟩ := okWide_int Tryz.underlying3 (hval 2 3 v2 rfl rfl)
  have w2 : Rd Tryz.prog W 3 v2 := by
    obtain ⟨fuel, hf⟩ := h2
    subst e2
    exact ⟨H, enc, fuel, _, by simpa [Value.cells] using hf⟩
  clear hA0 hval0
  refine (walk v0 v1 v2 W w0 w1 w2 hL).mono fun e W' ⟨he, bel⟩ => ?_
  subst he
  exact ⟨_, rfl, _, _, _, [], _, [], hW', trodAll_mk1 (shut_bool Tryz.underlying4 _), (trodAll_cons_mk (Below.trod laidOut (by kernel_rfl) (of_decide_eq_true (by kernel_rfl)) k0 bel lt0) (trodAll_cons_mk (Below.trod laidOut (by kernel_rfl) (of_decide_eq_true (by kernel_rfl)) k1 bel lt1) (trodAll_cons_mk (Below.trod laidOut (by kernel_rfl) (of_decide_eq_true (by kernel_rfl)) k2 bel lt2) trodAll_mk0))), rfl, bel.frame _, fun h => by cases h⟩
theorem over : Rows.scanSweepsRow.holds Tryz.pinned (OpenSpec.ofChange Rows.scanSweepsSpec) :=
  OpenClaim.holds_of_wide 3 Tryz.f3 rfl rfl rfl rfl rfl rfl rfl ⟨rfl, rfl, rfl, rfl, rfl⟩ rfl rfl rfl rfl rfl (by kernel_rfl) Tryz.func3 (by kernel_rfl)
    (of_decide_eq_true (by kernel_rfl)) (by unfold Func.isWrapper; first | (rw [if_pos (by decide +kernel)]; kernel_rfl) | (rw [if_neg (by decide +kernel)]; exact ⟨rfl, rfl⟩))
    (fun os started H enc _ => lifted os started H enc)
theorem proved : Rows.ScanSweepsCardSaid :=
  Claim7.holds_tied_plain_at .later [] [.data, .data, .data] true (true, "5cd68afcb9ed6da0acd7bbebbf77a50a3cf06ce5e33d9c2beb645bca1aa7441b") false
    over (fun _ h => by cases h) (by kernel_rfl) (fun _ h => by cases h) scanSweeps_row_tie rfl ⟨rfl, rfl⟩ (by kernel_rfl) rfl
    (fun f fn hf hfn => by
      obtain rfl : f = 3 := Option.some.inj ((show Tryz.prog.funcNamed Rows.scanSweepsRow.func = some 3 by kernel_rfl).symm.trans hf) |>.symm
      obtain rfl : fn = Tryz.f3 := (Option.some.inj (Tryz.func3.symm.trans hfn)).symm
      exact ⟨by kernel_rfl, fun j t ht => by
        rw [Tryz.params3] at ht
        have hm : t ∈ [22, 23, 3] := by simpa using Array.mem_of_getElem? ht
        have hall : ([22, 23, 3].all fun u => !Tryz.prog.wantsStandIn u) = true := by kernel_rfl
        exact (show Tryz.prog.wantsStandIn t = false by simpa using List.all_eq_true.1 hall t hm)⟩)
    (by kernel_rfl)
#print axioms proved
end Go.Proofs.YtignfbdgpgidpaaGreatDoor.scanSweeps

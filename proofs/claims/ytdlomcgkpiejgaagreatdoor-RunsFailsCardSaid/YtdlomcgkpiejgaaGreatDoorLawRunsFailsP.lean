/- Rows.RunsFailsSaid holds: for every input the law returns true and leaves its arguments as they were. Conditions: none beside the row's own. -/
import Derived.Test.YtdlomcgkpiejgaaGreatDoorRows
import Derived.WalkKit
import Derived.ProofKit
import Derived.OpenShut
import Derived.ShutString
import Derived.ChangeOld
import Derived.Below
import Derived.Test.YtdlomcgkpiejgaaGreatDoorP00
import Derived.Test.YtdlomcgkpiejgaaGreatDoorP46
import Derived.Test.YtdlomcgkpiejgaaGreatDoorP45
import Derived.Test.YtdlomcgkpiejgaaGreatDoorP26
import Derived.Test.YtdlomcgkpiejgaaGreatDoorTie
import Derived.Test.YtdlomcgkpiejgaaGreatDoorCards
import Derived.LaidMore
import Derived.SevenTiedAt
import Derived.Stop.Joined
namespace Go.Proofs.YtdlomcgkpiejgaaGreatDoor.runsFails
open Go.ChangeShapes Go.WideShapes Go.ChangeAt Go.RowKit
open Go.ChangeMaps (open_string shut_string)
open FsPlain RdPlain RecPlain RnPlain
set_option linter.unusedVariables false
set_option linter.unusedSimpArgs false

theorem own : ownKnob Tryz.prog.godebug = none := by kernel_rfl
theorem laidOut : laidOutB Tryz.prog = true := by kernel_rfl


set_option maxRecDepth 100000 in
set_option maxHeartbeats 8000000 in
theorem walk (v0 v1 v2 v3 v4 v5 : Value) (w : World) (w0 : Rd Tryz.prog w 9 v0) (w1 : Rd Tryz.prog w 3 v1) (w2 : Rd Tryz.prog w 3 v2) (w3 : Rd Tryz.prog w 3 v3) (w4 : Rd Tryz.prog w 44 v4) (w5 : Rd Tryz.prog w 3 v5) (wL : laidMetH Tryz.prog Rows.runsFailsRow.laid w) :
    Calls Tryz.prog 4 #[v0, v1, v2, v3, v4, v5] w fun e w' => e = .returned (.bool true) ∧ Gr w w' := by
  obtain ⟨S, rfl, hS⟩ := rd_string Tryz.underlying9 w0
  obtain ⟨size, rfl, h1⟩ := rd_int Tryz.underlying3 w1
  obtain ⟨m, rfl, h2⟩ := rd_int Tryz.underlying3 w2
  obtain ⟨most, rfl, h3⟩ := rd_int Tryz.underlying3 w3
  obtain ⟨room, rfl, h4⟩ := rd_int Tryz.underlying44 w4
  obtain ⟨fuse, rfl, h5⟩ := rd_int Tryz.underlying3 w5
  have k1 : I64 size := by
    have h := h1
    simp only [Lit.wf, Bool.and_eq_true, decide_eq_true_eq] at h
    exact h
  have k2 : I64 m := by
    have h := h2
    simp only [Lit.wf, Bool.and_eq_true, decide_eq_true_eq] at h
    exact h
  have k4 : 0 ≤ room ∧ room ≤ 65535 := by
    have h := h4
    simp only [Lit.wf, Bool.and_eq_true, decide_eq_true_eq] at h
    exact h
  have k5 : -9223372036854775808 ≤ fuse ∧ fuse ≤ 9223372036854775807 := by
    have h := h5
    simp only [Lit.wf, Bool.and_eq_true, decide_eq_true_eq] at h
    exact h
  clear w0 w1 w2 w3 w4 w5 h1 h2 h3 h4 h5
  unfold maxLen at hS
  have TW := Lib.hid (show Tab w from tab_of wL rfl (by kernel_rfl) (by kernel_rfl))
  clear wL
  have AW := Lib.hid (fun u (g : Gr w u) => (awake16_c u (TW.out.gr g)).mono (fun e v h => (⟨h.1, g.trans h.2⟩ : e = .returned (.bool true) ∧ Gr w v)))
  by_cases c1 : 700 < S.size
  · have c1' : (700 : Int) < (S.size : Int) := by omega
    clear c1 k1 k2 k4 k5
    go_enter Tryz.func4, Tryz.ntmps4
    go_wp2_with fail
    refine (AW.out _ (Gr.refl _)).mono ?_; rintro e v ⟨rfl, g⟩
    go_wp2_with fail
    go_ret
    exact ⟨rfl, g⟩
  · have c1' : ¬ (700 : Int) < (S.size : Int) := by omega
    have c1'' : (S.size : Int) ≤ 700 := by omega
    by_cases c2 : most < 0
    · clear c1 k1 k2 k4 k5
      go_enter Tryz.func4, Tryz.ntmps4
      go_wp2_with fail
      refine (AW.out _ (Gr.refl _)).mono ?_; rintro e v ⟨rfl, g⟩
      go_wp2_with fail
      go_ret
      exact ⟨rfl, g⟩
    · by_cases c3 : 1048576 < most
      · clear c1 k1 k2 k4 k5
        go_enter Tryz.func4, Tryz.ntmps4
        go_wp2_with fail
        refine (AW.out _ (Gr.refl _)).mono ?_; rintro e v ⟨rfl, g⟩
        go_wp2_with fail
        go_ret
        exact ⟨rfl, g⟩
      · have c2' : 0 ≤ most := by omega
        have c3' : most ≤ 1048576 := by omega
        obtain ⟨r, hr⟩ : ∃ r, (S.size : Int) + room = r := ⟨_, rfl⟩
        have hrS : (S.size : Int) ≤ r := by omega
        have hr1 : r ≤ 16777216 := by omega
        have DK := Lib.hid (fun (u : World) => disk16_c (r := r) (S := S) hr1 hrS u)
        have BN := Lib.hid (fun (u : World) => bu_new most u c2' (by omega))
        have hst : HasD (armed (stA r S) fuse) nmA.data.toList S := (st_stands r S).get
        have AR := Lib.hid (fun p (u : World) (B : Nat → Prop) h => d_arm p (stA r S) fuse k5.1 k5.2 u B h)
        have FM := Lib.hid (fun D P (u : World) (B : Nat → Prop) (tb : TabB u B) (h : stars [DiskA D (armed (stA r S) fuse), BuA P ⟨most, 0, 0⟩] u B) => form16_c (size := size) (m := m) (out := nmB) k1 k2 false hst (by omega) nmA_size nmA_right (by decide) (names_a r S fuse) (by show (2 : Int) ≤ _; decide) tb h)
        have PS := Lib.hid (fun (u : World) => rparse_c size k1 S (by omega) u)
        have FA := Lib.hid (fun (er : Int) (u : World) => rfailed16_c er u)
        have t1 : decide ((700 : Int) < (S.size : Int)) = false := by simpa using c1'
        unfold nmA nmB at FM
        clear hst hrS hr1 k1 hS c1
        have hm1 : -9223372036854775808 ≤ m := k2.1
        have hm2 : m ≤ 9223372036854775807 := k2.2
        clear k2 k5
        go_enter Tryz.func4, Tryz.ntmps4
        go_wp2_with fail
        refine (DK.out _).mono ?_; rintro e u1 ⟨p, B, rfl, hd, g1, hn⟩
        have HD := Lib.hid hd
        have HN := Lib.hid hn
        have G1 := Lib.hid g1
        clear hd hn g1
        go_wp2_with fail
        refine (BN.out _).mono ?_; rintro e u2 ⟨rfl, hb, g2⟩
        have DB := Lib.hid (db_made HD.out HN.out G1.out hb (fun x hx => by omega) g2)
        clear hb g2
        obtain ⟨P, hP⟩ : ∃ P, u1.heap.size = P := ⟨_, rfl⟩
        rw [hP] at DB ⊢
        clear hP
        go_wp2_with fail
        refine (DB.out.disk (AR.out p _)).mono ?_; rintro e u3 ⟨rfl, db⟩
        have DB3 := Lib.hid db
        clear db
        go_wp2_with fail
        refine (DB3.out.form TW.out (FM.out p P _)).mono ?_; rintro e u4 ⟨s', b', k, er, rfl, hf, db⟩
        have DB4 := Lib.hid db
        have HF := Lib.hid hf
        clear db hf
        go_wp2_with fail
        refine (PS.out _).mono ?_; rintro e u5 hp
        have hnow : b'.now = 0 := HF.out.now
        have hhigh : b'.high ≤ most := by have h1 := DB4.out.bud.1.h1; have h2 : b'.m = most := HF.out.bm; omega
        have NW := Lib.hid (fun u (h : Db p P s' b' w u) => bnow_c P b' u h.bud)
        have HH := Lib.hid (fun u (h : Db p P s' b' w u) => bhigh_c P b' u h.bud)
        rw [hnow] at NW
        have hk0 := HF.out.k0
        have harg := HF.out.arg
        have hyes := HF.out.yes
        have hcode := HF.out.code
        have th : decide (most < b'.high) = false := by simp; omega
        generalize b'.high = hi at HH hhigh th
        clear hnow HF
        rcases hp with ⟨L, vl, hL, rfl, _, g5⟩ | ⟨hno, rfl, g5⟩
        · have DB5 := Lib.hid (DB4.out.gr g5)
          have hco := hcode L hL
          clear hcode hyes hL g5
          by_cases hm : m < 1
          · have e1 := harg hm
            have e2 := hk0 (by omega)
            subst e1 e2
            clear harg hk0 hco
            go_wp2_with fail
            refine (NW.out _ (DB5.out.gr (gr16 u5 _))).mono ?_; rintro e u6 ⟨rfl, rfl⟩
            go_wp2_with fail
            refine (HH.out _ (DB5.out.gr (gr16 u5 _))).mono ?_; rintro e u7 ⟨rfl, rfl⟩
            go_wp2_with fail
            refine (AW.out _ (DB5.out.gr (gr16 u5 _)).end).mono ?_; rintro e v9 ⟨rfl, g⟩
            go_wp2_with fail
            go_ret
            exact ⟨rfl, g⟩
          · have hm0 : ¬ m < 1 := hm
            have hm1' : decide (m < 1) = false := by simpa using hm
            by_cases h8 : most < 8
            · by_cases he : er = 0
              · subst he
                clear hk0 hco harg
                go_wp2_with fail
                refine (NW.out _ (DB5.out.gr (gr16 u5 _))).mono ?_; rintro e u6 ⟨rfl, rfl⟩
                go_wp2_with fail
                refine (HH.out _ (DB5.out.gr (gr16 u5 _))).mono ?_; rintro e u7 ⟨rfl, rfl⟩
                go_wp2_with fail
                refine (AW.out _ (DB5.out.gr (gr16 u5 _)).end).mono ?_; rintro e v9 ⟨rfl, g⟩
                go_wp2_with fail
                go_ret
                exact ⟨rfl, g⟩
              · have e2 := hk0 he
                subst e2
                have he2 : (er == 0) = false := by simpa using he
                clear hk0 harg
                go_wp2_with fail
                refine (NW.out _ (DB5.out.gr (gr16 u5 _))).mono ?_; rintro e u6 ⟨rfl, rfl⟩
                go_wp2_with fail
                refine (HH.out _ (DB5.out.gr (gr16 u5 _))).mono ?_; rintro e u7 ⟨rfl, rfl⟩
                go_wp2_with fail
                refine (AW.out _ (DB5.out.gr (gr16 u5 _)).end).mono ?_; rintro e v9 ⟨rfl, g⟩
                go_wp2_with fail
                go_ret
                exact ⟨rfl, g⟩
            · have h8' : ¬ most < 8 := h8
              by_cases h9 : most - 8 < m
              · by_cases he : er = 0
                · subst he
                  clear hk0 hco harg
                  go_wp2_with fail
                  refine (NW.out _ (DB5.out.gr (gr16 u5 _))).mono ?_; rintro e u6 ⟨rfl, rfl⟩
                  go_wp2_with fail
                  refine (HH.out _ (DB5.out.gr (gr16 u5 _))).mono ?_; rintro e u7 ⟨rfl, rfl⟩
                  go_wp2_with fail
                  refine (AW.out _ (DB5.out.gr (gr16 u5 _)).end).mono ?_; rintro e v9 ⟨rfl, g⟩
                  go_wp2_with fail
                  go_ret
                  exact ⟨rfl, g⟩
                · have e2 := hk0 he
                  subst e2
                  have he2 : (er == 0) = false := by simpa using he
                  clear hk0 harg
                  go_wp2_with fail
                  refine (NW.out _ (DB5.out.gr (gr16 u5 _))).mono ?_; rintro e u6 ⟨rfl, rfl⟩
                  go_wp2_with fail
                  refine (HH.out _ (DB5.out.gr (gr16 u5 _))).mono ?_; rintro e u7 ⟨rfl, rfl⟩
                  go_wp2_with fail
                  refine (AW.out _ (DB5.out.gr (gr16 u5 _)).end).mono ?_; rintro e v9 ⟨rfl, g⟩
                  go_wp2_with fail
                  go_ret
                  exact ⟨rfl, g⟩
              · have h9' : ¬ most - 8 < m := h9
                by_cases he : er = 0
                · subst he
                  clear hk0 hco harg
                  go_wp2_with fail
                  refine (NW.out _ (DB5.out.gr (gr16 u5 _))).mono ?_; rintro e u6 ⟨rfl, rfl⟩
                  go_wp2_with fail
                  refine (HH.out _ (DB5.out.gr (gr16 u5 _))).mono ?_; rintro e u7 ⟨rfl, rfl⟩
                  go_wp2_with fail
                  refine (AW.out _ (DB5.out.gr (gr16 u5 _)).end).mono ?_; rintro e v9 ⟨rfl, g⟩
                  go_wp2_with fail
                  go_ret
                  exact ⟨rfl, g⟩
                · have e2 := hk0 he
                  subst e2
                  rcases hco (by omega) (by show m + 8 ≤ most - 0; omega) with h | h | h
                  · exact absurd h he
                  · subst h
                    clear hk0 harg hco he
                    go_wp2_with fail
                    refine (NW.out _ (DB5.out.gr (gr16 u5 _))).mono ?_; rintro e u6 ⟨rfl, rfl⟩
                    go_wp2_with fail
                    refine (HH.out _ (DB5.out.gr (gr16 u5 _))).mono ?_; rintro e u7 ⟨rfl, rfl⟩
                    go_wp2_with fail
                    refine (FA.out 4 _).mono ?_; rintro e u8 ⟨rfl, rfl⟩
                    go_wp2_with fail
                    refine (AW.out _ (DB5.out.gr (gr16 u5 _)).end).mono ?_; rintro e v9 ⟨rfl, g⟩
                    go_wp2_with fail
                    go_ret
                    exact ⟨rfl, g⟩
                  · subst h
                    clear hk0 harg hco he
                    go_wp2_with fail
                    refine (NW.out _ (DB5.out.gr (gr16 u5 _))).mono ?_; rintro e u6 ⟨rfl, rfl⟩
                    go_wp2_with fail
                    refine (HH.out _ (DB5.out.gr (gr16 u5 _))).mono ?_; rintro e u7 ⟨rfl, rfl⟩
                    go_wp2_with fail
                    refine (FA.out 5 _).mono ?_; rintro e u8 ⟨rfl, rfl⟩
                    go_wp2_with fail
                    refine (AW.out _ (DB5.out.gr (gr16 u5 _)).end).mono ?_; rintro e v9 ⟨rfl, g⟩
                    go_wp2_with fail
                    go_ret
                    exact ⟨rfl, g⟩
        · have DB5 := Lib.hid (DB4.out.gr g5)
          have he : er ≠ 0 := fun h => by obtain ⟨L, hL, _⟩ := hyes h; exact hno L hL
          have e2 := hk0 he
          subst e2
          clear hcode hyes hno g5 hk0
          by_cases hm : m < 1
          · have e1 := harg hm
            subst e1
            clear harg
            go_wp2_with fail
            refine (NW.out _ (DB5.out.gr (gr16 u5 _))).mono ?_; rintro e u6 ⟨rfl, rfl⟩
            go_wp2_with fail
            refine (HH.out _ (DB5.out.gr (gr16 u5 _))).mono ?_; rintro e u7 ⟨rfl, rfl⟩
            go_wp2_with fail
            refine (AW.out _ (DB5.out.gr (gr16 u5 _)).end).mono ?_; rintro e v9 ⟨rfl, g⟩
            go_wp2_with fail
            go_ret
            exact ⟨rfl, g⟩
          · have hm1' : decide (m < 1) = false := by simpa using hm
            have he2 : (er == 0) = false := by simpa using he
            have he3 : (er != 0) = true := by simpa using he
            clear harg
            go_wp2_with fail
            refine (NW.out _ (DB5.out.gr (gr16 u5 _))).mono ?_; rintro e u6 ⟨rfl, rfl⟩
            go_wp2_with fail
            refine (HH.out _ (DB5.out.gr (gr16 u5 _))).mono ?_; rintro e u7 ⟨rfl, rfl⟩
            go_wp2_with fail
            refine (AW.out _ (DB5.out.gr (gr16 u5 _)).end).mono ?_; rintro e v9 ⟨rfl, g⟩
            go_wp2_with fail
            go_ret
            exact ⟨rfl, g⟩

theorem door_met (os : Os) (args : Array Value) : laidMetH Tryz.prog Rows.runsFailsRow.laid ((World.doorLaid Tryz.prog 24 os).forCall (fun _ _ => 0) ⟨#[], args, []⟩).memory :=
  laidMetH_of_parts3 (fuel := 8) (laidMet_of_run' 8 (by kernel_rfl) (by kernel_rfl)) (by kernel_rfl) (by kernel_rfl)
set_option maxRecDepth 100000 in
theorem lifted (os : Os) (started : os.Started) (H : Type) (enc : TypeId × Value → H) :
    ReturnsInHanded {} Tryz.checked os 4 .any (fun w args => (Rows.runsFailsSpec.pre enc Tryz.prog Tryz.f4 [] false w args ∧ laidMetH Tryz.prog Rows.runsFailsRow.laid w) ∧ sizedMet enc Tryz.prog Tryz.f4 (OpenSpec.ofChange Rows.runsFailsSpec) false w args) (Rows.runsFailsSpec.post enc Tryz.prog Tryz.f4 false true false false) := by
  refine returnsInHanded_of_change_and (C := Tryz.checked) (X := fun w _ => laidMetH Tryz.prog Rows.runsFailsRow.laid w) (fun _ _ _ hh h => h.of_heap hh) own started (by kernel_rfl) Tryz.func4
    (ChangeSpec.witness_shaped (enc := enc) (C := Tryz.checked) (os := os) (X := fun w _ => laidMetH Tryz.prog Rows.runsFailsRow.laid w) false (World.doorLaid Tryz.prog 24 os) #[.string ByteArray.empty, .int .i64 0, .int .i64 0, .int .i64 0, .int .u16 0, .int .i64 0] 8 rfl (World.shaped_of_RefB (by kernel_rfl) (by kernel_rfl)) (by kernel_rfl) (by kernel_rfl) (by kernel_rfl) (door_met os _)) ?_
  intro W base args ds gs before hval0 hW _ _ hL _
  have hval : ∀ (j : Nat) t v, Tryz.f4.params[j]? = some t → args[j]? = some v → Value.okWide Tryz.prog W .any base t v := hval0
  have hW' := hW
  obtain ⟨p, q, hA0, hV, rfl, hfz, hnd⟩ := hW
  have hA : DataW.TrodAll enc Tryz.prog W 0 (fun _ => true) true Tryz.f4.params.toList args.toList ds p := hA0
  rw [Tryz.params4] at hA hval
  obtain ⟨v0, vs0, d0, ds0, p0, q0, hargs, rfl, rfl, h0, r0⟩ := trodAll_cons hA
  obtain ⟨v1, vs1, d1, ds1, p1, q1, rfl, rfl, rfl, h1, r1⟩ := trodAll_cons r0
  obtain ⟨v2, vs2, d2, ds2, p2, q2, rfl, rfl, rfl, h2, r2⟩ := trodAll_cons r1
  obtain ⟨v3, vs3, d3, ds3, p3, q3, rfl, rfl, rfl, h3, r3⟩ := trodAll_cons r2
  obtain ⟨v4, vs4, d4, ds4, p4, q4, rfl, rfl, rfl, h4, r4⟩ := trodAll_cons r3
  obtain ⟨v5, vs5, d5, ds5, p5, q5, rfl, rfl, rfl, h5, r5⟩ := trodAll_cons r4
  obtain ⟨rfl, rfl, rfl⟩ := trodAll_nil r5
  obtain rfl : args = #[v0, v1, v2, v3, v4, v5] := by cases args; simp_all
  obtain ⟨rfl, rfl⟩ := trodVars_none hV
  have k0 := h0
  have lt0 : ∀ x ∈ p0, x.block < W.heap.size := by obtain ⟨m, hm⟩ := k0; exact DataW.trod_lt m _ _ _ hm
  obtain ⟨n0, e0⟩ := okWide_string Tryz.underlying9 (hval 0 9 v0 rfl rfl)
  have w0 : Rd Tryz.prog W 9 v0 := by
    obtain ⟨fuel, hf⟩ := h0
    subst e0
    exact ⟨H, enc, fuel, _, by simpa [Value.cells] using hf⟩
  have k1 := h1
  have lt1 : ∀ x ∈ p1, x.block < W.heap.size := by obtain ⟨m, hm⟩ := k1; exact DataW.trod_lt m _ _ _ hm
  obtain ⟨n1, e1⟩ := okWide_int Tryz.underlying3 (hval 1 3 v1 rfl rfl)
  have w1 : Rd Tryz.prog W 3 v1 := by
    obtain ⟨fuel, hf⟩ := h1
    subst e1
    exact ⟨H, enc, fuel, _, by simpa [Value.cells] using hf⟩
  have k2 := h2
  have lt2 : ∀ x ∈ p2, x.block < W.heap.size := by obtain ⟨m, hm⟩ := k2; exact DataW.trod_lt m _ _ _ hm
  obtain ⟨n2, e2⟩ := okWide_int Tryz.underlying3 (hval 2 3 v2 rfl rfl)
  have w2 : Rd Tryz.prog W 3 v2 := by
    obtain ⟨fuel, hf⟩ := h2
    subst e2
    exact ⟨H, enc, fuel, _, by simpa [Value.cells] using hf⟩
  have k3 := h3
  have lt3 : ∀ x ∈ p3, x.block < W.heap.size := by obtain ⟨m, hm⟩ := k3; exact DataW.trod_lt m _ _ _ hm
  obtain ⟨n3, e3⟩ := okWide_int Tryz.underlying3 (hval 3 3 v3 rfl rfl)
  have w3 : Rd Tryz.prog W 3 v3 := by
    obtain ⟨fuel, hf⟩ := h3
    subst e3
    exact ⟨H, enc, fuel, _, by simpa [Value.cells] using hf⟩
  have k4 := h4
  have lt4 : ∀ x ∈ p4, x.block < W.heap.size := by obtain ⟨m, hm⟩ := k4; exact DataW.trod_lt m _ _ _ hm
  obtain ⟨n4, e4⟩ := okWide_int Tryz.underlying44 (hval 4 44 v4 rfl rfl)
  have w4 : Rd Tryz.prog W 44 v4 := by
    obtain ⟨fuel, hf⟩ := h4
    subst e4
    exact ⟨H, enc, fuel, _, by simpa [Value.cells] using hf⟩
  have k5 := h5
  have lt5 : ∀ x ∈ p5, x.block < W.heap.size := by obtain ⟨m, hm⟩ := k5; exact DataW.trod_lt m _ _ _ hm
  obtain ⟨n5, e5⟩ := okWide_int Tryz.underlying3 (hval 5 3 v5 rfl rfl)
  have w5 : Rd Tryz.prog W 3 v5 := by
    obtain ⟨fuel, hf⟩ := h5
    subst e5
    exact ⟨H, enc, fuel, _, by simpa [Value.cells] using hf⟩
  clear hA0 hval0
  refine (walk v0 v1 v2 v3 v4 v5 W w0 w1 w2 w3 w4 w5 hL).mono fun e W' ⟨he, bel⟩ => ?_
  subst he
  exact ⟨_, rfl, _, _, _, [], _, [], hW', trodAll_mk1 (shut_bool Tryz.underlying4 _), (trodAll_cons_mk (Below.trod laidOut (by kernel_rfl) (of_decide_eq_true (by kernel_rfl)) k0 bel lt0) (trodAll_cons_mk (Below.trod laidOut (by kernel_rfl) (of_decide_eq_true (by kernel_rfl)) k1 bel lt1) (trodAll_cons_mk (Below.trod laidOut (by kernel_rfl) (of_decide_eq_true (by kernel_rfl)) k2 bel lt2) (trodAll_cons_mk (Below.trod laidOut (by kernel_rfl) (of_decide_eq_true (by kernel_rfl)) k3 bel lt3) (trodAll_cons_mk (Below.trod laidOut (by kernel_rfl) (of_decide_eq_true (by kernel_rfl)) k4 bel lt4) (trodAll_cons_mk (Below.trod laidOut (by kernel_rfl) (of_decide_eq_true (by kernel_rfl)) k5 bel lt5) trodAll_mk0)))))), rfl, bel.frame _, fun h => by cases h⟩

theorem over : Rows.runsFailsRow.holds Tryz.pinned (OpenSpec.ofChange Rows.runsFailsSpec) :=
  OpenClaim.holds_of_wide 4 Tryz.f4 rfl rfl rfl rfl rfl rfl rfl ⟨rfl, rfl, rfl, rfl, rfl⟩ rfl rfl rfl rfl rfl (by kernel_rfl) Tryz.func4 (by kernel_rfl)
    (of_decide_eq_true (by kernel_rfl)) (by unfold Func.isWrapper; first | (rw [if_pos (by decide +kernel)]; kernel_rfl) | (rw [if_neg (by decide +kernel)]; exact ⟨rfl, rfl⟩))
    (fun os started H enc _ => lifted os started H enc)

theorem proved : Rows.RunsFailsCardSaid :=
  Claim7.holds_tied_plain_at .later [] [.data, .data, .data] true (true, "ce3aa0357e1792e79562c643a08077147cbc1edb575011b4bc61b15678bd6074") false
    over (fun _ h => by cases h) (by kernel_rfl) (fun _ h => by cases h) runsFails_row_tie rfl ⟨rfl, rfl⟩ (by kernel_rfl) rfl
    (fun f fn hf hfn => by
      obtain rfl : f = 4 := Option.some.inj ((show Tryz.prog.funcNamed Rows.runsFailsRow.func = some 4 by kernel_rfl).symm.trans hf) |>.symm
      obtain rfl : fn = Tryz.f4 := (Option.some.inj (Tryz.func4.symm.trans hfn)).symm
      exact ⟨by kernel_rfl, fun j t ht => by
        rw [Tryz.params4] at ht
        have hm : t ∈ [9, 3, 3, 3, 44, 3] := by simpa using Array.mem_of_getElem? ht
        have hall : ([9, 3, 3, 3, 44, 3].all fun u => !Tryz.prog.wantsStandIn u) = true := by kernel_rfl
        exact (show Tryz.prog.wantsStandIn t = false by simpa using List.all_eq_true.1 hall t hm)⟩)
    (by kernel_rfl)
#print axioms proved
end Go.Proofs.YtdlomcgkpiejgaaGreatDoor.runsFails

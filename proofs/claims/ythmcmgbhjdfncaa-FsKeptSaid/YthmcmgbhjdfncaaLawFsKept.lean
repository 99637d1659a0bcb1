/- Rows.FsKeptSaid holds: for every input the law returns true and leaves its arguments as they were. Conditions: none beside the row's own. -/
import Derived.Test.YthmcmgbhjdfncaaRows
import Derived.WalkKit
import Derived.ProofKit
import Derived.OpenShut
import Derived.ShutString
import Derived.ChangeOld
import Derived.Below
import Derived.Test.YthmcmgbhjdfncaaArgs
import Derived.Test.YthmcmgbhjdfncaaFsTwo
namespace Go.Proofs.Ythmcmgbhjdfncaa.fsKept
open Go.ChangeShapes Go.WideShapes Go.ChangeAt Go.RowKit
open Go.ChangeMaps (open_string shut_string)
open FsPlain
set_option linter.unusedVariables false
set_option linter.unusedSimpArgs false

theorem own : ownKnob Try.prog.godebug = none := by kernel_rfl
theorem laidOut : laidOutB Try.prog = true := by kernel_rfl


set_option maxRecDepth 100000 in
set_option maxHeartbeats 4000000 in
theorem walk (v0 v1 v2 v3 : Value) (w : World) (w0 : Rd Try.prog w 22 v0) (w1 : Rd Try.prog w 23 v1) (w2 : Rd Try.prog w 5 v2) (w3 : Rd Try.prog w 24 v3) :
    Calls Try.prog 3 #[v0, v1, v2, v3] w fun e w' => e = .returned (.bool true) ∧ Gr w w' := by
  obtain ⟨a0, c0, l0, rfl, _, hr0, hs0⟩ := rd_strings Try.underlying22 Try.underlying9 (by kernel_rfl) w0
  obtain ⟨a1, c1, l1, rfl, hm1, hr1⟩ := rd_bools Try.underlying23 Try.underlying4 (by kernel_rfl) w1
  obtain ⟨n2, rfl, hw2⟩ := rd_int Try.underlying5 w2
  obtain ⟨a3, c3, l3, rfl, hm3, hr3, hw3⟩ := rd_ints Try.underlying24 Try.underlying3 (by kernel_rfl) w3
  have b2 := bounds_u8 hw2
  clear w0 w1 w2 w3 hw2
  unfold maxLen at hm1 hm3
  by_cases hl0 : (l0.length : Int) ≤ 10
  · by_cases hl3 : (l3.length : Int) ≤ 5
    · have t1 : decide (10 < (l0.length : Int)) = false := by rw [decide_eq_false_iff_not]; omega
      have t2 : decide (5 < (l3.length : Int)) = false := by rw [decide_eq_false_iff_not]; omega
      obtain ⟨q, hq, hq0, hq1⟩ : ∃ q : Int, n2 % 25 = q ∧ 0 ≤ q ∧ q < 25 := ⟨_, rfl, by omega, by omega⟩
      go_enter Try.func3, Try.ntmps3
      go_wp2_with fail
      refine (new_c 1048576 (by decide) (by decide) _).mono ?_; rintro e w1 ⟨p, B1, rfl, d1, g1, hB1⟩
      have h1 : Has w p (fresh 1048576) w1 := ⟨B1, d1, g1, hB1⟩
      have H1 := Lib.hid h1
      clear d1 g1 hB1 h1
      go_wp2_with fail
      refine (h_create (n := ⟨#[97]⟩) H1.out (e_create 1048576) (by decide) rightA (by decide)).mono ?_; rintro e w2 ⟨rfl, h⟩
      have H2 := Lib.hid h
      clear h
      go_wp2_with fail
      refine (two_clone H2.out).mono ?_; rintro e w3 ⟨p2, rfl, h⟩
      have H3 := Lib.hid h
      clear h
      go_wp2_with fail
      refine (t_arm (n := q) H3.out (by omega) (by omega)).mono ?_; rintro e w4 ⟨rfl, h⟩
      have H4 := Lib.hid h
      clear h t1 t2 hq
      go_wp2_with fail
      go_loopw [12, 13, 14] (fun allv keptv iv wr => KeptIn w p p2 l0.length allv keptv iv wr) (fun _ _ iv _ => l0.length - (intOf iv).toNat)
      case atStart => exact ⟨0, [], 0, 1, max q (-1), false, rfl, Nat.zero_le _, rfl, rfl, Nat.le_refl _, by simp, by omega, by omega, by omega, by omega, H4.out⟩
      case round =>
        obtain ⟨i, A, k, c, a, d, hR⟩ := hrel
        obtain rfl := hR.ival
        obtain rfl := hR.aval
        obtain rfl := hR.kval
        have hi := hR.ile
        have hkl := hR.kle
        have hal := hR.ale
        have hc0 := hR.c0
        have hc1 := hR.c1
        have ha0 := hR.a0
        have ha1 := hR.a1
        have HT := Lib.hid hR.two
        have HG := Lib.hid hR.two.old
        clear hR
        by_cases hlt : i < l0.length
        · rcases hr0 with h0 | ⟨b0, o0, rfl, hb0, hcell0⟩
          · exfalso; have : l0 = [] := by simpa using h0
            rw [this] at hlt; simp at hlt
          · obtain ⟨s, hs⟩ : ∃ s, l0[i]? = some s := ⟨_, List.getElem?_eq_getElem hlt⟩
            have hcs : wr.cell? ⟨b0, o0 + i, none⟩ = some (.string s) := by
              rw [HG.out.cell (by exact hb0)]; exact hcell0 i _ (by rw [List.getElem?_map, hs]; rfl)
            clear hs
            by_cases hbig : 100 < (s.size : Int)
            · have t3 : decide (100 < (s.size : Int)) = true := by rw [decide_eq_true_iff]; omega
              go_wp2_with fail
              refine (awake_c _).mono ?_; rintro e w7 ⟨rfl, g7⟩
              go_wp2_with fail
              go_ret
              exact ⟨rfl, HG.out.trans g7⟩
            · have t3 : decide (100 < (s.size : Int)) = false := by rw [decide_eq_false_iff_not]; omega
              have hAl : ((A.length + s.data.toList.length : Nat) : Int) ≤ 1048576 := by
                have : s.data.toList.length = s.size := rfl
                rw [this]; omega
              have hAs : (A ++ s.data.toList).length = A.length + s.size := by rw [List.length_append]; rfl
              have hkA : (A ++ s.data.toList).take k = A.take k := List.take_append_of_le_length hkl
              have htA : (A ++ s.data.toList).take (A ++ s.data.toList).length = A ++ s.data.toList := List.take_length
              have htA0 : A.take A.length = A := List.take_length
              have HAS := Lib.hid hAs
              have HKA := Lib.hid hkA
              have HTA := Lib.hid htA
              have HTA0 := Lib.hid htA0
              have HAB := Lib.hid (app_bs A s)
              have hsync : (∀ u, Gr w u → decide (i < l1.length) = false) ∨ (decide (i < l1.length) = true ∧ ((i : Int) < (l1.length : Int)) ∧ ∃ b1 o1 bb, a1 = some ⟨b1, o1, none⟩ ∧ ∀ u, Gr w u → u.cell? ⟨b1, o1 + i, none⟩ = some (.bool bb)) := by
                by_cases h1 : i < l1.length
                · right
                  refine ⟨by rw [decide_eq_true_iff]; omega, by omega, ?_⟩
                  rcases hr1 with h0 | ⟨b1, o1, rfl, hb1, hcell1⟩
                  · exfalso; have : l1 = [] := by simpa using h0
                    rw [this] at h1; simp at h1
                  · obtain ⟨bb, hbb⟩ : ∃ bb, l1[i]? = some bb := ⟨_, List.getElem?_eq_getElem h1⟩
                    exact ⟨b1, o1, bb, rfl, fun u hu => by rw [hu.cell (by exact hb1)]; exact hcell1 i _ (by rw [List.getElem?_map, hbb]; rfl)⟩
                · left; intro u _; rw [decide_eq_false_iff_not]; omega
              have HSY := Lib.hid hsync
              have HALs := Lib.hid hAl
              clear hAs hkA htA htA0 hsync hcell0 hAl
              have hbz : ((bs A).size : Int) + (s.size : Int) ≤ 2000 := by rw [bs_size]; omega
              have hal2 : (A.length : Int) + (s.size : Int) ≤ 100 * (i : Int) + 100 := by omega
              rcases one_append (r := 1048576) (c := c) (a := a) (d := d) (A := A) (k := k) (t := s.data.toList) HALs.out with hap | hap
              · have CA := t_append HT.out hap (by show c ≤ _; omega) (by omega)
                clear hap
                go_wp2_with fail
                refine CA.mono ?_; rintro e w5 ⟨rfl, h⟩
                have H5 := Lib.hid h
                clear h CA
                rcases HSY.out with h1 | ⟨h1, h1', b1, o1, bb, rfl, hcell1⟩
                · have t4 := h1 w5 H5.out.old
                  clear h1
                  go_wp2_with fail
                  go_roundw
                  case rel => exact ⟨i + 1, A, k, _, _, _, by go_num, by omega, rfl, rfl, hkl, by omega, by omega, by omega, by omega, by omega, H5.out⟩
                  case measure => simp [intOf]; omega
                · have hcb := hcell1 w5 H5.out.old
                  clear hcell1
                  cases bb
                  · go_wp2_with fail
                    go_roundw
                    case rel => exact ⟨i + 1, A, k, _, _, _, by go_num, by omega, rfl, rfl, hkl, by omega, by omega, by omega, by omega, by omega, H5.out⟩
                    case measure => simp [intOf]; omega
                  · rcases one_sync 1048576 (c + 1) (max (a - 1) (-1)) true A k with hsy | hsy
                    · have CS := t_sync H5.out hsy (by show c + 1 ≤ _; omega)
                      clear hsy
                      go_wp2_with fail
                      refine CS.mono ?_; rintro e w6 ⟨rfl, h⟩
                      have H6 := Lib.hid h
                      clear h CS
                      go_wp2_with fail
                      go_roundw
                      case rel => exact ⟨i + 1, A, k, _, _, _, by go_num, by omega, rfl, rfl, hkl, by omega, by omega, by omega, by omega, by omega, H6.out⟩
                      case measure => simp [intOf]; omega
                    · have CS := t_sync H5.out hsy (by show c + 1 ≤ _; omega)
                      clear hsy
                      go_wp2_with fail
                      refine CS.mono ?_; rintro e w6 ⟨rfl, h⟩
                      have H6 := Lib.hid h
                      clear h CS
                      go_wp2_with fail
                      go_roundw
                      case rel => exact ⟨i + 1, A, A.length, _, _, _, by go_num, by omega, rfl, by rw [HTA0.out], Nat.le_refl _, by omega, by omega, by omega, by omega, by omega, H6.out⟩
                      case measure => simp [intOf]; omega
              · have CA := t_append HT.out hap (by show c ≤ _; omega) (by omega)
                clear hap
                go_wp2_with fail
                refine CA.mono ?_; rintro e w5 ⟨rfl, h⟩
                have H5 := Lib.hid h
                clear h CA
                have hcs5 : w5.cell? ⟨b0, o0 + i, none⟩ = some (.string s) := by
                  rw [H5.out.old.cell (by exact hb0), ← HG.out.cell (by exact hb0)]; exact hcs
                rcases HSY.out with h1 | ⟨h1, h1', b1, o1, bb, rfl, hcell1⟩
                · have t4 := h1 w5 H5.out.old
                  clear h1
                  go_wp2_with fail
                  go_roundw
                  case rel => exact ⟨i + 1, A ++ s.data.toList, k, _, _, _, by go_num, by omega, by rw [HAB.out], by rw [HKA.out], by rw [HAS.out]; omega, by rw [HAS.out]; omega, by omega, by omega, by omega, by omega, H5.out⟩
                  case measure => simp [intOf]; omega
                · have hcb := hcell1 w5 H5.out.old
                  clear hcell1
                  cases bb
                  · go_wp2_with fail
                    go_roundw
                    case rel => exact ⟨i + 1, A ++ s.data.toList, k, _, _, _, by go_num, by omega, by rw [HAB.out], by rw [HKA.out], by rw [HAS.out]; omega, by rw [HAS.out]; omega, by omega, by omega, by omega, by omega, H5.out⟩
                    case measure => simp [intOf]; omega
                  · rcases one_sync 1048576 (c + 1) (max (a - 1) (-1)) false (A ++ s.data.toList) k with hsy | hsy
                    · have CS := t_sync H5.out hsy (by show c + 1 ≤ _; omega)
                      clear hsy
                      go_wp2_with fail
                      refine CS.mono ?_; rintro e w6 ⟨rfl, h⟩
                      have H6 := Lib.hid h
                      clear h CS
                      go_wp2_with fail
                      go_roundw
                      case rel => exact ⟨i + 1, A ++ s.data.toList, k, _, _, _, by go_num, by omega, by rw [HAB.out], by rw [HKA.out], by rw [HAS.out]; omega, by rw [HAS.out]; omega, by omega, by omega, by omega, by omega, H6.out⟩
                      case measure => simp [intOf]; omega
                    · have CS := t_sync H5.out hsy (by show c + 1 ≤ _; omega)
                      clear hsy
                      go_wp2_with fail
                      refine CS.mono ?_; rintro e w6 ⟨rfl, h⟩
                      have H6 := Lib.hid h
                      clear h CS
                      go_wp2_with fail
                      go_roundw
                      case rel => exact ⟨i + 1, A ++ s.data.toList, (A ++ s.data.toList).length, _, _, _, by go_num, by omega, by rw [HAB.out], by rw [HTA.out, HAB.out], Nat.le_refl _, by rw [HAS.out]; omega, by omega, by omega, by omega, by omega, H6.out⟩
                      case measure => simp [intOf]; omega
        · obtain ⟨n, hn⟩ : ∃ n, n = k + min (max (l3.getD 0 0) 0).toNat (A.length - k) := ⟨_, rfl⟩
          have hrise := one_rise 1048576 c a d A k l3
          rw [← hn] at hrise
          have hkn : k ≤ n := by omega
          have hnA : n ≤ A.length := by omega
          have hlen : (A.take n).length = n := by rw [List.length_take]; omega
          have hsize : sizeR (one 1048576 c (-1) false (A.take n) n) [97] = ((n : Int), 0) := by rw [one_size, hlen]
          have hread := one_read 1048576 c (A.take n) n n hlen.symm
          have CR := t_rise c3 HT.out hrise hr3 (fun k hk => bounds_i64 (hw3 k hk)) (by omega)
          have hn1 : (n : Int) ≤ 1000 := by omega
          have HSI := Lib.hid hsize
          have HRE := Lib.hid hread
          obtain ⟨K, hK⟩ : ∃ K, K = bs (A.take k) := ⟨_, rfl⟩
          have hKs : (K.size : Int) ≤ (n : Int) := by rw [hK, bs_size, List.length_take]; omega
          obtain ⟨AL, hAL⟩ : ∃ AL, AL = bs A := ⟨_, rfl⟩
          have hALs : (n : Int) ≤ (AL.size : Int) := by rw [hAL, bs_size]; omega
          obtain ⟨R, hR2⟩ : ∃ R, R = bs (A.take n) := ⟨_, rfl⟩
          have hcut : (R.toList == (AL.extract 0 n).toList) = true := by rw [hAL, cut_bs, hR2]; simp
          have t5 : decide (K.size ≤ n) = true := by rw [decide_eq_true_iff]; omega
          have t6 : decide (n ≤ AL.size) = true := by rw [decide_eq_true_iff]; omega
          have HRR := Lib.hid hR2
          rw [← hK, ← hAL]
          clear hn hrise hlen hsize hread hK hAL hR2 hr0 hr1 hr3
          go_wp2_with fail
          refine CR.mono ?_; rintro e w5 ⟨rfl, h⟩
          have H5 := Lib.hid h
          clear h CR
          go_wp2_with fail
          refine (t_size H5.out HSI.out (by show c ≤ _; omega)).mono ?_; rintro e w6 ⟨rfl, h⟩
          have H6 := Lib.hid h
          clear h
          go_wp2_with fail
          refine (t_read (i := 0) (k := n) H6.out HRE.out (by show c + 1 ≤ _; omega) (by omega) (by omega)).mono ?_; rintro e w7 ⟨rfl, h⟩
          rw [← HRR.out]
          have H7 := Lib.hid h
          clear h
          go_wp2_with fail
          refine (t_size H7.out.swap (show sizeR (one 1048576 1 (-1) false [] 0) [97] = (0, 0) from rfl) (by decide)).mono ?_; rintro e w8 ⟨rfl, h⟩
          have H8 := Lib.hid h
          clear h
          go_wp2_with fail
          refine (awake_c _).mono ?_; rintro e w9 ⟨rfl, g9⟩
          go_wp2_with fail
          go_ret
          exact ⟨rfl, H8.out.old.trans g9⟩
    · have t2 : decide (5 < (l3.length : Int)) = true := by rw [decide_eq_true_iff]; omega
      have t1 : decide (10 < (l0.length : Int)) = false := by rw [decide_eq_false_iff_not]; omega
      go_enter Try.func3, Try.ntmps3
      go_wp2_with fail
      refine (awake_c _).mono ?_; rintro e w7 ⟨rfl, g7⟩
      go_wp2_with fail
      go_ret
      exact ⟨rfl, g7⟩
  · have t1 : decide (10 < (l0.length : Int)) = true := by rw [decide_eq_true_iff]; omega
    go_enter Try.func3, Try.ntmps3
    go_wp2_with fail
    refine (awake_c _).mono ?_; rintro e w7 ⟨rfl, g7⟩
    go_wp2_with fail
    go_ret
    exact ⟨rfl, g7⟩

set_option maxRecDepth 100000 in
theorem lifted (os : Os) (started : os.Started) (H : Type) (enc : TypeId × Value → H) :
    ReturnsInHanded {} Try.checked os 3 .any (Rows.fsKeptSpec.pre6 enc Try.prog Try.f3 Rows.fsKeptRow.domain false) (Rows.fsKeptSpec.post enc Try.prog Try.f3 false true false false) := by
  refine returnsInHanded_of_change (C := Try.checked) own started (by kernel_rfl) Try.func3
    (ChangeSpec.witness6 (enc := enc) (C := Try.checked) false ⟨#[], #[.slice none 0 0, .slice none 0 0, .int .u8 0, .slice none 0 0], []⟩ 8 (by kernel_rfl) (by kernel_rfl) (by kernel_rfl) (by kernel_rfl)) ?_
  intro W base args ds gs before hval0 hW hcnd _
  have hval : ∀ (j : Nat) t v, Try.f3.params[j]? = some t → args[j]? = some v → Value.okWide Try.prog W .any base t v := hval0
  have hW' := hW
  obtain ⟨p, q, hA0, hV, rfl, hfz, hnd⟩ := hW
  have hA : DataW.TrodAll enc Try.prog W 0 (fun _ => true) true Try.f3.params.toList args.toList ds p := hA0
  rw [Try.params3] at hA hval
  obtain ⟨v0, vs0, d0, ds0, p0, q0, hargs, rfl, rfl, h0, r0⟩ := trodAll_cons hA
  obtain ⟨v1, vs1, d1, ds1, p1, q1, rfl, rfl, rfl, h1, r1⟩ := trodAll_cons r0
  obtain ⟨v2, vs2, d2, ds2, p2, q2, rfl, rfl, rfl, h2, r2⟩ := trodAll_cons r1
  obtain ⟨v3, vs3, d3, ds3, p3, q3, rfl, rfl, rfl, h3, r3⟩ := trodAll_cons r2
  obtain ⟨rfl, rfl, rfl⟩ := trodAll_nil r3
  obtain rfl : args = #[v0, v1, v2, v3] := by cases args; simp_all
  obtain ⟨rfl, rfl⟩ := trodVars_none hV
  have k0 := h0
  have lt0 : ∀ x ∈ p0, x.block < W.heap.size := by obtain ⟨m, hm⟩ := k0; exact DataW.trod_lt m _ _ _ hm
  obtain ⟨a0, l0, c0, e0⟩ := okWide_slice Try.underlying22 (hval 0 22 v0 rfl rfl)
  have w0 : Rd Try.prog W 22 v0 := by
    obtain ⟨fuel, hf⟩ := h0
    subst e0
    exact ⟨H, enc, fuel, _, by simpa [Value.cells] using hf⟩
  have k1 := h1
  have lt1 : ∀ x ∈ p1, x.block < W.heap.size := by obtain ⟨m, hm⟩ := k1; exact DataW.trod_lt m _ _ _ hm
  obtain ⟨a1, l1, c1, e1⟩ := okWide_slice Try.underlying23 (hval 1 23 v1 rfl rfl)
  have w1 : Rd Try.prog W 23 v1 := by
    obtain ⟨fuel, hf⟩ := h1
    subst e1
    exact ⟨H, enc, fuel, _, by simpa [Value.cells] using hf⟩
  have k2 := h2
  have lt2 : ∀ x ∈ p2, x.block < W.heap.size := by obtain ⟨m, hm⟩ := k2; exact DataW.trod_lt m _ _ _ hm
  obtain ⟨n2, e2⟩ := okWide_int Try.underlying5 (hval 2 5 v2 rfl rfl)
  have w2 : Rd Try.prog W 5 v2 := by
    obtain ⟨fuel, hf⟩ := h2
    subst e2
    exact ⟨H, enc, fuel, _, by simpa [Value.cells] using hf⟩
  have k3 := h3
  have lt3 : ∀ x ∈ p3, x.block < W.heap.size := by obtain ⟨m, hm⟩ := k3; exact DataW.trod_lt m _ _ _ hm
  obtain ⟨a3, l3, c3, e3⟩ := okWide_slice Try.underlying24 (hval 3 24 v3 rfl rfl)
  have w3 : Rd Try.prog W 24 v3 := by
    obtain ⟨fuel, hf⟩ := h3
    subst e3
    exact ⟨H, enc, fuel, _, by simpa [Value.cells] using hf⟩
  clear hA0 hval0
  refine (walk v0 v1 v2 v3 W w0 w1 w2 w3).mono fun e W' ⟨he, bel⟩ => ?_
  subst he
  exact ⟨_, rfl, _, _, _, [], _, [], hW', trodAll_mk1 (shut_bool Try.underlying4 _), (trodAll_cons_mk (Below.trod laidOut (by kernel_rfl) (of_decide_eq_true (by kernel_rfl)) k0 bel lt0) (trodAll_cons_mk (Below.trod laidOut (by kernel_rfl) (of_decide_eq_true (by kernel_rfl)) k1 bel lt1) (trodAll_cons_mk (Below.trod laidOut (by kernel_rfl) (of_decide_eq_true (by kernel_rfl)) k2 bel lt2) (trodAll_cons_mk (Below.trod laidOut (by kernel_rfl) (of_decide_eq_true (by kernel_rfl)) k3 bel lt3) trodAll_mk0)))), rfl, bel.frame _, fun h => by cases h⟩

theorem over : Rows.fsKeptRow.holds Try.pinned (OpenSpec.ofChange Rows.fsKeptSpec) :=
  OpenClaim.holds_of_wide 3 Try.f3 rfl rfl rfl rfl rfl rfl rfl ⟨rfl, rfl, rfl, rfl, rfl⟩ rfl rfl rfl rfl rfl (by kernel_rfl) Try.func3 (by kernel_rfl)
    (of_decide_eq_true (by kernel_rfl)) (by unfold Func.isWrapper; first | (rw [if_pos (by decide +kernel)]; kernel_rfl) | (rw [if_neg (by decide +kernel)]; exact ⟨rfl, rfl⟩))
    (fun os started H enc _ => lifted os started H enc)

theorem proved : Rows.FsKeptSaid := over
#print axioms proved
end Go.Proofs.Ythmcmgbhjdfncaa.fsKept

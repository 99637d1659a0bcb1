/- Rows.LoserMergesSaid holds: for every input the law returns true and leaves its arguments as they were. Conditions: none beside the row's own. -/
import Derived.Test.YtifpiekajbcoiaaRows
import Derived.WalkKit
import Derived.ProofKit
import Derived.OpenShut
import Derived.ShutString
import Derived.ChangeOld
import Derived.Below
import Derived.Test.YtifpiekajbcoiaaArgs
import Derived.Test.YtifpiekajbcoiaaLoMg2
namespace Go.Proofs.Ytifpiekajbcoiaa.loserMerges
open Go.ChangeShapes Go.WideShapes Go.ChangeAt Go.RowKit
open Go.ChangeMaps (open_string shut_string)
open LoPlain
set_option linter.unusedVariables false
set_option linter.unusedSimpArgs false

theorem own : ownKnob Try.prog.godebug = none := by kernel_rfl
theorem laidOut : laidOutB Try.prog = true := by kernel_rfl


set_option maxRecDepth 100000 in
set_option maxHeartbeats 8000000 in
theorem walk (v0 : Value) (w : World) (w0 : Rd Try.prog w 41 v0) :
    Calls Try.prog 4 #[v0] w fun e w' => e = .returned (.bool true) ∧ Gr w w' := by
  obtain ⟨X, hX, hXm, hXb⟩ := liesBB_in Try.underlying41 w0
  clear w0
  unfold maxLen at hXm hXb
  have AW := Lib.hid (fun u (g : Gr w u) => (awake15_c u).mono (fun e v h => (⟨h.1, g.trans h.2⟩ : e = .returned (.bool true) ∧ Gr w v)))
  have hX' := hX
  obtain ⟨a0, c0, rfl, _⟩ := hX'
  obtain ⟨n, hn⟩ : ∃ n, X.length = n := ⟨_, rfl⟩
  rw [List.length_map, hn] at hX ⊢
  rw [hn] at hXm
  have HX := Lib.hid hX
  have HB := Lib.hid hXb
  have HN := Lib.hid hn
  have E0 := Lib.hid (show Frs [] from trivial)
  clear hX hXb hn
  by_cases h12 : n ≤ 12
  · have h12I : ¬ (12 : Int) < n := by omega
    obtain ⟨i0, hi, hz0, hz1, hz2⟩ := info_parts infoI
    obtain ⟨i1, hi1, hy0, hy1, hy2⟩ := info_parts infoB
    obtain ⟨i2, hi2, hx0, hx1, hx2⟩ := info_parts infoS
    go_enter Try.func4, Try.ntmps4
    go_wp2_with (first
      | (at_make; refine wpList_make_full _ rfl _ _ 42 rfl 0 3 i0 (.int .i64 0) 1 Try.underlying42 hi hz0 hz1 .i64 .i64 _ _ 4096 rfl rfl rfl rfl (by rw [hz2]; omega) (by unfold maxLen; omega) (Nat.zero_le _) ?_)
      | go_in)
    intro wm hownm hgrowm
    have HM := Lib.hid (mg_made hownm hgrowm)
    clear hownm hgrowm
    go_wp2_with fail
    go_loopw [3, 4, 5, 6, 8, 9] (fun vh vo vt vn cn i wr => M1 X w.heap.size 4096 w vh vo vt vn cn i wr) (fun _ _ _ _ _ i _ => n - (intOf i).toNat)
    case atStart => exact ⟨0, Nat.zero_le _, rfl, rfl, by simp, HM.out⟩
    case round =>
      obtain ⟨j, hj, rfl, rfl, hsh, hmg⟩ := hrel
      have hjn := HN.out
      rw [hjn] at hj
      by_cases hlt : j < n
      · obtain ⟨x, hx, hstep, hmem⟩ := take_gen (l := X) (j := j) (by omega)
        have hxb := (HB.out x hmem).2
        obtain ⟨b, off, xa, xc, rfl, hcx, hby⟩ := vv_at HX.out hx
        have CX := Lib.hid hcx
        have BY := Lib.hid hby
        have hD := doneL_le (X := X.take j) hsh j
        have hDe : doneL (X.take j) j = doneL X j := by unfold doneL; rw [List.take_take, Nat.min_self]
        rw [hDe] at hD
        have htj : (X.take j).length = j := by rw [List.length_take]; omega
        obtain ⟨OV, hOV⟩ : ∃ O, ((X.take j).map fun x => decide (x.length = 0)) = O := ⟨_, rfl⟩
        obtain ⟨HL, hHL⟩ : ∃ O, ((X.take j).map fun x => textS (firstN x)) = O := ⟨_, rfl⟩
        obtain ⟨TL, hTL⟩ : ∃ O, (List.replicate j (0 : Int)) = O := ⟨_, rfl⟩
        obtain ⟨NL, hNL⟩ : ∃ O, ((X.take j).map fun x => ((firstN x : Nat) : Int)) = O := ⟨_, rfl⟩
        rw [hOV, hHL, hTL, hNL] at hmg
        have lO : OV.length = j := by rw [← hOV, List.length_map, htj]
        have lH : HL.length = j := by rw [← hHL, List.length_map, htj]
        have lT : TL.length = j := by rw [← hTL, List.length_replicate]
        have lN : NL.length = j := by rw [← hNL, List.length_map, htj]
        have HOV := Lib.hid hOV
        have HHL := Lib.hid hHL
        have HTL := Lib.hid hTL
        have HNL := Lib.hid hNL
        have LO := Lib.hid lO
        have LH := Lib.hid lH
        have LT := Lib.hid lT
        have LN := Lib.hid lN
        obtain ⟨⟨ao, co, hshape1⟩, ⟨ah, ch, hshape2⟩, ⟨at', ct, hshape3, _⟩, ⟨an, cn', hshape4, _⟩⟩ := hmg.shape
        rw [lO] at hshape1
        rw [lH] at hshape2
        rw [lT] at hshape3
        rw [lN] at hshape4
        clear hOV hHL hTL hNL lO lH lT lN
        subst hshape1 hshape2 hshape3 hshape4
        have HTJ := Lib.hid htj
        have d0 := hcx wr hmg.only
        obtain ⟨m, hm⟩ : ∃ m, x.length = m := ⟨_, rfl⟩
        rw [hm] at d0
        have HMM := Lib.hid hm
        have HMG := Lib.hid hmg
        have HST := Lib.hid hstep
        have HSH := Lib.hid hsh
        have XB := Lib.hid hxb
        have HXX := Lib.hid hx
        obtain ⟨d, hd⟩ : ∃ d, (doneL X j).length = d := ⟨_, rfl⟩
        have HD := Lib.hid hd
        rw [hd] at hD ⊢
        by_cases hm12 : m ≤ 12
        · have hmI : ¬ (12 : Int) < m := by omega
          clear hcx hby hxb hstep hmem hx hDe hm hmg hsh hd htj
          go_wp2_with fail
          go_loopw [8, 10, 11] (fun cn v kk wr => M2 (doneL X j) x (.slice (some ⟨w.heap.size, 0, none⟩) 4096 4096) (.slice ah j ch) (.slice ao j co) (.slice at' j ct) (.slice an j cn') OV HL TL NL w cn v kk wr) (fun _ _ kk _ => m - (intOf kk).toNat)
          case atStart => exact ⟨0, Nat.zero_le _, rfl, rfl, by rw [HD.out]; rfl, by simpa using HMG.out⟩
          case round =>
            obtain ⟨k, hk, rfl, rfl, rfl, hmg⟩ := hrel
            have hkm := HMM.out
            have hdm := HD.out
            rw [hkm] at hk
            rw [hdm]
            have d1 := CX.out wr hmg.only
            rw [hkm] at d1
            have hsk := sum_le x k XB.out
            clear d0
            by_cases hlt2 : k < m
            · obtain ⟨bb, oo, rfl, hcell⟩ := BY.out (by omega)
              obtain ⟨y, hy⟩ : ∃ y, x[k]? = some y := ⟨x[k]'(by omega), List.getElem?_eq_getElem _⟩
              have d2 := hcell wr hmg.only k y hy
              have hy255 := XB.out y (List.mem_of_getElem? hy)
              have hs := sum_snoc x hy
              have hv := vals_snoc (x := x) (k := k) (by omega)
              rw [hs] at hv
              obtain ⟨s, hse⟩ : ∃ s, (x.take k).sum = s := ⟨_, rfl⟩
              rw [hse] at hs hv hsk ⊢
              have hvv : s + y < 4096 := by omega
              obtain ⟨e1, f1, st⟩ := mg_cnt E0.out hmg hvv
              have hcs := cnt_snoc (doneL X j ++ (vals x).take k) hvv
              rw [List.append_assoc, ← hv] at hcs
              have hcl : (doneL X j ++ (vals x).take k).count (s + y) ≤ 200 := by
                have h1 := List.count_le_length (a := s + y) (l := doneL X j ++ (vals x).take k)
                have h2 : ((vals x).take k).length ≤ k := by rw [List.length_take]; omega
                rw [List.length_append] at h1
                omega
              generalize (doneL X j ++ (vals x).take k).count (s + y) = q at e1 hcs hcl
              have ST := Lib.hid (st ((q : Int) + 1))
              have HCS := Lib.hid hcs
              have HS := Lib.hid hs
              have w1 : IntKind.i64.wrap (y : Int) = (y : Int) := IntWalk.i64_in _ (by omega)
              have w2 : ((s + y : Nat) : Int) = (s : Int) + (y : Int) := by omega
              have w3 : ((s : Int) + (y : Int)).toNat = s + y := by omega
              clear st hcs hs hv hcell hy hmg hse
              go_wp2_with fail
              refine ⟨⟨k + 1, by omega, rfl, by rw [HS.out, w2], by rw [HD.out]; rfl, by have := ST.out; rw [HCS.out] at this; exact this⟩, ?_⟩
              simp [intOf]; omega
            · obtain rfl : k = m := by omega
              have htk : (vals x).take k = vals x := List.take_of_length_le (by rw [vals_length]; omega)
              rw [htk] at hmg
              have DL := Lib.hid (show doneL X (j + 1) = doneL X j ++ vals x from doneL_snoc HST.out)
              have DS := Lib.hid (show (doneL X (j + 1)).length = d + k by rw [DL.out, List.length_append, vals_length, hdm, hkm])
              clear hsk htk
              by_cases hz : k = 0
              · subst hz
                have t0 : ((0 : Int) == 0) = true := rfl
                have FV := Lib.hid (show firstN x = 0 by unfold firstN; rw [List.eq_nil_of_length_eq_zero hkm]; rfl)
                have OWN := Lib.hid (show wr.ownsRow 0 4 1 (.slice ao j co) j (bools OV) from by have := hmg.own.1; rwa [LO.out] at this)
                have HM0 := Lib.hid hmg
                clear hmg
                go_wp2_with (first
                  | (at_builtin; refine wpList_append_own_at _ rfl _ _ 23 rfl 0 4 i1 (.bool false) 1 1 Try.underlying23 hi1 hy0 hy1 hy2 rfl (by decide) (.slice ao j co) j (bools OV) rfl (OWN.out.alloc _) ⟨wr.heap.size, 0, none⟩ 1 1 [.bool true] rfl rfl (cell_one_new _ _ _) (by simp [Value.oneCell']) (by unfold maxLen; omega) (by omega) (Nat.zero_le _) ?_)
                  | go_in)
                intro vo' w1 hown1 hgrow1 _ hat1
                have HG1 := Lib.hid (Mg.appO E0.out HM0.out (x := true) (Below.alloc (Below.refl _ _) (Nat.le_refl _) (.cells #[.bool true] 4)) (by rw [LO.out]; exact hown1) hgrow1 (by simpa using hat1))
                clear hown1 hgrow1 hat1
                have e1 := CX.out w1 HG1.out.only
                rw [HMM.out] at e1
                go_wp2_with fail
                refine (text_c 0 (by omega) _).mono ?_; rintro e w2 ⟨rfl, g2⟩
                have HG2 := Lib.hid (HG1.out.gr E0.out g2)
                have OWN2 := Lib.hid (show w2.ownsRow 0 9 1 (.slice ah j ch) j (strs HL) from by have := HG2.out.own.2.1; rwa [LH.out] at this)
                clear e1  g2
                go_wp2_with (first
                  | (at_builtin; refine wpList_append_own_at _ rfl _ _ 22 rfl 0 9 i2 (.string ⟨#[]⟩) 1 16 Try.underlying22 hi2 hx0 hx1 hx2 rfl (by decide) (.slice ah j ch) j (strs HL) rfl (OWN2.out.alloc _) ⟨w2.heap.size, 0, none⟩ 1 1 [.string (textS 0)] rfl rfl (cell_one_new _ _ _) (by simp [Value.oneCell']) (by unfold maxLen; omega) (by omega) (Nat.zero_le _) ?_)
                  | go_in)
                intro vh' w3 hown3 hgrow3 _ hat3
                have HG3 := Lib.hid (Mg.appH E0.out HG2.out (x := textS 0) (Below.alloc (Below.refl _ _) (Nat.le_refl _) (.cells #[.string (textS 0)] 9)) (by rw [LH.out]; exact hown3) hgrow3 (by simpa using hat3))
                have OWN3 := Lib.hid (show w3.ownsRow 0 3 1 (.slice at' j ct) j (ints TL) from by have := HG3.out.own.2.2.1; rwa [LT.out] at this)
                clear hown3 hgrow3 hat3
                go_wp2_with (first
                  | (at_builtin; refine wpList_append_own_at _ rfl _ _ 42 rfl 0 3 i0 (.int .i64 0) 1 8 Try.underlying42 hi hz0 hz1 hz2 rfl (by decide) (.slice at' j ct) j (ints TL) rfl (OWN3.out.alloc _) ⟨w3.heap.size, 0, none⟩ 1 1 [.int .i64 0] rfl rfl (cell_one_new _ _ _) (by simp [Value.oneCell']) (by unfold maxLen; omega) (by omega) (Nat.zero_le _) ?_)
                  | go_in)
                intro vt' w4 hown4 hgrow4 _ hat4
                have HG4 := Lib.hid (Mg.appT E0.out HG3.out (x := 0) (Below.alloc (Below.refl _ _) (Nat.le_refl _) (.cells #[.int .i64 0] 3)) (by rw [LT.out]; exact hown4) hgrow4 (by simpa using hat4))
                have OWN4 := Lib.hid (show w4.ownsRow 0 3 1 (.slice an j cn') j (ints NL) from by have := HG4.out.own.2.2.2; rwa [LN.out] at this)
                clear hown4 hgrow4 hat4
                go_wp2_with (first
                  | (at_builtin; refine wpList_append_own_at _ rfl _ _ 42 rfl 0 3 i0 (.int .i64 0) 1 8 Try.underlying42 hi hz0 hz1 hz2 rfl (by decide) (.slice an j cn') j (ints NL) rfl (OWN4.out.alloc _) ⟨w4.heap.size, 0, none⟩ 1 1 [.int .i64 0] rfl rfl (cell_one_new _ _ _) (by simp [Value.oneCell']) (by unfold maxLen; omega) (by omega) (Nat.zero_le _) ?_)
                  | go_in)
                intro vn' w5 hown5 hgrow5 _ hat5
                have HG5 := Lib.hid (Mg.appN E0.out HG4.out (x := 0) (Below.alloc (Below.refl _ _) (Nat.le_refl _) (.cells #[.int .i64 0] 3)) (by rw [LN.out]; exact hown5) hgrow5 (by simpa using hat5))
                clear hown5 hgrow5 hat5
                go_wp2_with fail
                refine ⟨⟨j + 1, by omega, rfl, by rw [DS.out]; rfl, by rw [HST.out]; intro z hz; rcases List.mem_append.1 hz with hz | hz; exact HSH.out z hz; simp at hz; subst hz; have := HMM.out; omega, ?_⟩, ?_⟩
                · have := HG5.out
                  rw [DL.out, HST.out, List.map_append, List.map_append, List.map_append, List.replicate_succ', HOV.out, HHL.out, HTL.out, HNL.out]
                  have hf := FV.out
                  have hlx := HMM.out
                  have hdz : decide (x.length = 0) = true := by rw [decide_eq_true_iff]; exact hlx
                  simp only [List.map_cons, List.map_nil, hf, hdz]
                  exact this
                · simp [intOf]; omega
              · have t0 : ((k : Int) == 0) = false := by simp; omega
                have t1 : (0 : Int) < k := by omega
                obtain ⟨bb, oo, rfl, hcell⟩ := BY.out (by omega)
                obtain ⟨y, hy⟩ : ∃ y, x[0]? = some y := ⟨x[0]'(by omega), List.getElem?_eq_getElem _⟩
                have hy255 := XB.out y (List.mem_of_getElem? hy)
                have w1' : IntKind.i64.wrap (y : Int) = (y : Int) := IntWalk.i64_in _ (by omega)
                have FV := Lib.hid (show firstN x = y by unfold firstN; rw [show 1 = 0 + 1 from rfl, sum_snoc x hy]; simp)
                have OWN := Lib.hid (show wr.ownsRow 0 4 1 (.slice ao j co) j (bools OV) from by have := hmg.own.1; rwa [LO.out] at this)
                have HM0 := Lib.hid hmg
                clear hmg
                go_wp2_with (first
                  | (at_builtin; refine wpList_append_own_at _ rfl _ _ 23 rfl 0 4 i1 (.bool false) 1 1 Try.underlying23 hi1 hy0 hy1 hy2 rfl (by decide) (.slice ao j co) j (bools OV) rfl (OWN.out.alloc _) ⟨wr.heap.size, 0, none⟩ 1 1 [.bool false] rfl rfl (cell_one_new _ _ _) (by simp [Value.oneCell']) (by unfold maxLen; omega) (by omega) (Nat.zero_le _) ?_)
                  | go_in)
                intro vo' w1 hown1 hgrow1 _ hat1
                have HG1 := Lib.hid (Mg.appO E0.out HM0.out (x := false) (Below.alloc (Below.refl _ _) (Nat.le_refl _) (.cells #[.bool false] 4)) (by rw [LO.out]; exact hown1) hgrow1 (by simpa using hat1))
                clear hown1 hgrow1 hat1
                have e1 := CX.out w1 HG1.out.only
                rw [HMM.out] at e1
                have e2 := hcell w1 HG1.out.only 0 y hy
                rw [Nat.add_zero] at e2
                go_wp2_with fail
                refine (text_c y (by omega) _).mono ?_; rintro e w2 ⟨rfl, g2⟩
                have HG2 := Lib.hid (HG1.out.gr E0.out g2)
                have OWN2 := Lib.hid (show w2.ownsRow 0 9 1 (.slice ah j ch) j (strs HL) from by have := HG2.out.own.2.1; rwa [LH.out] at this)
                clear e1 e2 g2
                go_wp2_with (first
                  | (at_builtin; refine wpList_append_own_at _ rfl _ _ 22 rfl 0 9 i2 (.string ⟨#[]⟩) 1 16 Try.underlying22 hi2 hx0 hx1 hx2 rfl (by decide) (.slice ah j ch) j (strs HL) rfl (OWN2.out.alloc _) ⟨w2.heap.size, 0, none⟩ 1 1 [.string (textS y)] rfl rfl (cell_one_new _ _ _) (by simp [Value.oneCell']) (by unfold maxLen; omega) (by omega) (Nat.zero_le _) ?_)
                  | go_in)
                intro vh' w3 hown3 hgrow3 _ hat3
                have HG3 := Lib.hid (Mg.appH E0.out HG2.out (x := textS y) (Below.alloc (Below.refl _ _) (Nat.le_refl _) (.cells #[.string (textS y)] 9)) (by rw [LH.out]; exact hown3) hgrow3 (by simpa using hat3))
                have OWN3 := Lib.hid (show w3.ownsRow 0 3 1 (.slice at' j ct) j (ints TL) from by have := HG3.out.own.2.2.1; rwa [LT.out] at this)
                clear hown3 hgrow3 hat3
                go_wp2_with (first
                  | (at_builtin; refine wpList_append_own_at _ rfl _ _ 42 rfl 0 3 i0 (.int .i64 0) 1 8 Try.underlying42 hi hz0 hz1 hz2 rfl (by decide) (.slice at' j ct) j (ints TL) rfl (OWN3.out.alloc _) ⟨w3.heap.size, 0, none⟩ 1 1 [.int .i64 0] rfl rfl (cell_one_new _ _ _) (by simp [Value.oneCell']) (by unfold maxLen; omega) (by omega) (Nat.zero_le _) ?_)
                  | go_in)
                intro vt' w4 hown4 hgrow4 _ hat4
                have HG4 := Lib.hid (Mg.appT E0.out HG3.out (x := 0) (Below.alloc (Below.refl _ _) (Nat.le_refl _) (.cells #[.int .i64 0] 3)) (by rw [LT.out]; exact hown4) hgrow4 (by simpa using hat4))
                have OWN4 := Lib.hid (show w4.ownsRow 0 3 1 (.slice an j cn') j (ints NL) from by have := HG4.out.own.2.2.2; rwa [LN.out] at this)
                clear hown4 hgrow4 hat4
                go_wp2_with (first
                  | (at_builtin; refine wpList_append_own_at _ rfl _ _ 42 rfl 0 3 i0 (.int .i64 0) 1 8 Try.underlying42 hi hz0 hz1 hz2 rfl (by decide) (.slice an j cn') j (ints NL) rfl (OWN4.out.alloc _) ⟨w4.heap.size, 0, none⟩ 1 1 [.int .i64 (y : Int)] rfl rfl (cell_one_new _ _ _) (by simp [Value.oneCell']) (by unfold maxLen; omega) (by omega) (Nat.zero_le _) ?_)
                  | go_in)
                intro vn' w5 hown5 hgrow5 _ hat5
                have HG5 := Lib.hid (Mg.appN E0.out HG4.out (x := (y : Int)) (Below.alloc (Below.refl _ _) (Nat.le_refl _) (.cells #[.int .i64 (y : Int)] 3)) (by rw [LN.out]; exact hown5) hgrow5 (by simpa using hat5))
                clear hown5 hgrow5 hat5
                go_wp2_with fail
                refine ⟨⟨j + 1, by omega, rfl, by rw [DS.out]; rfl, by rw [HST.out]; intro z hz; rcases List.mem_append.1 hz with hz | hz; exact HSH.out z hz; simp at hz; subst hz; have := HMM.out; omega, ?_⟩, ?_⟩
                · have := HG5.out
                  rw [DL.out, HST.out, List.map_append, List.map_append, List.map_append, List.replicate_succ', HOV.out, HHL.out, HTL.out, HNL.out]
                  have hf := FV.out
                  have hlx := HMM.out
                  have hdz : decide (x.length = 0) = false := by rw [decide_eq_false_iff_not]; omega
                  simp only [List.map_cons, List.map_nil, hf, hdz]
                  exact this
                · simp [intOf]; omega
        · have hmI : (12 : Int) < m := by omega
          clear hcx hby hxb hstep hmem hx hDe hm hsh hd htj
          go_wp2_with fail
          refine (AW.out _ hmg.end).mono ?_; rintro e v ⟨rfl, g⟩
          go_wp2_with fail
          go_ret
          exact ⟨rfl, g⟩
      · obtain rfl : j = n := by omega
        have htj : X.take j = X := List.take_of_length_le (by omega)
        rw [htj] at hmg hsh
        have hD := doneL_le (X := X) hsh j
        have hDe : doneL X j = (X.map vals).flatten := by unfold doneL; rw [htj]
        have PL := Lib.hid (Pl.start (X := X) (fun x hx => ⟨hsh x hx, (HB.out x hx).2⟩))
        have hlH : (X.map fun x => textS (firstN x)).length = j := by rw [List.length_map, hjn]
        have hlO : (X.map fun x => decide (x.length = 0)).length = j := by rw [List.length_map, hjn]
        have L1 := Lib.hid (show Lies wr u3 (X.map fun x => textS (firstN x)) from lies_own hmg.own.2.1)
        have L2 := Lib.hid (show LiesV wr u4 (bools (X.map fun x => decide (x.length = 0))) from liesV_ownB hmg.own.1)
        have NW := Lib.hid (lo_new_c L1.out L2.out (by rw [hlH]; omega) (by rw [hlO]; omega) (fun s hs => by obtain ⟨x, _, rfl⟩ := List.mem_map.1 hs; exact textS_small _))
        obtain ⟨ct, hct⟩ : ∃ ct, (doneL X j).length = ct := ⟨_, rfl⟩
        have HCT := Lib.hid (show (X.map vals).flatten.length = ct by rw [← hDe, hct])
        rw [hct] at hD ⊢
        have HMG := Lib.hid hmg
        have HDE := Lib.hid hDe
        obtain ⟨hd0, hhd0⟩ : ∃ h, mkL (X.map fun x => textS (firstN x)) (X.map fun x => decide (x.length = 0)) = h := ⟨_, rfl⟩
        rw [hhd0] at PL NW
        clear hmg hsh htj hDe hlH hlO hct hhd0
        go_wp2_with fail
        refine (NW.out).mono ?_; rintro e w2 ⟨⟨p, B1, rfl, hp, np⟩, g2⟩
        have HT := Lib.hid (HMG.out.tree hp np g2)
        clear hp np g2
        obtain ⟨OV, hOV⟩ : ∃ O, (X.map fun x => decide (x.length = 0)) = O := ⟨_, rfl⟩
        obtain ⟨HLs, hHL⟩ : ∃ O, (X.map fun x => textS (firstN x)) = O := ⟨_, rfl⟩
        have HM2 := Lib.hid (show Mg [LoA p hd0] (.slice (some ⟨w.heap.size, 0, none⟩) 4096 4096) u4 u3 u5 u6 (cntL (restL X (List.replicate X.length 0)).flatten) OV HLs ((List.replicate X.length 0).map fun q => ((q : Nat) : Int)) (X.map fun x => ((firstN x : Nat) : Int)) w w2 from by
          have h := HT.out
          rw [HDE.out, hOV, hHL] at h
          rw [rest_zero, List.map_replicate, HN.out]
          exact h)
        clear HT HMG L1 L2 NW hOV hHL
        go_wp2_with fail
        go_loopw [14, 15] (fun la nv wr => ∃ (nn : Nat) (A : List Nat) (now : List Int) (hd : List Hd) (last : Nat), nn ≤ ct ∧ nv = .int .i64 (nn : Int) ∧ la = .int .i64 (last : Int) ∧ Pl X A now hd last nn ct ∧
          Mg [LoA p hd] (.slice (some ⟨w.heap.size, 0, none⟩) 4096 4096) u4 u3 u5 u6 (cntL (restL X A).flatten) OV HLs (A.map fun q => ((q : Nat) : Int)) now w wr) (fun _ nv _ => ct - (intOf nv).toNat)
        case atStart => exact ⟨0, _, _, hd0, 0, Nat.zero_le _, rfl, rfl, by have := PL.out; rw [HCT.out] at this; exact this, HM2.out⟩
        case round =>
          obtain ⟨nn, A, now, hd, last, hnn, rfl, rfl, hpl, hmg⟩ := hrel
          have hjn := HN.out
          by_cases hlt : nn < ct
          · obtain ⟨i, x, a, v, K⟩ := hpl.pick hlt
            have hij : i < j := by have := (List.getElem?_eq_some_iff.1 K.hx).1; omega
            have lA : (A.map fun q => ((q : Nat) : Int)).length = j := by rw [List.length_map, hpl.la, hjn]
            have lN : now.length = j := by rw [hpl.ln, hjn]
            have lhd : hd.length ≤ 64 := by rw [hpl.lh, hjn]; omega
            obtain ⟨_, _, ⟨at3, ct', hs3, ht3⟩, ⟨an3, cn2, hs4, ht4⟩⟩ := hmg.shape
            rw [lA] at hs3 ht3
            rw [lN] at hs4 ht4
            obtain ⟨gt, rfl⟩ := ht3 (by omega)
            obtain ⟨gn, rfl⟩ := ht4 (by omega)
            subst hs3 hs4
            obtain ⟨b, off, xa, xc, rfl, hcx, hby⟩ := vv_at HX.out K.hx
            obtain ⟨m, hm⟩ : ∃ m, x.length = m := ⟨_, rfl⟩
            rw [hm] at hcx
            have HMM := Lib.hid hm
            have CX := Lib.hid hcx
            have BY := Lib.hid hby
            have KK := Lib.hid K
            have HPL := Lib.hid hpl
            have hal := K.lt
            have hup := K.up
            have hvle := K.le
            rw [hm] at hal
            have hm12 : m ≤ 12 := by rw [← hm]; exact (hpl.ok x (List.mem_of_getElem? K.hx)).1
            have EI : leastI hd = (i : Int) := by unfold leastI; rw [K.n]; omega
            have ATT := Lib.hid (fun u (k : Mg [LoA p hd] (.slice (some ⟨w.heap.size, 0, none⟩) 4096 4096) u4 u3 (.slice (some ⟨gt, 0, none⟩) j ct') (.slice (some ⟨gn, 0, none⟩) j cn2) (cntL (restL X A).flatten) OV HLs (A.map fun q => ((q : Nat) : Int)) now w u) => Mg.att (frs_one p hd) (g := gt) (c := ct') (i := i) (x := (a : Int)) (by rw [lA]; exact k) (by rw [List.getElem?_map, K.ha]; rfl))
            have NOW := Lib.hid (fun u (k : Mg [LoA p hd] (.slice (some ⟨w.heap.size, 0, none⟩) 4096 4096) u4 u3 (.slice (some ⟨gt, 0, none⟩) j ct') (.slice (some ⟨gn, 0, none⟩) j cn2) (cntL (restL X A).flatten) OV HLs (A.map fun q => ((q : Nat) : Int)) now w u) => Mg.now (frs_one p hd) (g := gn) (c := cn2) (i := i) (x := (v : Int)) (by rw [lN]; exact k) K.now)
            have CEL := Lib.hid (fun u (k : Mg [LoA p hd] (.slice (some ⟨w.heap.size, 0, none⟩) 4096 4096) u4 u3 (.slice (some ⟨gt, 0, none⟩) j ct') (.slice (some ⟨gn, 0, none⟩) j cn2) (cntL (restL X A).flatten) OV HLs (A.map fun q => ((q : Nat) : Int)) now w u) => (⟨(Mg.att (frs_one p hd) (g := gt) (c := ct') (i := i) (x := (a : Int)) (by rw [lA]; exact k) (by rw [List.getElem?_map, K.ha]; rfl)).1, (Mg.now (frs_one p hd) (g := gn) (c := cn2) (i := i) (x := (v : Int)) (by rw [lN]; exact k) K.now).1, hcx u k.only⟩ :
              u.cell? ⟨gt, i, none⟩ = some (.int .i64 (a : Int)) ∧ u.cell? ⟨gn, i, none⟩ = some (.int .i64 (v : Int)) ∧ u.cell? ⟨b, off + i, none⟩ = some (.slice xa m xc)))
            have LEA := Lib.hid (fun u (k : Mg [LoA p hd] (.slice (some ⟨w.heap.size, 0, none⟩) 4096 4096) u4 u3 (.slice (some ⟨gt, 0, none⟩) j ct') (.slice (some ⟨gn, 0, none⟩) j cn2) (cntL (restL X A).flatten) OV HLs (A.map fun q => ((q : Nat) : Int)) now w u) => Mg.call k (fun B q => lo_least_c lhd q))
            have HEA := Lib.hid (fun u (k : Mg [LoA p hd] (.slice (some ⟨w.heap.size, 0, none⟩) 4096 4096) u4 u3 (.slice (some ⟨gt, 0, none⟩) j ct') (.slice (some ⟨gn, 0, none⟩) j cn2) (cntL (restL X A).flatten) OV HLs (A.map fun q => ((q : Nat) : Int)) now w u) => Mg.call k (fun B q => lo_head_c lhd q))
            have GRM := Lib.hid (fun u u' (k : Mg [LoA p hd] (.slice (some ⟨w.heap.size, 0, none⟩) 4096 4096) u4 u3 (.slice (some ⟨gt, 0, none⟩) j ct') (.slice (some ⟨gn, 0, none⟩) j cn2) (cntL (restL X A).flatten) OV HLs (A.map fun q => ((q : Nat) : Int)) now w u) (g : Gr u u') => Mg.gr (frs_one p hd) k g)
            rw [EI, K.b] at LEA
            rw [K.head] at HEA
            have LHD := Lib.hid lhd
            have HMG := Lib.hid hmg
            clear hmg K hpl lA lN lhd hcx hby hm EI
            go_wp2_with fail
            refine (LEA.out _ HMG.out).mono ?_; rintro e w3 ⟨rfl, hg3⟩
            have HG3 := Lib.hid hg3
            clear hg3
            have q1 : decide ((i : Int) < 0) = false := by simp
            have q2 : decide ((j : Int) ≤ (i : Int)) = false := by simp; omega
            have q3 : decide ((m : Int) ≤ (a : Int)) = false := by simp; omega
            have q4 : decide ((v : Int) < (last : Int)) = false := by simp; omega
            have q5 : decide (j ≤ i) = false := by simp; omega
            have q6 : decide (m ≤ a) = false := by simp; omega
            have q7 : decide (v < last) = false := by simp; omega
            have hijI : (i : Int) < (j : Int) := by omega
            go_wp2_with fail
            refine text_region (S := fun u => Mg [LoA p hd] (.slice (some ⟨w.heap.size, 0, none⟩) 4096 4096) u4 u3 (.slice (some ⟨gt, 0, none⟩) j ct') (.slice (some ⟨gn, 0, none⟩) j cn2) (cntL (restL X A).flatten) OV HLs (A.map fun q => ((q : Nat) : Int)) now w u ∧ u.cell? ⟨gt, i, none⟩ = some (.int .i64 (a : Int)) ∧ u.cell? ⟨gn, i, none⟩ = some (.int .i64 (v : Int)) ∧ u.cell? ⟨b, off + i, none⟩ = some (.slice xa m xc)) (by kernel_rfl) (by kernel_rfl) (by kernel_rfl) (by have h := GRM.out _ _ HG3.out (show Gr w3 w3.drew from Below.drew (Gr.refl w3)); exact ⟨h, CEL.out _ h⟩) ?_
            repeat (first
              | (refine text_skip (by rfl) ?_; (try simp only [Act.put, List.setIfInBounds_toArray, List.set_cons_zero, List.set_cons_succ]))
              | (refine text_val (v := ?_) (by rfl) ?_ ?_; rotate_left 1; (· intro u hu; (try dsimp only at hu); go_simp <;> with_reducible rfl); (try simp only [Act.put, List.setIfInBounds_toArray, List.set_cons_zero, List.set_cons_succ]))
              | (refine text_call (fun u hu => ((HEA.out u hu.1).mono (fun e v' h => ⟨h.1, h.2, CEL.out _ h.2⟩))) (by rfl) ?_ ?_; (· intro u; go_simp); (try simp only [Act.put, List.setIfInBounds_toArray, List.set_cons_zero, List.set_cons_succ]))
              | (refine text_call (fun u hu => ((text_c v (by omega) u).mono (fun e v' h => ⟨h.1, GRM.out _ _ hu.1 h.2, CEL.out _ (GRM.out _ _ hu.1 h.2)⟩))) (by rfl) ?_ ?_; (· intro u; go_simp); (try simp only [Act.put, List.setIfInBounds_toArray, List.set_cons_zero, List.set_cons_succ])))
            refine text_done (fun w4 hu => ?_)
            have HG4 := Lib.hid hu.1
            obtain ⟨_, d1, d2, d3⟩ := hu
            have hcp := cnt_perm KK.out.perm
            have hv4 : v < 4096 := by omega
            obtain ⟨e1, f1, st⟩ := mg_cnt (frs_one p hd) (m := v :: (restL X (A.set i (a + 1))).flatten) (by have h := HG4.out; rw [hcp] at h; exact h) hv4
            have hpop := cnt_pop (restL X (A.set i (a + 1))).flatten hv4
            have hql : (v :: (restL X (A.set i (a + 1))).flatten).count v ≤ 200 := by
              have h1 := List.count_le_length (a := v) (l := v :: (restL X (A.set i (a + 1))).flatten)
              have h2 := KK.out.perm.length_eq
              have h3 := HPL.out.cnt
              omega
            generalize (v :: (restL X (A.set i (a + 1))).flatten).count v = q at e1 hpop hql
            have hg5 := st ((q : Int) - 1)
            rw [hpop] at hg5
            clear st hpop hcp q1 q2 q3 q4 q5 q6 q7
            obtain ⟨e2, f2, st2⟩ := Mg.att (frs_one p hd) (g := gt) (c := ct') (i := i) (x := (a : Int)) (by rw [List.length_map, HPL.out.la, hjn]; exact hg5) (by rw [List.getElem?_map, KK.out.ha]; rfl)
            have hg6 := st2 (((a + 1 : Nat) : Int))
            rw [show (A.map fun q => ((q : Nat) : Int)).set i (((a + 1 : Nat) : Int)) = ((A.set i (a + 1)).map fun q => ((q : Nat) : Int)) by rw [List.map_set]] at hg6
            rw [show (A.map fun q => ((q : Nat) : Int)).length = j by rw [List.length_map, HPL.out.la, hjn]] at hg6
            have hai : ((a + 1 : Nat) : Int) = (a : Int) + 1 := rfl
            rw [hai] at hg6
            have HG6 := Lib.hid hg6
            clear hg5 hg6 st2
            go_wp2_with fail
            obtain ⟨w6, hw6⟩ : ∃ w6, (w4.setCell ⟨w.heap.size, v, none⟩ (.int .i64 ((q : Int) - 1))).setCell ⟨gt, i, none⟩ (.int .i64 ((a : Int) + 1)) = w6 := ⟨_, rfl⟩
            rw [hw6]
            have HG := Lib.hid (show Mg [LoA p hd] (.slice (some ⟨w.heap.size, 0, none⟩) 4096 4096) u4 u3 (.slice (some ⟨gt, 0, none⟩) j ct') (.slice (some ⟨gn, 0, none⟩) j cn2) (cntL (restL X (A.set i (a + 1))).flatten) OV HLs ((A.set i (a + 1)).map fun q => ((q : Nat) : Int)) now w w6 from by rw [← hw6]; exact HG6.out)
            clear HG6 e1 f1 e2 f2 d1 d2 d3 hw6 HG4 HG3
            have GR7 := Lib.hid (fun u u' (k : Mg [LoA p hd] (.slice (some ⟨w.heap.size, 0, none⟩) 4096 4096) u4 u3 (.slice (some ⟨gt, 0, none⟩) j ct') (.slice (some ⟨gn, 0, none⟩) j cn2) (cntL (restL X (A.set i (a + 1))).flatten) OV HLs ((A.set i (a + 1)).map fun q => ((q : Nat) : Int)) now w u) (g : Gr u u') => Mg.gr (frs_one p hd) k g)
            have lA2 : ((A.set i (a + 1)).map fun q => ((q : Nat) : Int)).length = j := by rw [List.length_map, List.length_set, HPL.out.la, hjn]
            have lN2 : now.length = j := by rw [HPL.out.ln, hjn]
            have hAi : ((A.set i (a + 1)).map fun q => ((q : Nat) : Int))[i]? = some ((a : Int) + 1) := by rw [List.getElem?_map, List.getElem?_set_self (by rw [HPL.out.la, hjn]; exact hij)]; rfl
            have CE7 := Lib.hid (fun u (k : Mg [LoA p hd] (.slice (some ⟨w.heap.size, 0, none⟩) 4096 4096) u4 u3 (.slice (some ⟨gt, 0, none⟩) j ct') (.slice (some ⟨gn, 0, none⟩) j cn2) (cntL (restL X (A.set i (a + 1))).flatten) OV HLs ((A.set i (a + 1)).map fun q => ((q : Nat) : Int)) now w u) => (⟨(Mg.att (frs_one p hd) (g := gt) (c := ct') (i := i) (x := (a : Int) + 1) (by rw [lA2]; exact k) hAi).1, (Mg.now (frs_one p hd) (g := gn) (c := cn2) (i := i) (x := (v : Int)) (by rw [lN2]; exact k) KK.out.now).1, CX.out u k.only⟩ :
              u.cell? ⟨gt, i, none⟩ = some (.int .i64 ((a : Int) + 1)) ∧ u.cell? ⟨gn, i, none⟩ = some (.int .i64 (v : Int)) ∧ u.cell? ⟨b, off + i, none⟩ = some (.slice xa m xc)))
            have NW7 := Lib.hid (fun u (k : Mg [LoA p hd] (.slice (some ⟨w.heap.size, 0, none⟩) 4096 4096) u4 u3 (.slice (some ⟨gt, 0, none⟩) j ct') (.slice (some ⟨gn, 0, none⟩) j cn2) (cntL (restL X (A.set i (a + 1))).flatten) OV HLs ((A.set i (a + 1)).map fun q => ((q : Nat) : Int)) now w u) => Mg.now (frs_one p hd) (g := gn) (c := cn2) (i := i) (x := (v : Int)) (by rw [lN2]; exact k) KK.out.now)
            have LN2 := Lib.hid lN2
            clear lA2 hAi lN2
            by_cases hov : a + 1 = m
            · have o1 : ((a : Int) + 1 == (m : Int)) = true := by rw [beq_iff_eq]; omega
              have o2 : decide ((a : Int) + 1 = (m : Int)) = true := by rw [decide_eq_true_iff]; omega
              have NX := Lib.hid (fun u (k : Mg [LoA p hd] (.slice (some ⟨w.heap.size, 0, none⟩) 4096 4096) u4 u3 (.slice (some ⟨gt, 0, none⟩) j ct') (.slice (some ⟨gn, 0, none⟩) j cn2) (cntL (restL X (A.set i (a + 1))).flatten) OV HLs ((A.set i (a + 1)).map fun q => ((q : Nat) : Int)) now w u) => Mg.call k (fun B q => lo_next_c LHD.out ⟨#[]⟩ true (by decide) q))
              refine text_region (S := fun u => Mg [LoA p hd] (.slice (some ⟨w.heap.size, 0, none⟩) 4096 4096) u4 u3 (.slice (some ⟨gt, 0, none⟩) j ct') (.slice (some ⟨gn, 0, none⟩) j cn2) (cntL (restL X (A.set i (a + 1))).flatten) OV HLs ((A.set i (a + 1)).map fun q => ((q : Nat) : Int)) now w u ∧ u.cell? ⟨gt, i, none⟩ = some (.int .i64 ((a : Int) + 1)) ∧ u.cell? ⟨b, off + i, none⟩ = some (.slice xa m xc)) (by kernel_rfl) (by kernel_rfl) (by kernel_rfl) (by have h := GR7.out _ _ HG.out (show Gr w6 w6.drew from Below.drew (Gr.refl w6)); exact ⟨h, (CE7.out _ h).1, (CE7.out _ h).2.2⟩) ?_
              repeat (first
                | (refine text_skip (by rfl) ?_; (try simp only [Act.put, List.setIfInBounds_toArray, List.set_cons_zero, List.set_cons_succ]))
                | (refine text_val (v := ?_) (by rfl) ?_ ?_; rotate_left 1; (· intro u hu; (try dsimp only at hu); go_simp <;> with_reducible rfl); (try simp only [Act.put, List.setIfInBounds_toArray, List.set_cons_zero, List.set_cons_succ])))
              refine text_done (fun w7 hu => ?_)
              have HG7 := Lib.hid hu.1
              clear hu
              go_wp2_with fail
              refine (NX.out _ HG7.out).mono ?_; rintro e w8 ⟨rfl, hg8⟩
              have HG8 := Lib.hid hg8
              clear hg8
              go_wp2_with fail
              refine ⟨⟨nn + 1, A.set i (a + 1), now, _, v, by omega, rfl, rfl, HPL.out.next KK.out ⟨#[]⟩ true now HPL.out.ln (fun _ _ => rfl) (by have := HMM.out; rw [decide_eq_true (by omega)]) (fun h => by have := HMM.out; omega), HG8.out⟩, ?_⟩
              simp [intOf]; omega
            · have o1 : ((a : Int) + 1 == (m : Int)) = false := by rw [beq_eq_false_iff_ne]; omega
              have o2 : decide ((a : Int) + 1 = (m : Int)) = false := by rw [decide_eq_false_iff_not]; omega
              have ham : a + 1 < m := by omega
              obtain ⟨bb, oo, rfl, hcell⟩ := BY.out (by have := HMM.out; omega)
              obtain ⟨y, hy⟩ : ∃ y, x[a + 1]? = some y := ⟨x[a + 1]'(by have := HMM.out; omega), List.getElem?_eq_getElem _⟩
              have hy255 : y ≤ 255 := (HPL.out.ok x (List.mem_of_getElem? KK.out.hx)).2 y (List.mem_of_getElem? hy)
              have hsum : (x.take (a + 2)).sum = v + y := by rw [sum_snoc x hy, ← KK.out.hv]
              have HSUM := Lib.hid hsum
              have BY2 := Lib.hid (fun u (k : Mg [LoA p hd] (.slice (some ⟨w.heap.size, 0, none⟩) 4096 4096) u4 u3 (.slice (some ⟨gt, 0, none⟩) j ct') (.slice (some ⟨gn, 0, none⟩) j cn2) (cntL (restL X (A.set i (a + 1))).flatten) OV HLs ((A.set i (a + 1)).map fun q => ((q : Nat) : Int)) now w u) => hcell u k.only (a + 1) y hy)
              have NX := Lib.hid (fun u (k : Mg [LoA p hd] (.slice (some ⟨w.heap.size, 0, none⟩) 4096 4096) u4 u3 (.slice (some ⟨gt, 0, none⟩) j ct') (.slice (some ⟨gn, 0, none⟩) j cn2) (cntL (restL X (A.set i (a + 1))).flatten) OV HLs ((A.set i (a + 1)).map fun q => ((q : Nat) : Int)) (now.set i ((v : Int) + (y : Int))) w u) => Mg.call k (fun B q => lo_next_c LHD.out (textS (v + y)) false (textS_small _) q))
              have GR9 := Lib.hid (fun u u' (k : Mg [LoA p hd] (.slice (some ⟨w.heap.size, 0, none⟩) 4096 4096) u4 u3 (.slice (some ⟨gt, 0, none⟩) j ct') (.slice (some ⟨gn, 0, none⟩) j cn2) (cntL (restL X (A.set i (a + 1))).flatten) OV HLs ((A.set i (a + 1)).map fun q => ((q : Nat) : Int)) (now.set i ((v : Int) + (y : Int))) w u) (g : Gr u u') => Mg.gr (frs_one p hd) k g)
              clear hcell hy hsum
              refine text_region (S := fun u => Mg [LoA p hd] (.slice (some ⟨w.heap.size, 0, none⟩) 4096 4096) u4 u3 (.slice (some ⟨gt, 0, none⟩) j ct') (.slice (some ⟨gn, 0, none⟩) j cn2) (cntL (restL X (A.set i (a + 1))).flatten) OV HLs ((A.set i (a + 1)).map fun q => ((q : Nat) : Int)) now w u ∧ u.cell? ⟨gt, i, none⟩ = some (.int .i64 ((a : Int) + 1)) ∧ u.cell? ⟨b, off + i, none⟩ = some (.slice (some ⟨bb, oo, none⟩) m xc)) (by kernel_rfl) (by kernel_rfl) (by kernel_rfl) (by have h := GR7.out _ _ HG.out (show Gr w6 w6.drew from Below.drew (Gr.refl w6)); exact ⟨h, (CE7.out _ h).1, (CE7.out _ h).2.2⟩) ?_
              repeat (first
                | (refine text_skip (by rfl) ?_; (try simp only [Act.put, List.setIfInBounds_toArray, List.set_cons_zero, List.set_cons_succ]))
                | (refine text_val (v := ?_) (by rfl) ?_ ?_; rotate_left 1; (· intro u hu; (try dsimp only at hu); go_simp <;> with_reducible rfl); (try simp only [Act.put, List.setIfInBounds_toArray, List.set_cons_zero, List.set_cons_succ])))
              refine text_done (fun w7 hu => ?_)
              have HG7 := Lib.hid hu.1
              clear hu
              go_wp2_with fail
              obtain ⟨w8, hw8⟩ : ∃ w8, w7.drew = w8 := ⟨_, rfl⟩
              have hm8 : Mg [LoA p hd] (.slice (some ⟨w.heap.size, 0, none⟩) 4096 4096) u4 u3 (.slice (some ⟨gt, 0, none⟩) j ct') (.slice (some ⟨gn, 0, none⟩) j cn2) (cntL (restL X (A.set i (a + 1))).flatten) OV HLs ((A.set i (a + 1)).map fun q => ((q : Nat) : Int)) now w w8 := by rw [← hw8]; exact GR7.out _ _ HG7.out (Below.drew (Gr.refl w7))
              obtain ⟨n1, n2, nst⟩ := NW7.out _ hm8
              have HG9 := Lib.hid (show Mg [LoA p hd] (.slice (some ⟨w.heap.size, 0, none⟩) 4096 4096) u4 u3 (.slice (some ⟨gt, 0, none⟩) j ct') (.slice (some ⟨gn, 0, none⟩) j cn2) (cntL (restL X (A.set i (a + 1))).flatten) OV HLs ((A.set i (a + 1)).map fun q => ((q : Nat) : Int)) (now.set i ((v : Int) + (y : Int))) w (w8.setCell ⟨gn, i, none⟩ (.int .i64 ((v : Int) + (y : Int)))) from by have h := nst ((v : Int) + (y : Int)); rw [LN2.out] at h; exact h)
              have b8 := BY2.out _ hm8
              rw [show oo + (a + 1) = oo + (a + 1) from rfl] at b8
              have S8 := Lib.hid (ws2_all (S := fun u => u.cell? ⟨gt, i, none⟩ = some (.int .i64 ((a : Int) + 1)) ∧ u.cell? ⟨gn, i, none⟩ = some (.int .i64 (v : Int)) ∧ u.cell? ⟨b, off + i, none⟩ = some (.slice (some ⟨bb, oo, none⟩) m xc) ∧ u.cell? ⟨bb, oo + (a + 1), none⟩ = some (.int .u8 (y : Int))) (a := w8) (b := w8.setCell ⟨gn, i, none⟩ (.int .i64 ((v : Int) + (y : Int)))) ⟨(CE7.out _ hm8).1, (CE7.out _ hm8).2.1, (CE7.out _ hm8).2.2, b8⟩)
              have w1' : IntKind.i64.wrap (y : Int) = (y : Int) := IntWalk.i64_in _ (by omega)
              have w2' : ((a : Int) + 1).toNat = a + 1 := by omega
              have hamI : (a : Int) + 1 < (m : Int) := by omega
              have ha0 : (0 : Int) ≤ (a : Int) + 1 := by omega
              have w3' : IntKind.i64.wrap ((v : Int) + (y : Int)) = (v : Int) + (y : Int) := IntWalk.i64_in _ (by omega)
              clear nst hm8 b8
              refine textW_region [19] (Ws2 w8 (w8.setCell ⟨gn, i, none⟩ (.int .i64 ((v : Int) + (y : Int))))) (fun u => u.cell? ⟨gt, i, none⟩ = some (.int .i64 ((a : Int) + 1)) ∧ u.cell? ⟨gn, i, none⟩ = some (.int .i64 (v : Int)) ∧ u.cell? ⟨b, off + i, none⟩ = some (.slice (some ⟨bb, oo, none⟩) m xc) ∧ u.cell? ⟨bb, oo + (a + 1), none⟩ = some (.int .u8 (y : Int))) (by kernel_rfl) (by kernel_rfl) (by kernel_rfl) (by kernel_rfl) (by kernel_rfl) hw8.symm S8.out ?_
              iterate 19 (first
                | (refine textW_skip (by decide) (by rfl) ?_; (try simp only [Act.put, List.setIfInBounds_toArray, List.set_cons_zero, List.set_cons_succ]))
                | (refine textW_val (v := ?_) (by decide) (by rfl) ?_ ?_; rotate_left 1; (· intro u hu; (try dsimp only at hu); go_simp <;> with_reducible rfl); (try simp only [Act.put, List.setIfInBounds_toArray, List.set_cons_zero, List.set_cons_succ])))
              refine textW_store 0 rfl (by rfl) (by rfl) (by unfold Ws2; go_simp) ?_
              refine textW_done ?_
              dsimp only [Ws2, List.length]
              obtain ⟨w9, hw9⟩ : ∃ w9, w8.setCell ⟨gn, i, none⟩ (.int .i64 ((v : Int) + (y : Int))) = w9 := ⟨_, rfl⟩
              rw [hw9] at HG9 ⊢
              clear hw9 S8 n1 n2 hw8
              have d9 := (Mg.now (frs_one p hd) (g := gn) (c := cn2) (i := i) (x := (v : Int) + (y : Int)) (by rw [List.length_set, LN2.out]; exact HG9.out) (by rw [List.getElem?_set_self (by rw [LN2.out]; exact hij)])).1
              obtain ⟨z, hz⟩ : ∃ z, v + y = z := ⟨_, rfl⟩
              rw [show ((v : Int) + (y : Int)) = ((v + y : Nat) : Int) by omega, hz] at d9
              have nx2 := NX.out
              rw [hz] at nx2
              have NX2 := Lib.hid nx2
              have hz4 : z < 65536 := by omega
              have HZ := Lib.hid hz
              clear nx2 hz w1' w2' w3' ha0
              go_wp2_with fail
              refine (text_c z hz4 _).mono ?_; rintro e w10 ⟨rfl, g10⟩
              have HG10 := Lib.hid (GR9.out _ _ HG9.out g10)
              clear g10 d9
              go_wp2_with fail
              refine (NX2.out _ HG10.out).mono ?_; rintro e w11 ⟨rfl, hg11⟩
              have HG11 := Lib.hid hg11
              clear hg11
              go_wp2_with fail
              refine ⟨⟨nn + 1, A.set i (a + 1), now.set i ((v : Int) + (y : Int)), _, v, by omega, rfl, rfl, HPL.out.next KK.out (textS z) false _ (by rw [List.length_set]; exact HPL.out.ln) (fun k hk => List.getElem?_set_ne (Ne.symm hk)) (by have := HMM.out; rw [decide_eq_false (by omega)]) (fun h => by rw [HSUM.out]; exact ⟨by rw [HZ.out], by rw [List.getElem?_set_self (by rw [LN2.out]; exact hij)]; rfl⟩), HG11.out⟩, ?_⟩
              simp [intOf]; omega
          · obtain rfl : nn = ct := by omega
            obtain ⟨hre, hbl⟩ := hpl.end
            rw [hre] at hmg
            have lhd : hd.length ≤ 64 := by rw [hpl.lh, hjn]; omega
            have HBL := Lib.hid hbl
            have HLE := Lib.hid lhd
            have HMG := Lib.hid hmg
            clear hpl hmg hre hbl lhd
            have LEA := Lib.hid (fun u (k : Mg [LoA p hd] (.slice (some ⟨w.heap.size, 0, none⟩) 4096 4096) u4 u3 u5 u6 (cntL []) OV HLs (A.map fun q => ((q : Nat) : Int)) now w u) => Mg.call k (fun B q => lo_least_c HLE.out q))
            have ZER := Lib.hid (fun u (k : Mg [LoA p hd] (.slice (some ⟨w.heap.size, 0, none⟩) 4096 4096) u4 u3 u5 u6 (cntL []) OV HLs (A.map fun q => ((q : Nat) : Int)) now w u) (v : Nat) (hv : v < 4096) => (mg_cnt (frs_one p hd) (m := []) k hv).1)
            rw [HBL.out] at LEA
            go_wp2_with fail
            go_loopw [18] (fun iv wr => ∃ v : Nat, v ≤ 4096 ∧ iv = .int .i64 (v : Int) ∧ Mg [LoA p hd] (.slice (some ⟨w.heap.size, 0, none⟩) 4096 4096) u4 u3 u5 u6 (cntL []) OV HLs (A.map fun q => ((q : Nat) : Int)) now w wr) (fun iv _ => 4096 - (intOf iv).toNat)
            case atStart => exact ⟨0, Nat.zero_le _, rfl, HMG.out⟩
            case round =>
              obtain ⟨v, hv, rfl, hmg⟩ := hrel
              have HMV := Lib.hid hmg
              clear hmg
              by_cases hvl : v < 4096
              · have z1 := ZER.out _ HMV.out v hvl
                rw [List.count_nil] at z1
                go_wp2_with fail
                refine ⟨⟨v + 1, by omega, rfl, HMV.out⟩, ?_⟩
                simp [intOf]; omega
              · obtain rfl : v = 4096 := by omega
                go_wp2_with fail
                refine (LEA.out _ HMV.out).mono ?_; rintro e w3 ⟨rfl, hg3⟩
                have HG3 := Lib.hid hg3
                clear hg3
                go_wp2_with fail
                refine (AW.out _ HG3.out.end).mono ?_; rintro e w4 ⟨rfl, g⟩
                go_wp2_with fail
                go_ret
                exact ⟨rfl, g⟩
  · have h12I : (12 : Int) < n := by omega
    go_enter Try.func4, Try.ntmps4
    go_wp2_with fail
    refine (AW.out _ (Gr.refl _)).mono ?_; rintro e v ⟨rfl, g⟩
    go_wp2_with fail
    go_ret
    exact ⟨rfl, g⟩

set_option maxRecDepth 100000 in
theorem lifted (os : Os) (started : os.Started) (H : Type) (enc : TypeId × Value → H) :
    ReturnsInHanded {} Try.checked os 4 .any (Rows.loserMergesSpec.pre6 enc Try.prog Try.f4 Rows.loserMergesRow.domain false) (Rows.loserMergesSpec.post enc Try.prog Try.f4 false true false false) := by
  refine returnsInHanded_of_change (C := Try.checked) own started (by kernel_rfl) Try.func4
    (ChangeSpec.witness6 (enc := enc) (C := Try.checked) false ⟨#[], #[.slice none 0 0], []⟩ 8 (by kernel_rfl) (by kernel_rfl) (by kernel_rfl) (by kernel_rfl)) ?_
  intro W base args ds gs before hval0 hW hcnd _
  have hval : ∀ (j : Nat) t v, Try.f4.params[j]? = some t → args[j]? = some v → Value.okWide Try.prog W .any base t v := hval0
  have hW' := hW
  obtain ⟨p, q, hA0, hV, rfl, hfz, hnd⟩ := hW
  have hA : DataW.TrodAll enc Try.prog W 0 (fun _ => true) true Try.f4.params.toList args.toList ds p := hA0
  rw [Try.params4] at hA hval
  obtain ⟨v0, vs0, d0, ds0, p0, q0, hargs, rfl, rfl, h0, r0⟩ := trodAll_cons hA
  obtain ⟨rfl, rfl, rfl⟩ := trodAll_nil r0
  obtain rfl : args = #[v0] := by cases args; simp_all
  obtain ⟨rfl, rfl⟩ := trodVars_none hV
  have k0 := h0
  have lt0 : ∀ x ∈ p0, x.block < W.heap.size := by obtain ⟨m, hm⟩ := k0; exact DataW.trod_lt m _ _ _ hm
  obtain ⟨a0, l0, c0, e0⟩ := okWide_slice Try.underlying41 (hval 0 41 v0 rfl rfl)
  have w0 : Rd Try.prog W 41 v0 := by
    obtain ⟨fuel, hf⟩ := h0
    subst e0
    exact ⟨H, enc, fuel, _, by simpa [Value.cells] using hf⟩
  clear hA0 hval0
  refine (walk v0 W w0).mono fun e W' ⟨he, bel⟩ => ?_
  subst he
  exact ⟨_, rfl, _, _, _, [], _, [], hW', trodAll_mk1 (shut_bool Try.underlying4 _), (trodAll_cons_mk (Below.trod laidOut (by kernel_rfl) (of_decide_eq_true (by kernel_rfl)) k0 bel lt0) trodAll_mk0), rfl, bel.frame _, fun h => by cases h⟩

theorem over : Rows.loserMergesRow.holds Try.pinned (OpenSpec.ofChange Rows.loserMergesSpec) :=
  OpenClaim.holds_of_wide 4 Try.f4 rfl rfl rfl rfl rfl rfl rfl ⟨rfl, rfl, rfl, rfl, rfl⟩ rfl rfl rfl rfl rfl (by kernel_rfl) Try.func4 (by kernel_rfl)
    (of_decide_eq_true (by kernel_rfl)) (by unfold Func.isWrapper; first | (rw [if_pos (by decide +kernel)]; kernel_rfl) | (rw [if_neg (by decide +kernel)]; exact ⟨rfl, rfl⟩))
    (fun os started H enc _ => lifted os started H enc)

theorem proved : Rows.LoserMergesSaid := over
#print axioms proved
end Go.Proofs.Ytifpiekajbcoiaa.loserMerges

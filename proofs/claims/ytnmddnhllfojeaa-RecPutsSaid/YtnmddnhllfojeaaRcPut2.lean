/- The program's PutEdge and PutDraw. -/
import Derived.Test.YtnmddnhllfojeaaRcPut
import Derived.Test.YtnmddnhllfojeaaRcRef5
import Derived.Deep.RegionHeld3
namespace Go.Proofs.Ytnmddnhllfojeaa
open Go.RowKit OctPlain RcPlain
set_option linter.unusedVariables false
set_option linter.unusedSimpArgs false
set_option maxRecDepth 20000
theorem fit8 {l : Int} (h0 : 0 ≤ l) (h : I64 l) : fitsB l 8 = true := by
  unfold I64 at h
  unfold fitsB; rw [decide_eq_true_iff]
  refine ⟨⟨by decide, by decide⟩, h0, ?_⟩
  have : (256 : Int) ^ (8 : Int).toNat = 18446744073709551616 := by decide
  omega
theorem fit1 (k : Int) : fitsB k 1 = decide (0 ≤ k ∧ k ≤ 255) := by
  unfold fitsB
  have : (256 : Int) ^ (1 : Int).toNat = 256 := by decide
  apply Bool.eq_iff_iff.2
  simp only [decide_eq_true_iff]
  omega
theorem fit8_iff {l : Int} (h : I64 l) : fitsB l 8 = decide (0 ≤ l) := by
  cases h1 : fitsB l 8
  · apply Eq.symm; rw [decide_eq_false_iff_not]; intro h0; rw [fit8 h0 h] at h1; cases h1
  · apply Eq.symm; rw [decide_eq_true_iff]; unfold fitsB at h1; rw [decide_eq_true_iff] at h1; exact h1.2.1
theorem wr_four (a k b m c p d q : Int) (h : wrB [(a, k), (b, m), (c, p), (d, q)] = true) : wrS [(a, k), (b, m), (c, p), (d, q)] = ((putS a k ++ putS b m) ++ putS c p) ++ putS d q := by
  unfold wrS
  rw [if_pos h]
  simp only [wrL, List.append_nil]
  rw [← bs_app, ← bs_app, ← bs_app, bs_toList, bs_toList, bs_toList, bs_toList]
  apply ByteArray.ext
  simp [ByteArray.data_append, Array.append_assoc]
theorem wr_edge {f d i : Int} (nw : Bool) (hd : I64 d) (h : edgeB f d i = true) : wrB [(f, 4), (d, 8), (i, 4), (newN nw, 1)] = true ∧ wrS [(f, 4), (d, 8), (i, 4), (newN nw, 1)] = edgeS f d i nw := by
  have h' := h
  unfold edgeB at h'
  simp only [Bool.and_eq_true, decide_eq_true_eq] at h'
  obtain ⟨h1, h2, h3, _⟩ := h'
  have hb : wrB [(f, 4), (d, 8), (i, 4), (newN nw, 1)] = true := by
    have h4 : fitsB (newN nw) 1 = true := by rw [fit1]; cases nw <;> decide
    simp [wrB, id_fits h1, id_fits h2, fit8 h3 hd, h4]
  refine ⟨hb, ?_⟩
  rw [wr_four _ _ _ _ _ _ _ _ hb]
  unfold edgeS
  rw [if_pos h]
theorem wr_draw {o k l i : Int} (hl : I64 l) (h1 : idB o = true) (h2 : idB i = true) : wrB [(o, 4), (k, 1), (l, 8), (i, 4)] = drawB o k l i ∧ wrS [(o, 4), (k, 1), (l, 8), (i, 4)] = drawS o k l i := by
  have hb : wrB [(o, 4), (k, 1), (l, 8), (i, 4)] = drawB o k l i := by
    unfold wrB drawB
    simp only [List.all_cons, List.all_nil, Bool.and_true, id_fits h1, id_fits h2, h1, h2, fit1, fit8_iff hl, Bool.true_and, Bool.decide_and]
  refine ⟨hb, ?_⟩
  unfold drawS
  cases h : drawB o k l i
  · rw [if_neg (by simp)]; unfold wrS; rw [if_neg (by rw [hb, h]; simp)]
  · rw [if_pos rfl]; exact wr_four _ _ _ _ _ _ _ _ (by rw [hb, h])
set_option maxHeartbeats 1000000 in
theorem isdraw_c (o k l i : Int) (w : World) :
    Calls Try.prog 34 #[.agg #[.int .i64 o, .int .i64 k, .int .i64 l, .int .i64 i]] w fun e w' => e = .returned (.bool (idB o && idB i)) ∧ Gr w w' := by
  have A := Lib.hid (fun u => isid_c o u)
  have B := Lib.hid (fun u => isid_c i u)
  generalize idB o = b1 at A ⊢
  generalize idB i = b2 at B ⊢
  have HG := Lib.hid (gral14 w (.cells #[.int .i64 o, .int .i64 k, .int .i64 l, .int .i64 i] 37))
  cases b1
  · go_enter Try.func34, Try.ntmps34
    go_wp2_with fail
    refine (A.out _).mono ?_; rintro e u3 ⟨rfl, rfl⟩
    go_wp2_with fail
    go_ret
    exact ⟨ret_b14 rfl, HG.out⟩
  · go_enter Try.func34, Try.ntmps34
    go_wp2_with fail
    refine (A.out _).mono ?_; rintro e u3 ⟨rfl, rfl⟩
    go_wp2_with fail
    refine (B.out _).mono ?_; rintro e u3 ⟨rfl, rfl⟩
    go_wp2_with fail
    go_ret
    exact ⟨ret_b14 rfl, HG.out⟩
set_option maxHeartbeats 1000000 in
theorem isedge_c (f d i : Int) (nw : Bool) (w : World) :
    Calls Try.prog 32 #[.agg #[.int .i64 f, .int .i64 d, .int .i64 i, .bool nw]] w fun e w' => e = .returned (.bool (edgeB f d i)) ∧ Gr w w' := by
  have A := Lib.hid (fun u => isid_c f u)
  have B := Lib.hid (fun u => isid_c i u)
  have HB := Lib.hid (show edgeB f d i = (idB f && (idB i && decide (0 ≤ d ∧ d ≤ 4611686018427387904))) from rfl)
  generalize edgeB f d i = cb at HB ⊢
  generalize idB f = b1 at A HB
  generalize idB i = b2 at B HB
  have HG := Lib.hid (gral14 w (.cells #[.int .i64 f, .int .i64 d, .int .i64 i, .bool nw] 29))
  cases b1
  · have HQ := Lib.hid (show cb = false by rw [HB.out]; rfl)
    go_enter Try.func32, Try.ntmps32
    go_wp2_with fail
    refine (A.out _).mono ?_; rintro e u3 ⟨rfl, rfl⟩
    go_wp2_with fail
    go_ret
    exact ⟨ret_b14 HQ.out.symm, HG.out⟩
  · cases b2
    · have HQ := Lib.hid (show cb = false by rw [HB.out]; rfl)
      go_enter Try.func32, Try.ntmps32
      go_wp2_with fail
      refine (A.out _).mono ?_; rintro e u3 ⟨rfl, rfl⟩
      go_wp2_with fail
      refine (B.out _).mono ?_; rintro e u3 ⟨rfl, rfl⟩
      go_wp2_with fail
      go_ret
      exact ⟨ret_b14 HQ.out.symm, HG.out⟩
    · go_enter Try.func32, Try.ntmps32
      go_wp2_with fail
      refine (A.out _).mono ?_; rintro e u3 ⟨rfl, rfl⟩
      go_wp2_with fail
      refine (B.out _).mono ?_; rintro e u3 ⟨rfl, rfl⟩
      go_wp2_with fail
      all_goals
        go_ret
        refine ⟨ret_b14 ?_, HG.out⟩
        rw [HB.out]
        apply Bool.eq_iff_iff.2
        simp
        try omega
set_option maxHeartbeats 1000000 in
theorem putdraw_c (o k l i : Int) (ho : I64 o) (hk : I64 k) (hl : I64 l) (hi : I64 i) (w : World) :
    Calls Try.prog 13 #[.agg #[.int .i64 o, .int .i64 k, .int .i64 l, .int .i64 i]] w fun e w' => e = .returned (.tuple #[.string (drawS o k l i), .bool (drawB o k l i)]) ∧ Gr w w' := by
  obtain ⟨W, hW⟩ : ∃ W, w.alloc (.cells #[.int .i64 o, .int .i64 k, .int .i64 l, .int .i64 i] 37) = W := ⟨_, rfl⟩
  have gW : Gr w W := by rw [← hW]; exact gral14 _ _
  have c0 : Four14 w.heap.size 37 (.int .i64 o) (.int .i64 k) (.int .i64 l) (.int .i64 i) W := by rw [← hW]; exact Four14.new w _ _ _ _ _
  have HC := Lib.hid c0
  obtain ⟨⟨p0, p1, p2, p3⟩, _⟩ := c0.at
  have IP := Lib.hid (fun u => isdraw_c o k l i u)
  have WR := Lib.hid (fun u => write4_c o 4 k 1 l 8 i 4 ho ⟨by decide, by decide⟩ hk ⟨by decide, by decide⟩ hl ⟨by decide, by decide⟩ hi ⟨by decide, by decide⟩ u)
  have HY := Lib.hid (fun (h : (idB o && idB i) = true) => wr_draw (k := k) hl (by simp at h; exact h.1) (by simp at h; exact h.2))
  have HN := Lib.hid (fun (h : (idB o && idB i) = false) => (show drawB o k l i = false by unfold drawB; rw [← Bool.and_assoc, h]; rfl))
  have HE := Lib.hid (fun (h : drawB o k l i = false) => (show drawS o k l i = ⟨#[]⟩ by unfold drawS; rw [if_neg (by rw [h]; simp)]))
  generalize drawB o k l i = cb at HY HE HN ⊢
  generalize drawS o k l i = cs at HY HE ⊢
  generalize wrB [(o, 4), (k, 1), (l, 8), (i, 4)] = wb at WR HY
  generalize wrS [(o, 4), (k, 1), (l, 8), (i, 4)] = ws at WR HY
  generalize (idB o && idB i) = ib at IP HY HN
  clear c0 ho hk hl hi
  cases ib
  · have HQ := Lib.hid (HN.out rfl)
    go_enter Try.func13, Try.ntmps13
    go_wp2_with fail
    refine (IP.out _).mono ?_; rintro e u ⟨rfl, g⟩
    go_wp2_with fail
    go_ret2
    exact ⟨ret_sb (HE.out HQ.out).symm HQ.out.symm, gW.trans g⟩
  · obtain ⟨h1, h2⟩ := HY.out rfl
    subst h1 h2
    go_enter Try.func13, Try.ntmps13
    go_wp2_with fail
    refine (IP.out _).mono ?_; rintro e u ⟨rfl, g⟩
    obtain ⟨⟨e0, e1, e2, e3⟩, _⟩ := (HC.out.gr g).at
    clear p0 p1 p2 p3
    go_wp2_with fail
    refine (WR.out _).mono ?_; rintro e u2 ⟨rfl, g2⟩
    go_wp2_with fail
    go_ret2
    exact ⟨rfl, gW.trans (g.trans g2)⟩
set_option maxHeartbeats 2000000 in
theorem putedge_c (f d i : Int) (nw : Bool) (hf : I64 f) (hd : I64 d) (hi : I64 i) (w : World) :
    Calls Try.prog 11 #[.agg #[.int .i64 f, .int .i64 d, .int .i64 i, .bool nw]] w fun e w' => e = .returned (.tuple #[.string (edgeS f d i nw), .bool (edgeB f d i)]) ∧ Gr w w' := by
  obtain ⟨W, hW⟩ : ∃ W, w.alloc (.cells #[.int .i64 f, .int .i64 d, .int .i64 i, .bool nw] 29) = W := ⟨_, rfl⟩
  have gW : Gr w W := by rw [← hW]; exact gral14 _ _
  have c0 : Four14 w.heap.size 29 (.int .i64 f) (.int .i64 d) (.int .i64 i) (.bool nw) W := by rw [← hW]; exact Four14.new w _ _ _ _ _
  have HC := Lib.hid c0
  obtain ⟨⟨p0, p1, p2, p3⟩, _⟩ := c0.at
  have IP := Lib.hid (fun u => isedge_c f d i nw u)
  have WR := Lib.hid (fun u => write4_c f 4 d 8 i 4 (newN nw) 1 hf ⟨by decide, by decide⟩ hd ⟨by decide, by decide⟩ hi ⟨by decide, by decide⟩ (newN_64 nw) ⟨by decide, by decide⟩ u)
  have FL := Lib.hid (fun u => flagged_c nw u)
  have HY := Lib.hid (fun (h : edgeB f d i = true) => wr_edge nw hd h)
  have HE := Lib.hid (fun (h : edgeB f d i = false) => (show edgeS f d i nw = ⟨#[]⟩ by unfold edgeS; rw [if_neg (by rw [h]; simp)]))
  generalize edgeB f d i = cb at IP HY HE ⊢
  generalize edgeS f d i nw = cs at HY HE ⊢
  generalize wrB [(f, 4), (d, 8), (i, 4), (newN nw, 1)] = wb at WR HY
  generalize wrS [(f, 4), (d, 8), (i, 4), (newN nw, 1)] = ws at WR HY
  generalize newN nw = nn at WR FL
  clear c0 hf hd hi
  cases cb
  · go_enter Try.func11, Try.ntmps11
    go_wp2_with fail
    refine (IP.out _).mono ?_; rintro e u ⟨rfl, g⟩
    go_wp2_with fail
    go_ret2
    exact ⟨ret_sb (HE.out (by simp)).symm rfl, gW.trans g⟩
  · obtain ⟨h1, h2⟩ := HY.out rfl
    subst h1 h2
    go_enter Try.func11, Try.ntmps11
    go_wp2_with fail
    refine (IP.out _).mono ?_; rintro e u ⟨rfl, g⟩
    have kF := HC.out.gr g
    obtain ⟨⟨e0, e1, e2, e3⟩, _⟩ := kF.at
    have hlt := lt_of_block kF
    obtain ⟨N, hN⟩ : ∃ N, u.alloc (.cells #[.int .i64 d, .int .i64 i, .bool nw] 27) = N := ⟨_, rfl⟩
    have gN : Gr u N := by rw [← hN]; exact gral14 _ _
    have hltN : w.heap.size < N.heap.size := Nat.lt_of_lt_of_le hlt gN.size
    have hltM : u.heap.size < N.heap.size := by rw [← hN, World.size_alloc]; omega
    have d0 : N.cell? ⟨u.heap.size, 0, none⟩ = some (.int .i64 d) := by rw [← hN, World.cell?_alloc_new]; rfl
    have d1 : N.cell? ⟨u.heap.size, 1, none⟩ = some (.int .i64 i) := by rw [← hN, World.cell?_alloc_new]; rfl
    have d2 : N.cell? ⟨u.heap.size, 2, none⟩ = some (.bool nw) := by rw [← hN, World.cell?_alloc_new]; rfl
    have d3 : N.cell? ⟨w.heap.size, 0, none⟩ = some (.int .i64 f) := by rw [Below.cell gN (p := ⟨w.heap.size, 0, none⟩) hlt]; exact e0
    have SH := Lib.hid (fun v (q : Gr N v) => (⟨q, by rw [Below.cell q (p := ⟨w.heap.size, 0, none⟩) hltN]; exact d3, by rw [Below.cell q (p := ⟨u.heap.size, 0, none⟩) hltM]; exact d0, by rw [Below.cell q (p := ⟨u.heap.size, 1, none⟩) hltM]; exact d1, by rw [Below.cell q (p := ⟨u.heap.size, 2, none⟩) hltM]; exact d2⟩ :
      Gr N v ∧ v.cell? ⟨w.heap.size, 0, none⟩ = some (.int .i64 f) ∧ v.cell? ⟨u.heap.size, 0, none⟩ = some (.int .i64 d) ∧ v.cell? ⟨u.heap.size, 1, none⟩ = some (.int .i64 i) ∧ v.cell? ⟨u.heap.size, 2, none⟩ = some (.bool nw)))
    have FLS := Lib.hid (fun v (q : Gr N v) => (FL.out v).mono (fun e v' h => (⟨h.1, SH.out v' (h.2 ▸ q)⟩ : e = .returned (.int .i64 nn) ∧ _)))
    have WRS := Lib.hid (fun v (q : Gr N v) => (WR.out v).mono (fun e v' h => (⟨h.1, SH.out v' (q.trans h.2)⟩ : e = .returned (.tuple #[.string ws, .bool true]) ∧ _)))
    clear d3
    have gd : Gr N N.drew := Below.drew (Gr.refl N)
    clear p0 p1 p2 p3
    go_wp2_with fail
    go_region_held3 (fun v => Gr N v ∧ v.cell? ⟨w.heap.size, 0, none⟩ = some (.int .i64 f) ∧ v.cell? ⟨u.heap.size, 0, none⟩ = some (.int .i64 d) ∧ v.cell? ⟨u.heap.size, 1, none⟩ = some (.int .i64 i) ∧ v.cell? ⟨u.heap.size, 2, none⟩ = some (.bool nw))
      (first | exact SH.out _ gd | exact SH.out _ (by assumption) | exact SH.out _ (Gr.trans (by assumption) (gral14 _ _)) | assumption | go_keep)
      ((first
        | (go_at_call 33; (with_reducible refine (FLS.out _ (by assumption)).mono ?_); rintro e t2 ⟨rfl, hg, hk0, hk1, hk2, hk3⟩)
        | (go_at_call 27; (with_reducible refine (WRS.out _ (by assumption)).mono ?_); rintro e t2 ⟨rfl, hg, hk0, hk1, hk2, hk3⟩)))
    go_wp2_with fail
    go_ret2
    exact ⟨rfl, gW.trans (g.trans (gN.trans hg))⟩
end Go.Proofs.Ytnmddnhllfojeaa

/- What the program's rec asks of ids, pairs, edges and draws; its PutCell and PutPair. -/
import Derived.Test.YtnmddnhllfojeaaRcW
import Derived.Test.YtnmddnhllfojeaaRcRef2
import Derived.Test.YtnmddnhllfojeaaRcRef3
namespace Go.Proofs.Ytnmddnhllfojeaa
open Go.RowKit OctPlain RcPlain
set_option linter.unusedVariables false
set_option linter.unusedSimpArgs false
set_option maxRecDepth 20000
theorem id_fits {n : Int} (h : idB n = true) : fitsB n 4 = true := by
  unfold idB at h; rw [decide_eq_true_iff] at h
  unfold fitsB; rw [decide_eq_true_iff]
  refine ⟨⟨by decide, by decide⟩, h.1, ?_⟩
  have : (256 : Int) ^ (4 : Int).toNat = 4294967296 := by decide
  omega
theorem wr_pair {a b : Int} (h : pairB a b = true) : wrB [(a, 4), (b, 4)] = true ∧ wrS [(a, 4), (b, 4)] = pairS a b := by
  have h1 : idB a = true := by unfold pairB at h; simp at h; exact h.1
  have h2 : idB b = true := by unfold pairB at h; simp at h; exact h.2.1
  have hb : wrB [(a, 4), (b, 4)] = true := by simp [wrB, id_fits h1, id_fits h2]
  refine ⟨hb, ?_⟩
  unfold wrS pairS
  rw [if_pos hb, if_pos h]
  simp only [wrL, List.append_nil]
  rw [← bs_app, bs_toList, bs_toList]
theorem wr_id {a : Int} (h : idB a = true) : wrB [(a, 4)] = true ∧ wrS [(a, 4)] = putS a 4 := by
  have hb : wrB [(a, 4)] = true := by simp [wrB, id_fits h]
  refine ⟨hb, ?_⟩
  unfold wrS
  rw [if_pos hb]
  simp only [wrL, List.append_nil]
  rw [bs_toList]
theorem isid_c (n : Int) (w : World) :
    Calls Try.prog 26 #[.int .i64 n] w fun e w' => e = .returned (.bool (idB n)) ∧ w = w' := by
  unfold idB
  go_enter Try.func26, Try.ntmps26
  go_wp2_with fail
  all_goals
    go_ret
    refine ⟨ret_b14 ?_, rfl⟩
    apply Bool.eq_iff_iff.2
    simp
    try omega
theorem flagged_c (b : Bool) (w : World) :
    Calls Try.prog 33 #[.bool b] w fun e w' => e = .returned (.int .i64 (newN b)) ∧ w = w' := by
  cases b
  all_goals
    go_enter Try.func33, Try.ntmps33
    go_wp2_with fail
    go_ret
    exact ⟨rfl, rfl⟩
set_option maxHeartbeats 1000000 in
theorem ispair_c (a b : Int) (w : World) :
    Calls Try.prog 31 #[.agg #[.int .i64 a, .int .i64 b]] w fun e w' => e = .returned (.bool (pairB a b)) ∧ Gr w w' := by
  have A := Lib.hid (fun u => isid_c a u)
  have B := Lib.hid (fun u => isid_c b u)
  have HB := Lib.hid (show pairB a b = (idB a && (idB b && decide (a < b))) from rfl)
  generalize pairB a b = cb at HB ⊢
  generalize idB a = b1 at A HB
  generalize idB b = b2 at B HB
  have HG := Lib.hid (gral14 w (.cells #[.int .i64 a, .int .i64 b] 25))
  cases b1
  · have HQ := Lib.hid (show cb = false by rw [HB.out]; rfl)
    go_enter Try.func31, Try.ntmps31
    go_wp2_with fail
    refine (A.out _).mono ?_; rintro e u3 ⟨rfl, rfl⟩
    go_wp2_with fail
    go_ret
    exact ⟨ret_b14 HQ.out.symm, HG.out⟩
  · cases b2
    · have HQ := Lib.hid (show cb = false by rw [HB.out]; rfl)
      go_enter Try.func31, Try.ntmps31
      go_wp2_with fail
      refine (A.out _).mono ?_; rintro e u3 ⟨rfl, rfl⟩
      go_wp2_with fail
      refine (B.out _).mono ?_; rintro e u3 ⟨rfl, rfl⟩
      go_wp2_with fail
      go_ret
      exact ⟨ret_b14 HQ.out.symm, HG.out⟩
    · go_enter Try.func31, Try.ntmps31
      go_wp2_with fail
      refine (A.out _).mono ?_; rintro e u3 ⟨rfl, rfl⟩
      go_wp2_with fail
      refine (B.out _).mono ?_; rintro e u3 ⟨rfl, rfl⟩
      go_wp2_with fail
      all_goals
        go_ret
        refine ⟨ret_b14 ?_, HG.out⟩
        rw [HB.out]
        simp_all
        try omega
theorem write1_c (a k : Int) (ha : I64 a) (hk : I64 k) (u : World) :
    Calls Try.prog 27 #[.slice (some ⟨u.heap.size, 0, none⟩) 1 1] (u.alloc (.cells #[.int .i64 a, .int .i64 k] 60)) fun e w' => e = .returned (.tuple #[.string (wrS [(a, k)]), .bool (wrB [(a, k)])]) ∧ Gr u w' := by
  refine (write_c u.heap.size [(a, k)] _ (by simp) (by simp) ?_ ?_).mono (fun e w' h => ⟨h.1, (gral14 _ _).trans h.2⟩)
  · rintro (_ | j) f hf
    · cases hf
      constructor <;> (rw [World.cell?_alloc_new]; rfl)
    · simp at hf
  · intro f hf
    simp at hf; subst hf; exact ⟨ha, hk⟩
theorem write2_c (a k b m : Int) (ha : I64 a) (hk : I64 k) (hb : I64 b) (hm : I64 m) (u : World) :
    Calls Try.prog 27 #[.slice (some ⟨u.heap.size, 0, none⟩) 2 2] (u.alloc (.cells #[.int .i64 a, .int .i64 k, .int .i64 b, .int .i64 m] 60)) fun e w' => e = .returned (.tuple #[.string (wrS [(a, k), (b, m)]), .bool (wrB [(a, k), (b, m)])]) ∧ Gr u w' := by
  refine (write_c u.heap.size [(a, k), (b, m)] _ (by simp) (by simp) ?_ ?_).mono (fun e w' h => ⟨h.1, (gral14 _ _).trans h.2⟩)
  · rintro (_ | _ | j) f hf
    · cases hf
      constructor <;> (rw [World.cell?_alloc_new]; rfl)
    · cases hf
      constructor <;> (rw [World.cell?_alloc_new]; rfl)
    · simp at hf
  · intro f hf
    simp at hf; rcases hf with rfl | rfl
    · exact ⟨ha, hk⟩
    · exact ⟨hb, hm⟩
theorem write4_c (a k b m c p d q : Int) (ha : I64 a) (hk : I64 k) (hb : I64 b) (hm : I64 m) (hc : I64 c) (hp : I64 p) (hd : I64 d) (hq : I64 q) (u : World) :
    Calls Try.prog 27 #[.slice (some ⟨u.heap.size, 0, none⟩) 4 4] (u.alloc (.cells #[.int .i64 a, .int .i64 k, .int .i64 b, .int .i64 m, .int .i64 c, .int .i64 p, .int .i64 d, .int .i64 q] 60)) fun e w' => e = .returned (.tuple #[.string (wrS [(a, k), (b, m), (c, p), (d, q)]), .bool (wrB [(a, k), (b, m), (c, p), (d, q)])]) ∧ Gr u w' := by
  refine (write_c u.heap.size [(a, k), (b, m), (c, p), (d, q)] _ (by simp) (by simp) ?_ ?_).mono (fun e w' h => ⟨h.1, (gral14 _ _).trans h.2⟩)
  · rintro (_ | _ | _ | _ | j) f hf
    iterate 4
      · cases hf
        constructor <;> (rw [World.cell?_alloc_new]; rfl)
    · simp at hf
  · intro f hf
    simp at hf; rcases hf with rfl | rfl | rfl | rfl
    · exact ⟨ha, hk⟩
    · exact ⟨hb, hm⟩
    · exact ⟨hc, hp⟩
    · exact ⟨hd, hq⟩
set_option maxHeartbeats 1000000 in
theorem putpair_c (a b : Int) (ha : I64 a) (hb : I64 b) (w : World) :
    Calls Try.prog 9 #[.agg #[.int .i64 a, .int .i64 b]] w fun e w' => e = .returned (.tuple #[.string (pairS a b), .bool (pairB a b)]) ∧ Gr w w' := by
  obtain ⟨W, hW⟩ : ∃ W, w.alloc (.cells #[.int .i64 a, .int .i64 b] 25) = W := ⟨_, rfl⟩
  have gW : Gr w W := by rw [← hW]; exact Below.alloc (Below.refl _ _) (Nat.le_refl _) _
  have hz : w.heap.size < W.heap.size := by rw [← hW, World.size_alloc]; omega
  have c0 : W.cell? ⟨w.heap.size, 0, none⟩ = some (.int .i64 a) := by rw [← hW, World.cell?_alloc_new]; rfl
  have c1 : W.cell? ⟨w.heap.size, 1, none⟩ = some (.int .i64 b) := by rw [← hW, World.cell?_alloc_new]; rfl
  have SH := Lib.hid (fun u (g : Gr W u) => (⟨by rw [Below.cell g (p := ⟨w.heap.size, 0, none⟩) hz]; exact c0, by rw [Below.cell g (p := ⟨w.heap.size, 1, none⟩) hz]; exact c1⟩ : u.cell? ⟨w.heap.size, 0, none⟩ = some (.int .i64 a) ∧ u.cell? ⟨w.heap.size, 1, none⟩ = some (.int .i64 b)))
  have IP := Lib.hid (fun u => ispair_c a b u)
  have WR := Lib.hid (fun u => write2_c a 4 b 4 ha ⟨by decide, by decide⟩ hb ⟨by decide, by decide⟩ u)
  have HY := Lib.hid (fun (h : pairB a b = true) => wr_pair h)
  have HE := Lib.hid (fun (h : pairB a b = false) => (show pairS a b = ⟨#[]⟩ by unfold pairS; rw [if_neg (by rw [h]; simp)]))
  generalize pairB a b = cb at IP HY HE ⊢
  generalize pairS a b = cs at HY HE ⊢
  generalize wrB [(a, 4), (b, 4)] = wb at WR HY
  generalize wrS [(a, 4), (b, 4)] = ws at WR HY
  clear ha hb
  cases cb
  · go_enter Try.func9, Try.ntmps9
    go_wp2_with fail
    refine (IP.out _).mono ?_; rintro e u ⟨rfl, g⟩
    go_wp2_with fail
    go_ret2
    exact ⟨ret_sb (HE.out (by simp)).symm rfl, gW.trans g⟩
  · obtain ⟨h1, h2⟩ := HY.out rfl
    subst h1 h2
    go_enter Try.func9, Try.ntmps9
    go_wp2_with fail
    refine (IP.out _).mono ?_; rintro e u ⟨rfl, g⟩
    clear c0 c1
    obtain ⟨c0, c1⟩ := SH.out u g
    go_wp2_with fail
    refine (WR.out _).mono ?_; rintro e u2 ⟨rfl, g2⟩
    go_wp2_with fail
    go_ret2
    exact ⟨rfl, gW.trans (g.trans g2)⟩
set_option maxHeartbeats 1000000 in
theorem putcell_c (x y n : Int) (hx : I64 x) (hy : I64 y) (hn : I64 n) (w : World) :
    Calls Try.prog 7 #[.agg #[.int .i64 x, .int .i64 y], .int .i64 n] w fun e w' => e = .returned (.tuple #[.string (cellS x y n), .bool (cellB x y n)]) ∧ Gr w w' := by
  obtain ⟨W, hW⟩ : ∃ W, w.alloc (.cells #[.int .i64 x, .int .i64 y] 23) = W := ⟨_, rfl⟩
  have gW : Gr w W := by rw [← hW]; exact Below.alloc (Below.refl _ _) (Nat.le_refl _) _
  have hb : w.heap.size < W.heap.size := by rw [← hW, World.size_alloc]; omega
  have c1 : W.cell? ⟨w.heap.size, 0, none⟩ = some (.int .i64 x) := by rw [← hW, World.cell?_alloc_new]; rfl
  have c2 : W.cell? ⟨w.heap.size, 1, none⟩ = some (.int .i64 y) := by rw [← hW, World.cell?_alloc_new]; rfl
  have K2 := Lib.hid (fun u (g : Gr W u) => (show u.cell? ⟨w.heap.size, 1, none⟩ = some (.int .i64 y) by rw [Below.cell g (p := ⟨w.heap.size, 1, none⟩) hb]; exact c2))
  have C1 := Lib.hid (fun u => coord_c x hx u)
  have C2 := Lib.hid (fun u => coord_c y hy u)
  have ID := Lib.hid (fun u => isid_c n u)
  have WR := Lib.hid (fun u => write1_c n 4 hn ⟨by decide, by decide⟩ u)
  have HY := Lib.hid (fun (h : idB n = true) => wr_id h)
  have HB := Lib.hid (show cellB x y n = (coordB x && (coordB y && idB n)) from rfl)
  have HS := Lib.hid (fun (h : cellB x y n = true) => (show cellS x y n = (coordS x ++ coordS y) ++ putS n 4 by unfold cellS; rw [if_pos h]))
  have HE := Lib.hid (fun (h : cellB x y n = false) => (show cellS x y n = ⟨#[]⟩ by unfold cellS; rw [if_neg (by rw [h]; simp)]))
  generalize cellB x y n = cb at HB HS HE ⊢
  generalize cellS x y n = cs at HS HE ⊢
  generalize coordB x = b1 at C1 HB
  generalize coordB y = b2 at C2 HB
  generalize idB n = b3 at ID HB HY
  have z1 := coord_le x
  have z2 := coord_le y
  have z3 := put_le n 4
  generalize coordS x = s1 at C1 HS z1
  generalize coordS y = s2 at C2 HS z2
  generalize putS n 4 = s3 at HY HS z3
  generalize wrB [(n, 4)] = wb at WR HY
  generalize wrS [(n, 4)] = ws at WR HY
  clear c2 hx hy hn
  have key : ∀ (a1 a2 a3 : Bool), b1 = a1 → b2 = a2 → b3 = a3 → cb = (a1 && (a2 && a3)) := by rintro a1 a2 a3 rfl rfl rfl; exact HB.out
  cases b1
  · have HQ := Lib.hid (show cb = false by rw [HB.out]; rfl)
    clear key
    go_enter Try.func7, Try.ntmps7
    go_wp2_with fail
    refine (C1.out _).mono ?_; rintro e u ⟨rfl, g⟩
    have k2 := K2.out u g
    go_wp2_with fail
    refine (C2.out _).mono ?_; rintro e u2 ⟨rfl, g2⟩
    have gA := gW.trans (g.trans g2)
    clear k2 c1
    go_wp2_with fail
    go_ret2
    exact ⟨ret_sb (HE.out HQ.out).symm HQ.out.symm, gA⟩
  · cases b2
    · have HQ := Lib.hid (show cb = false by rw [HB.out]; rfl)
      clear key
      go_enter Try.func7, Try.ntmps7
      go_wp2_with fail
      refine (C1.out _).mono ?_; rintro e u ⟨rfl, g⟩
      have k2 := K2.out u g
      go_wp2_with fail
      refine (C2.out _).mono ?_; rintro e u2 ⟨rfl, g2⟩
      have gA := gW.trans (g.trans g2)
      clear k2 c1
      go_wp2_with fail
      go_ret2
      exact ⟨ret_sb (HE.out HQ.out).symm HQ.out.symm, gA⟩
    · cases b3
      · have HQ := Lib.hid (show cb = false by rw [HB.out]; rfl)
        clear key
        go_enter Try.func7, Try.ntmps7
        go_wp2_with fail
        refine (C1.out _).mono ?_; rintro e u ⟨rfl, g⟩
        have k2 := K2.out u g
        go_wp2_with fail
        refine (C2.out _).mono ?_; rintro e u2 ⟨rfl, g2⟩
        have gA := gW.trans (g.trans g2)
        clear k2 c1
        go_wp2_with fail
        refine (ID.out _).mono ?_; rintro e u3 ⟨rfl, rfl⟩
        go_wp2_with fail
        go_ret2
        exact ⟨ret_sb (HE.out HQ.out).symm HQ.out.symm, gA⟩
      · have HQ := Lib.hid (show cb = true by rw [HB.out]; rfl)
        obtain ⟨h1, h2⟩ := HY.out rfl
        subst h1 h2
        clear key
        go_enter Try.func7, Try.ntmps7
        go_wp2_with fail
        refine (C1.out _).mono ?_; rintro e u ⟨rfl, g⟩
        have k2 := K2.out u g
        go_wp2_with fail
        refine (C2.out _).mono ?_; rintro e u2 ⟨rfl, g2⟩
        have gA := gW.trans (g.trans g2)
        clear k2 c1
        go_wp2_with fail
        refine (ID.out _).mono ?_; rintro e u3 ⟨rfl, rfl⟩
        go_wp2_with fail
        refine (WR.out _).mono ?_; rintro e u4 ⟨rfl, g4⟩
        go_wp2_with fail
        go_ret2
        exact ⟨ret_sb (HS.out HQ.out).symm HQ.out.symm, gA.trans g4⟩
end Go.Proofs.Ytnmddnhllfojeaa

/- In one text: Rd7. -/
import Derived.Test.YtignfbdgpgidpaaGreatDoorW32
/- The program's reader: Next, Close, Count, Info. -/
namespace Go.Proofs.YtignfbdgpgidpaaGreatDoor
open Go.RowKit FsPlain CrcPlain OctPlain FramePlain RecPlain RdPlain
set_option linter.unusedVariables false
set_option linter.unusedSimpArgs false
set_option maxRecDepth 20000
theorem rsh_blk {x D P : Nat} {s : St} {b : Bu} {n k : Nat} {t : Bool} {w : World} {B : Nat → Prop} (h : RSh x D P s b n k t w B) : w.heap[x]? = some (.cells (rdshut n k t) 175 (0, 0)) := rol_blk h
set_option maxHeartbeats 2000000 in
theorem rp_closed (x D P : Nat) (m : N3) (hi : m.inv) (ho : m.x.opn = false) (w : World) (B : Nat → Prop) (h : RP3 x D P m w B) :
    Calls Tryz.prog 103 #[.pointer (some ⟨x, 0, none⟩)] w (Does w B (RP3 x D P m) (ansV (noneA (if m.x.bad = true then 14 else 0)))) := by
  have H := Lib.hid h
  have hb := rsh_blk (rp3_shut ho h)
  have c0 : w.cell? ⟨x, 0, none⟩ = some (.pointer none) := by rw [cells_at hb]; rfl
  have c10 : w.cell? ⟨x, 10, none⟩ = some (.bool m.x.whole) := by rw [cells_at hb]; rfl
  have CO := Lib.hid (ropen_no x w c0)
  have hw := hi.c ho
  obtain ⟨er, her⟩ : ∃ er : Int, er = (if m.x.bad = true then 14 else 0) := ⟨_, rfl⟩
  rw [← her]
  have CV : Calls Tryz.prog 134 #[.pointer (some ⟨x, 0, none⟩)] w fun e w' => e = .returned (.int .i64 er) ∧ w = w' := by
    rw [hw] at c10
    cases hb : m.x.bad
    · rw [hb] at c10 her; rw [her]; exact over_yes x w c10
    · rw [hb] at c10 her; rw [her]; exact over_no x w c10
  have CVH := Lib.hid CV
  clear h hb hi ho hw her CV c0 c10
  go_enter Tryz.func103, Tryz.ntmps103
  go_wp2_with fail
  refine CO.out.mono ?_; rintro e w2 ⟨rfl, rfl⟩
  go_wp2_with fail
  refine CVH.out.mono ?_; rintro e w2 ⟨rfl, rfl⟩
  go_wp2_with fail
  exact bodyPost_ret (v := ansV (noneA er)) (by simp [results, Tryz.results103, go_sem, ansV, noneA]) rfl ⟨rfl, B, H.out, Nx.refl _ _⟩
theorem ro_start {x D P : Nat} {m : N3} {t : Bool} {w : World} {B : Nat → Prop} (h : RO x D P m t w B) : w.cell? ⟨x, 0, none⟩ = some (.pointer (some ⟨D, 0, none⟩)) ∧ ∃ a c, w.cell? ⟨x, 6, none⟩ = some (.slice a m.x.queue.length c) := by
  obtain ⟨vq, h⟩ := h
  obtain ⟨_, hqa, _⟩ := part_at 2 rfl h
  obtain ⟨⟨a, c, rfl, _⟩, _⟩ := hqa
  have hb := rol_blk h
  exact ⟨by rw [cells_at hb]; rfl, a, c, by rw [cells_at hb]; rfl⟩
set_option maxHeartbeats 2000000 in
theorem rp_pop (x D P : Nat) (m : N3) (hok : m.ok) (ho : m.x.opn = true) (hq : m.x.queue ≠ []) (ht : m.x.told ≤ 100000) (w : World) (B : Nat → Prop) (h : RP3 x D P m w B) :
    Calls Tryz.prog 103 #[.pointer (some ⟨x, 0, none⟩)] w (Does w B (RP3 x D P (popN m).1) (ansV (popN m).2)) := by
  have h := rp3_open ho h
  obtain ⟨c0, a, c, c6⟩ := ro_start h
  obtain ⟨n, hn⟩ : ∃ n, m.x.queue.length = n := ⟨_, rfl⟩
  rw [hn] at c6
  have hn1 : 1 ≤ n := by rw [← hn]; exact List.length_pos_iff.2 hq
  have hn0 : ¬ (n : Int) = 0 := by omega
  have hn0' : ¬ n = 0 := by omega
  have CO := Lib.hid (ropen_yes x ⟨D, 0, none⟩ w c0)
  have CH := Lib.hid (r_hand x D P m hok.ql hq ht w B h)
  have HO := Lib.hid (show (popN m).1.x.opn = true from ho)
  obtain ⟨r, hr⟩ : ∃ r, r = (popN m).2.1 := ⟨_, rfl⟩
  have hv : (popN m).2 = (r, true, 0) := by rw [hr]; rfl
  rw [← hr] at CH
  rw [hv]
  clear h hok ho hq hn hr hv
  go_enter Tryz.func103, Tryz.ntmps103
  go_wp2_with fail
  refine CO.out.mono ?_; rintro e w2 ⟨rfl, rfl⟩
  go_wp2_with fail
  refine CH.out.mono ?_; rintro e w2 hd
  obtain ⟨rfl, B2, h2, n2⟩ := hd
  have H2 := Lib.hid h2
  have N2 := Lib.hid n2
  clear h2 n2 CH
  go_wp2_with fail
  exact bodyPost_ret (v := ansV (r, true, 0)) (by simp [results, Tryz.results103, go_sem, ansV]) rfl ⟨rfl, B2, .inl ⟨HO.out, H2.out⟩, N2.out⟩
theorem fill_shut {m : N3} (hi : m.inv) (ho : m.x.opn = true) (hq : m.x.queue = []) (hl : ¬ (loadN m).2.2 = 0 ∨ (loadN m).2.1 = true) : (fillN m).2 = noneA (loadN m).2.2 ∧ (fillN m).1.x.opn = false ∧ (fillN m).1.s = (loadN m).1.s ∧ (fillN m).1.b = (loadN m).1.b.give 4 ∧ (fillN m).1.x.told = (loadN m).1.x.told ∧ (fillN m).1.x.all = (loadN m).1.x.all ∧ (fillN m).1.x.whole = (loadN m).2.1 := by
  obtain ⟨h1, h2⟩ := hi.o ho
  have hw : wrongN m.asked = ⟨m.s.call, m.b.give 4, { m.x with bad := true, opn := false }⟩ := by
    unfold wrongN shutN; rw [if_pos (show m.asked.isBad.x.opn = true from ho)]; rfl
  have he : ∀ t, shutN (m.asked.ended t) = ⟨m.s.call, m.b.give 4, { m.x with whole := true, ec := eC t, em := eM t, opn := false }⟩ := by
    intro t; unfold shutN; rw [if_pos (show (m.asked.ended t).x.opn = true from ho)]; rfl
  by_cases k1 : errN m = 0
  · have n1 : ¬ ¬ errN m = 0 := fun h => h k1
    by_cases k2 : isEnd m.x (bytesN m)
    · have hL : loadN m = (m.asked, true, 0) := by unfold loadN; rw [if_neg n1, if_pos k2]
      have hF : fillN m = (shutN (m.asked.ended (bytesN m)), noneA 0) := by unfold fillN; rw [if_neg n1, if_pos k2]
      rw [hL, hF, he]
      exact ⟨rfl, rfl, rfl, rfl, rfl, rfl, rfl⟩
    · by_cases k3 : gB m.x.size (bytesN m) = false ∨ m.x.short = true
      · have hL : loadN m = (m.asked, false, 6) := by unfold loadN; rw [if_neg n1, if_neg k2, if_pos k3]
        have hF : fillN m = (wrongN m.asked, noneA 6) := by unfold fillN; rw [if_neg n1, if_neg k2, if_pos k3]
        rw [hL, hF, hw]
        exact ⟨rfl, rfl, rfl, rfl, rfl, rfl, h2⟩
      · have hL : loadN m = (m.asked.filled (bytesN m), false, 0) := by unfold loadN; rw [if_neg n1, if_neg k2, if_neg k3]
        rw [hL] at hl
        rcases hl with hl | hl
        · exact absurd rfl hl
        · cases hl
  · have hL : loadN m = (m.asked, false, errN m) := by unfold loadN; rw [if_pos k1]
    have hF : fillN m = (wrongN m.asked, noneA (errN m)) := by unfold fillN; rw [if_pos k1]
    rw [hL, hF, hw]
    exact ⟨rfl, rfl, rfl, rfl, rfl, rfl, h2⟩
theorem fill_block {m : N3} (hok : m.ok) (ho : m.x.opn = true) (hq : m.x.queue = []) (hl : (loadN m).2.2 = 0) (ht : (loadN m).2.1 = false) : fillN m = popN (loadN m).1 ∧ (loadN m).1.ok ∧ (loadN m).1.x.queue ≠ [] ∧ (loadN m).1.x.opn = true ∧ (loadN m).1.x.told = m.x.told := by
  by_cases k1 : errN m = 0
  · have n1 : ¬ ¬ errN m = 0 := fun h => h k1
    by_cases k2 : isEnd m.x (bytesN m)
    · have hL : loadN m = (m.asked, true, 0) := by unfold loadN; rw [if_neg n1, if_pos k2]
      rw [hL] at ht; cases ht
    · by_cases k3 : gB m.x.size (bytesN m) = false ∨ m.x.short = true
      · have hL : loadN m = (m.asked, false, 6) := by unfold loadN; rw [if_neg n1, if_neg k2, if_pos k3]
        rw [hL] at hl; simp at hl
      · have hL : loadN m = (m.asked.filled (bytesN m), false, 0) := by unfold loadN; rw [if_neg n1, if_neg k2, if_neg k3]
        have hF : fillN m = popN (m.asked.filled (bytesN m)) := by unfold fillN; rw [if_neg n1, if_neg k2, if_neg k3]
        rw [hL, hF]
        have hb : gB m.x.size (bytesN m) = true := by
          cases hb : gB m.x.size (bytesN m)
          · exact absurd (.inl hb) k3
          · rfl
        have hs := bytesN_size (m := m) k1
        obtain ⟨q1, q2⟩ := ok_filled (m := m.asked) (ok_asked hok) hb (by rw [hs]; exact ask_left _) hq
        exact ⟨rfl, q1, q2, ho, rfl⟩
  · have hL : loadN m = (m.asked, false, errN m) := by unfold loadN; rw [if_pos k1]
    rw [hL] at hl; exact absurd hl k1
set_option maxHeartbeats 2000000 in
theorem rp_fill_shut (x D P : Nat) (m : N3) (hok : m.ok) (hi : m.inv) (ho : m.x.opn = true) (hq : m.x.queue = []) (hc : m.s.calls ≤ 1000000000000) (hl : ¬ (loadN m).2.2 = 0 ∨ (loadN m).2.1 = true) (w : World) (B : Nat → Prop) (h : RP3 x D P m w B) :
    Calls Tryz.prog 103 #[.pointer (some ⟨x, 0, none⟩)] w (Does w B (RP3 x D P (fillN m).1) (ansV (fillN m).2)) := by
  have h := rp3_open ho h
  obtain ⟨c0, a, c, c6⟩ := ro_start h
  rw [hq] at c6
  obtain ⟨f1, f2, f3, f4, f5, f6, f7⟩ := fill_shut hi ho hq hl
  have CO := Lib.hid (ropen_yes x ⟨D, 0, none⟩ w c0)
  have CL := r_load x D P m hok hq hc w B h
  obtain ⟨⟨M, tt, ee⟩, hL⟩ : ∃ L, L = loadN m := ⟨_, rfl⟩
  rw [← hL] at CL f1 f3 f4 f5 f6 f7 hl
  have CS := Lib.hid (fun w1 B1 (h1 : RO x D P M tt w1 B1) => r_stop x D P M tt w1 B1 h1)
  have HF := Lib.hid (show ∀ w1 B1, RSh x D P M.s (M.b.give 4) M.x.told (sumN M.x.all) tt w1 B1 → RP3 x D P (fillN m).1 w1 B1 from fun w1 B1 h1 => .inr ⟨f2, by rw [f3, f4, f5, f6, f7]; exact h1⟩)
  rw [f1]
  have CLH := Lib.hid CL
  clear h hok hi ho hq hL f1 f2 f3 f4 f5 f6 f7 CL
  simp only [List.length_nil] at c6
  by_cases h0 : ee = 0
  · obtain rfl : tt = true := by rcases hl with hl | hl; exact absurd h0 hl; exact hl
    subst h0
    clear hl
    go_enter Tryz.func103, Tryz.ntmps103
    go_wp2_with fail
    refine CO.out.mono ?_; rintro e w2 ⟨rfl, rfl⟩
    go_wp2_with fail
    refine CLH.out.mono ?_; rintro e w2 hd
    obtain ⟨rfl, B2, h2, n2⟩ := hd
    obtain ⟨_, k2⟩ := ro_cells h2
    obtain ⟨_, _, _, c10, _⟩ := k2 _ (Gr.refl _)
    have CS1 := Lib.hid (CS.out w2 B2 h2)
    have N2 := Lib.hid n2
    clear h2 n2 CLH k2
    go_wp2_with fail
    refine CS1.out.mono ?_; rintro e w3 hd
    obtain ⟨rfl, B3, h3, n3⟩ := hd
    have H3 := Lib.hid (HF.out _ _ h3)
    have N3 := Lib.hid (N2.out.trans n3)
    clear h3 n3 CS1
    go_wp2_with fail
    exact bodyPost_ret (v := ansV (noneA 0)) (by simp [results, Tryz.results103, go_sem, ansV, noneA]) rfl ⟨rfl, B3, H3.out, N3.out⟩
  · have t1 : (ee == 0) = false := by simpa using h0
    have t2 : (ee != 0) = true := by simpa using h0
    clear hl h0
    go_enter Tryz.func103, Tryz.ntmps103
    go_wp2_with fail
    refine CO.out.mono ?_; rintro e w2 ⟨rfl, rfl⟩
    go_wp2_with fail
    refine CLH.out.mono ?_; rintro e w2 hd
    obtain ⟨rfl, B2, h2, n2⟩ := hd
    have CS1 := Lib.hid (CS.out w2 B2 h2)
    have N2 := Lib.hid n2
    clear h2 n2 CLH
    go_wp2_with fail
    refine CS1.out.mono ?_; rintro e w3 hd
    obtain ⟨rfl, B3, h3, n3⟩ := hd
    have H3 := Lib.hid (HF.out _ _ h3)
    have N3 := Lib.hid (N2.out.trans n3)
    clear h3 n3 CS1
    go_wp2_with fail
    exact bodyPost_ret (v := ansV (noneA ee)) (by simp [results, Tryz.results103, go_sem, ansV, noneA]) rfl ⟨rfl, B3, H3.out, N3.out⟩
set_option maxHeartbeats 2000000 in
theorem rp_fill_block (x D P : Nat) (m : N3) (hok : m.ok) (ho : m.x.opn = true) (hq : m.x.queue = []) (ht : m.x.told ≤ 100000) (hc : m.s.calls ≤ 1000000000000) (hl : (loadN m).2.2 = 0) (hl2 : (loadN m).2.1 = false) (w : World) (B : Nat → Prop) (h : RP3 x D P m w B) :
    Calls Tryz.prog 103 #[.pointer (some ⟨x, 0, none⟩)] w (Does w B (RP3 x D P (fillN m).1) (ansV (fillN m).2)) := by
  have h := rp3_open ho h
  obtain ⟨c0, a, c, c6⟩ := ro_start h
  rw [hq] at c6
  obtain ⟨f1, f2, f3, f4, f5⟩ := fill_block hok ho hq hl hl2
  have CO := Lib.hid (ropen_yes x ⟨D, 0, none⟩ w c0)
  have CL := r_load x D P m hok hq hc w B h
  obtain ⟨⟨M, tt, ee⟩, hL⟩ : ∃ L, L = loadN m := ⟨_, rfl⟩
  rw [← hL] at CL f1 f2 f3 f4 f5 hl hl2
  obtain rfl : tt = false := hl2
  obtain rfl : ee = 0 := hl
  rw [f1]
  obtain ⟨r, hr⟩ : ∃ r, r = (popN M).2.1 := ⟨_, rfl⟩
  have hv : (popN M).2 = (r, true, 0) := by rw [hr]; rfl
  have CH := Lib.hid (fun w1 B1 (h1 : RO x D P M false w1 B1) => r_hand x D P M f2.ql f3 (by rw [f5]; exact ht) w1 B1 h1)
  rw [← hr] at CH
  rw [hv]
  have HO := Lib.hid (show (popN M).1.x.opn = true from f4)
  have CLH := Lib.hid CL
  clear h hok ho hq hL f1 f2 f3 f4 f5 CL hr hv
  simp only [List.length_nil] at c6
  go_enter Tryz.func103, Tryz.ntmps103
  go_wp2_with fail
  refine CO.out.mono ?_; rintro e w2 ⟨rfl, rfl⟩
  go_wp2_with fail
  refine CLH.out.mono ?_; rintro e w2 hd
  obtain ⟨rfl, B2, h2, n2⟩ := hd
  obtain ⟨_, k2⟩ := ro_cells h2
  obtain ⟨_, _, _, c10, _⟩ := k2 _ (Gr.refl _)
  have CH1 := Lib.hid (CH.out w2 B2 h2)
  have N2 := Lib.hid n2
  clear h2 n2 CLH k2
  go_wp2_with fail
  refine CH1.out.mono ?_; rintro e w3 hd
  obtain ⟨rfl, B3, h3, n3⟩ := hd
  have H3 := Lib.hid h3
  have N3 := Lib.hid (N2.out.trans n3)
  clear h3 n3 CH1
  go_wp2_with fail
  exact bodyPost_ret (v := ansV (r, true, 0)) (by simp [results, Tryz.results103, go_sem, ansV]) rfl ⟨rfl, B3, .inl ⟨HO.out, H3.out⟩, N3.out⟩
theorem rp_next (x D P : Nat) (m : N3) (hok : m.ok) (hi : m.inv) (ht : m.x.told ≤ 50000) (hc : m.s.calls ≤ 1000000000000) (w : World) (B : Nat → Prop) (h : RP3 x D P m w B) :
    Calls Tryz.prog 103 #[.pointer (some ⟨x, 0, none⟩)] w (Does w B (RP3 x D P (nextN m).1) (ansV (nextN m).2)) := by
  unfold nextN
  cases ho : m.x.opn
  · exact rp_closed x D P m hi ho w B h
  · rw [if_neg (by decide)]
    by_cases hq : m.x.queue = []
    · rw [if_pos hq]
      by_cases hl : (loadN m).2.2 = 0
      · cases ht2 : (loadN m).2.1
        · exact rp_fill_block x D P m hok ho hq (by omega) hc hl ht2 w B h
        · exact rp_fill_shut x D P m hok hi ho hq hc (.inr ht2) w B h
      · exact rp_fill_shut x D P m hok hi ho hq hc (.inl hl) w B h
    · rw [if_neg hq]
      exact rp_pop x D P m hok ho hq (by omega) w B h
theorem rp_cells {x D P : Nat} {m : N3} (hi : m.inv) {w : World} {B : Nat → Prop} (h : RP3 x D P m w B) : x < w.heap.size ∧ w.cell? ⟨x, 8, none⟩ = some (.int .i64 (m.x.told : Nat)) ∧ w.cell? ⟨x, 9, none⟩ = some (.int .u32 (sumN m.x.all : Nat)) ∧ w.cell? ⟨x, 10, none⟩ = some (.bool m.x.whole) := by
  rcases h with ⟨ho, h⟩ | ⟨ho, h⟩
  · obtain ⟨hx, k⟩ := ro_cells h
    obtain ⟨_, k8, k9, k10, _⟩ := k _ (Gr.refl _)
    exact ⟨hx, k8, k9, by rw [(hi.o ho).2]; exact k10⟩
  · have hb := rsh_blk h
    exact ⟨lt_of_block hb, by rw [cells_at hb]; rfl, by rw [cells_at hb]; rfl, by rw [cells_at hb]; rfl⟩
set_option maxHeartbeats 2000000 in
theorem rp_info (x D P : Nat) (m : N3) (hi : m.inv) (w : World) (B : Nat → Prop) (h : RP3 x D P m w B) :
    Calls Tryz.prog 104 #[.pointer (some ⟨x, 0, none⟩)] w fun e w' => e = .returned (.tuple #[.agg #[.int .i64 m.x.ec, .int .u32 m.x.em], .bool m.x.whole]) ∧ Gr w w' := by
  obtain ⟨hx, c8, c9, c10⟩ := rp_cells hi h
  have e0 := hi.e0
  have e1 := hi.e1
  clear h hi
  obtain ⟨W, hW⟩ : ∃ W, W = w.alloc (.cells #[.int .i64 0, .int .u32 0] 50) := ⟨_, rfl⟩
  have g0 : Gr w W := by rw [hW]; exact Below.alloc (Below.refl _ _) (Nat.le_refl _) _
  have d10 : W.cell? ⟨x, 10, none⟩ = some (.bool m.x.whole) := (g0.cell (p := ⟨x, 10, none⟩) hx).trans c10
  have TN : ∀ u, Gr W u → Two w w.heap.size (.int .i64 0) (.int .u32 0) u := fun u g => two_new w _ _ 50 (by rw [← hW]; exact g)
  cases hw : m.x.whole
  · obtain ⟨h1, h2⟩ := e0 hw
    rw [h1, h2]
    rw [hw] at d10 c10
    have hT := TN W (Gr.refl _)
    obtain ⟨hlt2, b0, b1, f0, f1⟩ := hT
    have HW := Lib.hid hW
    clear hW TN e0 e1 h1 h2 hw c8 c9
    go_enter Tryz.func104, Tryz.ntmps104
    go_wp2_with fail
    rw [← HW.out]
    exact bodyPost_ret (v := .tuple #[.agg #[.int .i64 0, .int .u32 0], .bool false]) (two_ret Tryz.results104 rfl rfl b0 b1) rfl ⟨rfl, g0⟩
  · obtain ⟨h1, h2⟩ := e1 hw
    rw [h1, h2]
    rw [hw] at d10 c10
    obtain ⟨k, hk⟩ : ∃ k, k = sumN m.x.all := ⟨_, rfl⟩
    rw [← hk] at c9 ⊢
    have CI := Lib.hid (rinfo_at x m.x.told k W (Nat.lt_of_lt_of_le hx g0.size) ((g0.cell (p := ⟨x, 8, none⟩) hx).trans c8) ((g0.cell (p := ⟨x, 9, none⟩) hx).trans c9))
    have HW := Lib.hid hW
    have TH := Lib.hid TN
    have G0 := Lib.hid g0
    clear hW TN e0 e1 h1 h2 hw c8 c9 hk
    go_enter Tryz.func104, Tryz.ntmps104
    go_wp2_with fail
    rw [← HW.out]
    refine CI.out.mono ?_; rintro e u ⟨rfl, g1⟩
    have hT := TH.out u g1
    obtain ⟨V, hV, v0, v1, gV⟩ := two_set hT (.int .i64 (m.x.told : Nat)) (.int .u32 (k : Nat)) (G0.out.trans g1) (Nat.le_refl _)
    obtain ⟨hlt2, b0, b1, f0, f1⟩ := hT
    have HV := Lib.hid hV
    clear hV CI g1
    go_wp2_with fail
    rw [← HV.out]
    exact bodyPost_ret (v := .tuple #[.agg #[.int .i64 (m.x.told : Nat), .int .u32 (k : Nat)], .bool true]) (two_ret Tryz.results104 rfl rfl v0 v1) rfl ⟨rfl, gV⟩
end Go.Proofs.YtignfbdgpgidpaaGreatDoor

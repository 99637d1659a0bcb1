/- The contract of the document's GetEnd. -/
import Derived.Test.YtkmkhlhgnjoecaaFrameGetEnd
import Derived.Test.YtkmkhlhgnjoecaaFrameRget
namespace Go.Proofs.Ytkmkhlhgnjoecaa
open Go.RowKit CrcPlain OctPlain FramePlain
set_option linter.unusedVariables false
set_option linter.unusedSimpArgs false
theorem rgetend_short (s : ByteArray) (w : World) (h : ¬ s.size = 17) :
    Calls Try.prog 14 #[.string s] w (EGot s w) := by
  have hb : eB s = false := by unfold eB; rw [decide_eq_false h]; rfl
  have HB := Lib.hid hb
  clear hb
  have h1 : (((s.size : Int)) != 17) = true := by simpa using (by omega : ¬ (s.size : Int) = 17)
  go_enter Try.func14, Try.ntmps14
  go_wp2_with fail
  refine bodyPost_ret (v := .tuple #[.agg #[.int .i64 0, .int .u32 0], .bool false]) ?_ rfl (egot_no HB.out ?_)
  · rw [results_cell_tmp Try.results14]
    simp [go_sem]
  · exact Gr.of (by go_grown)
theorem rgetend_head (s : ByteArray) (w : World) (h : s.size = 17) (h0 : ¬ cntN s = 0) :
    Calls Try.prog 14 #[.string s] w (EGot s w) := by
  have hb : eB s = false := by unfold eB; rw [decide_eq_false h0, Bool.and_false]; rfl
  have HB := Lib.hid hb
  have X := index_0 s (by omega)
  have h2 : (((cntN s : Int)) != 0) = true := by simpa using h0
  generalize cntN s = c at X h2
  clear hb h0
  have h1 : (((s.size : Int)) != 17) = false := by simpa using (by omega : (s.size : Int) = 17)
  clear h
  go_enter Try.func14, Try.ntmps14
  go_wp2_with fail
  refine bodyPost_ret (v := .tuple #[.agg #[.int .i64 0, .int .u32 0], .bool false]) ?_ rfl (egot_no HB.out ?_)
  · rw [results_cell_tmp Try.results14]
    simp [go_sem]
  · exact Gr.of (by go_grown)

theorem two_new2 (w : World) (a b : Value) (T : TypeId) (o : Obj) {u : World} (g : Gr ((w.alloc o).alloc (.cells #[a, b] T)) u) : Two w (w.heap.size + 1) a b u := by
  have h := two_new (w.alloc o) a b T g
  rw [World.size_alloc] at h
  exact ⟨h.lt, h.c0, h.c1, h.f0, h.f1⟩
theorem rgetend_open (s : ByteArray) (w : World) (h : s.size = 17) (h0 : cntN s = 0) :
    Calls Try.prog 14 #[.string s] w (EGot s w) := by
  have hbe : eB s = (opB s && (getB s 1 8 && decide (getN s 1 8 ≤ 4611686018427387904))) := by unfold eB; rw [decide_eq_true h, decide_eq_true h0]; rfl
  have X := index_0 s (by omega)
  rw [h0] at X
  have G8 := fun u => rget_c s 1 8 (by unfold I64; omega) (by unfold I64; omega) u (by omega)
  have G4 := fun u => rget_c s 9 4 (by unfold I64; omega) (by unfold I64; omega) u (by omega)
  obtain ⟨m, hm, q1, q2, q3⟩ := get4_lt s (by omega)
  rw [q1, q3] at G4
  have h1 : (((s.size : Int)) != 17) = false := by simpa using (by omega : (s.size : Int) = 17)
  have HQ := Lib.hid q1
  have hm32 : (m : Int) % 4294967296 = (m : Int) := by omega
  have hm0 : (0 : Int) ≤ (m : Int) := by omega
  have hm1 : (m : Int) < 4294967296 := by omega
  cases hg : getB s 1 8
  · have hb : eB s = false := by rw [hbe, hg, Bool.false_and, Bool.and_false]
    have HB := Lib.hid hb
    have hn0 := getN_no hg
    rw [hg, hn0] at G8
    have P := fun u => rfputend_c 0 (by unfold I64; omega) m hm u
    clear hb h0 h hbe hg hn0 q1 q2 q3
    generalize peS 0 m = ps at P
    generalize peB 0 = pb at P
    go_enter Try.func14, Try.ntmps14
    go_wp2_with fail
    refine (G8 _).mono ?_; rintro e u ⟨rfl, rfl⟩
    go_wp2_with fail
    refine (G4 _).mono ?_; rintro e u ⟨rfl, rfl⟩
    go_wp2_with fail
    refine (P _).mono ?_; rintro e u ⟨rfl, g⟩
    have hw := two_new _ _ _ _ (Gr.trans (Below.alloc (Below.refl _ _) (Nat.le_refl _) _) g)
    obtain ⟨W, hW, d0, d1, gW⟩ := two_set hw (.int .i64 0) (.int .u32 0) (Gr.trans (Below.alloc (Below.refl _ _) (Nat.le_refl _) _) (Gr.trans (Below.alloc (Below.refl _ _) (Nat.le_refl _) _) g)) (Nat.le_refl _)
    have HW := Lib.hid hW
    obtain ⟨_, c0, c1, f0, f1⟩ := hw
    clear hW
    go_wp2_with fail
    rw [← HW.out]
    exact bodyPost_ret (two_ret Try.results14 rfl rfl d0 d1) rfl (egot_no HB.out gW)
  · obtain ⟨n, p1, p2⟩ := get8_yes hg
    have hn63 : n < 9223372036854775808 := by
      have hh := hg
      unfold getB at hh
      rw [decide_eq_true_iff] at hh
      have := hh.2.2.2
      rw [p2]; exact this
    rw [hg, p1] at G8
    have P := fun u => rfputend_c n (by unfold I64; omega) m hm u
    by_cases hbig : (4611686018427387904 : Int) < n
    · have hb : eB s = false := by rw [hbe, hg, p1]; rw [decide_eq_false (by omega), Bool.and_false, Bool.and_false]
      have HB := Lib.hid hb
      have hpb : peB (n : Int) = false := by unfold peB; rw [decide_eq_false_iff_not]; omega
      rw [hpb, peS_no hpb] at P
      clear hb h0 h hbe hg p1 p2 q1 q2 q3 hpb
      go_enter Try.func14, Try.ntmps14
      go_wp2_with fail
      refine (G8 _).mono ?_; rintro e u ⟨rfl, rfl⟩
      go_wp2_with fail
      refine (G4 _).mono ?_; rintro e u ⟨rfl, rfl⟩
      go_wp2_with fail
      refine (P _).mono ?_; rintro e u ⟨rfl, g⟩
      have hw := two_new _ _ _ _ (Gr.trans (Below.alloc (Below.refl _ _) (Nat.le_refl _) _) g)
      obtain ⟨W, hW, d0, d1, gW⟩ := two_set hw (.int .i64 0) (.int .u32 0) (Gr.trans (Below.alloc (Below.refl _ _) (Nat.le_refl _) _) (Gr.trans (Below.alloc (Below.refl _ _) (Nat.le_refl _) _) g)) (Nat.le_refl _)
      have HW := Lib.hid hW
      obtain ⟨_, c0, c1, f0, f1⟩ := hw
      clear hW
      go_wp2_with fail
      rw [← HW.out]
      exact bodyPost_ret (two_ret Try.results14 rfl rfl d0 d1) rfl (egot_no HB.out gW)
    · have hpb : peB (n : Int) = true := by unfold peB; rw [decide_eq_true_iff]; omega
      have hps := peS_yes (m := m) hpb
      rw [Int.toNat_natCast] at hps
      have hend := ahead_end s h h0
      rw [← p2, ← q2] at hend
      rw [hpb, hps, hend] at P
      have hci := cl_is s (by omega)
      have hgo : decide (getN s 1 8 ≤ 4611686018427387904) = true := by rw [p1, decide_eq_true_iff]; omega
      cases hop : opB s
      · have hb : eB s = false := by rw [hbe, hop]; rfl
        have HB := Lib.hid hb
        have hne : ((cl (ahead s)).toList == s.toList) = false := by
          rw [eq_list, decide_eq_false_iff_not]; intro hh; have := hci.1 hh; rw [hop] at this; cases this
        have hne2 : ((cl (ahead s)).toList != s.toList) = true := by
          show (!((cl (ahead s)).toList == s.toList)) = true
          rw [hne]; rfl
        generalize cl (ahead s) = t at P hne hne2
        clear hb h0 h hbe hg p1 p2 q1 q2 q3 hpb hps hend hci hgo hop
        go_enter Try.func14, Try.ntmps14
        go_wp2_with fail
        refine (G8 _).mono ?_; rintro e u ⟨rfl, rfl⟩
        go_wp2_with fail
        refine (G4 _).mono ?_; rintro e u ⟨rfl, rfl⟩
        go_wp2_with fail
        refine (P _).mono ?_; rintro e u ⟨rfl, g⟩
        have hw := two_new _ _ _ _ (Gr.trans (Below.alloc (Below.refl _ _) (Nat.le_refl _) _) g)
        obtain ⟨W, hW, d0, d1, gW⟩ := two_set hw (.int .i64 0) (.int .u32 0) (Gr.trans (Below.alloc (Below.refl _ _) (Nat.le_refl _) _) (Gr.trans (Below.alloc (Below.refl _ _) (Nat.le_refl _) _) g)) (Nat.le_refl _)
        have HW := Lib.hid hW
        obtain ⟨_, c0, c1, f0, f1⟩ := hw
        clear hW
        go_wp2_with fail
        rw [← HW.out]
        exact bodyPost_ret (two_ret Try.results14 rfl rfl d0 d1) rfl (egot_no HB.out gW)
      · have hb : eB s = true := by rw [hbe, hop, hg, hgo]; rfl
        have HB := Lib.hid hb
        have HP := Lib.hid p1
        rw [hci.2 hop] at P
        have hne : (s.toList == s.toList) = true := by simp
        have hne2 : (s.toList != s.toList) = false := by simp
        clear hb h0 h hbe hg p1 p2 q1 q2 q3 hpb hps hend hci hgo hop
        go_enter Try.func14, Try.ntmps14
        go_wp2_with fail
        refine (G8 _).mono ?_; rintro e u ⟨rfl, rfl⟩
        go_wp2_with fail
        refine (G4 _).mono ?_; rintro e u ⟨rfl, rfl⟩
        go_wp2_with fail
        refine (P _).mono ?_; rintro e u ⟨rfl, g⟩
        have hw2 := two_new2 _ _ _ _ _ g
        have hw := two_new _ _ _ _ (Gr.trans (Below.alloc (Below.refl _ _) (Nat.le_refl _) _) g)
        obtain ⟨W, hW, d0, d1, gW⟩ := two_set hw (.int .i64 (n : Int)) (.int .u32 (m : Int)) (Gr.trans (Below.alloc (Below.refl _ _) (Nat.le_refl _) _) (Gr.trans (Below.alloc (Below.refl _ _) (Nat.le_refl _) _) g)) (Nat.le_refl _)
        have HW := Lib.hid hW
        obtain ⟨_, c0, c1, f0, f1⟩ := hw
        obtain ⟨_, k0, k1, _, _⟩ := hw2
        clear hW
        go_wp2_with fail
        rw [← HW.out]
        refine bodyPost_ret (two_ret Try.results14 rfl rfl d0 d1) rfl ⟨?_, gW⟩
        rw [eC_yes HB.out, eM_yes HB.out, HB.out, HP.out, HQ.out]
theorem rgetend_c (s : ByteArray) (w : World) :
    Calls Try.prog 14 #[.string s] w (EGot s w) := by
  by_cases h : s.size = 17
  · by_cases h0 : cntN s = 0
    · exact rgetend_open s w h h0
    · exact rgetend_head s w h h0
  · exact rgetend_short s w h
end Go.Proofs.Ytkmkhlhgnjoecaa

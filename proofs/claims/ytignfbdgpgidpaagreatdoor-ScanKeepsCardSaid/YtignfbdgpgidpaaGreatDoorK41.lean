/- In one text: ScAwake. -/
import Derived.Test.YtignfbdgpgidpaaGreatDoorK37
/- The chapter's example. -/
namespace Go.Proofs.YtignfbdgpgidpaaGreatDoor
open Go.RowKit FsPlain CrcPlain OctPlain RdPlain MnPlain CmPlain StPlain ScPlain
set_option linter.unusedVariables false
set_option linter.unusedSimpArgs false
set_option maxRecDepth 20000
theorem keeps0_c (a : Option Addr) (c : Nat) (v : World) (h : LiesFl v (.slice a 0 c) []) : Calls Tryz.prog 40 #[.agg #[.int .i64 0, .int .i64 0, .slice a 0 c], .slice none 0 0] v fun e w' => ∃ (a' : Option Addr) (c' : Nat), e = .returned (.slice a' 3 c') ∧ Gr v w' :=
  (keeps22_c ⟨0, 0, []⟩ (.slice none 0 0) [] v h ⟨none, 0, rfl, Nat.le_refl _, .inl rfl⟩ (by decide) (fun x hx => by cases hx) (by decide) (fun f hf => by cases hf) (fun f hf => by cases hf)).mono fun e w' ⟨b, hb, ⟨a', c', hv, _⟩, _, g⟩ => ⟨a', c', by rw [hb, hv]; rfl, g⟩
def stD22 : St := ⟨100, 1, -1, false, [⟨[97], [], 0⟩]⟩
set_option maxHeartbeats 4000000 in
theorem awake22_c (w : World) : Calls Tryz.prog 7 #[] w fun e w' => e = .returned (.bool true) ∧ Gr w w' := by
  have N0 := Lib.hid (pd_new 100 (by decide) (by decide) w)
  have CR := Lib.hid (fun p u (h : Pd20 p (fresh 100) [] w u) => Qs.call0 (X := fun e _ => e = .returned (.int .i64 0)) h (fr_disk p (stD22)) fun B1 q => d_create p (fresh 100) ⟨#[97]⟩ (by decide) (by decide) (by decide) u B1 q)
  have l0 : loadE (stD22) = (0, none) := by kernel_rfl
  obtain ⟨T, hT⟩ : ∃ T, sweepR (keepL []) (loadT (stD22)).call = T := ⟨_, rfl⟩
  have t0 : T.2.2 = 0 := by rw [← hT]; kernel_rfl
  have t1 : T.1.down = false := by rw [← hT]; kernel_rfl
  have t2 : T.1.ahead = -1 := by rw [← hT]; kernel_rfl
  have t3 : T.1.calls = 5 := by rw [← hT]; kernel_rfl
  have t4 : T.1.fs = [] := by rw [← hT]; kernel_rfl
  have SR := Lib.hid (fun p u (h : Ps [DiskA p (stD22)] w u) => start22_c (m := ⟨0, 0, []⟩) (b := false) (r := 5) h rfl rfl (by decide) (by rw [l0]; intro x hx; cases hx) (.inl ⟨by rw [l0], rfl, rfl, rfl⟩) (by unfold I64; decide) (fun e => by cases e) (by decide) (fun f hf => by cases hf) (by intro f hf; simp [stD22] at hf; subst hf; decide) (fun f hf => by cases hf) T hT t0 t1 t2 (by rw [t3]; decide) (fun f hf => by cases hf))
  have LS := Lib.hid (fun p t M u (hq : Quiet T.1 t) (hcl : t.calls ≤ T.1.calls) (h : Ps (DiskA p t :: M) w u) => by
    obtain ⟨k1, k2⟩ := hq.calm t1 t2
    obtain ⟨j1, j2⟩ := calm_list k1 k2
    have e : namesL t = [] := by unfold namesL; rw [hq.fs, t4]; rfl
    have h := ps_list h (fr_disk p t.call) fun B1 q => plist_c p t u q (by omega)
    rw [j1, j2, e] at h
    exact h)
  clear l0 hT t0 t1 t2 t3 t4
  go_enter Tryz.func7, Tryz.ntmps7
  go_wp2_with fail
  refine N0.out.mono ?_; rintro e u1 ⟨p, rfl, d1⟩
  have Q1 := Lib.hid (CR.out p u1 d1)
  clear d1
  go_wp2_with fail
  refine Q1.out.mono ?_; rintro e u2 ⟨rfl, d2⟩
  have Q2 := Lib.hid (SR.out p u2 d2)
  clear d2 Q1
  go_wp2_with fail
  refine Q2.out.mono ?_; rintro e u3 ⟨a, c, t, rfl, hq, hcl, d3⟩
  dsimp only [List.length_nil]
  have d4 := (Qs.blk_new d3 #[.int .i64 0, .int .i64 0, .slice a 0 c] 27 rfl).perm (List.Perm.swap _ _ _)
  obtain ⟨X, hX⟩ : ∃ X, u3.alloc (.cells #[.int .i64 0, .int .i64 0, .slice a 0 c] 27) = X := ⟨_, rfl⟩
  obtain ⟨y, hy⟩ : ∃ y, u3.heap.size = y := ⟨_, rfl⟩
  rw [hX, hy] at d4
  have Q4 := Lib.hid (LS.out p t _ X hq (by simpa using hcl) d4)
  have HX := Lib.hid hX
  have HY := Lib.hid hy
  clear d3 d4 hX hy Q2 hq hcl
  go_wp2_with fail
  rw [HX.out]
  try rw [HY.out]
  refine Q4.out.mono ?_; rintro e u5 ⟨la, lc, rfl, d5⟩
  have D5 := Lib.hid d5
  obtain ⟨_, hfl⟩ := d5.part 2 rfl
  obtain ⟨y0, y1, y2⟩ := mnv_at (d5.blk 1 rfl)
  have K5 := Lib.hid (keeps0_c a c u5 (fl_lies hfl))
  dsimp only [List.length_nil]
  clear d5 hfl Q4
  go_wp2_with fail
  refine K5.out.mono ?_; rintro e u6 ⟨a', c', rfl, g6⟩
  have D6 := Lib.hid (D5.out.on g6)
  clear g6 K5
  go_wp2_with fail
  go_ret
  exact ⟨rfl, Qs.gr D6.out⟩
end Go.Proofs.YtignfbdgpgidpaaGreatDoor

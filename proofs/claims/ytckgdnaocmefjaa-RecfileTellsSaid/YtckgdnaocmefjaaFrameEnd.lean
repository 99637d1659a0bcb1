/- The contracts of PutEnd, and of the document's. -/
import Derived.Test.YtckgdnaocmefjaaFramePut
import Derived.Test.YtckgdnaocmefjaaCrcOpen
import Derived.Deep.RegionHeld3
import Derived.IntWalk
namespace Go.Proofs.Ytckgdnaocmefjaa
open Go.RowKit CrcPlain OctPlain FramePlain
set_option linter.unusedVariables false
set_option linter.unusedSimpArgs false
namespace FramePlain
/-- An end ahead of its sum. -/
def endS (c m : Nat) : ByteArray := bs (0 :: (beL 8 c ++ beL 4 m))
def peB (c : Int) : Bool := decide (0 ≤ c ∧ c ≤ 4611686018427387904)
def peS (c : Int) (m : Nat) : ByteArray := if peB c = true then cl (endS c.toNat m) else ⟨#[]⟩
theorem peS_no {c : Int} {m : Nat} (h : peB c = false) : peS c m = ⟨#[]⟩ := by simp [peS, h]
theorem peS_yes {c : Int} {m : Nat} (h : peB c = true) : peS c m = cl (endS c.toNat m) := by simp [peS, h]
theorem endS_size (c m : Nat) : (endS c m).size = 13 := by unfold endS; rw [bs_size, List.length_cons, List.length_append, beL_length, beL_length]
theorem fits8 {c : Int} (hc : I64 c) : fitsB c 8 = decide (0 ≤ c) := by
  unfold fitsB I64 at *
  apply decide_eq_decide.2
  constructor
  · intro h; omega
  · intro h; refine ⟨by omega, h, ?_⟩; show c < 256 ^ 8; omega
theorem fits4 {m : Nat} (hm : m < 4294967296) : fitsB (m : Int) 4 = true := by
  unfold fitsB
  rw [decide_eq_true_iff]
  refine ⟨by omega, by omega, ?_⟩; show (m : Int) < 256 ^ 4; omega
theorem put8 {c : Int} (hc : I64 c) (h : 0 ≤ c) : putS c 8 = bs (beL 8 c.toNat) := by
  unfold putS; rw [fits8 hc, if_pos (by simpa using h)]; rfl
theorem put4 {m : Nat} (hm : m < 4294967296) : putS (m : Int) 4 = bs (beL 4 m) := by
  unfold putS; rw [if_pos (fits4 hm), Int.toNat_natCast]; rfl
theorem end_app (c m : Nat) : ByteArray.mk #[0] ++ bs (beL 8 c) ++ bs (beL 4 m) = endS c m := by
  show bs [0] ++ _ ++ _ = _
  rw [bs_app, bs_app]; rfl
end FramePlain

theorem fputend_c (c : Int) (hc : I64 c) (m : Nat) (hm : m < 4294967296) (w : World) :
    Calls Try.prog 25 #[.agg #[.int .i64 c, .int .u32 (m : Int)]] w fun e w' => e = .returned (.tuple #[.string (peS c m), .bool (peB c)]) ∧ Gr w w' := by
  obtain ⟨W, hW⟩ : ∃ W, W = w.alloc (.cells #[.int .i64 c, .int .u32 (m : Int)] 29) := ⟨_, rfl⟩
  have hg : Gr w W := by rw [hW]; exact Below.alloc (Below.refl _ _) (Nat.le_refl _) _
  have hlt : w.heap.size < W.heap.size := by rw [hW, World.size_alloc]; omega
  have hc0 : ∀ u, Gr W u → u.cell? ⟨w.heap.size, 0, none⟩ = some (.int .i64 c) := by
    intro u g
    rw [Below.cell g (p := ⟨w.heap.size, 0, none⟩) hlt, hW, World.cell?_alloc_mark]; rfl
  have hc1 : ∀ u, Gr W u → u.cell? ⟨w.heap.size, 1, none⟩ = some (.int .u32 (m : Int)) := by
    intro u g
    rw [Below.cell g (p := ⟨w.heap.size, 1, none⟩) hlt, hW, World.cell?_alloc_mark]; rfl
  have P8 := fun u => put_c c 8 hc (by unfold I64; omega) u
  have P4 := fun u => put_c m 4 (by unfold I64; omega) (by unfold I64; omega) u
  rw [fits8 hc] at P8
  rw [fits4 hm, put4 hm] at P4
  have H0 := Lib.hid hc0
  have H1 := Lib.hid hc1
  have HW := Lib.hid hW
  have c0 := hc0 _ (Gr.refl _)
  have c1 := hc1 _ (Gr.refl _)
  clear hc0 hc1 hW
  have hc' := hc
  unfold I64 at hc'
  by_cases h0 : c < 0
  · have hb : peB c = false := by unfold peB; rw [decide_eq_false_iff_not]; omega
    have HB := Lib.hid hb
    have HS := Lib.hid (peS_no (m := m) hb)
    have d0 : decide (0 ≤ c) = false := by rw [decide_eq_false_iff_not]; omega
    rw [d0] at P8
    clear hb d0
    go_enter Try.func25, Try.ntmps25
    go_wp2_with fail
    rw [← HW.out]
    refine (P8 _).mono ?_; rintro e u ⟨rfl, g⟩
    go_wp2_with fail
    go_ret2
    exact ⟨ret_sb HS.out.symm HB.out.symm, hg.trans g⟩
  · have d0 : decide (0 ≤ c) = true := by rw [decide_eq_true_iff]; omega
    rw [d0, put8 hc (by omega)] at P8
    by_cases h2 : 4611686018427387904 < c
    · have hb : peB c = false := by unfold peB; rw [decide_eq_false_iff_not]; omega
      have HB := Lib.hid hb
      have HS := Lib.hid (peS_no (m := m) hb)
      clear hb d0
      go_enter Try.func25, Try.ntmps25
      go_wp2_with fail
      rw [← HW.out]
      refine (P8 _).mono ?_; rintro e u ⟨rfl, g⟩
      have c0' := H0.out _ g
      go_wp2_with fail
      go_ret2
      exact ⟨ret_sb HS.out.symm HB.out.symm, hg.trans g⟩
    · have hb : peB c = true := by unfold peB; rw [decide_eq_true_iff]; omega
      have HB := Lib.hid hb
      have HS := Lib.hid (peS_yes (m := m) hb)
      have e1 := end_app c.toNat m
      have hz := endS_size c.toNat m
      have C := fun u => close_c (endS c.toNat m) (by omega) u
      rw [← e1] at C
      have E := Lib.hid e1
      have s1 : (bs (beL 8 c.toNat)).size = 8 := by rw [bs_size, beL_length]
      have s2 : (bs (beL 4 m)).size = 4 := by rw [bs_size, beL_length]
      clear hb d0 hz e1
      generalize bs (beL 8 c.toNat) = x8 at P8 C E s1
      generalize bs (beL 4 m) = x4 at P4 C E s2
      go_enter Try.func25, Try.ntmps25
      go_wp2_with fail
      rw [← HW.out]
      refine (P8 _).mono ?_; rintro e u ⟨rfl, g⟩
      have c0' := H0.out _ g
      have c1' := H1.out _ g
      go_wp2_with fail
      refine (P4 _).mono ?_; rintro e u2 ⟨rfl, g2⟩
      go_wp2_with fail
      refine (C _).mono ?_; rintro e u3 ⟨rfl, g3⟩
      go_wp2_with fail
      go_ret2
      exact ⟨ret_sb (by rw [E.out, HS.out]) HB.out.symm, ((hg.trans g).trans g2).trans g3⟩

theorem must_c (n k : Int) (hn : I64 n) (hk : I64 k) (w : World) :
    Calls Try.prog 48 #[.int .i64 n, .int .i64 k] w fun e w' => e = .returned (.string (putS n k)) ∧ Gr w w' := by
  go_enter Try.func48, Try.ntmps48
  go_wp2_with fail
  refine (rput_c n k hn hk _).mono ?_; rintro e u ⟨rfl, g⟩
  go_wp2_with fail
  go_ret
  exact ⟨rfl, g⟩

set_option maxHeartbeats 2000000 in
theorem rfputend_c (c : Int) (hc : I64 c) (m : Nat) (hm : m < 4294967296) (w : World) :
    Calls Try.prog 29 #[.agg #[.int .i64 c, .int .u32 (m : Int)]] w fun e w' => e = .returned (.tuple #[.string (peS c m), .bool (peB c)]) ∧ Gr w w' := by
  obtain ⟨W, hW⟩ : ∃ W, W = w.alloc (.cells #[.int .i64 c, .int .u32 (m : Int)] 29) := ⟨_, rfl⟩
  have hg : Gr w W := by rw [hW]; exact Below.alloc (Below.refl _ _) (Nat.le_refl _) _
  have hlt : w.heap.size < W.heap.size := by rw [hW, World.size_alloc]; omega
  have hS : ∀ u, Gr W u → Gr W u ∧ u.cell? ⟨w.heap.size, 0, none⟩ = some (.int .i64 c) ∧ u.cell? ⟨w.heap.size, 1, none⟩ = some (.int .u32 (m : Int)) := by
    intro u g
    refine ⟨g, ?_, ?_⟩
    · rw [Below.cell g (p := ⟨w.heap.size, 0, none⟩) hlt, hW, World.cell?_alloc_mark]; rfl
    · rw [Below.cell g (p := ⟨w.heap.size, 1, none⟩) hlt, hW, World.cell?_alloc_mark]; rfl
  have H := Lib.hid hS
  have HW := Lib.hid hW
  obtain ⟨_, c0, c1⟩ := hS _ (Gr.refl _)
  clear hS hW
  have hc' := hc
  unfold I64 at hc'
  by_cases h0 : c < 0
  · have hb : peB c = false := by unfold peB; rw [decide_eq_false_iff_not]; omega
    have HB := Lib.hid hb
    have HS := Lib.hid (peS_no (m := m) hb)
    clear hb
    go_enter Try.func29, Try.ntmps29
    go_wp2_with fail
    go_ret2
    exact ⟨ret_sb HS.out.symm HB.out.symm, by rw [← HW.out]; exact hg⟩
  · by_cases h2 : 4611686018427387904 < c
    · have hb : peB c = false := by unfold peB; rw [decide_eq_false_iff_not]; omega
      have HB := Lib.hid hb
      have HS := Lib.hid (peS_no (m := m) hb)
      clear hb
      go_enter Try.func29, Try.ntmps29
      go_wp2_with fail
      go_ret2
      exact ⟨ret_sb HS.out.symm HB.out.symm, by rw [← HW.out]; exact hg⟩
    · have hb : peB c = true := by unfold peB; rw [decide_eq_true_iff]; omega
      have HB := Lib.hid hb
      have HS := Lib.hid (peS_yes (m := m) hb)
      have e1 := end_app c.toNat m
      have hz := endS_size c.toNat m
      have s1 : (bs (beL 8 c.toNat)).size = 8 := by rw [bs_size, beL_length]
      have s2 : (bs (beL 4 m)).size = 4 := by rw [bs_size, beL_length]
      have M8 : ∀ u, Gr W u → Calls Try.prog 48 #[.int .i64 c, .int .i64 8] u fun e w' => e = .returned (.string (bs (beL 8 c.toNat))) ∧ Gr W w' ∧ w'.cell? ⟨w.heap.size, 0, none⟩ = some (.int .i64 c) ∧ w'.cell? ⟨w.heap.size, 1, none⟩ = some (.int .u32 (m : Int)) := by
        intro u g
        refine (must_c c 8 hc (by unfold I64; omega) u).mono ?_
        rintro e u2 ⟨rfl, g2⟩
        exact ⟨by rw [put8 hc (by omega)], H.out _ (g.trans g2)⟩
      have M4 : ∀ u, Gr W u → Calls Try.prog 48 #[.int .i64 (m : Int), .int .i64 4] u fun e w' => e = .returned (.string (bs (beL 4 m))) ∧ Gr W w' ∧ w'.cell? ⟨w.heap.size, 0, none⟩ = some (.int .i64 c) ∧ w'.cell? ⟨w.heap.size, 1, none⟩ = some (.int .u32 (m : Int)) := by
        intro u g
        refine (must_c m 4 (by unfold I64; omega) (by unfold I64; omega) u).mono ?_
        rintro e u2 ⟨rfl, g2⟩
        exact ⟨by rw [put4 hm], H.out _ (g.trans g2)⟩
      have C : ∀ u, Gr W u → Calls Try.prog 36 #[.string (ByteArray.mk #[0] ++ bs (beL 8 c.toNat) ++ bs (beL 4 m))] u fun e w' => e = .returned (.string (cl (endS c.toNat m))) ∧ Gr W w' ∧ w'.cell? ⟨w.heap.size, 0, none⟩ = some (.int .i64 c) ∧ w'.cell? ⟨w.heap.size, 1, none⟩ = some (.int .u32 (m : Int)) := by
        intro u g
        rw [e1]
        refine (rclose_c (endS c.toNat m) (by omega) u).mono ?_
        rintro e u2 ⟨rfl, g2⟩
        exact ⟨rfl, H.out _ (g.trans g2)⟩
      have hw1 : IntKind.i64.wrap (m : Int) = (m : Int) := IntWalk.i64_in _ (by omega)
      have hw2 : wrap64 (m : Int) = (m : Int) := IntWalk.wrap64_in _ (by omega)
      have gW := Gr.refl W
      have gWd : Gr W W.drew := Below.drew gW
      clear hb hz e1
      generalize bs (beL 8 c.toNat) = x8 at M8 C s1
      generalize bs (beL 4 m) = x4 at M4 C s2
      go_enter Try.func29, Try.ntmps29
      go_wp2_with fail
      rw [← HW.out]
      go_region_held3 (fun w' => Gr W w' ∧ w'.cell? ⟨w.heap.size, 0, none⟩ = some (.int .i64 c) ∧ w'.cell? ⟨w.heap.size, 1, none⟩ = some (.int .u32 (m : Int)))
        (first | exact H.out _ (Below.drew (by assumption)) | exact H.out _ (by assumption) | go_keep)
        ((first
          | (go_at_call 48; (with_reducible refine (M8 _ (by assumption)).mono ?_); rintro e u ⟨rfl, gu, cu0, cu1⟩)
          | (go_at_call 48; (with_reducible refine (M4 _ (by assumption)).mono ?_); rintro e u ⟨rfl, gu, cu0, cu1⟩)
          | (go_at_call 36; (with_reducible refine (C _ (by assumption)).mono ?_); rintro e u ⟨rfl, gu, cu0, cu1⟩)))
      go_wp2_with fail
      go_ret2
      exact ⟨ret_sb HS.out.symm HB.out.symm, hg.trans gu⟩
end Go.Proofs.Ytckgdnaocmefjaa

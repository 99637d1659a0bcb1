/- In one text: StA. -/
import Derived.Test.YtgopodgjnblgkaaDoorP07
import Derived.Test.YtgopodgjnblgkaaDoorP29
import Derived.Test.YtgopodgjnblgkaaDoorP30
import Derived.Test.YtgopodgjnblgkaaDoorP31
/- The program's layer 21: within, Right, round, Next, Graph. -/
namespace Go.Proofs.YtgopodgjnblgkaaDoor
open Go.RowKit FsPlain MnPlain RnPlain StPlain
set_option linter.unusedVariables false
set_option linter.unusedSimpArgs false
set_option maxRecDepth 20000
theorem within21_c (n a b : Int) {r : Bool} (hr : decide (a ≤ n ∧ n ≤ b) = r) (w : World) :
    Calls Tryd.prog 12 #[.int .i64 n, .int .i64 a, .int .i64 b] w fun e w' => e = .returned (.bool r) ∧ w = w' := by
  by_cases h1 : a ≤ n
  · by_cases h2 : n ≤ b
    · obtain rfl : r = true := by rw [← hr, decide_eq_true ⟨h1, h2⟩]
      clear hr
      go_enter Tryd.func12, Tryd.ntmps12
      go_wp2_with fail
      go_ret
      exact ⟨rfl, rfl⟩
    · obtain rfl : r = false := by rw [← hr, decide_eq_false (fun k => h2 k.2)]
      clear hr
      go_enter Tryd.func12, Tryd.ntmps12
      go_wp2_with fail
      go_ret
      exact ⟨rfl, rfl⟩
  · obtain rfl : r = false := by rw [← hr, decide_eq_false (fun k => h1 k.1)]
    clear hr
    go_enter Tryd.func12, Tryd.ntmps12
    go_wp2_with fail
    go_ret
    exact ⟨rfl, rfl⟩
theorem grst (w : World) (o : Obj) : Gr w (w.alloc o) := Below.alloc (Below.refl _ _) (Nat.le_refl _) _
set_option maxHeartbeats 1000000 in
theorem right21_c (s p r : Int) (hs : I64 s) (hp : I64 p) (hr : I64 r) (w : World) : Calls Tryd.prog 7 #[.agg #[.int .i64 s, .int .i64 p], .int .i64 r] w fun e w' => e = .returned (.bool (rightP s p r)) ∧ Gr w w' := by
  have HG := Lib.hid (grst w (.cells #[.int .i64 s, .int .i64 p] 25))
  unfold I64 at hs hp hr
  obtain ⟨R, hR⟩ : ∃ R, rightP s p r = R := ⟨_, rfl⟩
  rw [hR]
  by_cases hr1 : 1 ≤ r ∧ r ≤ 64
  · have W1 := Lib.hid (fun v => within21_c r 1 64 (decide_eq_true hr1) v)
    obtain ⟨b4, h4⟩ : ∃ b, decide (1 ≤ p ∧ p ≤ r - 1) = b := ⟨_, rfl⟩
    have W4 := Lib.hid (fun v => within21_c p 1 (r - 1) h4 v)
    obtain ⟨b5, h5⟩ : ∃ b, decide (1 ≤ p ∧ p ≤ r) = b := ⟨_, rfl⟩
    have W5 := Lib.hid (fun v => within21_c p 1 r h5 v)
    by_cases c0 : s = 0 ∨ s = 1 ∨ s = 2 ∨ s = 3 ∨ s = 6 ∨ s = 7
    · obtain ⟨b0, h0⟩ : ∃ b, ((p : Int) == 0) = b := ⟨_, rfl⟩
      obtain rfl : R = b0 := by
        rw [← hR, ← h0, Bool.eq_iff_iff, rightP_iff, beq_iff_eq]
        constructor
        · intro h; omega
        · intro h; exact ⟨hr1, .inl ⟨c0, h⟩⟩
      clear hR h4 h5 W4 W5
      rcases c0 with rfl | rfl | rfl | rfl | rfl | rfl <;>
      · go_enter Tryd.func7, Tryd.ntmps7
        go_wp2_with fail
        refine (W1.out _).mono ?_; rintro e u ⟨rfl, rfl⟩
        go_wp2_with fail
        go_ret
        exact ⟨rfl, HG.out⟩
    · by_cases c4 : s = 4
      · subst c4
        obtain rfl : R = b4 := by
          rw [← hR, ← h4, Bool.eq_iff_iff, rightP_iff, decide_eq_true_iff]
          omega
        clear hR h4 h5 W5 c0
        go_enter Tryd.func7, Tryd.ntmps7
        go_wp2_with fail
        refine (W1.out _).mono ?_; rintro e u ⟨rfl, rfl⟩
        go_wp2_with fail
        refine (W4.out _).mono ?_; rintro e u ⟨rfl, rfl⟩
        go_wp2_with fail
        go_ret
        exact ⟨rfl, HG.out⟩
      · by_cases c5 : s = 5
        · subst c5
          obtain rfl : R = b5 := by
            rw [← hR, ← h5, Bool.eq_iff_iff, rightP_iff, decide_eq_true_iff]
            omega
          clear hR h4 h5 W4 c0
          go_enter Tryd.func7, Tryd.ntmps7
          go_wp2_with fail
          refine (W1.out _).mono ?_; rintro e u ⟨rfl, rfl⟩
          go_wp2_with fail
          refine (W5.out _).mono ?_; rintro e u ⟨rfl, rfl⟩
          go_wp2_with fail
          go_ret
          exact ⟨rfl, HG.out⟩
        · obtain rfl : R = false := by
            rw [← hR]
            exact decide_eq_false (fun h => by omega)
          have n0 : ¬ s = 0 := fun h => c0 (by omega)
          have n1 : ¬ s = 1 := fun h => c0 (by omega)
          have n2 : ¬ s = 2 := fun h => c0 (by omega)
          have n3 : ¬ s = 3 := fun h => c0 (by omega)
          have n6 : ¬ s = 6 := fun h => c0 (by omega)
          have n7 : ¬ s = 7 := fun h => c0 (by omega)
          clear hR h4 h5 W4 W5 c0
          go_enter Tryd.func7, Tryd.ntmps7
          go_wp2_with fail
          refine (W1.out _).mono ?_; rintro e u ⟨rfl, rfl⟩
          go_wp2_with fail
          go_ret
          exact ⟨rfl, HG.out⟩
  · have W1 := Lib.hid (fun v => within21_c r 1 64 (decide_eq_false hr1) v)
    obtain rfl : R = false := by
      rw [← hR]
      exact decide_eq_false (fun h => hr1 h.1)
    clear hR
    go_enter Tryd.func7, Tryd.ntmps7
    go_wp2_with fail
    refine (W1.out _).mono ?_; rintro e u ⟨rfl, rfl⟩
    go_wp2_with fail
    go_ret
    exact ⟨rfl, HG.out⟩
theorem round21_c (p : Int) (last : Bool) (w : World) : Calls Tryd.prog 11 #[.int .i64 p, .bool last] w fun e w' => e = .returned (.agg #[.int .i64 (if last then 5 else 4), .int .i64 p]) ∧ Gr w w' := by
  cases last
  · go_enter Tryd.func11, Tryd.ntmps11
    go_wp2_with fail
    exact bodyPost_ret (v := .agg #[.int .i64 4, .int .i64 p]) (by simp [results, Tryd.results11, go_sem, World.cell?_alloc_new]) rfl ⟨rfl, grst w _⟩
  · go_enter Tryd.func11, Tryd.ntmps11
    go_wp2_with fail
    exact bodyPost_ret (v := .agg #[.int .i64 5, .int .i64 p]) (by simp [results, Tryd.results11, go_sem, World.cell?_alloc_new]) rfl ⟨rfl, grst w _⟩
theorem graph21_c (p : Int) (hp : p ≤ 1000) (h0 : I64 p) (w : World) (hT : Tab w) : Calls Tryd.prog 10 #[.int .i64 p] w fun e w' => e = .returned (.string (gnB p)) ∧ Gr w w' := by
  unfold I64 at h0
  by_cases h : p < 0
  · have e : gnB p = ⟨#[]⟩ := by unfold gnB; rw [if_pos h]
    rw [e]
    clear e hT
    go_enter Tryd.func10, Tryd.ntmps10
    go_wp2_with fail
    go_ret
    exact ⟨rfl, Gr.refl _⟩
  · have h00 : 0 ≤ p := by omega
    have CI := Lib.hid (fun (u : World) (g : Gr w u) => itoa_c p (by omega) (by omega) u (hT.gr g))
    have hz : (digB p.toNat).length ≤ 1000001 := Nat.le_trans (digB_le (p.toNat + 1) _ (by omega)) (by omega)
    have e : gnB p = (⟨#[103, 114, 97, 112, 104, 46]⟩ : ByteArray) ++ bs (digB p.toNat) := by unfold gnB; rw [if_neg h, ← bs_app]; rfl
    rw [itoa_digB h00] at CI
    obtain ⟨d, hd⟩ : ∃ d, d = bs (digB p.toNat) := ⟨_, rfl⟩
    have hdz : d.size ≤ 1000001 := by rw [hd]; simpa [bs, ByteArray.size] using hz
    have e2 : gnB p = (⟨#[103, 114, 97, 112, 104, 46]⟩ : ByteArray) ++ d := by rw [e, hd]
    have E2 := Lib.hid e2
    rw [← hd] at CI
    clear hz e e2 hd hT
    go_enter Tryd.func10, Tryd.ntmps10
    go_wp2_with fail
    refine (CI.out _ (Gr.refl _)).mono ?_; rintro e u ⟨rfl, g⟩
    go_wp2_with fail
    go_ret
    rw [E2.out]
    exact ⟨rfl, g⟩
end Go.Proofs.YtgopodgjnblgkaaDoor

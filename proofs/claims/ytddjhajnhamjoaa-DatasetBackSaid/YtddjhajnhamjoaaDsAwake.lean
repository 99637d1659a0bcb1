/- The chapter's example. -/
import Derived.Test.YtddjhajnhamjoaaDsLay2
import Derived.Test.YtddjhajnhamjoaaDsParse2
namespace Go.Proofs.Ytddjhajnhamjoaa
open Go.RowKit OctPlain DsPlain
set_option linter.unusedVariables false
set_option linter.unusedSimpArgs false
set_option maxRecDepth 20000
/-- A slice of one slice of one number, that a call has just made. -/
theorem liesII_one (w : World) (x : Int) (T U : TypeId) : LiesII ((w.alloc (.cells #[.int .i64 x] T)).alloc (.cells #[.slice (some ⟨w.heap.size, 0, none⟩) 1 1] U)) (.slice (some ⟨w.heap.size + 1, 0, none⟩) 1 1) [[x]] := by
  have c1 : ((w.alloc (.cells #[.int .i64 x] T)).alloc (.cells #[.slice (some ⟨w.heap.size, 0, none⟩) 1 1] U)).cell? ⟨w.heap.size + 1, 0, none⟩ = some (.slice (some ⟨w.heap.size, 0, none⟩) 1 1) := by
    have := World.cell?_alloc_new (w.alloc (.cells #[.int .i64 x] T)) #[.slice (some ⟨w.heap.size, 0, none⟩) 1 1] U 0
    rw [World.size_alloc] at this
    exact this
  have c2 : ((w.alloc (.cells #[.int .i64 x] T)).alloc (.cells #[.slice (some ⟨w.heap.size, 0, none⟩) 1 1] U)).cell? ⟨w.heap.size, 0, none⟩ = some (.int .i64 x) := by
    have g : Gr (w.alloc (.cells #[.int .i64 x] T)) ((w.alloc (.cells #[.int .i64 x] T)).alloc (.cells #[.slice (some ⟨w.heap.size, 0, none⟩) 1 1] U)) := Below.alloc (Below.refl _ _) (Nat.le_refl _) _
    exact cell_gr g (World.cell?_alloc_new w #[.int .i64 x] T 0)
  refine ⟨_, 1, [.slice (some ⟨w.heap.size, 0, none⟩) 1 1], rfl, Nat.le_refl _, rfl, .inr ⟨_, _, rfl, by simp, fun j y hj => ?_⟩, fun j l hj => ?_⟩
  · obtain rfl : j = 0 := by have := (List.getElem?_eq_some_iff.1 hj).1; simpa using this
    simp at hj; subst hj
    exact c1
  · obtain rfl : j = 0 := by have := (List.getElem?_eq_some_iff.1 hj).1; simpa using this
    simp at hj; subst hj
    refine ⟨_, rfl, _, 1, rfl, Nat.le_refl _, .inr ⟨_, _, rfl, by simp; omega, fun i z hi => ?_⟩⟩
    obtain rfl : i = 0 := by have := (List.getElem?_eq_some_iff.1 hi).1; simpa [ints] using this
    simp [ints] at hi; subst hi
    exact c2
theorem ex_right : right [[7]] = true := by kernel_rfl
theorem ex_lay : layS [[7]] = ⟨#[86, 69, 67, 49, 0, 0, 0, 1, 0, 1, 128, 0, 0, 7]⟩ := by kernel_rfl
theorem ex_pB : pB ⟨#[86, 69, 67, 49, 0, 0, 0, 1, 0, 1, 128, 0, 0, 7]⟩ = true := by kernel_rfl
theorem ex_pL : pL ⟨#[86, 69, 67, 49, 0, 0, 0, 1, 0, 1, 128, 0, 0, 7]⟩ = [[7]] := by kernel_rfl
theorem ex_pN : pB ⟨#[86, 69, 67, 49]⟩ = false := by kernel_rfl
set_option maxHeartbeats 1000000 in
theorem awake10_c (w : World) : Calls Try.prog 6 #[] w fun e w' => e = .returned (.bool true) ∧ Gr w w' := by
  have LY := fun (x : World) (h : LiesII x (.slice (some ⟨w.heap.size + 1, 0, none⟩) 1 1) [[7]]) => lay10_c h (by decide) (by decide) (by intro l hl n hn; simp at hl; subst hl; simp at hn; subst hn; unfold I64; decide)
  rw [ex_right] at LY
  have L1 := liesII_one w 7 3 32
  have hsz : (layS [[7]]).size = 14 := by rw [ex_lay]; rfl
  have PT := fun w => parse_c (layS [[7]]) (by omega) w
  have hE : pE (layS [[7]]) = 0 := by rw [ex_lay]; exact pE_yes ex_pB
  have hL : pL (layS [[7]]) = [[7]] := by rw [ex_lay]; exact ex_pL
  rw [hE, hL] at PT
  have PN := fun w => parse_c ⟨#[86, 69, 67, 49]⟩ (by decide) w
  rw [pE_no ex_pN, pL_no ex_pN] at PN
  generalize layS [[7]] = t at LY PT hsz
  have e14 : ((t.size : Int) == 14) = true := by rw [hsz]; rfl
  have g0 : Gr w ((w.alloc (.cells #[.int .i64 7] 3)).alloc (.cells #[.slice (some ⟨w.heap.size, 0, none⟩) 1 1] 32)) := Below.alloc (Below.alloc (Below.refl _ _) (Nat.le_refl _) _) (by simp) _
  have LYH := Lib.hid LY
  have LH := Lib.hid L1
  have PTH := Lib.hid PT
  have PNH := Lib.hid PN
  clear LY L1 PT PN hE hL hsz
  go_enter Try.func6, Try.ntmps6
  go_wp2_with fail
  refine (LYH.out _ LH.out).mono ?_; rintro e u ⟨rfl, g⟩
  go_wp2_with fail
  refine (PTH.out _).mono ?_; rintro e u2 ⟨v, rfl, ho, g2⟩
  have HO := Lib.hid (ownII_lies ho)
  clear ho
  go_wp2_with fail
  refine (PNH.out _).mono ?_; rintro e u3 ⟨v3, rfl, ho3, g3⟩
  clear ho3
  go_wp2_with fail
  have S := same10_c (L := [[7]]) (by decide) (by decide) ((HO.out.gr g3).gr (show Gr u3 ((u3.alloc (.cells #[.int .i64 7] 3)).alloc (.cells #[.slice (some ⟨u3.heap.size, 0, none⟩) 1 1] 32)) from Below.alloc (Below.alloc (Below.refl _ _) (Nat.le_refl _) _) (by simp) _)) (liesII_one u3 7 3 32)
  refine S.mono ?_; rintro e u4 ⟨rfl, g4⟩
  have g5 : Gr u3 u4 := Gr.trans (Below.alloc (Below.alloc (Below.refl _ _) (Nat.le_refl _) _) (by simp) _) g4
  go_wp2_with fail
  go_ret
  exact ⟨rfl, (((g0.trans g).trans g2).trans g3).trans g5⟩
end Go.Proofs.Ytddjhajnhamjoaa

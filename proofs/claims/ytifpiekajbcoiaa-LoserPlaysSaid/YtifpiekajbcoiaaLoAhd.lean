/- Who is ahead, as the program tells it: its walk. -/
import Derived.Test.YtifpiekajbcoiaaLoMem
namespace Go.Proofs.Ytifpiekajbcoiaa
open Go.RowKit LoPlain
set_option linter.unusedVariables false
set_option linter.unusedSimpArgs false
set_option maxRecDepth 20000
set_option maxHeartbeats 4000000 in
theorem aheadO_c {p n : Nat} {g : Nat → Option Hd} {left : Int} {f : Nat → Int} {win : Int} {w : World} {B : Nat → Prop} (h : TrA p n g left f win w B) {a b : Nat} (ha : a < 64) (hb : b < 64) {x y : Hd} (hx : g a = some x) (hy : g b = some y) :
    Calls Try.prog 20 #[.pointer (some ⟨p, 0, none⟩), .int .i64 a, .int .i64 b] w fun e w' => e = .returned (.bool (ahdV x y a b)) ∧ Gr w w' := by
  obtain ⟨cs, hblk, ht⟩ := h
  have hlt := lt_of_block hblk.1
  obtain ⟨a1, a2⟩ := ht.src a x ha hx
  obtain ⟨b1, b2⟩ := ht.src b y hb hy
  rw [← cells_at hblk.1] at a1 a2 b1 b2
  have hv : ahdV x y a b = if x.o = y.o then (if cmpS (keptS x) (keptS y) = 0 then decide (cmpI a b < 0) else decide (cmpS (keptS x) (keptS y) < 0)) else y.o := rfl
  have HV := Lib.hid hv
  generalize ahdV x y a b = r at HV
  generalize keptS x = s1 at a1 HV
  generalize keptS y = s2 at b1 HV
  generalize x.o = o1 at a2 HV
  generalize y.o = o2 at b2 HV
  clear hv hx hy ht hblk
  have D := Lib.hid (fun u (gr : Gr w u) => (⟨by rw [Below.cell gr (p := ⟨p, 2 + a * 2, none⟩) hlt]; exact a1, by rw [Below.cell gr (p := ⟨p, 2 + a * 2 + 1, none⟩) hlt]; exact a2, by rw [Below.cell gr (p := ⟨p, 2 + b * 2, none⟩) hlt]; exact b1, by rw [Below.cell gr (p := ⟨p, 2 + b * 2 + 1, none⟩) hlt]; exact b2⟩ : u.cell? ⟨p, 2 + a * 2, none⟩ = some (.string s1) ∧ u.cell? ⟨p, 2 + a * 2 + 1, none⟩ = some (.bool o1) ∧ u.cell? ⟨p, 2 + b * 2, none⟩ = some (.string s2) ∧ u.cell? ⟨p, 2 + b * 2 + 1, none⟩ = some (.bool o2)))
  have HC := Lib.hid (fun u => compare_c s1 s2 u)
  have HI := Lib.hid (fun u => cmpI_c (a : Int) (b : Int) u)
  obtain ⟨rr, hrr⟩ : ∃ rr, (if cmpS s1 s2 = 0 then cmpI (a : Int) (b : Int) else cmpS s1 s2) = rr := ⟨_, rfl⟩
  have HO := Lib.hid (fun (b1 : Nat) (u : World) (hb : b1 < u.heap.size) (h0 : u.cell? ⟨b1, 0, none⟩ = some (.int .i64 (cmpS s1 s2))) (h1 : u.cell? ⟨b1, 1, none⟩ = some (.int .i64 (cmpI (a : Int) (b : Int)))) => or_c hb h0 h1)
  rw [hrr] at HO
  have HV2 := Lib.hid (show (if cmpS s1 s2 = 0 then decide (cmpI (a : Int) (b : Int) < 0) else decide (cmpS s1 s2 < 0)) = decide (rr < 0) by rw [← hrr]; split <;> rfl)
  clear hrr
  have GA := Lib.hid (fun (o1 o2 : Obj) => Gr.trans (Gr.of (Below.alloc (Below.refl _ w) (Nat.le_refl _) o1)) (Gr.of (Below.alloc (Below.refl _ (w.alloc o1)) (Nat.le_refl _) o2)))
  have GO := Lib.hid (fun (u : World) (g : Gr w u) (o : Obj) => g.trans (Gr.of (Below.alloc (Below.refl _ u) (Nat.le_refl _) o)))
  cases o1 <;> cases o2
  all_goals
    go_enter Try.func20, Try.ntmps20
    go_wp2_with fail
    go_region
    all_goals
      go_wp2_with fail
      first
      | (go_ret
         exact ⟨ret_b15 (by rw [HV.out]; rfl), Below.drew (GA.out _ _)⟩)
      | (refine (HC.out _).mono ?_; rintro e u ⟨rfl, rfl⟩
         go_wp2_with fail
         refine (HI.out _).mono ?_; rintro e u ⟨rfl, rfl⟩
         go_wp2_with fail
         refine (HO.out _ _ (by simp) (by go_simp) (by go_simp)).mono ?_; rintro e u ⟨rfl, rfl⟩
         go_wp2_with fail
         go_ret
         exact ⟨ret_b15 (by rw [HV.out, ← HV2.out]; simp), Below.drew (GO.out _ (GA.out _ _) _)⟩)
end Go.Proofs.Ytifpiekajbcoiaa

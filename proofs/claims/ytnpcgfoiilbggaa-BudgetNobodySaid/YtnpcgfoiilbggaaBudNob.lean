/- A budget that nobody made; the chapter's example. -/
import Derived.Test.YtnpcgfoiilbggaaBud
namespace Go.Proofs.Ytnpcgfoiilbggaa
open Go.RowKit
set_option linter.unusedVariables false
set_option linter.unusedSimpArgs false
/-- Nobody's budget: nil, or one that New did not give. -/
def NobB (v : Value) (w : World) : Prop := v = .pointer none ∨ ∃ p, v = .pointer (some ⟨p, 0, none⟩) ∧ p < w.heap.size ∧ w.cell? ⟨p, 0, none⟩ = some (.bool false)
theorem NobB.gr {v : Value} {w w' : World} (h : NobB v w) (g : Gr w w') : NobB v w' := by
  rcases h with h | ⟨p, h1, h2, h3⟩
  · exact .inl h
  · exact .inr ⟨p, h1, Nat.lt_of_lt_of_le h2 g.size, by rw [g.cell (by exact h2)]; exact h3⟩
theorem bmade_n (v : Value) (w : World) (h : NobB v w) : Calls Try.prog 11 #[v] w fun e w' => e = .returned (.bool false) ∧ w = w' := by
  rcases h with rfl | ⟨p, rfl, _, c1⟩
  all_goals
    go_enter Try.func11, Try.ntmps11
    go_wp2_with fail
    go_ret
    exact ⟨rfl, rfl⟩
theorem bleft_n (v : Value) (w : World) (h : NobB v w) : Calls Try.prog 8 #[v] w fun e w' => e = .returned (.int .i64 0) ∧ w = w' := by
  have C := bmade_n v w h
  clear h
  go_enter Try.func8, Try.ntmps8
  go_wp2_with fail
  refine C.mono ?_; rintro e w2 ⟨rfl, rfl⟩
  go_wp2_with fail
  go_ret
  exact ⟨rfl, rfl⟩
theorem bnow_n (v : Value) (w : World) (h : NobB v w) : Calls Try.prog 6 #[v] w fun e w' => e = .returned (.int .i64 0) ∧ w = w' := by
  have C := bmade_n v w h
  clear h
  go_enter Try.func6, Try.ntmps6
  go_wp2_with fail
  refine C.mono ?_; rintro e w2 ⟨rfl, rfl⟩
  go_wp2_with fail
  go_ret
  exact ⟨rfl, rfl⟩
theorem bhigh_n (v : Value) (w : World) (h : NobB v w) : Calls Try.prog 7 #[v] w fun e w' => e = .returned (.int .i64 0) ∧ w = w' := by
  have C := bmade_n v w h
  clear h
  go_enter Try.func7, Try.ntmps7
  go_wp2_with fail
  refine C.mono ?_; rintro e w2 ⟨rfl, rfl⟩
  go_wp2_with fail
  go_ret
  exact ⟨rfl, rfl⟩
theorem btake_n (v : Value) (n : Int) (w : World) (h : NobB v w) : Calls Try.prog 5 #[v, .int .i64 n] w fun e w' => e = .returned (.int .i64 1) ∧ w = w' := by
  have C := bmade_n v w h
  clear h
  go_enter Try.func5, Try.ntmps5
  go_wp2_with fail
  refine C.mono ?_; rintro e w2 ⟨rfl, rfl⟩
  go_wp2_with fail
  go_ret
  exact ⟨rfl, rfl⟩
theorem bgive_n (v : Value) (n : Int) (w : World) (h : NobB v w) : Calls Try.prog 4 #[v, .int .i64 n] w fun e w' => e = .returned (.tuple #[]) ∧ w = w' := by
  have C := bmade_n v w h
  clear h
  go_enter Try.func4, Try.ntmps4
  go_wp2_with fail
  refine C.mono ?_; rintro e w2 ⟨rfl, rfl⟩
  go_wp2_with fail
  exact bodyPost_ret (results_none rfl _ _ _) rfl ⟨rfl, rfl⟩
/-- A budget of one's own since w. -/
def HasB (w : World) (p : Nat) (b : Bu) (wr : World) : Prop := BAt wr p b ∧ Gr w wr ∧ w.heap.size ≤ p
theorem HasB.gr {w wr u : World} {p : Nat} {b : Bu} (h : HasB w p b wr) (g : Gr wr u) : HasB w p b u := ⟨h.1.gr g, h.2.1.trans g, h.2.2⟩
theorem HasB.put {w wr u : World} {p : Nat} {b b' : Bu} (h : HasB w p b wr) (k : BAt u p b') (g : Only (fun i => i = p) wr u) : HasB w p b' u :=
  ⟨k, Below.trans h.2.1 (g.toBelow h.2.1.size fun i hi => by rw [hi]; exact h.2.2), h.2.2⟩
theorem hb_take {w wr : World} {p : Nat} {b b' : Bu} {n c : Int} (h : HasB w p b wr) (h1 : b.take n = b') (h2 : b.takeE n = c) :
    Calls Try.prog 5 #[.pointer (some ⟨p, 0, none⟩), .int .i64 n] wr fun e w' => e = .returned (.int .i64 c) ∧ HasB w p b' w' := by
  have C := btake_c p b n wr h.1
  rw [h1, h2] at C
  exact C.mono fun e u ⟨he, hx, ho⟩ => ⟨he, h.put hx ho⟩
theorem hb_give {w wr : World} {p : Nat} {b b' : Bu} {n : Int} (h : HasB w p b wr) (h1 : b.give n = b') :
    Calls Try.prog 4 #[.pointer (some ⟨p, 0, none⟩), .int .i64 n] wr fun e w' => e = .returned (.tuple #[]) ∧ HasB w p b' w' := by
  have C := bgive_c p b n wr h.1
  rw [h1] at C
  exact C.mono fun e u ⟨he, hx, ho⟩ => ⟨he, h.put hx ho⟩
theorem hb_left {w wr : World} {p : Nat} {b : Bu} {c : Int} (h : HasB w p b wr) (h1 : b.m - b.now = c) :
    Calls Try.prog 8 #[.pointer (some ⟨p, 0, none⟩)] wr fun e w' => e = .returned (.int .i64 c) ∧ HasB w p b w' := by
  have C := bleft_c p b wr h.1
  rw [h1] at C
  exact C.mono fun e u ⟨he, g⟩ => ⟨he, h.gr g⟩
theorem bawake7_c (w : World) : Calls Try.prog 10 #[] w fun e w' => e = .returned (.bool true) ∧ Gr w w' := by
  have C0 := bnew_c 5 w (by decide) (by decide)
  go_enter Try.func10, Try.ntmps10
  go_wp2_with fail
  refine C0.mono ?_; rintro e w1 ⟨rfl, h1, g1⟩
  have H1 := Lib.hid (show HasB w w.heap.size ⟨5, 0, 0⟩ w1 from ⟨h1, g1, Nat.le_refl _⟩)
  clear h1 g1 C0
  go_wp2_with fail
  refine (hb_take (n := 3) (b' := ⟨5, 3, 3⟩) (c := 0) H1.out rfl rfl).mono ?_; rintro e w2 ⟨rfl, h⟩
  have H2 := Lib.hid h
  clear h
  go_wp2_with fail
  refine (hb_take (n := 3) (b' := ⟨5, 3, 3⟩) (c := 9) H2.out rfl rfl).mono ?_; rintro e w3 ⟨rfl, h⟩
  have H3 := Lib.hid h
  clear h
  go_wp2_with fail
  refine (bhigh_c _ _ _ H3.out.1).mono ?_; rintro e w4 ⟨rfl, rfl⟩
  rw [show (Bu.mk 5 3 3).high = 3 from rfl]
  go_wp2_with fail
  refine (hb_left (c := 2) H3.out rfl).mono ?_; rintro e w5 ⟨rfl, h⟩
  have H5 := Lib.hid h
  clear h
  go_wp2_with fail
  go_ret
  exact ⟨rfl, H5.out.2.1⟩
end Go.Proofs.Ytnpcgfoiilbggaa

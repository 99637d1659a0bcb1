/- In one text: Bud. -/
import Derived.Test.YtibajmjplpnbmaaP03
import Derived.RegionTactic
import Derived.ChangeAlike
import Derived.Deep.QuietTactic
import Derived.BigQuiet
/- A budget: what it is, what its calls make of it, their contracts. -/
namespace Go.Proofs.Ytibajmjplpnbmaa
open Go.RowKit
set_option linter.unusedVariables false
set_option linter.unusedSimpArgs false
set_option maxRecDepth 20000
/-- A budget: its bound, how many are in memory, how many at most. -/
structure Bu where
  m : Int
  now : Int
  high : Int
structure Bu.ok (b : Bu) : Prop where
  n0 : 0 ≤ b.now
  n1 : b.now ≤ b.high
  h1 : b.high ≤ b.m
  m1 : b.m ≤ 9223372036854775807
def Bu.take (b : Bu) (n : Int) : Bu := if n < 0 ∨ b.m - b.now < n then b else ⟨b.m, b.now + n, max b.high (b.now + n)⟩
def Bu.takeE (b : Bu) (n : Int) : Int := if n < 0 then 1 else if b.m - b.now < n then 9 else 0
def Bu.give (b : Bu) (n : Int) : Bu := if n < 0 then b else ⟨b.m, b.now - min n b.now, b.high⟩
theorem Bu.take_ok {b : Bu} (h : b.ok) (n : Int) : (b.take n).ok := by
  obtain ⟨h1, h2, h3, h4⟩ := h
  unfold Bu.take
  split
  · exact ⟨h1, h2, h3, h4⟩
  · constructor <;> simp only [] <;> omega
theorem Bu.give_ok {b : Bu} (h : b.ok) (n : Int) : (b.give n).ok := by
  obtain ⟨h1, h2, h3, h4⟩ := h
  unfold Bu.give
  split
  · exact ⟨h1, h2, h3, h4⟩
  · constructor <;> simp only [] <;> omega
def bcells (b : Bu) : Array Value := #[.bool true, .int .i64 b.m, .int .i64 b.now, .int .i64 b.high]
/-- At p there is a budget b. -/
def BAt (w : World) (p : Nat) (b : Bu) : Prop := b.ok ∧ w.heap[p]? = some (.cells (bcells b) 57 (0, 0))
theorem BAt.only {w w' : World} {p : Nat} {b : Bu} {C : Nat → Prop} (h : BAt w p b) (g : Only C w w') (hC : ¬ C p) : BAt w' p b :=
  ⟨h.1, by rw [g.block p (lt_of_block h.2) hC]; exact h.2⟩
theorem BAt.gr {w w' : World} {p : Nat} {b : Bu} (h : BAt w p b) (g : Gr w w') : BAt w' p b := h.only (Only.ofGr (B := fun _ => False) g) id
theorem BAt.lt {w : World} {p : Nat} {b : Bu} (h : BAt w p b) : p < w.heap.size := lt_of_block h.2

theorem bmade_c (p : Nat) (b : Bu) (w : World) (h : BAt w p b) :
    Calls Try.prog 42 #[.pointer (some ⟨p, 0, none⟩)] w fun e w' => e = .returned (.bool true) ∧ w = w' := by
  have c0 : w.cell? ⟨p, 0, none⟩ = some (.bool true) := by rw [cells_at h.2]; rfl
  clear h
  go_enter Try.func42, Try.ntmps42
  go_wp2_with fail
  go_ret
  exact ⟨rfl, rfl⟩
theorem bleft_c (p : Nat) (b : Bu) (w : World) (h : BAt w p b) :
    Calls Try.prog 46 #[.pointer (some ⟨p, 0, none⟩)] w fun e w' => e = .returned (.int .i64 (b.m - b.now)) ∧ Gr w w' := by
  have C := bmade_c p b w h
  have c1 : w.cell? ⟨p, 1, none⟩ = some (.int .i64 b.m) := by rw [cells_at h.2]; rfl
  have c2 : w.cell? ⟨p, 2, none⟩ = some (.int .i64 b.now) := by rw [cells_at h.2]; rfl
  obtain ⟨⟨n0, n1, h1, m1⟩, _⟩ := h
  go_enter Try.func46, Try.ntmps46
  go_wp2_with fail
  refine C.mono ?_; rintro e w2 ⟨rfl, rfl⟩
  go_wp2_with fail
  go_quiet (fail)
  go_wp2_with fail
  go_ret
  exact ⟨rfl, grN _ _⟩
theorem bnow_c (p : Nat) (b : Bu) (w : World) (h : BAt w p b) :
    Calls Try.prog 20 #[.pointer (some ⟨p, 0, none⟩)] w fun e w' => e = .returned (.int .i64 b.now) ∧ w = w' := by
  have C := bmade_c p b w h
  have c2 : w.cell? ⟨p, 2, none⟩ = some (.int .i64 b.now) := by rw [cells_at h.2]; rfl
  clear h
  go_enter Try.func20, Try.ntmps20
  go_wp2_with fail
  refine C.mono ?_; rintro e w2 ⟨rfl, rfl⟩
  go_wp2_with fail
  go_ret
  exact ⟨rfl, rfl⟩
theorem bhigh_c (p : Nat) (b : Bu) (w : World) (h : BAt w p b) :
    Calls Try.prog 21 #[.pointer (some ⟨p, 0, none⟩)] w fun e w' => e = .returned (.int .i64 b.high) ∧ w = w' := by
  have C := bmade_c p b w h
  have c3 : w.cell? ⟨p, 3, none⟩ = some (.int .i64 b.high) := by rw [cells_at h.2]; rfl
  clear h
  go_enter Try.func21, Try.ntmps21
  go_wp2_with fail
  refine C.mono ?_; rintro e w2 ⟨rfl, rfl⟩
  go_wp2_with fail
  go_ret
  exact ⟨rfl, rfl⟩
theorem bnew_no (m : Int) (w : World) (h : m < 0) :
    Calls Try.prog 9 #[.int .i64 m] w fun e w' => e = .returned (.pointer none) ∧ w = w' := by
  go_enter Try.func9, Try.ntmps9
  go_wp2_with fail
  go_ret
  exact ⟨rfl, rfl⟩
theorem bnew_c (m : Int) (w : World) (h : 0 ≤ m) (h2 : m ≤ 9223372036854775807) :
    Calls Try.prog 9 #[.int .i64 m] w fun e w' => e = .returned (.pointer (some ⟨w.heap.size, 0, none⟩)) ∧ BAt w' w.heap.size ⟨m, 0, 0⟩ ∧ Gr w w' := by
  go_enter Try.func9, Try.ntmps9
  go_wp2_with fail
  go_ret
  exact ⟨rfl, ⟨⟨Int.le_refl 0, Int.le_refl 0, h, h2⟩, heap_alloc_new w _⟩, Below.alloc (Below.refl _ _) (Nat.le_refl _) _⟩

theorem btake_of {p : Nat} {b : Bu} {w : World} (h : BAt w p b) {n a c : Int} (h0 : 0 ≤ n) (h1 : n ≤ b.m - b.now) (ha : a = b.now + n) (hc : c = max b.high (b.now + n)) :
    BAt ((w.setCell ⟨p, 2, none⟩ (.int .i64 a)).setCell ⟨p, 3, none⟩ (.int .i64 c)).drew p (b.take n) ∧ Only (fun i => i = p) w ((w.setCell ⟨p, 2, none⟩ (.int .i64 a)).setCell ⟨p, 3, none⟩ (.int .i64 c)).drew := by
  subst ha hc
  refine ⟨⟨Bu.take_ok h.1 n, ?_⟩, ((Only.cell1 _ _ _ _).trans (Only.cell1 _ _ _ _)).trans (Only.drew _ _)⟩
  have e : b.take n = ⟨b.m, b.now + n, max b.high (b.now + n)⟩ := by unfold Bu.take; rw [if_neg (by omega)]
  rw [e]; show ((w.setCell _ _).setCell _ _).heap[p]? = _; rw [cells_set (cells_set h.2 2 _) 3 _]; rfl
theorem bgive_of {p : Nat} {b : Bu} {w : World} (h : BAt w p b) {n a : Int} (h0 : 0 ≤ n) (ha : a = b.now - min n b.now) :
    BAt (w.setCell ⟨p, 2, none⟩ (.int .i64 a)).drew p (b.give n) ∧ Only (fun i => i = p) w (w.setCell ⟨p, 2, none⟩ (.int .i64 a)).drew := by
  subst ha
  refine ⟨⟨Bu.give_ok h.1 n, ?_⟩, (Only.cell1 _ _ _ _).trans (Only.drew _ _)⟩
  have e : b.give n = ⟨b.m, b.now - min n b.now, b.high⟩ := by unfold Bu.give; rw [if_neg (by omega)]
  rw [e]; show (w.setCell _ _).heap[p]? = _; rw [cells_set h.2 2 _]; rfl
/-- What Take, and Give, come to. -/
def BTaken (p : Nat) (b' : Bu) (w : World) (v : Value) (e : Ending) (w' : World) : Prop := e = .returned v ∧ BAt w' p b' ∧ Only (fun i => i = p) w w'
set_option maxHeartbeats 1000000 in
theorem btake_c (p : Nat) (b : Bu) (n : Int) (w : World) (h : BAt w p b) :
    Calls Try.prog 29 #[.pointer (some ⟨p, 0, none⟩), .int .i64 n] w (BTaken p (b.take n) w (.int .i64 (b.takeE n))) := by
  have C := bmade_c p b w h
  have CL := bleft_c p b w h
  have H := Lib.hid h
  obtain ⟨⟨n0, n1, h1, m1⟩, _⟩ := h
  obtain ⟨l, hl⟩ : ∃ l, l = b.m - b.now := ⟨_, rfl⟩
  rw [← hl] at CL
  have HL := Lib.hid hl
  by_cases h3 : n < 0
  · clear hl
    go_enter Try.func29, Try.ntmps29
    go_wp2_with fail
    refine C.mono ?_; rintro e w2 ⟨rfl, rfl⟩
    go_wp2_with fail
    go_ret
    rw [show b.take n = b by unfold Bu.take; rw [if_pos (.inl h3)]]
    exact ⟨ret_i (by unfold Bu.takeE; rw [if_pos h3]), H.out, Only.refl _ _⟩
  · by_cases h4 : l < n
    · clear hl
      go_enter Try.func29, Try.ntmps29
      go_wp2_with fail
      refine C.mono ?_; rintro e w2 ⟨rfl, rfl⟩
      go_wp2_with fail
      refine CL.mono ?_; rintro e w2 ⟨rfl, g⟩
      have HG := Lib.hid g
      clear g
      go_wp2_with fail
      go_ret
      rw [show b.take n = b by unfold Bu.take; rw [← HL.out, if_pos (.inr h4)]]
      exact ⟨ret_i (by unfold Bu.takeE; rw [← HL.out, if_neg (by omega), if_pos h4]), H.out.gr HG.out, Only.ofGr HG.out⟩
    · have he : b.takeE n = 0 := by unfold Bu.takeE; rw [← hl, if_neg h3, if_neg h4]
      rw [he]
      have hle : b.now + n ≤ 9223372036854775807 := by omega
      have K := Lib.hid (fun w2 (g : Gr w w2) a c (ha : a = b.now + n) hc => (btake_of (n := n) (a := a) (c := c) (H.out.gr g) (by omega) (by omega) ha hc).imp id (fun o => (Only.ofGr (B := fun i => i = p) g).trans o))
      clear he hl
      go_enter Try.func29, Try.ntmps29
      go_wp2_with fail
      refine C.mono ?_; rintro e w2 ⟨rfl, rfl⟩
      go_wp2_with fail
      refine CL.mono ?_; rintro e w2 ⟨rfl, g⟩
      have c2 : w2.cell? ⟨p, 2, none⟩ = some (.int .i64 b.now) := by rw [cells_at (H.out.gr g).2]; rfl
      have c3 : w2.cell? ⟨p, 3, none⟩ = some (.int .i64 b.high) := by rw [cells_at (H.out.gr g).2]; rfl
      have f2 := cells_free (H.out.gr g).2 2
      have f3 := cells_free (H.out.gr g).2 3
      have HG := Lib.hid g
      clear g C CL
      go_wp2_with fail
      go_region
      all_goals go_wp2_with fail
      all_goals
        go_ret
        refine ⟨rfl, K.out _ HG.out _ _ ?_ ?_⟩ <;> omega
set_option maxHeartbeats 1000000 in
theorem bgive_c (p : Nat) (b : Bu) (n : Int) (w : World) (h : BAt w p b) :
    Calls Try.prog 31 #[.pointer (some ⟨p, 0, none⟩), .int .i64 n] w (BTaken p (b.give n) w (.tuple #[])) := by
  have C := bmade_c p b w h
  have c2 : w.cell? ⟨p, 2, none⟩ = some (.int .i64 b.now) := by rw [cells_at h.2]; rfl
  have f2 := cells_free h.2 2
  have H := Lib.hid h
  obtain ⟨⟨n0, n1, h1, m1⟩, _⟩ := h
  by_cases h3 : n < 0
  · go_enter Try.func31, Try.ntmps31
    go_wp2_with fail
    refine C.mono ?_; rintro e w2 ⟨rfl, rfl⟩
    go_wp2_with fail
    refine bodyPost_ret (results_none rfl _ _ _) rfl ?_
    rw [show b.give n = b by unfold Bu.give; rw [if_pos h3]]
    exact ⟨rfl, H.out, Only.refl _ _⟩
  · have K := Lib.hid (fun a (ha : a = b.now - min n b.now) => bgive_of (n := n) (a := a) H.out (by omega) ha)
    go_enter Try.func31, Try.ntmps31
    go_wp2_with fail
    refine C.mono ?_; rintro e w2 ⟨rfl, rfl⟩
    go_wp2_with fail
    go_region
    all_goals go_wp2_with fail
    all_goals
      go_end0
      refine ⟨rfl, K.out _ ?_⟩; omega
end Go.Proofs.Ytibajmjplpnbmaa

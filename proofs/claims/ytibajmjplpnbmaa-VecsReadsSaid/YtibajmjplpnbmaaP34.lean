/- In one text: VcHeld. -/
import Derived.Test.YtibajmjplpnbmaaP33
import Derived.OwnWalk
/- The program's store: N, D, Held; what a store that is not open answers; Close. -/
namespace Go.Proofs.Ytibajmjplpnbmaa
open Go.RowKit FsPlain OctPlain DsPlain
set_option linter.unusedVariables false
set_option linter.unusedSimpArgs false
set_option maxRecDepth 20000
/-! N, D -/
theorem vn_c (p : Nat) (n : Int) (w : World) (h : w.cell? ⟨p, 4, none⟩ = some (.int .i64 n)) :
    Calls Try.prog 13 #[.pointer (some ⟨p, 0, none⟩)] w fun e w' => e = .returned (.int .i64 n) ∧ w = w' := by
  go_enter Try.func13, Try.ntmps13
  go_wp2_with fail
  go_ret
  exact ⟨rfl, rfl⟩
theorem vn_nil (w : World) : Calls Try.prog 13 #[.pointer none] w fun e w' => e = .returned (.int .i64 0) ∧ w = w' := by
  go_enter Try.func13, Try.ntmps13
  go_wp2_with fail
  go_ret
  exact ⟨rfl, rfl⟩
theorem vd_c (p : Nat) (n : Int) (w : World) (h : w.cell? ⟨p, 5, none⟩ = some (.int .i64 n)) :
    Calls Try.prog 14 #[.pointer (some ⟨p, 0, none⟩)] w fun e w' => e = .returned (.int .i64 n) ∧ w = w' := by
  go_enter Try.func14, Try.ntmps14
  go_wp2_with fail
  go_ret
  exact ⟨rfl, rfl⟩
theorem vd_nil (w : World) : Calls Try.prog 14 #[.pointer none] w fun e w' => e = .returned (.int .i64 0) ∧ w = w' := by
  go_enter Try.func14, Try.ntmps14
  go_wp2_with fail
  go_ret
  exact ⟨rfl, rfl⟩
/-! One that is not open. -/
theorem vget_nil (i : Int) (w : World) : Calls Try.prog 16 #[.pointer none, .int .i64 i] w fun e w' => e = .returned (.tuple #[.slice none 0 0, .int .i64 14]) ∧ Gr w w' := by
  have O := fun u => vopen_nil u
  have g : Gr w (w.alloc (.cells #[.int .i64 i] 3)) := Below.alloc (Below.refl _ _) (Nat.le_refl _) _
  have HG := Lib.hid g
  clear g
  go_enter Try.func16, Try.ntmps16
  go_wp2_with fail
  refine (O _).mono ?_; rintro e u ⟨rfl, rfl⟩
  go_wp2_with fail
  go_ret2
  exact ⟨rfl, HG.out⟩
theorem vget_shut (p : Nat) (i : Int) (w : World) (h : w.cell? ⟨p, 0, none⟩ = some (.pointer none)) : Calls Try.prog 16 #[.pointer (some ⟨p, 0, none⟩), .int .i64 i] w fun e w' => e = .returned (.tuple #[.slice none 0 0, .int .i64 14]) ∧ Gr w w' := by
  have g : Gr w (w.alloc (.cells #[.int .i64 i] 3)) := Below.alloc (Below.refl _ _) (Nat.le_refl _) _
  have O := Lib.hid (vopen_c p none (w.alloc (.cells #[.int .i64 i] 3)) (cell_grV g h))
  have HG := Lib.hid g
  clear g
  go_enter Try.func16, Try.ntmps16
  go_wp2_with fail
  refine (O.out).mono ?_; rintro e u ⟨rfl, rfl⟩
  go_wp2_with fail
  go_ret2
  exact ⟨rfl, HG.out⟩
theorem vheld_nil (w : World) : Calls Try.prog 17 #[.pointer none] w fun e w' => e = .returned (.slice none 0 0) ∧ w = w' := by
  have O := fun u => vopen_nil u
  go_enter Try.func17, Try.ntmps17
  go_wp2_with fail
  refine (O _).mono ?_; rintro e u ⟨rfl, rfl⟩
  go_wp2_with fail
  go_ret
  exact ⟨rfl, rfl⟩
theorem vheld_shut (p : Nat) (w : World) (h : w.cell? ⟨p, 0, none⟩ = some (.pointer none)) : Calls Try.prog 17 #[.pointer (some ⟨p, 0, none⟩)] w fun e w' => e = .returned (.slice none 0 0) ∧ w = w' := by
  have O := vopen_c p none w h
  go_enter Try.func17, Try.ntmps17
  go_wp2_with fail
  refine O.mono ?_; rintro e u ⟨rfl, rfl⟩
  go_wp2_with fail
  go_ret
  exact ⟨rfl, rfl⟩
theorem vclose_nil (w : World) : Calls Try.prog 19 #[.pointer none] w fun e w' => e = .returned (.tuple #[]) ∧ w = w' := by
  have O := fun u => vopen_nil u
  go_enter Try.func19, Try.ntmps19
  go_wp2_with fail
  refine (O _).mono ?_; rintro e u ⟨rfl, rfl⟩
  go_wp2_with fail
  exact bodyPost_ret (results_none rfl _ _ _) rfl ⟨rfl, rfl⟩
theorem vclose_shut (p : Nat) (w : World) (h : w.cell? ⟨p, 0, none⟩ = some (.pointer none)) : Calls Try.prog 19 #[.pointer (some ⟨p, 0, none⟩)] w fun e w' => e = .returned (.tuple #[]) ∧ w = w' := by
  have O := vopen_c p none w h
  go_enter Try.func19, Try.ntmps19
  go_wp2_with fail
  refine O.mono ?_; rintro e u ⟨rfl, rfl⟩
  go_wp2_with fail
  exact bodyPost_ret (results_none rfl _ _ _) rfl ⟨rfl, rfl⟩
/-! Held. -/
def idK (K : List Kp) : List Int := K.map Kp.id
/-- The first ones are told, the others not yet. -/
def toldK (K : List Kp) (j : Nat) : List Value := ints (idK (K.take j)) ++ List.replicate (K.length - j) (.int .i64 0)
theorem toldK_zero (K : List Kp) : toldK K 0 = List.replicate K.length (.int .i64 0) := by simp [toldK, idK, ints]
theorem toldK_all (K : List Kp) : toldK K K.length = ints (idK K) := by simp [toldK]
theorem toldK_set {K : List Kp} {j : Nat} {x : Kp} (hx : K[j]? = some x) : (toldK K j).set j (.int .i64 x.id) = toldK K (j + 1) := by
  have hlt := (List.getElem?_eq_some_iff.1 hx).1
  have hl : (ints (idK (K.take j))).length = j := by simp [ints, idK]; omega
  obtain ⟨q, hq⟩ : ∃ q, K.length - j = q + 1 := ⟨K.length - j - 1, by omega⟩
  unfold toldK
  rw [List.set_append_right _ _ (by omega), hl, Nat.sub_self, hq, List.replicate_succ, List.set_cons_zero, show K.length - (j + 1) = q by omega, List.take_succ_eq_append_getElem hlt]
  have : K[j] = x := by rw [List.getElem?_eq_getElem hlt] at hx; exact Option.some.inj hx
  rw [this]
  simp [ints, idK]
def HeAt (K : List Kp) (w : World) (v : Value) (j : Value) (wr : World) : Prop := ∃ a : Nat, a ≤ K.length ∧ j = .int .i64 (a : Int) ∧ wr.ownsRow w.heap.size 3 1 v K.length (toldK K a) ∧ Below w.heap.size w wr
set_option maxHeartbeats 2000000 in
theorem vheld_c (p : Nat) (dp : Addr) (v : Value) (K : List Kp) (hl : K.length ≤ 1500000) (w : World) (h0 : w.cell? ⟨p, 0, none⟩ = some (.pointer (some dp))) (h6 : w.cell? ⟨p, 6, none⟩ = some v) (h : OwnK w v K) :
    Calls Try.prog 17 #[.pointer (some ⟨p, 0, none⟩)] w fun e w' => ∃ v', e = .returned v' ∧ w'.ownsRow w.heap.size 3 1 v' K.length (ints (idK K)) ∧ Gr w w' := by
  obtain ⟨i0, hi, hz0, hz1, hz2⟩ := info_partsV infoI
  have O := vopen_c p (some dp) w h0
  have KH := Lib.hid (fun u (g : Gr w u) => ownK_gr h g)
  obtain ⟨ad, c, rfl, hc, hg⟩ := ownK_shape h
  have HG := Lib.hid hg
  have hpl := World.block_lt_of_cell? w _ h6
  obtain ⟨n, hn⟩ : ∃ n, n = K.length := ⟨_, rfl⟩
  rw [← hn] at h6 hl hc
  have H6 := Lib.hid (fun u (g : Gr w u) => cell_grV g h6)
  have HN := Lib.hid hn
  clear h hg hn
  go_enter Try.func17, Try.ntmps17
  go_wp2_with fail
  refine O.mono ?_; rintro e u ⟨rfl, rfl⟩
  go_wp2_with (first
    | (at_make; refine wpList_make_full _ rfl _ _ 41 rfl w.heap.size 3 i0 (.int .i64 0) 1 Try.underlying41 hi hz0 hz1 .i64 .i64 _ _ n rfl rfl rfl rfl (by rw [hz2]; omega) (by unfold maxLen; omega) (Nat.le_refl _) ?_)
    | go_in)
  intro w0 hown0 hgrow0
  have g0 : Gr w w0 := Below.grown (Below.refl _ _) hgrow0 (Nat.le_refl _) (fun k e => by cases e)
  have o0 : w0.ownsRow w.heap.size 3 1 (.slice (some ⟨w.heap.size, 0, none⟩) n n) K.length (toldK K 0) := by
    rw [toldK_zero, ← HN.out]
    rw [toList_madeCells_one] at hown0
    exact hown0
  have O0 := Lib.hid o0
  have c6 := H6.out w0 g0
  clear hown0 hgrow0 o0 h6 h0
  go_wp2_with fail
  go_loopw [20] (fun j wr => HeAt K w (.slice (some ⟨w.heap.size, 0, none⟩) n n) j wr) (fun j _ => n - (intOf j).toNat)
  case atStart => exact ⟨0, Nat.zero_le _, rfl, O0.out, g0⟩
  case round =>
    obtain ⟨a, ha, rfl, hown, hbel⟩ := hrel
    rw [← HN.out] at ha
    by_cases hlt : a < n
    · obtain ⟨g, rfl, hgb⟩ := HG.out (by rw [← HN.out]; omega)
      obtain ⟨x, hx⟩ : ∃ x, K[a]? = some x := ⟨_, List.getElem?_eq_getElem (by rw [← HN.out]; exact hlt)⟩
      obtain ⟨x1, x2⟩ := ownK_cells (KH.out _ (Gr.of hbel)) hx
      unfold Kp.v at x2
      have t1 : (a : Int) < (n : Int) := by omega
      rw [← HN.out] at hown
      have ha2 : (a : Int) ≤ 1500000 := by omega
      have hcell := (hown.alloc (.cells #[.int .i64 x.id, .slice x.ad x.l.length x.cap] 79)).cellAt a (by omega)
      have hfree := (hown.alloc (.cells #[.int .i64 x.id, .slice x.ad x.l.length x.cap] 79)).frozenAt a
      have hst := ((hown.stored a (.int .i64 x.id)).1).alloc (.cells #[.int .i64 x.id, .slice x.ad x.l.length x.cap] 79)
      rw [toldK_set hx] at hst
      have hbB := (hown.lt w.heap.size rfl).2
      have hv : ∃ u, (toldK K a)[a]? = some u := ⟨_, List.getElem?_eq_getElem (by have := hown.1; omega)⟩
      obtain ⟨u0, hu0⟩ := hv
      rw [hu0] at hcell
      have hbw : Below w.heap.size w ((wr.setCell ⟨w.heap.size, a, none⟩ (.int .i64 x.id)).alloc (.cells #[.int .i64 x.id, .slice x.ad x.l.length x.cap] 79)) := (hbel.setCell (Nat.le_refl _) _).alloc (by rw [World.size_setCell]; exact hbel.size) _
      have HST := Lib.hid hst
      have HBW := Lib.hid hbw
      clear hst hbw hx hown hu0 O0
      go_wp2_with fail
      refine ⟨⟨a + 1, by rw [← HN.out]; omega, rfl, by rw [← HN.out]; exact HST.out, HBW.out⟩, ?_⟩
      simp [intOf]; omega
    · obtain rfl : a = n := by omega
      rw [HN.out, toldK_all] at hown
      have HO := Lib.hid hown
      clear hown
      go_wp2_with fail
      go_ret
      refine ⟨_, rfl, ?_, Gr.of hbel⟩
      have := HO.out
      rw [← HN.out] at this ⊢
      exact this
end Go.Proofs.Ytibajmjplpnbmaa

/- In one text: VcRev. -/
import Derived.Test.YtibajmjplpnbmaaP05
import Derived.RegionTactic
import Derived.BigRegion
/- slices.Reverse of what is kept: a segment of a row of one's own is turned round in place. -/
namespace Go.Proofs.Ytibajmjplpnbmaa
open Go.RowKit
set_option linter.unusedVariables false
set_option linter.unusedSimpArgs false
set_option maxRecDepth 20000
def RevAt (K : List Kp) (o m g c : Nat) (w : World) (i j : Value) (wr : World) : Prop :=
  ∃ (r : Nat) (z : Int) (L : List Kp), i = .int .i64 (r : Int) ∧ j = .int .i64 z ∧ z = (m : Int) - 1 - r ∧ (r = 0 ∨ 2 * r ≤ m + 1) ∧ HalfK K o m r L ∧ OwnK wr (.slice (some ⟨g, 0, none⟩) K.length c) L ∧ Only (fun b => b = g) w wr
set_option maxHeartbeats 2000000 in
theorem rev_c {w : World} {g c : Nat} {K : List Kp} (h : OwnK w (.slice (some ⟨g, 0, none⟩) K.length c) K) (o m e : Nat) (hm : o + m ≤ K.length) (hl : K.length ≤ 2000000) :
    Calls Try.prog 52 #[.slice (some ⟨g, o * 2, none⟩) m e] w fun x w' => x = .returned (.tuple #[]) ∧ OwnK w' (.slice (some ⟨g, 0, none⟩) K.length c) (revK K o m) ∧ Only (fun b => b = g) w w' := by
  go_enter Try.func52, Try.ntmps52
  go_wp2_with fail
  go_loopw [2, 3] (fun i j wr => RevAt K o m g c w i j wr) (fun i _ _ => m - (intOf i).toNat)
  case atStart => exact ⟨0, _, K, rfl, rfl, by omega, .inl rfl, half_zero K o m, h, Only.refl _ _⟩
  case round =>
    obtain ⟨r, z, L, rfl, rfl, hz, hr, hL, hown, honly⟩ := hrel
    by_cases hlt : (r : Int) < z
    · have h2 : 2 * r + 1 < m := by omega
      obtain ⟨t, ht⟩ : ∃ t, t = m - 1 - r := ⟨_, rfl⟩
      obtain rfl : z = (t : Int) := by omega
      have hLl := hL.1
      obtain ⟨x, hx⟩ : ∃ x, L[o + r]? = some x := ⟨_, List.getElem?_eq_getElem (by omega)⟩
      obtain ⟨y, hy⟩ : ∃ y, L[o + t]? = some y := ⟨_, List.getElem?_eq_getElem (by omega)⟩
      rw [← hLl] at hown
      obtain ⟨x1, x2⟩ := ownK_cells hown hx
      obtain ⟨y1, y2⟩ := ownK_cells hown hy
      have ex : (o + r) * 2 = o * 2 + r * 2 := by omega
      have ey : (o + t) * 2 = o * 2 + t * 2 := by omega
      rw [ex] at x1 x2
      rw [ey] at y1 y2
      have f1 := ownK_free hown (o * 2 + r * 2)
      have f2 := ownK_free hown (o * 2 + r * 2 + 1)
      have f3 := ownK_free hown (o * 2 + t * 2)
      have f4 := ownK_free hown (o * 2 + t * 2 + 1)
      unfold Kp.v at x2 y2
      have t1 : (r : Int) < (m : Int) := by omega
      have t2 : (t : Int) < (m : Int) := by omega
      have t3 : (t : Int) ≤ 2000000 := by omega
      have HT := Lib.hid ht
      have HL := Lib.hid hL
      have HO := Lib.hid hown
      have H2 := Lib.hid h2
      have HE := Lib.hid ex
      have HF := Lib.hid ey
      have HX := Lib.hid hx
      have HY := Lib.hid hy
      clear ht hL hown h2 ex ey hx hy hLl hr hz
      go_wp2_with fail
      go_region
      all_goals
        have k1 := ownK_set HO.out (o + r) y
        rw [HE.out] at k1
        have k2 := ownK_set (by rw [List.length_set]; exact k1) (o + t) x
        rw [HF.out, List.length_set] at k2
        have e2 : o + t = o + m - 1 - r := by have := HT.out; omega
        have hs := half_step hm HL.out H2.out HX.out (by rw [← e2]; exact HY.out)
        rw [← e2] at hs
        have k3 : Only (fun b => b = g) wr ((((wr.setCell ⟨g, o * 2 + r * 2, none⟩ (.int .i64 y.id)).setCell ⟨g, o * 2 + r * 2 + 1, none⟩ y.v).setCell ⟨g, o * 2 + t * 2, none⟩ (.int .i64 x.id)).setCell ⟨g, o * 2 + t * 2 + 1, none⟩ x.v).drew :=
          ((((Only.cell1 _ _ _ _).trans (Only.cell1 _ _ _ _)).trans (Only.cell1 _ _ _ _)).trans (Only.cell1 _ _ _ _)).trans (Only.drew _ _)
        have k4 : OwnK ((((wr.setCell ⟨g, o * 2 + r * 2, none⟩ (.int .i64 y.id)).setCell ⟨g, o * 2 + r * 2 + 1, none⟩ y.v).setCell ⟨g, o * 2 + t * 2, none⟩ (.int .i64 x.id)).setCell ⟨g, o * 2 + t * 2 + 1, none⟩ x.v).drew (.slice (some ⟨g, 0, none⟩) L.length c) ((L.set (o + r) y).set (o + t) x) := k2
        unfold Kp.v at k3 k4
        generalize ((((wr.setCell ⟨g, o * 2 + r * 2, none⟩ (.int .i64 y.id)).setCell ⟨g, o * 2 + r * 2 + 1, none⟩ (.slice y.ad y.l.length y.cap)).setCell ⟨g, o * 2 + t * 2, none⟩ (.int .i64 x.id)).setCell ⟨g, o * 2 + t * 2 + 1, none⟩ (.slice x.ad x.l.length x.cap)).drew = V at k3 k4 ⊢
        rw [HL.out.1] at k4
        have K3 := Lib.hid k3
        have K4 := Lib.hid k4
        have HS := Lib.hid hs
        clear k1 k2 k3 k4 hs x1 x2 y1 y2 f1 f2 f3 f4 e2
        go_wp2_with fail
        refine ⟨⟨r + 1, (t : Int) - 1, _, by simp, by simp, by have := HT.out; have := H2.out; omega, .inr (by have := H2.out; omega), HS.out, K4.out, honly.trans K3.out⟩, ?_⟩
        simp [intOf]; have := H2.out; omega
    · have he := half_all (by omega) hL (by omega)
      have HE := Lib.hid he
      have HO := Lib.hid hown
      have HY := Lib.hid honly
      clear he hown hL honly
      go_wp2_with fail
      go_end0
      exact ⟨rfl, by rw [← HE.out]; exact HO.out, HY.out⟩
/-- Of one, or none, nothing is turned round. -/
theorem rev_none (a : Option Addr) (m e : Nat) (hm : m ≤ 1) (w : World) :
    Calls Try.prog 52 #[.slice a m e] w fun x w' => x = .returned (.tuple #[]) ∧ w = w' := by
  have d1 : ¬ (0 : Int) < (m : Int) - 1 := by omega
  go_enter Try.func52, Try.ntmps52
  go_wp2_with fail
  go_loopw [2, 3] (fun i j wr => i = .int .i64 0 ∧ j = .int .i64 ((m : Int) - 1) ∧ wr = w) (fun i _ _ => 0)
  case atStart => exact ⟨rfl, rfl, rfl⟩
  case round =>
    obtain ⟨rfl, rfl, rfl⟩ := hrel
    go_wp2_with fail
    go_end0
    exact ⟨rfl, rfl⟩
/-- As a call on the row, as a part of a world. -/
theorem rev_does {g c : Nat} {K : List Kp} (o m e : Nat) (hm : o + m ≤ K.length) (hl : K.length ≤ 2000000) (w : World) (B : Nat → Prop) (h : RowK (.slice (some ⟨g, 0, none⟩) K.length c) K w B) :
    Calls Try.prog 52 #[.slice (some ⟨g, o * 2, none⟩) m e] w (Does w B (RowK (.slice (some ⟨g, 0, none⟩) K.length c) (revK K o m)) (.tuple #[])) := by
  refine (rev_c h.1 o m e hm hl).mono ?_
  rintro x w' ⟨rfl, h1, h2⟩
  have hg := h.2.1 g rfl
  exact ⟨rfl, B, ⟨h1, fun b hb => by cases hb; exact hg, fun b hb => Nat.lt_of_lt_of_le (h.2.2 b hb) h2.size⟩, Nx.of h2 fun b hb => by rw [hb]; exact hg⟩
/-- The one at that place ahead of all others. -/
theorem turnK_eq {K : List Kp} {a : Nat} {x : Kp} (hx : K[a]? = some x) : revK (revK K 0 (a + 1)) 1 a = x :: K.eraseIdx a := by
  have hlt := (List.getElem?_eq_some_iff.1 hx).1
  have hl : (revK K 0 (a + 1)).length = K.length := revK_length _ _ _ (by omega)
  apply List.ext_getElem?
  intro t
  rw [revK_at _ 1 a (by omega) t, revK_at K 0 (a + 1) (by omega)]
  match t with
  | 0 =>
    rw [if_neg (by omega), revK_at K 0 (a + 1) (by omega), if_pos (by omega), List.getElem?_cons_zero]
    rw [show 2 * 0 + (a + 1) - 1 - 0 = a by omega]; exact hx
  | t + 1 =>
    rw [List.getElem?_cons_succ, List.getElem?_eraseIdx]
    by_cases h1 : t < a
    · rw [if_pos (by omega), if_pos (by omega), if_pos h1]
      congr 1; omega
    · rw [if_neg (by omega), revK_at K 0 (a + 1) (by omega), if_neg (by omega), if_neg h1]
theorem mem_turn {K : List Kp} {a : Nat} {x y : Kp} (hx : K[a]? = some x) (hy : y ∈ x :: K.eraseIdx a) : y ∈ K := by
  rcases List.mem_cons.1 hy with rfl | hy
  · exact List.mem_of_getElem? hx
  · exact List.mem_of_mem_eraseIdx hy
theorem turn_length {K : List Kp} {a : Nat} {x : Kp} (hx : K[a]? = some x) : (x :: K.eraseIdx a).length = K.length := by
  have hlt := (List.getElem?_eq_some_iff.1 hx).1
  rw [List.length_cons, List.length_eraseIdx, if_pos hlt]; omega
end Go.Proofs.Ytibajmjplpnbmaa

/- In one text: DsParse2. -/
import Derived.Test.YtibajmjplpnbmaaP41
import Derived.Deep.RegionHeld3
import Derived.IntWalk
/- Contracts of Parse on both sides, and of Valid. -/
namespace Go.Proofs.Ytibajmjplpnbmaa
open Go.RowKit OctPlain DsPlain
set_option linter.unusedVariables false
set_option linter.unusedSimpArgs false
set_option maxRecDepth 20000
theorem ownII_base {b1 b2 : Nat} {w : World} {v : Value} {L : List (List Int)} (hb : b1 ≤ b2) (h : OwnII b2 w v L) : OwnII b1 w v L := by
  obtain ⟨vs, ⟨h1, h2⟩, h3⟩ := h
  refine ⟨vs, ⟨h1, h2.imp id ?_⟩, h3⟩
  rintro ⟨g, cap, cur, rfl, hg, hr⟩
  exact ⟨g, cap, cur, rfl, Nat.le_trans hb hg, hr⟩
namespace DsPlain
theorem hd_small {s : ByteArray} (h : s.size < 10) : hd s = s.extract 0 s.size ∧ ¬ (hd s).size = 10 := by
  have e : min 10 s.size = s.size := by omega
  unfold hd
  rw [e]
  refine ⟨rfl, ?_⟩
  rw [ByteArray.size_extract]; omega
theorem hd_ten {s : ByteArray} (h : 10 ≤ s.size) : hd s = s.extract 0 10 ∧ (hd s).size = 10 := by
  have e : min 10 s.size = 10 := by omega
  unfold hd
  rw [e]
  refine ⟨rfl, ?_⟩
  rw [ByteArray.size_extract]; omega
theorem x_all (s : ByteArray) : s.extract 0 s.size = s := by
  apply b_eq
  rw [x_data, List.drop_zero, ← d_length, List.take_of_length_le (Nat.le_refl _)]
theorem pB_sh {s : ByteArray} (h : shB (hd s) s.size = false) : pB s = false := by unfold pB; rw [h]; rfl
theorem pE_no {s : ByteArray} (h : pB s = false) : pE s = 7 := by unfold pE; rw [h]; rfl
theorem pE_yes {s : ByteArray} (h : pB s = true) : pE s = 0 := by unfold pE; rw [if_pos h]
theorem sh_parts {h : ByteArray} {size : Int} (hb : shB h size = true) : h.size = 10 ∧ h.data.toList.take 4 = mkL ∧ nB (shN h) = true ∧ dB (shD h) = true ∧ size = 10 + 4 * shN h * shD h := by
  unfold shB at hb
  simp only [Bool.and_eq_true, decide_eq_true_eq] at hb
  exact ⟨hb.1.1.1.1, hb.1.1.1.2, hb.1.1.2, hb.1.2, hb.2⟩
theorem rows_eq {s : ByteArray} {d n : Nat} (h : s.size = 10 + n * (d * 4)) : rows s d n = rowsB (s.extract 10 s.size) d (d * 4) n := by
  unfold rows rowsB piece
  apply List.map_congr_left
  intro i hi
  rw [List.mem_range] at hi
  have := Nat.mul_le_mul_right (d * 4) (show i + 1 ≤ n by omega)
  rw [Nat.add_mul, Nat.one_mul] at this
  rw [x_x (by omega)]
/-- What a head says, of natural numbers. -/
theorem sh_nat {s : ByteArray} (hb : shB (hd s) s.size = true) : ∃ n d : Nat, shN (hd s) = n ∧ shD (hd s) = d ∧ (1 ≤ n ∧ n ≤ 1048576) ∧ (1 ≤ d ∧ d ≤ 4096) ∧ s.size = 10 + n * (d * 4) ∧ 10 ≤ s.size := by
  obtain ⟨h1, h2, h3, h4, h5⟩ := sh_parts hb
  unfold nB at h3; unfold dB at h4
  rw [decide_eq_true_iff] at h3 h4
  obtain ⟨n, hn⟩ : ∃ n : Nat, shN (hd s) = n := ⟨(shN (hd s)).toNat, by omega⟩
  obtain ⟨d, hd⟩ : ∃ d : Nat, shD (hd s) = d := ⟨(shD (hd s)).toNat, by omega⟩
  rw [hn, hd] at h5
  rw [hn] at h3
  rw [hd] at h4
  have e : ((n * (d * 4) : Nat) : Int) = 4 * (n : Int) * (d : Int) := by
    rw [Int.natCast_mul, Int.natCast_mul, Int.mul_comm (d : Int), ← Int.mul_assoc, Int.mul_comm (n : Int)]; rfl
  refine ⟨n, d, hn, hd, by omega, by omega, by omega, by omega⟩
theorem pB_rows {s : ByteArray} {n d : Nat} (hb : shB (hd s) s.size = true) (hn : shN (hd s) = n) (hdd : shD (hd s) = d) (hs : s.size = 10 + n * (d * 4)) : pB s = (rowsB (s.extract 10 s.size) d (d * 4) n).all (fun v => v.all fitI) := by
  unfold pB
  rw [hb, hn, hdd, Int.toNat_natCast, Int.toNat_natCast, rows_eq hs]
  rfl
theorem pL_rows {s : ByteArray} {n d : Nat} (hb : shB (hd s) s.size = true) (hn : shN (hd s) = n) (hdd : shD (hd s) = d) (hs : s.size = 10 + n * (d * 4)) : pL s = if (rowsB (s.extract 10 s.size) d (d * 4) n).all (fun v => v.all fitI) = true then rowsB (s.extract 10 s.size) d (d * 4) n else [] := by
  unfold pL
  rw [pB_rows hb hn hdd hs, hn, hdd, Int.toNat_natCast, Int.toNat_natCast, rows_eq hs]
end DsPlain
theorem ret_vi10 {a b : Value} {p q : Int} (h : a = b) (k : p = q) : Ending.returned (.tuple #[a, .int .i64 p]) = .returned (.tuple #[b, .int .i64 q]) := by rw [h, k]
theorem gotII_none (w w' : World) (s : ByteArray) (h : pB s = false) (g : Gr w w') : GotII w (pL s) (errV (pE s)) (.returned (.tuple #[.slice none 0 0, .int .i64 7])) w' := by
  rw [pL_no h, pE_no h]
  exact ⟨_, rfl, ownII_nil _ _, g⟩
theorem to_ten (s : ByteArray) (h : 10 ≤ s.size) (w : World) :
    (Instr.slice 9 (.string s) none (some (.int .i64 10)) none).run Try.prog w = .ok (.string (s.extract 0 10)) w := by
  rw [run_slice_string_to_if w 9 s .i64 10 Try.underlying9, if_pos ⟨by omega, by omega⟩]
  rfl
theorem to_all (s : ByteArray) (w : World) :
    (Instr.slice 9 (.string s) none (some (.int .i64 (s.size : Int))) none).run Try.prog w = .ok (.string (s.extract 0 s.size)) w := by
  rw [run_slice_string_to_if w 9 s .i64 (s.size : Int) Try.underlying9, if_pos ⟨by omega, by omega⟩, Int.toNat_natCast]
theorem from_ten (s : ByteArray) (h : 10 ≤ s.size) (w : World) :
    (Instr.slice 9 (.string s) (some (.int .i64 10)) none none).run Try.prog w = .ok (.string (s.extract 10 s.size)) w := by
  rw [run_slice_string_from_if w 9 s .i64 10 Try.underlying9, if_pos ⟨by omega, by omega⟩]
  rfl
theorem cell_gr {w w' : World} {b i : Nat} {v : Value} (g : Gr w w') (h : w.cell? ⟨b, i, none⟩ = some v) : w'.cell? ⟨b, i, none⟩ = some v := by
  rw [Below.cell g (p := ⟨b, i, none⟩) (World.block_lt_of_cell? w _ h)]; exact h
set_option maxHeartbeats 2000000 in
theorem parse10_c (s : ByteArray) (hs : s.size ≤ 90000) (w : World) :
    Calls Try.prog 35 #[.string s] w (GotII w (pL s) (errV (pE s))) := by
  have SH := fun w => shape_c (hd s) (s.size : Int) (by unfold I64; omega) w
  by_cases h10 : s.size < 10
  · obtain ⟨e1, e2⟩ := hd_small h10
    have hb := shB_size (size := (s.size : Int)) e2
    rw [shV_no hb, e1, x_all] at SH
    have HP := Lib.hid (pB_sh hb)
    have d1 : (s.size : Int) < 10 := by omega
    clear e1 e2 hb h10
    go_enter Try.func35, Try.ntmps35
    go_wp2_with fail
    refine (SH _).mono ?_; rintro e u ⟨rfl, g⟩
    go_wp2_with fail
    go_ret2
    refine gotII_none w _ s HP.out ?_
    exact Gr.of (Below.trans g (by go_grown; exact g.size))
  · obtain ⟨e1, e2⟩ := hd_ten (s := s) (by omega)
    have hsl := to_ten s (by omega)
    have d1 : ¬ (s.size : Int) < 10 := by omega
    cases hb : shB (hd s) s.size
    · rw [shV_no hb, e1] at SH
      have HP := Lib.hid (pB_sh hb)
      clear e1 e2 hb h10
      go_enter Try.func35, Try.ntmps35
      go_wp2_with fail
      refine (SH _).mono ?_; rintro e u ⟨rfl, g⟩
      go_wp2_with fail
      go_ret2
      refine gotII_none w _ s HP.out ?_
      exact Gr.of (Below.trans g (by go_grown; exact g.size))
    · obtain ⟨n, d, hn, hd', hn1, hd1, hsz, _⟩ := sh_nat hb
      rw [shV_yes hb, hn, hd', e1] at SH
      have hdB : dB (d : Int) = true := by unfold dB; rw [decide_eq_true_iff]; omega
      have hbs : (s.extract 10 s.size).size = n * (d * 4) := by rw [ByteArray.size_extract]; omega
      have W := fun D w hD => walkII_c (s.extract 10 s.size) d (d * 4) n hdB (Nat.mul_comm _ _) (by omega) hbs (by rw [ByteArray.size_extract]; omega) D w hD
      have hfr := from_ten s (by omega)
      have eP := pB_rows hb hn hd' hsz
      have eL := pL_rows hb hn hd' hsz
      unfold gotII at W
      rw [← eL, ← eP] at W
      rw [show ((d * 4 : Nat) : Int) = (d : Int) * 4 by omega] at W
      obtain ⟨bb, hbb⟩ : ∃ bb, pB s = bb := ⟨_, rfl⟩
      rw [hbb] at W
      have HB := Lib.hid hbb
      have W2 := Lib.hid W
      clear W hbb eP eL hb hn hd' hsz e1 e2 hbs hdB h10
      generalize s.extract 10 s.size = b at W2 hfr
      generalize s.extract 0 10 = h at SH hsl
      have hmf : ∀ (fn : Fn) (first cap : Array Value) (w : World), (Instr.makeFunc fn first cap).run Try.prog w = .ok (.func fn first cap) w := fun _ _ _ _ => rfl
      go_enter Try.func35, Try.ntmps35
      go_wp2_with fail
      refine (SH _).mono ?_; rintro e u ⟨rfl, g⟩
      go_wp2_with fail
      obtain ⟨D, hDe⟩ : ∃ D, D = u.heap.size := ⟨_, rfl⟩
      obtain ⟨U, hU⟩ : ∃ U, U = u.alloc (.cells #[.int .i64 (d : Int)] 3) := ⟨_, rfl⟩
      have gU : Gr u U := by rw [hU]; exact Below.alloc (Below.refl _ _) (Nat.le_refl _) _
      have cD : U.cell? ⟨D, 0, none⟩ = some (.int .i64 (d : Int)) := by rw [hU, hDe, World.cell?_alloc_new]; rfl
      have g2 : Gr w U := g.trans gU
      have H : ∀ x, Gr U x → Gr U x ∧ x.cell? ⟨D, 0, none⟩ = some (.int .i64 (d : Int)) := fun x gx => ⟨gx, cell_gr gx cD⟩
      have C : ∀ x, Gr U x → Calls Try.prog 51 #[.string b, .int .i64 ((d : Int) * 4), .func (.func 49) #[] #[.pointer (some ⟨D, 0, none⟩)]] x fun e w' => ∃ v, e = .returned (.tuple #[v, .bool bb]) ∧ RowKit.Hid (OwnII w.heap.size w' v (pL s)) ∧ Gr U w' ∧ w'.cell? ⟨D, 0, none⟩ = some (.int .i64 (d : Int)) := by
        intro x gx
        refine (W2.out D x (H x gx).2).mono ?_
        rintro e w' ⟨v, rfl, ho, gw⟩
        exact ⟨v, rfl, Lib.hid (ownII_base (by have := g2.size; have := gx.size; omega) ho), H _ (gx.trans gw)⟩
      rw [← hDe, ← hU]
      have gU0 := Gr.refl U
      have gUd : Gr U U.drew := Below.drew gU0
      have hw1 : IntKind.i64.wrap ((d : Int) * 4) = (d : Int) * 4 := IntWalk.i64_in _ (by omega)
      clear W2 hU hDe hmf hsl
      go_region_held3 (fun w' => Gr U w' ∧ w'.cell? ⟨D, 0, none⟩ = some (.int .i64 (d : Int)))
        (first | exact H _ (Below.drew (by assumption)) | exact H _ (by assumption) | go_keep)
        ((first
          | (go_at_call 51; (with_reducible refine (C _ (by assumption)).mono ?_); rintro e u3 ⟨v, rfl, ho, gu, cu⟩)))
      have gE : Gr w u3 := g2.trans gu
      cases bb
      · go_wp2_with fail
        go_ret2
        exact gotII_none w _ s HB.out gE
      · go_wp2_with fail
        go_ret2
        refine ⟨v, ret_vi10 rfl (pE_yes HB.out).symm, ho.out, gE⟩
end Go.Proofs.Ytibajmjplpnbmaa

/- In one text: DsShape. -/
import Derived.Test.YtibajmjplpnbmaaP28
/- Contracts of Shape on both sides: what a head says. -/
namespace Go.Proofs.Ytibajmjplpnbmaa
open Go.RowKit OctPlain DsPlain
set_option linter.unusedVariables false
set_option linter.unusedSimpArgs false
set_option maxRecDepth 20000
theorem mark_eq (h : ByteArray) : ((h.extract 0 4).toList == [86, 69, 67, 49]) = decide (h.data.toList.take 4 = mkL) := by
  rw [Lib.toList_data, x_data, List.drop_zero]
  apply Bool.eq_iff_iff.2
  simp only [beq_iff_eq, decide_eq_true_iff]
  rfl
theorem mark_ne (h : ByteArray) : ((h.extract 0 4).toList != [86, 69, 67, 49]) = !decide (h.data.toList.take 4 = mkL) := by rw [← mark_eq]; rfl
theorem to_four (h : ByteArray) (hz : h.size = 10) (w : World) :
    (Instr.slice 9 (.string h) none (some (.int .i64 4)) none).run Try.prog w = .ok (.string (h.extract 0 4)) w := by
  rw [run_slice_string_to_if w 9 h .i64 4 Try.underlying9, if_pos ⟨by omega, by omega⟩]
  rfl
theorem dprefix_c (h : ByteArray) (hz : h.size = 10) (w : World) :
    Calls Try.prog 54 #[.string h, .string (ByteArray.mk #[86, 69, 67, 49])] w fun e w' => e = .returned (.bool (decide (h.data.toList.take 4 = mkL))) ∧ w = w' := by
  have hp := mark_eq h
  have hsl := to_four h hz
  have h1 : (4 : Int) ≤ h.size := by omega
  have hz4 : (ByteArray.mk #[86, 69, 67, 49]).size = 4 := rfl
  generalize decide (h.data.toList.take 4 = mkL) = b at hp
  go_enter Try.func54, Try.ntmps54
  go_wp2
  go_ret
  first | exact ⟨rfl, rfl⟩ | exact ⟨retb10 hp, rfl⟩
theorem getN_le (s : ByteArray) (a k : Nat) (hk : 1 ≤ k ∧ k ≤ 8) (h : a + k ≤ s.size) : 0 ≤ getN s a k ∧ getN s a k < ((256 ^ k : Nat) : Int) := by
  unfold getN
  split
  · have := num_lt (cutL s (a : Int).toNat (k : Int).toNat)
    rw [cutL_length _ _ _ (by simpa using h), Int.toNat_natCast, Int.toNat_natCast] at this
    rw [Int.toNat_natCast, Int.toNat_natCast]
    omega
  · have : 0 < 256 ^ k := Nat.pow_pos (by omega)
    omega
theorem sh_bounds {h : ByteArray} (hz : h.size = 10) : (0 ≤ shN h ∧ shN h < 4294967296) ∧ 0 ≤ shD h ∧ shD h < 65536 :=
  ⟨getN_le h 4 4 (by omega) (by omega), getN_le h 8 2 (by omega) (by omega)⟩
def shV (h : ByteArray) (size : Int) : Value := .tuple #[.int .i64 (shn h size), .int .i64 (shd h size), .int .i64 (she h size)]
theorem shV_no {h : ByteArray} {size : Int} (hb : shB h size = false) : shV h size = .tuple #[.int .i64 0, .int .i64 0, .int .i64 7] := by unfold shV shn shd she; rw [hb]; rfl
theorem shV_yes {h : ByteArray} {size : Int} (hb : shB h size = true) : shV h size = .tuple #[.int .i64 (shN h), .int .i64 (shD h), .int .i64 0] := by unfold shV shn shd she; rw [hb]; rfl
theorem shB_size {h : ByteArray} {size : Int} (hz : ¬ h.size = 10) : shB h size = false := by unfold shB; rw [decide_eq_false hz]; rfl
theorem shB_mark {h : ByteArray} {size : Int} (hz : ¬ h.data.toList.take 4 = mkL) : shB h size = false := by unfold shB; rw [decide_eq_false hz, Bool.and_false]; rfl
theorem shB_n {h : ByteArray} {size : Int} (hz : nB (shN h) = false) : shB h size = false := by unfold shB; rw [hz, Bool.and_false]; rfl
theorem shB_d {h : ByteArray} {size : Int} (hz : dB (shD h) = false) : shB h size = false := by unfold shB; rw [hz, Bool.and_false]; rfl
theorem shB_z {h : ByteArray} {size : Int} (hz : ¬ size = 10 + 4 * shN h * shD h) : shB h size = false := by unfold shB; rw [decide_eq_false hz, Bool.and_false]
theorem shB_yes {h : ByteArray} {size : Int} (h1 : h.size = 10) (h2 : h.data.toList.take 4 = mkL) (h3 : nB (shN h) = true) (h4 : dB (shD h) = true) (h5 : size = 10 + 4 * shN h * shD h) : shB h size = true := by
  unfold shB; rw [decide_eq_true h1, decide_eq_true h2, h3, h4, decide_eq_true h5]; rfl
theorem pl_eq {n d : Int} (hn : nB n = true) (hd : dB d = true) : plN d n = 10 + 4 * n * d := by
  unfold nB at hn; rw [decide_eq_true_iff] at hn
  rw [plN_yes ⟨hd, by omega, by omega⟩, Int.mul_assoc, Int.mul_comm d n, Int.mul_assoc]
theorem ret_iii {a b c a' b' c' : Int} (h1 : a = a') (h2 : b = b') (h3 : c = c') : Value.tuple #[.int .i64 a, .int .i64 b, .int .i64 c] = .tuple #[.int .i64 a', .int .i64 b', .int .i64 c'] := by rw [h1, h2, h3]
set_option maxHeartbeats 1000000 in
theorem shape_c (h : ByteArray) (size : Int) (hsz : I64 size) (w : World) :
    Calls Try.prog 47 #[.string h, .int .i64 size] w fun e w' => e = .returned (shV h size) ∧ Gr w w' := by
  by_cases h10 : h.size = 10
  · have P := fun w => dprefix_c h h10 w
    have t10 : ((h.size : Int) != 10) = false := by simp; omega
    by_cases hm : h.data.toList.take 4 = mkL
    · have G1 := fun w => get_c h 4 4 ⟨by decide, by decide⟩ ⟨by decide, by decide⟩ w (by omega)
      have G2 := fun w => get_c h 8 2 ⟨by decide, by decide⟩ ⟨by decide, by decide⟩ w (by omega)
      obtain ⟨b1, b2⟩ := sh_bounds h10
      have HV := Lib.hid (fun (size : Int) (hb : shB h size = false) => shV_no hb)
      have HY := Lib.hid (fun (size : Int) (hb : shB h size = true) => shV_yes hb)
      have HN := Lib.hid (fun (size : Int) (hz : nB (shN h) = false) => shB_n (h := h) (size := size) hz)
      have HD := Lib.hid (fun (size : Int) (hz : dB (shD h) = false) => shB_d (h := h) (size := size) hz)
      have HZ := Lib.hid (fun (size : Int) (hz : ¬ size = 10 + 4 * shN h * shD h) => shB_z hz)
      have HA := Lib.hid (fun (size : Int) => shB_yes (size := size) h10 hm)
      rw [decide_eq_true hm] at P
      rw [show getN h 4 4 = shN h from rfl] at G1
      rw [show getN h 8 2 = shD h from rfl] at G2
      generalize getB h 4 4 = bb1 at G1
      generalize getB h 8 2 = bb2 at G2
      generalize shN h = n at *
      generalize shD h = d at *
      have C := fun w => counted_c n ⟨by omega, by omega⟩ w
      have D := fun w => dsized_c d ⟨by omega, by omega⟩ w
      have PL := fun w => place10_c d n ⟨by omega, by omega⟩ ⟨by omega, by omega⟩ w
      cases hn : nB n
      · have HX := Lib.hid (HV.out size (HN.out size hn))
        rw [hn] at C
        clear hn hm HV HY HN HD HZ HA h10
        go_enter Try.func47, Try.ntmps47
        go_wp2_with fail
        refine (P _).mono ?_; rintro e u ⟨rfl, rfl⟩
        go_wp2_with fail
        refine (G1 _).mono ?_; rintro e u1 ⟨rfl, g1⟩
        go_wp2_with fail
        refine (G2 _).mono ?_; rintro e u2 ⟨rfl, g2⟩
        go_wp2_with fail
        refine (C _).mono ?_; rintro e u ⟨rfl, rfl⟩
        go_wp2_with fail
        exact bodyPost_ret (v := .tuple #[.int .i64 0, .int .i64 0, .int .i64 7]) (by simp [results, Try.results47, go_sem]) rfl ⟨by rw [HX.out], g1.trans g2⟩
      · rw [hn] at C
        cases hd : dB d
        · have HX := Lib.hid (HV.out size (HD.out size hd))
          rw [hd] at D
          clear hd hn hm HV HY HN HD HZ HA h10
          go_enter Try.func47, Try.ntmps47
          go_wp2_with fail
          refine (P _).mono ?_; rintro e u ⟨rfl, rfl⟩
          go_wp2_with fail
          refine (G1 _).mono ?_; rintro e u1 ⟨rfl, g1⟩
          go_wp2_with fail
          refine (G2 _).mono ?_; rintro e u2 ⟨rfl, g2⟩
          go_wp2_with fail
          refine (C _).mono ?_; rintro e u ⟨rfl, rfl⟩
          go_wp2_with fail
          refine (D _).mono ?_; rintro e u ⟨rfl, rfl⟩
          go_wp2_with fail
          exact bodyPost_ret (v := .tuple #[.int .i64 0, .int .i64 0, .int .i64 7]) (by simp [results, Try.results47, go_sem]) rfl ⟨by rw [HX.out], g1.trans g2⟩
        · rw [hd] at D
          have he := pl_eq hn hd
          by_cases hs : size = plN d n
          · have HX := Lib.hid (HY.out size (HA.out size hn hd (by rw [← he]; exact hs)))
            have ts : (size != plN d n) = false := by rw [hs]; simp
            generalize plN d n = m at PL ts
            clear hd hn hm HV HY HN HD HZ HA h10 he hs
            go_enter Try.func47, Try.ntmps47
            go_wp2_with fail
            refine (P _).mono ?_; rintro e u ⟨rfl, rfl⟩
            go_wp2_with fail
            refine (G1 _).mono ?_; rintro e u1 ⟨rfl, g1⟩
            go_wp2_with fail
            refine (G2 _).mono ?_; rintro e u2 ⟨rfl, g2⟩
            go_wp2_with fail
            refine (C _).mono ?_; rintro e u ⟨rfl, rfl⟩
            go_wp2_with fail
            refine (D _).mono ?_; rintro e u ⟨rfl, rfl⟩
            go_wp2_with fail
            refine (PL _).mono ?_; rintro e u ⟨rfl, rfl⟩
            go_wp2_with fail
            exact bodyPost_ret (v := .tuple #[.int .i64 n, .int .i64 d, .int .i64 0]) (by simp [results, Try.results47, go_sem]) rfl ⟨by rw [HX.out], g1.trans g2⟩
          · have HX := Lib.hid (HV.out size (HZ.out size (by rw [← he]; exact hs)))
            have ts : (size != plN d n) = true := by simpa using hs
            generalize plN d n = m at PL ts
            clear hd hn hm HV HY HN HD HZ HA h10 he hs
            go_enter Try.func47, Try.ntmps47
            go_wp2_with fail
            refine (P _).mono ?_; rintro e u ⟨rfl, rfl⟩
            go_wp2_with fail
            refine (G1 _).mono ?_; rintro e u1 ⟨rfl, g1⟩
            go_wp2_with fail
            refine (G2 _).mono ?_; rintro e u2 ⟨rfl, g2⟩
            go_wp2_with fail
            refine (C _).mono ?_; rintro e u ⟨rfl, rfl⟩
            go_wp2_with fail
            refine (D _).mono ?_; rintro e u ⟨rfl, rfl⟩
            go_wp2_with fail
            refine (PL _).mono ?_; rintro e u ⟨rfl, rfl⟩
            go_wp2_with fail
            exact bodyPost_ret (v := .tuple #[.int .i64 0, .int .i64 0, .int .i64 7]) (by simp [results, Try.results47, go_sem]) rfl ⟨by rw [HX.out], g1.trans g2⟩
    · have HX := Lib.hid (shV_no (shB_mark (size := size) hm))
      rw [decide_eq_false hm] at P
      clear hm h10
      go_enter Try.func47, Try.ntmps47
      go_wp2_with fail
      refine (P _).mono ?_; rintro e u ⟨rfl, rfl⟩
      go_wp2_with fail
      exact bodyPost_ret (v := .tuple #[.int .i64 0, .int .i64 0, .int .i64 7]) (by simp [results, Try.results47, go_sem]) rfl ⟨by rw [HX.out], Gr.refl _⟩
  · have HX := Lib.hid (shV_no (shB_size (size := size) h10))
    have t10 : ((h.size : Int) != 10) = true := by simp; omega
    clear h10
    go_enter Try.func47, Try.ntmps47
    go_wp2_with fail
    exact bodyPost_ret (v := .tuple #[.int .i64 0, .int .i64 0, .int .i64 7]) (by simp [results, Try.results47, go_sem]) rfl ⟨by rw [HX.out], Gr.refl _⟩
end Go.Proofs.Ytibajmjplpnbmaa

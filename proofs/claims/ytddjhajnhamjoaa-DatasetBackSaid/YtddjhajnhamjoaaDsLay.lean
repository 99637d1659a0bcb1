/- Contracts of the program's Lay. -/
import Derived.Test.YtddjhajnhamjoaaDsRlay
import Derived.Test.YtddjhajnhamjoaaSb
namespace Go.Proofs.Ytddjhajnhamjoaa
open Go.RowKit OctPlain DsPlain
set_option linter.unusedVariables false
set_option linter.unusedSimpArgs false
set_option maxRecDepth 20000
def phS (n d : Nat) : ByteArray := if (nB n && dB d) = true then bs (headL n d) else ⟨#[]⟩
theorem puthead10_c (n d : Nat) (hn : n ≤ 4294967295) (hd : d ≤ 4294967295) (w : World) :
    Calls Try.prog 21 #[.int .i64 (n : Int), .int .i64 (d : Int)] w fun e w' => e = .returned (.tuple #[.string (phS n d), .bool (nB n && dB d)]) ∧ Gr w w' := by
  have C := fun w => counted_c (n : Int) (by unfold I64; omega) w
  have D := fun w => dsized_c (d : Int) (by unfold I64; omega) w
  cases h1 : nB (n : Int)
  · rw [h1] at C
    have HS := Lib.hid (show phS n d = ⟨#[]⟩ by unfold phS; rw [h1]; rfl)
    clear h1
    go_enter Try.func21, Try.ntmps21
    go_wp2_with fail
    refine (C _).mono ?_; rintro e u ⟨rfl, rfl⟩
    go_wp2_with fail
    go_ret2
    exact ⟨ret_sb10 HS.out.symm rfl, Gr.refl _⟩
  · rw [h1] at C
    cases h2 : dB (d : Int)
    · rw [h2] at D
      have HS := Lib.hid (show phS n d = ⟨#[]⟩ by unfold phS; rw [h1, h2]; rfl)
      clear h1 h2
      go_enter Try.func21, Try.ntmps21
      go_wp2_with fail
      refine (C _).mono ?_; rintro e u ⟨rfl, rfl⟩
      go_wp2_with fail
      refine (D _).mono ?_; rintro e u ⟨rfl, rfl⟩
      go_wp2_with fail
      go_ret2
      exact ⟨ret_sb10 HS.out.symm rfl, Gr.refl _⟩
    · rw [h2] at D
      have HS := Lib.hid (show bs (headL n d) = phS n d by unfold phS; rw [h1, h2]; rfl)
      have hn2 : n ≤ 1048576 := by unfold nB at h1; rw [decide_eq_true_iff] at h1; omega
      have hd2 : d ≤ 4096 := by unfold dB at h2; rw [decide_eq_true_iff] at h2; omega
      have P4 := fun w => put_c (n : Int) 4 (by unfold I64; omega) (by unfold I64; omega) w
      have P2 := fun w => put_c (d : Int) 2 (by unfold I64; omega) (by unfold I64; omega) w
      rw [put4n (by omega)] at P4
      rw [put2n (by omega)] at P2
      have HH := Lib.hid (head_app n d)
      have s4 : (bs (beL 4 n)).size = 4 := by rw [bs_size, beL_length]
      have s2 : (bs (beL 2 d)).size = 2 := by rw [bs_size, beL_length]
      generalize bs (beL 4 n) = x4 at P4 HH s4
      generalize bs (beL 2 d) = x2 at P2 HH s2
      generalize fitsB (n : Int) 4 = q4 at P4
      generalize fitsB (d : Int) 2 = q2 at P2
      clear h1 h2
      go_enter Try.func21, Try.ntmps21
      go_wp2_with fail
      refine (C _).mono ?_; rintro e u ⟨rfl, rfl⟩
      go_wp2_with fail
      refine (D _).mono ?_; rintro e u ⟨rfl, rfl⟩
      go_wp2_with fail
      refine (P4 _).mono ?_; rintro e u4 ⟨rfl, g4⟩
      go_wp2_with fail
      refine (P2 _).mono ?_; rintro e u2 ⟨rfl, g2⟩
      go_wp2_with fail
      go_ret2
      exact ⟨ret_sb10 (by rw [HH.out, HS.out]) rfl, g4.trans g2⟩
theorem vecB_len {d : Nat} {y : List Int} (h : ¬ y.length = d) : vecB d y = false := by unfold vecB; rw [decide_eq_false h]; rfl
theorem vecB_fit {d : Nat} {y : List Int} {z : Int} (h : z ∈ y) (hz : fitI z = false) : vecB d y = false := by
  unfold vecB
  have : y.all fitI = false := by rw [List.all_eq_false]; exact ⟨z, h, by rw [hz]; simp⟩
  rw [this, Bool.and_false]
/-- What putVector leaves. -/
def PvGot (n0 b d : Nat) (l : List UInt8) (y : List Int) (w : World) (e : Ending) (w' : World) : Prop :=
  e = .returned (.bool (vecB d y)) ∧ (vecB d y = true → SB n0 b (l ++ vecL y) w') ∧ Below n0 w w'
def PvAt (n0 b : Nat) (l : List UInt8) (y : List Int) (w : World) (i : Value) (wr : World) : Prop := ∃ j : Nat, j ≤ y.length ∧ i = .int .i64 j ∧ (y.take j).all fitI = true ∧ SB n0 b (l ++ vecL (y.take j)) wr ∧ Below n0 w wr
set_option maxHeartbeats 2000000 in
theorem putvector_c (n0 b d : Nat) (l : List UInt8) (y : List Int) (v : Value) (w : World) (hB : SB n0 b l w) (hv : ∀ u, Below n0 w u → LiesI u v y) (hl : l.length ≤ 10000000) (hd : d ≤ 4096) (hy : y.length ≤ 1000000) (hi : ∀ n ∈ y, I64 n) :
    Calls Try.prog 23 #[.pointer (some ⟨b, 0, none⟩), v, .int .i64 (d : Int)] w (PvGot n0 b d l y w) := by
  obtain ⟨a, c, rfl, hc, hv0⟩ := hv w (Below.refl _ _)
  by_cases hlen : y.length = d
  · have t1 : ((y.length : Int) != (d : Int)) = false := by simp; omega
    have H1 : 1 ≤ y.length → ∃ b off, a = some ⟨b, off, none⟩ := fun h1 => hv0.elim (fun h0 => by rw [h0] at h1; simp at h1) fun ⟨b, off, e, _⟩ => ⟨b, off, e⟩
    have HA := Lib.hid H1
    have HV := Lib.hid hv
    have HI := Lib.hid hi
    have HB := Lib.hid hB
    have HL := Lib.hid hlen
    have hy2 : y.length ≤ 4096 := by omega
    clear hv0 H1 hv hi hB hlen
    go_enter Try.func23, Try.ntmps23
    go_wp2_with fail
    go_loopw [17] (fun i wr => PvAt n0 b l y w i wr) (fun i _ => y.length - (intOf i).toNat)
    case atStart => exact ⟨0, Nat.zero_le _, rfl, rfl, by simpa [vecL] using HB.out, Below.refl _ _⟩
    case round =>
      obtain ⟨j, hj, rfl, hall, hsb, hbel⟩ := hrel
      by_cases hlt : j < y.length
      · obtain ⟨z, hz, hstep, hmem⟩ := take_on hlt
        obtain ⟨b2, o2, rfl⟩ := HA.out (by omega)
        obtain ⟨a', c', e', _, hh⟩ := HV.out wr hbel
        have hz64 := HI.out z hmem
        have c2 : wr.cell? ⟨b2, o2 + j, none⟩ = some (.int .i64 z) := by
          rcases hh with h0 | ⟨b3, o3, e3, hr⟩
          · rw [h0] at hlt; simp at hlt
          · subst e3
            simp only [Value.slice.injEq, Option.some.injEq, Addr.mk.injEq, and_true] at e'
            obtain ⟨⟨rfl, rfl⟩, _⟩ := e'
            exact hr.2 j _ (by unfold ints; rw [List.getElem?_map, hz]; rfl)
        have F := fun w => dfits_c z hz64 w
        clear hh e'
        cases hf : fitI z
        · rw [hf] at F
          have HX := Lib.hid (vecB_fit (d := d) hmem hf)
          clear hz hstep hmem hall hsb hf hz64
          go_wp2_with fail
          refine (F _).mono ?_; rintro e u ⟨rfl, rfl⟩
          go_wp2_with fail
          go_ret
          refine ⟨retb11 HX.out.symm, fun h => ?_, hbel⟩
          rw [HX.out] at h; cases h
        · rw [hf] at F
          have HX := Lib.hid (show (y.take (j + 1)).all fitI = true by rw [hstep, List.all_append, hall]; simp [hf])
          have PC := fun w => coord_c z hz64 w
          rw [fit_coord hf] at PC
          have hst : l ++ vecL (y.take j) ++ (bs (cb z)).data.toList = l ++ vecL (y.take (j + 1)) := by rw [b_data, hstep, vecL_snoc, List.append_assoc]
          have h1 : (l ++ vecL (y.take j)).length ≤ 20000000 := by rw [List.length_append, vecL_length, List.length_take]; omega
          have h2 : (bs (cb z)).size = 4 := by rw [bs_size, cb_length]
          have HST := Lib.hid hst
          generalize l ++ vecL (y.take j) = A at hsb HST h1
          generalize bs (cb z) = x at PC HST h2
          generalize coordB z = bb at PC
          have HSB := Lib.hid hsb
          clear hz hstep hmem hall hsb hf hz64 hst
          go_wp2_with fail
          refine (F _).mono ?_; rintro e u ⟨rfl, rfl⟩
          go_wp2_with fail
          refine (PC _).mono ?_; rintro e u ⟨rfl, g⟩
          go_wp2_with fail
          refine (sb_write_c n0 b A x _ (HSB.out.gr g) (by omega)).mono ?_; rintro e u3 ⟨rfl, hsb3, bel3, _⟩
          have HS3 := Lib.hid hsb3
          clear hsb3
          go_wp2_with fail
          refine ⟨⟨j + 1, by omega, rfl, HX.out, by rw [← HST.out]; exact HS3.out, Below.trans (Below.trans hbel (g.mono (HSB.out.2))) bel3⟩, ?_⟩
          simp [intOf]; omega
      · obtain rfl : j = y.length := by omega
        have HX : RowKit.Hid (vecB d y = true) := by
          refine Lib.hid ?_
          rw [List.take_length] at hall
          unfold vecB; rw [decide_eq_true HL.out, hall]; rfl
        rw [List.take_length] at hsb
        have HSB := Lib.hid hsb
        clear hall hsb
        go_wp2_with fail
        go_ret
        exact ⟨retb11 HX.out.symm, fun _ => HSB.out, hbel⟩
  · have t1 : ((y.length : Int) != (d : Int)) = true := by simp; omega
    have HX := Lib.hid (vecB_len hlen)
    clear hlen hv hv0 hB
    go_enter Try.func23, Try.ntmps23
    go_wp2_with fail
    go_ret
    refine ⟨retb11 HX.out.symm, fun h => ?_, Below.refl _ _⟩
    rw [HX.out] at h; cases h
end Go.Proofs.Ytddjhajnhamjoaa

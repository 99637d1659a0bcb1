/- The contract of the program's Lay. -/
import Derived.Test.YtddjhajnhamjoaaDsLay
namespace Go.Proofs.Ytddjhajnhamjoaa
open Go.RowKit OctPlain DsPlain
set_option linter.unusedVariables false
set_option linter.unusedSimpArgs false
set_option maxRecDepth 20000
namespace DsPlain
theorem right_head {L : List (List Int)} (h : (nB L.length && dB (dimN L)) = false) : right L = false := by unfold right; rw [h]; rfl
theorem right_row {L : List (List Int)} {y : List Int} (h : y ∈ L) (hy : vecB (dimN L) y = false) : right L = false := by
  unfold right
  have : L.all (vecB (dimN L)) = false := by rw [List.all_eq_false]; exact ⟨y, h, by rw [hy]; simp⟩
  rw [this, Bool.and_false]
theorem right_all {L : List (List Int)} (h : (nB L.length && dB (dimN L)) = true) (hy : L.all (vecB (dimN L)) = true) : right L = true := by unfold right; rw [h, hy]; rfl
theorem dim_of {L : List (List Int)} {y : List Int} (h : L[0]? = some y) : dimN L = y.length := by
  unfold dimN
  rw [List.headD_eq_head?_getD, List.head?_eq_getElem?, h]; rfl
theorem vecB_length {d : Nat} {y : List Int} (h : vecB d y = true) : y.length = d := by
  unfold vecB at h
  simp only [Bool.and_eq_true, decide_eq_true_eq] at h
  exact h.1
end DsPlain
def PlAt (L : List (List Int)) (n0 : Nat) (U w : World) (i : Value) (wr : World) : Prop := ∃ j : Nat, j ≤ L.length ∧ i = .int .i64 j ∧ (L.take j).all (vecB (dimN L)) = true ∧ SB n0 n0 (headL L.length (dimN L) ++ bodyL (L.take j)) wr ∧ Below n0 U wr
set_option maxHeartbeats 4000000 in
theorem lay10_c {w : World} {v : Value} {L : List (List Int)} (h : LiesII w v L) (hl : L.length ≤ 1000) (hz : ∀ l ∈ L, l.length ≤ 1000) (hi : ∀ l ∈ L, ∀ n ∈ l, I64 n) :
    Calls Try.prog 7 #[v] w fun e w' => e = .returned (.tuple #[.string (layS L), .bool (right L)]) ∧ Gr w w' := by
  obtain ⟨a, c, rfl, hc, hh⟩ := liesII_at h
  clear h
  by_cases h0 : L.length = 0
  · have hL : L = [] := List.eq_nil_of_length_eq_zero h0
    subst hL
    clear hh hz hi h0
    go_enter Try.func7, Try.ntmps7
    go_wp2_with fail
    go_ret2
    exact ⟨rfl, Gr.refl _⟩
  · obtain ⟨y0, hy0, _, hmem0⟩ := take_on (l := L) (j := 0) (by omega)
    have hd0 := dim_of hy0
    have hdz : dimN L ≤ 1000 := by rw [hd0]; exact hz y0 hmem0
    obtain ⟨b, off, rfl, hbl, hr⟩ := hh (by omega)
    obtain ⟨x0, hcx0, xa0, xc0, rfl, hxc0, _⟩ := hr 0 y0 hy0
    have c00 : w.cell? ⟨b, off, none⟩ = some (.slice xa0 (dimN L) xc0) := by rw [hd0]; exact hcx0
    have P := fun w => puthead10_c L.length (dimN L) (by omega) (by omega) w
    have d3 : 0 < L.length := by omega
    have d4 : (0 : Int) < (L.length : Int) := by omega
    have d5 : ((L.length : Int) == 0) = false := beq_eq_false_iff_ne.2 (by omega)
    have HR := Lib.hid hr
    have HZ := Lib.hid hz
    have HI := Lib.hid hi
    cases hb : nB (L.length : Int) && dB (dimN L : Int)
    · have HS := Lib.hid (right_head hb)
      have hph : phS L.length (dimN L) = ⟨#[]⟩ := by unfold phS; rw [hb]; rfl
      rw [hb, hph] at P
      clear hcx0 hh hr hz hi hy0 hmem0 hd0 hb hph h0
      generalize dimN L = d at *
      go_enter Try.func7, Try.ntmps7
      go_wp2_with fail
      refine (P _).mono ?_; rintro e u ⟨rfl, g⟩
      go_wp2_with fail
      go_ret2
      exact ⟨ret_sb10 (layS_no HS.out).symm HS.out.symm, g⟩
    · have hph : phS L.length (dimN L) = bs (headL L.length (dimN L)) := by unfold phS; rw [hb]; rfl
      rw [hb, hph] at P
      have hs10 : (bs (headL L.length (dimN L))).size = 10 := by rw [bs_size, headL_length]
      have hsd := b_data (headL L.length (dimN L))
      have HB := Lib.hid hb
      have HSD := Lib.hid hsd
      obtain ⟨n, hn⟩ : ∃ n, L.length = n := ⟨_, rfl⟩
      obtain ⟨d, hd⟩ : ∃ d, dimN L = d := ⟨_, rfl⟩
      have HN := Lib.hid hn
      have HD := Lib.hid hd
      clear hcx0 hh hr hz hi hy0 hmem0 hd0 hb hph h0 hsd
      rw [hn] at hs10 HSD P d3 d4 d5 hl hc ⊢
      rw [hd] at hs10 HSD P c00 hdz
      generalize bs (headL n d) = hds at P hs10 HSD
      clear hn hd
      go_enter Try.func7, Try.ntmps7
      go_wp2_with fail
      refine (P _).mono ?_; rintro e u ⟨rfl, g⟩
      go_wp2_with fail
      obtain ⟨n0, hn0⟩ : ∃ n0, n0 = u.heap.size := ⟨_, rfl⟩
      obtain ⟨U, hU⟩ : ∃ U, U = u.alloc (.cells #[.pointer none, .slice none 0 0] 46) := ⟨_, rfl⟩
      have gU : Gr w U := by rw [hU]; exact g.trans (Below.alloc (Below.refl _ _) (Nat.le_refl _) _)
      have hs0 : SB n0 n0 [] U := by rw [hU, hn0]; exact sb_new u
      have hw0 : w.heap.size ≤ n0 := by rw [hn0]; exact g.size
      rw [← hn0, ← hU]
      have HS0 := Lib.hid hs0
      clear hU hn0 hs0
      refine (sb_write_c n0 n0 [] hds U HS0.out (by simp; omega)).mono ?_; rintro e u3 ⟨rfl, hsb3, bel3, _⟩
      rw [List.nil_append] at hsb3
      have HS3 := Lib.hid hsb3
      clear hsb3
      go_wp2_with fail
      go_loopw [30] (fun i wr => PlAt L n0 U w i wr) (fun i _ => n - (intOf i).toNat)
      case atStart => exact ⟨0, Nat.zero_le _, rfl, rfl, by rw [HN.out, HD.out]; simpa [bodyL, HSD.out] using HS3.out, bel3⟩
      case round =>
        obtain ⟨j, hj, rfl, hall, hsb, hbel⟩ := hrel
        rw [HN.out] at hj
        rw [HN.out, HD.out] at hsb
        rw [HD.out] at hall
        have gwr : ∀ x, Below n0 U x → Gr w x := fun x bx => Below.trans gU (Below.mono bx hw0)
        by_cases hlt : j < n
        · obtain ⟨y, hy, hstep, hmem⟩ := take_on (l := L) (j := j) (by rw [HN.out]; omega)
          obtain ⟨x, hcx, hli⟩ := HR.out j y hy
          have c1 : wr.cell? ⟨b, off + j, none⟩ = some x := by rw [Below.cell (gwr wr hbel) (p := ⟨b, off + j, none⟩) hbl]; exact hcx
          have hrows : ∀ v ∈ L.take j, v.length = d := fun v hv => vecB_length (List.all_eq_true.1 hall v hv)
          have hAl : (headL n d ++ bodyL (L.take j)).length ≤ 5000000 := by
            rw [List.length_append, headL_length, bodyL_length hrows, List.length_take, HN.out, Nat.min_eq_left hj]
            have h1 : j * (d * 4) ≤ 1000 * (1000 * 4) := Nat.mul_le_mul (by omega) (by omega)
            omega
          have hst := bodyL_snoc (L.take j) y
          rw [← hstep] at hst
          have hst2 : headL n d ++ bodyL (L.take j) ++ vecL y = headL n d ++ bodyL (L.take (j + 1)) := by rw [hst, List.append_assoc]
          have HST := Lib.hid hst2
          have PV := putvector_c n0 n0 d (headL n d ++ bodyL (L.take j)) y x wr hsb (fun x bx => hli.gr (gwr x (Below.trans hbel bx))) (by omega) (by omega) (by have := HZ.out y hmem; omega) (HI.out y hmem)
          have HNO := Lib.hid (fun (h : vecB d y = false) => right_row hmem (by rw [HD.out]; exact h))
          have HOK := Lib.hid (fun (h : vecB d y = true) => (show (L.take (j + 1)).all (vecB d) = true by rw [hstep, List.all_append, hall]; simpa using h))
          clear hcx hli hrows hAl hst hst2 hstep hall hy hmem hsb
          have HPV := Lib.hid PV
          clear PV
          go_wp2_with fail
          refine HPV.out.mono ?_; rintro e u5 ⟨rfl, hs5, bel5⟩
          have HS5 := Lib.hid hs5
          clear hs5
          cases hvb : vecB d y
          · have HX := Lib.hid (HNO.out hvb)
            clear hvb
            go_wp2_with fail
            go_ret2
            exact ⟨ret_sb10 (layS_no HX.out).symm HX.out.symm, gwr _ (Below.trans hbel bel5)⟩
          · have HX := Lib.hid (HOK.out hvb)
            have HSX := Lib.hid (HS5.out hvb)
            clear hvb
            go_wp2_with fail
            refine ⟨⟨j + 1, by rw [HN.out]; omega, rfl, by rw [HD.out]; exact HX.out, by rw [HN.out, HD.out, ← HST.out]; exact HSX.out, Below.trans hbel bel5⟩, ?_⟩
            simp [intOf]; omega
        · obtain rfl : j = n := by omega
          have htk : L.take j = L := List.take_of_length_le (by rw [HN.out]; omega)
          rw [htk] at hall hsb
          have hR : right L = true := right_all HB.out (by rw [HD.out]; exact hall)
          have HX := Lib.hid hR
          have HLS : RowKit.Hid (bs (headL j d ++ bodyL L) = layS L) := by
            refine Lib.hid ?_
            rw [layS_yes hR]; unfold layL; rw [HN.out, HD.out]
          have HSB := Lib.hid hsb
          clear hall hsb hR htk
          go_wp2_with fail
          refine (sb_string_c n0 n0 _ _ HSB.out).mono ?_; rintro e u6 ⟨rfl, _, bel6, _⟩
          rw [HLS.out]
          obtain ⟨res, hres⟩ : ∃ res, res = layS L := ⟨_, rfl⟩
          rw [← hres]
          have HRES := Lib.hid hres
          clear hres
          go_wp2_with fail
          go_ret2
          exact ⟨ret_sb10 HRES.out HX.out.symm, gwr _ (Below.trans hbel bel6)⟩
end Go.Proofs.Ytddjhajnhamjoaa

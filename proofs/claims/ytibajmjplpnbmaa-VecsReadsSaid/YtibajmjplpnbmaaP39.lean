/- In one text: DsRight. -/
import Derived.Test.YtibajmjplpnbmaaP26
import Derived.Test.YtibajmjplpnbmaaP38
import Derived.ChangeAlike
import Derived.Deep.QuietTactic
import Derived.BigQuiet
/- The contract of the document's Right. -/
namespace Go.Proofs.Ytibajmjplpnbmaa
open Go.RowKit OctPlain DsPlain
set_option linter.unusedVariables false
set_option linter.unusedSimpArgs false
set_option maxRecDepth 20000
namespace DsPlain
def okRow (d : Nat) (v : List Int) : Bool := dB v.length && decide (v.length = d) && v.all fitI
theorem right_eq (L : List (List Int)) : right L = (nB L.length && L.all (okRow (dimN L))) := by
  unfold right
  cases hn : nB L.length
  · simp
  · match L, hn with
    | [], hn => simp [nB] at hn
    | y :: r, hn =>
      have hd : dimN (y :: r) = y.length := rfl
      rw [hd, Bool.true_and, Bool.true_and]
      apply Bool.eq_iff_iff.2
      simp only [Bool.and_eq_true, List.all_eq_true]
      unfold okRow vecB
      simp only [Bool.and_eq_true, decide_eq_true_eq]
      constructor
      · rintro ⟨h1, h2⟩ v hv
        have := h2 v hv
        exact ⟨⟨by rw [this.1]; exact h1, this.1⟩, this.2⟩
      · intro h
        exact ⟨(h y (by simp)).1.1, fun v hv => ⟨(h v hv).1.2, (h v hv).2⟩⟩
theorem right_no {L : List (List Int)} {y : List Int} (h : y ∈ L) (hy : okRow (dimN L) y = false) : right L = false := by
  rw [right_eq, Bool.and_eq_false_iff]
  right
  rw [List.all_eq_false]
  exact ⟨y, h, by rw [hy]; simp⟩
theorem okRow_yes {d : Nat} {y : List Int} (h1 : 1 ≤ y.length ∧ y.length ≤ 4096) (h2 : y.length = d) (h3 : y.all fitI = true) : okRow d y = true := by
  unfold okRow dB
  rw [decide_eq_true (by omega), decide_eq_true h2, h3]; rfl
theorem okRow_no {d : Nat} {y : List Int} (h : ¬ ((1 ≤ y.length ∧ y.length ≤ 4096) ∧ y.length = d)) : okRow d y = false := by
  unfold okRow dB
  by_cases h2 : y.length = d
  · rw [decide_eq_false (by omega)]; rfl
  · rw [decide_eq_false h2, Bool.and_false]; rfl
theorem okRow_fit {d : Nat} {y : List Int} {x : Int} (h : x ∈ y) (hx : fitI x = false) : okRow d y = false := by
  unfold okRow
  have : y.all fitI = false := by rw [List.all_eq_false]; exact ⟨x, h, by rw [hx]; simp⟩
  rw [this, Bool.and_false]
end DsPlain
def RgAt (L : List (List Int)) (w : World) (i : Value) (wr : World) : Prop := ∃ j : Nat, j ≤ L.length ∧ i = .int .i64 j ∧ (L.take j).all (okRow (dimN L)) = true ∧ Below w.heap.size w wr
def RiAtD (y : List Int) (w : World) (i : Value) (wr : World) : Prop := ∃ j : Nat, j ≤ y.length ∧ i = .int .i64 j ∧ (y.take j).all fitI = true ∧ Below w.heap.size w wr
set_option maxHeartbeats 4000000 in
theorem right10_c {w : World} {v : Value} {L : List (List Int)} (h : LiesII w v L) (hl : L.length ≤ 1000) (hz : ∀ l ∈ L, l.length ≤ 1000) (hi : ∀ l ∈ L, ∀ n ∈ l, I64 n) :
    Calls Try.prog 5 #[v] w fun e w' => e = .returned (.bool (right L)) ∧ Gr w w' := by
  obtain ⟨a, c, rfl, hc, hh⟩ := liesII_at h
  have H := Lib.hid hh
  have HZ := Lib.hid hz
  have HI := Lib.hid hi
  have HL := Lib.hid (rfl : L.length = L.length)
  obtain ⟨n, hn⟩ : ∃ n, L.length = n := ⟨_, rfl⟩
  have HN := Lib.hid hn
  rw [hn] at hl H hc ⊢
  clear h hh hz hi HL hn
  go_enter Try.func5, Try.ntmps5
  go_wp2_with fail
  go_loopw [3] (fun i wr => RgAt L w i wr) (fun i _ => n - (intOf i).toNat)
  case atStart => exact ⟨0, Nat.zero_le _, rfl, rfl, Below.refl _ _⟩
  case round =>
    obtain ⟨j, hj, rfl, hall, hbel⟩ := hrel
    have hln := HN.out
    have hsz := hbel.size
    by_cases hlt : j < n
    · obtain ⟨y, hy, hstep, hmem⟩ := take_on (l := L) (j := j) (by omega)
      obtain ⟨y0, hy0, _, hmem0⟩ := take_on (l := L) (j := 0) (by omega)
      have hd0 : y0.length = dimN L := by
        unfold dimN
        rw [List.headD_eq_head?_getD, List.head?_eq_getElem?, hy0]; rfl
      obtain ⟨b, off, rfl, hbl, hr⟩ := H.out (by omega)
      obtain ⟨x, hcx, hli⟩ := hr j y hy
      obtain ⟨x0, hcx0, hli0⟩ := hr 0 y0 hy0
      obtain ⟨xa, xc, rfl, hxc, hxr⟩ := hli
      obtain ⟨xa0, xc0, rfl, hxc0, _⟩ := hli0
      have c1 : wr.cell? ⟨b, off + j, none⟩ = some (.slice xa y.length xc) := by rw [hbel.cell (p := ⟨b, off + j, none⟩) hbl]; exact hcx
      have c0 : wr.cell? ⟨b, off, none⟩ = some (.slice xa0 y0.length xc0) := by rw [hbel.cell (p := ⟨b, off, none⟩) hbl]; exact hcx0
      have hyz := HZ.out y hmem
      have hyz0 := HZ.out y0 hmem0
      have HY := Lib.hid (HI.out y hmem)
      have HNO := Lib.hid (fun (h : okRow (dimN L) y = false) => right_no hmem h)
      have HOK := Lib.hid (fun (h : okRow (dimN L) y = true) => (show (L.take (j + 1)).all (okRow (dimN L)) = true by rw [hstep, List.all_append, hall]; simpa using h))
      have HXR := Lib.hid hxr
      have HD0 := Lib.hid hd0
      have HCX := Lib.hid hcx
      have d2 : (j : Int) ≤ 1048576 := by omega
      have d3 : 0 < n := by omega
      have d4 : (0 : Int) < (n : Int) := by omega
      clear hcx hcx0 hstep hall hy hy0 hmem hmem0 hr hxr hd0 hj
      by_cases t1 : y.length < 1
      · have HX := Lib.hid (HNO.out (okRow_no (by omega)))
        have t1' : (y.length : Int) < 1 := by omega
        go_wp2_with fail
        go_quiet (fail)
        go_wp2_with fail
        go_ret
        exact ⟨retb11 HX.out.symm, Gr.of (Below.trans hbel ((grN _ _).mono hsz))⟩
      · by_cases t2 : 4096 < y.length
        · omega
        · by_cases t3 : y.length = y0.length
          · have t1' : ¬ (y.length : Int) < 1 := by omega
            have t2' : ¬ (4096 : Int) < y.length := by omega
            have t3' : ((y.length : Int) != (y0.length : Int)) = false := by simp; omega
            have HR2 : 1 ≤ y.length → ∃ b off, xa = some ⟨b, off, none⟩ ∧ VRow w b off (ints y) := fun h1 => HXR.out.elim (fun h0 => by rw [h0] at h1; simp at h1) id
            obtain ⟨b2, o2, rfl, hvr⟩ := HR2 (by omega)
            have HV := Lib.hid hvr
            have HT3 := Lib.hid t3
            clear HR2 hvr t3
            go_wp2_with fail
            go_quiet (fail)
            go_wp2_with fail
            clear c1 c0 t1 t2 t1' t2' t3'
            go_loopw [4] (fun i wi => RiAtD y w i wi) (fun i _ => y.length - (intOf i).toNat)
            case atStart => exact ⟨0, Nat.zero_le _, rfl, rfl, Below.trans hbel ((grN _ _).mono hsz)⟩
            case round =>
              obtain ⟨q, hq, rfl, hall2, hbel2⟩ := hrel
              have c1 : wr.cell? ⟨b, off + j, none⟩ = some (.slice (some ⟨b2, o2, none⟩) y.length xc) := by rw [hbel2.cell (p := ⟨b, off + j, none⟩) hbl]; exact HCX.out
              by_cases hlt2 : q < y.length
              · obtain ⟨z, hz, hstep2, hmem2⟩ := take_on hlt2
                have hzv : (ints y)[q]? = some (.int .i64 z) := by unfold ints; rw [List.getElem?_map, hz]; rfl
                have c2 : wr.cell? ⟨b2, o2 + q, none⟩ = some (.int .i64 z) := (HV.out.gr (Gr.of hbel2)).2 q _ hzv
                have HF := Lib.hid (fun (h : fitI z = false) => HNO.out (okRow_fit hmem2 h))
                have HG := Lib.hid (fun (h : fitI z = true) => (show (y.take (q + 1)).all fitI = true by rw [hstep2, List.all_append, hall2]; simp [h]))
                clear hz hzv hstep2 hmem2 hall2
                by_cases hlo : z ≤ -16777216
                · have HX := Lib.hid (HF.out (by unfold fitI; rw [decide_eq_false_iff_not]; omega))
                  go_wp2_with fail
                  go_ret
                  exact ⟨retb11 HX.out.symm, Gr.of hbel2⟩
                · by_cases hhi : 16777216 ≤ z
                  · have HX := Lib.hid (HF.out (by unfold fitI; rw [decide_eq_false_iff_not]; omega))
                    go_wp2_with fail
                    go_ret
                    exact ⟨retb11 HX.out.symm, Gr.of hbel2⟩
                  · have HX := Lib.hid (HG.out (by unfold fitI; rw [decide_eq_true_iff]; omega))
                    go_wp2_with fail
                    refine ⟨⟨q + 1, by omega, rfl, HX.out, hbel2⟩, ?_⟩
                    simp [intOf]; omega
              · obtain rfl : q = y.length := by omega
                have HX := Lib.hid (HOK.out (okRow_yes (by omega) (by rw [HT3.out]; exact HD0.out) (by rw [List.take_length] at hall2; exact hall2)))
                clear hall2
                go_wp2_with fail
                refine ⟨⟨j + 1, by omega, rfl, HX.out, hbel2⟩, ?_⟩
                simp [intOf]; omega
          · have HX := Lib.hid (HNO.out (okRow_no (fun h => t3 (by rw [h.2]; exact HD0.out.symm))))
            have t1' : ¬ (y.length : Int) < 1 := by omega
            have t2' : ¬ (4096 : Int) < y.length := by omega
            have t3' : ((y.length : Int) != (y0.length : Int)) = true := by simp; omega
            go_wp2_with fail
            go_quiet (fail)
            go_wp2_with fail
            go_ret
            exact ⟨retb11 HX.out.symm, Gr.of (Below.trans hbel ((grN _ _).mono hsz))⟩
    · obtain rfl : j = n := by omega
      have hR : right L = nB (j : Int) := by
        rw [right_eq, HN.out]
        rw [List.take_of_length_le (by omega)] at hall
        rw [hall, Bool.and_true]
      have HX := Lib.hid hR
      clear hall hR
      by_cases h0 : j = 0
      · subst h0
        go_wp2_with fail
        go_ret
        exact ⟨retb11 (by rw [HX.out]; rfl), Gr.of hbel⟩
      · have d3 : 1 ≤ (j : Int) := by omega
        have d4 : (j : Int) ≤ 1048576 := by omega
        go_wp2_with fail
        go_ret
        exact ⟨retb11 (by rw [HX.out]; unfold nB; symm; rw [decide_eq_true_iff]; omega), Gr.of hbel⟩
end Go.Proofs.Ytibajmjplpnbmaa

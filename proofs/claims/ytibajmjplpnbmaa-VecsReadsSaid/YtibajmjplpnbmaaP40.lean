/- In one text: DsRlay. -/
import Derived.Test.YtibajmjplpnbmaaP39
import Derived.Test.YtibajmjplpnbmaaP27
import Derived.IntWalk
/- The contract of the document's Lay. -/
namespace Go.Proofs.Ytibajmjplpnbmaa
open Go.RowKit OctPlain DsPlain
set_option linter.unusedVariables false
set_option linter.unusedSimpArgs false
set_option maxRecDepth 20000
theorem must10_c (n k : Int) (hn : I64 n) (hk : I64 k) (w : World) :
    Calls Try.prog 22 #[.int .i64 n, .int .i64 k] w fun e w' => e = .returned (.string (putS n k)) ∧ Gr w w' := by
  go_enter Try.func22, Try.ntmps22
  go_wp2_with fail
  refine (rput_c n k hn hk _).mono ?_
  rintro e u ⟨rfl, g⟩
  go_wp2_with fail
  go_ret
  exact ⟨rfl, g⟩
namespace DsPlain
theorem put4n {n : Nat} (h : n < 4294967296) : putS (n : Int) 4 = bs (beL 4 n) := by
  have hf : fitsB (n : Int) 4 = true := by
    unfold fitsB; rw [decide_eq_true_iff]
    have e : (256 : Int) ^ (4 : Int).toNat = 4294967296 := rfl
    rw [e]; omega
  rw [put_ok hf, Int.toNat_natCast]; rfl
theorem put2n {n : Nat} (h : n < 65536) : putS (n : Int) 2 = bs (beL 2 n) := by
  have hf : fitsB (n : Int) 2 = true := by
    unfold fitsB; rw [decide_eq_true_iff]
    have e : (256 : Int) ^ (2 : Int).toNat = 65536 := rfl
    rw [e]; omega
  rw [put_ok hf, Int.toNat_natCast]; rfl
theorem head_app (n d : Nat) : ByteArray.mk #[86, 69, 67, 49] ++ bs (beL 4 n) ++ bs (beL 2 d) = bs (headL n d) := by
  apply b_eq
  unfold headL mkL
  simp [bs, ByteArray.data_append]
theorem headL_length (n d : Nat) : (headL n d).length = 10 := by
  unfold headL mkL
  simp [beL_length]
theorem bodyL_snoc (L : List (List Int)) (v : List Int) : bodyL (L ++ [v]) = bodyL L ++ vecL v := by simp [bodyL]
theorem bodyL_length {L : List (List Int)} {d : Nat} (h : ∀ v ∈ L, v.length = d) : (bodyL L).length = L.length * (d * 4) := by
  unfold bodyL
  rw [flat_length (k := d * 4) (fun y hy => by obtain ⟨v, hv, rfl⟩ := List.mem_map.1 hy; rw [vecL_length, h v hv]), List.length_map]
theorem right_parts {L : List (List Int)} (h : right L = true) : (1 ≤ L.length ∧ L.length ≤ 1048576) ∧ (1 ≤ dimN L ∧ dimN L ≤ 4096) ∧ ∀ v ∈ L, v.length = dimN L ∧ v.all fitI = true := by
  unfold right at h
  simp only [Bool.and_eq_true, List.all_eq_true] at h
  obtain ⟨⟨h1, h2⟩, h3⟩ := h
  unfold nB at h1; unfold dB at h2
  rw [decide_eq_true_iff] at h1 h2
  refine ⟨by omega, by omega, fun v hv => ?_⟩
  have := h3 v hv
  unfold vecB at this
  simp only [Bool.and_eq_true, decide_eq_true_eq] at this
  exact this
end DsPlain
theorem ret_sb10 {a b : ByteArray} {p q : Bool} (h : a = b) (k : p = q) : Ending.returned (.tuple #[.string a, .bool p]) = .returned (.tuple #[.string b, .bool q]) := by rw [h, k]
def RlAt (L : List (List Int)) (w : World) (s i : Value) (wr : World) : Prop := ∃ j : Nat, j ≤ L.length ∧ i = .int .i64 j ∧ s = .string (bs (headL L.length (dimN L) ++ bodyL (L.take j))) ∧ Below w.heap.size w wr
def RkAt (A : List UInt8) (y : List Int) (w : World) (s i : Value) (wr : World) : Prop := ∃ j : Nat, j ≤ y.length ∧ i = .int .i64 j ∧ s = .string (bs (A ++ vecL (y.take j))) ∧ Below w.heap.size w wr
set_option maxHeartbeats 4000000 in
theorem rlay10_c {w : World} {v : Value} {L : List (List Int)} (h : LiesII w v L) (hl : L.length ≤ 1000) (hz : ∀ l ∈ L, l.length ≤ 1000) (hi : ∀ l ∈ L, ∀ n ∈ l, I64 n) :
    Calls Try.prog 7 #[v] w fun e w' => e = .returned (.tuple #[.string (layS L), .bool (right L)]) ∧ Gr w w' := by
  have R := right10_c h hl hz hi
  obtain ⟨a, c, rfl, hc, hh⟩ := liesII_at h
  clear h
  cases hR : right L
  · rw [hR] at R
    have HS := Lib.hid (layS_no hR)
    clear hR hh hz hi
    go_enter Try.func7, Try.ntmps7
    go_wp2_with fail
    refine R.mono ?_; rintro e u ⟨rfl, g⟩
    go_wp2_with fail
    go_ret2
    exact ⟨ret_sb10 HS.out.symm rfl, g⟩
  · rw [hR] at R
    obtain ⟨hn1, hd1, hall⟩ := right_parts hR
    have HA := Lib.hid hall
    have HS := Lib.hid (layS_yes hR)
    obtain ⟨y0, hy0, _, hmem0⟩ := take_on (l := L) (j := 0) (by omega)
    have hd0 := (hall y0 hmem0).1
    obtain ⟨n, hn⟩ : ∃ n, L.length = n := ⟨_, rfl⟩
    obtain ⟨d, hd⟩ : ∃ d, dimN L = d := ⟨_, rfl⟩
    have HN := Lib.hid hn
    have HD := Lib.hid hd
    have hdz : d ≤ 1000 := by have := hz y0 hmem0; omega
    rw [hd] at hd0 hd1
    rw [hn] at hn1 hl hc R
    rw [hn] at hh
    rw [hn]
    obtain ⟨b, off, rfl, hbl, hr⟩ := hh (by omega)
    obtain ⟨x0, hcx0, xa0, xc0, rfl, hxc0, _⟩ := hr 0 y0 hy0
    have HR := Lib.hid hr
    have c00 : w.cell? ⟨b, off, none⟩ = some (.slice xa0 d xc0) := by have h0 := hcx0; rw [hd0] at h0; exact h0
    have HC := Lib.hid c00
    clear hcx0 hR hh hr hall hy0 hmem0 hn hd hi hz hxc0 hd0
    have d3 : 0 < n := by omega
    have d4 : (0 : Int) < (n : Int) := by omega
    go_enter Try.func7, Try.ntmps7
    go_wp2_with fail
    refine R.mono ?_; rintro e u ⟨rfl, g⟩
    have S : ∀ x, Gr u x → Gr u x ∧ x.cell? ⟨b, off, none⟩ = some (.slice xa0 d xc0) := fun x gx => ⟨gx, by rw [Below.cell (g.trans gx) (p := ⟨b, off, none⟩) hbl]; exact HC.out⟩
    have c0u := (S u (Gr.refl u)).2
    clear c00
    have M4 : ∀ x, Gr u x → Calls Try.prog 22 #[.int .i64 (n : Int), .int .i64 4] x fun e w' => e = .returned (.string (bs (beL 4 n))) ∧ Gr u w' ∧ w'.cell? ⟨b, off, none⟩ = some (.slice xa0 d xc0) := by
      intro x gx
      refine (must10_c (n : Int) 4 (by unfold I64; omega) (by unfold I64; omega) x).mono ?_
      rintro e u2 ⟨rfl, g2⟩
      exact ⟨by rw [put4n (by omega)], S _ (gx.trans g2)⟩
    have M2 : ∀ x, Gr u x → Calls Try.prog 22 #[.int .i64 (d : Int), .int .i64 2] x fun e w' => e = .returned (.string (bs (beL 2 d))) ∧ Gr u w' ∧ w'.cell? ⟨b, off, none⟩ = some (.slice xa0 d xc0) := by
      intro x gx
      refine (must10_c (d : Int) 2 (by unfold I64; omega) (by unfold I64; omega) x).mono ?_
      rintro e u2 ⟨rfl, g2⟩
      exact ⟨by rw [put2n (by omega)], S _ (gx.trans g2)⟩
    have g0 := Gr.refl u
    have gd : Gr u u.drew := Below.drew g0
    have HH := Lib.hid (head_app n d)
    have s4 : (bs (beL 4 n)).size = 4 := by rw [bs_size, beL_length]
    have s2 : (bs (beL 2 d)).size = 2 := by rw [bs_size, beL_length]
    generalize bs (beL 4 n) = x4 at M4 HH s4
    generalize bs (beL 2 d) = x2 at M2 HH s2
    go_wp2_with fail
    go_region_held3 (fun w' => Gr u w' ∧ w'.cell? ⟨b, off, none⟩ = some (.slice xa0 d xc0))
      (first | exact S _ (Below.drew (by assumption)) | exact S _ (by assumption) | go_keep)
      ((first
        | (go_at_call 22; (with_reducible refine (M4 _ (by assumption)).mono ?_); rintro e u5 ⟨rfl, gu, cu0⟩)
        | (go_at_call 22; (with_reducible refine (M2 _ (by assumption)).mono ?_); rintro e u5 ⟨rfl, gu, cu0⟩)))
    have gE : Gr w u5 := g.trans gu
    rw [HH.out]
    clear S M4 M2 cu0 c0u
    go_wp2_with fail
    go_loopw [4, 5] (fun s i wr => RlAt L w s i wr) (fun _ i _ => n - (intOf i).toNat)
    case atStart => exact ⟨0, Nat.zero_le _, rfl, by rw [HN.out, HD.out]; simp [bodyL], gE⟩
    case round =>
      obtain ⟨j, hj, rfl, rfl, hbel⟩ := hrel
      rw [HN.out] at hj
      rw [HN.out, HD.out]
      have hsz := hbel.size
      by_cases hlt : j < n
      · obtain ⟨y, hy, hstep, hmem⟩ := take_on (l := L) (j := j) (by rw [HN.out]; omega)
        obtain ⟨x, hcx, xa, xc, rfl, hxc, hxr⟩ := HR.out j y hy
        have hyd : y.length = d := by rw [← HD.out]; exact (HA.out y hmem).1
        have HF := Lib.hid (HA.out y hmem).2
        have hAl : (headL n d ++ bodyL (L.take j)).length = 10 + j * (d * 4) := by
          rw [List.length_append, headL_length, bodyL_length (d := d) (fun v hv => by rw [← HD.out]; exact (HA.out v (List.mem_of_mem_take hv)).1), List.length_take, HN.out, Nat.min_eq_left hj]
        have hAl2 : (headL n d ++ bodyL (L.take j)).length ≤ 5000000 := by
          rw [hAl]
          have h1 : j * (d * 4) ≤ 1000 * (1000 * 4) := Nat.mul_le_mul (by omega) (by omega)
          omega
        have hst := bodyL_snoc (L.take j) y
        rw [← hstep] at hst
        have HST := Lib.hid hst
        obtain ⟨A, hA⟩ : ∃ A, A = headL n d ++ bodyL (L.take j) := ⟨_, rfl⟩
        rw [← hA] at hAl2 ⊢
        have HAA := Lib.hid hA
        have HCX := Lib.hid hcx
        have HV := Lib.hid (show 1 ≤ y.length → ∃ b off, xa = some ⟨b, off, none⟩ ∧ VRow w b off (ints y) from fun h1 => hxr.elim (fun h0 => by rw [h0] at h1; simp at h1) id)
        obtain ⟨b2, o2, rfl, hvr⟩ := HV.out (by omega)
        have HVR := Lib.hid hvr
        clear hst hstep hA hAl hmem hy hcx hxr hvr HV
        go_wp2_with fail
        go_loopw [4, 6] (fun s i wr => RkAt A y w s i wr) (fun _ i _ => y.length - (intOf i).toNat)
        case atStart => exact ⟨0, Nat.zero_le _, rfl, by simp [vecL], hbel⟩
        case round =>
          obtain ⟨q, hq, rfl, rfl, hbel2⟩ := hrel
          have c1 : wr.cell? ⟨b, off + j, none⟩ = some (.slice (some ⟨b2, o2, none⟩) y.length xc) := by rw [hbel2.cell (p := ⟨b, off + j, none⟩) hbl]; exact HCX.out
          by_cases hlt2 : q < y.length
          · obtain ⟨z, hz, hstep2, hmem2⟩ := take_on hlt2
            have hzv : (ints y)[q]? = some (.int .i64 z) := by unfold ints; rw [List.getElem?_map, hz]; rfl
            have c2 : wr.cell? ⟨b2, o2 + q, none⟩ = some (.int .i64 z) := (HVR.out.gr (Gr.of hbel2)).2 q _ hzv
            have hfz : fitI z = true := List.all_eq_true.1 HF.out z hmem2
            have hzb : -16777215 ≤ z ∧ z ≤ 16777215 := by unfold fitI at hfz; rw [decide_eq_true_iff] at hfz; exact hfz
            have PC := fun w => rcoord_c z (by unfold I64; omega) w
            rw [fit_coord hfz] at PC
            have h1 : (bs (A ++ vecL (y.take q))).size ≤ 6000000 := by rw [bs_size, List.length_append, vecL_length, List.length_take]; omega
            have h2 : (bs (cb z)).size = 4 := by rw [bs_size, cb_length]
            have h3 : bs (A ++ vecL (y.take q)) ++ bs (cb z) = bs (A ++ vecL (y.take (q + 1))) := by rw [bs_app, hstep2, vecL_snoc, List.append_assoc]
            have H3 := Lib.hid h3
            generalize bs (A ++ vecL (y.take q)) = s1 at h1 H3 ⊢
            generalize bs (cb z) = s3 at h2 H3 PC
            generalize coordB z = bb at PC
            clear hz hzv hstep2 hmem2 h3 hfz
            go_wp2_with fail
            refine (PC _).mono ?_; rintro e u6 ⟨rfl, g6⟩
            go_wp2_with fail
            refine ⟨⟨q + 1, by omega, rfl, by rw [H3.out], Below.trans hbel2 (g6.mono hbel2.size)⟩, ?_⟩
            simp [intOf]; omega
          · obtain rfl : q = y.length := by omega
            have HX : RowKit.Hid (bs (A ++ vecL (y.take y.length)) = bs (headL L.length (dimN L) ++ bodyL (L.take (j + 1)))) := by
              refine Lib.hid ?_
              rw [List.take_length, HST.out, HAA.out, HN.out, HD.out, List.append_assoc]
            generalize bs (A ++ vecL (y.take y.length)) = s1 at HX ⊢
            go_wp2_with fail
            refine ⟨⟨j + 1, by rw [HN.out]; omega, rfl, by rw [HX.out], hbel2⟩, ?_⟩
            simp [intOf]; omega
      · obtain rfl : j = n := by omega
        have HX : RowKit.Hid (bs (headL j d ++ bodyL (L.take j)) = layS L) := by
          refine Lib.hid ?_
          rw [HS.out, List.take_of_length_le (by rw [HN.out]; omega)]
          unfold layL
          rw [HN.out, HD.out]
        generalize bs (headL j d ++ bodyL (L.take j)) = s1 at HX ⊢
        go_wp2_with fail
        go_ret2
        exact ⟨ret_sb10 HX.out rfl, Gr.of hbel⟩
end Go.Proofs.Ytibajmjplpnbmaa

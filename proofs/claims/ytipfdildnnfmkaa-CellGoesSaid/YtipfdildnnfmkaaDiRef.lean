/- Contracts of the document's Right, Square and Within. -/
import Derived.Test.YtipfdildnnfmkaaDiPlain
import Derived.Test.YtipfdildnnfmkaaDsRef
import Derived.ChangeAlike
import Derived.Deep.QuietTactic
import Derived.BigQuiet
namespace Go.Proofs.Ytipfdildnnfmkaa
open Go.RowKit DiPlain
set_option linter.unusedVariables false
set_option linter.unusedSimpArgs false
set_option maxRecDepth 20000
theorem ints_at {l : List Int} {j : Nat} {x : Int} (h : l[j]? = some x) : (ints l)[j]? = some (.int .i64 x) := by unfold ints; rw [List.getElem?_map, h]; rfl
def RvvAt (l : List Int) (w : World) (i : Value) (wr : World) : Prop := ∃ j : Nat, j ≤ l.length ∧ i = .int .i64 j ∧ (l.take j).all fitD = true ∧ wr = w
set_option maxHeartbeats 1000000 in
theorem rright11_c {w : World} {v : Value} {l : List Int} (h : LiesI w v l) (hl : l.length ≤ 4000) :
    Calls Try.prog 20 #[v] w fun e w' => e = .returned (.bool (rightV l)) ∧ w = w' := by
  obtain ⟨a, c, rfl, hc, h⟩ := h
  have H0 : 1 ≤ l.length → ∃ b off, a = some ⟨b, off, none⟩ ∧ VRow w b off (ints l) := fun h1 => h.elim (fun h0 => by rw [h0] at h1; simp at h1) id
  have H := Lib.hid H0
  clear h H0
  go_enter Try.func20, Try.ntmps20
  go_wp2_with fail
  go_loopw [3] (fun i wr => RvvAt l w i wr) (fun i _ => l.length - (intOf i).toNat)
  case atStart => exact ⟨0, Nat.zero_le _, rfl, rfl, rfl⟩
  case round =>
    obtain ⟨j, hj, rfl, hall, rfl⟩ := hrel
    by_cases hlt : j < l.length
    · obtain ⟨z, hz, hstep, hmem⟩ := take_on hlt
      obtain ⟨b, off, rfl, hv⟩ := H.out (by omega)
      have c2 := hv.2 j _ (ints_at hz)
      have HF := Lib.hid (fun (h : fitD z = false) => rightV_fit hmem h)
      have HG := Lib.hid (fun (h : fitD z = true) => (show (l.take (j + 1)).all fitD = true by rw [hstep, List.all_append, hall]; simp [h]))
      have d2 : (j : Int) ≤ 4096 := by omega
      clear hz hstep hmem hall hv
      by_cases hlo : z ≤ -16777216
      · have HX := Lib.hid (HF.out (by unfold fitD; rw [decide_eq_false_iff_not]; omega))
        go_wp2_with fail
        go_ret
        exact ⟨retb11 HX.out.symm, rfl⟩
      · by_cases hhi : 16777216 ≤ z
        · have HX := Lib.hid (HF.out (by unfold fitD; rw [decide_eq_false_iff_not]; omega))
          go_wp2_with fail
          go_ret
          exact ⟨retb11 HX.out.symm, rfl⟩
        · have HX := Lib.hid (HG.out (by unfold fitD; rw [decide_eq_true_iff]; omega))
          go_wp2_with fail
          refine ⟨⟨j + 1, by omega, rfl, HX.out, rfl⟩, ?_⟩
          simp [intOf]; omega
    · obtain rfl : j = l.length := by omega
      rw [List.take_length] at hall
      by_cases h0 : l.length = 0
      · have HX := Lib.hid (rightV_len (v := l) (by omega))
        have d1 : ¬ 1 ≤ (l.length : Int) := by omega
        clear hall
        go_wp2_with fail
        go_ret
        exact ⟨retb11 HX.out.symm, rfl⟩
      · have HX := Lib.hid (rightV_yes (v := l) (by omega) hall)
        have d1 : 1 ≤ (l.length : Int) := by omega
        have d2 : (l.length : Int) ≤ 4096 := by omega
        clear hall
        go_wp2_with fail
        go_ret
        exact ⟨retb11 HX.out.symm, rfl⟩
theorem ret_ii11 {a b c d : Int} (h : a = b) (k : c = d) : Ending.returned (.tuple #[.int .i64 a, .int .i64 c]) = .returned (.tuple #[.int .i64 b, .int .i64 d]) := by rw [h, k]
def RsqAt (a b : List Int) (w : World) (n i : Value) (wr : World) : Prop := ∃ j : Nat, j ≤ a.length ∧ i = .int .i64 j ∧ n = .int .i64 (far (a.take j) (b.take j)) ∧ Below w.heap.size w wr
set_option maxHeartbeats 2000000 in
theorem rsquare_c {w : World} {v1 v2 : Value} {a b : List Int} (h1 : LiesI w v1 a) (h2 : LiesI w v2 b) (hl1 : a.length ≤ 4000) (hl2 : b.length ≤ 4000) :
    Calls Try.prog 21 #[v1, v2] w fun e w' => e = .returned (.tuple #[.int .i64 (squareN a b), .int .i64 (squareE a b)]) ∧ Gr w w' := by
  have R1 := rright11_c h1 hl1
  have R2 := rright11_c h2 hl2
  cases hr1 : rightV a
  · have HB := Lib.hid (squareB_a (b := b) hr1)
    rw [hr1] at R1
    clear hr1 h1 h2
    go_enter Try.func21, Try.ntmps21
    go_wp2_with fail
    refine R1.mono ?_; rintro e u ⟨rfl, rfl⟩
    go_wp2_with fail
    go_ret2
    exact ⟨ret_ii11 (squareN_no HB.out).symm (squareE_no HB.out).symm, Gr.refl _⟩
  · rw [hr1] at R1
    cases hr2 : rightV b
    · have HB := Lib.hid (squareB_b (a := a) hr2)
      rw [hr2] at R2
      clear hr1 hr2 h1 h2
      go_enter Try.func21, Try.ntmps21
      go_wp2_with fail
      refine R1.mono ?_; rintro e u ⟨rfl, rfl⟩
      go_wp2_with fail
      refine R2.mono ?_; rintro e u ⟨rfl, rfl⟩
      go_wp2_with fail
      go_ret2
      exact ⟨ret_ii11 (squareN_no HB.out).symm (squareE_no HB.out).symm, Gr.refl _⟩
    · rw [hr2] at R2
      obtain ⟨a1, c1, rfl, hc1, h1⟩ := h1
      obtain ⟨a2, c2, rfl, hc2, h2⟩ := h2
      by_cases hlen : a.length = b.length
      · have hB := squareB_yes hr1 hr2 hlen
        have HN := Lib.hid (squareN_yes hB)
        have HE := Lib.hid (squareE_yes hB)
        obtain ⟨l1, f1⟩ := rightV_parts hr1
        obtain ⟨l2, f2⟩ := rightV_parts hr2
        have HT := Lib.hid (far_take_le hr1 hr2)
        have HL := Lib.hid hlen
        have HF1 := Lib.hid f1
        have HF2 := Lib.hid f2
        have K1 : ∃ b off, a1 = some ⟨b, off, none⟩ ∧ VRow w b off (ints a) := h1.elim (fun h0 => by rw [h0] at l1; simp at l1) id
        have K2 : ∃ b' off, a2 = some ⟨b', off, none⟩ ∧ VRow w b' off (ints b) := h2.elim (fun h0 => by rw [h0] at l2; simp at l2) id
        obtain ⟨b1, o1, rfl, r1⟩ := K1
        obtain ⟨b2, o2, rfl, r2⟩ := K2
        have HR1 := Lib.hid r1
        have HR2 := Lib.hid r2
        have t1 : ((a.length : Int) != (b.length : Int)) = false := by simp; omega
        clear hr1 hr2 h1 h2 hB f1 f2 r1 r2 hlen
        go_enter Try.func21, Try.ntmps21
        go_wp2_with fail
        refine R1.mono ?_; rintro e u ⟨rfl, rfl⟩
        go_wp2_with fail
        refine R2.mono ?_; rintro e u ⟨rfl, rfl⟩
        go_wp2_with fail
        go_loopw [6, 7] (fun n i wr => RsqAt a b w n i wr) (fun _ i _ => a.length - (intOf i).toNat)
        case atStart => exact ⟨0, Nat.zero_le _, rfl, by simp [far], Below.refl _ _⟩
        case round =>
          obtain ⟨j, hj, rfl, rfl, hbel⟩ := hrel
          by_cases hlt : j < a.length
          · obtain ⟨x, hx, _, hmx⟩ := take_on hlt
            obtain ⟨y, hy, _, hmy⟩ := take_on (l := b) (j := j) (by have := HL.out; omega)
            have c1 : wr.cell? ⟨b1, o1 + j, none⟩ = some (.int .i64 x) := (HR1.out.gr (Gr.of hbel)).2 j _ (ints_at hx)
            have c2 : wr.cell? ⟨b2, o2 + j, none⟩ = some (.int .i64 y) := (HR2.out.gr (Gr.of hbel)).2 j _ (ints_at hy)
            have bx := HF1.out x hmx
            have by' := HF2.out y hmy
            have hst := far_take HL.out hx hy
            have hs1 := HT.out j
            have hs2 := HT.out (j + 1)
            have hq := sq_nonneg x y
            have hq2 := sq_le bx by'
            rw [hst] at hs2
            obtain ⟨m, hm⟩ : ∃ m, (x - y) * (x - y) = m := ⟨_, rfl⟩
            have hsm : sq x y = m := hm
            rw [hsm] at hs2 hst hq hq2
            have HS := Lib.hid hst
            obtain ⟨n, hn⟩ : ∃ n, far (a.take j) (b.take j) = n := ⟨_, rfl⟩
            rw [hn] at hs1 hs2
            have HNN := Lib.hid hn
            rw [hn]
            have d2 : j < b.length := by have := HL.out; omega
            clear hx hy hmx hmy hst hsm hn
            go_wp2_with fail
            go_quiet (fail)
            go_wp2_with fail
            refine ⟨⟨j + 1, by omega, rfl, by rw [HS.out, HNN.out], ?_⟩, ?_⟩
            · exact Below.trans hbel ((grN _ _).mono hbel.size)
            · simp [intOf]; omega
          · obtain rfl : j = a.length := by omega
            have HX : RowKit.Hid (far (a.take a.length) (b.take a.length) = squareN a b) := by
              refine Lib.hid ?_
              rw [HN.out, List.take_length, List.take_of_length_le (by rw [HL.out]; omega)]
            generalize far (a.take a.length) (b.take a.length) = n at HX ⊢
            go_wp2_with fail
            go_ret2
            exact ⟨ret_ii11 HX.out HE.out.symm, Gr.of hbel⟩
      · have HB := Lib.hid (squareB_l hlen)
        have t1 : ((a.length : Int) != (b.length : Int)) = true := by simp; omega
        clear hr1 hr2 h1 h2 hlen
        go_enter Try.func21, Try.ntmps21
        go_wp2_with fail
        refine R1.mono ?_; rintro e u ⟨rfl, rfl⟩
        go_wp2_with fail
        refine R2.mono ?_; rintro e u ⟨rfl, rfl⟩
        go_wp2_with fail
        go_ret2
        exact ⟨ret_ii11 (squareN_no HB.out).symm (squareE_no HB.out).symm, Gr.refl _⟩
end Go.Proofs.Ytipfdildnnfmkaa

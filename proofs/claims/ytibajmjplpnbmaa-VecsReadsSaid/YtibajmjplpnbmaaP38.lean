/- In one text: DsRef. -/
import Derived.Test.YtibajmjplpnbmaaP02
import Derived.RegionTactic
import Derived.BigRegion
import Derived.Deep.RegionHeld3
/- The document's Few of vectors; its comparison of two lists, and of two lists of lists, says that they are one, where they hold the same. -/
namespace Go.Proofs.Ytibajmjplpnbmaa
open Go.RowKit
set_option linter.unusedVariables false
set_option linter.unusedSimpArgs false
set_option maxRecDepth 20000
theorem take_on {α : Type} {l : List α} {j : Nat} (hj : j < l.length) : ∃ x, l[j]? = some x ∧ l.take (j + 1) = l.take j ++ [x] ∧ x ∈ l :=
  ⟨l[j], List.getElem?_eq_getElem hj, List.take_succ_eq_append_getElem hj, List.getElem_mem hj⟩
theorem retb11 {a b : Bool} (h : a = b) : Ending.returned (.bool a) = .returned (.bool b) := by rw [h]
def few10 (L : List (List Int)) (m k : Nat) : Bool := decide (L.length ≤ m) && (L.take m).all (fun v => decide (v.length ≤ k))
theorem few10_yes {L : List (List Int)} {m k : Nat} (h : few10 L m k = true) : L.length ≤ m ∧ ∀ v ∈ L, v.length ≤ k := by
  unfold few10 at h
  simp only [Bool.and_eq_true, decide_eq_true_eq, List.all_eq_true] at h
  refine ⟨h.1, fun s hs => h.2 s ?_⟩
  rw [List.take_of_length_le h.1]; exact hs
def Few10At (L : List (List Int)) (m k : Nat) (w : World) (i : Value) (wr : World) : Prop := ∃ j : Nat, j ≤ m ∧ j ≤ L.length ∧ i = .int .i64 j ∧ wr = w ∧ (L.take j).all (fun v => decide (v.length ≤ k)) = true
theorem few10_c {w : World} {v : Value} {L : List (List Int)} (h : LiesII w v L) (m k : Nat) (hm : m ≤ 100) (hk : k ≤ 100) (hl : L.length ≤ 9223372036854775807) :
    Calls Try.prog 4 #[v, .int .i64 (m : Int), .int .i64 (k : Int)] w fun e w' => e = .returned (.bool (few10 L m k)) ∧ w = w' := by
  obtain ⟨a, c, rfl, hc, h⟩ := liesII_at h
  obtain ⟨n, hn⟩ : ∃ n, L.length = n := ⟨_, rfl⟩
  have HN := Lib.hid hn
  have H := Lib.hid h
  rw [hn] at hl H ⊢
  have hl2 : (n : Int) ≤ 9223372036854775807 := by omega
  clear h hc hn hl
  go_enter Try.func4, Try.ntmps4
  go_wp2_with fail
  go_loopw [7] (fun i wr => Few10At L m k w i wr) (fun i _ => n - (intOf i).toNat)
  case atStart => exact ⟨0, Nat.zero_le _, Nat.zero_le _, rfl, rfl, rfl⟩
  case round =>
    obtain ⟨j, hjm, hj, rfl, rfl, hall⟩ := hrel
    have hln := HN.out
    by_cases hlt : j < n
    · by_cases h10 : j < m
      · obtain ⟨y, hy, hstep, hmem⟩ := take_on (l := L) (j := j) (by omega)
        obtain ⟨b, off, rfl, _, hr⟩ := H.out (by omega)
        obtain ⟨x, hcx, hli⟩ := hr j y hy
        obtain ⟨xa, xc, rfl, hxc, _⟩ := hli
        by_cases hz : y.length ≤ k
        · have hnext : (L.take (j + 1)).all (fun v => decide (v.length ≤ k)) = true := by rw [hstep, List.all_append, hall]; simpa using hz
          have HX := Lib.hid hnext
          have hz2 : ¬ (k : Int) < y.length := by omega
          have d1 : (j : Int) < (m : Int) := by omega
          have hyl : y.length ≤ 100 := by omega
          clear hnext hstep hall hy hmem hz hr H
          go_wp2_with fail
          refine ⟨⟨j + 1, by omega, by have := HN.out; omega, rfl, rfl, HX.out⟩, ?_⟩
          simp [intOf]; omega
        · have hno : few10 L m k = false := by
            unfold few10
            cases hd : decide (L.length ≤ m)
            · rfl
            · rw [decide_eq_true_iff] at hd
              rw [List.take_of_length_le hd, Bool.true_and, List.all_eq_false]
              exact ⟨y, hmem, by simpa using hz⟩
          have HX := Lib.hid hno
          have hz2 : (k : Int) < y.length := by omega
          have d1 : (j : Int) < (m : Int) := by omega
          clear hno hstep hall hy hmem hz hr H
          go_wp2_with fail
          go_ret
          exact ⟨retb11 HX.out.symm, rfl⟩
      · obtain rfl : j = m := by omega
        have hno : few10 L j k = false := by unfold few10; rw [decide_eq_false (by omega)]; rfl
        have HX := Lib.hid hno
        have hx2 : ¬ (n : Int) ≤ (j : Int) := by omega
        clear hno hall H
        go_wp2_with fail
        go_ret
        exact ⟨retb11 HX.out.symm, rfl⟩
    · obtain rfl : j = n := by omega
      have hyes : few10 L m k = true := by
        unfold few10
        rw [decide_eq_true (by omega), List.take_of_length_le (by omega)]
        rw [List.take_of_length_le (by omega)] at hall
        rw [hall]; rfl
      have HX := Lib.hid hyes
      have hx2 : (j : Int) ≤ (m : Int) := by omega
      clear hyes hall H
      go_wp2_with fail
      go_ret
      exact ⟨retb11 HX.out.symm, rfl⟩
def SamAt (n : Nat) (w : World) (i : Value) (wr : World) : Prop := ∃ j : Nat, j ≤ n ∧ i = .int .i64 j ∧ Below w.heap.size w wr
theorem samel_none (a b : Option Addr) (c d : Nat) (w : World) :
    Calls Try.prog 18 #[.slice a 0 c, .slice b 0 d] w fun e w' => e = .returned (.bool true) ∧ Gr w w' := by
  go_enter Try.func18, Try.ntmps18
  go_wp2_with fail
  go_rounds 1
  go_ret
  exact ⟨rfl, Gr.refl _⟩
set_option maxHeartbeats 2000000 in
theorem samel_some (g1 g2 o1 o2 n c d : Nat) (L : List Int) (hL : L.length = n) (hn : n ≤ 1000000) (w : World) (h1 : VRow w g1 o1 (ints L)) (h2 : VRow w g2 o2 (ints L)) :
    Calls Try.prog 18 #[.slice (some ⟨g1, o1, none⟩) n c, .slice (some ⟨g2, o2, none⟩) n d] w fun e w' => e = .returned (.bool true) ∧ Gr w w' := by
  go_enter Try.func18, Try.ntmps18
  go_wp2_with fail
  go_loopw [5] (fun i wr => SamAt n w i wr) (fun i _ => n - (intOf i).toNat)
  case atStart => exact ⟨0, Nat.zero_le _, rfl, Below.refl _ _⟩
  case round =>
    obtain ⟨j, hj, rfl, hbel⟩ := hrel
    by_cases hlt : j < n
    · obtain ⟨x, hx, _, _⟩ := take_on (l := L) (j := j) (by omega)
      have hxv : (ints L)[j]? = some (.int .i64 x) := by unfold ints; rw [List.getElem?_map, hx]; rfl
      have c1 : wr.cell? ⟨g1, o1 + j, none⟩ = some (.int .i64 x) := (h1.gr hbel).2 j _ hxv
      have c2 : wr.cell? ⟨g2, o2 + j, none⟩ = some (.int .i64 x) := (h2.gr hbel).2 j _ hxv
      clear h1 h2 hx hxv
      go_wp2_with fail
      go_region
      go_wp2
      refine ⟨⟨j + 1, by omega, rfl, ?_⟩, ?_⟩
      · exact hbel.drew
      · simp [intOf]; omega
    · obtain rfl : j = n := by omega
      clear h1 h2
      go_wp2
      go_ret
      exact ⟨rfl, Gr.of hbel⟩
theorem samel_c {w : World} {v1 v2 : Value} {L : List Int} (hn : L.length ≤ 1000000) (h1 : LiesI w v1 L) (h2 : LiesI w v2 L) :
    Calls Try.prog 18 #[v1, v2] w fun e w' => e = .returned (.bool true) ∧ Gr w w' := by
  obtain ⟨a1, c1, rfl, _, h1⟩ := h1
  obtain ⟨a2, c2, rfl, _, h2⟩ := h2
  rcases h1 with rfl | ⟨b1, o1, rfl, r1⟩
  · exact samel_none _ _ _ _ w
  · rcases h2 with rfl | ⟨b2, o2, rfl, r2⟩
    · exact samel_none _ _ _ _ w
    · exact samel_some b1 b2 o1 o2 L.length c1 c2 L rfl hn w r1 r2
end Go.Proofs.Ytibajmjplpnbmaa

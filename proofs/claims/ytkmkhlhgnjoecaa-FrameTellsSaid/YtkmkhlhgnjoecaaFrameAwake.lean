/- Put of whatever slice; the law's 'few'; the chapter's example. -/
import Derived.Test.YtkmkhlhgnjoecaaLies
import Derived.Test.YtkmkhlhgnjoecaaFrameJoin
import Derived.Test.YtkmkhlhgnjoecaaFrameEnd
import Derived.Test.YtkmkhlhgnjoecaaFrameGet
namespace Go.Proofs.Ytkmkhlhgnjoecaa
open Go.RowKit CrcPlain OctPlain FramePlain
set_option linter.unusedVariables false
set_option linter.unusedSimpArgs false
theorem fput_c {w : World} {v : Value} {l : List ByteArray} (h : Lies w v l) (size : Int) (hk : I64 size) (hl : l.length ≤ 1000000) (hz : ∀ s ∈ l, s.size ≤ 1000) :
    Calls Try.prog 7 #[.int .i64 size, v] w fun e w' => e = .returned (.tuple #[.string (blkS size l), .bool (blkB size l)]) ∧ Gr w w' := by
  obtain ⟨a, c, rfl, hc, h⟩ := h
  by_cases hs : sizeB size = true ∧ 1 ≤ l.length ∧ l.length ≤ 4
  · rcases h with rfl | ⟨b, off, rfl, hr⟩
    · simp at hs
    · exact fput_some b off c l.length l rfl size hk w hr hs.1 hs.2 hc hz
  · refine (fput_no a c l.length l rfl size hk (by unfold I64; omega) w ?_).mono fun e w' ⟨h1, h2⟩ => ⟨h1, h2 ▸ Gr.refl _⟩
    cases hb : sizeB size
    · exact .inl rfl
    · exact .inr fun h4 => hs ⟨hb, h4⟩
theorem rfput_c {w : World} {v : Value} {l : List ByteArray} (h : Lies w v l) (size : Int) (hk : I64 size) (hl : l.length ≤ 1000000) :
    Calls Try.prog 8 #[.int .i64 size, v] w fun e w' => e = .returned (.tuple #[.string (blkS size l), .bool (blkB size l)]) ∧ Gr w w' := by
  obtain ⟨a, c, rfl, hc, h⟩ := h
  by_cases hs : sizeB size = true ∧ 1 ≤ l.length ∧ l.length ≤ 4
  · rcases h with rfl | ⟨b, off, rfl, hr⟩
    · simp at hs
    · cases ha : allB size l
      · exact (rfput_mid b off c l.length l rfl size hk w hr hs.1 hs.2 ha).mono fun e w' ⟨h1, h2⟩ => ⟨h1, h2 ▸ Gr.refl _⟩
      · exact rfput_yes b off c l.length l rfl size hk w hr hs.1 hs.2 ha
  · refine (rfput_no a c l.length l rfl size hk w ?_).mono fun e w' ⟨h1, h2⟩ => ⟨h1, h2 ▸ Gr.refl _⟩
    cases hb : sizeB size
    · exact .inl rfl
    · exact .inr fun h4 => hs ⟨hb, h4⟩

def fewB (l : List ByteArray) : Bool := decide (l.length ≤ 10) && (l.take 10).all (fun s => decide (s.size ≤ 80))
theorem few_yes {l : List ByteArray} (h : fewB l = true) : l.length ≤ 10 ∧ ∀ s ∈ l, s.size ≤ 80 := by
  unfold fewB at h
  simp only [Bool.and_eq_true, decide_eq_true_eq, List.all_eq_true] at h
  refine ⟨h.1, fun s hs => h.2 s ?_⟩
  rw [List.take_of_length_le h.1]; exact hs
def FewAt (l : List ByteArray) (w : World) (i : Value) (wr : World) : Prop := ∃ j : Nat, j ≤ 10 ∧ j ≤ l.length ∧ i = .int .i64 j ∧ wr = w ∧ (l.take j).all (fun s => decide (s.size ≤ 80)) = true
theorem few_c {w : World} {v : Value} {l : List ByteArray} (h : Lies w v l) :
    Calls Try.prog 5 #[v] w fun e w' => e = .returned (.bool (fewB l)) ∧ w = w' := by
  obtain ⟨a, c, rfl, hc, h⟩ := h
  obtain ⟨n, hn⟩ : ∃ n, l.length = n := ⟨_, rfl⟩
  have HN := Lib.hid hn
  have H0 : 1 ≤ n → ∃ b off, a = some ⟨b, off, none⟩ ∧ SRow w b off l := fun h1 => h.elim (fun h0 => by rw [h0] at hn; simp at hn; omega) id
  have H := Lib.hid H0
  rw [hn]
  clear h hc hn H0
  go_enter Try.func5, Try.ntmps5
  go_wp2_with fail
  go_loopw [3] (fun i wr => FewAt l w i wr) (fun i _ => n - (intOf i).toNat)
  case atStart => exact ⟨0, Nat.zero_le _, Nat.zero_le _, rfl, rfl, rfl⟩
  case round =>
    obtain ⟨j, hj10, hj, rfl, rfl, hall⟩ := hrel
    have hln := HN.out
    by_cases hlt : j < n
    · by_cases h10 : j < 10
      · obtain ⟨x, hx, hstep, hmem⟩ := take_at (l := l) (j := j) (by omega)
        obtain ⟨b, off, rfl, hr⟩ := H.out (by omega)
        have hcx := hr.2 j x hx
        by_cases hz : x.size ≤ 80
        · have hnext : (l.take (j + 1)).all (fun s => decide (s.size ≤ 80)) = true := by rw [hstep, List.all_append, hall]; simpa using hz
          have HX := Lib.hid hnext
          have hz2 : ¬ (80 : Int) < x.size := by omega
          clear hnext hstep hall hx hmem hz hr H
          go_wp2_with fail
          refine ⟨⟨j + 1, by omega, by have := HN.out; omega, rfl, rfl, HX.out⟩, ?_⟩
          simp [intOf]; omega
        · have hno : fewB l = false := by
            unfold fewB
            cases hd : decide (l.length ≤ 10)
            · rfl
            · rw [decide_eq_true_iff] at hd
              rw [List.take_of_length_le hd, Bool.true_and, List.all_eq_false]
              exact ⟨x, hmem, by simpa using hz⟩
          have HX := Lib.hid hno
          have hz2 : (80 : Int) < x.size := by omega
          clear hno hstep hall hx hmem hz hr H
          go_wp2_with fail
          go_ret
          exact ⟨retb HX.out.symm, rfl⟩
      · obtain rfl : j = 10 := by omega
        have hno : fewB l = false := by unfold fewB; rw [decide_eq_false (by omega)]; rfl
        have HX := Lib.hid hno
        have hx2 : ¬ (n : Int) ≤ 10 := by omega
        clear hno hall H
        go_wp2_with fail
        go_ret
        exact ⟨retb HX.out.symm, rfl⟩
    · obtain rfl : j = n := by omega
      have hyes : fewB l = true := by
        unfold fewB
        rw [decide_eq_true (by omega), List.take_of_length_le (by omega)]
        rw [List.take_of_length_le (by omega)] at hall
        rw [hall]; rfl
      have HX := Lib.hid hyes
      have hx2 : (j : Int) ≤ 10 := by omega
      clear hyes hall H
      go_wp2_with fail
      go_ret
      exact ⟨retb HX.out.symm, rfl⟩

set_option maxHeartbeats 1000000 in
theorem awake5_c (w : World) : Calls Try.prog 6 #[] w fun e w' => e = .returned (.bool true) ∧ Gr w w' := by
  have k1 : blkB 1 [ByteArray.mk #[97]] = true := by decide
  have k2 : blkB 1 [ByteArray.mk #[97, 98]] = false := by decide
  have k3 := peS_yes (c := 3) (m := 7) (by decide)
  have P1 := fun u => fput_c (lies_one u (ByteArray.mk #[97]) 9) 1 (by unfold I64; omega) (by simp) (by intro s hs; simp at hs; subst hs; decide)
  have P2 := fun u => fput_c (lies_one u (ByteArray.mk #[97, 98]) 9) 1 (by unfold I64; omega) (by simp) (by intro s hs; simp at hs; subst hs; decide)
  have P3 := fun u => fputend_c 3 (by unfold I64; omega) 7 (by omega) u
  rw [k1, blkS_yes k1] at P1
  rw [k2, blkS_no k2] at P2
  rw [k3, show peB 3 = true by decide] at P3
  have z1 : (cl (blk [ByteArray.mk #[97]])).size = 6 := by rw [cl_size, blk_size]; rfl
  have z3 : (cl (endS (3 : Int).toNat 7)).size = 17 := by rw [cl_size, endS_size]
  have ht : ((cl (blk [ByteArray.mk #[97]])).extract 0 2).toList = [1, 97] := by
    have e : (cl (blk [ByteArray.mk #[97]])).extract 0 2 = ByteArray.mk #[1, 97] := by
      unfold cl
      apply ByteArray.ext
      apply Array.toList_inj.1
      simp [ByteArray.data_extract, blk, cat, bs]
    rw [e, Lib.toList_data]
  have hsl := slice_to (cl (blk [ByteArray.mk #[97]])) 2 (by omega)
  generalize cl (blk [ByteArray.mk #[97]]) = b1 at P1 z1 ht hsl
  generalize cl (endS (3 : Int).toNat 7) = b3 at P3 z3
  clear k1 k2 k3
  go_enter Try.func6, Try.ntmps6
  go_wp2_with fail
  refine (P1 _).mono ?_; rintro e u1 ⟨rfl, g1⟩
  go_wp2_with fail
  refine (P2 _).mono ?_; rintro e u2 ⟨rfl, g2⟩
  go_wp2_with fail
  refine (P3 _).mono ?_; rintro e u3 ⟨rfl, g3⟩
  go_wp2_with fail
  go_ret
  exact ⟨rfl, (((Gr.trans (Below.alloc (Below.refl _ _) (Nat.le_refl _) _) g1).trans (Below.alloc (Below.refl _ _) (Nat.le_refl _) _)).trans g2).trans g3⟩
end Go.Proofs.Ytkmkhlhgnjoecaa

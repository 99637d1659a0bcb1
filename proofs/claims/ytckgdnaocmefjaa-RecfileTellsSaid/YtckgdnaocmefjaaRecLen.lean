/- Contracts of both Lengths. -/
import Derived.Test.YtckgdnaocmefjaaRecHead
namespace Go.Proofs.Ytckgdnaocmefjaa
open Go.RowKit CrcPlain OctPlain FramePlain RecPlain
set_option linter.unusedVariables false
set_option linter.unusedSimpArgs false
def lenB (size n : Int) : Bool := sizeB size && decide (0 ≤ n ∧ n ≤ 1099511627776)
def lenN (size n : Int) : Int := if lenB size n = true then 28 + 5 * ((n + 3) / 4) + n * size else 0
theorem lenN_no {size n : Int} (h : lenB size n = false) : lenN size n = 0 := by simp [lenN, h]
theorem lenN_yes {size n : Int} (h : lenB size n = true) : lenN size n = 28 + 5 * ((n + 3) / 4) + n * size := by simp [lenN, h]
theorem mul_le {a b c d : Int} (ha : 0 ≤ a) (hac : a ≤ c) (hb : 0 ≤ b) (hbd : b ≤ d) : 0 ≤ a * b ∧ a * b ≤ c * d :=
  ⟨Int.mul_nonneg ha hb, Int.mul_le_mul hac hbd hb (Int.le_trans ha hac)⟩
set_option maxHeartbeats 1000000 in
theorem length_c (k n : Int) (hk : I64 k) (hn : I64 n) (w : World) :
    Calls Try.prog 17 #[.int .i64 k, .int .i64 n] w fun e w' => e = .returned (.int .i64 (lenN k n)) ∧ w = w' := by
  have R := fun w => rsized_c k hk w
  cases hs : sizeB k
  · rw [hs] at R
    have HR := Lib.hid (lenN_no (show lenB k n = false by unfold lenB; rw [hs]; rfl))
    clear hs
    go_enter Try.func17, Try.ntmps17
    go_wp2_with fail
    refine (R _).mono ?_; rintro e u ⟨rfl, rfl⟩
    go_wp2_with fail
    go_ret
    exact ⟨ret_i HR.out.symm, rfl⟩
  · rw [hs] at R
    by_cases h : 0 ≤ n ∧ n ≤ 1099511627776
    · have hb : lenB k n = true := by unfold lenB; rw [hs, decide_eq_true h]; rfl
      have HR := Lib.hid (lenN_yes hb)
      have Q := fun w => room_c k hk w
      have hr : roomN k = 5 + 4 * k := by unfold roomN; rw [if_pos hs]
      simp only [sizeB, decide_eq_true_eq] at hs
      obtain ⟨h0, h1⟩ := h
      have hr0 : 0 ≤ roomN k ∧ roomN k ≤ 261 := by omega
      obtain ⟨r, hrr⟩ : ∃ r, r = roomN k := ⟨_, rfl⟩
      rw [← hrr] at Q hr hr0
      have HRR := Lib.hid hr
      clear hrr hr hb
      go_enter Try.func17, Try.ntmps17
      go_wp2_with fail
      refine (R _).mono ?_; rintro e u ⟨rfl, rfl⟩
      go_wp2_with fail
      refine (Q _).mono ?_; rintro e u ⟨rfl, rfl⟩
      go_wp2_with fail
      go_ret
      have hB := mul_le h0 h1 (show 0 ≤ k by omega) hs.2
      have hq : n + 4 - 1 = n + 3 := by omega
      have hq0 : 0 ≤ (n + 3) / 4 ∧ (n + 3) / 4 ≤ 274877906944 := by omega
      have hA := mul_le hq0.1 hq0.2 (show 0 ≤ k by omega) hs.2
      have hP : (n + 3) / 4 * r = 5 * ((n + 3) / 4) + 4 * ((n + 3) / 4 * k) := by
        rw [HRR.out, Int.mul_add, Int.mul_comm _ 5, ← Int.mul_assoc, Int.mul_comm _ 4, Int.mul_assoc]
      have hM : ((n + 3) / 4 * 4 - n) * k = 4 * ((n + 3) / 4 * k) - n * k := by
        rw [Int.sub_mul, Int.mul_comm ((n + 3) / 4) 4, Int.mul_assoc]
      have hout := HR.out
      refine ⟨ret_i ?_, rfl⟩
      rw [hout, hq, hP, hM]
      generalize (n + 3) / 4 * k = A at hA ⊢
      generalize n * k = B at hB ⊢
      unfold wrap64
      omega
    · have hb : lenB k n = false := by unfold lenB; rw [decide_eq_false h, Bool.and_false]
      have HR := Lib.hid (lenN_no hb)
      by_cases h0 : n < 0
      · clear h hs hb
        go_enter Try.func17, Try.ntmps17
        go_wp2_with fail
        refine (R _).mono ?_; rintro e u ⟨rfl, rfl⟩
        go_wp2_with fail
        go_ret
        exact ⟨ret_i HR.out.symm, rfl⟩
      · have h1 : 1099511627776 < n := by omega
        clear h hs hb
        go_enter Try.func17, Try.ntmps17
        go_wp2_with fail
        refine (R _).mono ?_; rintro e u ⟨rfl, rfl⟩
        go_wp2_with fail
        go_ret
        exact ⟨ret_i HR.out.symm, rfl⟩
def tailN (k m : Int) : Int := if m = 0 then 0 else 5 + m * k
set_option maxHeartbeats 1000000 in
theorem rtail6_c (k m : Int) (hk : 1 ≤ k ∧ k ≤ 64) (hm : 0 ≤ m ∧ m < 4) (w : World) :
    Calls Try.prog 39 #[.int .i64 k, .int .i64 m] w fun e w' => e = .returned (.int .i64 (tailN k m)) ∧ w = w' := by
  have HR := Lib.hid (show tailN k m = if m = 0 then 0 else 5 + m * k from rfl)
  have hB := mul_le hm.1 (show m ≤ 4 by omega) (show 0 ≤ k by omega) hk.2
  by_cases h0 : m = 0
  · have ht : (m == 0) = true := by simpa using h0
    have HZ := Lib.hid h0
    clear h0
    go_enter Try.func39, Try.ntmps39
    go_wp2_with fail
    go_ret
    exact ⟨ret_i (by rw [HR.out, if_pos HZ.out]), rfl⟩
  · have ht : (m == 0) = false := by simpa using h0
    have HZ := Lib.hid h0
    clear h0
    go_enter Try.func39, Try.ntmps39
    go_wp2_with fail
    go_ret
    refine ⟨ret_i ?_, rfl⟩
    rw [HR.out, if_neg HZ.out]
    generalize m * k = B at hB ⊢
    first | omega | (unfold wrap64; omega)
set_option maxHeartbeats 1000000 in
theorem rlength_c (k n : Int) (hk : I64 k) (hn : I64 n) (w : World) :
    Calls Try.prog 18 #[.int .i64 k, .int .i64 n] w fun e w' => e = .returned (.int .i64 (lenN k n)) ∧ w = w' := by
  cases hs : sizeB k
  · have HR := Lib.hid (lenN_no (show lenB k n = false by unfold lenB; rw [hs]; rfl))
    simp only [sizeB, decide_eq_false_iff_not] at hs
    by_cases h1 : k < 1
    · clear hs
      go_enter Try.func18, Try.ntmps18
      go_wp2_with fail
      go_ret
      exact ⟨ret_i HR.out.symm, rfl⟩
    · have h2 : 64 < k := by omega
      clear hs
      go_enter Try.func18, Try.ntmps18
      go_wp2_with fail
      go_ret
      exact ⟨ret_i HR.out.symm, rfl⟩
  · by_cases h : 0 ≤ n ∧ n ≤ 1099511627776
    · have hb : lenB k n = true := by unfold lenB; rw [hs, decide_eq_true h]; rfl
      have HR := Lib.hid (lenN_yes hb)
      have Q := fun w => rroom_c k hk w
      have hr : roomN k = 5 + 4 * k := by unfold roomN; rw [if_pos hs]
      simp only [sizeB, decide_eq_true_eq] at hs
      obtain ⟨h0, h1⟩ := h
      have hr0 : 0 ≤ roomN k ∧ roomN k ≤ 261 := by omega
      obtain ⟨r, hrr⟩ : ∃ r, r = roomN k := ⟨_, rfl⟩
      rw [← hrr] at Q hr hr0
      have HRR := Lib.hid hr
      have k1 : ¬ k < 1 := by omega
      have k2 : ¬ 64 < k := by omega
      clear hrr hr hb
      have T := fun w => rtail6_c k (n % 4) hs (by omega) w
      have ht0 : tailN k (n % 4) = if n % 4 = 0 then 0 else 5 + n % 4 * k := rfl
      have hC := mul_le (show 0 ≤ n % 4 by omega) (show n % 4 ≤ 4 by omega) (show 0 ≤ k by omega) hs.2
      obtain ⟨t, ht⟩ : ∃ t, t = tailN k (n % 4) := ⟨_, rfl⟩
      rw [← ht] at T ht0
      have ht1 : 0 ≤ t ∧ t ≤ 300 := by rw [ht0]; split <;> omega
      have HT := Lib.hid ht0
      have HC := Lib.hid hC
      clear ht ht0 hC
      go_enter Try.func18, Try.ntmps18
      go_wp2_with fail
      refine (Q _).mono ?_; rintro e u ⟨rfl, rfl⟩
      go_wp2_with fail
      refine (T _).mono ?_; rintro e u ⟨rfl, rfl⟩
      go_wp2_with fail
      go_ret
      have hB := mul_le h0 h1 (show 0 ≤ k by omega) hs.2
      have hq0 : 0 ≤ n / 4 ∧ n / 4 ≤ 274877906944 := by omega
      have hA := mul_le hq0.1 hq0.2 (show 0 ≤ k by omega) hs.2
      have hP : n / 4 * r = 5 * (n / 4) + 4 * (n / 4 * k) := by
        rw [HRR.out, Int.mul_add, Int.mul_comm _ 5, ← Int.mul_assoc, Int.mul_comm _ 4, Int.mul_assoc]
      have hM : n * k = 4 * (n / 4 * k) + n % 4 * k := by
        have : n = 4 * (n / 4) + n % 4 := by omega
        have h2 := congrArg (· * k) this
        simp only [Int.add_mul, Int.mul_assoc] at h2
        exact h2
      have hout := HR.out
      have htt := HT.out
      have hC := HC.out
      refine ⟨ret_i ?_, rfl⟩
      rw [hout, hP, hM]
      rw [hM] at hB
      have hC0 : n % 4 = 0 → n % 4 * k = 0 := fun h => by rw [h, Int.zero_mul]
      generalize n / 4 * k = A at hA hB ⊢
      generalize n % 4 * k = C at htt hC hB hC0 ⊢
      unfold wrap64
      split at htt <;> omega
    · have hb : lenB k n = false := by unfold lenB; rw [decide_eq_false h, Bool.and_false]
      have HR := Lib.hid (lenN_no hb)
      simp only [sizeB, decide_eq_true_eq] at hs
      have k1 : ¬ k < 1 := by omega
      have k2 : ¬ 64 < k := by omega
      by_cases h0 : n < 0
      · clear h hs hb
        go_enter Try.func18, Try.ntmps18
        go_wp2_with fail
        go_ret
        exact ⟨ret_i HR.out.symm, rfl⟩
      · have h1 : 1099511627776 < n := by omega
        clear h hs hb
        go_enter Try.func18, Try.ntmps18
        go_wp2_with fail
        go_ret
        exact ⟨ret_i HR.out.symm, rfl⟩
end Go.Proofs.Ytckgdnaocmefjaa

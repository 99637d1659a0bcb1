/- The contract of the document's Get. -/
import Derived.Test.YtckgdnaocmefjaaFramePlain2
import Derived.Test.YtckgdnaocmefjaaFrameGet
namespace Go.Proofs.Ytckgdnaocmefjaa
open Go.RowKit CrcPlain OctPlain FramePlain
set_option linter.unusedVariables false
set_option linter.unusedSimpArgs false
theorem index_0 (s : ByteArray) (h : 0 < s.size) (w : World) :
    (Instr.index 9 (.string s) (.int .i64 0)).run Try.prog w = .ok (.int .u8 (cntN s : Int)) w := by
  rw [run_index_string w 9 s .i64 0 Try.underlying9]
  have e := cntN_at s h
  simp [h, ← e]
theorem rfget_none (s : ByteArray) (size : Int) (hk : I64 size) (w : World) (hs : s.size ≤ 1000) (h : sizeB size = false ∨ ¬ (1 ≤ cntN s ∧ cntN s ≤ 4)) :
    Calls Try.prog 33 #[.int .i64 size, .string s] w (FGot size s w) := by
  have hno : gB size s = false := by
    unfold gB
    rcases h with h | h
    · rw [h]; rfl
    · rw [decide_eq_false h, Bool.and_false, Bool.false_and, Bool.false_and]
  have HP := Lib.hid hno
  clear hno
  unfold I64 at hk
  by_cases h1 : size < 1
  · clear h
    go_enter Try.func33, Try.ntmps33
    go_wp2_with fail
    go_ret3
    exact fgot_no HP.out (Gr.refl _)
  · by_cases h2 : 64 < size
    · clear h
      go_enter Try.func33, Try.ntmps33
      go_wp2_with fail
      go_ret3
      exact fgot_no HP.out (Gr.refl _)
    · have h' : ¬ (1 ≤ cntN s ∧ cntN s ≤ 4) := by
        rcases h with h | h
        · unfold sizeB at h; rw [decide_eq_false_iff_not] at h; omega
        · exact h
      clear h
      by_cases h3 : s.size = 0
      · have h3' : (s.size : Int) < 1 := by omega
        clear h'
        go_enter Try.func33, Try.ntmps33
        go_wp2_with fail
        go_ret3
        exact fgot_no HP.out (Gr.refl _)
      · have h3' : ¬ (s.size : Int) < 1 := by omega
        have X := index_0 s (by omega)
        generalize cntN s = c at X h'
        by_cases h4 : (c : Int) < 1
        · clear h' h3
          go_enter Try.func33, Try.ntmps33
          go_wp2_with fail
          go_ret3
          exact fgot_no HP.out (Gr.refl _)
        · have h5 : (4 : Int) < c := by omega
          clear h' h3
          go_enter Try.func33, Try.ntmps33
          go_wp2_with fail
          go_ret3
          exact fgot_no HP.out (Gr.refl _)

set_option maxHeartbeats 1000000 in
theorem rfget_some (s : ByteArray) (size : Int) (hk : I64 size) (w : World) (hs : s.size ≤ 1000) (h1 : sizeB size = true) (h2 : 1 ≤ cntN s ∧ cntN s ≤ 4) :
    Calls Try.prog 33 #[.int .i64 size, .string s] w (FGot size s w) := by
  have h1' := h1
  simp only [sizeB, decide_eq_true_eq] at h1'
  obtain ⟨n, hn, hn6, hn261⟩ := gLen_nat h1' h2
  obtain ⟨k, rfl⟩ : ∃ k, n = 1 + k + 4 := ⟨n - 5, by omega⟩
  have hgB : gB size s = (decide (((1 + k + 4 : Nat) : Int) ≤ s.size) && opB (s.extract 0 (1 + k + 4))) := by
    unfold gB
    rw [h1, hn, decide_eq_true h2, Int.toNat_natCast]
    rfl
  have hpos : 0 < s.size := by
    rcases Nat.eq_zero_or_pos s.size with h | h
    · rw [cntN_none s h] at h2; omega
    · exact h
  have X := index_0 s hpos
  have hp1 : ¬ (s.size : Int) < 1 := by omega
  have e5 : 5 + (cntN s : Int) * size = ((1 + k + 4 : Nat) : Int) := hn
  have hm2 : (cntN s : Int) * size = (k : Int) := by omega
  have c1 : ¬ (cntN s : Int) < 1 := by omega
  have c2 : ¬ (4 : Int) < (cntN s : Int) := by omega
  have z1 : ¬ size < 1 := by omega
  have z2 : ¬ (64 : Int) < size := by omega
  by_cases hlen : (s.size : Int) < 1 + k + 4
  · have hno : gB size s = false := by rw [hgB]; rw [decide_eq_false (by omega)]; rfl
    have HP := Lib.hid hno
    generalize cntN s = c at X h2 hm2 c1 c2
    clear hno hgB hn e5 h1' h1 h2
    go_enter Try.func33, Try.ntmps33
    go_wp2_with fail
    go_ret3
    exact fgot_no HP.out (Gr.refl _)
  · have hle : 1 + k + 4 ≤ s.size := by omega
    have hxs : (s.extract 0 (1 + k + 4)).size = 1 + k + 4 := by rw [ByteArray.size_extract]; omega
    have hsl := slice_to s (1 + k + 4) hle
    have O := fun w => ropen_c (s.extract 0 (1 + k + 4)) (by omega) w
    cases hop : opB (s.extract 0 (1 + k + 4))
    · have hno : gB size s = false := by rw [hgB, hop, Bool.and_false]
      have HP := Lib.hid hno
      rw [hop, opS_no hop] at O
      generalize cntN s = c at X h2 hm2 c1 c2
      clear hno hgB hn e5 h1' h1 h2 hop hxs
      go_enter Try.func33, Try.ntmps33
      go_wp2_with fail
      refine (O _).mono ?_; rintro e u2 ⟨rfl, g2⟩
      go_wp2_with fail
      go_ret3
      exact fgot_no HP.out g2
    · have hyes : gB size s = true := by rw [hgB, hop, decide_eq_true (by omega)]; rfl
      have hN := gN_yes hyes
      rw [hn] at hN
      have hN' : gN size s = 1 + (k : Int) + 4 := by rw [hN]; omega
      have hbody : gBody size s = (opS (s.extract 0 (1 + k + 4))).extract 1 (opS (s.extract 0 (1 + k + 4))).size := by unfold gBody; rw [hn, Int.toNat_natCast]
      have hos : (opS (s.extract 0 (1 + k + 4))).size = 1 + k := by rw [opS_yes hop, ahead_size _ (by omega), hxs]; omega
      rw [hop] at O
      generalize opS (s.extract 0 (1 + k + 4)) = t at O hbody hos
      have hbz : (gBody size s).size ≤ 1000 := by rw [hbody, ByteArray.size_extract]; omega
      have C := fun w => rsplit_c (gBody size s) size hk w hbz
      rw [hbody] at C
      have hs1 := slice_1 t (by omega)
      have HP := Lib.hid hyes
      have HN := Lib.hid hN'
      have HB := Lib.hid hbody
      generalize cntN s = c at X h2 hm2 c1 c2
      clear hyes hgB hn e5 h1' h1 h2 hop hN hN' hbody hos hbz hxs
      go_enter Try.func33, Try.ntmps33
      go_wp2_with fail
      refine (O _).mono ?_; rintro e u2 ⟨rfl, g2⟩
      go_wp2_with fail
      refine (C _).mono ?_; rintro e u4 ⟨v, rfl, o, g4⟩
      have OO := Lib.hid o
      clear o
      go_wp2_with fail
      go_ret3
      have ow := OO.out
      rw [← HB.out] at ow
      exact fgot_yes HP.out HN.out ⟨_, g2.size, ow⟩ (g2.trans g4)
theorem rfget_c (s : ByteArray) (size : Int) (hk : I64 size) (w : World) (hs : s.size ≤ 1000) :
    Calls Try.prog 33 #[.int .i64 size, .string s] w (FGot size s w) := by
  by_cases h : sizeB size = true ∧ 1 ≤ cntN s ∧ cntN s ≤ 4
  · exact rfget_some s size hk w hs h.1 h.2
  · refine rfget_none s size hk w hs ?_
    cases hb : sizeB size
    · exact .inl rfl
    · exact .inr fun hc => h ⟨hb, hc⟩
end Go.Proofs.Ytckgdnaocmefjaa

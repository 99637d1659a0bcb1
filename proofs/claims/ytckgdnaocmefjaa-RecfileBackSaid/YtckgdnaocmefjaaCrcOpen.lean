/- The contracts of Open and of the document's own Open: by walks of their texts. -/
import Derived.Test.YtckgdnaocmefjaaCrcClose
import Derived.Test.YtckgdnaocmefjaaClone
import Derived.Deep.RegionLaw
import Derived.RegionTactic
import Derived.BigRegion
import Derived.Deep.QuietTactic
import Derived.BigQuiet
import Derived.Lib.Strings
import Derived.Deep.RegionHeld3
namespace Go.Proofs.Ytckgdnaocmefjaa
open Go.RowKit CrcPlain
set_option linter.unusedVariables false
set_option linter.unusedSimpArgs false
def ahead (s : ByteArray) : ByteArray := s.extract 0 (s.size - 4)
/-- Is what stands behind the sum of what stands ahead? -/
def opB (s : ByteArray) : Bool := decide (4 ≤ s.size ∧ s.extract (s.size - 4) s.size = bs (tl (more 0 (ahead s).data.toList)))
def opS (s : ByteArray) : ByteArray := if opB s = true then ahead s else ⟨#[]⟩
theorem opS_no {s : ByteArray} (h : opB s = false) : opS s = ⟨#[]⟩ := by simp [opS, h]
theorem opS_yes {s : ByteArray} (h : opB s = true) : opS s = ahead s := by simp [opS, h]
theorem eq_list {a b : ByteArray} : (a.toList == b.toList) = decide (a = b) := by
  apply Bool.eq_iff_iff.2
  simp only [beq_iff_eq, decide_eq_true_iff]
  constructor
  · intro h
    rw [Lib.toList_data, Lib.toList_data] at h
    apply ByteArray.ext; exact Array.toList_inj.1 h
  · intro h; rw [h]
theorem ahead_size (s : ByteArray) (h : 4 ≤ s.size) : (ahead s).size = s.size - 4 := by unfold ahead; rw [ByteArray.size_extract]; omega
set_option maxHeartbeats 1000000 in
theorem open_no (s : ByteArray) (h4 : s.size < 4) (w : World) :
    Calls Try.prog 53 #[.string s] w fun e w' => e = .returned (.tuple #[.string (opS s), .bool (opB s)]) ∧ Gr w w' := by
  have hb : opB s = false := by unfold opB; rw [decide_eq_false_iff_not]; omega
  have hs := opS_no hb
  have g1 : decide ((s.size : Int) - 4 < 0) = true := by rw [decide_eq_true_iff]; omega
  have g2 : decide ((s.size : Int) < 4) = true := by rw [decide_eq_true_iff]; omega
  go_enter Try.func53, Try.ntmps53
  go_wp2_with fail
  go_quiet (fail)
  go_wp2_with fail
  go_ret2
  exact ⟨ret_sb hs.symm hb.symm, grN w nq⟩
set_option maxHeartbeats 1000000 in
theorem open_any (s : ByteArray) (h4 : 4 ≤ s.size) (hz : s.size ≤ 1000) (w : World) :
    Calls Try.prog 53 #[.string s] w fun e w' => e = .returned (.tuple #[.string (opS s), .bool (opB s)]) ∧ Gr w w' := by
  have hlen := ahead_size s h4
  have hn := more_lt (sum := 0) (by decide) (ahead s).data.toList
  have C := fun w => of_c (ahead s) (by omega) w
  unfold ahead at C hn
  obtain ⟨k, hk⟩ : ∃ k, k = s.size - 4 := ⟨_, rfl⟩
  have e1 : (s.size : Int) - 4 = (k : Int) := by omega
  have e2 : k ≤ s.size := by omega
  have e3 : decide ((k : Int) < 0) = false := by rw [decide_eq_false_iff_not]; omega
  rw [← hk] at C hn
  obtain ⟨n, hn0⟩ : ∃ n, n = more 0 (s.extract 0 k).data.toList := ⟨_, rfl⟩
  rw [← hn0] at C hn
  have HN := Lib.hid hn0
  clear hn0
  have hs4 : (s.extract 0 k).size ≤ 1000 := by rw [ByteArray.size_extract]; omega
  cases hb : opB s
  · have hs := opS_no hb
    unfold opB ahead at hb
    rw [← hk, ← HN.out] at hb
    have ht : ((s.extract k s.size).toList == (bs (tl n)).toList) = false := by
      rw [eq_list, decide_eq_false_iff_not]; rw [decide_eq_false_iff_not] at hb; intro h; exact hb ⟨h4, h⟩
    have HS := Lib.hid hs
    have HL := Lib.hid hlen
    clear hb hs hlen hk
    go_enter Try.func53, Try.ntmps53
    go_wp2_with fail
    go_region_held3 (fun w' => True) (trivial) ((first | (go_at_call 58; ((with_reducible refine (C _).mono ?_); rintro e u ⟨rfl, g⟩)) | (go_at_call 57; ((with_reducible refine (tail_c _ hn _).mono ?_); rintro e u2 ⟨rfl, g2⟩))))
    go_wp2_with fail
    go_ret2
    exact ⟨ret_sb HS.out.symm rfl, (Gr.ofDrew g).trans g2⟩
  · have hs := opS_yes hb
    unfold opB ahead at hb
    unfold ahead at hs
    rw [← hk] at hs
    rw [← hk, ← HN.out] at hb
    have ht : ((s.extract k s.size).toList == (bs (tl n)).toList) = true := by
      rw [eq_list, decide_eq_true_iff]; rw [decide_eq_true_iff] at hb; exact hb.2
    have HS := Lib.hid hs
    have HL := Lib.hid hlen
    clear hb hs hlen hk
    go_enter Try.func53, Try.ntmps53
    go_wp2_with fail
    go_region_held3 (fun w' => True) (trivial) ((first | (go_at_call 58; ((with_reducible refine (C _).mono ?_); rintro e u ⟨rfl, g⟩)) | (go_at_call 57; ((with_reducible refine (tail_c _ hn _).mono ?_); rintro e u2 ⟨rfl, g2⟩))))
    go_wp2_with fail
    refine (clone_c _ _ hs4).mono ?_; rintro e u3 ⟨rfl, g3⟩
    go_wp2_with fail
    go_ret2
    exact ⟨ret_sb HS.out.symm rfl, ((Gr.ofDrew g).trans g2).trans g3⟩
theorem open_c (s : ByteArray) (hz : s.size ≤ 1000) (w : World) :
    Calls Try.prog 53 #[.string s] w fun e w' => e = .returned (.tuple #[.string (opS s), .bool (opB s)]) ∧ Gr w w' := by
  by_cases h : s.size < 4
  · exact open_no s h w
  · exact open_any s (by omega) hz w
theorem parts (s : ByteArray) (k : Nat) (h : k ≤ s.size) : s.extract 0 k ++ s.extract k s.size = s := by
  apply ByteArray.ext
  apply Array.toList_inj.1
  simp [ByteArray.data_append]
theorem cl_is (s : ByteArray) (h4 : 4 ≤ s.size) : (cl (ahead s) = s) ↔ opB s = true := by
  have hp := parts s (s.size - 4) (by omega)
  unfold opB cl
  rw [decide_eq_true_iff]
  have ha : ahead s = s.extract 0 (s.size - 4) := rfl
  constructor
  · intro h
    refine ⟨h4, ?_⟩
    have h2 : ahead s ++ bs (tl (more 0 (ahead s).data.toList)) = ahead s ++ s.extract (s.size - 4) s.size := by rw [h, ha, hp]
    have h3 := congrArg (fun x => x.data.toList) h2
    simp only [ByteArray.data_append, Array.toList_append] at h3
    apply ByteArray.ext
    exact (Array.toList_inj.1 (List.append_cancel_left h3)).symm
  · intro h
    rw [← h.2, ha]; exact hp
set_option maxHeartbeats 1000000 in
theorem ropen_c (s : ByteArray) (hz : s.size ≤ 1000) (w : World) :
    Calls Try.prog 55 #[.string s] w fun e w' => e = .returned (.tuple #[.string (opS s), .bool (opB s)]) ∧ Gr w w' := by
  by_cases h4 : s.size < 4
  · have hb : opB s = false := by unfold opB; rw [decide_eq_false_iff_not]; omega
    have hs := opS_no hb
    have HB := Lib.hid hb
    have HS := Lib.hid hs
    clear hb hs
    go_enter Try.func55, Try.ntmps55
    go_wp2_with fail
    go_ret2
    exact ⟨ret_sb HS.out.symm HB.out.symm, Gr.refl _⟩
  · have hc := cl_is s (by omega)
    have C := fun w => rclose_c (ahead s) (by rw [ahead_size s (by omega)]; omega) w
    obtain ⟨k, hk⟩ : ∃ k, k = s.size - 4 := ⟨_, rfl⟩
    have e1 : (s.size : Int) - 4 = (k : Int) := by omega
    have e2 : k ≤ s.size := by omega
    unfold ahead at C
    rw [← hk] at C
    have ht : ((cl (s.extract 0 k)).toList == s.toList) = opB s := by
      rw [eq_list]
      unfold ahead at hc
      rw [← hk] at hc
      cases hb : opB s
      · rw [decide_eq_false_iff_not]; rw [hb] at hc; intro h; exact absurd (hc.1 h) (by decide)
      · rw [decide_eq_true_iff]; exact hc.2 hb
    clear hc
    cases hb : opB s
    · have hs := opS_no hb
      rw [hb] at ht
      have HS := Lib.hid hs
      clear hb hs hk
      go_enter Try.func55, Try.ntmps55
      go_wp2_with fail
      refine (C _).mono ?_; rintro e u ⟨rfl, g⟩
      go_wp2_with fail
      go_ret2
      exact ⟨ret_sb HS.out.symm rfl, g⟩
    · have hs := opS_yes hb
      unfold ahead at hs
      rw [← hk] at hs
      rw [hb] at ht
      have HS := Lib.hid hs
      clear hb hs hk
      go_enter Try.func55, Try.ntmps55
      go_wp2_with fail
      refine (C _).mono ?_; rintro e u ⟨rfl, g⟩
      go_wp2_with fail
      go_ret2
      exact ⟨ret_sb HS.out.symm rfl, g⟩
end Go.Proofs.Ytckgdnaocmefjaa

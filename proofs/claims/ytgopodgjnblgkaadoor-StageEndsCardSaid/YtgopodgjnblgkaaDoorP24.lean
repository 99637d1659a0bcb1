/- In one text: FsRight, RfsRight, MnRef3. -/
import Derived.Test.YtgopodgjnblgkaaDoorP23
/- The contract of Right: is it a name? By a walk of its loop. -/
namespace Go.Proofs.YtgopodgjnblgkaaDoor
open Go.RowKit FsPlain
set_option linter.unusedVariables false
set_option linter.unusedSimpArgs false
set_option maxRecDepth 20000

theorem ret_fb {a b : Bool} (h : a = b) : Ending.returned (.bool a) = .returned (.bool b) := by rw [h]
theorem all_take (l : List UInt8) (k : Nat) (h : k < l.length) : (l.take (k + 1)).all letterB = ((l.take k).all letterB && letterB l[k]) := by
  rw [List.take_succ_eq_append_getElem h, List.all_append]; simp
theorem all_no (l : List UInt8) (k : Nat) (h : k < l.length) (hl : letterB l[k] = false) : l.all letterB = false := by
  rw [List.all_eq_false]; exact ⟨l[k], List.getElem_mem h, by simp [hl]⟩
theorem right_len (l : List UInt8) (h : l.all letterB = true) : rightB l = decide (1 ≤ l.length ∧ l.length ≤ 24) := by unfold rightB; rw [h]; rfl
theorem right_no (l : List UInt8) (h : l.all letterB = false) : rightB l = false := by unfold rightB; rw [h]; rfl

set_option maxRecDepth 20000 in
set_option maxHeartbeats 1000000 in
theorem right_c (s : ByteArray) (hs : s.size ≤ maxLen) (w : World) :
    Calls Tryd.prog 22 #[.string s] w fun e w' => e = .returned (.bool (rightB s.data.toList)) ∧ w = w' := by
  have hsz : s.data.toList.length = s.size := rfl
  unfold maxLen at hs
  obtain ⟨r, hr⟩ : ∃ r, r = rightB s.data.toList := ⟨_, rfl⟩
  rw [← hr]
  have HR := Lib.hid hr
  have HSZ := Lib.hid hsz
  clear hr hsz
  go_enter Tryd.func22, Tryd.ntmps22
  go_wp2_with fail
  go_loop [6] (fun i => ∃ k : Nat, k ≤ s.size ∧ i = .int .i64 k ∧ (s.data.toList.take k).all letterB = true) (fun i => s.size - (intOf i).toNat)
  case atStart => exact ⟨0, Nat.zero_le _, rfl, rfl⟩
  case round =>
    obtain ⟨k, hk, rfl, hall⟩ := hrel
    have HALL := Lib.hid hall
    clear hall
    by_cases hlt : k < s.size
    · have hlt' : k < s.data.toList.length := by rw [HSZ.out]; exact hlt
      have hstep := all_take _ k hlt'
      have hno := all_no _ k hlt'
      have hsame : s.data.toList[k] = s[k] := by simp; rfl
      rw [hsame] at hstep hno
      rw [HALL.out] at hstep
      have C := fun w => letter_c s[k] w
      cases hl : letterB s[k]
      · rw [hl] at C
        have hrf := right_no _ (hno hl)
        rw [← HR.out] at hrf
        have HL := Lib.hid hl
        clear hl hstep hno hsame
        subst hrf
        go_wp2_with fail
        refine (C _).mono ?_; rintro e w2 ⟨rfl, rfl⟩
        go_wp2_with fail
        go_ret
        exact ⟨rfl, rfl⟩
      · rw [hl] at C hstep
        have HST := Lib.hid hstep
        clear hl hstep hno hsame
        go_wp2_with fail
        refine (C _).mono ?_; rintro e w2 ⟨rfl, rfl⟩
        go_wp2_with fail
        go_round
        case rel => exact ⟨k + 1, by omega, by go_num, HST.out⟩
        case measure => simp [intOf]; omega
    · have hke : k = s.size := by omega
      have hr2 := right_len s.data.toList (by have := HALL.out; rw [hke, ← HSZ.out, List.take_length] at this; exact this)
      rw [← HR.out, HSZ.out] at hr2
      have HR2 := Lib.hid hr2
      clear hr2 hke
      by_cases h1 : 1 ≤ s.size <;> by_cases h2 : s.size ≤ 24
      all_goals
        go_wp2_with fail
        all_goals
          go_ret
          exact ⟨ret_fb (by rw [HR2.out]; first | (rw [decide_eq_decide]; omega) | (rw [eq_comm, decide_eq_false_iff_not]; omega) | (rw [eq_comm, decide_eq_true_iff]; omega)), rfl⟩
end Go.Proofs.YtgopodgjnblgkaaDoor
/- The document's disk: is it a name? By a walk of its loop. -/
namespace Go.Proofs.YtgopodgjnblgkaaDoor
open Go.RowKit FsPlain
set_option linter.unusedVariables false
set_option linter.unusedSimpArgs false
set_option maxRecDepth 20000
end Go.Proofs.YtgopodgjnblgkaaDoor
/- The document's answers of layer 19: Right. -/
namespace Go.Proofs.YtgopodgjnblgkaaDoor
open Go.RowKit FsPlain MnPlain
set_option linter.unusedVariables false
set_option linter.unusedSimpArgs false
set_option maxRecDepth 20000
theorem flB_eq (f : Fl) : flB f = (rightB f.name.data.toList && decide (1 ≤ f.size) && decide (f.size ≤ 64) && decide (0 ≤ f.count) && decide (f.count ≤ 4611686018427387904)) := by
  unfold flB
  cases rightB f.name.data.toList <;> simp [Bool.and_assoc, and_assoc]
/-- At the head of a file. -/
def RmAt19 (l : List Fl) (w0 w1 : World) (v : Value) (wr : World) : Prop := ∃ i : Nat, i ≤ l.length ∧ v = .int .i64 (i : Int) ∧ newB [] l = newB (l.take i) (l.drop i) ∧ Gr w1 wr
/-- While it is held against those ahead of it. -/
def RuAt (l : List Fl) (i : Nat) (w2 : World) (v : Value) (wr : World) : Prop := ∃ k : Nat, k ≤ i ∧ v = .int .i64 (k : Int) ∧ (∀ j (hj : j < l.length), j < k → ∀ hi : i < l.length, l[j].name ≠ l[i].name) ∧ Gr w2 wr
end Go.Proofs.YtgopodgjnblgkaaDoor

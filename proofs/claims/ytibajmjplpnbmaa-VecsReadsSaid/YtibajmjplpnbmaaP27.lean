/- In one text: DsNum. -/
import Derived.Test.YtibajmjplpnbmaaP26
import Derived.Test.YtibajmjplpnbmaaP02
/- Contracts of what says which numbers may be, of Place on both sides, and of a number's bytes. -/
namespace Go.Proofs.Ytibajmjplpnbmaa
open Go.RowKit OctPlain DsPlain
set_option linter.unusedVariables false
set_option linter.unusedSimpArgs false
set_option maxRecDepth 20000
theorem retb10 {a b : Bool} (h : a = b) : Ending.returned (.bool a) = .returned (.bool b) := by rw [h]
theorem dfits_c (x : Int) (hx : I64 x) (w : World) :
    Calls Try.prog 64 #[.int .i64 x] w fun e w' => e = .returned (.bool (fitI x)) ∧ w = w' := by
  unfold fitI
  by_cases h1 : -16777215 ≤ x <;> by_cases h2 : x ≤ 16777215
  all_goals
    go_enter Try.func64, Try.ntmps64
    go_wp2
    go_ret
    exact ⟨by simp [h1, h2], rfl⟩
theorem counted_c (x : Int) (hx : I64 x) (w : World) :
    Calls Try.prog 56 #[.int .i64 x] w fun e w' => e = .returned (.bool (nB x)) ∧ w = w' := by
  unfold nB
  by_cases h1 : 1 ≤ x <;> by_cases h2 : x ≤ 1048576
  all_goals
    go_enter Try.func56, Try.ntmps56
    go_wp2
    go_ret
    exact ⟨by simp [h1, h2], rfl⟩
theorem dsized_c (x : Int) (hx : I64 x) (w : World) :
    Calls Try.prog 57 #[.int .i64 x] w fun e w' => e = .returned (.bool (dB x)) ∧ w = w' := by
  unfold dB
  by_cases h1 : 1 ≤ x <;> by_cases h2 : x ≤ 4096
  all_goals
    go_enter Try.func57, Try.ntmps57
    go_wp2
    go_ret
    exact ⟨by simp [h1, h2], rfl⟩
theorem mul_bound {d i : Int} (hd : 1 ≤ d ∧ d ≤ 4096) (hi : 0 ≤ i ∧ i ≤ 1048576) : 0 ≤ i * d ∧ i * d ≤ 4294967296 := by
  constructor
  · exact Int.mul_nonneg hi.1 (by omega)
  · have h1 : i * d ≤ 1048576 * d := Int.mul_le_mul_of_nonneg_right hi.2 (by omega)
    omega
theorem plN_no {d i : Int} (h : ¬ (dB d = true ∧ 0 ≤ i ∧ i ≤ 1048576)) : plN d i = 0 := by unfold plN; rw [if_neg h]
theorem plN_yes {d i : Int} (h : dB d = true ∧ 0 ≤ i ∧ i ≤ 1048576) : plN d i = 10 + 4 * d * i := by unfold plN; rw [if_pos h]
theorem place10_c (d i : Int) (hd : I64 d) (hi : I64 i) (w : World) :
    Calls Try.prog 58 #[.int .i64 d, .int .i64 i] w fun e w' => e = .returned (.int .i64 (plN d i)) ∧ w = w' := by
  have D := fun w => dsized_c d hd w
  cases hb : dB d
  · have HP := Lib.hid (plN_no (d := d) (i := i) (fun h => by rw [hb] at h; cases h.1))
    rw [hb] at D
    clear hb
    go_enter Try.func58, Try.ntmps58
    go_wp2_with fail
    refine (D _).mono ?_; rintro e u ⟨rfl, rfl⟩
    go_wp2_with fail
    go_ret
    exact ⟨ret_i HP.out.symm, rfl⟩
  · rw [hb] at D
    by_cases h1 : i < 0
    · have HP := Lib.hid (plN_no (d := d) (i := i) (fun h => by omega))
      clear hb
      go_enter Try.func58, Try.ntmps58
      go_wp2_with fail
      refine (D _).mono ?_; rintro e u ⟨rfl, rfl⟩
      go_wp2_with fail
      go_ret
      exact ⟨ret_i HP.out.symm, rfl⟩
    · by_cases h2 : 1048576 < i
      · have HP := Lib.hid (plN_no (d := d) (i := i) (fun h => by omega))
        clear hb
        go_enter Try.func58, Try.ntmps58
        go_wp2_with fail
        refine (D _).mono ?_; rintro e u ⟨rfl, rfl⟩
        go_wp2_with fail
        go_ret
        exact ⟨ret_i HP.out.symm, rfl⟩
      · have hdd : 1 ≤ d ∧ d ≤ 4096 := by unfold dB at hb; rw [decide_eq_true_iff] at hb; exact hb
        obtain ⟨m, hm⟩ : ∃ m, m = i * d := ⟨_, rfl⟩
        have hm2 := mul_bound hdd (i := i) (by omega)
        rw [← hm] at hm2
        have HP := Lib.hid (show plN d i = 10 + m * 4 by
          rw [plN_yes ⟨hb, by omega, by omega⟩, hm, Int.mul_assoc, Int.mul_comm d i, Int.mul_comm 4])
        have e1 : i * d = m := hm.symm
        clear hb hm
        go_enter Try.func58, Try.ntmps58
        go_wp2_with fail
        refine (D _).mono ?_; rintro e u ⟨rfl, rfl⟩
        go_wp2_with fail
        go_ret
        exact ⟨ret_i HP.out.symm, rfl⟩
def numN (p : ByteArray) : Int := if fitI (gcN p 0) = true then gcN p 0 else 0
theorem pl_nat {d i : Nat} (hd : 1 ≤ d ∧ d ≤ 4096) (hi : i ≤ 1048576) : plN (d : Int) (i : Int) = ((10 + i * (d * 4) : Nat) : Int) := by
  rw [plN_yes ⟨by unfold dB; rw [decide_eq_true_iff]; omega, by omega, by omega⟩, Int.natCast_add, Int.natCast_mul, Int.natCast_mul, Int.mul_comm (i : Int), Int.mul_comm (d : Int)]
  rfl
theorem gcN_i64 {s : ByteArray} {a : Nat} (h : a + 4 ≤ s.size) : I64 (gcN s (a : Int)) := by have := gc_le s a h; unfold I64; omega
theorem number_c (p : ByteArray) (hp : p.size = 4) (w : World) :
    Calls Try.prog 60 #[.string p] w fun e w' => e = .returned (.tuple #[.int .i64 (numN p), .bool (fitI (gcN p 0))]) ∧ Gr w w' := by
  have hb : getB p 0 4 = true := getB4 (a := 0) (by omega)
  have hi : I64 (gcN p 0) := gcN_i64 (a := 0) (by omega)
  have G := fun w => gcoord_c p 0 ⟨by decide, by decide⟩ w (by omega)
  rw [hb] at G
  have F := fun w => dfits_c (gcN p 0) hi w
  cases hf : fitI (gcN p 0)
  · have HN := Lib.hid (show numN p = 0 by unfold numN; rw [hf]; rfl)
    rw [hf] at F
    generalize gcN p 0 = x at G F
    clear hf hb hi
    go_enter Try.func60, Try.ntmps60
    go_wp2_with fail
    refine (G _).mono ?_; rintro e u ⟨rfl, g⟩
    go_wp2_with fail
    refine (F _).mono ?_; rintro e u2 ⟨rfl, rfl⟩
    go_wp2_with fail
    go_ret2
    exact ⟨ret_ib HN.out.symm rfl, g⟩
  · have HN := Lib.hid (show numN p = gcN p 0 by unfold numN; rw [if_pos hf])
    rw [hf] at F
    generalize gcN p 0 = x at G F HN
    clear hf hb hi
    go_enter Try.func60, Try.ntmps60
    go_wp2_with fail
    refine (G _).mono ?_; rintro e u ⟨rfl, g⟩
    go_wp2_with fail
    refine (F _).mono ?_; rintro e u2 ⟨rfl, rfl⟩
    go_wp2_with fail
    go_ret2
    exact ⟨ret_ib HN.out.symm rfl, g⟩
end Go.Proofs.Ytibajmjplpnbmaa

/- Plain facts on what the bytes of an end say. -/
import Derived.Test.YtckgdnaocmefjaaFramePlain2
import Derived.Test.YtckgdnaocmefjaaFrameEnd
import Derived.Test.YtckgdnaocmefjaaCrcBack
namespace Go.Proofs.Ytckgdnaocmefjaa
open Go.RowKit CrcPlain OctPlain FramePlain
set_option linter.unusedVariables false
set_option linter.unusedSimpArgs false
namespace FramePlain
def eB (s : ByteArray) : Bool := decide (s.size = 17) && decide (cntN s = 0) && opB s && (getB s 1 8 && decide (getN s 1 8 ≤ 4611686018427387904))
def eC (s : ByteArray) : Int := if eB s = true then getN s 1 8 else 0
def eM (s : ByteArray) : Int := if eB s = true then getN s 9 4 else 0
theorem eC_no {s : ByteArray} (h : eB s = false) : eC s = 0 := by simp [eC, h]
theorem eM_no {s : ByteArray} (h : eB s = false) : eM s = 0 := by simp [eM, h]
theorem eC_yes {s : ByteArray} (h : eB s = true) : eC s = getN s 1 8 := by simp [eC, h]
theorem eM_yes {s : ByteArray} (h : eB s = true) : eM s = getN s 9 4 := by simp [eM, h]
theorem ahead_data (s : ByteArray) : (ahead s).data.toList = s.data.toList.take (s.size - 4) := by
  unfold ahead
  simp [ByteArray.data_extract]
theorem cutL_ahead (s : ByteArray) (a k : Nat) (h : a + k ≤ s.size - 4) : cutL (ahead s) a k = cutL s a k := by
  unfold cutL
  rw [ahead_data, List.drop_take, List.take_take, Nat.min_eq_left (by omega)]
theorem get_ahead (s : ByteArray) (a k : Nat) (h : a + k ≤ s.size - 4) (h4 : 4 ≤ s.size) : getB (ahead s) a k = getB s a k ∧ getN (ahead s) a k = getN s a k := by
  have hc := cutL_ahead s a k h
  have hz := ahead_size s h4
  have hb : getB (ahead s) a k = getB s a k := by
    unfold getB
    rw [Int.toNat_natCast, Int.toNat_natCast, hc, hz]
    apply decide_eq_decide.2
    constructor <;> intro hh <;> refine ⟨hh.1, hh.2.1, by omega, hh.2.2.2⟩
  refine ⟨hb, ?_⟩
  unfold getN
  rw [hb, Int.toNat_natCast, Int.toNat_natCast, hc]
theorem beL_num : ∀ l : List UInt8, beL l.length (num l) = l := by
  intro l
  generalize hk : l.length = k
  induction k generalizing l with
  | zero => rw [List.eq_nil_of_length_eq_zero hk]; rfl
  | succ k ih =>
    obtain ⟨a, b, rfl⟩ : ∃ a b, l = a ++ [b] := ⟨l.dropLast, l.getLast (by intro h; rw [h] at hk; simp at hk), (List.dropLast_concat_getLast _).symm⟩
    rw [List.length_append, List.length_singleton] at hk
    have hb := b.toNat_lt
    have h1 : num (a ++ [b]) / 256 = num a := by rw [num_snoc]; omega
    have h2 : num (a ++ [b]) % 256 = b.toNat := by rw [num_snoc]; omega
    rw [beL, h1, h2, ih a (by omega)]
    simp
theorem get4_lt (s : ByteArray) (h : 13 ≤ s.size) : ∃ m : Nat, m < 4294967296 ∧ getN s 9 4 = m ∧ m = num (cutL s 9 4) ∧ getB s 9 4 = true := by
  have hl := cutL_length s 9 4 (by omega)
  have hlt := num_lt (cutL s 9 4)
  rw [hl] at hlt
  have hb : getB s (9 : Nat) (4 : Nat) = true := getB_yes (by omega) (by omega) (by omega)
  exact ⟨_, hlt, getN_yes hb, rfl, hb⟩
theorem get8_yes {s : ByteArray} (h : getB s 1 8 = true) : ∃ n : Nat, getN s 1 8 = n ∧ n = num (cutL s 1 8) := ⟨_, getN_yes (p := 1) (k := 8) h, rfl⟩
/-- Ahead of its sum an end's bytes are those of its numbers. -/
theorem ahead_end (s : ByteArray) (hz : s.size = 17) (h0 : cntN s = 0) : endS (num (cutL s 1 8)) (num (cutL s 9 4)) = ahead s := by
  have l0 := cutL_length s 0 1 (by omega)
  have l1 := cutL_length s 1 8 (by omega)
  have l2 := cutL_length s 9 4 (by omega)
  have b0 := beL_num (cutL s 0 1)
  have b1 := beL_num (cutL s 1 8)
  have b2 := beL_num (cutL s 9 4)
  rw [l0] at b0; rw [l1] at b1; rw [l2] at b2
  have hd := ahead_data s
  have e0 : cutL s 0 1 = [0] := by
    rw [← b0]
    unfold cntN at h0
    rw [h0]; rfl
  have hcat : cutL s 0 1 ++ (cutL s 1 8 ++ cutL s 9 4) = s.data.toList.take 13 := by
    unfold cutL
    rw [List.drop_zero]
    have q1 : s.data.toList.take 13 = s.data.toList.take 1 ++ (s.data.toList.drop 1).take 12 := by rw [← List.take_add]
    have q2 : (s.data.toList.drop 1).take 12 = (s.data.toList.drop 1).take 8 ++ ((s.data.toList.drop 1).drop 8).take 4 := by rw [← List.take_add]
    rw [q1, q2, List.drop_drop]
  unfold endS
  rw [b1, b2]
  apply ByteArray.ext
  apply Array.toList_inj.1
  rw [hd, hz, ← hcat, e0]
  rfl
theorem get_end {c m : Nat} (hc : c < 9223372036854775808) (hm : m < 4294967296) : cntN (cl (endS c m)) = 0 ∧ getB (cl (endS c m)) 1 8 = true ∧ getN (cl (endS c m)) 1 8 = c ∧ getN (cl (endS c m)) 9 4 = m := by
  have hd : (cl (endS c m)).data.toList = 0 :: (beL 8 c ++ (beL 4 m ++ tl (more 0 (endS c m).data.toList))) := by
    unfold cl endS
    rw [bs_app]
    simp [bs]
  have hz : (cl (endS c m)).size = 17 := by rw [cl_size, endS_size]
  generalize cl (endS c m) = s at hd hz
  have l8 := beL_length 8 c
  have l4 := beL_length 4 m
  have c0 : cutL s 0 1 = [0] := by unfold cutL; rw [hd]; rfl
  have c8 : cutL s 1 8 = beL 8 c := by
    unfold cutL; rw [hd, List.drop_succ_cons, List.drop_zero, List.take_append_of_le_length (by omega), List.take_of_length_le (by omega)]
  have c4 : cutL s 9 4 = beL 4 m := by
    unfold cutL
    rw [hd, List.drop_succ_cons, List.drop_append_of_le_length (by omega), List.drop_of_length_le (by omega), List.nil_append, List.take_append_of_le_length (by omega), List.take_of_length_le (by omega)]
  have n8 : num (cutL s 1 8) = c := by rw [c8]; exact num_beL 8 c (by omega)
  have n4 : num (cutL s 9 4) = m := by rw [c4]; exact num_beL 4 m (by omega)
  have g8 : getB s (1 : Nat) (8 : Nat) = true := getB_yes (by omega) (by omega) (by omega)
  have g4 : getB s (9 : Nat) (4 : Nat) = true := getB_yes (by omega) (by omega) (by omega)
  refine ⟨by unfold cntN; rw [c0]; rfl, g8, ?_, ?_⟩
  · have := getN_yes g8; rw [n8] at this; exact this
  · have := getN_yes g4; rw [n4] at this; exact this
end FramePlain
end Go.Proofs.Ytckgdnaocmefjaa

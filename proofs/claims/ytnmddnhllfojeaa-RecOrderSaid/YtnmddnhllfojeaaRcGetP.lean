/- What bytes say of a cell, a pair, an edge, a draw; plain. -/
import Derived.Test.YtnmddnhllfojeaaRcPlain
namespace Go.Proofs.Ytnmddnhllfojeaa
open Go.RowKit OctPlain RcPlain
set_option linter.unusedVariables false
set_option linter.unusedSimpArgs false
set_option maxRecDepth 20000
namespace RcPlain
def gcellB (s : ByteArray) : Bool := decide (s.size = 12) && idB (getN s 8 4)
def gcellX (s : ByteArray) : Int := if gcellB s = true then gcN s 0 else 0
def gcellY (s : ByteArray) : Int := if gcellB s = true then gcN s 4 else 0
def gcellN (s : ByteArray) : Int := if gcellB s = true then getN s 8 4 else 0
def gpairB (s : ByteArray) : Bool := decide (s.size = 8) && pairB (getN s 0 4) (getN s 4 4)
def gpairX (s : ByteArray) : Int := if gpairB s = true then getN s 0 4 else 0
def gpairY (s : ByteArray) : Int := if gpairB s = true then getN s 4 4 else 0
def gedgeB (s : ByteArray) : Bool := decide (s.size = 17) && (getB s 4 8 && (edgeB (getN s 0 4) (getN s 4 8) (getN s 12 4) && decide (getN s 16 1 ≤ 1)))
def gedgeF (s : ByteArray) : Int := if gedgeB s = true then getN s 0 4 else 0
def gedgeD (s : ByteArray) : Int := if gedgeB s = true then getN s 4 8 else 0
def gedgeI (s : ByteArray) : Int := if gedgeB s = true then getN s 12 4 else 0
def gedgeW (s : ByteArray) : Bool := gedgeB s && decide (getN s 16 1 = 1)
def gdrawB (s : ByteArray) : Bool := decide (s.size = 17) && (getB s 5 8 && (idB (getN s 0 4) && idB (getN s 13 4)))
def gdrawO (s : ByteArray) : Int := if gdrawB s = true then getN s 0 4 else 0
def gdrawK (s : ByteArray) : Int := if gdrawB s = true then getN s 4 1 else 0
def gdrawL (s : ByteArray) : Int := if gdrawB s = true then getN s 5 8 else 0
def gdrawI (s : ByteArray) : Int := if gdrawB s = true then getN s 13 4 else 0
/-- A field of 1, 4 bytes is always there; its number. -/
theorem get_small {s : ByteArray} {a k : Nat} (hk : 1 ≤ k ∧ k ≤ 7) (h : a + k ≤ s.size) : getB s a k = true ∧ getN s a k = num (cutL s a k) ∧ num (cutL s a k) < 256 ^ k := by
  have hl := cutL_length s a k h
  have hlt := num_lt (cutL s a k)
  rw [hl] at hlt
  have h7 : (256 : Nat) ^ k ≤ 256 ^ 7 := Nat.pow_le_pow_right (by omega) hk.2
  have hb : getB s (a : Nat) (k : Nat) = true := getB_yes (by omega) h (by omega)
  exact ⟨hb, getN_yes hb, hlt⟩
theorem cut_join (s : ByteArray) (a k l : Nat) : cutL s a k ++ cutL s (a + k) l = cutL s a (k + l) := by
  unfold cutL
  rw [List.take_add, List.drop_drop]
theorem cut_all (s : ByteArray) : cutL s 0 s.size = s.data.toList := by
  unfold cutL
  rw [List.drop_zero, List.take_of_length_le (by rw [Array.length_toList]; exact Nat.le_refl _)]
theorem cut_be (s : ByteArray) (a k : Nat) (h : a + k ≤ s.size) : beL k (num (cutL s a k)) = cutL s a k := by
  have := beL_num (cutL s a k)
  rwa [cutL_length s a k h] at this
theorem bs_list (s : ByteArray) : bs s.data.toList = s := by
  unfold bs; apply ByteArray.ext; simp
/-- A pair's record is that of what it says. -/
theorem pair_back {s : ByteArray} (hz : s.size = 8) (hb : pairB (getN s 0 4) (getN s 4 4) = true) : pairS (getN s 0 4) (getN s 4 4) = s := by
  obtain ⟨_, h1, h1'⟩ := get_small (s := s) (a := 0) (k := 4) (by omega) (by omega)
  obtain ⟨_, h2, h2'⟩ := get_small (s := s) (a := 4) (k := 4) (by omega) (by omega)
  have h1 : getN s 0 4 = _ := h1
  have h2 : getN s 4 4 = _ := h2
  unfold pairS
  rw [if_pos hb, h1, h2]
  have f1 : fitsB (num (cutL s 0 4) : Nat) (4 : Nat) = true := fits_nat (by omega) (by omega) (by simpa using h1')
  have f2 : fitsB (num (cutL s 4 4) : Nat) (4 : Nat) = true := fits_nat (by omega) (by omega) (by simpa using h2')
  have e1 := put_rec f1
  have e2 := put_rec f2
  rw [show putS (num (cutL s 0 4) : Nat) 4 = putS (num (cutL s 0 4) : Nat) (4 : Nat) from rfl, show putS (num (cutL s 4 4) : Nat) 4 = putS (num (cutL s 4 4) : Nat) (4 : Nat) from rfl, e1, e2, bs_app]
  simp only [recL, List.append_nil, Int.toNat_natCast]
  rw [cut_be s 0 4 (by omega), cut_be s 4 4 (by omega), cut_join s 0 4 4, show 4 + 4 = s.size by omega, cut_all, bs_list]
theorem cut_one {s : ByteArray} {a : Nat} {b : UInt8} (h : s.data.toList[a]? = some b) : cutL s a 1 = [b] := by
  unfold cutL
  obtain ⟨h1, rfl⟩ := List.getElem?_eq_some_iff.1 h
  rw [List.drop_eq_getElem_cons h1]; rfl
theorem num_one (b : UInt8) : num [b] = b.toNat := by simp [num]
/-- An edge's record is that of what it says, but for its last byte. -/
theorem edge_back {s : ByteArray} (hz : s.size = 17) (h8 : getB s 4 8 = true) (hb : edgeB (getN s 0 4) (getN s 4 8) (getN s 12 4) = true) (nw : Bool) :
    edgeS (getN s 0 4) (getN s 4 8) (getN s 12 4) nw = bs (cutL s 0 16 ++ beL 1 (newN nw).toNat) := by
  obtain ⟨_, h1, h1'⟩ := get_small (s := s) (a := 0) (k := 4) (by omega) (by omega)
  obtain ⟨_, h3, h3'⟩ := get_small (s := s) (a := 12) (k := 4) (by omega) (by omega)
  have h2 : getN s 4 8 = num (cutL s 4 8) := getN_yes (p := 4) (k := 8) h8
  have h1 : getN s 0 4 = _ := h1
  have h3 : getN s 12 4 = _ := h3
  have h2' : num (cutL s 4 8) < 256 ^ 8 := by
    have := num_lt (cutL s 4 8)
    rwa [cutL_length s 4 8 (by omega)] at this
  have h8' : num (cutL s 4 8) < 9223372036854775808 := by
    unfold getB at h8
    rw [decide_eq_true_iff] at h8
    exact h8.2.2.2
  unfold edgeS
  rw [if_pos hb, h1, h2, h3]
  have f1 : fitsB (num (cutL s 0 4) : Nat) (4 : Nat) = true := fits_nat (by omega) (by omega) (by simpa using h1')
  have f2 : fitsB (num (cutL s 4 8) : Nat) (8 : Nat) = true := fits_nat (by omega) (by omega) (by simpa using h2')
  have f3 : fitsB (num (cutL s 12 4) : Nat) (4 : Nat) = true := fits_nat (by omega) (by omega) (by simpa using h3')
  have f4 : fitsB (newN nw) (1 : Nat) = true := fits_nat (by omega) (by cases nw <;> decide) (by cases nw <;> decide)
  have e1 := put_rec f1
  have e2 := put_rec f2
  have e3 := put_rec f3
  have e4 := put_rec f4
  rw [show putS (num (cutL s 0 4) : Nat) 4 = putS (num (cutL s 0 4) : Nat) (4 : Nat) from rfl, show putS (num (cutL s 4 8) : Nat) 8 = putS (num (cutL s 4 8) : Nat) (8 : Nat) from rfl,
    show putS (num (cutL s 12 4) : Nat) 4 = putS (num (cutL s 12 4) : Nat) (4 : Nat) from rfl, show putS (newN nw) 1 = putS (newN nw) (1 : Nat) from rfl, e1, e2, e3, e4, bs_app, bs_app, bs_app]
  simp only [recL, List.append_nil, Int.toNat_natCast]
  rw [cut_be s 0 4 (by omega), cut_be s 4 8 (by omega), cut_be s 12 4 (by omega), cut_join s 0 4 8, cut_join s 0 12 4]
theorem edge_last {s : ByteArray} (hz : s.size = 17) : s = bs (cutL s 0 16 ++ cutL s 16 1) := by
  rw [cut_join s 0 16 1, show 16 + 1 = s.size by omega, cut_all, bs_list]
theorem bs_inj {a b : List UInt8} (h : bs a = bs b) : a = b := by
  have := congrArg (fun x => x.data.toList) h
  simpa [bs] using this
/-- .. and all of it, if that says 0 or 1. -/
theorem edge_is {s : ByteArray} (hz : s.size = 17) (h8 : getB s 4 8 = true) (hb : edgeB (getN s 0 4) (getN s 4 8) (getN s 12 4) = true) (nw : Bool) (hn : nw = decide (getN s 16 1 = 1)) :
    (edgeS (getN s 0 4) (getN s 4 8) (getN s 12 4) nw = s ↔ getN s 16 1 ≤ 1) := by
  obtain ⟨_, h4, h4'⟩ := get_small (s := s) (a := 16) (k := 1) (by omega) (by omega)
  have h4 : getN s 16 1 = num (cutL s 16 1) := h4
  rw [edge_back hz h8 hb nw]
  have hbe := cut_be s 16 1 (by omega)
  generalize hm : num (cutL s 16 1) = m at h4 h4' hbe
  rw [h4] at hn ⊢
  constructor
  · intro h
    have h5 := h.trans (edge_last hz)
    have h6 := List.append_cancel_left (bs_inj h5)
    rw [← hbe] at h6
    have h7 := congrArg num h6
    rw [num_beL 1 _ (by cases nw <;> decide), num_beL 1 m h4'] at h7
    cases nw
    · have : (newN false).toNat = 0 := rfl
      omega
    · have : (newN true).toNat = 1 := rfl
      omega
  · intro h
    have h5 : (newN nw).toNat = m := by
      rw [hn]
      rcases (show m = 0 ∨ m = 1 by omega) with rfl | rfl <;> rfl
    rw [h5, hbe]
    exact (edge_last hz).symm
end RcPlain
end Go.Proofs.Ytnmddnhllfojeaa

/- In one text: DsLaid. -/
import Derived.Test.YtibajmjplpnbmaaP40
import Derived.Test.YtibajmjplpnbmaaP42
/- What the dataset of vectors has at its places: plain facts. -/
namespace Go.Proofs.Ytibajmjplpnbmaa
open Go.RowKit OctPlain DsPlain
set_option linter.unusedVariables false
set_option linter.unusedSimpArgs false
set_option maxRecDepth 20000
namespace DsPlain
theorem getN_num {s : ByteArray} {a k : Nat} (hk : 1 ≤ k ∧ k ≤ 7) (h : a + k ≤ s.size) : getN s (a : Int) (k : Int) = num (cutL s a k) := by
  have hl := num_lt (cutL s a k)
  rw [cutL_length _ _ _ h] at hl
  have h7 : 256 ^ k ≤ 256 ^ 7 := Nat.pow_le_pow_right (by omega) hk.2
  have e7 : (256 : Nat) ^ 7 = 72057594037927936 := rfl
  have hb : getB s (a : Int) (k : Int) = true := by
    unfold getB
    rw [decide_eq_true_iff, Int.toNat_natCast, Int.toNat_natCast]
    omega
  unfold getN
  rw [if_pos hb, Int.toNat_natCast, Int.toNat_natCast]
theorem headL_take (n d : Nat) : (headL n d).take 4 = mkL := rfl
theorem headL_n (n d : Nat) : ((headL n d).drop 4).take 4 = beL 4 n := by
  show (beL 4 n ++ beL 2 d).take 4 = beL 4 n
  rw [List.take_append_of_le_length (by rw [beL_length]; omega), List.take_of_length_le (by rw [beL_length]; omega)]
theorem headL_d (n d : Nat) : ((headL n d).drop 8).take 2 = beL 2 d := by
  show ((beL 4 n ++ beL 2 d).drop 4).take 2 = beL 2 d
  have : (beL 4 n ++ beL 2 d).drop 4 = beL 2 d := by
    have h4 : 4 = (beL 4 n).length := (beL_length 4 n).symm
    conv => lhs; rw [h4]
    exact List.drop_left
  rw [this, List.take_of_length_le (by rw [beL_length]; omega)]
theorem lay_data {L : List (List Int)} (h : right L = true) : (layS L).data.toList = headL L.length (dimN L) ++ bodyL L := by rw [layS_yes h, b_data]; rfl
theorem body_len {L : List (List Int)} (h : right L = true) : (bodyL L).length = L.length * (dimN L * 4) := bodyL_length fun v hv => ((right_parts h).2.2 v hv).1
theorem lay_len {L : List (List Int)} (h : right L = true) : (layS L).size = 10 + L.length * (dimN L * 4) := by
  rw [← d_length, lay_data h, List.length_append, headL_length, body_len h]
theorem lay_hd {L : List (List Int)} (h : right L = true) : (hd (layS L)).data.toList = headL L.length (dimN L) := by
  rw [(hd_ten (s := layS L) (by rw [lay_len h]; omega)).1, x_data, List.drop_zero, lay_data h, List.take_append_of_le_length (by rw [headL_length]; omega), List.take_of_length_le (by rw [headL_length]; omega)]
theorem lay_shN {L : List (List Int)} (h : right L = true) : shN (hd (layS L)) = L.length ∧ shD (hd (layS L)) = dimN L ∧ (hd (layS L)).size = 10 := by
  have hz := (hd_ten (s := layS L) (by rw [lay_len h]; omega)).2
  obtain ⟨h1, h2, _⟩ := right_parts h
  refine ⟨?_, ?_, hz⟩
  · have := getN_num (s := hd (layS L)) (a := 4) (k := 4) (by omega) (by omega)
    unfold cutL at this
    rw [lay_hd h, headL_n, num_beL 4 _ (by have : (256 : Nat) ^ 4 = 4294967296 := rfl; omega)] at this
    exact this
  · have := getN_num (s := hd (layS L)) (a := 8) (k := 2) (by omega) (by omega)
    unfold cutL at this
    rw [lay_hd h, headL_d, num_beL 2 _ (by have : (256 : Nat) ^ 2 = 65536 := rfl; omega)] at this
    exact this
theorem right_nd {L : List (List Int)} (h : right L = true) : nB L.length = true ∧ dB (dimN L) = true := by
  unfold right at h
  rw [Bool.and_eq_true, Bool.and_eq_true] at h
  exact h.1
theorem size_cast (n d : Nat) : ((10 + n * (d * 4) : Nat) : Int) = 10 + 4 * (n : Int) * (d : Int) := by
  rw [Int.natCast_add, Int.natCast_mul, Int.natCast_mul, Int.mul_comm (d : Int), ← Int.mul_assoc, Int.mul_comm (n : Int)]; rfl
theorem lay_shB {L : List (List Int)} (h : right L = true) : shB (hd (layS L)) (layS L).size = true := by
  obtain ⟨h1, h2, h3⟩ := lay_shN h
  obtain ⟨r1, r2⟩ := right_nd h
  refine shB_yes h3 (by rw [lay_hd h]; rfl) (by rw [h1]; exact r1) (by rw [h2]; exact r2) ?_
  rw [h1, h2, lay_len h, size_cast]
theorem lay_piece {L : List (List Int)} (h : right L = true) {i : Nat} {y : List Int} (hy : L[i]? = some y) : piece (layS L) (dimN L) i = bs (vecL y) := by
  apply b_eq
  have hb := fun v hv => ((right_parts h).2.2 v hv).1
  have hi := (List.getElem?_eq_some_iff.1 hy).1
  unfold piece
  rw [x_data, lay_data h, b_data, List.drop_take, List.drop_append]
  have e1 : (headL L.length (dimN L)).drop (10 + i * (dimN L * 4)) = [] := List.drop_eq_nil_of_le (by rw [headL_length]; omega)
  rw [e1, List.nil_append, headL_length, show 10 + i * (dimN L * 4) + dimN L * 4 - (10 + i * (dimN L * 4)) = dimN L * 4 by omega, show 10 + i * (dimN L * 4) - 10 = i * (dimN L * 4) by omega]
  exact flat_chunk (k := dimN L * 4) (L := L.map vecL) (fun z hz => by obtain ⟨v, hv, rfl⟩ := List.mem_map.1 hz; rw [vecL_length, hb v hv]) (by rw [List.getElem?_map, hy]; rfl)
theorem lay_vec {L : List (List Int)} (h : right L = true) {i : Nat} {y : List Int} (hy : L[i]? = some y) : nums (piece (layS L) (dimN L) i) (dimN L) = y := by
  have hr := (right_parts h).2.2 y (List.mem_of_getElem? hy)
  rw [lay_piece h hy, ← hr.1]
  exact vec_nums hr.2
theorem lay_rows {L : List (List Int)} (h : right L = true) : rows (layS L) (dimN L) L.length = L := by
  apply List.ext_getElem?
  intro i
  unfold rows
  by_cases hi : i < L.length
  · rw [List.getElem?_map, List.getElem?_range hi, List.getElem?_eq_getElem hi]
    show some (nums (piece (layS L) (dimN L) i) (dimN L)) = _
    rw [lay_vec h (List.getElem?_eq_getElem hi)]
  · rw [List.getElem?_eq_none (by simp; omega), List.getElem?_eq_none (by omega)]
theorem lay_pB {L : List (List Int)} (h : right L = true) : pB (layS L) = true ∧ pL (layS L) = L := by
  obtain ⟨h1, h2, h3⟩ := lay_shN h
  have hp : pB (layS L) = true := by
    unfold pB
    rw [lay_shB h, h1, h2, Int.toNat_natCast, Int.toNat_natCast, lay_rows h, Bool.true_and, List.all_eq_true]
    exact fun v hv => ((right_parts h).2.2 v hv).2
  refine ⟨hp, ?_⟩
  rw [pL_yes hp, h1, h2, Int.toNat_natCast, Int.toNat_natCast, lay_rows h]
/-- What Vector makes of the bytes at its place. -/
theorem lay_vB {L : List (List Int)} (h : right L = true) {i : Nat} {y : List Int} (hy : L[i]? = some y) : vB (piece (layS L) (dimN L) i) (dimN L : Int) = true ∧ vL (piece (layS L) (dimN L) i) (dimN L : Int) = y := by
  have hr := (right_parts h).2.2 y (List.mem_of_getElem? hy)
  obtain ⟨_, r2⟩ := right_nd h
  have hz : (piece (layS L) (dimN L) i).size = 4 * dimN L := by rw [lay_piece h hy, bs_size, vecL_length, hr.1]; omega
  have hb : vB (piece (layS L) (dimN L) i) (dimN L : Int) = true := by
    rw [vB_yes r2 hz, lay_vec h hy]; exact hr.2
  refine ⟨hb, ?_⟩
  rw [vL_yes hb, Int.toNat_natCast, lay_vec h hy]
end DsPlain
end Go.Proofs.Ytibajmjplpnbmaa

/- Vectors come back from their dataset, each at its place; what is read is written as it was: plain facts. -/
import Derived.Test.YtddjhajnhamjoaaDsTells
namespace Go.Proofs.Ytddjhajnhamjoaa
open Go.RowKit OctPlain DsPlain
set_option linter.unusedVariables false
set_option linter.unusedSimpArgs false
set_option maxRecDepth 20000
namespace DsPlain
theorem getN_num {s : ByteArray} {a k : Nat} (hk : 1 ≤ k ∧ k ≤ 7) (h : a + k ≤ s.size) : getN s (a : Int) (k : Int) = num (cutL s a k) := by
  have hl := num_lt (cutL s a k)
  rw [cutL_length _ _ _ h] at hl
  have h7 : 256 ^ k ≤ 256 ^ 7 := Nat.pow_le_pow_right (by omega) hk.2
  have e7 : (256 : Nat) ^ 7 = 72057594037927936 := rfl
  have hb : getB s (a : Int) (k : Int) = true := by
    unfold getB
    rw [decide_eq_true_iff, Int.toNat_natCast, Int.toNat_natCast]
    omega
  unfold getN
  rw [if_pos hb, Int.toNat_natCast, Int.toNat_natCast]
theorem headL_take (n d : Nat) : (headL n d).take 4 = mkL := rfl
theorem headL_n (n d : Nat) : ((headL n d).drop 4).take 4 = beL 4 n := by
  show (beL 4 n ++ beL 2 d).take 4 = beL 4 n
  rw [List.take_append_of_le_length (by rw [beL_length]; omega), List.take_of_length_le (by rw [beL_length]; omega)]
theorem headL_d (n d : Nat) : ((headL n d).drop 8).take 2 = beL 2 d := by
  show ((beL 4 n ++ beL 2 d).drop 4).take 2 = beL 2 d
  have : (beL 4 n ++ beL 2 d).drop 4 = beL 2 d := by
    have h4 : 4 = (beL 4 n).length := (beL_length 4 n).symm
    conv => lhs; rw [h4]
    exact List.drop_left
  rw [this, List.take_of_length_le (by rw [beL_length]; omega)]
theorem lay_data {L : List (List Int)} (h : right L = true) : (layS L).data.toList = headL L.length (dimN L) ++ bodyL L := by rw [layS_yes h, b_data]; rfl
theorem body_len {L : List (List Int)} (h : right L = true) : (bodyL L).length = L.length * (dimN L * 4) := bodyL_length fun v hv => ((right_parts h).2.2 v hv).1
theorem lay_len {L : List (List Int)} (h : right L = true) : (layS L).size = 10 + L.length * (dimN L * 4) := by
  rw [← d_length, lay_data h, List.length_append, headL_length, body_len h]
theorem lay_hd {L : List (List Int)} (h : right L = true) : (hd (layS L)).data.toList = headL L.length (dimN L) := by
  rw [(hd_ten (s := layS L) (by rw [lay_len h]; omega)).1, x_data, List.drop_zero, lay_data h, List.take_append_of_le_length (by rw [headL_length]; omega), List.take_of_length_le (by rw [headL_length]; omega)]
theorem lay_shN {L : List (List Int)} (h : right L = true) : shN (hd (layS L)) = L.length ∧ shD (hd (layS L)) = dimN L ∧ (hd (layS L)).size = 10 := by
  have hz := (hd_ten (s := layS L) (by rw [lay_len h]; omega)).2
  obtain ⟨h1, h2, _⟩ := right_parts h
  refine ⟨?_, ?_, hz⟩
  · have := getN_num (s := hd (layS L)) (a := 4) (k := 4) (by omega) (by omega)
    unfold cutL at this
    rw [lay_hd h, headL_n, num_beL 4 _ (by have : (256 : Nat) ^ 4 = 4294967296 := rfl; omega)] at this
    exact this
  · have := getN_num (s := hd (layS L)) (a := 8) (k := 2) (by omega) (by omega)
    unfold cutL at this
    rw [lay_hd h, headL_d, num_beL 2 _ (by have : (256 : Nat) ^ 2 = 65536 := rfl; omega)] at this
    exact this
theorem right_nd {L : List (List Int)} (h : right L = true) : nB L.length = true ∧ dB (dimN L) = true := by
  unfold right at h
  rw [Bool.and_eq_true, Bool.and_eq_true] at h
  exact h.1
theorem size_cast (n d : Nat) : ((10 + n * (d * 4) : Nat) : Int) = 10 + 4 * (n : Int) * (d : Int) := by
  rw [Int.natCast_add, Int.natCast_mul, Int.natCast_mul, Int.mul_comm (d : Int), ← Int.mul_assoc, Int.mul_comm (n : Int)]; rfl
theorem lay_shB {L : List (List Int)} (h : right L = true) : shB (hd (layS L)) (layS L).size = true := by
  obtain ⟨h1, h2, h3⟩ := lay_shN h
  obtain ⟨r1, r2⟩ := right_nd h
  refine shB_yes h3 (by rw [lay_hd h]; rfl) (by rw [h1]; exact r1) (by rw [h2]; exact r2) ?_
  rw [h1, h2, lay_len h, size_cast]
theorem lay_piece {L : List (List Int)} (h : right L = true) {i : Nat} {y : List Int} (hy : L[i]? = some y) : piece (layS L) (dimN L) i = bs (vecL y) := by
  apply b_eq
  have hb := fun v hv => ((right_parts h).2.2 v hv).1
  have hi := (List.getElem?_eq_some_iff.1 hy).1
  unfold piece
  rw [x_data, lay_data h, b_data, List.drop_take, List.drop_append]
  have e1 : (headL L.length (dimN L)).drop (10 + i * (dimN L * 4)) = [] := List.drop_eq_nil_of_le (by rw [headL_length]; omega)
  rw [e1, List.nil_append, headL_length, show 10 + i * (dimN L * 4) + dimN L * 4 - (10 + i * (dimN L * 4)) = dimN L * 4 by omega, show 10 + i * (dimN L * 4) - 10 = i * (dimN L * 4) by omega]
  exact flat_chunk (k := dimN L * 4) (L := L.map vecL) (fun z hz => by obtain ⟨v, hv, rfl⟩ := List.mem_map.1 hz; rw [vecL_length, hb v hv]) (by rw [List.getElem?_map, hy]; rfl)
theorem lay_vec {L : List (List Int)} (h : right L = true) {i : Nat} {y : List Int} (hy : L[i]? = some y) : nums (piece (layS L) (dimN L) i) (dimN L) = y := by
  have hr := (right_parts h).2.2 y (List.mem_of_getElem? hy)
  rw [lay_piece h hy, ← hr.1]
  exact vec_nums hr.2
theorem lay_rows {L : List (List Int)} (h : right L = true) : rows (layS L) (dimN L) L.length = L := by
  apply List.ext_getElem?
  intro i
  unfold rows
  by_cases hi : i < L.length
  · rw [List.getElem?_map, List.getElem?_range hi, List.getElem?_eq_getElem hi]
    show some (nums (piece (layS L) (dimN L) i) (dimN L)) = _
    rw [lay_vec h (List.getElem?_eq_getElem hi)]
  · rw [List.getElem?_eq_none (by simp; omega), List.getElem?_eq_none (by omega)]
theorem lay_pB {L : List (List Int)} (h : right L = true) : pB (layS L) = true ∧ pL (layS L) = L := by
  obtain ⟨h1, h2, h3⟩ := lay_shN h
  have hp : pB (layS L) = true := by
    unfold pB
    rw [lay_shB h, h1, h2, Int.toNat_natCast, Int.toNat_natCast, lay_rows h, Bool.true_and, List.all_eq_true]
    exact fun v hv => ((right_parts h).2.2 v hv).2
  refine ⟨hp, ?_⟩
  rw [pL_yes hp, h1, h2, Int.toNat_natCast, Int.toNat_natCast, lay_rows h]
/-- What Vector makes of the bytes at its place. -/
theorem lay_vB {L : List (List Int)} (h : right L = true) {i : Nat} {y : List Int} (hy : L[i]? = some y) : vB (piece (layS L) (dimN L) i) (dimN L : Int) = true ∧ vL (piece (layS L) (dimN L) i) (dimN L : Int) = y := by
  have hr := (right_parts h).2.2 y (List.mem_of_getElem? hy)
  obtain ⟨_, r2⟩ := right_nd h
  have hz : (piece (layS L) (dimN L) i).size = 4 * dimN L := by rw [lay_piece h hy, bs_size, vecL_length, hr.1]; omega
  have hb : vB (piece (layS L) (dimN L) i) (dimN L : Int) = true := by
    rw [vB_yes r2 hz, lay_vec h hy]; exact hr.2
  refine ⟨hb, ?_⟩
  rw [vL_yes hb, Int.toNat_natCast, lay_vec h hy]

/-! What is read is written as it was. -/
theorem read_parts {s : ByteArray} (h : pB s = true) : ∃ n d : Nat, shN (hd s) = n ∧ shD (hd s) = d ∧ (1 ≤ n ∧ n ≤ 1048576) ∧ (1 ≤ d ∧ d ≤ 4096) ∧ s.size = 10 + n * (d * 4) ∧ pL s = rows s d n ∧ (∀ v ∈ rows s d n, v.length = d ∧ v.all fitI = true) ∧ (hd s).data.toList.take 4 = mkL ∧ (hd s).size = 10 := by
  have hb : shB (hd s) s.size = true := by
    unfold pB at h
    rw [Bool.and_eq_true] at h
    exact h.1
  obtain ⟨n, d, hn, hd', h1, h2, hz, _⟩ := sh_nat hb
  obtain ⟨q1, q2, _⟩ := sh_parts hb
  have hL := pL_rows' h hn hd'
  have hall := p_rows hb hn hd'
  rw [h] at hall
  have hall2 := List.all_eq_true.1 hall.symm
  exact ⟨n, d, hn, hd', h1, h2, hz, hL, fun v hv => ⟨rows_mem hv, hall2 v hv⟩, q2, q1⟩
theorem dim_rows {s : ByteArray} {d n : Nat} (hn : 1 ≤ n) : dimN (rows s d n) = d := by
  have hl := rows_length s d n
  have : (rows s d n)[0]? = some ((rows s d n)[0]'(by omega)) := List.getElem?_eq_getElem (by omega)
  rw [dim_of this]
  exact rows_mem (List.getElem_mem _)
theorem read_right {s : ByteArray} (h : pB s = true) : right (pL s) = true := by
  obtain ⟨n, d, _, _, h1, h2, _, hL, hr, _⟩ := read_parts h
  rw [hL]
  unfold right
  rw [rows_length, dim_rows h1.1]
  have e1 : nB (n : Int) = true := by unfold nB; rw [decide_eq_true_iff]; omega
  have e2 : dB (d : Int) = true := by unfold dB; rw [decide_eq_true_iff]; omega
  rw [e1, e2, Bool.true_and, Bool.true_and, List.all_eq_true]
  intro v hv
  unfold vecB
  rw [decide_eq_true (hr v hv).1, (hr v hv).2]; rfl
theorem read_head {s : ByteArray} {n d : Nat} (hn : shN (hd s) = n) (hd' : shD (hd s) = d) (hm : (hd s).data.toList.take 4 = mkL) (hz : (hd s).size = 10) : headL n d = (hd s).data.toList := by
  have g1 := getN_num (s := hd s) (a := 4) (k := 4) (by omega) (by omega)
  have g2 := getN_num (s := hd s) (a := 8) (k := 2) (by omega) (by omega)
  have k1 : n = num (cutL (hd s) 4 4) := by
    have : shN (hd s) = getN (hd s) ((4 : Nat) : Int) ((4 : Nat) : Int) := rfl
    rw [this, g1] at hn; omega
  have k2 : d = num (cutL (hd s) 8 2) := by
    have : shD (hd s) = getN (hd s) ((8 : Nat) : Int) ((2 : Nat) : Int) := rfl
    rw [this, g2] at hd'; omega
  have b1 := num_be (cutL (hd s) 4 4)
  have b2 := num_be (cutL (hd s) 8 2)
  rw [cutL_length _ _ _ (by omega), ← k1] at b1
  rw [cutL_length _ _ _ (by omega), ← k2] at b2
  unfold headL
  rw [b1, b2, ← hm]
  unfold cutL
  have hl := d_length (hd s)
  rw [hz] at hl
  have e1 : ∀ l : List UInt8, l.length = 10 → l.take 4 ++ ((l.drop 4).take 4 ++ (l.drop 8).take 2) = l := by
    intro l hl
    have t1 : (l.drop 8).take 2 = l.drop 8 := List.take_of_length_le (by rw [List.length_drop]; omega)
    have t2 : l.drop 8 = (l.drop 4).drop 4 := by rw [List.drop_drop]
    rw [t1, t2, List.take_append_drop, List.take_append_drop]
  exact e1 _ hl
theorem read_lay {s : ByteArray} (h : pB s = true) : layS (pL s) = s := by
  obtain ⟨n, d, hn, hd', h1, h2, hz, hL, hr, hm, hz10⟩ := read_parts h
  rw [layS_yes (read_right h)]
  apply b_eq
  rw [b_data]
  unfold layL
  rw [hL, rows_length, dim_rows h1.1, read_head hn hd' hm hz10]
  have h10 : 10 ≤ s.size := by omega
  rw [(hd_ten h10).1, x_data, List.drop_zero]
  have hb : bodyL (rows s d n) = s.data.toList.drop 10 := by
    have hlen : (s.data.toList.drop 10).length = n * (d * 4) := by rw [List.length_drop, d_length]; omega
    rw [← chunks_flat hlen]
    unfold bodyL rows
    rw [List.map_map]
    congr 1
    apply List.map_congr_left
    intro i hi
    rw [List.mem_range] at hi
    have hroom := Nat.mul_le_mul_right (d * 4) (show i + 1 ≤ n by omega)
    rw [Nat.add_mul, Nat.one_mul] at hroom
    show vecL (nums (piece s d i) d) = chunk (s.data.toList.drop 10) (d * 4) i
    have hps : (piece s d i).size = d * 4 := by unfold piece; rw [x_size (by omega)]
    rw [nums_vec hps]
    unfold piece chunk
    rw [x_data, List.drop_take, List.drop_drop, show 10 + i * (d * 4) + d * 4 - (10 + i * (d * 4)) = d * 4 by omega]
  rw [hb, List.take_append_drop]
theorem read_i64 {s : ByteArray} : ∀ l ∈ pL s, ∀ n ∈ l, I64 n := by
  intro l hl n hn
  cases h : pB s
  · rw [pL_no h] at hl; simp at hl
  · obtain ⟨_, _, _, _, _, _, _, hL, hr, _⟩ := read_parts h
    rw [hL] at hl
    have := List.all_eq_true.1 (hr l hl).2 n hn
    unfold fitI at this
    rw [decide_eq_true_iff] at this
    unfold I64; omega
end DsPlain
theorem pL_few (s : ByteArray) (hs : s.size ≤ 1000) : (pL s).length ≤ 1000 ∧ ∀ l ∈ pL s, l.length ≤ 1000 := by
  cases h : pB s
  · rw [pL_no h]; simp
  · obtain ⟨n, d, _, _, h1, h2, hz, hL, hr, _⟩ := read_parts h
    have k1 : n * 1 ≤ n * (d * 4) := Nat.mul_le_mul_left n (by omega)
    have k2 : 1 * (d * 4) ≤ n * (d * 4) := Nat.mul_le_mul_right (d * 4) h1.1
    rw [hL]
    refine ⟨by rw [rows_length]; omega, fun l hl => ?_⟩
    rw [(hr l hl).1]; omega
def LbAt (n : Nat) (w : World) (i : Value) (wr : World) : Prop := ∃ j : Nat, j ≤ n ∧ i = .int .i64 j ∧ Below w.heap.size w wr
end Go.Proofs.Ytddjhajnhamjoaa

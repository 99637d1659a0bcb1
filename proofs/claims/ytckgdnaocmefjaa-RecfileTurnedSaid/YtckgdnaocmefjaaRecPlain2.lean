/- Plain facts: what Get reads is a block; what blocks and an end are of a file. -/
import Derived.Test.YtckgdnaocmefjaaRecPlain
namespace Go.Proofs.Ytckgdnaocmefjaa
open Go.RowKit CrcPlain OctPlain FramePlain RecPlain
set_option linter.unusedVariables false
set_option linter.unusedSimpArgs false
namespace RecPlain
theorem pieces_size {s : ByteArray} {m : Nat} : ∀ j, j * m ≤ s.size → ∀ x ∈ pieces s m j, x.size = m
  | 0, _, x, hx => by simp [pieces] at hx
  | j + 1, h, x, hx => by
    have hj : j * m + m ≤ s.size := by rw [Nat.add_mul, Nat.one_mul] at h; exact h
    rw [pieces, List.mem_append] at hx
    rcases hx with hx | hx
    · exact pieces_size j (by omega) x hx
    · simp at hx; subst hx; rw [ByteArray.size_extract]; omega
theorem cat_pieces {s : ByteArray} {m : Nat} : ∀ j, j * m ≤ s.size → cat (pieces s m j) = s.data.toList.take (j * m)
  | 0, _ => by simp [pieces, cat]
  | j + 1, h => by
    have hj : j * m + m ≤ s.size := by rw [Nat.add_mul, Nat.one_mul] at h; exact h
    rw [pieces, cat_snoc, cat_pieces j (by omega), extract_data, List.drop_take, Nat.add_mul, Nat.one_mul, List.take_add]
    congr 2
    omega
theorem cl_of {s : ByteArray} (h : opB s = true) : cl (ahead s) = s ∧ 4 ≤ s.size := by
  have h4 : 4 ≤ s.size := by unfold opB at h; rw [decide_eq_true_iff] at h; exact h.1
  exact ⟨(cl_is s h4).2 h, h4⟩
/-- What Get reads is a block. -/
theorem get_is {size : Int} {s : ByteArray} (h : gB size s = true) :
    blkB size (gL size s) = true ∧ ∃ n : Nat, gN size s = n ∧ n ≤ s.size ∧ 6 ≤ n ∧ s.extract 0 n = cl (blk (gL size s)) := by
  have hN := gN_yes h
  have hL := gL_yes h
  have hh := h
  unfold gB at hh
  simp only [Bool.and_eq_true, decide_eq_true_eq] at hh
  obtain ⟨⟨⟨h1, h2⟩, h3⟩, h4⟩ := hh
  have h1' := h1
  simp only [sizeB, decide_eq_true_eq] at h1'
  obtain ⟨n, hn, hn6, hn261⟩ := gLen_nat h1' h2
  obtain ⟨m, hm⟩ : ∃ m : Nat, size = m := ⟨size.toNat, by omega⟩
  have hnm : 5 + cntN s * m = n := by
    unfold gLen at hn
    rw [hm] at hn
    have : ((5 + cntN s * m : Nat) : Int) = (n : Int) := by rw [Int.natCast_add, Int.natCast_mul]; exact hn
    omega
  have hbody : gBody size s = (opS (s.extract 0 n)).extract 1 (opS (s.extract 0 n)).size := by unfold gBody; rw [hn, Int.toNat_natCast]
  rw [hn, Int.toNat_natCast] at h4
  rw [hn] at h3
  have hxs : (s.extract 0 n).size = n := by rw [ByteArray.size_extract]; omega
  obtain ⟨hcl, _⟩ := cl_of h4
  rw [opS_yes h4] at hbody
  have has : (ahead (s.extract 0 n)).size = n - 4 := by rw [ahead_size _ (by omega), hxs]
  have hbs : (gBody size s).size = cntN s * m := by rw [hbody, ByteArray.size_extract, has]; omega
  have hsp : splB (gBody size s) size = true := by
    unfold splB
    rw [decide_eq_true_iff, hbs, hm, Int.natCast_mul]
    exact ⟨by omega, Int.mul_emod_left _ _⟩
  have hLL : gL size s = pieces (gBody size s) m (cntN s) := by
    rw [hL, splL_yes hsp, hbs, hm, Int.toNat_natCast, Nat.mul_div_cancel _ (by omega)]
  have hlen : (gL size s).length = cntN s := by rw [hLL, pieces_length]
  have hsz := pieces_size (s := gBody size s) (m := m) (cntN s) (by omega)
  have hcat := cat_pieces (s := gBody size s) (m := m) (cntN s) (by omega)
  rw [← hLL] at hsz hcat
  refine ⟨?_, n, by rw [hN, hn], by omega, hn6, ?_⟩
  · unfold blkB
    rw [h1, hlen, decide_eq_true h2, Bool.true_and, Bool.true_and]
    exact allB_iff.2 fun x hx => by rw [hsz x hx, hm]
  · have hb : blk (gL size s) = ahead (s.extract 0 n) := by
      apply ext_toList
      rw [blk_data, hlen, hcat, List.take_of_length_le (by rw [data_length]; omega), hbody, extract_data, List.take_of_length_le (by rw [data_length]; omega)]
      have h0 : 0 < s.size := by omega
      have hc := cntN_at s h0
      have hne : (ahead (s.extract 0 n)).data.toList = s.data.toList.take (n - 4) := by
        rw [ahead_data, extract_data, hxs, List.drop_zero, List.take_take, Nat.min_eq_left (by omega)]
      have hcons : s.data.toList = s[0] :: s.data.toList.drop 1 := by
        have := List.drop_eq_getElem_cons (l := s.data.toList) (i := 0) (by rw [data_length]; exact h0)
        rw [List.drop_zero] at this
        exact this
      rw [hne, hcons, show n - 4 = (n - 5) + 1 by omega, List.take_succ_cons, List.drop_succ_cons, List.drop_zero, ← hc]
      simp
    rw [hb, hcl]
theorem get_split {size : Int} {s : ByteArray} (h : gB size s = true) : ∃ n : Nat, gN size s = n ∧ n ≤ s.size ∧ 6 ≤ n ∧ s.data.toList = (cl (blk (gL size s))).data.toList ++ (s.extract n s.size).data.toList := by
  obtain ⟨_, n, h1, h2, h3, h4⟩ := get_is h
  refine ⟨n, h1, h2, h3, ?_⟩
  have e : s.data.toList.take s.size = s.data.toList := List.take_of_length_le (by rw [data_length]; omega)
  rw [← h4, extract_data, extract_data, e, List.drop_zero, List.take_append_drop]
/-- What GetEnd reads is an end. -/
theorem end_is {s : ByteArray} (h : eB s = true) : ∃ c m : Nat, eC s = c ∧ eM s = m ∧ m < 4294967296 ∧ s = cl (endS c m) := by
  have hC := eC_yes h
  have hM := eM_yes h
  unfold eB at h
  simp only [Bool.and_eq_true, decide_eq_true_eq] at h
  obtain ⟨⟨⟨h1, h2⟩, h3⟩, h4, h5⟩ := h
  obtain ⟨m, hm, hm2, hm3, _⟩ := get4_lt s (by omega)
  obtain ⟨c, hc, hc2⟩ := get8_yes h4
  refine ⟨c, m, by rw [hC, hc], by rw [hM, hm2], hm, ?_⟩
  rw [hc2, hm3, ahead_end s h1 h2]
  exact (cl_of h3).1.symm
/-- Is what stands behind the blocks the end of these records? -/
def tailB (l : List ByteArray) (r : ByteArray) : Bool := eB r && decide (eC r = l.length) && decide (eM r = (sumN l : Nat))
theorem peB_ok {n : Nat} (h : n ≤ 1000000) : peB (n : Int) = true := by unfold peB; rw [decide_eq_true_iff]; omega
theorem tail_iff {l : List ByteArray} (hl : l.length ≤ 1000000) (r : ByteArray) : tailB l r = true ↔ r.data.toList = endL l := by
  have hp := peB_ok hl
  obtain ⟨b1, b2, b3⟩ := end_back (n := (l.length : Int)) (m := sumN l) hp (sumN_lt l)
  rw [Int.toNat_natCast] at b1 b2 b3
  unfold tailB endL
  constructor
  · intro h
    simp only [Bool.and_eq_true, decide_eq_true_eq] at h
    obtain ⟨⟨h1, h2⟩, h3⟩ := h
    obtain ⟨c, m, e1, e2, _, e4⟩ := end_is h1
    have : c = l.length := by omega
    have : m = sumN l := by omega
    subst c m
    rw [← e4]
  · intro h
    have := ext_toList h
    subst this
    rw [b1, b2, b3]
    simp
/-- All blocks but the last one are full, and where the last one is not, no more were looked for. -/
theorem file_of {size : Int} {s : ByteArray} {ps : List (List ByteArray)} {r : ByteArray} (hs : sizeB size = true) (hp : ∀ p ∈ ps, blkB size p = true) (hf : Full ps) (he : s.data.toList = (headS size).data.toList ++ (blks ps ++ r.data.toList)) (hl : ps.flatten.length ≤ 1000000)
    (ht : tailB ps.flatten r = true) : IsFile size s ps.flatten := by
  have hB : layB size ps.flatten = true := by
    unfold layB
    rw [hs, Bool.true_and]
    refine allB_iff.2 fun x hx => ?_
    obtain ⟨p, h1, h2⟩ := List.mem_flatten.1 hx
    exact (blk_parts (hp p h1)).2.2 x h2
  refine ⟨hB, ?_⟩
  rw [he, (tail_iff hl r).1 ht]
  unfold layL
  rw [full_ups hf (fun p h => (blk_parts (hp p h)).2.1)]
theorem file_not {size : Int} {s : ByteArray} {ps : List (List ByteArray)} {r : ByteArray} {l : List ByteArray} (hp : ∀ p ∈ ps, blkB size p = true) (he : s.data.toList = (headS size).data.toList ++ (blks ps ++ r.data.toList))
    (hstop : gB size r = false ∨ ∃ p, ps.getLast? = some p ∧ p.length < 4) (hi : IsFile size s l) : ps.flatten = l ∧ r.data.toList = endL l := by
  obtain ⟨hB, hs⟩ := hi
  rw [he] at hs
  unfold layL at hs
  have h1 := List.append_cancel_left hs
  obtain ⟨cs, c1, c2⟩ := blks_pre _ _ _ _ hp (ups_blk hB) (endL_cons l) h1
  have hcs : cs = [] := by
    cases cs with
    | nil => rfl
    | cons c cs =>
      exfalso
      have hc : blkB size c = true := ups_blk hB c (by rw [c1]; simp)
      rcases hstop with h | ⟨p, h, h4⟩
      · have hr : r = cl (blk c) ++ bs (blks cs ++ endL l) := by apply ext_toList; rw [app_data, bs_data, c2, blks_cons, List.append_assoc]
        have := (get_put hc (bs (blks cs ++ endL l))).1
        rw [← hr, h] at this; cases this
      · have hfull := ups_full l
        have hne : ps ≠ [] := by intro e; rw [e] at h; simp at h
        have hlen : 0 < ps.length := List.length_pos_iff.2 hne
        rw [List.getLast?_eq_getElem?] at h
        have hget : (ups l (cnt4 l))[ps.length - 1]? = some p := by rw [c1, List.getElem?_append_left (by omega)]; exact h
        have := hfull _ p hget (by rw [c1]; simp; omega)
        omega
  subst hcs
  rw [List.append_nil] at c1
  rw [blks_nil, List.nil_append] at c2
  exact ⟨by rw [← c1, ups_all], c2⟩
end RecPlain
end Go.Proofs.Ytckgdnaocmefjaa

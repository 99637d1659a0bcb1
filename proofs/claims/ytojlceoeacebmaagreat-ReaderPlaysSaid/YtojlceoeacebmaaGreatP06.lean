/- In one text: RecPlain2, RecHead, Only, Bud. -/
import Derived.Test.YtojlceoeacebmaaGreatP05
import Derived.Test.YtojlceoeacebmaaGreatP00
import Derived.OneCell
import Derived.RegionTactic
import Derived.ChangeAlike
import Derived.Deep.QuietTactic
import Derived.BigQuiet
/- Plain facts: what Get reads is a block; what blocks and an end are of a file. -/
namespace Go.Proofs.YtojlceoeacebmaaGreat
open Go.RowKit CrcPlain OctPlain FramePlain RecPlain
set_option linter.unusedVariables false
set_option linter.unusedSimpArgs false
set_option maxRecDepth 20000
namespace RecPlain
theorem pieces_size {s : ByteArray} {m : Nat} : ∀ j, j * m ≤ s.size → ∀ x ∈ pieces s m j, x.size = m
  | 0, _, x, hx => by simp [pieces] at hx
  | j + 1, h, x, hx => by
    have hj : j * m + m ≤ s.size := by rw [Nat.add_mul, Nat.one_mul] at h; exact h
    rw [pieces, List.mem_append] at hx
    rcases hx with hx | hx
    · exact pieces_size j (by omega) x hx
    · simp at hx; subst hx; rw [ByteArray.size_extract]; omega
theorem cat_pieces {s : ByteArray} {m : Nat} : ∀ j, j * m ≤ s.size → cat (pieces s m j) = s.data.toList.take (j * m)
  | 0, _ => by simp [pieces, cat]
  | j + 1, h => by
    have hj : j * m + m ≤ s.size := by rw [Nat.add_mul, Nat.one_mul] at h; exact h
    rw [pieces, cat_snoc, cat_pieces j (by omega), extract_data, List.drop_take, Nat.add_mul, Nat.one_mul, List.take_add]
    congr 2
    omega
theorem cl_of {s : ByteArray} (h : opB s = true) : cl (ahead s) = s ∧ 4 ≤ s.size := by
  have h4 : 4 ≤ s.size := by unfold opB at h; rw [decide_eq_true_iff] at h; exact h.1
  exact ⟨(cl_is s h4).2 h, h4⟩
/-- What Get reads is a block. -/
theorem get_is {size : Int} {s : ByteArray} (h : gB size s = true) :
    blkB size (gL size s) = true ∧ ∃ n : Nat, gN size s = n ∧ n ≤ s.size ∧ 6 ≤ n ∧ s.extract 0 n = cl (blk (gL size s)) := by
  have hN := gN_yes h
  have hL := gL_yes h
  have hh := h
  unfold gB at hh
  simp only [Bool.and_eq_true, decide_eq_true_eq] at hh
  obtain ⟨⟨⟨h1, h2⟩, h3⟩, h4⟩ := hh
  have h1' := h1
  simp only [sizeB, decide_eq_true_eq] at h1'
  obtain ⟨n, hn, hn6, hn261⟩ := gLen_nat h1' h2
  obtain ⟨m, hm⟩ : ∃ m : Nat, size = m := ⟨size.toNat, by omega⟩
  have hnm : 5 + cntN s * m = n := by
    unfold gLen at hn
    rw [hm] at hn
    have : ((5 + cntN s * m : Nat) : Int) = (n : Int) := by rw [Int.natCast_add, Int.natCast_mul]; exact hn
    omega
  have hbody : gBody size s = (opS (s.extract 0 n)).extract 1 (opS (s.extract 0 n)).size := by unfold gBody; rw [hn, Int.toNat_natCast]
  rw [hn, Int.toNat_natCast] at h4
  rw [hn] at h3
  have hxs : (s.extract 0 n).size = n := by rw [ByteArray.size_extract]; omega
  obtain ⟨hcl, _⟩ := cl_of h4
  rw [opS_yes h4] at hbody
  have has : (ahead (s.extract 0 n)).size = n - 4 := by rw [ahead_size _ (by omega), hxs]
  have hbs : (gBody size s).size = cntN s * m := by rw [hbody, ByteArray.size_extract, has]; omega
  have hsp : splB (gBody size s) size = true := by
    unfold splB
    rw [decide_eq_true_iff, hbs, hm, Int.natCast_mul]
    exact ⟨by omega, Int.mul_emod_left _ _⟩
  have hLL : gL size s = pieces (gBody size s) m (cntN s) := by
    rw [hL, splL_yes hsp, hbs, hm, Int.toNat_natCast, Nat.mul_div_cancel _ (by omega)]
  have hlen : (gL size s).length = cntN s := by rw [hLL, pieces_length]
  have hsz := pieces_size (s := gBody size s) (m := m) (cntN s) (by omega)
  have hcat := cat_pieces (s := gBody size s) (m := m) (cntN s) (by omega)
  rw [← hLL] at hsz hcat
  refine ⟨?_, n, by rw [hN, hn], by omega, hn6, ?_⟩
  · unfold blkB
    rw [h1, hlen, decide_eq_true h2, Bool.true_and, Bool.true_and]
    exact allB_iff.2 fun x hx => by rw [hsz x hx, hm]
  · have hb : blk (gL size s) = ahead (s.extract 0 n) := by
      apply ext_toList
      rw [blk_data, hlen, hcat, List.take_of_length_le (by rw [data_length]; omega), hbody, extract_data, List.take_of_length_le (by rw [data_length]; omega)]
      have h0 : 0 < s.size := by omega
      have hc := cntN_at s h0
      have hne : (ahead (s.extract 0 n)).data.toList = s.data.toList.take (n - 4) := by
        rw [ahead_data, extract_data, hxs, List.drop_zero, List.take_take, Nat.min_eq_left (by omega)]
      have hcons : s.data.toList = s[0] :: s.data.toList.drop 1 := by
        have := List.drop_eq_getElem_cons (l := s.data.toList) (i := 0) (by rw [data_length]; exact h0)
        rw [List.drop_zero] at this
        exact this
      rw [hne, hcons, show n - 4 = (n - 5) + 1 by omega, List.take_succ_cons, List.drop_succ_cons, List.drop_zero, ← hc]
      simp
    rw [hb, hcl]
theorem get_split {size : Int} {s : ByteArray} (h : gB size s = true) : ∃ n : Nat, gN size s = n ∧ n ≤ s.size ∧ 6 ≤ n ∧ s.data.toList = (cl (blk (gL size s))).data.toList ++ (s.extract n s.size).data.toList := by
  obtain ⟨_, n, h1, h2, h3, h4⟩ := get_is h
  refine ⟨n, h1, h2, h3, ?_⟩
  have e : s.data.toList.take s.size = s.data.toList := List.take_of_length_le (by rw [data_length]; omega)
  rw [← h4, extract_data, extract_data, e, List.drop_zero, List.take_append_drop]
/-- What GetEnd reads is an end. -/
theorem end_is {s : ByteArray} (h : eB s = true) : ∃ c m : Nat, eC s = c ∧ eM s = m ∧ m < 4294967296 ∧ s = cl (endS c m) := by
  have hC := eC_yes h
  have hM := eM_yes h
  unfold eB at h
  simp only [Bool.and_eq_true, decide_eq_true_eq] at h
  obtain ⟨⟨⟨h1, h2⟩, h3⟩, h4, h5⟩ := h
  obtain ⟨m, hm, hm2, hm3, _⟩ := get4_lt s (by omega)
  obtain ⟨c, hc, hc2⟩ := get8_yes h4
  refine ⟨c, m, by rw [hC, hc], by rw [hM, hm2], hm, ?_⟩
  rw [hc2, hm3, ahead_end s h1 h2]
  exact (cl_of h3).1.symm
/-- Is what stands behind the blocks the end of these records? -/
def tailB (l : List ByteArray) (r : ByteArray) : Bool := eB r && decide (eC r = l.length) && decide (eM r = (sumN l : Nat))
theorem peB_ok {n : Nat} (h : n ≤ 1000000) : peB (n : Int) = true := by unfold peB; rw [decide_eq_true_iff]; omega
theorem tail_iff {l : List ByteArray} (hl : l.length ≤ 1000000) (r : ByteArray) : tailB l r = true ↔ r.data.toList = endL l := by
  have hp := peB_ok hl
  obtain ⟨b1, b2, b3⟩ := end_back (n := (l.length : Int)) (m := sumN l) hp (sumN_lt l)
  rw [Int.toNat_natCast] at b1 b2 b3
  unfold tailB endL
  constructor
  · intro h
    simp only [Bool.and_eq_true, decide_eq_true_eq] at h
    obtain ⟨⟨h1, h2⟩, h3⟩ := h
    obtain ⟨c, m, e1, e2, _, e4⟩ := end_is h1
    have : c = l.length := by omega
    have : m = sumN l := by omega
    subst c m
    rw [← e4]
  · intro h
    have := ext_toList h
    subst this
    rw [b1, b2, b3]
    simp
/-- All blocks but the last one are full, and where the last one is not, no more were looked for. -/
theorem file_of {size : Int} {s : ByteArray} {ps : List (List ByteArray)} {r : ByteArray} (hs : sizeB size = true) (hp : ∀ p ∈ ps, blkB size p = true) (hf : Full ps) (he : s.data.toList = (headS size).data.toList ++ (blks ps ++ r.data.toList)) (hl : ps.flatten.length ≤ 1000000)
    (ht : tailB ps.flatten r = true) : IsFile size s ps.flatten := by
  have hB : layB size ps.flatten = true := by
    unfold layB
    rw [hs, Bool.true_and]
    refine allB_iff.2 fun x hx => ?_
    obtain ⟨p, h1, h2⟩ := List.mem_flatten.1 hx
    exact (blk_parts (hp p h1)).2.2 x h2
  refine ⟨hB, ?_⟩
  rw [he, (tail_iff hl r).1 ht]
  unfold layL
  rw [full_ups hf (fun p h => (blk_parts (hp p h)).2.1)]
theorem file_not {size : Int} {s : ByteArray} {ps : List (List ByteArray)} {r : ByteArray} {l : List ByteArray} (hp : ∀ p ∈ ps, blkB size p = true) (he : s.data.toList = (headS size).data.toList ++ (blks ps ++ r.data.toList))
    (hstop : gB size r = false ∨ ∃ p, ps.getLast? = some p ∧ p.length < 4) (hi : IsFile size s l) : ps.flatten = l ∧ r.data.toList = endL l := by
  obtain ⟨hB, hs⟩ := hi
  rw [he] at hs
  unfold layL at hs
  have h1 := List.append_cancel_left hs
  obtain ⟨cs, c1, c2⟩ := blks_pre _ _ _ _ hp (ups_blk hB) (endL_cons l) h1
  have hcs : cs = [] := by
    cases cs with
    | nil => rfl
    | cons c cs =>
      exfalso
      have hc : blkB size c = true := ups_blk hB c (by rw [c1]; simp)
      rcases hstop with h | ⟨p, h, h4⟩
      · have hr : r = cl (blk c) ++ bs (blks cs ++ endL l) := by apply ext_toList; rw [app_data, bs_data, c2, blks_cons, List.append_assoc]
        have := (get_put hc (bs (blks cs ++ endL l))).1
        rw [← hr, h] at this; cases this
      · have hfull := ups_full l
        have hne : ps ≠ [] := by intro e; rw [e] at h; simp at h
        have hlen : 0 < ps.length := List.length_pos_iff.2 hne
        rw [List.getLast?_eq_getElem?] at h
        have hget : (ups l (cnt4 l))[ps.length - 1]? = some p := by rw [c1, List.getElem?_append_left (by omega)]; exact h
        have := hfull _ p hget (by rw [c1]; simp; omega)
        omega
  subst hcs
  rw [List.append_nil] at c1
  rw [blks_nil, List.nil_append] at c2
  exact ⟨by rw [← c1, ups_all], c2⟩
end RecPlain
end Go.Proofs.YtojlceoeacebmaaGreat
/- Contracts of a file's head: both PutHeads, both GetHeads. -/
namespace Go.Proofs.YtojlceoeacebmaaGreat
open Go.RowKit CrcPlain OctPlain FramePlain RecPlain
set_option linter.unusedVariables false
set_option linter.unusedSimpArgs false
set_option maxRecDepth 20000
theorem rsized_c (k : Int) (hk : I64 k) (w : World) :
    Calls Tryz.prog 94 #[.int .i64 k] w fun e w' => e = .returned (.bool (sizeB k)) ∧ w = w' := by
  have hr : 0 ≤ roomN k ∧ decide (0 < roomN k) = sizeB k := by
    unfold roomN
    cases hs : sizeB k
    · exact ⟨by simp, rfl⟩
    · have h := hs
      simp only [sizeB, decide_eq_true_eq] at h
      rw [if_pos rfl]
      exact ⟨by omega, decide_eq_true (by omega)⟩
  have R := fun w => room_c k hk w
  generalize roomN k = r at R hr
  obtain ⟨h0, hr⟩ := hr
  have HR := Lib.hid hr
  clear hr
  go_enter Tryz.func94, Tryz.ntmps94
  go_wp2_with fail
  refine (R _).mono ?_; rintro e u ⟨rfl, rfl⟩
  go_wp2_with fail
  go_ret
  exact ⟨retb HR.out, rfl⟩
theorem head_app (m : Int) : ByteArray.mk #[67, 72, 65, 73, 78, 49] ++ bs [UInt8.ofNat m.toNat] = bs (nameL ++ [UInt8.ofNat m.toNat]) := by
  have : ByteArray.mk #[67, 72, 65, 73, 78, 49] = bs nameL := rfl
  rw [this, bs_app]
set_option maxHeartbeats 1000000 in
theorem puthead_c (k : Int) (hk : I64 k) (w : World) :
    Calls Tryz.prog 85 #[.int .i64 k] w fun e w' => e = .returned (.tuple #[.string (headR k), .bool (sizeB k)]) ∧ Gr w w' := by
  have R := fun w => rsized_c k hk w
  cases hs : sizeB k
  · rw [hs] at R
    have HR := Lib.hid (headR_no hs)
    clear hs
    go_enter Tryz.func85, Tryz.ntmps85
    go_wp2_with fail
    refine (R _).mono ?_; rintro e u ⟨rfl, rfl⟩
    go_wp2_with fail
    go_ret2
    exact ⟨ret_sb HR.out.symm rfl, Gr.refl _⟩
  · rw [hs] at R
    have HR := Lib.hid (headR_yes hs)
    simp only [sizeB, decide_eq_true_eq] at hs
    have hc1 := fun u => conv1 u k (by omega) (by omega)
    have s1 : (bs [UInt8.ofNat k.toNat]).size = 1 := bs_size _
    have C := fun w => close_c (bs (nameL ++ [UInt8.ofNat k.toNat])) (by rw [bs_size]; simp [nameL]) w
    rw [← head_app] at C
    have E := Lib.hid (head_app k)
    go_enter Tryz.func85, Tryz.ntmps85
    go_wp2_with fail
    refine (R _).mono ?_; rintro e u ⟨rfl, rfl⟩
    go_wp2_with fail
    refine (C _).mono ?_; rintro e u2 ⟨rfl, g2⟩
    go_wp2_with fail
    go_ret2
    exact ⟨ret_sb (by rw [HR.out, E.out]; rfl) rfl, Gr.trans (Below.alloc (Below.refl _ _) (Nat.le_refl _) _) g2⟩
set_option maxHeartbeats 1000000 in
theorem rputhead_c (k : Int) (hk : I64 k) (w : World) :
    Calls Tryz.prog 73 #[.int .i64 k] w fun e w' => e = .returned (.tuple #[.string (headR k), .bool (sizeB k)]) ∧ Gr w w' := by
  cases hs : sizeB k
  · have HR := Lib.hid (headR_no hs)
    simp only [sizeB, decide_eq_false_iff_not] at hs
    by_cases h1 : k < 1
    · clear hs
      go_enter Tryz.func73, Tryz.ntmps73
      go_wp2_with fail
      go_ret2
      exact ⟨ret_sb HR.out.symm rfl, Gr.refl _⟩
    · have h2 : 64 < k := by omega
      clear hs
      go_enter Tryz.func73, Tryz.ntmps73
      go_wp2_with fail
      go_ret2
      exact ⟨ret_sb HR.out.symm rfl, Gr.refl _⟩
  · have HR := Lib.hid (headR_yes hs)
    simp only [sizeB, decide_eq_true_eq] at hs
    have h1 : ¬ k < 1 := by omega
    have h2 : ¬ 64 < k := by omega
    have hc1 := fun u => conv1 u k (by omega) (by omega)
    have s1 : (bs [UInt8.ofNat k.toNat]).size = 1 := bs_size _
    have C := fun w => rclose_c (bs (nameL ++ [UInt8.ofNat k.toNat])) (by rw [bs_size]; simp [nameL]) w
    rw [← head_app] at C
    have E := Lib.hid (head_app k)
    go_enter Tryz.func73, Tryz.ntmps73
    go_wp2_with fail
    refine (C _).mono ?_; rintro e u2 ⟨rfl, g2⟩
    go_wp2_with fail
    go_ret2
    exact ⟨ret_sb (by rw [HR.out, E.out]; rfl) rfl, Gr.trans (Below.alloc (Below.refl _ _) (Nat.le_refl _) _) g2⟩
/-- What eleven bytes say of a size. -/
def ghK (s : ByteArray) : Int := if h : 6 < s.size then (s[6].toNat : Int) else 0
def ghB (s : ByteArray) : Bool := decide (s.size = 11) && sizeB (ghK s) && decide (headR (ghK s) = s)
def ghN (s : ByteArray) : Int := if ghB s = true then ghK s else 0
theorem ret_nb {a b : Int} {p q : Bool} (h : a = b) (k : p = q) : Ending.returned (.tuple #[.int .i64 a, .bool p]) = .returned (.tuple #[.int .i64 b, .bool q]) := by rw [h, k]
theorem index_6 (s : ByteArray) (h : 6 < s.size) (w : World) : (Instr.index 9 (.string s) (.int .i64 6)).run Tryz.prog w = .ok (.int .u8 (s[6].toNat : Int)) w := by
  rw [run_index_string w 9 s .i64 6 Tryz.underlying9, dif_pos ⟨by omega, by omega⟩]
  rfl
set_option maxHeartbeats 1000000 in
theorem gethead_short (s : ByteArray) (h : ¬ s.size = 11) (w : World) :
    Calls Tryz.prog 70 #[.string s] w fun e w' => e = .returned (.tuple #[.int .i64 (ghN s), .bool (ghB s)]) ∧ Gr w w' := by
  have hb : ghB s = false := by unfold ghB; rw [decide_eq_false h]; rfl
  have hn : ghN s = 0 := by unfold ghN; rw [hb]; rfl
  have HB := Lib.hid hb
  have HN := Lib.hid hn
  have h1 : (((s.size : Int)) != 11) = true := by simp; omega
  clear h hb hn
  go_enter Tryz.func70, Tryz.ntmps70
  go_wp2_with fail
  go_ret2
  exact ⟨ret_nb HN.out.symm HB.out.symm, Gr.refl _⟩
set_option maxHeartbeats 1000000 in
theorem gethead_long (s : ByteArray) (h : s.size = 11) (w : World) :
    Calls Tryz.prog 70 #[.string s] w fun e w' => e = .returned (.tuple #[.int .i64 (ghN s), .bool (ghB s)]) ∧ Gr w w' := by
  have h6 : 6 < s.size := by omega
  have hk : ghK s = (s[6].toNat : Int) := by unfold ghK; rw [dif_pos h6]
  have hlt := s[6].toNat_lt
  have hi := index_6 s h6
  rw [← hk] at hi
  have P := fun w => puthead_c (ghK s) (by unfold I64; omega) w
  have hr : 0 ≤ ghK s ∧ ghK s < 256 := by omega
  have hgb : ghB s = (sizeB (ghK s) && decide (headR (ghK s) = s)) := by unfold ghB; rw [decide_eq_true h]; rfl
  have hgn : ghB s = true → ghN s = ghK s := fun hb => by unfold ghN; rw [if_pos hb]
  have hg0 : ghB s = false → ghN s = 0 := fun hb => by unfold ghN; rw [hb]; rfl
  have h1 : (((s.size : Int)) != 11) = false := by simp; omega
  generalize ghK s = k at hk hi P hr hgb hgn
  cases hs : sizeB k
  · have hb : ghB s = false := by rw [hgb, hs]; rfl
    rw [hs] at P
    have HB := Lib.hid hb
    have HN := Lib.hid (hg0 hb)
    clear hb hgb hgn hg0 hs hk h h6 hlt
    go_enter Tryz.func70, Tryz.ntmps70
    go_wp2_with fail
    refine (P _).mono ?_; rintro e u ⟨rfl, g⟩
    go_wp2_with fail
    go_ret2
    exact ⟨ret_nb HN.out.symm HB.out.symm, g⟩
  · rw [hs] at P
    by_cases he : headR k = s
    · have hb : ghB s = true := by rw [hgb, hs, decide_eq_true he]; rfl
      have HB := Lib.hid hb
      have HN := Lib.hid (hgn hb)
      have ht : ((headR k).toList == s.toList) = true := by rw [he]; simp
      have ht2 : ((headR k).toList != s.toList) = false := by rw [he]; simp
      clear hb hgb hgn hg0 hs hk h h6 hlt he
      generalize headR k = H at P ht ht2
      go_enter Tryz.func70, Tryz.ntmps70
      go_wp2_with fail
      refine (P _).mono ?_; rintro e u ⟨rfl, g⟩
      go_wp2_with fail
      go_ret2
      exact ⟨ret_nb HN.out.symm HB.out.symm, g⟩
    · have hb : ghB s = false := by rw [hgb, decide_eq_false he, Bool.and_false]
      have HB := Lib.hid hb
      have HN := Lib.hid (hg0 hb)
      have ht : ((headR k).toList == s.toList) = false := by
        have := eq_list (a := headR k) (b := s)
        rwa [decide_eq_false he] at this
      have ht2 : ((headR k).toList != s.toList) = true := by
        show (!((headR k).toList == s.toList)) = true
        rw [ht]; rfl
      clear hb hgb hgn hg0 hs hk h h6 hlt he
      generalize headR k = H at P ht ht2
      go_enter Tryz.func70, Tryz.ntmps70
      go_wp2_with fail
      refine (P _).mono ?_; rintro e u ⟨rfl, g⟩
      go_wp2_with fail
      go_ret2
      exact ⟨ret_nb HN.out.symm HB.out.symm, g⟩
theorem gethead_c (s : ByteArray) (w : World) :
    Calls Tryz.prog 70 #[.string s] w fun e w' => e = .returned (.tuple #[.int .i64 (ghN s), .bool (ghB s)]) ∧ Gr w w' := by
  by_cases h : s.size = 11
  · exact gethead_long s h w
  · exact gethead_short s h w
set_option maxHeartbeats 1000000 in
theorem rgethead_short (s : ByteArray) (h : ¬ s.size = 11) (w : World) :
    Calls Tryz.prog 47 #[.string s] w fun e w' => e = .returned (.tuple #[.int .i64 (ghN s), .bool (ghB s)]) ∧ Gr w w' := by
  have hb : ghB s = false := by unfold ghB; rw [decide_eq_false h]; rfl
  have hn : ghN s = 0 := by unfold ghN; rw [hb]; rfl
  have HB := Lib.hid hb
  have HN := Lib.hid hn
  have h1 : (((s.size : Int)) != 11) = true := by simp; omega
  clear h hb hn
  go_enter Tryz.func47, Tryz.ntmps47
  go_wp2_with fail
  go_ret2
  exact ⟨ret_nb HN.out.symm HB.out.symm, Gr.refl _⟩
set_option maxHeartbeats 1000000 in
theorem rgethead_long (s : ByteArray) (h : s.size = 11) (w : World) :
    Calls Tryz.prog 47 #[.string s] w fun e w' => e = .returned (.tuple #[.int .i64 (ghN s), .bool (ghB s)]) ∧ Gr w w' := by
  have h6 : 6 < s.size := by omega
  have hk : ghK s = (s[6].toNat : Int) := by unfold ghK; rw [dif_pos h6]
  have hlt := s[6].toNat_lt
  have hi := index_6 s h6
  rw [← hk] at hi
  have P := fun w => rputhead_c (ghK s) (by unfold I64; omega) w
  have hr : 0 ≤ ghK s ∧ ghK s < 256 := by omega
  have hgb : ghB s = (sizeB (ghK s) && decide (headR (ghK s) = s)) := by unfold ghB; rw [decide_eq_true h]; rfl
  have hgn : ghB s = true → ghN s = ghK s := fun hb => by unfold ghN; rw [if_pos hb]
  have hg0 : ghB s = false → ghN s = 0 := fun hb => by unfold ghN; rw [hb]; rfl
  have h1 : (((s.size : Int)) != 11) = false := by simp; omega
  generalize ghK s = k at hk hi P hr hgb hgn
  cases hs : sizeB k
  · have hb : ghB s = false := by rw [hgb, hs]; rfl
    rw [hs] at P
    have HB := Lib.hid hb
    have HN := Lib.hid (hg0 hb)
    clear hb hgb hgn hg0 hs hk h h6 hlt
    go_enter Tryz.func47, Tryz.ntmps47
    go_wp2_with fail
    refine (P _).mono ?_; rintro e u ⟨rfl, g⟩
    go_wp2_with fail
    go_ret2
    exact ⟨ret_nb HN.out.symm HB.out.symm, g⟩
  · rw [hs] at P
    by_cases he : headR k = s
    · have hb : ghB s = true := by rw [hgb, hs, decide_eq_true he]; rfl
      have HB := Lib.hid hb
      have HN := Lib.hid (hgn hb)
      have ht : ((headR k).toList == s.toList) = true := by rw [he]; simp
      have ht2 : ((headR k).toList != s.toList) = false := by rw [he]; simp
      clear hb hgb hgn hg0 hs hk h h6 hlt he
      generalize headR k = H at P ht ht2
      go_enter Tryz.func47, Tryz.ntmps47
      go_wp2_with fail
      refine (P _).mono ?_; rintro e u ⟨rfl, g⟩
      go_wp2_with fail
      go_ret2
      exact ⟨ret_nb HN.out.symm HB.out.symm, g⟩
    · have hb : ghB s = false := by rw [hgb, decide_eq_false he, Bool.and_false]
      have HB := Lib.hid hb
      have HN := Lib.hid (hg0 hb)
      have ht : ((headR k).toList == s.toList) = false := by
        have := eq_list (a := headR k) (b := s)
        rwa [decide_eq_false he] at this
      have ht2 : ((headR k).toList != s.toList) = true := by
        show (!((headR k).toList == s.toList)) = true
        rw [ht]; rfl
      clear hb hgb hgn hg0 hs hk h h6 hlt he
      generalize headR k = H at P ht ht2
      go_enter Tryz.func47, Tryz.ntmps47
      go_wp2_with fail
      refine (P _).mono ?_; rintro e u ⟨rfl, g⟩
      go_wp2_with fail
      go_ret2
      exact ⟨ret_nb HN.out.symm HB.out.symm, g⟩
theorem rgethead_c (s : ByteArray) (w : World) :
    Calls Tryz.prog 47 #[.string s] w fun e w' => e = .returned (.tuple #[.int .i64 (ghN s), .bool (ghB s)]) ∧ Gr w w' := by
  by_cases h : s.size = 11
  · exact rgethead_long s h w
  · exact rgethead_short s h w
end Go.Proofs.YtojlceoeacebmaaGreat
/- What a call may write: of what was there at most some blocks; a block known whole. -/
namespace Go.Proofs.YtojlceoeacebmaaGreat
open Go.RowKit
set_option linter.unusedVariables false
set_option linter.unusedSimpArgs false
set_option maxRecDepth 20000

/-- Of what was there at most the blocks of B are written; there may be new blocks. -/
structure Only (B : Nat → Prop) (w w' : World) : Prop where
  os : w'.os = w.os
  tape : w'.tape = w.tape
  output : w'.output = w.output
  size : w.heap.size ≤ w'.heap.size
  block : ∀ k, k < w.heap.size → ¬ B k → w'.heap[k]? = w.heap[k]?

theorem Only.refl (B : Nat → Prop) (w : World) : Only B w w := ⟨rfl, rfl, rfl, Nat.le_refl _, fun _ _ _ => rfl⟩
theorem Only.trans {B : Nat → Prop} {a b c : World} (h : Only B a b) (k : Only B b c) : Only B a c :=
  ⟨k.os.trans h.os, k.tape.trans h.tape, k.output.trans h.output, Nat.le_trans h.size k.size, fun i hi hB => (k.block i (Nat.lt_of_lt_of_le hi h.size) hB).trans (h.block i hi hB)⟩
/-- The second step may write what is new since the first one's start, too. -/
theorem Only.andThen {B C : Nat → Prop} {a b c : World} (h : Only B a b) (k : Only C b c) (hC : ∀ i, C i → B i ∨ a.heap.size ≤ i) : Only B a c :=
  ⟨k.os.trans h.os, k.tape.trans h.tape, k.output.trans h.output, Nat.le_trans h.size k.size, fun i hi hB => (k.block i (Nat.lt_of_lt_of_le hi h.size) (fun e => by rcases hC i e with h1 | h1; exact hB h1; omega)).trans (h.block i hi hB)⟩
theorem Only.mono {B C : Nat → Prop} {a b : World} (h : Only B a b) (hC : ∀ i, B i → C i) : Only C a b :=
  ⟨h.os, h.tape, h.output, h.size, fun i hi hB => h.block i hi fun e => hB (hC i e)⟩
theorem Only.ofGr {B : Nat → Prop} {a b : World} (h : Gr a b) : Only B a b := ⟨h.os, h.tape, h.output, h.size, fun i hi _ => h.block i hi⟩
theorem Only.ofBelow {B : Nat → Prop} {n : Nat} {a b : World} (h : Below n a b) (hB : ∀ i, n ≤ i → i < a.heap.size → B i) : Only B a b :=
  ⟨h.os, h.tape, h.output, h.size, fun i hi hb => h.block i (by rcases Nat.lt_or_ge i n with h1 | h1; exact h1; exact absurd (hB i h1 hi) hb)⟩
theorem Only.toBelow {B : Nat → Prop} {n : Nat} {a b : World} (h : Only B a b) (hn : n ≤ a.heap.size) (hB : ∀ i, B i → n ≤ i) : Below n a b :=
  ⟨h.os, h.tape, h.output, h.size, fun i hi => h.block i (by omega) fun e => by have := hB i e; omega⟩
theorem Only.drew (B : Nat → Prop) (w : World) : Only B w w.drew := ⟨rfl, rfl, rfl, Nat.le_refl _, fun _ _ _ => rfl⟩
theorem Only.drewN (B : Nat → Prop) (w : World) (n : Nat) : Only B w (w.drewN n) := ⟨rfl, rfl, rfl, Nat.le_refl _, fun _ _ _ => rfl⟩
theorem Only.alloc (B : Nat → Prop) (w : World) (o : Obj) : Only B w (w.alloc o) := ⟨rfl, rfl, rfl, by simp, fun k hk _ => Below.heap_alloc _ _ _ hk⟩
theorem Only.setCell {B : Nat → Prop} (w : World) {a : Addr} (h : B a.block) (u : Value) : Only B w (w.setCell a u) :=
  ⟨rfl, rfl, rfl, by simp [World.setCell], fun k hk hB => Below.heap_setCell _ _ _ _ (fun e => hB (by rw [e]; exact h))⟩
theorem Only.cell1 (w : World) (p i : Nat) (u : Value) : Only (fun k => k = p) w (w.setCell ⟨p, i, none⟩ u) := Only.setCell (B := fun k => k = p) w (a := ⟨p, i, none⟩) rfl u
theorem Only.grown {B : Nat → Prop} {w w' : World} {row : Option Nat} (h : w.grownBy w' row) (hB : ∀ k, row = some k → B k) : Only B w w' :=
  ⟨h.os, h.tape, h.output, h.size, fun k hk hb => h.block k hk fun e => hb (hB k e.symm)⟩
theorem Only.grownBy {w w' : World} {b : Nat} (h : Only (fun i => i = b) w w') : w.grownBy w' (some b) :=
  ⟨h.os, h.tape, h.output, h.size, fun k hk hb => h.block k hk fun e => hb (by rw [e])⟩
theorem Only.cell {B : Nat → Prop} {w w' : World} (h : Only B w w') {p : Addr} (hp : p.block < w.heap.size) (hb : ¬ B p.block) : w'.cell? p = w.cell? p := World.cell?_of_block (w := w) (h.block p.block hp hb)
theorem Only.frozen {B : Nat → Prop} {w w' : World} (h : Only B w w') {p : Addr} (hp : p.block < w.heap.size) (hb : ¬ B p.block) : w'.frozen? p = w.frozen? p := World.frozen?_of_block (w := w) (h.block p.block hp hb)

theorem cells_at {w : World} {b : Nat} {c : Array Value} {T : TypeId} (h : w.heap[b]? = some (.cells c T (0, 0))) (i : Nat) : w.cell? ⟨b, i, none⟩ = c[i]? := by simp [World.cell?, h]
theorem cells_free {w : World} {b : Nat} {c : Array Value} {T : TypeId} (h : w.heap[b]? = some (.cells c T (0, 0))) (i : Nat) : w.frozen? ⟨b, i, none⟩ = false := by simp [World.frozen?, h]
theorem cells_set {w : World} {b : Nat} {c : Array Value} {T : TypeId} (h : w.heap[b]? = some (.cells c T (0, 0))) (i : Nat) (u : Value) : (w.setCell ⟨b, i, none⟩ u).heap[b]? = some (.cells (c.setIfInBounds i u) T (0, 0)) := by
  have hlt := lt_of_block h
  have h' : w.heap[b] = .cells c T (0, 0) := by simpa [Array.getElem?_eq_getElem hlt] using h
  show (w.heap.modify b _)[b]? = _
  rw [Array.getElem?_eq_getElem (by simpa using hlt), Array.getElem_modify_self, h']
  rfl
theorem new_cell (w : World) (c : Array Value) (T : TypeId) {n : Nat} (h : n = w.heap.size) (i : Nat) : (w.alloc (.cells c T)).cell? ⟨n, i, none⟩ = c[i]? := by subst h; exact World.cell?_alloc_new w c T i
end Go.Proofs.YtojlceoeacebmaaGreat
/- A budget: what it is, what its calls make of it, their contracts. -/
namespace Go.Proofs.YtojlceoeacebmaaGreat
open Go.RowKit
set_option linter.unusedVariables false
set_option linter.unusedSimpArgs false
set_option maxRecDepth 20000
/-- A budget: its bound, how many are in memory, how many at most. -/
structure Bu where
  m : Int
  now : Int
  high : Int
structure Bu.ok (b : Bu) : Prop where
  n0 : 0 ≤ b.now
  n1 : b.now ≤ b.high
  h1 : b.high ≤ b.m
  m1 : b.m ≤ 9223372036854775807
def Bu.take (b : Bu) (n : Int) : Bu := if n < 0 ∨ b.m - b.now < n then b else ⟨b.m, b.now + n, max b.high (b.now + n)⟩
def Bu.takeE (b : Bu) (n : Int) : Int := if n < 0 then 1 else if b.m - b.now < n then 9 else 0
def Bu.give (b : Bu) (n : Int) : Bu := if n < 0 then b else ⟨b.m, b.now - min n b.now, b.high⟩
theorem Bu.take_ok {b : Bu} (h : b.ok) (n : Int) : (b.take n).ok := by
  obtain ⟨h1, h2, h3, h4⟩ := h
  unfold Bu.take
  split
  · exact ⟨h1, h2, h3, h4⟩
  · constructor <;> simp only [] <;> omega
theorem Bu.give_ok {b : Bu} (h : b.ok) (n : Int) : (b.give n).ok := by
  obtain ⟨h1, h2, h3, h4⟩ := h
  unfold Bu.give
  split
  · exact ⟨h1, h2, h3, h4⟩
  · constructor <;> simp only [] <;> omega
def bcells (b : Bu) : Array Value := #[.bool true, .int .i64 b.m, .int .i64 b.now, .int .i64 b.high]
/-- At p there is a budget b. -/
def BAt (w : World) (p : Nat) (b : Bu) : Prop := b.ok ∧ w.heap[p]? = some (.cells (bcells b) 67 (0, 0))
theorem BAt.only {w w' : World} {p : Nat} {b : Bu} {C : Nat → Prop} (h : BAt w p b) (g : Only C w w') (hC : ¬ C p) : BAt w' p b :=
  ⟨h.1, by rw [g.block p (lt_of_block h.2) hC]; exact h.2⟩
theorem BAt.gr {w w' : World} {p : Nat} {b : Bu} (h : BAt w p b) (g : Gr w w') : BAt w' p b := h.only (Only.ofGr (B := fun _ => False) g) id
theorem BAt.lt {w : World} {p : Nat} {b : Bu} (h : BAt w p b) : p < w.heap.size := lt_of_block h.2

theorem bmade_c (p : Nat) (b : Bu) (w : World) (h : BAt w p b) :
    Calls Tryz.prog 49 #[.pointer (some ⟨p, 0, none⟩)] w fun e w' => e = .returned (.bool true) ∧ w = w' := by
  have c0 : w.cell? ⟨p, 0, none⟩ = some (.bool true) := by rw [cells_at h.2]; rfl
  clear h
  go_enter Tryz.func49, Tryz.ntmps49
  go_wp2_with fail
  go_ret
  exact ⟨rfl, rfl⟩
theorem bleft_c (p : Nat) (b : Bu) (w : World) (h : BAt w p b) :
    Calls Tryz.prog 66 #[.pointer (some ⟨p, 0, none⟩)] w fun e w' => e = .returned (.int .i64 (b.m - b.now)) ∧ Gr w w' := by
  have C := bmade_c p b w h
  have c1 : w.cell? ⟨p, 1, none⟩ = some (.int .i64 b.m) := by rw [cells_at h.2]; rfl
  have c2 : w.cell? ⟨p, 2, none⟩ = some (.int .i64 b.now) := by rw [cells_at h.2]; rfl
  obtain ⟨⟨n0, n1, h1, m1⟩, _⟩ := h
  go_enter Tryz.func66, Tryz.ntmps66
  go_wp2_with fail
  refine C.mono ?_; rintro e w2 ⟨rfl, rfl⟩
  go_wp2_with fail
  go_quiet (fail)
  go_wp2_with fail
  go_ret
  exact ⟨rfl, grN _ _⟩
theorem bnow_c (p : Nat) (b : Bu) (w : World) (h : BAt w p b) :
    Calls Tryz.prog 16 #[.pointer (some ⟨p, 0, none⟩)] w fun e w' => e = .returned (.int .i64 b.now) ∧ w = w' := by
  have C := bmade_c p b w h
  have c2 : w.cell? ⟨p, 2, none⟩ = some (.int .i64 b.now) := by rw [cells_at h.2]; rfl
  clear h
  go_enter Tryz.func16, Tryz.ntmps16
  go_wp2_with fail
  refine C.mono ?_; rintro e w2 ⟨rfl, rfl⟩
  go_wp2_with fail
  go_ret
  exact ⟨rfl, rfl⟩
theorem bhigh_c (p : Nat) (b : Bu) (w : World) (h : BAt w p b) :
    Calls Tryz.prog 23 #[.pointer (some ⟨p, 0, none⟩)] w fun e w' => e = .returned (.int .i64 b.high) ∧ w = w' := by
  have C := bmade_c p b w h
  have c3 : w.cell? ⟨p, 3, none⟩ = some (.int .i64 b.high) := by rw [cells_at h.2]; rfl
  clear h
  go_enter Tryz.func23, Tryz.ntmps23
  go_wp2_with fail
  refine C.mono ?_; rintro e w2 ⟨rfl, rfl⟩
  go_wp2_with fail
  go_ret
  exact ⟨rfl, rfl⟩
theorem bnew_no (m : Int) (w : World) (h : m < 0) :
    Calls Tryz.prog 6 #[.int .i64 m] w fun e w' => e = .returned (.pointer none) ∧ w = w' := by
  go_enter Tryz.func6, Tryz.ntmps6
  go_wp2_with fail
  go_ret
  exact ⟨rfl, rfl⟩
theorem bnew_c (m : Int) (w : World) (h : 0 ≤ m) (h2 : m ≤ 9223372036854775807) :
    Calls Tryz.prog 6 #[.int .i64 m] w fun e w' => e = .returned (.pointer (some ⟨w.heap.size, 0, none⟩)) ∧ BAt w' w.heap.size ⟨m, 0, 0⟩ ∧ Gr w w' := by
  go_enter Tryz.func6, Tryz.ntmps6
  go_wp2_with fail
  go_ret
  exact ⟨rfl, ⟨⟨Int.le_refl 0, Int.le_refl 0, h, h2⟩, heap_alloc_new w _⟩, Below.alloc (Below.refl _ _) (Nat.le_refl _) _⟩

theorem btake_of {p : Nat} {b : Bu} {w : World} (h : BAt w p b) {n a c : Int} (h0 : 0 ≤ n) (h1 : n ≤ b.m - b.now) (ha : a = b.now + n) (hc : c = max b.high (b.now + n)) :
    BAt ((w.setCell ⟨p, 2, none⟩ (.int .i64 a)).setCell ⟨p, 3, none⟩ (.int .i64 c)).drew p (b.take n) ∧ Only (fun i => i = p) w ((w.setCell ⟨p, 2, none⟩ (.int .i64 a)).setCell ⟨p, 3, none⟩ (.int .i64 c)).drew := by
  subst ha hc
  refine ⟨⟨Bu.take_ok h.1 n, ?_⟩, ((Only.cell1 _ _ _ _).trans (Only.cell1 _ _ _ _)).trans (Only.drew _ _)⟩
  have e : b.take n = ⟨b.m, b.now + n, max b.high (b.now + n)⟩ := by unfold Bu.take; rw [if_neg (by omega)]
  rw [e]; show ((w.setCell _ _).setCell _ _).heap[p]? = _; rw [cells_set (cells_set h.2 2 _) 3 _]; rfl
theorem bgive_of {p : Nat} {b : Bu} {w : World} (h : BAt w p b) {n a : Int} (h0 : 0 ≤ n) (ha : a = b.now - min n b.now) :
    BAt (w.setCell ⟨p, 2, none⟩ (.int .i64 a)).drew p (b.give n) ∧ Only (fun i => i = p) w (w.setCell ⟨p, 2, none⟩ (.int .i64 a)).drew := by
  subst ha
  refine ⟨⟨Bu.give_ok h.1 n, ?_⟩, (Only.cell1 _ _ _ _).trans (Only.drew _ _)⟩
  have e : b.give n = ⟨b.m, b.now - min n b.now, b.high⟩ := by unfold Bu.give; rw [if_neg (by omega)]
  rw [e]; show (w.setCell _ _).heap[p]? = _; rw [cells_set h.2 2 _]; rfl
/-- What Take, and Give, come to. -/
def BTaken (p : Nat) (b' : Bu) (w : World) (v : Value) (e : Ending) (w' : World) : Prop := e = .returned v ∧ BAt w' p b' ∧ Only (fun i => i = p) w w'
set_option maxHeartbeats 1000000 in
theorem btake_c (p : Nat) (b : Bu) (n : Int) (w : World) (h : BAt w p b) :
    Calls Tryz.prog 40 #[.pointer (some ⟨p, 0, none⟩), .int .i64 n] w (BTaken p (b.take n) w (.int .i64 (b.takeE n))) := by
  have C := bmade_c p b w h
  have CL := bleft_c p b w h
  have H := Lib.hid h
  obtain ⟨⟨n0, n1, h1, m1⟩, _⟩ := h
  obtain ⟨l, hl⟩ : ∃ l, l = b.m - b.now := ⟨_, rfl⟩
  rw [← hl] at CL
  have HL := Lib.hid hl
  by_cases h3 : n < 0
  · clear hl
    go_enter Tryz.func40, Tryz.ntmps40
    go_wp2_with fail
    refine C.mono ?_; rintro e w2 ⟨rfl, rfl⟩
    go_wp2_with fail
    go_ret
    rw [show b.take n = b by unfold Bu.take; rw [if_pos (.inl h3)]]
    exact ⟨ret_i (by unfold Bu.takeE; rw [if_pos h3]), H.out, Only.refl _ _⟩
  · by_cases h4 : l < n
    · clear hl
      go_enter Tryz.func40, Tryz.ntmps40
      go_wp2_with fail
      refine C.mono ?_; rintro e w2 ⟨rfl, rfl⟩
      go_wp2_with fail
      refine CL.mono ?_; rintro e w2 ⟨rfl, g⟩
      have HG := Lib.hid g
      clear g
      go_wp2_with fail
      go_ret
      rw [show b.take n = b by unfold Bu.take; rw [← HL.out, if_pos (.inr h4)]]
      exact ⟨ret_i (by unfold Bu.takeE; rw [← HL.out, if_neg (by omega), if_pos h4]), H.out.gr HG.out, Only.ofGr HG.out⟩
    · have he : b.takeE n = 0 := by unfold Bu.takeE; rw [← hl, if_neg h3, if_neg h4]
      rw [he]
      have hle : b.now + n ≤ 9223372036854775807 := by omega
      have K := Lib.hid (fun w2 (g : Gr w w2) a c (ha : a = b.now + n) hc => (btake_of (n := n) (a := a) (c := c) (H.out.gr g) (by omega) (by omega) ha hc).imp id (fun o => (Only.ofGr (B := fun i => i = p) g).trans o))
      clear he hl
      go_enter Tryz.func40, Tryz.ntmps40
      go_wp2_with fail
      refine C.mono ?_; rintro e w2 ⟨rfl, rfl⟩
      go_wp2_with fail
      refine CL.mono ?_; rintro e w2 ⟨rfl, g⟩
      have c2 : w2.cell? ⟨p, 2, none⟩ = some (.int .i64 b.now) := by rw [cells_at (H.out.gr g).2]; rfl
      have c3 : w2.cell? ⟨p, 3, none⟩ = some (.int .i64 b.high) := by rw [cells_at (H.out.gr g).2]; rfl
      have f2 := cells_free (H.out.gr g).2 2
      have f3 := cells_free (H.out.gr g).2 3
      have HG := Lib.hid g
      clear g C CL
      go_wp2_with fail
      go_region
      all_goals go_wp2_with fail
      all_goals
        go_ret
        refine ⟨rfl, K.out _ HG.out _ _ ?_ ?_⟩ <;> omega
set_option maxHeartbeats 1000000 in
theorem bgive_c (p : Nat) (b : Bu) (n : Int) (w : World) (h : BAt w p b) :
    Calls Tryz.prog 43 #[.pointer (some ⟨p, 0, none⟩), .int .i64 n] w (BTaken p (b.give n) w (.tuple #[])) := by
  have C := bmade_c p b w h
  have c2 : w.cell? ⟨p, 2, none⟩ = some (.int .i64 b.now) := by rw [cells_at h.2]; rfl
  have f2 := cells_free h.2 2
  have H := Lib.hid h
  obtain ⟨⟨n0, n1, h1, m1⟩, _⟩ := h
  by_cases h3 : n < 0
  · go_enter Tryz.func43, Tryz.ntmps43
    go_wp2_with fail
    refine C.mono ?_; rintro e w2 ⟨rfl, rfl⟩
    go_wp2_with fail
    refine bodyPost_ret (results_none rfl _ _ _) rfl ?_
    rw [show b.give n = b by unfold Bu.give; rw [if_pos h3]]
    exact ⟨rfl, H.out, Only.refl _ _⟩
  · have K := Lib.hid (fun a (ha : a = b.now - min n b.now) => bgive_of (n := n) (a := a) H.out (by omega) ha)
    go_enter Tryz.func43, Tryz.ntmps43
    go_wp2_with fail
    refine C.mono ?_; rintro e w2 ⟨rfl, rfl⟩
    go_wp2_with fail
    go_region
    all_goals go_wp2_with fail
    all_goals
      go_end0
      refine ⟨rfl, K.out _ ?_⟩; omega
end Go.Proofs.YtojlceoeacebmaaGreat

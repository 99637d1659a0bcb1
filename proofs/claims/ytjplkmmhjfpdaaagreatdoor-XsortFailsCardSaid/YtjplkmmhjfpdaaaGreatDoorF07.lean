/- In one text: RecPlain2, RecHead, RdPlain. -/
import Derived.Test.YtjplkmmhjfpdaaaGreatDoorF05
import Derived.Test.YtjplkmmhjfpdaaaGreatDoorF00
import Derived.Test.YtjplkmmhjfpdaaaGreatDoorF04
import Derived.Test.YtjplkmmhjfpdaaaGreatDoorF06
/- Plain facts: what Get reads is a block; what blocks and an end are of a file. -/
namespace Go.Proofs.YtjplkmmhjfpdaaaGreatDoor
open Go.RowKit CrcPlain OctPlain FramePlain RecPlain
set_option linter.unusedVariables false
set_option linter.unusedSimpArgs false
set_option maxRecDepth 20000
namespace RecPlain
theorem pieces_size {s : ByteArray} {m : Nat} : ∀ j, j * m ≤ s.size → ∀ x ∈ pieces s m j, x.size = m
  | 0, _, x, hx => by simp [pieces] at hx
  | j + 1, h, x, hx => by
    have hj : j * m + m ≤ s.size := by rw [Nat.add_mul, Nat.one_mul] at h; exact h
    rw [pieces, List.mem_append] at hx
    rcases hx with hx | hx
    · exact pieces_size j (by omega) x hx
    · simp at hx; subst hx; rw [ByteArray.size_extract]; omega
theorem cat_pieces {s : ByteArray} {m : Nat} : ∀ j, j * m ≤ s.size → cat (pieces s m j) = s.data.toList.take (j * m)
  | 0, _ => by simp [pieces, cat]
  | j + 1, h => by
    have hj : j * m + m ≤ s.size := by rw [Nat.add_mul, Nat.one_mul] at h; exact h
    rw [pieces, cat_snoc, cat_pieces j (by omega), extract_data, List.drop_take, Nat.add_mul, Nat.one_mul, List.take_add]
    congr 2
    omega
theorem cl_of {s : ByteArray} (h : opB s = true) : cl (ahead s) = s ∧ 4 ≤ s.size := by
  have h4 : 4 ≤ s.size := by unfold opB at h; rw [decide_eq_true_iff] at h; exact h.1
  exact ⟨(cl_is s h4).2 h, h4⟩
theorem get_is {size : Int} {s : ByteArray} (h : gB size s = true) :
    blkB size (gL size s) = true ∧ ∃ n : Nat, gN size s = n ∧ n ≤ s.size ∧ 6 ≤ n ∧ s.extract 0 n = cl (blk (gL size s)) := by
  have hN := gN_yes h
  have hL := gL_yes h
  have hh := h
  unfold gB at hh
  simp only [Bool.and_eq_true, decide_eq_true_eq] at hh
  obtain ⟨⟨⟨h1, h2⟩, h3⟩, h4⟩ := hh
  have h1' := h1
  simp only [sizeB, decide_eq_true_eq] at h1'
  obtain ⟨n, hn, hn6, hn261⟩ := gLen_nat h1' h2
  obtain ⟨m, hm⟩ : ∃ m : Nat, size = m := ⟨size.toNat, by omega⟩
  have hnm : 5 + cntN s * m = n := by
    unfold gLen at hn
    rw [hm] at hn
    have : ((5 + cntN s * m : Nat) : Int) = (n : Int) := by rw [Int.natCast_add, Int.natCast_mul]; exact hn
    omega
  have hbody : gBody size s = (opS (s.extract 0 n)).extract 1 (opS (s.extract 0 n)).size := by unfold gBody; rw [hn, Int.toNat_natCast]
  rw [hn, Int.toNat_natCast] at h4
  rw [hn] at h3
  have hxs : (s.extract 0 n).size = n := by rw [ByteArray.size_extract]; omega
  obtain ⟨hcl, _⟩ := cl_of h4
  rw [opS_yes h4] at hbody
  have has : (ahead (s.extract 0 n)).size = n - 4 := by rw [ahead_size _ (by omega), hxs]
  have hbs : (gBody size s).size = cntN s * m := by rw [hbody, ByteArray.size_extract, has]; omega
  have hsp : splB (gBody size s) size = true := by
    unfold splB
    rw [decide_eq_true_iff, hbs, hm, Int.natCast_mul]
    exact ⟨by omega, Int.mul_emod_left _ _⟩
  have hLL : gL size s = pieces (gBody size s) m (cntN s) := by
    rw [hL, splL_yes hsp, hbs, hm, Int.toNat_natCast, Nat.mul_div_cancel _ (by omega)]
  have hlen : (gL size s).length = cntN s := by rw [hLL, pieces_length]
  have hsz := pieces_size (s := gBody size s) (m := m) (cntN s) (by omega)
  have hcat := cat_pieces (s := gBody size s) (m := m) (cntN s) (by omega)
  rw [← hLL] at hsz hcat
  refine ⟨?_, n, by rw [hN, hn], by omega, hn6, ?_⟩
  · unfold blkB
    rw [h1, hlen, decide_eq_true h2, Bool.true_and, Bool.true_and]
    exact allB_iff.2 fun x hx => by rw [hsz x hx, hm]
  · have hb : blk (gL size s) = ahead (s.extract 0 n) := by
      apply ext_toList
      rw [blk_data, hlen, hcat, List.take_of_length_le (by rw [data_length]; omega), hbody, extract_data, List.take_of_length_le (by rw [data_length]; omega)]
      have h0 : 0 < s.size := by omega
      have hc := cntN_at s h0
      have hne : (ahead (s.extract 0 n)).data.toList = s.data.toList.take (n - 4) := by
        rw [ahead_data, extract_data, hxs, List.drop_zero, List.take_take, Nat.min_eq_left (by omega)]
      have hcons : s.data.toList = s[0] :: s.data.toList.drop 1 := by
        have := List.drop_eq_getElem_cons (l := s.data.toList) (i := 0) (by rw [data_length]; exact h0)
        rw [List.drop_zero] at this
        exact this
      rw [hne, hcons, show n - 4 = (n - 5) + 1 by omega, List.take_succ_cons, List.drop_succ_cons, List.drop_zero, ← hc]
      simp
    rw [hb, hcl]
theorem get_split {size : Int} {s : ByteArray} (h : gB size s = true) : ∃ n : Nat, gN size s = n ∧ n ≤ s.size ∧ 6 ≤ n ∧ s.data.toList = (cl (blk (gL size s))).data.toList ++ (s.extract n s.size).data.toList := by
  obtain ⟨_, n, h1, h2, h3, h4⟩ := get_is h
  refine ⟨n, h1, h2, h3, ?_⟩
  have e : s.data.toList.take s.size = s.data.toList := List.take_of_length_le (by rw [data_length]; omega)
  rw [← h4, extract_data, extract_data, e, List.drop_zero, List.take_append_drop]
theorem end_is {s : ByteArray} (h : eB s = true) : ∃ c m : Nat, eC s = c ∧ eM s = m ∧ m < 4294967296 ∧ s = cl (endS c m) := by
  have hC := eC_yes h
  have hM := eM_yes h
  unfold eB at h
  simp only [Bool.and_eq_true, decide_eq_true_eq] at h
  obtain ⟨⟨⟨h1, h2⟩, h3⟩, h4, h5⟩ := h
  obtain ⟨m, hm, hm2, hm3, _⟩ := get4_lt s (by omega)
  obtain ⟨c, hc, hc2⟩ := get8_yes h4
  refine ⟨c, m, by rw [hC, hc], by rw [hM, hm2], hm, ?_⟩
  rw [hc2, hm3, ahead_end s h1 h2]
  exact (cl_of h3).1.symm
def tailB (l : List ByteArray) (r : ByteArray) : Bool := eB r && decide (eC r = l.length) && decide (eM r = (sumN l : Nat))
theorem peB_ok {n : Nat} (h : n ≤ 1000000) : peB (n : Int) = true := by unfold peB; rw [decide_eq_true_iff]; omega
theorem tail_iff {l : List ByteArray} (hl : l.length ≤ 1000000) (r : ByteArray) : tailB l r = true ↔ r.data.toList = endL l := by
  have hp := peB_ok hl
  obtain ⟨b1, b2, b3⟩ := end_back (n := (l.length : Int)) (m := sumN l) hp (sumN_lt l)
  rw [Int.toNat_natCast] at b1 b2 b3
  unfold tailB endL
  constructor
  · intro h
    simp only [Bool.and_eq_true, decide_eq_true_eq] at h
    obtain ⟨⟨h1, h2⟩, h3⟩ := h
    obtain ⟨c, m, e1, e2, _, e4⟩ := end_is h1
    have : c = l.length := by omega
    have : m = sumN l := by omega
    subst c m
    rw [← e4]
  · intro h
    have := ext_toList h
    subst this
    rw [b1, b2, b3]
    simp
theorem file_of {size : Int} {s : ByteArray} {ps : List (List ByteArray)} {r : ByteArray} (hs : sizeB size = true) (hp : ∀ p ∈ ps, blkB size p = true) (hf : Full ps) (he : s.data.toList = (headS size).data.toList ++ (blks ps ++ r.data.toList)) (hl : ps.flatten.length ≤ 1000000)
    (ht : tailB ps.flatten r = true) : IsFile size s ps.flatten := by
  have hB : layB size ps.flatten = true := by
    unfold layB
    rw [hs, Bool.true_and]
    refine allB_iff.2 fun x hx => ?_
    obtain ⟨p, h1, h2⟩ := List.mem_flatten.1 hx
    exact (blk_parts (hp p h1)).2.2 x h2
  refine ⟨hB, ?_⟩
  rw [he, (tail_iff hl r).1 ht]
  unfold layL
  rw [full_ups hf (fun p h => (blk_parts (hp p h)).2.1)]
theorem file_not {size : Int} {s : ByteArray} {ps : List (List ByteArray)} {r : ByteArray} {l : List ByteArray} (hp : ∀ p ∈ ps, blkB size p = true) (he : s.data.toList = (headS size).data.toList ++ (blks ps ++ r.data.toList))
    (hstop : gB size r = false ∨ ∃ p, ps.getLast? = some p ∧ p.length < 4) (hi : IsFile size s l) : ps.flatten = l ∧ r.data.toList = endL l := by
  obtain ⟨hB, hs⟩ := hi
  rw [he] at hs
  unfold layL at hs
  have h1 := List.append_cancel_left hs
  obtain ⟨cs, c1, c2⟩ := blks_pre _ _ _ _ hp (ups_blk hB) (endL_cons l) h1
  have hcs : cs = [] := by
    cases cs with
    | nil => rfl
    | cons c cs =>
      exfalso
      have hc : blkB size c = true := ups_blk hB c (by rw [c1]; simp)
      rcases hstop with h | ⟨p, h, h4⟩
      · have hr : r = cl (blk c) ++ bs (blks cs ++ endL l) := by apply ext_toList; rw [app_data, bs_data, c2, blks_cons, List.append_assoc]
        have := (get_put hc (bs (blks cs ++ endL l))).1
        rw [← hr, h] at this; cases this
      · have hfull := ups_full l
        have hne : ps ≠ [] := by intro e; rw [e] at h; simp at h
        have hlen : 0 < ps.length := List.length_pos_iff.2 hne
        rw [List.getLast?_eq_getElem?] at h
        have hget : (ups l (cnt4 l))[ps.length - 1]? = some p := by rw [c1, List.getElem?_append_left (by omega)]; exact h
        have := hfull _ p hget (by rw [c1]; simp; omega)
        omega
  subst hcs
  rw [List.append_nil] at c1
  rw [blks_nil, List.nil_append] at c2
  exact ⟨by rw [← c1, ups_all], c2⟩
end RecPlain
end Go.Proofs.YtjplkmmhjfpdaaaGreatDoor
/- Contracts of a file's head: both PutHeads, both GetHeads. -/
namespace Go.Proofs.YtjplkmmhjfpdaaaGreatDoor
open Go.RowKit CrcPlain OctPlain FramePlain RecPlain
set_option linter.unusedVariables false
set_option linter.unusedSimpArgs false
set_option maxRecDepth 20000
theorem rsized_c (k : Int) (hk : I64 k) (w : World) :
    Calls Tryz.prog 170 #[.int .i64 k] w fun e w' => e = .returned (.bool (sizeB k)) ∧ w = w' := by
  have hr : 0 ≤ roomN k ∧ decide (0 < roomN k) = sizeB k := by
    unfold roomN
    cases hs : sizeB k
    · exact ⟨by simp, rfl⟩
    · have h := hs
      simp only [sizeB, decide_eq_true_eq] at h
      rw [if_pos rfl]
      exact ⟨by omega, decide_eq_true (by omega)⟩
  have R := fun w => room_c k hk w
  generalize roomN k = r at R hr
  obtain ⟨h0, hr⟩ := hr
  have HR := Lib.hid hr
  clear hr
  go_enter Tryz.func170, Tryz.ntmps170
  go_wp2_with fail
  refine (R _).mono ?_; rintro e u ⟨rfl, rfl⟩
  go_wp2_with fail
  go_ret
  exact ⟨retb HR.out, rfl⟩
theorem head_app (m : Int) : ByteArray.mk #[67, 72, 65, 73, 78, 49] ++ bs [UInt8.ofNat m.toNat] = bs (nameL ++ [UInt8.ofNat m.toNat]) := by
  have : ByteArray.mk #[67, 72, 65, 73, 78, 49] = bs nameL := rfl
  rw [this, bs_app]
set_option maxHeartbeats 1000000 in
theorem puthead_c (k : Int) (hk : I64 k) (w : World) :
    Calls Tryz.prog 139 #[.int .i64 k] w fun e w' => e = .returned (.tuple #[.string (headR k), .bool (sizeB k)]) ∧ Gr w w' := by
  have R := fun w => rsized_c k hk w
  cases hs : sizeB k
  · rw [hs] at R
    have HR := Lib.hid (headR_no hs)
    clear hs
    go_enter Tryz.func139, Tryz.ntmps139
    go_wp2_with fail
    refine (R _).mono ?_; rintro e u ⟨rfl, rfl⟩
    go_wp2_with fail
    go_ret2
    exact ⟨ret_sb HR.out.symm rfl, Gr.refl _⟩
  · rw [hs] at R
    have HR := Lib.hid (headR_yes hs)
    simp only [sizeB, decide_eq_true_eq] at hs
    have hc1 := fun u => conv1 u k (by omega) (by omega)
    have s1 : (bs [UInt8.ofNat k.toNat]).size = 1 := bs_size _
    have C := fun w => close_c (bs (nameL ++ [UInt8.ofNat k.toNat])) (by rw [bs_size]; simp [nameL]) w
    rw [← head_app] at C
    have E := Lib.hid (head_app k)
    go_enter Tryz.func139, Tryz.ntmps139
    go_wp2_with fail
    refine (R _).mono ?_; rintro e u ⟨rfl, rfl⟩
    go_wp2_with fail
    refine (C _).mono ?_; rintro e u2 ⟨rfl, g2⟩
    go_wp2_with fail
    go_ret2
    exact ⟨ret_sb (by rw [HR.out, E.out]; rfl) rfl, Gr.trans (Below.alloc (Below.refl _ _) (Nat.le_refl _) _) g2⟩
set_option maxHeartbeats 1000000 in
theorem rputhead_c (k : Int) (hk : I64 k) (w : World) :
    Calls Tryz.prog 30 #[.int .i64 k] w fun e w' => e = .returned (.tuple #[.string (headR k), .bool (sizeB k)]) ∧ Gr w w' := by
  cases hs : sizeB k
  · have HR := Lib.hid (headR_no hs)
    simp only [sizeB, decide_eq_false_iff_not] at hs
    by_cases h1 : k < 1
    · clear hs
      go_enter Tryz.func30, Tryz.ntmps30
      go_wp2_with fail
      go_ret2
      exact ⟨ret_sb HR.out.symm rfl, Gr.refl _⟩
    · have h2 : 64 < k := by omega
      clear hs
      go_enter Tryz.func30, Tryz.ntmps30
      go_wp2_with fail
      go_ret2
      exact ⟨ret_sb HR.out.symm rfl, Gr.refl _⟩
  · have HR := Lib.hid (headR_yes hs)
    simp only [sizeB, decide_eq_true_eq] at hs
    have h1 : ¬ k < 1 := by omega
    have h2 : ¬ 64 < k := by omega
    have hc1 := fun u => conv1 u k (by omega) (by omega)
    have s1 : (bs [UInt8.ofNat k.toNat]).size = 1 := bs_size _
    have C := fun w => rclose_c (bs (nameL ++ [UInt8.ofNat k.toNat])) (by rw [bs_size]; simp [nameL]) w
    rw [← head_app] at C
    have E := Lib.hid (head_app k)
    go_enter Tryz.func30, Tryz.ntmps30
    go_wp2_with fail
    refine (C _).mono ?_; rintro e u2 ⟨rfl, g2⟩
    go_wp2_with fail
    go_ret2
    exact ⟨ret_sb (by rw [HR.out, E.out]; rfl) rfl, Gr.trans (Below.alloc (Below.refl _ _) (Nat.le_refl _) _) g2⟩
def ghK (s : ByteArray) : Int := if h : 6 < s.size then (s[6].toNat : Int) else 0
def ghB (s : ByteArray) : Bool := decide (s.size = 11) && sizeB (ghK s) && decide (headR (ghK s) = s)
def ghN (s : ByteArray) : Int := if ghB s = true then ghK s else 0
theorem ret_nb {a b : Int} {p q : Bool} (h : a = b) (k : p = q) : Ending.returned (.tuple #[.int .i64 a, .bool p]) = .returned (.tuple #[.int .i64 b, .bool q]) := by rw [h, k]
theorem index_6 (s : ByteArray) (h : 6 < s.size) (w : World) : (Instr.index 9 (.string s) (.int .i64 6)).run Tryz.prog w = .ok (.int .u8 (s[6].toNat : Int)) w := by
  rw [run_index_string w 9 s .i64 6 Tryz.underlying9, dif_pos ⟨by omega, by omega⟩]
  rfl
set_option maxHeartbeats 1000000 in
theorem gethead_short (s : ByteArray) (h : ¬ s.size = 11) (w : World) :
    Calls Tryz.prog 134 #[.string s] w fun e w' => e = .returned (.tuple #[.int .i64 (ghN s), .bool (ghB s)]) ∧ Gr w w' := by
  have hb : ghB s = false := by unfold ghB; rw [decide_eq_false h]; rfl
  have hn : ghN s = 0 := by unfold ghN; rw [hb]; rfl
  have HB := Lib.hid hb
  have HN := Lib.hid hn
  have h1 : (((s.size : Int)) != 11) = true := by simp; omega
  clear h hb hn
  go_enter Tryz.func134, Tryz.ntmps134
  go_wp2_with fail
  go_ret2
  exact ⟨ret_nb HN.out.symm HB.out.symm, Gr.refl _⟩
set_option maxHeartbeats 1000000 in
theorem gethead_long (s : ByteArray) (h : s.size = 11) (w : World) :
    Calls Tryz.prog 134 #[.string s] w fun e w' => e = .returned (.tuple #[.int .i64 (ghN s), .bool (ghB s)]) ∧ Gr w w' := by
  have h6 : 6 < s.size := by omega
  have hk : ghK s = (s[6].toNat : Int) := by unfold ghK; rw [dif_pos h6]
  have hlt := s[6].toNat_lt
  have hi := index_6 s h6
  rw [← hk] at hi
  have P := fun w => puthead_c (ghK s) (by unfold I64; omega) w
  have hr : 0 ≤ ghK s ∧ ghK s < 256 := by omega
  have hgb : ghB s = (sizeB (ghK s) && decide (headR (ghK s) = s)) := by unfold ghB; rw [decide_eq_true h]; rfl
  have hgn : ghB s = true → ghN s = ghK s := fun hb => by unfold ghN; rw [if_pos hb]
  have hg0 : ghB s = false → ghN s = 0 := fun hb => by unfold ghN; rw [hb]; rfl
  have h1 : (((s.size : Int)) != 11) = false := by simp; omega
  generalize ghK s = k at hk hi P hr hgb hgn
  cases hs : sizeB k
  · have hb : ghB s = false := by rw [hgb, hs]; rfl
    rw [hs] at P
    have HB := Lib.hid hb
    have HN := Lib.hid (hg0 hb)
    clear hb hgb hgn hg0 hs hk h h6 hlt
    go_enter Tryz.func134, Tryz.ntmps134
    go_wp2_with fail
    refine (P _).mono ?_; rintro e u ⟨rfl, g⟩
    go_wp2_with fail
    go_ret2
    exact ⟨ret_nb HN.out.symm HB.out.symm, g⟩
  · rw [hs] at P
    by_cases he : headR k = s
    · have hb : ghB s = true := by rw [hgb, hs, decide_eq_true he]; rfl
      have HB := Lib.hid hb
      have HN := Lib.hid (hgn hb)
      have ht : ((headR k).toList == s.toList) = true := by rw [he]; simp
      have ht2 : ((headR k).toList != s.toList) = false := by rw [he]; simp
      clear hb hgb hgn hg0 hs hk h h6 hlt he
      generalize headR k = H at P ht ht2
      go_enter Tryz.func134, Tryz.ntmps134
      go_wp2_with fail
      refine (P _).mono ?_; rintro e u ⟨rfl, g⟩
      go_wp2_with fail
      go_ret2
      exact ⟨ret_nb HN.out.symm HB.out.symm, g⟩
    · have hb : ghB s = false := by rw [hgb, decide_eq_false he, Bool.and_false]
      have HB := Lib.hid hb
      have HN := Lib.hid (hg0 hb)
      have ht : ((headR k).toList == s.toList) = false := by
        have := eq_list (a := headR k) (b := s)
        rwa [decide_eq_false he] at this
      have ht2 : ((headR k).toList != s.toList) = true := by
        show (!((headR k).toList == s.toList)) = true
        rw [ht]; rfl
      clear hb hgb hgn hg0 hs hk h h6 hlt he
      generalize headR k = H at P ht ht2
      go_enter Tryz.func134, Tryz.ntmps134
      go_wp2_with fail
      refine (P _).mono ?_; rintro e u ⟨rfl, g⟩
      go_wp2_with fail
      go_ret2
      exact ⟨ret_nb HN.out.symm HB.out.symm, g⟩
theorem gethead_c (s : ByteArray) (w : World) :
    Calls Tryz.prog 134 #[.string s] w fun e w' => e = .returned (.tuple #[.int .i64 (ghN s), .bool (ghB s)]) ∧ Gr w w' := by
  by_cases h : s.size = 11
  · exact gethead_long s h w
  · exact gethead_short s h w
end Go.Proofs.YtjplkmmhjfpdaaaGreatDoor
/- Plain facts on a reader of records, without the model: what each call makes of the disk, the budget and the reader. -/
namespace Go.Proofs.YtjplkmmhjfpdaaaGreatDoor
open Go.RowKit FsPlain CrcPlain OctPlain FramePlain RecPlain
set_option linter.unusedVariables false
set_option linter.unusedSimpArgs false
set_option maxRecDepth 20000
namespace RdPlain
structure Rs where
  nm : ByteArray
  size : Int
  pos : Nat
  left : Nat
  queue : List ByteArray
  all : List ByteArray
  told : Nat
  opn : Bool
  bad : Bool
  whole : Bool
  short : Bool
  ec : Int
  em : Int
structure N3 where
  s : St
  b : Bu
  x : Rs
def shutN (m : N3) : N3 := if m.x.opn = true then ⟨m.s, m.b.give 4, { m.x with opn := false }⟩ else m
def N3.isBad (m : N3) : N3 := ⟨m.s, m.b, { m.x with bad := true }⟩
def wrongN (m : N3) : N3 := shutN m.isBad
def closeN (m : N3) : N3 := if m.x.opn = true then wrongN m else m
def askN (x : Rs) : Nat := min x.left (max 17 (roomN x.size).toNat)
def bytesN (m : N3) : ByteArray := bs (readR m.s m.x.nm.data.toList m.x.pos (askN m.x)).1
def errN (m : N3) : Int := (readR m.s m.x.nm.data.toList m.x.pos (askN m.x)).2
def N3.asked (m : N3) : N3 := ⟨m.s.call, m.b, m.x⟩
def N3.ended (m : N3) (t : ByteArray) : N3 := ⟨m.s, m.b, { m.x with whole := true, ec := eC t, em := eM t }⟩
def N3.filled (m : N3) (t : ByteArray) : N3 := ⟨m.s, m.b, { m.x with short := decide ((gL m.x.size t).length < 4), queue := gL m.x.size t, all := m.x.all ++ gL m.x.size t, pos := m.x.pos + (gN m.x.size t).toNat, left := m.x.left - (gN m.x.size t).toNat }⟩
def N3.popped (m : N3) : N3 := ⟨m.s, m.b, { m.x with queue := m.x.queue.tail, told := m.x.told + 1 }⟩
def isEnd (x : Rs) (t : ByteArray) : Prop := gB x.size t = false ∧ eB t = true ∧ t.size = x.left ∧ eC t = (x.all.length : Int) ∧ eM t = (sumN x.all : Nat)
instance (x : Rs) (t : ByteArray) : Decidable (isEnd x t) := by unfold isEnd; infer_instance
abbrev Ans := ByteArray × Bool × Int
def noneA (e : Int) : Ans := (⟨#[]⟩, false, e)
def popN (m : N3) : N3 × Ans := (m.popped, (m.x.queue.headD ⟨#[]⟩, true, 0))
def fillN (m : N3) : N3 × Ans :=
  if ¬ errN m = 0 then (wrongN m.asked, noneA (errN m))
  else if isEnd m.x (bytesN m) then (shutN (m.asked.ended (bytesN m)), noneA 0)
  else if gB m.x.size (bytesN m) = false ∨ m.x.short = true then (wrongN m.asked, noneA 6)
  else popN (m.asked.filled (bytesN m))
def nextN (m : N3) : N3 × Ans :=
  if m.x.opn = false then (m, noneA (if m.x.bad = true then 14 else 0))
  else if m.x.queue = [] then fillN m
  else popN m
def newRs (nm : ByteArray) (size : Int) (left : Nat) : Rs := ⟨nm, size, 11, left, [], [], 0, true, false, false, false, 0, 0⟩
def openN (s : St) (b : Bu) (nm : ByteArray) (size : Int) : St × Bu × Int × Nat :=
  if sizeB size = false then (s, b, 1, 0)
  else if ¬ b.takeE 4 = 0 then (s, b.take 4, b.takeE 4, 0)
  else if ¬ (sizeR s nm.data.toList).2 = 0 then (s.call, (b.take 4).give 4, (sizeR s nm.data.toList).2, 0)
  else if (sizeR s nm.data.toList).1 < 11 then (s.call, (b.take 4).give 4, 6, 0)
  else if ¬ (readR s.call nm.data.toList 0 11).2 = 0 then (s.call.call, (b.take 4).give 4, (readR s.call nm.data.toList 0 11).2, 0)
  else if ¬ (ghB (bs (readR s.call nm.data.toList 0 11).1) = true ∧ ghN (bs (readR s.call nm.data.toList 0 11).1) = size) then (s.call.call, (b.take 4).give 4, 6, 0)
  else (s.call.call, b.take 4, 0, (sizeR s nm.data.toList).1.toNat - 11)
structure N3.ok (m : N3) : Prop where
  s : m.s.ok
  b : m.b.ok
  n1 : m.x.nm.size ≤ 24
  n2 : rightB m.x.nm.data.toList = true
  z : sizeB m.x.size = true
  az : ∀ r ∈ m.x.all, r.size ≤ 1000
  fit : m.x.pos + m.x.left ≤ 16777216
  cnt : m.x.all.length = m.x.told + m.x.queue.length
  ql : m.x.queue.length ≤ 4
theorem ok_shutN {m : N3} (h : m.ok) : (shutN m).ok := by
  unfold shutN
  split
  · exact ⟨h.s, Bu.give_ok h.b 4, h.n1, h.n2, h.z, h.az, h.fit, h.cnt, h.ql⟩
  · exact h
theorem ok_isBad {m : N3} (h : m.ok) : m.isBad.ok := ⟨h.s, h.b, h.n1, h.n2, h.z, h.az, h.fit, h.cnt, h.ql⟩
theorem ok_wrongN {m : N3} (h : m.ok) : (wrongN m).ok := ok_shutN (ok_isBad h)
theorem ok_asked {m : N3} (h : m.ok) : m.asked.ok := ⟨ok_call h.s, h.b, h.n1, h.n2, h.z, h.az, h.fit, h.cnt, h.ql⟩
theorem ok_ended {m : N3} (h : m.ok) (t : ByteArray) : (m.ended t).ok := ⟨h.s, h.b, h.n1, h.n2, h.z, h.az, h.fit, h.cnt, h.ql⟩
theorem ok_popped {m : N3} (h : m.ok) (hq : m.x.queue ≠ []) : m.popped.ok := by
  obtain ⟨r, q, hr⟩ := List.exists_cons_of_ne_nil hq
  have h1 := h.cnt
  have h2 := h.ql
  refine ⟨h.s, h.b, h.n1, h.n2, h.z, h.az, h.fit, ?_, ?_⟩
  · show m.x.all.length = m.x.told + 1 + m.x.queue.tail.length; rw [hr] at h1 ⊢; simp at h1 ⊢; omega
  · show m.x.queue.tail.length ≤ 4; rw [hr] at h2 ⊢; simp at h2 ⊢; omega
theorem bytesN_size {m : N3} (h : errN m = 0) : (bytesN m).size = askN m.x := by
  unfold errN at h
  unfold bytesN
  rw [bs_size]
  unfold readR at h ⊢
  split at h
  · simp at h
  · rename_i h1
    rw [if_neg h1]
    split at h
    · simp at h
    · rename_i f hf
      split at h
      · simp at h
      · rename_i h2
        rw [if_neg h2]
        simp
        omega
theorem gL_size {size : Int} {t : ByteArray} (h : gB size t = true) : 1 ≤ (gL size t).length ∧ (gL size t).length ≤ 4 ∧ ∀ r ∈ gL size t, (r.size : Int) = size := by
  obtain ⟨h1, _⟩ := get_is h
  unfold blkB at h1
  simp only [Bool.and_eq_true, decide_eq_true_eq] at h1
  exact ⟨h1.1.2.1, h1.1.2.2, allB_iff.1 h1.2⟩
theorem ok_filled {m : N3} (h : m.ok) {t : ByteArray} (hb : gB m.x.size t = true) (ht : t.size ≤ m.x.left) (hq : m.x.queue = []) : (m.filled t).ok ∧ (m.filled t).x.queue ≠ [] := by
  obtain ⟨h1, h2, h3⟩ := gL_size hb
  obtain ⟨_, n, hn, hn2, _⟩ := get_is hb
  have hz : 1 ≤ m.x.size ∧ m.x.size ≤ 64 := by simpa [sizeB] using h.z
  have hf := h.fit
  have hc := h.cnt
  refine ⟨⟨h.s, h.b, h.n1, h.n2, h.z, ?_, ?_, ?_, h2⟩, fun e => ?_⟩
  · intro r hr
    rcases List.mem_append.1 hr with hr | hr
    · exact h.az r hr
    · have := h3 r hr; omega
  · show m.x.pos + (gN m.x.size t).toNat + (m.x.left - (gN m.x.size t).toNat) ≤ _
    rw [hn]; simp only [Int.toNat_natCast]; omega
  · show (m.x.all ++ gL m.x.size t).length = m.x.told + (gL m.x.size t).length
    rw [List.length_append, hc, hq]; simp
  · have e2 : gL m.x.size t = [] := e
    rw [e2] at h1; simp at h1
theorem ask_left (x : Rs) : askN x ≤ x.left := Nat.min_le_left _ _
theorem ok_fillN {m : N3} (h : m.ok) (hq : m.x.queue = []) : (fillN m).1.ok := by
  unfold fillN
  split
  · exact ok_wrongN (ok_asked h)
  · rename_i h0
    have hs := bytesN_size (m := m) (by simpa using h0)
    split
    · exact ok_shutN (ok_ended (ok_asked h) _)
    · split
      · exact ok_wrongN (ok_asked h)
      · rename_i h2
        have hb : gB m.x.size (bytesN m) = true := by
          cases hb : gB m.x.size (bytesN m)
          · exact absurd (.inl hb) h2
          · rfl
        obtain ⟨k1, k2⟩ := ok_filled (m := m.asked) (ok_asked h) hb (by rw [hs]; exact ask_left _) hq
        exact ok_popped k1 k2
theorem ok_nextN {m : N3} (h : m.ok) : (nextN m).1.ok := by
  unfold nextN
  split
  · exact h
  · split
    · rename_i hq; exact ok_fillN h hq
    · rename_i hq; exact ok_popped h hq
theorem shutN_calls (m : N3) : (shutN m).s.calls = m.s.calls ∧ (shutN m).x.told = m.x.told := by unfold shutN; split <;> exact ⟨rfl, rfl⟩
theorem nextN_calls (m : N3) : m.s.calls ≤ (nextN m).1.s.calls ∧ (nextN m).1.s.calls ≤ m.s.calls + 1 ∧ (nextN m).1.x.told ≤ m.x.told + 1 := by
  have h1 : (wrongN m.asked).s.calls = m.s.calls + 1 ∧ (wrongN m.asked).x.told = m.x.told := shutN_calls _
  unfold nextN
  split
  · simp only []; omega
  · split
    · unfold fillN
      split
      · simp only []; omega
      · split
        · have h2 : (shutN (m.asked.ended (bytesN m))).s.calls = m.s.calls + 1 ∧ (shutN (m.asked.ended (bytesN m))).x.told = m.x.told := shutN_calls _
          simp only []; omega
        · split
          · simp only []; omega
          · show m.s.calls ≤ m.s.calls + 1 ∧ m.s.calls + 1 ≤ m.s.calls + 1 ∧ m.x.told + 1 ≤ m.x.told + 1; omega
    · show m.s.calls ≤ m.s.calls ∧ m.s.calls ≤ m.s.calls + 1 ∧ m.x.told + 1 ≤ m.x.told + 1; omega
theorem openN_calls (s : St) (b : Bu) (nm : ByteArray) (size : Int) : s.calls ≤ (openN s b nm size).1.calls ∧ (openN s b nm size).1.calls ≤ s.calls + 2 := by
  have h1 : s.call.calls = s.calls + 1 := rfl
  have h2 : s.call.call.calls = s.calls + 2 := by show s.calls + 1 + 1 = _; omega
  unfold openN
  repeat' split
  all_goals simp only []; omega
theorem sizeR_le {s : St} (hs : s.ok) (n : List UInt8) : (sizeR s n).1 ≤ 16777216 := by
  unfold sizeR
  split
  · simp
  · split
    · simp
    · rename_i f hf
      have h1 := used_le (get_mem hf)
      have h2 := hs.u
      have h3 := hs.r1
      simp only []; omega
theorem openN_yes {s : St} {b : Bu} {nm : ByteArray} {size : Int} (h0 : (openN s b nm size).2.2.1 = 0) : sizeB size = true ∧ b.takeE 4 = 0 ∧ (sizeR s nm.data.toList).2 = 0 ∧ 11 ≤ (sizeR s nm.data.toList).1 ∧ (readR s.call nm.data.toList 0 11).2 = 0 ∧ ghB (bs (readR s.call nm.data.toList 0 11).1) = true ∧ ghN (bs (readR s.call nm.data.toList 0 11).1) = size ∧ openN s b nm size = (s.call.call, b.take 4, 0, (sizeR s nm.data.toList).1.toNat - 11) := by
  unfold openN at h0 ⊢
  split at h0
  · simp at h0
  · rename_i h1
    rw [if_neg h1]
    split at h0
    · rename_i h2; exact absurd h0 h2
    · rename_i h2
      rw [if_neg h2]
      split at h0
      · rename_i h3; exact absurd h0 h3
      · rename_i h3
        rw [if_neg h3]
        split at h0
        · simp at h0
        · rename_i h4
          rw [if_neg h4]
          split at h0
          · rename_i h5; exact absurd h0 h5
          · rename_i h5
            rw [if_neg h5]
            split at h0
            · simp at h0
            · rename_i h6
              rw [if_neg h6]
              have h6' := Decidable.not_not.1 h6
              exact ⟨by simpa using h1, Decidable.not_not.1 h2, Decidable.not_not.1 h3, by omega, Decidable.not_not.1 h5, h6'.1, h6'.2, rfl⟩
theorem openN_ok {s : St} {b : Bu} {nm : ByteArray} {size : Int} (hs : s.ok) (hb : b.ok) (hn : nm.size ≤ 24) (hm : rightB nm.data.toList = true) (h0 : (openN s b nm size).2.2.1 = 0) : (N3.mk (openN s b nm size).1 (openN s b nm size).2.1 (newRs nm size (openN s b nm size).2.2.2)).ok := by
  obtain ⟨h1, h2, h3, h4, h5, h6, h7, e⟩ := openN_yes h0
  have hl := sizeR_le hs nm.data.toList
  rw [e]
  refine ⟨ok_call (ok_call hs), Bu.take_ok hb 4, hn, hm, h1, (fun r hr => by cases hr), ?_, rfl, Nat.zero_le _⟩
  show 11 + ((sizeR s nm.data.toList).1.toNat - 11) ≤ 16777216
  omega
end RdPlain
end Go.Proofs.YtjplkmmhjfpdaaaGreatDoor

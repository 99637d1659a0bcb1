/- In one text: FrameBack, RecPlain, RecPlain2, RecHead, Bud. -/
import Derived.Test.YtignfbdgpgidpaaGreatDoorS34
import Derived.Test.YtignfbdgpgidpaaGreatDoorS35
import Derived.Test.YtignfbdgpgidpaaGreatDoorS18
import Derived.Deep.DeepCutAuto
import Derived.Test.YtignfbdgpgidpaaGreatDoorS01
import Derived.RegionTactic
import Derived.ChangeAlike
import Derived.Deep.QuietTactic
import Derived.BigQuiet
/- Plain facts: blocks and ends come back; turned ones do not. -/
namespace Go.Proofs.YtignfbdgpgidpaaGreatDoor
open Go.RowKit CrcPlain OctPlain FramePlain
set_option linter.unusedVariables false
set_option linter.unusedSimpArgs false
set_option maxRecDepth 20000
theorem ext_toList {a b : ByteArray} (h : a.data.toList = b.data.toList) : a = b := by
  apply ByteArray.ext
  exact Array.toList_inj.1 h
theorem cl_data (s : ByteArray) : (cl s).data.toList = s.data.toList ++ tl (more 0 s.data.toList) := by
  simp [cl, bs, ByteArray.data_append]
theorem app_data (s t : ByteArray) : (s ++ t).data.toList = s.data.toList ++ t.data.toList := by simp [ByteArray.data_append]
theorem extract_data (s : ByteArray) (a b : Nat) : (s.extract a b).data.toList = (s.data.toList.take b).drop a := by
  rw [List.drop_take]
  simp [ByteArray.data_extract]
theorem bs_data (l : List UInt8) : (bs l).data.toList = l := by simp [bs]
theorem app_extract (s t : ByteArray) : (s ++ t).extract 0 s.size = s := by
  apply ext_toList
  rw [extract_data, app_data, List.drop_zero, List.take_append_of_le_length (by rw [data_length]; omega), List.take_of_length_le (by rw [data_length]; omega)]
theorem cat_app (a b : List ByteArray) : cat (a ++ b) = cat a ++ cat b := by simp [cat]
theorem cat_at {m : Nat} {l : List ByteArray} (h : ∀ s ∈ l, s.size = m) {j : Nat} {x : ByteArray} (hx : l[j]? = some x) : (bs (cat l)).extract (j * m) (j * m + m) = x := by
  obtain ⟨hj, rfl⟩ := List.getElem?_eq_some_iff.1 hx
  have hxm := h _ (List.getElem_mem hj)
  have e : l = l.take j ++ (l[j] :: l.drop (j + 1)) := by
    rw [List.getElem_cons_drop, List.take_append_drop]
  have e1 : cat l = cat (l.take j) ++ (l[j].data.toList ++ cat (l.drop (j + 1))) := by
    have h1 := congrArg cat e
    rw [cat_app] at h1
    exact h1
  have l1 : (cat (l.take j)).length = j * m := by
    rw [cat_length (size := m) (fun s hs => h s (List.mem_of_mem_take hs)), List.length_take, Nat.min_eq_left (by omega)]
  have l2 : l[j].data.toList.length = m := by rw [data_length]; exact hxm
  apply ext_toList
  rw [extract_data, bs_data, List.drop_take, e1, List.drop_append_of_le_length (by omega), List.drop_of_length_le (by omega), List.nil_append]
  have : j * m + m - j * m = m := by omega
  rw [this, List.take_append_of_le_length (by omega), List.take_of_length_le (by omega)]
theorem pieces_cat {m : Nat} {l : List ByteArray} (h : ∀ s ∈ l, s.size = m) : ∀ j, j ≤ l.length → pieces (bs (cat l)) m j = l.take j := by
  intro j
  induction j with
  | zero => intro _; rfl
  | succ j ih =>
    intro hj
    rw [pieces, ih (by omega), cat_at h (List.getElem?_eq_getElem (by omega)), List.take_succ_eq_append_getElem (by omega)]
theorem spl_cat {m : Nat} (hm : 1 ≤ m) {l : List ByteArray} (h : ∀ s ∈ l, s.size = m) : splL (bs (cat l)) m = l := by
  have hl := cat_length h
  have hb : splB (bs (cat l)) (m : Int) = true := by
    unfold splB
    rw [decide_eq_true_iff, bs_size, hl]
    refine ⟨by omega, ?_⟩
    rw [Int.natCast_mul, Int.mul_emod_left]
  rw [splL_yes hb, Int.toNat_natCast, bs_size, hl, Nat.mul_div_cancel _ (by omega), pieces_cat h _ (Nat.le_refl _), List.take_length]
theorem blk_parts {size : Int} {l : List ByteArray} (h : blkB size l = true) : sizeB size = true ∧ (1 ≤ l.length ∧ l.length ≤ 4) ∧ ∀ s ∈ l, (s.size : Int) = size := by
  unfold blkB at h
  simp only [Bool.and_eq_true, decide_eq_true_eq] at h
  exact ⟨h.1.1, h.1.2, allB_iff.1 h.2⟩
theorem blk_data (l : List ByteArray) : (blk l).data.toList = UInt8.ofNat l.length :: cat l := by unfold blk; rw [bs_data]
theorem cnt_head {s : ByteArray} {b : UInt8} {r : List UInt8} (h : s.data.toList = b :: r) : cntN s = b.toNat := by
  unfold cntN cutL
  rw [h, List.drop_zero]
  simp [num]
theorem blk_cl {size : Int} {l : List ByteArray} (h : blkB size l = true) : ∃ n : Nat, (cl (blk l)).size = n ∧ 6 ≤ n ∧ n ≤ 261 ∧ (5 + (l.length : Int) * size = n) ∧ ∃ r, (cl (blk l)).data.toList = UInt8.ofNat l.length :: r := by
  obtain ⟨h1, h2, h3⟩ := blk_parts h
  simp only [sizeB, decide_eq_true_eq] at h1
  obtain ⟨m, rfl⟩ : ∃ m : Nat, size = m := ⟨size.toNat, by omega⟩
  have hc := cat_length (size := m) (l := l) (fun s hs => by have := h3 s hs; omega)
  have hz : (cl (blk l)).size = 5 + l.length * m := by rw [cl_size, blk_size, hc]; omega
  have h4 : l.length = 1 ∨ l.length = 2 ∨ l.length = 3 ∨ l.length = 4 := by omega
  refine ⟨_, hz, ?_, ?_, ?_, ?_⟩
  · rcases h4 with e | e | e | e <;> rw [e] <;> omega
  · rcases h4 with e | e | e | e <;> rw [e] <;> omega
  · rw [Int.natCast_add, Int.natCast_mul]; rfl
  · rw [cl_data, blk_data]; exact ⟨_, rfl⟩
theorem get_put {size : Int} {l : List ByteArray} (h : blkB size l = true) (more : ByteArray) :
    gB size (cl (blk l) ++ more) = true ∧ gN size (cl (blk l) ++ more) = (cl (blk l)).size ∧ gL size (cl (blk l) ++ more) = l := by
  obtain ⟨h1, h2, h3⟩ := blk_parts h
  obtain ⟨n, hn, hn6, hn261, e5, r, hr⟩ := blk_cl h
  have hcnt : cntN (cl (blk l) ++ more) = l.length := by
    rw [cnt_head (by rw [app_data, hr]; rfl)]
    rw [UInt8.toNat_ofNat']; omega
  have hlen : gLen size (cl (blk l) ++ more) = n := by unfold gLen; rw [hcnt]; exact e5
  have hex : (cl (blk l) ++ more).extract 0 n = cl (blk l) := by rw [← hn]; exact app_extract _ _
  obtain ⟨o1, o2⟩ := op_cl (blk l)
  have hb : gB size (cl (blk l) ++ more) = true := by
    unfold gB
    rw [h1, hcnt, hlen, Int.toNat_natCast, hex, o1, decide_eq_true h2, decide_eq_true (by rw [ByteArray.size_append]; omega)]
    rfl
  refine ⟨hb, by rw [gN_yes hb, hlen, hn], ?_⟩
  have hbody : gBody size (cl (blk l) ++ more) = bs (cat l) := by
    unfold gBody
    rw [hlen, Int.toNat_natCast, hex, o2]
    apply ext_toList
    rw [extract_data, bs_data, List.take_of_length_le (by rw [data_length]; omega), blk_data]
    rfl
  rw [gL_yes hb, hbody]
  simp only [sizeB, decide_eq_true_eq] at h1
  obtain ⟨m, rfl⟩ : ∃ m : Nat, size = m := ⟨size.toNat, by omega⟩
  exact spl_cat (by omega) (fun s hs => by have := h3 s hs; omega)
theorem end_back {n : Int} {m : Nat} (h : peB n = true) (hm : m < 4294967296) : eB (cl (endS n.toNat m)) = true ∧ eC (cl (endS n.toNat m)) = n ∧ eM (cl (endS n.toNat m)) = m := by
  unfold peB at h
  rw [decide_eq_true_iff] at h
  obtain ⟨c, rfl⟩ : ∃ c : Nat, n = c := ⟨n.toNat, by omega⟩
  rw [Int.toNat_natCast]
  obtain ⟨a1, a2, a3, a4⟩ := get_end (c := c) (m := m) (by omega) hm
  have hb : eB (cl (endS c m)) = true := by
    unfold eB
    have hz : (cl (endS c m)).size = 17 := by rw [cl_size, endS_size]
    rw [a1, a2, a3, (op_cl _).1, hz, decide_eq_true (show (c : Int) ≤ 4611686018427387904 by omega)]
    rfl
  exact ⟨hb, by rw [eC_yes hb, a3], by rw [eM_yes hb, a4]⟩
theorem endback_c {n : Int} {m : Nat} (h : peB n = true) (hm : m < 4294967296) (u : World) :
    Calls Tryz.prog 125 #[.string (cl (endS n.toNat m))] u fun e w' => e = .returned (.tuple #[.agg #[.int .i64 n, .int .u32 (m : Int)], .bool true]) ∧ Gr u w' := by
  obtain ⟨e1, e2, e3⟩ := end_back h hm
  refine (getend_c _ u).mono ?_
  rintro e w' ⟨he, g⟩
  rw [e1, e2, e3] at he
  exact ⟨he, g⟩
end Go.Proofs.YtignfbdgpgidpaaGreatDoor
/- Plain facts on files of records: what a file is; that it has its records; what is none. -/
namespace Go.Proofs.YtignfbdgpgidpaaGreatDoor
open Go.RowKit CrcPlain OctPlain FramePlain
set_option linter.unusedVariables false
set_option linter.unusedSimpArgs false
set_option maxRecDepth 20000
namespace RecPlain
def four (l : List ByteArray) (j : Nat) : List ByteArray := (l.drop (4 * j)).take 4
def ups (l : List ByteArray) (j : Nat) : List (List ByteArray) := (List.range j).map (four l)
def cnt4 (l : List ByteArray) : Nat := (l.length + 3) / 4
def blks (ps : List (List ByteArray)) : List UInt8 := (ps.map fun p => (cl (blk p)).data.toList).flatten
def nameL : List UInt8 := [67, 72, 65, 73, 78, 49]
def headS (size : Int) : ByteArray := cl (bs (nameL ++ [UInt8.ofNat size.toNat]))
def sumN (l : List ByteArray) : Nat := more 0 (cat l)
def endL (l : List ByteArray) : List UInt8 := (cl (endS l.length (sumN l))).data.toList
def layL (size : Int) (l : List ByteArray) : List UInt8 := (headS size).data.toList ++ (blks (ups l (cnt4 l)) ++ endL l)
def layB (size : Int) (l : List ByteArray) : Bool := sizeB size && allB size l
def IsFile (size : Int) (s : ByteArray) (l : List ByteArray) : Prop := layB size l = true ∧ s.data.toList = layL size l
theorem sumN_lt (l : List ByteArray) : sumN l < 4294967296 := more_lt (by decide) _
theorem headS_size (size : Int) : (headS size).size = 11 := by unfold headS; rw [cl_size, bs_size]; rfl
theorem headS_length (size : Int) : (headS size).data.toList.length = 11 := by rw [data_length, headS_size]
theorem blks_nil : blks [] = [] := rfl
theorem blks_cons (p : List ByteArray) (ps : List (List ByteArray)) : blks (p :: ps) = (cl (blk p)).data.toList ++ blks ps := rfl
theorem blks_app (a b : List (List ByteArray)) : blks (a ++ b) = blks a ++ blks b := by simp [blks]
theorem ups_succ (l : List ByteArray) (j : Nat) : ups l (j + 1) = ups l j ++ [four l j] := by simp [ups, List.range_succ]
theorem ups_length (l : List ByteArray) (j : Nat) : (ups l j).length = j := by simp [ups]
theorem four_mem {l : List ByteArray} {j : Nat} {x : ByteArray} (h : x ∈ four l j) : x ∈ l := List.mem_of_mem_drop (List.mem_of_mem_take h)
theorem ups_flat (l : List ByteArray) : ∀ j, (ups l j).flatten = l.take (4 * j) := by
  intro j
  induction j with
  | zero => rfl
  | succ j ih =>
    rw [ups_succ, List.flatten_append, ih]
    simp only [List.flatten_cons, List.flatten_nil, List.append_nil]
    unfold four
    rw [show 4 * (j + 1) = 4 * j + 4 by omega, List.take_add]
theorem ups_all (l : List ByteArray) : (ups l (cnt4 l)).flatten = l := by
  rw [ups_flat, List.take_of_length_le]
  unfold cnt4; omega
theorem endL_length (l : List ByteArray) : (endL l).length = 17 := by unfold endL; rw [data_length, cl_size, endS_size]
def Full (ps : List (List ByteArray)) : Prop := ∀ j p, ps[j]? = some p → j + 1 < ps.length → p.length = 4
theorem flat_take {ps : List (List ByteArray)} (h : Full ps) : ∀ j, j < ps.length → ((ps.take j).flatten).length = 4 * j := by
  intro j
  induction j with
  | zero => intro _; rfl
  | succ j ih =>
    intro hj
    rw [List.take_succ_eq_append_getElem (by omega), List.flatten_append, List.length_append, ih (by omega)]
    have := h j ps[j] (List.getElem?_eq_getElem (by omega)) (by omega)
    simp [this]
    omega
theorem full_four {ps : List (List ByteArray)} (h : Full ps) (h1 : ∀ p ∈ ps, 1 ≤ p.length ∧ p.length ≤ 4) (j : Nat) (hj : j < ps.length) : four ps.flatten j = ps[j] := by
  have e : ps.flatten = (ps.take j).flatten ++ (ps[j] ++ (ps.drop (j + 1)).flatten) := by
    have : ps = ps.take j ++ (ps[j] :: ps.drop (j + 1)) := by rw [List.getElem_cons_drop, List.take_append_drop]
    have h2 := congrArg List.flatten this
    rw [List.flatten_append, List.flatten_cons] at h2
    exact h2
  have hl := flat_take h j hj
  have h14 := h1 _ (List.getElem_mem hj)
  unfold four
  rw [e, List.drop_append_of_le_length (by omega), List.drop_of_length_le (by omega), List.nil_append]
  by_cases hlast : j + 1 < ps.length
  · have h4 := h j ps[j] (List.getElem?_eq_getElem hj) hlast
    rw [List.take_append_of_le_length (by omega), List.take_of_length_le (by omega)]
  · rw [List.drop_of_length_le (by omega), List.flatten_nil, List.append_nil, List.take_of_length_le (by omega)]
theorem full_ups {ps : List (List ByteArray)} (h : Full ps) (h1 : ∀ p ∈ ps, 1 ≤ p.length ∧ p.length ≤ 4) : ups ps.flatten (cnt4 ps.flatten) = ps := by
  have hc : cnt4 ps.flatten = ps.length := by
    rcases Nat.eq_zero_or_pos ps.length with h0 | h0
    · rw [List.eq_nil_of_length_eq_zero h0]; rfl
    · have e : ps = ps.take (ps.length - 1) ++ [ps[ps.length - 1]] := by
        rw [← List.take_succ_eq_append_getElem (by omega), List.take_of_length_le (by omega)]
      have hf := flat_take h (ps.length - 1) (by omega)
      have hp := h1 _ (List.getElem_mem (show ps.length - 1 < ps.length by omega))
      have hl : ps.flatten.length = 4 * (ps.length - 1) + ps[ps.length - 1].length := by
        have h2 := congrArg (fun x => x.flatten.length) e
        simp only [List.flatten_append, List.length_append, List.flatten_cons, List.flatten_nil, List.append_nil] at h2
        rw [h2, hf]
      unfold cnt4
      omega
  rw [hc]
  apply List.ext_getElem
  · rw [ups_length]
  · intro j h2 h3
    have := full_four h h1 j h3
    simp only [ups, List.getElem_map, List.getElem_range]
    exact this
theorem blks_length {size : Nat} : ∀ (ps : List (List ByteArray)), (∀ p ∈ ps, ∀ s ∈ p, s.size = size) → (blks ps).length = 5 * ps.length + ps.flatten.length * size
  | [], _ => by simp [blks_nil]
  | p :: ps, h => by
    rw [blks_cons, List.length_append, blks_length ps fun q hq => h q (by simp [hq]), data_length, cl_size, blk_size, cat_length (h p (by simp)), List.flatten_cons, List.length_append, List.length_cons, Nat.add_mul]
    omega
theorem layL_length {size : Nat} {l : List ByteArray} (h : layB size l = true) : (layL size l).length = 28 + 5 * cnt4 l + l.length * size := by
  unfold layB at h
  rw [Bool.and_eq_true] at h
  have ha := allB_iff.1 h.2
  unfold layL
  rw [List.length_append, List.length_append, headS_length, endL_length, blks_length (size := size) _ (fun p hp s hs => ?_), ups_length, ups_all]
  · omega
  · unfold ups at hp
    obtain ⟨j, _, rfl⟩ := List.mem_map.1 hp
    have := ha s (four_mem hs)
    omega
end RecPlain
end Go.Proofs.YtignfbdgpgidpaaGreatDoor
/- Plain facts: what Get reads is a block; what blocks and an end are of a file. -/
namespace Go.Proofs.YtignfbdgpgidpaaGreatDoor
open Go.RowKit CrcPlain OctPlain FramePlain RecPlain
set_option linter.unusedVariables false
set_option linter.unusedSimpArgs false
set_option maxRecDepth 20000
namespace RecPlain
theorem pieces_size {s : ByteArray} {m : Nat} : ∀ j, j * m ≤ s.size → ∀ x ∈ pieces s m j, x.size = m
  | 0, _, x, hx => by simp [pieces] at hx
  | j + 1, h, x, hx => by
    have hj : j * m + m ≤ s.size := by rw [Nat.add_mul, Nat.one_mul] at h; exact h
    rw [pieces, List.mem_append] at hx
    rcases hx with hx | hx
    · exact pieces_size j (by omega) x hx
    · simp at hx; subst hx; rw [ByteArray.size_extract]; omega
theorem cat_pieces {s : ByteArray} {m : Nat} : ∀ j, j * m ≤ s.size → cat (pieces s m j) = s.data.toList.take (j * m)
  | 0, _ => by simp [pieces, cat]
  | j + 1, h => by
    have hj : j * m + m ≤ s.size := by rw [Nat.add_mul, Nat.one_mul] at h; exact h
    rw [pieces, cat_snoc, cat_pieces j (by omega), extract_data, List.drop_take, Nat.add_mul, Nat.one_mul, List.take_add]
    congr 2
    omega
theorem cl_of {s : ByteArray} (h : opB s = true) : cl (ahead s) = s ∧ 4 ≤ s.size := by
  have h4 : 4 ≤ s.size := by unfold opB at h; rw [decide_eq_true_iff] at h; exact h.1
  exact ⟨(cl_is s h4).2 h, h4⟩
theorem get_is {size : Int} {s : ByteArray} (h : gB size s = true) :
    blkB size (gL size s) = true ∧ ∃ n : Nat, gN size s = n ∧ n ≤ s.size ∧ 6 ≤ n ∧ s.extract 0 n = cl (blk (gL size s)) := by
  have hN := gN_yes h
  have hL := gL_yes h
  have hh := h
  unfold gB at hh
  simp only [Bool.and_eq_true, decide_eq_true_eq] at hh
  obtain ⟨⟨⟨h1, h2⟩, h3⟩, h4⟩ := hh
  have h1' := h1
  simp only [sizeB, decide_eq_true_eq] at h1'
  obtain ⟨n, hn, hn6, hn261⟩ := gLen_nat h1' h2
  obtain ⟨m, hm⟩ : ∃ m : Nat, size = m := ⟨size.toNat, by omega⟩
  have hnm : 5 + cntN s * m = n := by
    unfold gLen at hn
    rw [hm] at hn
    have : ((5 + cntN s * m : Nat) : Int) = (n : Int) := by rw [Int.natCast_add, Int.natCast_mul]; exact hn
    omega
  have hbody : gBody size s = (opS (s.extract 0 n)).extract 1 (opS (s.extract 0 n)).size := by unfold gBody; rw [hn, Int.toNat_natCast]
  rw [hn, Int.toNat_natCast] at h4
  rw [hn] at h3
  have hxs : (s.extract 0 n).size = n := by rw [ByteArray.size_extract]; omega
  obtain ⟨hcl, _⟩ := cl_of h4
  rw [opS_yes h4] at hbody
  have has : (ahead (s.extract 0 n)).size = n - 4 := by rw [ahead_size _ (by omega), hxs]
  have hbs : (gBody size s).size = cntN s * m := by rw [hbody, ByteArray.size_extract, has]; omega
  have hsp : splB (gBody size s) size = true := by
    unfold splB
    rw [decide_eq_true_iff, hbs, hm, Int.natCast_mul]
    exact ⟨by omega, Int.mul_emod_left _ _⟩
  have hLL : gL size s = pieces (gBody size s) m (cntN s) := by
    rw [hL, splL_yes hsp, hbs, hm, Int.toNat_natCast, Nat.mul_div_cancel _ (by omega)]
  have hlen : (gL size s).length = cntN s := by rw [hLL, pieces_length]
  have hsz := pieces_size (s := gBody size s) (m := m) (cntN s) (by omega)
  have hcat := cat_pieces (s := gBody size s) (m := m) (cntN s) (by omega)
  rw [← hLL] at hsz hcat
  refine ⟨?_, n, by rw [hN, hn], by omega, hn6, ?_⟩
  · unfold blkB
    rw [h1, hlen, decide_eq_true h2, Bool.true_and, Bool.true_and]
    exact allB_iff.2 fun x hx => by rw [hsz x hx, hm]
  · have hb : blk (gL size s) = ahead (s.extract 0 n) := by
      apply ext_toList
      rw [blk_data, hlen, hcat, List.take_of_length_le (by rw [data_length]; omega), hbody, extract_data, List.take_of_length_le (by rw [data_length]; omega)]
      have h0 : 0 < s.size := by omega
      have hc := cntN_at s h0
      have hne : (ahead (s.extract 0 n)).data.toList = s.data.toList.take (n - 4) := by
        rw [ahead_data, extract_data, hxs, List.drop_zero, List.take_take, Nat.min_eq_left (by omega)]
      have hcons : s.data.toList = s[0] :: s.data.toList.drop 1 := by
        have := List.drop_eq_getElem_cons (l := s.data.toList) (i := 0) (by rw [data_length]; exact h0)
        rw [List.drop_zero] at this
        exact this
      rw [hne, hcons, show n - 4 = (n - 5) + 1 by omega, List.take_succ_cons, List.drop_succ_cons, List.drop_zero, ← hc]
      simp
    rw [hb, hcl]
theorem get_split {size : Int} {s : ByteArray} (h : gB size s = true) : ∃ n : Nat, gN size s = n ∧ n ≤ s.size ∧ 6 ≤ n ∧ s.data.toList = (cl (blk (gL size s))).data.toList ++ (s.extract n s.size).data.toList := by
  obtain ⟨_, n, h1, h2, h3, h4⟩ := get_is h
  refine ⟨n, h1, h2, h3, ?_⟩
  have e : s.data.toList.take s.size = s.data.toList := List.take_of_length_le (by rw [data_length]; omega)
  rw [← h4, extract_data, extract_data, e, List.drop_zero, List.take_append_drop]
theorem end_is {s : ByteArray} (h : eB s = true) : ∃ c m : Nat, eC s = c ∧ eM s = m ∧ m < 4294967296 ∧ s = cl (endS c m) := by
  have hC := eC_yes h
  have hM := eM_yes h
  unfold eB at h
  simp only [Bool.and_eq_true, decide_eq_true_eq] at h
  obtain ⟨⟨⟨h1, h2⟩, h3⟩, h4, h5⟩ := h
  obtain ⟨m, hm, hm2, hm3, _⟩ := get4_lt s (by omega)
  obtain ⟨c, hc, hc2⟩ := get8_yes h4
  refine ⟨c, m, by rw [hC, hc], by rw [hM, hm2], hm, ?_⟩
  rw [hc2, hm3, ahead_end s h1 h2]
  exact (cl_of h3).1.symm
def tailB (l : List ByteArray) (r : ByteArray) : Bool := eB r && decide (eC r = l.length) && decide (eM r = (sumN l : Nat))
theorem peB_ok {n : Nat} (h : n ≤ 1000000) : peB (n : Int) = true := by unfold peB; rw [decide_eq_true_iff]; omega
theorem tail_iff {l : List ByteArray} (hl : l.length ≤ 1000000) (r : ByteArray) : tailB l r = true ↔ r.data.toList = endL l := by
  have hp := peB_ok hl
  obtain ⟨b1, b2, b3⟩ := end_back (n := (l.length : Int)) (m := sumN l) hp (sumN_lt l)
  rw [Int.toNat_natCast] at b1 b2 b3
  unfold tailB endL
  constructor
  · intro h
    simp only [Bool.and_eq_true, decide_eq_true_eq] at h
    obtain ⟨⟨h1, h2⟩, h3⟩ := h
    obtain ⟨c, m, e1, e2, _, e4⟩ := end_is h1
    have : c = l.length := by omega
    have : m = sumN l := by omega
    subst c m
    rw [← e4]
  · intro h
    have := ext_toList h
    subst this
    rw [b1, b2, b3]
    simp
theorem file_of {size : Int} {s : ByteArray} {ps : List (List ByteArray)} {r : ByteArray} (hs : sizeB size = true) (hp : ∀ p ∈ ps, blkB size p = true) (hf : Full ps) (he : s.data.toList = (headS size).data.toList ++ (blks ps ++ r.data.toList)) (hl : ps.flatten.length ≤ 1000000)
    (ht : tailB ps.flatten r = true) : IsFile size s ps.flatten := by
  have hB : layB size ps.flatten = true := by
    unfold layB
    rw [hs, Bool.true_and]
    refine allB_iff.2 fun x hx => ?_
    obtain ⟨p, h1, h2⟩ := List.mem_flatten.1 hx
    exact (blk_parts (hp p h1)).2.2 x h2
  refine ⟨hB, ?_⟩
  rw [he, (tail_iff hl r).1 ht]
  unfold layL
  rw [full_ups hf (fun p h => (blk_parts (hp p h)).2.1)]
end RecPlain
end Go.Proofs.YtignfbdgpgidpaaGreatDoor
/- Contracts of a file's head: both PutHeads, both GetHeads. -/
namespace Go.Proofs.YtignfbdgpgidpaaGreatDoor
open Go.RowKit CrcPlain OctPlain FramePlain RecPlain
set_option linter.unusedVariables false
set_option linter.unusedSimpArgs false
set_option maxRecDepth 20000
theorem rsized_c (k : Int) (hk : I64 k) (w : World) :
    Calls Tryz.prog 153 #[.int .i64 k] w fun e w' => e = .returned (.bool (sizeB k)) ∧ w = w' := by
  have hr : 0 ≤ roomN k ∧ decide (0 < roomN k) = sizeB k := by
    unfold roomN
    cases hs : sizeB k
    · exact ⟨by simp, rfl⟩
    · have h := hs
      simp only [sizeB, decide_eq_true_eq] at h
      rw [if_pos rfl]
      exact ⟨by omega, decide_eq_true (by omega)⟩
  have R := fun w => room_c k hk w
  generalize roomN k = r at R hr
  obtain ⟨h0, hr⟩ := hr
  have HR := Lib.hid hr
  clear hr
  go_enter Tryz.func153, Tryz.ntmps153
  go_wp2_with fail
  refine (R _).mono ?_; rintro e u ⟨rfl, rfl⟩
  go_wp2_with fail
  go_ret
  exact ⟨retb HR.out, rfl⟩
end Go.Proofs.YtignfbdgpgidpaaGreatDoor
/- A budget: what it is, what its calls make of it, their contracts. -/
namespace Go.Proofs.YtignfbdgpgidpaaGreatDoor
open Go.RowKit
set_option linter.unusedVariables false
set_option linter.unusedSimpArgs false
set_option maxRecDepth 20000
structure Bu where
  m : Int
  now : Int
  high : Int
structure Bu.ok (b : Bu) : Prop where
  n0 : 0 ≤ b.now
  n1 : b.now ≤ b.high
  h1 : b.high ≤ b.m
  m1 : b.m ≤ 9223372036854775807
def Bu.take (b : Bu) (n : Int) : Bu := if n < 0 ∨ b.m - b.now < n then b else ⟨b.m, b.now + n, max b.high (b.now + n)⟩
def bcells (b : Bu) : Array Value := #[.bool true, .int .i64 b.m, .int .i64 b.now, .int .i64 b.high]
def BAt (w : World) (p : Nat) (b : Bu) : Prop := b.ok ∧ w.heap[p]? = some (.cells (bcells b) 113 (0, 0))
theorem BAt.only {w w' : World} {p : Nat} {b : Bu} {C : Nat → Prop} (h : BAt w p b) (g : Only C w w') (hC : ¬ C p) : BAt w' p b :=
  ⟨h.1, by rw [g.block p (lt_of_block h.2) hC]; exact h.2⟩
theorem BAt.lt {w : World} {p : Nat} {b : Bu} (h : BAt w p b) : p < w.heap.size := lt_of_block h.2
end Go.Proofs.YtignfbdgpgidpaaGreatDoor

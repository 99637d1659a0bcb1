/- In one text: FrameBack, RecPlain. -/
import Derived.Test.YtignfbdgpgidpaaGreatDoorK24
import Derived.Test.YtignfbdgpgidpaaGreatDoorK26
import Derived.Test.YtignfbdgpgidpaaGreatDoorK12
import Derived.Deep.DeepCutAuto
/- Plain facts: blocks and ends come back; turned ones do not. -/
namespace Go.Proofs.YtignfbdgpgidpaaGreatDoor
open Go.RowKit CrcPlain OctPlain FramePlain
set_option linter.unusedVariables false
set_option linter.unusedSimpArgs false
set_option maxRecDepth 20000
theorem ext_toList {a b : ByteArray} (h : a.data.toList = b.data.toList) : a = b := by
  apply ByteArray.ext
  exact Array.toList_inj.1 h
theorem cl_data (s : ByteArray) : (cl s).data.toList = s.data.toList ++ tl (more 0 s.data.toList) := by
  simp [cl, bs, ByteArray.data_append]
theorem app_data (s t : ByteArray) : (s ++ t).data.toList = s.data.toList ++ t.data.toList := by simp [ByteArray.data_append]
theorem extract_data (s : ByteArray) (a b : Nat) : (s.extract a b).data.toList = (s.data.toList.take b).drop a := by
  rw [List.drop_take]
  simp [ByteArray.data_extract]
theorem bs_data (l : List UInt8) : (bs l).data.toList = l := by simp [bs]
theorem app_extract (s t : ByteArray) : (s ++ t).extract 0 s.size = s := by
  apply ext_toList
  rw [extract_data, app_data, List.drop_zero, List.take_append_of_le_length (by rw [data_length]; omega), List.take_of_length_le (by rw [data_length]; omega)]
theorem cat_app (a b : List ByteArray) : cat (a ++ b) = cat a ++ cat b := by simp [cat]
theorem cat_at {m : Nat} {l : List ByteArray} (h : ∀ s ∈ l, s.size = m) {j : Nat} {x : ByteArray} (hx : l[j]? = some x) : (bs (cat l)).extract (j * m) (j * m + m) = x := by
  obtain ⟨hj, rfl⟩ := List.getElem?_eq_some_iff.1 hx
  have hxm := h _ (List.getElem_mem hj)
  have e : l = l.take j ++ (l[j] :: l.drop (j + 1)) := by
    rw [List.getElem_cons_drop, List.take_append_drop]
  have e1 : cat l = cat (l.take j) ++ (l[j].data.toList ++ cat (l.drop (j + 1))) := by
    have h1 := congrArg cat e
    rw [cat_app] at h1
    exact h1
  have l1 : (cat (l.take j)).length = j * m := by
    rw [cat_length (size := m) (fun s hs => h s (List.mem_of_mem_take hs)), List.length_take, Nat.min_eq_left (by omega)]
  have l2 : l[j].data.toList.length = m := by rw [data_length]; exact hxm
  apply ext_toList
  rw [extract_data, bs_data, List.drop_take, e1, List.drop_append_of_le_length (by omega), List.drop_of_length_le (by omega), List.nil_append]
  have : j * m + m - j * m = m := by omega
  rw [this, List.take_append_of_le_length (by omega), List.take_of_length_le (by omega)]
theorem pieces_cat {m : Nat} {l : List ByteArray} (h : ∀ s ∈ l, s.size = m) : ∀ j, j ≤ l.length → pieces (bs (cat l)) m j = l.take j := by
  intro j
  induction j with
  | zero => intro _; rfl
  | succ j ih =>
    intro hj
    rw [pieces, ih (by omega), cat_at h (List.getElem?_eq_getElem (by omega)), List.take_succ_eq_append_getElem (by omega)]
theorem spl_cat {m : Nat} (hm : 1 ≤ m) {l : List ByteArray} (h : ∀ s ∈ l, s.size = m) : splL (bs (cat l)) m = l := by
  have hl := cat_length h
  have hb : splB (bs (cat l)) (m : Int) = true := by
    unfold splB
    rw [decide_eq_true_iff, bs_size, hl]
    refine ⟨by omega, ?_⟩
    rw [Int.natCast_mul, Int.mul_emod_left]
  rw [splL_yes hb, Int.toNat_natCast, bs_size, hl, Nat.mul_div_cancel _ (by omega), pieces_cat h _ (Nat.le_refl _), List.take_length]
theorem blk_parts {size : Int} {l : List ByteArray} (h : blkB size l = true) : sizeB size = true ∧ (1 ≤ l.length ∧ l.length ≤ 4) ∧ ∀ s ∈ l, (s.size : Int) = size := by
  unfold blkB at h
  simp only [Bool.and_eq_true, decide_eq_true_eq] at h
  exact ⟨h.1.1, h.1.2, allB_iff.1 h.2⟩
theorem blk_data (l : List ByteArray) : (blk l).data.toList = UInt8.ofNat l.length :: cat l := by unfold blk; rw [bs_data]
theorem cnt_head {s : ByteArray} {b : UInt8} {r : List UInt8} (h : s.data.toList = b :: r) : cntN s = b.toNat := by
  unfold cntN cutL
  rw [h, List.drop_zero]
  simp [num]
theorem blk_cl {size : Int} {l : List ByteArray} (h : blkB size l = true) : ∃ n : Nat, (cl (blk l)).size = n ∧ 6 ≤ n ∧ n ≤ 261 ∧ (5 + (l.length : Int) * size = n) ∧ ∃ r, (cl (blk l)).data.toList = UInt8.ofNat l.length :: r := by
  obtain ⟨h1, h2, h3⟩ := blk_parts h
  simp only [sizeB, decide_eq_true_eq] at h1
  obtain ⟨m, rfl⟩ : ∃ m : Nat, size = m := ⟨size.toNat, by omega⟩
  have hc := cat_length (size := m) (l := l) (fun s hs => by have := h3 s hs; omega)
  have hz : (cl (blk l)).size = 5 + l.length * m := by rw [cl_size, blk_size, hc]; omega
  have h4 : l.length = 1 ∨ l.length = 2 ∨ l.length = 3 ∨ l.length = 4 := by omega
  refine ⟨_, hz, ?_, ?_, ?_, ?_⟩
  · rcases h4 with e | e | e | e <;> rw [e] <;> omega
  · rcases h4 with e | e | e | e <;> rw [e] <;> omega
  · rw [Int.natCast_add, Int.natCast_mul]; rfl
  · rw [cl_data, blk_data]; exact ⟨_, rfl⟩
theorem get_put {size : Int} {l : List ByteArray} (h : blkB size l = true) (more : ByteArray) :
    gB size (cl (blk l) ++ more) = true ∧ gN size (cl (blk l) ++ more) = (cl (blk l)).size ∧ gL size (cl (blk l) ++ more) = l := by
  obtain ⟨h1, h2, h3⟩ := blk_parts h
  obtain ⟨n, hn, hn6, hn261, e5, r, hr⟩ := blk_cl h
  have hcnt : cntN (cl (blk l) ++ more) = l.length := by
    rw [cnt_head (by rw [app_data, hr]; rfl)]
    rw [UInt8.toNat_ofNat']; omega
  have hlen : gLen size (cl (blk l) ++ more) = n := by unfold gLen; rw [hcnt]; exact e5
  have hex : (cl (blk l) ++ more).extract 0 n = cl (blk l) := by rw [← hn]; exact app_extract _ _
  obtain ⟨o1, o2⟩ := op_cl (blk l)
  have hb : gB size (cl (blk l) ++ more) = true := by
    unfold gB
    rw [h1, hcnt, hlen, Int.toNat_natCast, hex, o1, decide_eq_true h2, decide_eq_true (by rw [ByteArray.size_append]; omega)]
    rfl
  refine ⟨hb, by rw [gN_yes hb, hlen, hn], ?_⟩
  have hbody : gBody size (cl (blk l) ++ more) = bs (cat l) := by
    unfold gBody
    rw [hlen, Int.toNat_natCast, hex, o2]
    apply ext_toList
    rw [extract_data, bs_data, List.take_of_length_le (by rw [data_length]; omega), blk_data]
    rfl
  rw [gL_yes hb, hbody]
  simp only [sizeB, decide_eq_true_eq] at h1
  obtain ⟨m, rfl⟩ : ∃ m : Nat, size = m := ⟨size.toNat, by omega⟩
  exact spl_cat (by omega) (fun s hs => by have := h3 s hs; omega)
theorem end_back {n : Int} {m : Nat} (h : peB n = true) (hm : m < 4294967296) : eB (cl (endS n.toNat m)) = true ∧ eC (cl (endS n.toNat m)) = n ∧ eM (cl (endS n.toNat m)) = m := by
  unfold peB at h
  rw [decide_eq_true_iff] at h
  obtain ⟨c, rfl⟩ : ∃ c : Nat, n = c := ⟨n.toNat, by omega⟩
  rw [Int.toNat_natCast]
  obtain ⟨a1, a2, a3, a4⟩ := get_end (c := c) (m := m) (by omega) hm
  have hb : eB (cl (endS c m)) = true := by
    unfold eB
    have hz : (cl (endS c m)).size = 17 := by rw [cl_size, endS_size]
    rw [a1, a2, a3, (op_cl _).1, hz, decide_eq_true (show (c : Int) ≤ 4611686018427387904 by omega)]
    rfl
  exact ⟨hb, by rw [eC_yes hb, a3], by rw [eM_yes hb, a4]⟩
theorem endback_c {n : Int} {m : Nat} (h : peB n = true) (hm : m < 4294967296) (u : World) :
    Calls Tryz.prog 125 #[.string (cl (endS n.toNat m))] u fun e w' => e = .returned (.tuple #[.agg #[.int .i64 n, .int .u32 (m : Int)], .bool true]) ∧ Gr u w' := by
  obtain ⟨e1, e2, e3⟩ := end_back h hm
  refine (getend_c _ u).mono ?_
  rintro e w' ⟨he, g⟩
  rw [e1, e2, e3] at he
  exact ⟨he, g⟩
end Go.Proofs.YtignfbdgpgidpaaGreatDoor
/- Plain facts on files of records: what a file is; that it has its records; what is none. -/
namespace Go.Proofs.YtignfbdgpgidpaaGreatDoor
open Go.RowKit CrcPlain OctPlain FramePlain
set_option linter.unusedVariables false
set_option linter.unusedSimpArgs false
set_option maxRecDepth 20000
namespace RecPlain
def four (l : List ByteArray) (j : Nat) : List ByteArray := (l.drop (4 * j)).take 4
def ups (l : List ByteArray) (j : Nat) : List (List ByteArray) := (List.range j).map (four l)
def cnt4 (l : List ByteArray) : Nat := (l.length + 3) / 4
def blks (ps : List (List ByteArray)) : List UInt8 := (ps.map fun p => (cl (blk p)).data.toList).flatten
def nameL : List UInt8 := [67, 72, 65, 73, 78, 49]
def headS (size : Int) : ByteArray := cl (bs (nameL ++ [UInt8.ofNat size.toNat]))
def headR (size : Int) : ByteArray := if sizeB size = true then headS size else ⟨#[]⟩
def sumN (l : List ByteArray) : Nat := more 0 (cat l)
def endL (l : List ByteArray) : List UInt8 := (cl (endS l.length (sumN l))).data.toList
def layL (size : Int) (l : List ByteArray) : List UInt8 := (headS size).data.toList ++ (blks (ups l (cnt4 l)) ++ endL l)
def layB (size : Int) (l : List ByteArray) : Bool := sizeB size && allB size l
def layR (size : Int) (l : List ByteArray) : ByteArray := if layB size l = true then bs (layL size l) else ⟨#[]⟩
def IsFile (size : Int) (s : ByteArray) (l : List ByteArray) : Prop := layB size l = true ∧ s.data.toList = layL size l
theorem headR_yes {size : Int} (h : sizeB size = true) : headR size = headS size := by simp [headR, h]
theorem headR_no {size : Int} (h : sizeB size = false) : headR size = ⟨#[]⟩ := by simp [headR, h]
theorem layR_yes {size : Int} {l : List ByteArray} (h : layB size l = true) : layR size l = bs (layL size l) := by simp [layR, h]
theorem layR_no {size : Int} {l : List ByteArray} (h : layB size l = false) : layR size l = ⟨#[]⟩ := by simp [layR, h]
theorem sumN_lt (l : List ByteArray) : sumN l < 4294967296 := more_lt (by decide) _
theorem headS_size (size : Int) : (headS size).size = 11 := by unfold headS; rw [cl_size, bs_size]; rfl
theorem headS_length (size : Int) : (headS size).data.toList.length = 11 := by rw [data_length, headS_size]
theorem blks_nil : blks [] = [] := rfl
theorem blks_cons (p : List ByteArray) (ps : List (List ByteArray)) : blks (p :: ps) = (cl (blk p)).data.toList ++ blks ps := rfl
theorem blks_app (a b : List (List ByteArray)) : blks (a ++ b) = blks a ++ blks b := by simp [blks]
theorem ups_succ (l : List ByteArray) (j : Nat) : ups l (j + 1) = ups l j ++ [four l j] := by simp [ups, List.range_succ]
theorem ups_length (l : List ByteArray) (j : Nat) : (ups l j).length = j := by simp [ups]
theorem four_le (l : List ByteArray) (j : Nat) : (four l j).length ≤ 4 := by unfold four; rw [List.length_take]; omega
theorem four_length (l : List ByteArray) (j : Nat) : (four l j).length = min 4 (l.length - 4 * j) := by unfold four; rw [List.length_take, List.length_drop]
theorem four_mem {l : List ByteArray} {j : Nat} {x : ByteArray} (h : x ∈ four l j) : x ∈ l := List.mem_of_mem_drop (List.mem_of_mem_take h)
theorem ups_flat (l : List ByteArray) : ∀ j, (ups l j).flatten = l.take (4 * j) := by
  intro j
  induction j with
  | zero => rfl
  | succ j ih =>
    rw [ups_succ, List.flatten_append, ih]
    simp only [List.flatten_cons, List.flatten_nil, List.append_nil]
    unfold four
    rw [show 4 * (j + 1) = 4 * j + 4 by omega, List.take_add]
theorem ups_all (l : List ByteArray) : (ups l (cnt4 l)).flatten = l := by
  rw [ups_flat, List.take_of_length_le]
  unfold cnt4; omega
theorem allB_mem {size : Int} {l m : List ByteArray} (h : allB size l = true) (hm : ∀ x ∈ m, x ∈ l) : allB size m = true :=
  allB_iff.2 fun s hs => allB_iff.1 h s (hm s hs)
theorem four_blk {size : Int} {l : List ByteArray} (h : layB size l = true) {j : Nat} (hj : j < cnt4 l) : blkB size (four l j) = true := by
  unfold layB at h
  rw [Bool.and_eq_true] at h
  unfold blkB
  have := four_length l j
  unfold cnt4 at hj
  rw [h.1, allB_mem h.2 (fun x hx => four_mem hx), decide_eq_true (by omega)]
  rfl
theorem endL_length (l : List ByteArray) : (endL l).length = 17 := by unfold endL; rw [data_length, cl_size, endS_size]
def Full (ps : List (List ByteArray)) : Prop := ∀ j p, ps[j]? = some p → j + 1 < ps.length → p.length = 4
theorem flat_take {ps : List (List ByteArray)} (h : Full ps) : ∀ j, j < ps.length → ((ps.take j).flatten).length = 4 * j := by
  intro j
  induction j with
  | zero => intro _; rfl
  | succ j ih =>
    intro hj
    rw [List.take_succ_eq_append_getElem (by omega), List.flatten_append, List.length_append, ih (by omega)]
    have := h j ps[j] (List.getElem?_eq_getElem (by omega)) (by omega)
    simp [this]
    omega
theorem full_four {ps : List (List ByteArray)} (h : Full ps) (h1 : ∀ p ∈ ps, 1 ≤ p.length ∧ p.length ≤ 4) (j : Nat) (hj : j < ps.length) : four ps.flatten j = ps[j] := by
  have e : ps.flatten = (ps.take j).flatten ++ (ps[j] ++ (ps.drop (j + 1)).flatten) := by
    have : ps = ps.take j ++ (ps[j] :: ps.drop (j + 1)) := by rw [List.getElem_cons_drop, List.take_append_drop]
    have h2 := congrArg List.flatten this
    rw [List.flatten_append, List.flatten_cons] at h2
    exact h2
  have hl := flat_take h j hj
  have h14 := h1 _ (List.getElem_mem hj)
  unfold four
  rw [e, List.drop_append_of_le_length (by omega), List.drop_of_length_le (by omega), List.nil_append]
  by_cases hlast : j + 1 < ps.length
  · have h4 := h j ps[j] (List.getElem?_eq_getElem hj) hlast
    rw [List.take_append_of_le_length (by omega), List.take_of_length_le (by omega)]
  · rw [List.drop_of_length_le (by omega), List.flatten_nil, List.append_nil, List.take_of_length_le (by omega)]
theorem full_ups {ps : List (List ByteArray)} (h : Full ps) (h1 : ∀ p ∈ ps, 1 ≤ p.length ∧ p.length ≤ 4) : ups ps.flatten (cnt4 ps.flatten) = ps := by
  have hc : cnt4 ps.flatten = ps.length := by
    rcases Nat.eq_zero_or_pos ps.length with h0 | h0
    · rw [List.eq_nil_of_length_eq_zero h0]; rfl
    · have e : ps = ps.take (ps.length - 1) ++ [ps[ps.length - 1]] := by
        rw [← List.take_succ_eq_append_getElem (by omega), List.take_of_length_le (by omega)]
      have hf := flat_take h (ps.length - 1) (by omega)
      have hp := h1 _ (List.getElem_mem (show ps.length - 1 < ps.length by omega))
      have hl : ps.flatten.length = 4 * (ps.length - 1) + ps[ps.length - 1].length := by
        have h2 := congrArg (fun x => x.flatten.length) e
        simp only [List.flatten_append, List.length_append, List.flatten_cons, List.flatten_nil, List.append_nil] at h2
        rw [h2, hf]
      unfold cnt4
      omega
  rw [hc]
  apply List.ext_getElem
  · rw [ups_length]
  · intro j h2 h3
    have := full_four h h1 j h3
    simp only [ups, List.getElem_map, List.getElem_range]
    exact this
theorem blks_length {size : Nat} : ∀ (ps : List (List ByteArray)), (∀ p ∈ ps, ∀ s ∈ p, s.size = size) → (blks ps).length = 5 * ps.length + ps.flatten.length * size
  | [], _ => by simp [blks_nil]
  | p :: ps, h => by
    rw [blks_cons, List.length_append, blks_length ps fun q hq => h q (by simp [hq]), data_length, cl_size, blk_size, cat_length (h p (by simp)), List.flatten_cons, List.length_append, List.length_cons, Nat.add_mul]
    omega
theorem layL_length {size : Nat} {l : List ByteArray} (h : layB size l = true) : (layL size l).length = 28 + 5 * cnt4 l + l.length * size := by
  unfold layB at h
  rw [Bool.and_eq_true] at h
  have ha := allB_iff.1 h.2
  unfold layL
  rw [List.length_append, List.length_append, headS_length, endL_length, blks_length (size := size) _ (fun p hp s hs => ?_), ups_length, ups_all]
  · omega
  · unfold ups at hp
    obtain ⟨j, _, rfl⟩ := List.mem_map.1 hp
    have := ha s (four_mem hs)
    omega
end RecPlain
end Go.Proofs.YtignfbdgpgidpaaGreatDoor

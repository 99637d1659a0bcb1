/- Plain facts: blocks and ends come back; turned ones do not. -/
import Derived.Test.YtckgdnaocmefjaaFrameArgs
import Derived.Test.YtckgdnaocmefjaaCrcBack
import Derived.Deep.DeepCutAuto
namespace Go.Proofs.Ytckgdnaocmefjaa
open Go.RowKit CrcPlain OctPlain FramePlain
set_option linter.unusedVariables false
set_option linter.unusedSimpArgs false
theorem ext_toList {a b : ByteArray} (h : a.data.toList = b.data.toList) : a = b := by
  apply ByteArray.ext
  exact Array.toList_inj.1 h
theorem cl_data (s : ByteArray) : (cl s).data.toList = s.data.toList ++ tl (more 0 s.data.toList) := by
  simp [cl, bs, ByteArray.data_append]
theorem app_data (s t : ByteArray) : (s ++ t).data.toList = s.data.toList ++ t.data.toList := by simp [ByteArray.data_append]
theorem extract_data (s : ByteArray) (a b : Nat) : (s.extract a b).data.toList = (s.data.toList.take b).drop a := by
  rw [List.drop_take]
  simp [ByteArray.data_extract]
theorem bs_data (l : List UInt8) : (bs l).data.toList = l := by simp [bs]
theorem app_extract (s t : ByteArray) : (s ++ t).extract 0 s.size = s := by
  apply ext_toList
  rw [extract_data, app_data, List.drop_zero, List.take_append_of_le_length (by rw [data_length]; omega), List.take_of_length_le (by rw [data_length]; omega)]
theorem cat_app (a b : List ByteArray) : cat (a ++ b) = cat a ++ cat b := by simp [cat]
theorem cat_at {m : Nat} {l : List ByteArray} (h : ∀ s ∈ l, s.size = m) {j : Nat} {x : ByteArray} (hx : l[j]? = some x) : (bs (cat l)).extract (j * m) (j * m + m) = x := by
  obtain ⟨hj, rfl⟩ := List.getElem?_eq_some_iff.1 hx
  have hxm := h _ (List.getElem_mem hj)
  have e : l = l.take j ++ (l[j] :: l.drop (j + 1)) := by
    rw [List.getElem_cons_drop, List.take_append_drop]
  have e1 : cat l = cat (l.take j) ++ (l[j].data.toList ++ cat (l.drop (j + 1))) := by
    have h1 := congrArg cat e
    rw [cat_app] at h1
    exact h1
  have l1 : (cat (l.take j)).length = j * m := by
    rw [cat_length (size := m) (fun s hs => h s (List.mem_of_mem_take hs)), List.length_take, Nat.min_eq_left (by omega)]
  have l2 : l[j].data.toList.length = m := by rw [data_length]; exact hxm
  apply ext_toList
  rw [extract_data, bs_data, List.drop_take, e1, List.drop_append_of_le_length (by omega), List.drop_of_length_le (by omega), List.nil_append]
  have : j * m + m - j * m = m := by omega
  rw [this, List.take_append_of_le_length (by omega), List.take_of_length_le (by omega)]
theorem pieces_cat {m : Nat} {l : List ByteArray} (h : ∀ s ∈ l, s.size = m) : ∀ j, j ≤ l.length → pieces (bs (cat l)) m j = l.take j := by
  intro j
  induction j with
  | zero => intro _; rfl
  | succ j ih =>
    intro hj
    rw [pieces, ih (by omega), cat_at h (List.getElem?_eq_getElem (by omega)), List.take_succ_eq_append_getElem (by omega)]
theorem spl_cat {m : Nat} (hm : 1 ≤ m) {l : List ByteArray} (h : ∀ s ∈ l, s.size = m) : splL (bs (cat l)) m = l := by
  have hl := cat_length h
  have hb : splB (bs (cat l)) (m : Int) = true := by
    unfold splB
    rw [decide_eq_true_iff, bs_size, hl]
    refine ⟨by omega, ?_⟩
    rw [Int.natCast_mul, Int.mul_emod_left]
  rw [splL_yes hb, Int.toNat_natCast, bs_size, hl, Nat.mul_div_cancel _ (by omega), pieces_cat h _ (Nat.le_refl _), List.take_length]
theorem blk_parts {size : Int} {l : List ByteArray} (h : blkB size l = true) : sizeB size = true ∧ (1 ≤ l.length ∧ l.length ≤ 4) ∧ ∀ s ∈ l, (s.size : Int) = size := by
  unfold blkB at h
  simp only [Bool.and_eq_true, decide_eq_true_eq] at h
  exact ⟨h.1.1, h.1.2, allB_iff.1 h.2⟩
theorem blk_data (l : List ByteArray) : (blk l).data.toList = UInt8.ofNat l.length :: cat l := by unfold blk; rw [bs_data]
theorem cnt_head {s : ByteArray} {b : UInt8} {r : List UInt8} (h : s.data.toList = b :: r) : cntN s = b.toNat := by
  unfold cntN cutL
  rw [h, List.drop_zero]
  simp [num]
theorem blk_cl {size : Int} {l : List ByteArray} (h : blkB size l = true) : ∃ n : Nat, (cl (blk l)).size = n ∧ 6 ≤ n ∧ n ≤ 261 ∧ (5 + (l.length : Int) * size = n) ∧ ∃ r, (cl (blk l)).data.toList = UInt8.ofNat l.length :: r := by
  obtain ⟨h1, h2, h3⟩ := blk_parts h
  simp only [sizeB, decide_eq_true_eq] at h1
  obtain ⟨m, rfl⟩ : ∃ m : Nat, size = m := ⟨size.toNat, by omega⟩
  have hc := cat_length (size := m) (l := l) (fun s hs => by have := h3 s hs; omega)
  have hz : (cl (blk l)).size = 5 + l.length * m := by rw [cl_size, blk_size, hc]; omega
  have h4 : l.length = 1 ∨ l.length = 2 ∨ l.length = 3 ∨ l.length = 4 := by omega
  refine ⟨_, hz, ?_, ?_, ?_, ?_⟩
  · rcases h4 with e | e | e | e <;> rw [e] <;> omega
  · rcases h4 with e | e | e | e <;> rw [e] <;> omega
  · rw [Int.natCast_add, Int.natCast_mul]; rfl
  · rw [cl_data, blk_data]; exact ⟨_, rfl⟩
theorem get_put {size : Int} {l : List ByteArray} (h : blkB size l = true) (more : ByteArray) :
    gB size (cl (blk l) ++ more) = true ∧ gN size (cl (blk l) ++ more) = (cl (blk l)).size ∧ gL size (cl (blk l) ++ more) = l := by
  obtain ⟨h1, h2, h3⟩ := blk_parts h
  obtain ⟨n, hn, hn6, hn261, e5, r, hr⟩ := blk_cl h
  have hcnt : cntN (cl (blk l) ++ more) = l.length := by
    rw [cnt_head (by rw [app_data, hr]; rfl)]
    rw [UInt8.toNat_ofNat']; omega
  have hlen : gLen size (cl (blk l) ++ more) = n := by unfold gLen; rw [hcnt]; exact e5
  have hex : (cl (blk l) ++ more).extract 0 n = cl (blk l) := by rw [← hn]; exact app_extract _ _
  obtain ⟨o1, o2⟩ := op_cl (blk l)
  have hb : gB size (cl (blk l) ++ more) = true := by
    unfold gB
    rw [h1, hcnt, hlen, Int.toNat_natCast, hex, o1, decide_eq_true h2, decide_eq_true (by rw [ByteArray.size_append]; omega)]
    rfl
  refine ⟨hb, by rw [gN_yes hb, hlen, hn], ?_⟩
  have hbody : gBody size (cl (blk l) ++ more) = bs (cat l) := by
    unfold gBody
    rw [hlen, Int.toNat_natCast, hex, o2]
    apply ext_toList
    rw [extract_data, bs_data, List.take_of_length_le (by rw [data_length]; omega), blk_data]
    rfl
  rw [gL_yes hb, hbody]
  simp only [sizeB, decide_eq_true_eq] at h1
  obtain ⟨m, rfl⟩ : ∃ m : Nat, size = m := ⟨size.toNat, by omega⟩
  exact spl_cat (by omega) (fun s hs => by have := h3 s hs; omega)
/-- Bits turned behind the first byte leave the first byte. -/
theorem turn_head {b : UInt8} {r l' : List UInt8} {first v : Nat} (h : Turn (b :: r) l' first v) (hf : 8 ≤ first) : ∃ r', l' = b :: r' := by
  obtain ⟨hl, he⟩ := h
  match l', hl with
  | c :: r', _ =>
    refine ⟨r', ?_⟩
    rw [le_cons, le_cons] at he
    have h1 := congrArg (fun x => x % 2 ^ 8) he
    simp only [Nat.xor_mod_two_pow] at h1
    have hp : 2 ^ first * v % 2 ^ 8 = 0 := by
      have : first = 8 + (first - 8) := by omega
      rw [this, Nat.pow_add, Nat.mul_assoc, Nat.mul_mod_right]
    have hb := b.toNat_lt
    have hc := c.toNat_lt
    rw [hp, Nat.mul_mod_right, Nat.mul_mod_right, Nat.mod_eq_of_lt (by omega), Nat.mod_eq_of_lt (by omega), Nat.xor_zero, Nat.xor_zero, Nat.xor_zero] at h1
    rw [UInt8.toNat_inj.1 h1]
theorem get_turned {size : Int} {l : List ByteArray} (h : blkB size l = true) {l' : List UInt8} {first v : Nat} (ht : Turn (cl (blk l)).data.toList l' first v) (hf : 8 ≤ first) (hf2 : first < 8 * (cl (blk l)).size) (hv : v < 4294967296) (h0 : v ≠ 0) : gB size (bs l') = false := by
  obtain ⟨h1, h2, h3⟩ := blk_parts h
  obtain ⟨n, hn, hn6, hn261, e5, r, hr⟩ := blk_cl h
  have hno := op_turned ht hf2 hv h0
  have hlen' : (bs l').size = n := by rw [bs_size, ht.1, data_length, hn]
  rw [hr] at ht
  obtain ⟨r', rfl⟩ := turn_head ht hf
  have hcnt : cntN (bs (UInt8.ofNat l.length :: r')) = l.length := by
    rw [cnt_head (by rw [bs_data])]
    rw [UInt8.toNat_ofNat']; omega
  have hlen : gLen size (bs (UInt8.ofNat l.length :: r')) = n := by unfold gLen; rw [hcnt]; exact e5
  have hex : (bs (UInt8.ofNat l.length :: r')).extract 0 n = bs (UInt8.ofNat l.length :: r') := by
    apply ext_toList
    rw [extract_data, List.drop_zero, List.take_of_length_le (by rw [data_length]; omega)]
  unfold gB
  rw [hlen, Int.toNat_natCast, hex, hno, Bool.and_false]
theorem end_back {n : Int} {m : Nat} (h : peB n = true) (hm : m < 4294967296) : eB (cl (endS n.toNat m)) = true ∧ eC (cl (endS n.toNat m)) = n ∧ eM (cl (endS n.toNat m)) = m := by
  unfold peB at h
  rw [decide_eq_true_iff] at h
  obtain ⟨c, rfl⟩ : ∃ c : Nat, n = c := ⟨n.toNat, by omega⟩
  rw [Int.toNat_natCast]
  obtain ⟨a1, a2, a3, a4⟩ := get_end (c := c) (m := m) (by omega) hm
  have hb : eB (cl (endS c m)) = true := by
    unfold eB
    have hz : (cl (endS c m)).size = 17 := by rw [cl_size, endS_size]
    rw [a1, a2, a3, (op_cl _).1, hz, decide_eq_true (show (c : Int) ≤ 4611686018427387904 by omega)]
    rfl
  exact ⟨hb, by rw [eC_yes hb, a3], by rw [eM_yes hb, a4]⟩
theorem end_turned {x : ByteArray} {l' : List UInt8} {first v : Nat} (ht : Turn (cl x).data.toList l' first v) (hf2 : first < 8 * (cl x).size) (hv : v < 4294967296) (h0 : v ≠ 0) : eB (bs l') = false := by
  unfold eB
  rw [op_turned ht hf2 hv h0, Bool.and_false, Bool.false_and]
theorem app_none (s : ByteArray) : s ++ ByteArray.mk #[] = s := by
  apply ext_toList; rw [app_data]; simp
/-- Get of a block, whatever stands behind it. -/
theorem back_c {size : Int} {l : List ByteArray} (h : blkB size l = true) (hk : I64 size) (more : ByteArray) (hz : (cl (blk l) ++ more).size ≤ 100000) (u : World) :
    Calls Try.prog 51 #[.int .i64 size, .string (cl (blk l) ++ more)] u fun e w' => ∃ v, e = .returned (.tuple #[v, .int .i64 ((cl (blk l)).size : Int), .bool true]) ∧ Lies w' v l ∧ Gr u w' := by
  obtain ⟨e1, e2, e3⟩ := get_put h more
  refine (fget_c _ size hk u hz).mono ?_
  rintro e w' ⟨v, he, o, g⟩
  rw [e1, e2] at he
  rw [e3] at o
  exact ⟨v, he, lies_own o, g⟩
theorem gone_c {size : Int} {s : ByteArray} (h : gB size s = false) (hk : I64 size) (hz : s.size ≤ 100000) (u : World) :
    Calls Try.prog 51 #[.int .i64 size, .string s] u fun e w' => ∃ v, e = .returned (.tuple #[v, .int .i64 0, .bool false]) ∧ Gr u w' := by
  refine (fget_c _ size hk u hz).mono ?_
  rintro e w' ⟨v, he, o, g⟩
  rw [gN_no h, h] at he
  exact ⟨v, he, g⟩
theorem endback_c {n : Int} {m : Nat} (h : peB n = true) (hm : m < 4294967296) (u : World) :
    Calls Try.prog 32 #[.string (cl (endS n.toNat m))] u fun e w' => e = .returned (.tuple #[.agg #[.int .i64 n, .int .u32 (m : Int)], .bool true]) ∧ Gr u w' := by
  obtain ⟨e1, e2, e3⟩ := end_back h hm
  refine (getend_c _ u).mono ?_
  rintro e w' ⟨he, g⟩
  rw [e1, e2, e3] at he
  exact ⟨he, g⟩
theorem endgone_c {s : ByteArray} (h : eB s = false) (u : World) :
    Calls Try.prog 32 #[.string s] u fun e w' => e = .returned (.tuple #[.agg #[.int .i64 0, .int .u32 0], .bool false]) ∧ Gr u w' := by
  refine (getend_c _ u).mono ?_
  rintro e w' ⟨he, g⟩
  rw [eC_no h, eM_no h, h] at he
  exact ⟨he, g⟩
theorem info_same (n m : Int) (w : World) : (Op.equalIn 10000 29 (.agg #[.int .i64 n, .int .u32 m]) (.agg #[.int .i64 n, .int .u32 m])).run Try.prog w = .ok true w := by
  rw [run_equalIn_agg w 9999 _ _ _ (by kernel_rfl) (by kernel_rfl)]
  simp [go_sem]
theorem info_neq (n m : Int) (w : World) : (binOp .neq 29 (.agg #[.int .i64 n, .int .u32 m]) (.agg #[.int .i64 n, .int .u32 m])).run Try.prog w = .ok (.bool false) w := by
  rw [run_neq_struct, info_same]
  rfl
end Go.Proofs.Ytckgdnaocmefjaa

/- In one text: OctRget, MnGet, MnSay. -/
import Derived.Test.YtckmciafonnohaaGreatP19
import Derived.Test.YtckmciafonnohaaGreatP16
import Derived.Lib.Hide
import Derived.Test.YtckmciafonnohaaGreatP23
import Derived.Test.YtckmciafonnohaaGreatP17
import Derived.Test.YtckmciafonnohaaGreatP21
/- Contracts of the document's Get. -/
namespace Go.Proofs.YtckmciafonnohaaGreat
open Go.RowKit OctPlain
set_option linter.unusedVariables false
set_option linter.unusedSimpArgs false
set_option maxRecDepth 20000

def GetAt (s : ByteArray) (p k : Nat) (w : World) (n i : Value) (wr : World) : Prop :=
  ∃ j : Nat, wr = w ∧ j ≤ k ∧ i = .int .i64 j ∧ n = .int .i64 (num ((cutL s p k).take j) : Int) ∧ num ((cutL s p k).take j) < 9223372036854775808

theorem ret_ibr {a b : Int} {p q : Bool} (h : a = b) (k : p = q) : Ending.returned (.tuple #[.int .i64 a, .bool p]) = .returned (.tuple #[.int .i64 b, .bool q]) := by rw [h, k]
set_option maxHeartbeats 1000000 in
theorem rget_yes (s : ByteArray) (p k : Nat) (hk8 : 1 ≤ k ∧ k ≤ 8) (hp : p + k ≤ s.size) (w : World) (hs : s.size ≤ 1000) :
    Calls Tryz.prog 73 #[.string s, .int .i64 p, .int .i64 k] w fun e w' => e = .returned (.tuple #[.int .i64 (getN s p k), .bool (getB s p k)]) ∧ w = w' := by
  have hd : decide (s.size < p) = false := by simp; omega
  go_enter Tryz.func73, Tryz.ntmps73
  go_wp2_with fail
  go_loopw [8, 9] (fun n i wr => GetAt s p k w n i wr) (fun _ i _ => k - (intOf i).toNat)
  case atStart => exact ⟨0, rfl, by omega, rfl, rfl, by simp [num]⟩
  case round =>
    obtain ⟨j, rfl, hj, rfl, rfl, hlt⟩ := hrel
    by_cases hjk : j < k
    · have hstep := cutL_take s p k j hp hjk
      have hle := num_take_le (cutL s p k) j (by rw [cutL_length s p k hp]; exact hjk)
      have hnum := num_snoc ((cutL s p k).take j) (s[p + j]'(by omega))
      rw [← hstep] at hnum
      obtain ⟨m, hm⟩ : ∃ m : Int, m = num ((cutL s p k).take j) := ⟨_, rfl⟩
      have hm0 : 0 ≤ m := by omega
      have hm1 : m < 9223372036854775808 := by omega
      rw [← hm]
      by_cases hbig : 36028797018963968 ≤ m
      · have hb : getB s p k = false := getB_big (by omega)
        have hn : getN s p k = 0 := getN_no hb
        clear hm hlt hle hnum hstep
        go_wp2
        go_ret2
        first | exact ⟨rfl, rfl⟩ | exact ⟨ret_ibr hn.symm hb.symm, rfl⟩
      · have hx := (s[p + j]'(by omega)).toNat_lt
        have hval : wrap64 (m * 256 + wrap64 ((s[p + j]'(by omega)).toNat : Int)) = (num ((cutL s p k).take (j + 1)) : Int) := by
          rw [hnum]; unfold wrap64; omega
        have hval2 : num ((cutL s p k).take (j + 1)) < 9223372036854775808 := by omega
        have hh := Lib.hid (And.intro hval hval2)
        clear hm hlt hle hnum hstep hval hval2 hx
        go_wp2
        refine ⟨⟨j + 1, rfl, by omega, rfl, by rw [hh.out.1], hh.out.2⟩, ?_⟩
        simp [intOf]; omega
    · obtain rfl : k = j := by omega
      have ht : (cutL s p k).take k = cutL s p k := List.take_of_length_le (by rw [cutL_length s p k hp]; omega)
      rw [ht] at hlt ⊢
      have hb : getB s p k = true := getB_yes hk8 hp hlt
      have hn : getN s p k = num (cutL s p k) := getN_yes hb
      clear hlt ht
      obtain ⟨m, hm⟩ : ∃ m : Int, m = num (cutL s p k) := ⟨_, rfl⟩
      rw [← hm] at hn ⊢
      clear hm
      go_wp2
      go_ret2
      first | exact ⟨rfl, rfl⟩ | exact ⟨ret_ibr hn.symm hb.symm, rfl⟩

theorem rget_no (s : ByteArray) (a k : Int) (ha : I64 a) (hk : I64 k) (w : World) (hs : s.size ≤ 1000) (h : ¬ ((1 ≤ k ∧ k ≤ 8) ∧ 0 ≤ a ∧ a + k ≤ s.size)) :
    Calls Tryz.prog 73 #[.string s, .int .i64 a, .int .i64 k] w fun e w' => e = .returned (.tuple #[.int .i64 (getN s a k), .bool (getB s a k)]) ∧ w = w' := by
  unfold I64 at ha hk
  have hb : getB s a k = false := getB_no h
  have hn : getN s a k = 0 := getN_no hb
  by_cases k1 : k < 1
  · go_enter Tryz.func73, Tryz.ntmps73
    go_wp2_with fail
    go_ret2
    first | exact ⟨rfl, rfl⟩ | exact ⟨ret_ibr hn.symm hb.symm, rfl⟩
  · by_cases k2 : 8 < k
    · go_enter Tryz.func73, Tryz.ntmps73
      go_wp2_with fail
      go_ret2
      first | exact ⟨rfl, rfl⟩ | exact ⟨ret_ibr hn.symm hb.symm, rfl⟩
    · by_cases k3 : a < 0
      · go_enter Tryz.func73, Tryz.ntmps73
        go_wp2_with fail
        go_ret2
        first | exact ⟨rfl, rfl⟩ | exact ⟨ret_ibr hn.symm hb.symm, rfl⟩
      · by_cases k4 : (s.size : Int) < a
        · go_enter Tryz.func73, Tryz.ntmps73
          go_wp2_with fail
          go_ret2
          first | exact ⟨rfl, rfl⟩ | exact ⟨ret_ibr hn.symm hb.symm, rfl⟩
        · have k5 : (s.size : Int) - a < k := by omega
          go_enter Tryz.func73, Tryz.ntmps73
          go_wp2_with fail
          go_ret2
          first | exact ⟨rfl, rfl⟩ | exact ⟨ret_ibr hn.symm hb.symm, rfl⟩
theorem rget_c (s : ByteArray) (a k : Int) (ha : I64 a) (hk : I64 k) (w : World) (hs : s.size ≤ 1000) :
    Calls Tryz.prog 73 #[.string s, .int .i64 a, .int .i64 k] w fun e w' => e = .returned (.tuple #[.int .i64 (getN s a k), .bool (getB s a k)]) ∧ w = w' := by
  by_cases h : (1 ≤ k ∧ k ≤ 8) ∧ 0 ≤ a ∧ a + k ≤ s.size
  · obtain ⟨p, rfl⟩ : ∃ p : Nat, a = p := ⟨a.toNat, by omega⟩
    obtain ⟨q, rfl⟩ : ∃ q : Nat, k = q := ⟨k.toNat, by omega⟩
    exact rget_yes s p q (by omega) (by omega) w hs
  · exact rget_no s a k ha hk w hs h
end Go.Proofs.YtckmciafonnohaaGreat
/- Plain facts of Get's loop; the byte that counts the files. -/
namespace Go.Proofs.YtckmciafonnohaaGreat
open Go.RowKit FsPlain CrcPlain OctPlain MnPlain
set_option linter.unusedVariables false
set_option linter.unusedSimpArgs false
namespace MnPlain
/-- The file that is read at p, its name n bytes long. -/
def fileAt (s : ByteArray) (p n : Nat) : Fl := ⟨s.extract (p + 1) (p + 1 + n), getN s ((p : Int) + 1 + (n : Int)) 1, getN s ((p : Int) + 1 + (n : Int) + 1) 8, getN s ((p : Int) + 1 + (n : Int) + 9) 4⟩
/-- What has been got once i files are read and p is the place. -/
def GtAt (s : ByteArray) (i p : Nat) (L : List Fl) : Prop := L.length = i ∧ i ≤ 17 ∧ p ≤ s.size ∧ (∀ f ∈ L, flK f) ∧ ∀ m, mnIs s m → L = m.files.take i ∧ p = posN (m.files.take i) ∧ i ≤ m.files.length
theorem gt_start {s : ByteArray} (h : 13 ≤ s.size) : GtAt s 0 9 [] := ⟨rfl, by omega, by omega, by simp, fun m _ => ⟨rfl, rfl, by omega⟩⟩
theorem cut_one {s : ByteArray} {a : Nat} (h : a < s.size) : cutL s a 1 = [s[a]] := by
  unfold cutL
  have hl : a < s.data.toList.length := h
  rw [List.drop_eq_getElem_cons hl]
  rfl
theorem gt_len {s : ByteArray} {m : Mn} (h : mnIs s m) (h8 : 8 < s.size) : s[8].toNat = m.files.length ∧ m.files.length ≤ 16 := by
  obtain ⟨_, _, e, k⟩ := mn_head h.1
  rw [h.2.2, cut_one h8] at e
  have e2 := congrArg num e
  rw [num_beL 1 _ (by omega)] at e2
  refine ⟨?_, k⟩
  rw [← e2]
  simp [num]
theorem get_nat {s : ByteArray} {a k : Int} : 0 ≤ getN s a k := by
  unfold getN
  split <;> omega
theorem get_lt {s : ByteArray} {a : Int} {k : Nat} (hk : 0 < k) : getN s a (k : Int) < ((256 ^ k : Nat) : Int) := by
  unfold getN
  split
  · next h =>
    unfold getB at h
    rw [decide_eq_true_iff] at h
    have := num_lt (cutL s a.toNat k)
    rw [cutL_length _ _ _ (by omega)] at this
    rw [Int.toNat_natCast]
    exact_mod_cast this
  · have := Nat.pow_pos (n := k) (show 0 < 256 by decide)
    omega
theorem get_i64 {s : ByteArray} {a k : Int} : I64 (getN s a k) := by
  unfold getN I64
  split
  · next h =>
    unfold getB at h
    rw [decide_eq_true_iff] at h
    omega
  · omega
theorem gt_in {s : ByteArray} {i p : Nat} {L : List Fl} {m : Mn} (h : GtAt s i p L) (hm : mnIs s m) (hi : i < m.files.length) : getB s (p : Int) 1 = true ∧ ∃ n : Nat, getN s (p : Int) 1 = (n : Int) ∧ p + 1 + n + 13 ≤ s.size ∧ getB s ((p : Int) + 1 + (n : Int) + 1) 8 = true ∧ fileAt s p n = m.files[i] ∧ n = m.files[i].name.size := by
  obtain ⟨h1, _, _, _, h5⟩ := h
  obtain ⟨_, hp, _⟩ := h5 m hm
  obtain ⟨x, q, e, hx, hq, hf, hc⟩ := is_step hm hi
  obtain ⟨⟨a1, a2⟩, a3, a4, ⟨a5, a6⟩, a7, a8⟩ := fl_at hf (by omega) e (by rw [hx, ← hp] : p = x.length)
  refine ⟨a1, m.files[i].name.size, a2, by omega, ?_, ?_, rfl⟩
  · rw [← a5]; congr 1
  · unfold fileAt
    have e1 : s.extract (p + 1) (p + 1 + m.files[i].name.size) = m.files[i].name := by
      apply ByteArray.ext
      apply Array.toList_inj.1
      rw [← a3]
      unfold cutL
      simp [ByteArray.data_extract, List.take_drop]
    have e2 : getN s ((p : Int) + 1 + ((m.files[i].name.size : Nat) : Int)) 1 = m.files[i].size := by rw [← a4]; congr 1
    have e3 : getN s ((p : Int) + 1 + ((m.files[i].name.size : Nat) : Int) + 1) 8 = m.files[i].count := by rw [← a6]; congr 1
    have e4 : getN s ((p : Int) + 1 + ((m.files[i].name.size : Nat) : Int) + 9) 4 = m.files[i].sum := by rw [← a7]; congr 1
    rw [e1, e2, e3, e4]
theorem file_K {s : ByteArray} {p n : Nat} (h : p + 1 + n ≤ s.size) (hs : s.size ≤ 1000) : flK (fileAt s p n) := by
  unfold flK fileAt
  refine ⟨?_, get_i64, get_i64, get_nat, ?_⟩
  · unfold maxLen; rw [ByteArray.size_extract]; omega
  · have := get_lt (s := s) (a := (p : Int) + 1 + (n : Int) + 9) (k := 4) (by omega)
    simpa using this
theorem gt_step {s : ByteArray} {i p n : Nat} {L : List Fl} (h : GtAt s i p L) (h8 : 8 < s.size) (hs : s.size ≤ 1000) (hi : i < s[8].toNat) (h17 : i < 17) (hn : getN s (p : Int) 1 = (n : Int)) (hsz : p + 1 + n + 13 ≤ s.size) : GtAt s (i + 1) (p + 1 + n + 13) (L ++ [fileAt s p n]) := by
  have hh := h
  obtain ⟨h1, h2, h3, h4, h5⟩ := h
  refine ⟨by simp [h1], by omega, hsz, ?_, fun m hm => ?_⟩
  · intro f hf
    rw [List.mem_append, List.mem_singleton] at hf
    rcases hf with hf | rfl
    · exact h4 f hf
    · exact file_K (by omega) hs
  · obtain ⟨e1, e2, e3⟩ := h5 m hm
    have hlt : i < m.files.length := by rw [← (gt_len hm h8).1]; exact hi
    obtain ⟨_, k, hk, _, _, hf, hnk⟩ := gt_in hh hm hlt
    obtain rfl : n = k := by omega
    refine ⟨?_, ?_, by omega⟩
    · rw [List.take_succ_eq_append_getElem hlt, ← hf, e1]
    · rw [pos_step hlt, ← e2, ← hnk]; omega
theorem gt_end {s : ByteArray} {i p : Nat} {L : List Fl} {m : Mn} (h : GtAt s i p L) (h8 : 8 < s.size) (hi : ¬ (i < s[8].toNat ∧ i < 17)) (hm : mnIs s m) : m = ⟨getN s 4 2, getN s 6 2, L⟩ := by
  obtain ⟨h1, h2, h3, h4, h5⟩ := h
  obtain ⟨e1, e2, e3⟩ := h5 m hm
  obtain ⟨k1, k2⟩ := gt_len hm h8
  have hil : i = m.files.length := by omega
  obtain ⟨a1, a2, _⟩ := mn_head hm.1
  rw [hm.2.2] at a1 a2
  rw [hil, List.take_length] at e1
  rw [a1, a2, e1]
theorem gt_no {s : ByteArray} {i p : Nat} {L : List Fl} (h : GtAt s i p L) (h8 : 8 < s.size) (hi : i < s[8].toNat) (hb : getB s (p : Int) 1 = false ∨ (∃ n : Nat, getN s (p : Int) 1 = (n : Int) ∧ (s.size < p + 1 + n + 13 ∨ getB s ((p : Int) + 1 + (n : Int) + 1) 8 = false))) (m : Mn) : ¬ mnIs s m := fun hm => by
  have hlt : i < m.files.length := by rw [← (gt_len hm h8).1]; exact hi
  obtain ⟨a1, k, a2, a3, a4, _⟩ := gt_in h hm hlt
  rcases hb with hb | ⟨n, hn, hb⟩
  · rw [a1] at hb; cases hb
  · obtain rfl : n = k := by omega
    rcases hb with hb | hb
    · omega
    · rw [a4] at hb; cases hb
end MnPlain
theorem index_8 (s : ByteArray) (h : 8 < s.size) (w : World) : (Instr.index 9 (.string s) (.int .i64 8)).run Tryz.prog w = .ok (.int .u8 (s[8].toNat : Int)) w := by
  rw [run_index_string w 9 s .i64 8 Tryz.underlying9, dif_pos ⟨by omega, by omega⟩]
  rfl
end Go.Proofs.YtckmciafonnohaaGreat
/- What Get says: of the program and of the document; results in cells. -/
namespace Go.Proofs.YtckmciafonnohaaGreat
open Go.RowKit FsPlain CrcPlain OctPlain MnPlain
set_option linter.unusedVariables false
set_option linter.unusedSimpArgs false
set_option maxRecDepth 20000
/-- A slice that lies in no block that was there. -/
def NewFl (w : World) (v : Value) : Prop := ∀ b n c, v = .slice (some b) n c → w.heap.size ≤ b.block
theorem newFl_nil (w : World) (n c : Nat) : NewFl w (.slice none n c) := fun b n' c' e => by cases e
theorem NewFl.low {w u : World} {v : Value} (h : NewFl u v) (g : Gr w u) : NewFl w v := fun b n c e => Nat.le_trans g.size (h b n c e)
/-- What Get says. -/
def GtSays (s : ByteArray) (w : World) (e : Ending) (w' : World) : Prop :=
  ((∃ m v, mnIs s m ∧ e = .returned (.tuple #[.agg #[.int .i64 m.stage, .int .i64 m.pass, v], .bool true]) ∧ LiesFl w' v m.files ∧ (∀ f ∈ m.files, flK f) ∧ NewFl w v) ∨
    ((∀ m, ¬ mnIs s m) ∧ e = .returned (.tuple #[.agg #[.int .i64 0, .int .i64 0, .slice none 0 0], .bool false]))) ∧ Gr w w'
theorem mn_results2 {fn : Func} {p q : Tmp} (hfn : fn.results = #[.cell p 36, .tmp q]) {tmps : Array Value} {o : Nat} {x y z v : Value} {w : World} (hp : tmps.getD p undef = .pointer (some ⟨o, 0, none⟩)) (hv : tmps.getD q undef = v) (hb : w.heap[o]? = some (.cells #[x, y, z] 36 (0, 0))) :
    (results fn tmps).run Tryz.prog w = .ok (.tuple #[.agg #[x, y, z], v]) w := by
  have c0 : w.cell? ⟨o, 0, none⟩ = some x := by rw [cells_at hb]; rfl
  have c1 : w.cell? ⟨o, 1, none⟩ = some y := by rw [cells_at hb]; rfl
  have c2 : w.cell? ⟨o, 2, none⟩ = some z := by rw [cells_at hb]; rfl
  rw [results_cell_tmp hfn, hp, hv]
  simp [go_sem, c0, c1, c2]
theorem mn_store2 {u : World} {q : Nat} {c : Array Value} (hc : u.heap[q]? = some (.cells c 36 (0, 0))) (h3 : c.size = 3) (x y z : Value) :
    (((u.setCell ⟨q, 0, none⟩ x).setCell ⟨q, 1, none⟩ y).setCell ⟨q, 2, none⟩ z).heap[q]? = some (.cells #[x, y, z] 36 (0, 0)) ∧ Only (fun i => i = q) u (((u.setCell ⟨q, 0, none⟩ x).setCell ⟨q, 1, none⟩ y).setCell ⟨q, 2, none⟩ z) := by
  refine ⟨?_, ((Only.cell1 u q 0 x).trans (Only.cell1 _ q 1 y)).trans (Only.cell1 _ q 2 z)⟩
  rw [cells_set (cells_set (cells_set hc 0 _) 1 _) 2 _]
  match c, h3 with
  | ⟨[_, _, _]⟩, _ => rfl
/-- A slice of files stays while a block that is none of its is written. -/
theorem LiesFl.stay {w w' : World} {v : Value} {l : List Fl} {q : Nat} (h : LiesFl w v l) (o : Only (fun i => i = q) w w') (hq : ∀ b n c, v = .slice (some b) n c → b.block ≠ q) : LiesFl w' v l := by
  obtain ⟨a, c, e, hc, h⟩ := h
  refine ⟨a, c, e, hc, h.imp id fun ⟨b, off, e2, k⟩ => ⟨b, off, e2, ?_⟩⟩
  have hb : b ≠ q := hq ⟨b, off, none⟩ l.length c (by rw [e, e2])
  refine ⟨Nat.lt_of_lt_of_le k.1 o.size, fun j x hj => ?_⟩
  obtain ⟨k0, k1, k2, k3⟩ := k.2 j x hj
  exact ⟨(o.cell (p := ⟨b, _, none⟩) k.1 hb).trans k0, (o.cell (p := ⟨b, _, none⟩) k.1 hb).trans k1, (o.cell (p := ⟨b, _, none⟩) k.1 hb).trans k2, (o.cell (p := ⟨b, _, none⟩) k.1 hb).trans k3⟩
end Go.Proofs.YtckmciafonnohaaGreat

/- In one text: MnRef6, OctRget, MnGet, MnSay. -/
import Derived.Test.YtckmciafonnohaaP22
import Derived.Test.YtckmciafonnohaaP24
import Derived.BigQuiet
import Derived.Test.YtckmciafonnohaaP20
import Derived.Test.YtckmciafonnohaaP17
import Derived.Lib.Hide
import Derived.Test.YtckmciafonnohaaP16
/- The document's answers of layer 19: With. -/
namespace Go.Proofs.Ytckmciafonnohaa
open Go.RowKit FsPlain MnPlain
set_option linter.unusedVariables false
set_option linter.unusedSimpArgs false
set_option maxRecDepth 20000
/-- At the head of a file. -/
def WtAt (m : Mn) (g : Fl) (B : Nat) (w1 : World) (vp vi : Value) (wr : World) : Prop :=
  ∃ (i : Nat) (v2 : Value), i ≤ m.files.length ∧ vi = .int .i64 (i : Int) ∧ vp = .bool (hasN g.name (m.files.take i)) ∧ wr.heap[B]? = some (.cells #[.int .i64 m.stage, .int .i64 m.pass, v2] 31 (0, 0)) ∧ wr.ownsRow (B + 1) 61 4 v2 (setF g (m.files.take i)).length (fls (setF g (m.files.take i))) ∧ Only (fun b => b = B) w1 wr
/-- A file appended to out's files, and the field written. -/
theorem wt_app {B : Nat} {W wr wz w2 : World} {st ps : Int} {v2 v' : Value} {l : List Fl} {x : Fl} (hb : wr.heap[B]? = some (.cells #[.int .i64 st, .int .i64 ps, v2] 31 (0, 0))) (hown : wr.ownsRow (B + 1) 61 4 v2 l.length (fls l)) (ho : Only (fun b => b = B) W wr) (hW : W.heap.size = B + 1)
    (gz : Gr wr wz) (hown2 : w2.ownsRow (B + 1) 61 4 v' (l.length + 1) (fls l ++ flc x)) (hgrow : wz.grownBy w2 v2.ownBlock) :
    (w2.frozen? ⟨B, 2, none⟩ = false ∧ w2.cell? ⟨B, 2, none⟩ = some v2 ∧ w2.cell? ⟨B, 0, none⟩ = some (.int .i64 st) ∧ w2.cell? ⟨B, 1, none⟩ = some (.int .i64 ps)) ∧
    (w2.setCell ⟨B, 2, none⟩ v').heap[B]? = some (.cells #[.int .i64 st, .int .i64 ps, v'] 31 (0, 0)) ∧ (w2.setCell ⟨B, 2, none⟩ v').ownsRow (B + 1) 61 4 v' (l ++ [x]).length (fls (l ++ [x])) ∧ Only (fun b => b = B) W (w2.setCell ⟨B, 2, none⟩ v') := by
  have hlt := lt_of_block hb
  have hne : some B ≠ v2.ownBlock := fun e => by
    have := (hown.lt B e.symm).1
    omega
  have h2 : w2.heap[B]? = some (.cells #[.int .i64 st, .int .i64 ps, v2] 31 (0, 0)) := by
    rw [hgrow.block B (Nat.lt_of_lt_of_le hlt gz.size) hne]
    exact (gz.block B hlt).trans hb
  obtain ⟨B', h3, _⟩ := blk_next (i := 2) (show Blk B #[.int .i64 st, .int .i64 ps, v2] 31 w2 (fun b => b = B) from ⟨h2, fun b => Iff.rfl⟩) v'
  refine ⟨⟨cells_free h2 2, by rw [cells_at h2]; rfl, by rw [cells_at h2]; rfl, by rw [cells_at h2]; rfl⟩, h3.1, ?_, ?_⟩
  · rw [fls_snoc, List.length_append, List.length_singleton]
    exact ownsRow_setCell_below hown2 (Nat.lt_succ_self B) v'
  · have o1 : Only (fun b => b = B) W wz := ho.trans (Only.ofGr gz)
    have o2 : Only (fun k => v2.ownBlock = some k) wz w2 := Only.grown hgrow fun k e => e
    have o3 : Only (fun b => b = B) W w2 := o1.andThen o2 fun k e => .inr (by rw [hW]; exact (hown.lt k e).1)
    exact o3.trans (Only.cell1 w2 B 2 v')
theorem wt_fin {w u : World} {B q : Nat} {v' : Value} {l : List Fl} (hq : q < B) (hw : w.heap.size ≤ q) (h : u.ownsRow B 61 4 v' l.length (fls l)) (g : Gr w u) {c : Array Value} {T : TypeId} (hc : u.heap[q]? = some (.cells c T (0, 0))) (x y z : Value) :
    (((u.setCell ⟨q, 0, none⟩ x).setCell ⟨q, 1, none⟩ y).setCell ⟨q, 2, none⟩ z).heap[q]? = some (.cells (((c.setIfInBounds 0 x).setIfInBounds 1 y).setIfInBounds 2 z) T (0, 0)) ∧ LiesFl (((u.setCell ⟨q, 0, none⟩ x).setCell ⟨q, 1, none⟩ y).setCell ⟨q, 2, none⟩ z) v' l ∧ Gr w (((u.setCell ⟨q, 0, none⟩ x).setCell ⟨q, 1, none⟩ y).setCell ⟨q, 2, none⟩ z) := by
  have h1 := ownsRow_setCell_below (ownsRow_setCell_below (ownsRow_setCell_below h (a := ⟨q, 0, none⟩) hq x) (a := ⟨q, 1, none⟩) hq y) (a := ⟨q, 2, none⟩) hq z
  have o := ((Only.cell1 u q 0 x).trans (Only.cell1 _ q 1 y)).trans (Only.cell1 _ q 2 z)
  obtain ⟨_, b1, _⟩ := blk_next (i := 0) (show Blk q c T u (fun b => b = q) from ⟨hc, fun b => Iff.rfl⟩) x
  obtain ⟨_, b2, _⟩ := blk_next (i := 1) b1 y
  obtain ⟨_, b3, _⟩ := blk_next (i := 2) b2 z
  exact ⟨b3.1, liesFl_own h1, Below.trans g (o.toBelow (n := w.heap.size) g.size fun b e => by omega)⟩
theorem mn_results {fn : Func} {p : Tmp} (hfn : fn.results = #[.cell p 31]) {tmps : Array Value} {o : Nat} {x y z : Value} {w : World} (hp : tmps.getD p undef = .pointer (some ⟨o, 0, none⟩)) (hx : x.oneCell' = true) (hy : y.oneCell' = true) (hz : z.oneCell' = true) (hb : w.heap[o]? = some (.cells #[x, y, z] 31 (0, 0))) :
    (results fn tmps).run Try.prog w = .ok (.agg #[x, y, z]) w := by
  have c0 : w.cell? ⟨o, 0, none⟩ = some x := by rw [cells_at hb]; rfl
  have c1 : w.cell? ⟨o, 1, none⟩ = some y := by rw [cells_at hb]; rfl
  have c2 : w.cell? ⟨o, 2, none⟩ = some z := by rw [cells_at hb]; rfl
  have hp2 := hp
  rw [Array.getD_eq_getD_getElem?] at hp2
  simp [results, hfn, hp2, go_sem, c0, c1, c2]
end Go.Proofs.Ytckmciafonnohaa
/- Contracts of the document's Get. -/
namespace Go.Proofs.Ytckmciafonnohaa
open Go.RowKit OctPlain
set_option linter.unusedVariables false
set_option linter.unusedSimpArgs false
set_option maxRecDepth 20000

def GetAt (s : ByteArray) (p k : Nat) (w : World) (n i : Value) (wr : World) : Prop :=
  ∃ j : Nat, wr = w ∧ j ≤ k ∧ i = .int .i64 j ∧ n = .int .i64 (num ((cutL s p k).take j) : Int) ∧ num ((cutL s p k).take j) < 9223372036854775808

theorem ret_ibr {a b : Int} {p q : Bool} (h : a = b) (k : p = q) : Ending.returned (.tuple #[.int .i64 a, .bool p]) = .returned (.tuple #[.int .i64 b, .bool q]) := by rw [h, k]
end Go.Proofs.Ytckmciafonnohaa
/- Plain facts of Get's loop; the byte that counts the files. -/
namespace Go.Proofs.Ytckmciafonnohaa
open Go.RowKit FsPlain CrcPlain OctPlain MnPlain
set_option linter.unusedVariables false
set_option linter.unusedSimpArgs false
namespace MnPlain
/-- The file that is read at p, its name n bytes long. -/
def fileAt (s : ByteArray) (p n : Nat) : Fl := ⟨s.extract (p + 1) (p + 1 + n), getN s ((p : Int) + 1 + (n : Int)) 1, getN s ((p : Int) + 1 + (n : Int) + 1) 8, getN s ((p : Int) + 1 + (n : Int) + 9) 4⟩
/-- What has been got once i files are read and p is the place. -/
def GtAt (s : ByteArray) (i p : Nat) (L : List Fl) : Prop := L.length = i ∧ i ≤ 17 ∧ p ≤ s.size ∧ (∀ f ∈ L, flK f) ∧ ∀ m, mnIs s m → L = m.files.take i ∧ p = posN (m.files.take i) ∧ i ≤ m.files.length
theorem gt_start {s : ByteArray} (h : 13 ≤ s.size) : GtAt s 0 9 [] := ⟨rfl, by omega, by omega, by simp, fun m _ => ⟨rfl, rfl, by omega⟩⟩
theorem cut_one {s : ByteArray} {a : Nat} (h : a < s.size) : cutL s a 1 = [s[a]] := by
  unfold cutL
  have hl : a < s.data.toList.length := h
  rw [List.drop_eq_getElem_cons hl]
  rfl
theorem gt_len {s : ByteArray} {m : Mn} (h : mnIs s m) (h8 : 8 < s.size) : s[8].toNat = m.files.length ∧ m.files.length ≤ 16 := by
  obtain ⟨_, _, e, k⟩ := mn_head h.1
  rw [h.2.2, cut_one h8] at e
  have e2 := congrArg num e
  rw [num_beL 1 _ (by omega)] at e2
  refine ⟨?_, k⟩
  rw [← e2]
  simp [num]
theorem get_nat {s : ByteArray} {a k : Int} : 0 ≤ getN s a k := by
  unfold getN
  split <;> omega
theorem get_lt {s : ByteArray} {a : Int} {k : Nat} (hk : 0 < k) : getN s a (k : Int) < ((256 ^ k : Nat) : Int) := by
  unfold getN
  split
  · next h =>
    unfold getB at h
    rw [decide_eq_true_iff] at h
    have := num_lt (cutL s a.toNat k)
    rw [cutL_length _ _ _ (by omega)] at this
    rw [Int.toNat_natCast]
    exact_mod_cast this
  · have := Nat.pow_pos (n := k) (show 0 < 256 by decide)
    omega
theorem get_i64 {s : ByteArray} {a k : Int} : I64 (getN s a k) := by
  unfold getN I64
  split
  · next h =>
    unfold getB at h
    rw [decide_eq_true_iff] at h
    omega
  · omega
theorem gt_in {s : ByteArray} {i p : Nat} {L : List Fl} {m : Mn} (h : GtAt s i p L) (hm : mnIs s m) (hi : i < m.files.length) : getB s (p : Int) 1 = true ∧ ∃ n : Nat, getN s (p : Int) 1 = (n : Int) ∧ p + 1 + n + 13 ≤ s.size ∧ getB s ((p : Int) + 1 + (n : Int) + 1) 8 = true ∧ fileAt s p n = m.files[i] ∧ n = m.files[i].name.size := by
  obtain ⟨h1, _, _, _, h5⟩ := h
  obtain ⟨_, hp, _⟩ := h5 m hm
  obtain ⟨x, q, e, hx, hq, hf, hc⟩ := is_step hm hi
  obtain ⟨⟨a1, a2⟩, a3, a4, ⟨a5, a6⟩, a7, a8⟩ := fl_at hf (by omega) e (by rw [hx, ← hp] : p = x.length)
  refine ⟨a1, m.files[i].name.size, a2, by omega, ?_, ?_, rfl⟩
  · rw [← a5]; congr 1
  · unfold fileAt
    have e1 : s.extract (p + 1) (p + 1 + m.files[i].name.size) = m.files[i].name := by
      apply ByteArray.ext
      apply Array.toList_inj.1
      rw [← a3]
      unfold cutL
      simp [ByteArray.data_extract, List.take_drop]
    have e2 : getN s ((p : Int) + 1 + ((m.files[i].name.size : Nat) : Int)) 1 = m.files[i].size := by rw [← a4]; congr 1
    have e3 : getN s ((p : Int) + 1 + ((m.files[i].name.size : Nat) : Int) + 1) 8 = m.files[i].count := by rw [← a6]; congr 1
    have e4 : getN s ((p : Int) + 1 + ((m.files[i].name.size : Nat) : Int) + 9) 4 = m.files[i].sum := by rw [← a7]; congr 1
    rw [e1, e2, e3, e4]
theorem file_K {s : ByteArray} {p n : Nat} (h : p + 1 + n ≤ s.size) (hs : s.size ≤ 1000) : flK (fileAt s p n) := by
  unfold flK fileAt
  refine ⟨?_, get_i64, get_i64, get_nat, ?_⟩
  · unfold maxLen; rw [ByteArray.size_extract]; omega
  · have := get_lt (s := s) (a := (p : Int) + 1 + (n : Int) + 9) (k := 4) (by omega)
    simpa using this
theorem gt_step {s : ByteArray} {i p n : Nat} {L : List Fl} (h : GtAt s i p L) (h8 : 8 < s.size) (hs : s.size ≤ 1000) (hi : i < s[8].toNat) (h17 : i < 17) (hn : getN s (p : Int) 1 = (n : Int)) (hsz : p + 1 + n + 13 ≤ s.size) : GtAt s (i + 1) (p + 1 + n + 13) (L ++ [fileAt s p n]) := by
  have hh := h
  obtain ⟨h1, h2, h3, h4, h5⟩ := h
  refine ⟨by simp [h1], by omega, hsz, ?_, fun m hm => ?_⟩
  · intro f hf
    rw [List.mem_append, List.mem_singleton] at hf
    rcases hf with hf | rfl
    · exact h4 f hf
    · exact file_K (by omega) hs
  · obtain ⟨e1, e2, e3⟩ := h5 m hm
    have hlt : i < m.files.length := by rw [← (gt_len hm h8).1]; exact hi
    obtain ⟨_, k, hk, _, _, hf, hnk⟩ := gt_in hh hm hlt
    obtain rfl : n = k := by omega
    refine ⟨?_, ?_, by omega⟩
    · rw [List.take_succ_eq_append_getElem hlt, ← hf, e1]
    · rw [pos_step hlt, ← e2, ← hnk]; omega
theorem gt_end {s : ByteArray} {i p : Nat} {L : List Fl} {m : Mn} (h : GtAt s i p L) (h8 : 8 < s.size) (hi : ¬ (i < s[8].toNat ∧ i < 17)) (hm : mnIs s m) : m = ⟨getN s 4 2, getN s 6 2, L⟩ := by
  obtain ⟨h1, h2, h3, h4, h5⟩ := h
  obtain ⟨e1, e2, e3⟩ := h5 m hm
  obtain ⟨k1, k2⟩ := gt_len hm h8
  have hil : i = m.files.length := by omega
  obtain ⟨a1, a2, _⟩ := mn_head hm.1
  rw [hm.2.2] at a1 a2
  rw [hil, List.take_length] at e1
  rw [a1, a2, e1]
theorem gt_no {s : ByteArray} {i p : Nat} {L : List Fl} (h : GtAt s i p L) (h8 : 8 < s.size) (hi : i < s[8].toNat) (hb : getB s (p : Int) 1 = false ∨ (∃ n : Nat, getN s (p : Int) 1 = (n : Int) ∧ (s.size < p + 1 + n + 13 ∨ getB s ((p : Int) + 1 + (n : Int) + 1) 8 = false))) (m : Mn) : ¬ mnIs s m := fun hm => by
  have hlt : i < m.files.length := by rw [← (gt_len hm h8).1]; exact hi
  obtain ⟨a1, k, a2, a3, a4, _⟩ := gt_in h hm hlt
  rcases hb with hb | ⟨n, hn, hb⟩
  · rw [a1] at hb; cases hb
  · obtain rfl : n = k := by omega
    rcases hb with hb | hb
    · omega
    · rw [a4] at hb; cases hb
end MnPlain
theorem index_8 (s : ByteArray) (h : 8 < s.size) (w : World) : (Instr.index 9 (.string s) (.int .i64 8)).run Try.prog w = .ok (.int .u8 (s[8].toNat : Int)) w := by
  rw [run_index_string w 9 s .i64 8 Try.underlying9, dif_pos ⟨by omega, by omega⟩]
  rfl
end Go.Proofs.Ytckmciafonnohaa
/- What Get says: of the program and of the document; results in cells. -/
namespace Go.Proofs.Ytckmciafonnohaa
open Go.RowKit FsPlain CrcPlain OctPlain MnPlain
set_option linter.unusedVariables false
set_option linter.unusedSimpArgs false
set_option maxRecDepth 20000
/-- A slice that lies in no block that was there. -/
def NewFl (w : World) (v : Value) : Prop := ∀ b n c, v = .slice (some b) n c → w.heap.size ≤ b.block
theorem newFl_nil (w : World) (n c : Nat) : NewFl w (.slice none n c) := fun b n' c' e => by cases e
theorem NewFl.low {w u : World} {v : Value} (h : NewFl u v) (g : Gr w u) : NewFl w v := fun b n c e => Nat.le_trans g.size (h b n c e)
/-- What Get says. -/
def GtSays (s : ByteArray) (w : World) (e : Ending) (w' : World) : Prop :=
  ((∃ m v, mnIs s m ∧ e = .returned (.tuple #[.agg #[.int .i64 m.stage, .int .i64 m.pass, v], .bool true]) ∧ LiesFl w' v m.files ∧ (∀ f ∈ m.files, flK f) ∧ NewFl w v) ∨
    ((∀ m, ¬ mnIs s m) ∧ e = .returned (.tuple #[.agg #[.int .i64 0, .int .i64 0, .slice none 0 0], .bool false]))) ∧ Gr w w'
theorem mn_results2 {fn : Func} {p q : Tmp} (hfn : fn.results = #[.cell p 31, .tmp q]) {tmps : Array Value} {o : Nat} {x y z v : Value} {w : World} (hp : tmps.getD p undef = .pointer (some ⟨o, 0, none⟩)) (hv : tmps.getD q undef = v) (hb : w.heap[o]? = some (.cells #[x, y, z] 31 (0, 0))) :
    (results fn tmps).run Try.prog w = .ok (.tuple #[.agg #[x, y, z], v]) w := by
  have c0 : w.cell? ⟨o, 0, none⟩ = some x := by rw [cells_at hb]; rfl
  have c1 : w.cell? ⟨o, 1, none⟩ = some y := by rw [cells_at hb]; rfl
  have c2 : w.cell? ⟨o, 2, none⟩ = some z := by rw [cells_at hb]; rfl
  rw [results_cell_tmp hfn, hp, hv]
  simp [go_sem, c0, c1, c2]
theorem mn_store2 {u : World} {q : Nat} {c : Array Value} (hc : u.heap[q]? = some (.cells c 31 (0, 0))) (h3 : c.size = 3) (x y z : Value) :
    (((u.setCell ⟨q, 0, none⟩ x).setCell ⟨q, 1, none⟩ y).setCell ⟨q, 2, none⟩ z).heap[q]? = some (.cells #[x, y, z] 31 (0, 0)) ∧ Only (fun i => i = q) u (((u.setCell ⟨q, 0, none⟩ x).setCell ⟨q, 1, none⟩ y).setCell ⟨q, 2, none⟩ z) := by
  refine ⟨?_, ((Only.cell1 u q 0 x).trans (Only.cell1 _ q 1 y)).trans (Only.cell1 _ q 2 z)⟩
  rw [cells_set (cells_set (cells_set hc 0 _) 1 _) 2 _]
  match c, h3 with
  | ⟨[_, _, _]⟩, _ => rfl
/-- A slice of files stays while a block that is none of its is written. -/
theorem LiesFl.stay {w w' : World} {v : Value} {l : List Fl} {q : Nat} (h : LiesFl w v l) (o : Only (fun i => i = q) w w') (hq : ∀ b n c, v = .slice (some b) n c → b.block ≠ q) : LiesFl w' v l := by
  obtain ⟨a, c, e, hc, h⟩ := h
  refine ⟨a, c, e, hc, h.imp id fun ⟨b, off, e2, k⟩ => ⟨b, off, e2, ?_⟩⟩
  have hb : b ≠ q := hq ⟨b, off, none⟩ l.length c (by rw [e, e2])
  refine ⟨Nat.lt_of_lt_of_le k.1 o.size, fun j x hj => ?_⟩
  obtain ⟨k0, k1, k2, k3⟩ := k.2 j x hj
  exact ⟨(o.cell (p := ⟨b, _, none⟩) k.1 hb).trans k0, (o.cell (p := ⟨b, _, none⟩) k.1 hb).trans k1, (o.cell (p := ⟨b, _, none⟩) k.1 hb).trans k2, (o.cell (p := ⟨b, _, none⟩) k.1 hb).trans k3⟩
end Go.Proofs.Ytckmciafonnohaa

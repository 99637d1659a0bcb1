/- In one text: FramePlain, OctPut, OctPut2, OctRows, Clone, OctSplit, Lies, Join, OctRput. -/
import Derived.Test.YtignfbdgpgidpaaGreatDoorW00
import Derived.Test.YtignfbdgpgidpaaGreatDoorW04
import Derived.Test.YtignfbdgpgidpaaGreatDoorW05
import Derived.WalkKit
import Derived.ProofKit
import Derived.Below
import Derived.Handy
import Derived.WalkLawsBesides
import Derived.Outline
import Derived.Lib.Hide
import Derived.Lib.BufferWrite
import Derived.Lib.BufferRead
import Derived.Test.YtignfbdgpgidpaaGreatDoorRows
import Derived.Shelf.LaysM
import Derived.Shelf.Strconv.Clone
import Derived.RegionTactic
import Derived.BigRegion
import Derived.Shelf.Strings.OnBuilder
/- Plain facts on rows of strings and on blocks, without the model; a row of strings in memory. -/
namespace Go.Proofs.YtignfbdgpgidpaaGreatDoor
open Go.RowKit CrcPlain OctPlain
set_option linter.unusedVariables false
set_option linter.unusedSimpArgs false
set_option maxRecDepth 20000
namespace FramePlain
def sizeB (size : Int) : Bool := decide (1 ≤ size ∧ size ≤ 64)
def roomN (size : Int) : Int := if sizeB size = true then 5 + 4 * size else 0
def cat (l : List ByteArray) : List UInt8 := (l.map (·.data.toList)).flatten
def allB (size : Int) (l : List ByteArray) : Bool := l.all (fun s => decide ((s.size : Int) = size))
def blkB (size : Int) (l : List ByteArray) : Bool := sizeB size && decide (1 ≤ l.length ∧ l.length ≤ 4) && allB size l
def blk (l : List ByteArray) : ByteArray := bs (UInt8.ofNat l.length :: cat l)
def blkS (size : Int) (l : List ByteArray) : ByteArray := if blkB size l = true then cl (blk l) else ⟨#[]⟩
theorem blkS_no {size : Int} {l : List ByteArray} (h : blkB size l = false) : blkS size l = ⟨#[]⟩ := by simp [blkS, h]
theorem blkS_yes {size : Int} {l : List ByteArray} (h : blkB size l = true) : blkS size l = cl (blk l) := by simp [blkS, h]
theorem cat_snoc (l : List ByteArray) (x : ByteArray) : cat (l ++ [x]) = cat l ++ x.data.toList := by simp [cat]
theorem allB_iff {size : Int} {l : List ByteArray} : allB size l = true ↔ ∀ s ∈ l, (s.size : Int) = size := by simp [allB]
theorem data_length (s : ByteArray) : s.data.toList.length = s.size := Array.length_toList
theorem cat_length {size : Nat} : ∀ {l : List ByteArray}, (∀ s ∈ l, s.size = size) → (cat l).length = l.length * size
  | [], _ => by simp [cat]
  | x :: r, h => by
    have ih := cat_length (l := r) fun s hs => h s (by simp [hs])
    have e : cat (x :: r) = x.data.toList ++ cat r := rfl
    rw [e, List.length_append, ih, data_length, h x (by simp), List.length_cons, Nat.add_mul, Nat.one_mul, Nat.add_comm]
theorem cat_le {l : List ByteArray} (h : ∀ s ∈ l, s.size ≤ 64) : (cat l).length ≤ l.length * 64 := by
  induction l with
  | nil => simp [cat]
  | cons x r ih =>
    have e : cat (x :: r) = x.data.toList ++ cat r := rfl
    have := ih fun s hs => h s (by simp [hs])
    have hx := h x (by simp)
    rw [e, List.length_append, data_length, List.length_cons]
    omega
theorem blk_size (l : List ByteArray) : (blk l).size = 1 + (cat l).length := by unfold blk; rw [bs_size, List.length_cons]; omega
end FramePlain
open FramePlain
end Go.Proofs.YtignfbdgpgidpaaGreatDoor
/- Contracts of layer octet's functions that make bytes, and of the document's answers to them, each by a walk of its text. -/
namespace Go.Proofs.YtignfbdgpgidpaaGreatDoor
open Go.RowKit OctPlain
set_option linter.unusedVariables false
set_option linter.unusedSimpArgs false
set_option maxRecDepth 20000
set_option maxHeartbeats 1000000 in
theorem sized_c (k : Int) (hk : I64 k) (w : World) :
    Calls Tryz.prog 176 #[.int .i64 k] w fun e w' => e = .returned (.bool (decide (1 ≤ k ∧ k ≤ 8))) ∧ w = w' := by
  by_cases h1 : 1 ≤ k <;> by_cases h2 : k ≤ 8
  all_goals
    go_enter Tryz.func176, Tryz.ntmps176
    go_wp2
    go_ret
    exact ⟨by simp [h1, h2], rfl⟩
end Go.Proofs.YtignfbdgpgidpaaGreatDoor
/- Contracts of Put and PutCoord, and of the document's answers to them. -/
namespace Go.Proofs.YtignfbdgpgidpaaGreatDoor
open Go.RowKit OctPlain
set_option linter.unusedVariables false
set_option linter.unusedSimpArgs false
set_option maxRecDepth 20000
def b1 (b : UInt8) : ByteArray := bs [b]
theorem conv1 (u : World) (x : Int) (h0 : 0 ≤ x) (h1 : x < 256) :
    (convert 94 9 (.slice (some ⟨u.heap.size, 0, none⟩) 1 1)).run Tryz.prog (u.alloc (.cells #[Value.int IntKind.u8 x] 5)) = .ok (.string (bs [UInt8.ofNat x.toNat])) (u.alloc (.cells #[Value.int IntKind.u8 x] 5)) := by
  refine conv_list _ _ _ _ rfl ?_
  intro j y hy
  obtain rfl : j = 0 := by
    have := (List.getElem?_eq_some_iff.1 hy).1
    simpa using this
  simp at hy
  subst hy
  show World.cell? _ ⟨u.heap.size, 0 + 0, none⟩ = _
  rw [World.cell?_alloc_mark]
  simp
  omega
end Go.Proofs.YtignfbdgpgidpaaGreatDoor
/- Plain facts on rows of numbers' bytes; facts of memory for them. -/
namespace Go.Proofs.YtignfbdgpgidpaaGreatDoor
open Go.RowKit OctPlain
set_option linter.unusedVariables false
set_option linter.unusedSimpArgs false
set_option maxRecDepth 20000
namespace OctPlain
theorem getD_at (l : List Int) (j : Nat) (hj : j < l.length) : l.getD j 0 = l[j] := by simp [hj]
theorem take_snoc (l : List Int) (j : Nat) (z : Int) (hj : j < l.length) (hz : l.getD j 0 = z) : l.take (j + 1) = l.take j ++ [z] := by
  rw [List.take_succ_eq_append_getElem hj, ← hz, getD_at l j hj]
end OctPlain
theorem Gr.grown {a b : World} (h : Gr a b) : a.grownBy b none := ⟨h.os, h.tape, h.output, h.size, fun k hk _ => h.block k hk⟩
end Go.Proofs.YtignfbdgpgidpaaGreatDoor
/- strings.Clone gives the same bytes: by the library's contract of internal/stringslite.Clone, laid at this program's numbers. -/
namespace Go.Proofs.YtignfbdgpgidpaaGreatDoor
open Go.RowKit
set_option linter.unusedVariables false
def cloneRen : Go.Shelf.Ren := ⟨fun | 316 => 110 | n => n, fun | 9 => 9 | 3 => 3 | 4 => 4 | 37 => 94 | 0 => 0 | 127 => 182 | 5 => 5 | n => n, fun | n => n⟩
theorem cloneLaid : Go.Proofs.LaysM.n316 Tryz.prog cloneRen := {
  mixed := by kernel_rfl
  f316 := Tryz.func110.trans (congrArg some (by kernel_rfl))
  t0 := Tryz.underlying0
  a0 := Tryz.isAgg0
  z0 := Tryz.sizeOf0
  v0 := Tryz.zeroValue0
  t3 := Tryz.underlying3
  a3 := Tryz.isAgg3
  z3 := Tryz.sizeOf3
  v3 := Tryz.zeroValue3
  t4 := Tryz.underlying4
  a4 := Tryz.isAgg4
  z4 := Tryz.sizeOf4
  v4 := Tryz.zeroValue4
  t9 := Tryz.underlying9
  a9 := Tryz.isAgg9
  z9 := Tryz.sizeOf9
  v9 := Tryz.zeroValue9
  t37 := Tryz.underlying94
  a37 := Tryz.isAgg94
  z37 := Tryz.sizeOf94
  v37 := Tryz.zeroValue94
  t127 := Tryz.underlying182
  a127 := Tryz.isAgg182
  z127 := Tryz.sizeOf182
  v127 := Tryz.zeroValue182
  t5 := Tryz.underlying5
  a5 := Tryz.isAgg5
  z5 := Tryz.sizeOf5
  v5 := Tryz.zeroValue5
  i0 := by kernel_rfl
  i3 := by kernel_rfl
  i4 := by kernel_rfl
  i5 := by kernel_rfl
  i9 := by kernel_rfl
  i37 := by kernel_rfl
  i127 := by kernel_rfl }
theorem clone_c (s : ByteArray) (w : World) (hs : s.size ≤ 1000) :
    Calls Tryz.prog 83 #[.string s] w fun e w' => e = .returned (.string s) ∧ Gr w w' := by
  go_enter Tryz.func83, Tryz.ntmps83
  go_wp2_with fail
  refine (Any.stringslite_Clone cloneLaid s w (by omega)).mono ?_
  rintro e u ⟨rfl, g⟩
  go_wp2
  go_ret
  exact ⟨rfl, Gr.of g⟩
end Go.Proofs.YtignfbdgpgidpaaGreatDoor
/- Contracts of Split, of the document's answer to it, and of the statement's comparison of two lists. -/
namespace Go.Proofs.YtignfbdgpgidpaaGreatDoor
open Go.RowKit OctPlain
set_option linter.unusedVariables false
set_option linter.unusedSimpArgs false
set_option maxRecDepth 20000
namespace OctPlain
def pieces (s : ByteArray) (k : Nat) : Nat → List ByteArray
  | 0 => []
  | j + 1 => pieces s k j ++ [s.extract (j * k) (j * k + k)]
theorem pieces_length (s : ByteArray) (k : Nat) : ∀ j, (pieces s k j).length = j
  | 0 => rfl
  | j + 1 => by rw [pieces, List.length_append, pieces_length s k j]; rfl
def splB (s : ByteArray) (k : Int) : Bool := decide (1 ≤ k ∧ (s.size : Int) % k = 0)
def splL (s : ByteArray) (k : Int) : List ByteArray := if splB s k = true then pieces s k.toNat (s.size / k.toNat) else []
theorem splL_no {s : ByteArray} {k : Int} (h : splB s k = false) : splL s k = [] := by simp [splL, h]
theorem splL_yes {s : ByteArray} {k : Int} (h : splB s k = true) : splL s k = pieces s k.toNat (s.size / k.toNat) := by simp [splL, h]
end OctPlain
theorem info9 : (Tryz.prog.info? 9).map (fun i => (i.zero, i.size, i.bytes)) = some (some (.string ⟨#[]⟩), 1, 16) := by kernel_rfl
theorem ret_vb {a b : Value} {p q : Bool} (h : a = b) (k : p = q) : Ending.returned (.tuple #[a, .bool p]) = .returned (.tuple #[b, .bool q]) := by rw [h, k]
set_option maxHeartbeats 1000000 in
theorem split_no (s : ByteArray) (k : Int) (hk : I64 k) (w : World) (hs : s.size ≤ 1000) (h : splB s k = false) :
    Calls Tryz.prog 202 #[.string s, .int .i64 k] w fun e w' => e = .returned (.tuple #[.slice none 0 0, .bool (splB s k)]) ∧ w = w' := by
  by_cases k1 : k < 1
  · go_enter Tryz.func202, Tryz.ntmps202
    go_wp2_with fail
    go_ret2
    first | exact ⟨rfl, rfl⟩ | exact ⟨ret_vb rfl h.symm, rfl⟩
  · have hm : ¬ (s.size : Int) % k = 0 := by
      intro hh
      have : splB s k = true := by unfold splB; rw [decide_eq_true_iff]; exact ⟨by omega, hh⟩
      rw [h] at this; cases this
    have hm2 : ((s.size : Int) % k == 0) = false := by simpa using hm
    have hm3 : ((s.size : Int) % k != 0) = true := by simpa using hm
    have hk0 : ¬ k = 0 := by omega
    go_enter Tryz.func202, Tryz.ntmps202
    go_wp2_with fail
    go_ret2
    first | exact ⟨rfl, rfl⟩ | exact ⟨ret_vb rfl h.symm, rfl⟩
theorem slice_mid (s : ByteArray) (a m : Nat) (h : a + m ≤ s.size) (w : World) :
    (Instr.slice 9 (.string s) (some (.int .i64 (a : Int))) (some (.int .i64 ((a : Int) + (m : Int)))) none).run Tryz.prog w = .ok (.string (s.extract a (a + m))) w := by
  have h1 := run_slice_string (P := Tryz.prog) w 9 s .i64 .i64 (a : Int) ((a : Int) + (m : Int)) Tryz.underlying9 (by omega) (by omega) (by omega)
  have e : ((a : Int) + (m : Int)).toNat = a + m := by omega
  rw [e, Int.toNat_natCast] at h1
  exact h1
def SplAt (s : ByteArray) (m q : Nat) (w : World) (v i : Value) (wr : World) : Prop :=
  ∃ j a : Nat, j ≤ q ∧ a = j * m ∧ i = .int .i64 a ∧ wr.ownsRow w.heap.size 9 1 v j (strs (pieces s m j)) ∧ Below w.heap.size w wr
set_option maxRecDepth 20000 in
set_option maxHeartbeats 2000000 in
theorem split_yes (s : ByteArray) (m : Nat) (hk : I64 m) (w : World) (hs : s.size ≤ 1000) (h : splB s m = true) :
    Calls Tryz.prog 202 #[.string s, .int .i64 m] w fun e w' => ∃ v, e = .returned (.tuple #[v, .bool true]) ∧ w'.ownsRow w.heap.size 9 1 v (splL s m).length (strs (splL s m)) ∧ Gr w w' := by
  have hL := splL_yes h
  unfold splB at h
  rw [decide_eq_true_iff] at h
  obtain ⟨hm1, hmod⟩ := h
  unfold I64 at hk
  rw [Int.toNat_natCast] at hL
  have hmod' : s.size % m = 0 := by omega
  have hq : s.size = s.size / m * m := by
    have := Nat.div_add_mod s.size m
    rw [hmod', Nat.add_zero, Nat.mul_comm] at this; exact this.symm
  generalize hqq : s.size / m = q at hq hL
  rw [hL, pieces_length]
  have hb2 : ((s.size : Int) % (m : Int) == 0) = true := by simpa using hmod
  have hb3 : ((s.size : Int) % (m : Int) != 0) = false := by simpa using hmod
  have hq' := Lib.hid hq
  clear hL hqq hq hmod hmod'
  obtain ⟨i0, hi, hz0, hz1, hz2⟩ := info_parts info9
  go_enter Tryz.func202, Tryz.ntmps202
  go_wp2_with fail
  refine (clone_c s _ hs).mono ?_
  rintro e w1 ⟨rfl, g⟩
  go_wp2_with fail
  go_loopw [7, 8] (fun v i wr => SplAt s m q w v i wr) (fun _ i _ => s.size - (intOf i).toNat)
  case atStart => exact ⟨0, 0, Nat.zero_le _, by omega, rfl, World.ownsRow_nil _ _ _ _, g⟩
  case round =>
    obtain ⟨j, a, hj, ha, rfl, hown, hbel⟩ := hrel
    have hsz := hbel.size
    by_cases hlt : j < q
    · have hroom : a + m ≤ s.size := by
        rw [hq'.out, ha]
        have := Nat.mul_le_mul_right m (show j + 1 ≤ q by omega)
        rw [Nat.add_mul, Nat.one_mul] at this; exact this
      have hjq : j ≤ 1000 := by
        have h1 := Nat.mul_le_mul_left j (show 1 ≤ m by omega)
        omega
      have hnext : pieces s m (j + 1) = pieces s m j ++ [s.extract a (a + m)] := by rw [pieces, ha]
      have hfin : ∀ (v' : Value) (wx : World), wx.ownsRow w.heap.size 9 1 v' (j + 1) (strs (pieces s m j) ++ [.string (s.extract a (a + m))]) → Below w.heap.size w wx → SplAt s m q w v' (.int .i64 ((a : Int) + (m : Int))) wx := by
        intro v' wx h1 h2
        refine ⟨j + 1, a + m, by omega, by rw [Nat.add_mul, Nat.one_mul, ha], rfl, ?_, h2⟩
        rw [hnext]
        unfold strs at h1 ⊢
        rw [List.map_append]; exact h1
      have hh := Lib.hid hfin
      have hsl := slice_mid s a m hroom
      clear hfin hnext ha
      go_wp2_with (first
        | (at_builtin; refine wpList_append_own _ rfl _ _ 23 rfl w.heap.size 9 i0 (.string ⟨#[]⟩) 1 16 Tryz.underlying23 hi hz0 hz1 hz2 rfl (by decide) _ _ _ rfl (hown.alloc _) ⟨wr.heap.size, 0, none⟩ 1 1 [.string (s.extract a (a + m))] rfl ?c0 ?c1 ?c2 ?c3 ?c4 ?c5 ?_)
        | go_in)
      case c0 => rfl
      case c1 =>
        intro jj u hj
        match jj, hj with
        | 0, hj => simp at hj; subst hj; simp [Addr.add]
      case c2 => intro u hu; simp at hu; subst hu; rfl
      case c3 => unfold maxLen; omega
      case c4 => omega
      case c5 => simp only [World.size_alloc]; omega
      · intro v' w2 hown' hgrow _
        have hb2 : Below w.heap.size w w2 := (hbel.alloc hsz _).grown hgrow (by simp only [World.size_alloc]; omega) (fun q hq => (hown.lt q hq).1)
        clear hown hgrow
        have hown3 := Lib.hid hown'
        clear hown'
        go_wp2
        refine ⟨hh.out _ _ hown3.out hb2, ?_⟩
        simp [intOf]; omega
    · obtain rfl : j = q := by omega
      have hae : a = s.size := by rw [ha]; exact hq'.out.symm
      clear ha
      subst hae
      have hown3 := Lib.hid hown
      clear hown
      go_wp2
      go_ret2
      exact ⟨_, rfl, hown3.out, Gr.of hbel⟩
theorem split_c (s : ByteArray) (k : Int) (hk : I64 k) (w : World) (hs : s.size ≤ 1000) :
    Calls Tryz.prog 202 #[.string s, .int .i64 k] w fun e w' => ∃ v, e = .returned (.tuple #[v, .bool (splB s k)]) ∧ w'.ownsRow w.heap.size 9 1 v (splL s k).length (strs (splL s k)) ∧ Gr w w' := by
  cases h : splB s k
  · refine (split_no s k hk w hs h).mono ?_
    rintro e u ⟨rfl, rfl⟩
    rw [splL_no h]
    exact ⟨_, by rw [h], World.ownsRow_nil _ _ _ _, Gr.refl _⟩
  · obtain ⟨m, rfl⟩ : ∃ m : Nat, k = m := by
      have h' := h
      unfold splB at h'; rw [decide_eq_true_iff] at h'
      exact ⟨k.toNat, by omega⟩
    exact split_yes s m hk w hs h
set_option maxHeartbeats 1000000 in
theorem rsplit_no (s : ByteArray) (k : Int) (hk : I64 k) (w : World) (hs : s.size ≤ 1000) (h : splB s k = false) :
    Calls Tryz.prog 140 #[.string s, .int .i64 k] w fun e w' => e = .returned (.tuple #[.slice none 0 0, .bool (splB s k)]) ∧ w = w' := by
  by_cases k1 : k < 1
  · go_enter Tryz.func140, Tryz.ntmps140
    go_wp2_with fail
    go_ret2
    first | exact ⟨rfl, rfl⟩ | exact ⟨ret_vb rfl h.symm, rfl⟩
  · have hm : ¬ (s.size : Int) % k = 0 := by
      intro hh
      have : splB s k = true := by unfold splB; rw [decide_eq_true_iff]; exact ⟨by omega, hh⟩
      rw [h] at this; cases this
    have hm2 : ((s.size : Int) % k == 0) = false := by simpa using hm
    have hm3 : ((s.size : Int) % k != 0) = true := by simpa using hm
    have hk0 : ¬ k = 0 := by omega
    go_enter Tryz.func140, Tryz.ntmps140
    go_wp2_with fail
    go_ret2
    first | exact ⟨rfl, rfl⟩ | exact ⟨ret_vb rfl h.symm, rfl⟩
set_option maxHeartbeats 2000000 in
theorem rsplit_yes (s : ByteArray) (m : Nat) (hk : I64 m) (w : World) (hs : s.size ≤ 1000) (h : splB s m = true) :
    Calls Tryz.prog 140 #[.string s, .int .i64 m] w fun e w' => ∃ v, e = .returned (.tuple #[v, .bool true]) ∧ w'.ownsRow w.heap.size 9 1 v (splL s m).length (strs (splL s m)) ∧ Gr w w' := by
  have hL := splL_yes h
  unfold splB at h
  rw [decide_eq_true_iff] at h
  obtain ⟨hm1, hmod⟩ := h
  unfold I64 at hk
  rw [Int.toNat_natCast] at hL
  have hmod' : s.size % m = 0 := by omega
  have hq : s.size = s.size / m * m := by
    have := Nat.div_add_mod s.size m
    rw [hmod', Nat.add_zero, Nat.mul_comm] at this; exact this.symm
  generalize hqq : s.size / m = q at hq hL
  rw [hL, pieces_length]
  have hb2 : ((s.size : Int) % (m : Int) == 0) = true := by simpa using hmod
  have hb3 : ((s.size : Int) % (m : Int) != 0) = false := by simpa using hmod
  have hq' := Lib.hid hq
  clear hL hqq hq hmod hmod'
  obtain ⟨i0, hi, hz0, hz1, hz2⟩ := info_parts info9
  go_enter Tryz.func140, Tryz.ntmps140
  go_wp2_with fail
  go_loopw [6, 7] (fun v i wr => SplAt s m q w v i wr) (fun _ i _ => s.size - (intOf i).toNat)
  case atStart => exact ⟨0, 0, Nat.zero_le _, by omega, rfl, World.ownsRow_nil _ _ _ _, Below.refl _ _⟩
  case round =>
    obtain ⟨j, a, hj, ha, rfl, hown, hbel⟩ := hrel
    have hsz := hbel.size
    by_cases hlt : j < q
    · have hroom : a + m ≤ s.size := by
        rw [hq'.out, ha]
        have := Nat.mul_le_mul_right m (show j + 1 ≤ q by omega)
        rw [Nat.add_mul, Nat.one_mul] at this; exact this
      have hjq : j ≤ 1000 := by
        have h1 := Nat.mul_le_mul_left j (show 1 ≤ m by omega)
        omega
      have hnext : pieces s m (j + 1) = pieces s m j ++ [s.extract a (a + m)] := by rw [pieces, ha]
      have hfin : ∀ (v' : Value) (wx : World), wx.ownsRow w.heap.size 9 1 v' (j + 1) (strs (pieces s m j) ++ [.string (s.extract a (a + m))]) → Below w.heap.size w wx → SplAt s m q w v' (.int .i64 ((a : Int) + (m : Int))) wx := by
        intro v' wx h1 h2
        refine ⟨j + 1, a + m, by omega, by rw [Nat.add_mul, Nat.one_mul, ha], rfl, ?_, h2⟩
        rw [hnext]
        unfold strs at h1 ⊢
        rw [List.map_append]; exact h1
      have hh := Lib.hid hfin
      have hsl := slice_mid s a m hroom
      clear hfin hnext ha
      go_wp2_with (first
        | (at_builtin; refine wpList_append_own _ rfl _ _ 23 rfl w.heap.size 9 i0 (.string ⟨#[]⟩) 1 16 Tryz.underlying23 hi hz0 hz1 hz2 rfl (by decide) _ _ _ rfl (hown.alloc _) ⟨wr.heap.size, 0, none⟩ 1 1 [.string (s.extract a (a + m))] rfl ?c0 ?c1 ?c2 ?c3 ?c4 ?c5 ?_)
        | go_in)
      case c0 => rfl
      case c1 =>
        intro jj u hj
        match jj, hj with
        | 0, hj => simp at hj; subst hj; simp [Addr.add]
      case c2 => intro u hu; simp at hu; subst hu; rfl
      case c3 => unfold maxLen; omega
      case c4 => omega
      case c5 => simp only [World.size_alloc]; omega
      · intro v' w2 hown' hgrow _
        have hb2 : Below w.heap.size w w2 := (hbel.alloc hsz _).grown hgrow (by simp only [World.size_alloc]; omega) (fun q hq => (hown.lt q hq).1)
        clear hown hgrow
        have hown3 := Lib.hid hown'
        clear hown'
        go_wp2
        refine ⟨hh.out _ _ hown3.out hb2, ?_⟩
        simp [intOf]; omega
    · obtain rfl : j = q := by omega
      have hae : a = s.size := by rw [ha]; exact hq'.out.symm
      clear ha
      subst hae
      have hown3 := Lib.hid hown
      clear hown
      go_wp2
      go_ret2
      exact ⟨_, rfl, hown3.out, Gr.of hbel⟩
theorem rsplit_c (s : ByteArray) (k : Int) (hk : I64 k) (w : World) (hs : s.size ≤ 1000) :
    Calls Tryz.prog 140 #[.string s, .int .i64 k] w fun e w' => ∃ v, e = .returned (.tuple #[v, .bool (splB s k)]) ∧ w'.ownsRow w.heap.size 9 1 v (splL s k).length (strs (splL s k)) ∧ Gr w w' := by
  cases h : splB s k
  · refine (rsplit_no s k hk w hs h).mono ?_
    rintro e u ⟨rfl, rfl⟩
    rw [splL_no h]
    exact ⟨_, by rw [h], World.ownsRow_nil _ _ _ _, Gr.refl _⟩
  · obtain ⟨m, rfl⟩ : ∃ m : Nat, k = m := by
      have h' := h
      unfold splB at h'; rw [decide_eq_true_iff] at h'
      exact ⟨k.toNat, by omega⟩
    exact rsplit_yes s m hk w hs h
end Go.Proofs.YtignfbdgpgidpaaGreatDoor
/- A slice that holds these strings, whoever made it; the document's comparison of two such. -/
namespace Go.Proofs.YtignfbdgpgidpaaGreatDoor
open Go.RowKit OctPlain FramePlain
set_option linter.unusedVariables false
set_option linter.unusedSimpArgs false
set_option maxRecDepth 20000
end Go.Proofs.YtignfbdgpgidpaaGreatDoor
/- strings.Join with nothing between: by the library's contract, laid at this program's numbers. -/
namespace Go.Proofs.YtignfbdgpgidpaaGreatDoor
open Go.RowKit FramePlain
set_option linter.unusedVariables false
end Go.Proofs.YtignfbdgpgidpaaGreatDoor
/- Contracts of the document's Put, and of PutCoord on both sides. -/
namespace Go.Proofs.YtignfbdgpgidpaaGreatDoor
open Go.RowKit OctPlain
set_option linter.unusedVariables false
set_option linter.unusedSimpArgs false
set_option maxRecDepth 20000
def PutAt (n k : Int) (B : Nat) (w : World) (v s i : Value) (wr : World) : Prop :=
  ∃ j : Nat, (j : Int) ≤ k ∧ i = .int .i64 j ∧ v = .int .i64 (n / 256 ^ j) ∧ s = .string (bs (beL j n.toNat)) ∧ Below B w wr
set_option maxHeartbeats 1000000 in
theorem rput_c (n k : Int) (hn : I64 n) (hk : I64 k) (w : World) :
    Calls Tryz.prog 142 #[.int .i64 n, .int .i64 k] w fun e w' => e = .returned (.tuple #[.string (putS n k), .bool (fitsB n k)]) ∧ Gr w w' := by
  unfold I64 at hn hk
  by_cases h : (1 ≤ k ∧ k ≤ 8) ∧ 0 ≤ n
  · obtain ⟨hk8, hn0⟩ := h
    go_enter Tryz.func142, Tryz.ntmps142
    go_wp2_with fail
    go_loopw [0, 6, 7] (fun v s i wr => PutAt n k w.heap.size w v s i wr) (fun _ _ i _ => (k - intOf i).toNat)
    case atStart => exact ⟨0, by omega, by simp, by simp, by simp [beL, bs], Below.refl _ _⟩
    case round =>
      obtain ⟨j, hj, rfl, rfl, rfl, hb⟩ := hrel
      have hm0 : 0 ≤ n / 256 ^ j := Int.ediv_nonneg hn0 (Int.pow_nonneg (by omega))
      have hm1 : n / 256 ^ j ≤ n := Int.ediv_le_self _ hn0
      have hstep : n / 256 ^ (j + 1) = n / 256 ^ j / 256 := by rw [Int.pow_succ, Int.ediv_ediv_of_nonneg (Int.pow_nonneg (by omega))]
      by_cases hlt : (j : Int) < k
      · obtain ⟨m, hm⟩ : ∃ m, m = n / 256 ^ j := ⟨_, rfl⟩
        rw [← hm] at hm0 hm1 hstep ⊢
        have hc := fun u => conv1 u (m % 256) (by omega) (by omega)
        have s1 : (bs [UInt8.ofNat (m % 256).toNat]).size = 1 := bs_size _
        have s2 : (bs (beL j n.toNat)).size = j := by rw [bs_size, beL_length]
        have hnew : bs [UInt8.ofNat (m % 256).toNat] ++ bs (beL j n.toNat) = bs (beL (j + 1) n.toNat) := by
          rw [bs_app, beL_top, hm]
          rw [dig_cast n hn0]
          rfl
        have hnew' := Lib.hid hnew
        clear hm hnew
        go_wp2
        refine ⟨⟨j + 1, by omega, rfl, by rw [hstep], by rw [hnew'.out], Below.alloc hb hb.size _⟩, ?_⟩
        simp [intOf]; omega
      · obtain rfl : k = j := by omega
        have hfit : fitsB n j = decide (n / 256 ^ j = 0) := fits_at hk8 hn0
        by_cases hz : 0 < n / 256 ^ j
        · have hf : fitsB n j = false := by rw [hfit]; simp; omega
          have hp := put_no hf
          clear hfit
          go_wp2
          go_ret2
          first | exact ⟨rfl, Gr.of hb⟩ | exact ⟨ret_sb hp.symm hf.symm, Gr.of hb⟩
        · have hf : fitsB n j = true := by rw [hfit]; simp; omega
          have hp : putS n j = bs (beL j n.toNat) := by simp [putS, hf]
          clear hfit
          go_wp2
          go_ret2
          first | exact ⟨rfl, Gr.of hb⟩ | exact ⟨ret_sb hp.symm hf.symm, Gr.of hb⟩
  · have hf : fitsB n k = false := by
      simp only [fitsB, decide_eq_false_iff_not]
      intro hh; exact h ⟨hh.1, hh.2.1⟩
    have hp := put_no hf
    by_cases k1 : k < 1
    · go_enter Tryz.func142, Tryz.ntmps142
      go_wp2
      go_ret2
      first | exact ⟨rfl, Gr.refl _⟩ | exact ⟨ret_sb hp.symm hf.symm, Gr.refl _⟩
    · by_cases k2 : 8 < k
      · go_enter Tryz.func142, Tryz.ntmps142
        go_wp2
        go_ret2
        first | exact ⟨rfl, Gr.refl _⟩ | exact ⟨ret_sb hp.symm hf.symm, Gr.refl _⟩
      · have k3 : n < 0 := by omega
        go_enter Tryz.func142, Tryz.ntmps142
        go_wp2
        go_ret2
        first | exact ⟨rfl, Gr.refl _⟩ | exact ⟨ret_sb hp.symm hf.symm, Gr.refl _⟩
end Go.Proofs.YtignfbdgpgidpaaGreatDoor

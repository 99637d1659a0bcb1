/- In one text: OctRows, Clone, OctSplit, Lies, Join, OctRput. -/
import Derived.Test.YtojlceoeacebmaaP01
import Derived.Lib.Hide
import Derived.Lib.BufferWrite
import Derived.Lib.BufferRead
import Derived.Test.YtojlceoeacebmaaRows
import Derived.Test.YtojlceoeacebmaaP00
import Derived.Shelf.LaysM
import Derived.Shelf.Strconv.Clone
import Derived.RegionTactic
import Derived.BigRegion
import Derived.Shelf.Strings.OnBuilder
/- Plain facts on rows of numbers' bytes; facts of memory for them. -/
namespace Go.Proofs.Ytojlceoeacebmaa
open Go.RowKit OctPlain
set_option linter.unusedVariables false
set_option linter.unusedSimpArgs false
set_option maxRecDepth 20000

namespace OctPlain
def rowB (l : List Int) (k : Int) : Bool := l.all (fun n => fitsB n k)
def rowL (l : List Int) (k : Int) : List UInt8 := l.flatMap (fun n => beL k.toNat n.toNat)
def rowS (l : List Int) (k : Int) : ByteArray := if rowB l k = true then bs (rowL l k) else bs []
theorem rowB_snoc (l : List Int) (z k : Int) : rowB (l ++ [z]) k = (rowB l k && fitsB z k) := by simp [rowB]
theorem rowL_snoc (l : List Int) (z k : Int) : rowL (l ++ [z]) k = rowL l k ++ beL k.toNat z.toNat := by simp [rowL]
theorem rowL_length (l : List Int) (k : Int) : (rowL l k).length = l.length * k.toNat := by
  induction l with
  | nil => simp [rowL]
  | cons a l ih =>
    have e : rowL (a :: l) k = beL k.toNat a.toNat ++ rowL l k := rfl
    rw [e, List.length_append, beL_length, ih, List.length_cons, Nat.add_mul, Nat.one_mul, Nat.add_comm]
theorem getD_at (l : List Int) (j : Nat) (hj : j < l.length) : l.getD j 0 = l[j] := by simp [hj]
theorem rowB_no {l : List Int} {j : Nat} {z k : Int} (hj : j < l.length) (hz : l.getD j 0 = z) (h : fitsB z k = false) : rowB l k = false := by
  unfold rowB
  rw [List.all_eq_false]
  refine ⟨z, ?_, by simp [h]⟩
  rw [← hz, getD_at l j hj]
  exact List.getElem_mem hj
theorem take_snoc (l : List Int) (j : Nat) (z : Int) (hj : j < l.length) (hz : l.getD j 0 = z) : l.take (j + 1) = l.take j ++ [z] := by
  rw [List.take_succ_eq_append_getElem hj, ← hz, getD_at l j hj]
theorem rowS_no {l : List Int} {k : Int} (h : rowB l k = false) : rowS l k = ⟨#[]⟩ := by simp [rowS, h, bs]
theorem rowS_yes {l : List Int} {k : Int} (h : rowB l k = true) : rowS l k = bs (rowL l k) := by simp [rowS, h]
end OctPlain

theorem Gr.grown {a b : World} (h : Gr a b) : a.grownBy b none := ⟨h.os, h.tape, h.output, h.size, fun k hk _ => h.block k hk⟩

theorem conv_own {w : World} {B : Nat} {v : Value} {l : List UInt8} (h : w.ownsRow B 5 1 v l.length (Lib.byteCells l)) :
    (convert 70 9 v).run Try.prog w = .ok (.string (bs l)) w := by
  obtain ⟨_, ⟨rfl, h0⟩ | ⟨g, cap, cur, rfl, _, _, _, _, _, _⟩⟩ := id h
  · have hl : l = [] := List.eq_nil_of_length_eq_zero h0
    subst hl
    exact Lib.run_convert_nil_bytes w _ _ 5 0 Try.underlying70 Try.underlying5 Try.underlying9
  · have hc := h.cells (g := g) rfl
    refine run_convert_bytes_back (P := Try.prog) w 70 9 5 _ cap l Try.underlying70 Try.underlying5 Try.underlying9 (fun j hj => hc j _ ?_)
    simp [Lib.byteCells, List.getElem?_eq_getElem hj]

theorem cells8 (u : World) (n : Int) (k : Nat) (hn : 0 ≤ n) (hk : 1 ≤ k ∧ k ≤ 8) : ∀ j x, (Lib.byteCells (beL k n.toNat))[j]? = some x →
    (u.alloc (.cells #[Value.int IntKind.u8 (n / 72057594037927936 % 256), Value.int IntKind.u8 (n / 281474976710656 % 256),
              Value.int IntKind.u8 (n / 1099511627776 % 256), Value.int IntKind.u8 (n / 4294967296 % 256),
              Value.int IntKind.u8 (n / 16777216 % 256), Value.int IntKind.u8 (n / 65536 % 256),
              Value.int IntKind.u8 (n / 256 % 256), Value.int IntKind.u8 (n % 256)] 107)).cell? (Addr.add ⟨u.heap.size, 8 - k, none⟩ j) = some x := by
  obtain ⟨m, rfl⟩ : ∃ m : Nat, n = m := ⟨n.toNat, by omega⟩
  intro j x hx
  have hj : j < k := by
    have := (List.getElem?_eq_some_iff.1 hx).1
    rw [Lib.byteCells_length, beL_length] at this; exact this
  have ea : Addr.add ⟨u.heap.size, 8 - k, none⟩ j = ⟨u.heap.size, 8 - k + j, none⟩ := by simp [Addr.add]
  rw [ea, World.cell?_alloc_mark]
  have hk8 : k = 1 ∨ k = 2 ∨ k = 3 ∨ k = 4 ∨ k = 5 ∨ k = 6 ∨ k = 7 ∨ k = 8 := by omega
  rcases hk8 with rfl | rfl | rfl | rfl | rfl | rfl | rfl | rfl
  all_goals
    have hj8 : j = 0 ∨ j = 1 ∨ j = 2 ∨ j = 3 ∨ j = 4 ∨ j = 5 ∨ j = 6 ∨ j = 7 := by omega
    rcases hj8 with rfl | rfl | rfl | rfl | rfl | rfl | rfl | rfl <;> first | (exfalso; omega) | (simp [beL, Lib.byteCells] at hx; subst hx; simp; done) | (simp [beL, Lib.byteCells] at hx; subst hx; simp; omega)
end Go.Proofs.Ytojlceoeacebmaa
/- strings.Clone gives the same bytes: by the library's contract of internal/stringslite.Clone, laid at this program's numbers. -/
namespace Go.Proofs.Ytojlceoeacebmaa
open Go.RowKit
set_option linter.unusedVariables false
def cloneRen : Go.Shelf.Ren := ⟨fun | 316 => 54 | n => n, fun | 9 => 9 | 3 => 3 | 4 => 4 | 37 => 70 | 0 => 0 | 127 => 101 | 5 => 5 | n => n, fun | n => n⟩
theorem cloneLaid : Go.Proofs.LaysM.n316 Try.prog cloneRen := {
  mixed := by kernel_rfl
  f316 := Try.func54.trans (congrArg some (by kernel_rfl))
  t0 := Try.underlying0
  a0 := Try.isAgg0
  z0 := Try.sizeOf0
  v0 := Try.zeroValue0
  t3 := Try.underlying3
  a3 := Try.isAgg3
  z3 := Try.sizeOf3
  v3 := Try.zeroValue3
  t4 := Try.underlying4
  a4 := Try.isAgg4
  z4 := Try.sizeOf4
  v4 := Try.zeroValue4
  t9 := Try.underlying9
  a9 := Try.isAgg9
  z9 := Try.sizeOf9
  v9 := Try.zeroValue9
  t37 := Try.underlying70
  a37 := Try.isAgg70
  z37 := Try.sizeOf70
  v37 := Try.zeroValue70
  t127 := Try.underlying101
  a127 := Try.isAgg101
  z127 := Try.sizeOf101
  v127 := Try.zeroValue101
  t5 := Try.underlying5
  a5 := Try.isAgg5
  z5 := Try.sizeOf5
  v5 := Try.zeroValue5
  i0 := by kernel_rfl
  i3 := by kernel_rfl
  i4 := by kernel_rfl
  i5 := by kernel_rfl
  i9 := by kernel_rfl
  i37 := by kernel_rfl
  i127 := by kernel_rfl }
theorem clone_c (s : ByteArray) (w : World) (hs : s.size ≤ 1000) :
    Calls Try.prog 34 #[.string s] w fun e w' => e = .returned (.string s) ∧ Gr w w' := by
  go_enter Try.func34, Try.ntmps34
  go_wp2_with fail
  refine (Any.stringslite_Clone cloneLaid s w (by omega)).mono ?_
  rintro e u ⟨rfl, g⟩
  go_wp2
  go_ret
  exact ⟨rfl, Gr.of g⟩
end Go.Proofs.Ytojlceoeacebmaa
/- Contracts of Split, of the document's answer to it, and of the statement's comparison of two lists. -/
namespace Go.Proofs.Ytojlceoeacebmaa
open Go.RowKit OctPlain
set_option linter.unusedVariables false
set_option linter.unusedSimpArgs false
set_option maxRecDepth 20000

namespace OctPlain
/-- The first j pieces. -/
def pieces (s : ByteArray) (k : Nat) : Nat → List ByteArray
  | 0 => []
  | j + 1 => pieces s k j ++ [s.extract (j * k) (j * k + k)]
theorem pieces_length (s : ByteArray) (k : Nat) : ∀ j, (pieces s k j).length = j
  | 0 => rfl
  | j + 1 => by rw [pieces, List.length_append, pieces_length s k j]; rfl
def splB (s : ByteArray) (k : Int) : Bool := decide (1 ≤ k ∧ (s.size : Int) % k = 0)
def splL (s : ByteArray) (k : Int) : List ByteArray := if splB s k = true then pieces s k.toNat (s.size / k.toNat) else []
theorem splL_no {s : ByteArray} {k : Int} (h : splB s k = false) : splL s k = [] := by simp [splL, h]
theorem splL_yes {s : ByteArray} {k : Int} (h : splB s k = true) : splL s k = pieces s k.toNat (s.size / k.toNat) := by simp [splL, h]
end OctPlain
def strs (l : List ByteArray) : List Value := l.map Value.string
theorem info9 : (Try.prog.info? 9).map (fun i => (i.zero, i.size, i.bytes)) = some (some (.string ⟨#[]⟩), 1, 16) := by kernel_rfl

theorem ret_vb {a b : Value} {p q : Bool} (h : a = b) (k : p = q) : Ending.returned (.tuple #[a, .bool p]) = .returned (.tuple #[b, .bool q]) := by rw [h, k]

set_option maxHeartbeats 1000000 in
theorem split_no (s : ByteArray) (k : Int) (hk : I64 k) (w : World) (hs : s.size ≤ 1000) (h : splB s k = false) :
    Calls Try.prog 78 #[.string s, .int .i64 k] w fun e w' => e = .returned (.tuple #[.slice none 0 0, .bool (splB s k)]) ∧ w = w' := by
  by_cases k1 : k < 1
  · go_enter Try.func78, Try.ntmps78
    go_wp2_with fail
    go_ret2
    first | exact ⟨rfl, rfl⟩ | exact ⟨ret_vb rfl h.symm, rfl⟩
  · have hm : ¬ (s.size : Int) % k = 0 := by
      intro hh
      have : splB s k = true := by unfold splB; rw [decide_eq_true_iff]; exact ⟨by omega, hh⟩
      rw [h] at this; cases this
    have hm2 : ((s.size : Int) % k == 0) = false := by simpa using hm
    have hm3 : ((s.size : Int) % k != 0) = true := by simpa using hm
    have hk0 : ¬ k = 0 := by omega
    go_enter Try.func78, Try.ntmps78
    go_wp2_with fail
    go_ret2
    first | exact ⟨rfl, rfl⟩ | exact ⟨ret_vb rfl h.symm, rfl⟩

theorem slice_mid (s : ByteArray) (a m : Nat) (h : a + m ≤ s.size) (w : World) :
    (Instr.slice 9 (.string s) (some (.int .i64 (a : Int))) (some (.int .i64 ((a : Int) + (m : Int)))) none).run Try.prog w = .ok (.string (s.extract a (a + m))) w := by
  have h1 := run_slice_string (P := Try.prog) w 9 s .i64 .i64 (a : Int) ((a : Int) + (m : Int)) Try.underlying9 (by omega) (by omega) (by omega)
  have e : ((a : Int) + (m : Int)).toNat = a + m := by omega
  rw [e, Int.toNat_natCast] at h1
  exact h1
def SplAt (s : ByteArray) (m q : Nat) (w : World) (v i : Value) (wr : World) : Prop :=
  ∃ j a : Nat, j ≤ q ∧ a = j * m ∧ i = .int .i64 a ∧ wr.ownsRow w.heap.size 9 1 v j (strs (pieces s m j)) ∧ Below w.heap.size w wr

set_option maxRecDepth 20000 in
set_option maxHeartbeats 2000000 in
theorem split_yes (s : ByteArray) (m : Nat) (hk : I64 m) (w : World) (hs : s.size ≤ 1000) (h : splB s m = true) :
    Calls Try.prog 78 #[.string s, .int .i64 m] w fun e w' => ∃ v, e = .returned (.tuple #[v, .bool true]) ∧ w'.ownsRow w.heap.size 9 1 v (splL s m).length (strs (splL s m)) ∧ Gr w w' := by
  have hL := splL_yes h
  unfold splB at h
  rw [decide_eq_true_iff] at h
  obtain ⟨hm1, hmod⟩ := h
  unfold I64 at hk
  rw [Int.toNat_natCast] at hL
  have hmod' : s.size % m = 0 := by omega
  have hq : s.size = s.size / m * m := by
    have := Nat.div_add_mod s.size m
    rw [hmod', Nat.add_zero, Nat.mul_comm] at this; exact this.symm
  generalize hqq : s.size / m = q at hq hL
  rw [hL, pieces_length]
  have hb2 : ((s.size : Int) % (m : Int) == 0) = true := by simpa using hmod
  have hb3 : ((s.size : Int) % (m : Int) != 0) = false := by simpa using hmod
  have hq' := Lib.hid hq
  clear hL hqq hq hmod hmod'
  obtain ⟨i0, hi, hz0, hz1, hz2⟩ := info_parts info9
  go_enter Try.func78, Try.ntmps78
  go_wp2_with fail
  refine (clone_c s _ hs).mono ?_
  rintro e w1 ⟨rfl, g⟩
  go_wp2_with fail
  go_loopw [7, 8] (fun v i wr => SplAt s m q w v i wr) (fun _ i _ => s.size - (intOf i).toNat)
  case atStart => exact ⟨0, 0, Nat.zero_le _, by omega, rfl, World.ownsRow_nil _ _ _ _, g⟩
  case round =>
    obtain ⟨j, a, hj, ha, rfl, hown, hbel⟩ := hrel
    have hsz := hbel.size
    by_cases hlt : j < q
    · have hroom : a + m ≤ s.size := by
        rw [hq'.out, ha]
        have := Nat.mul_le_mul_right m (show j + 1 ≤ q by omega)
        rw [Nat.add_mul, Nat.one_mul] at this; exact this
      have hjq : j ≤ 1000 := by
        have h1 := Nat.mul_le_mul_left j (show 1 ≤ m by omega)
        omega
      have hnext : pieces s m (j + 1) = pieces s m j ++ [s.extract a (a + m)] := by rw [pieces, ha]
      have hfin : ∀ (v' : Value) (wx : World), wx.ownsRow w.heap.size 9 1 v' (j + 1) (strs (pieces s m j) ++ [.string (s.extract a (a + m))]) → Below w.heap.size w wx → SplAt s m q w v' (.int .i64 ((a : Int) + (m : Int))) wx := by
        intro v' wx h1 h2
        refine ⟨j + 1, a + m, by omega, by rw [Nat.add_mul, Nat.one_mul, ha], rfl, ?_, h2⟩
        rw [hnext]
        unfold strs at h1 ⊢
        rw [List.map_append]; exact h1
      have hh := Lib.hid hfin
      have hsl := slice_mid s a m hroom
      clear hfin hnext ha
      go_wp2_with (first
        | (at_builtin; refine wpList_append_own _ rfl _ _ 22 rfl w.heap.size 9 i0 (.string ⟨#[]⟩) 1 16 Try.underlying22 hi hz0 hz1 hz2 rfl (by decide) _ _ _ rfl (hown.alloc _) ⟨wr.heap.size, 0, none⟩ 1 1 [.string (s.extract a (a + m))] rfl ?c0 ?c1 ?c2 ?c3 ?c4 ?c5 ?_)
        | go_in)
      case c0 => rfl
      case c1 =>
        intro jj u hj
        match jj, hj with
        | 0, hj => simp at hj; subst hj; simp [Addr.add]
      case c2 => intro u hu; simp at hu; subst hu; rfl
      case c3 => unfold maxLen; omega
      case c4 => omega
      case c5 => simp only [World.size_alloc]; omega
      · intro v' w2 hown' hgrow _
        have hb2 : Below w.heap.size w w2 := (hbel.alloc hsz _).grown hgrow (by simp only [World.size_alloc]; omega) (fun q hq => (hown.lt q hq).1)
        clear hown hgrow
        have hown3 := Lib.hid hown'
        clear hown'
        go_wp2
        refine ⟨hh.out _ _ hown3.out hb2, ?_⟩
        simp [intOf]; omega
    · obtain rfl : j = q := by omega
      have hae : a = s.size := by rw [ha]; exact hq'.out.symm
      clear ha
      subst hae
      have hown3 := Lib.hid hown
      clear hown
      go_wp2
      go_ret2
      exact ⟨_, rfl, hown3.out, Gr.of hbel⟩

theorem split_c (s : ByteArray) (k : Int) (hk : I64 k) (w : World) (hs : s.size ≤ 1000) :
    Calls Try.prog 78 #[.string s, .int .i64 k] w fun e w' => ∃ v, e = .returned (.tuple #[v, .bool (splB s k)]) ∧ w'.ownsRow w.heap.size 9 1 v (splL s k).length (strs (splL s k)) ∧ Gr w w' := by
  cases h : splB s k
  · refine (split_no s k hk w hs h).mono ?_
    rintro e u ⟨rfl, rfl⟩
    rw [splL_no h]
    exact ⟨_, by rw [h], World.ownsRow_nil _ _ _ _, Gr.refl _⟩
  · obtain ⟨m, rfl⟩ : ∃ m : Nat, k = m := by
      have h' := h
      unfold splB at h'; rw [decide_eq_true_iff] at h'
      exact ⟨k.toNat, by omega⟩
    exact split_yes s m hk w hs h
set_option maxHeartbeats 1000000 in
theorem rsplit_no (s : ByteArray) (k : Int) (hk : I64 k) (w : World) (hs : s.size ≤ 1000) (h : splB s k = false) :
    Calls Try.prog 48 #[.string s, .int .i64 k] w fun e w' => e = .returned (.tuple #[.slice none 0 0, .bool (splB s k)]) ∧ w = w' := by
  by_cases k1 : k < 1
  · go_enter Try.func48, Try.ntmps48
    go_wp2_with fail
    go_ret2
    first | exact ⟨rfl, rfl⟩ | exact ⟨ret_vb rfl h.symm, rfl⟩
  · have hm : ¬ (s.size : Int) % k = 0 := by
      intro hh
      have : splB s k = true := by unfold splB; rw [decide_eq_true_iff]; exact ⟨by omega, hh⟩
      rw [h] at this; cases this
    have hm2 : ((s.size : Int) % k == 0) = false := by simpa using hm
    have hm3 : ((s.size : Int) % k != 0) = true := by simpa using hm
    have hk0 : ¬ k = 0 := by omega
    go_enter Try.func48, Try.ntmps48
    go_wp2_with fail
    go_ret2
    first | exact ⟨rfl, rfl⟩ | exact ⟨ret_vb rfl h.symm, rfl⟩

set_option maxHeartbeats 2000000 in
theorem rsplit_yes (s : ByteArray) (m : Nat) (hk : I64 m) (w : World) (hs : s.size ≤ 1000) (h : splB s m = true) :
    Calls Try.prog 48 #[.string s, .int .i64 m] w fun e w' => ∃ v, e = .returned (.tuple #[v, .bool true]) ∧ w'.ownsRow w.heap.size 9 1 v (splL s m).length (strs (splL s m)) ∧ Gr w w' := by
  have hL := splL_yes h
  unfold splB at h
  rw [decide_eq_true_iff] at h
  obtain ⟨hm1, hmod⟩ := h
  unfold I64 at hk
  rw [Int.toNat_natCast] at hL
  have hmod' : s.size % m = 0 := by omega
  have hq : s.size = s.size / m * m := by
    have := Nat.div_add_mod s.size m
    rw [hmod', Nat.add_zero, Nat.mul_comm] at this; exact this.symm
  generalize hqq : s.size / m = q at hq hL
  rw [hL, pieces_length]
  have hb2 : ((s.size : Int) % (m : Int) == 0) = true := by simpa using hmod
  have hb3 : ((s.size : Int) % (m : Int) != 0) = false := by simpa using hmod
  have hq' := Lib.hid hq
  clear hL hqq hq hmod hmod'
  obtain ⟨i0, hi, hz0, hz1, hz2⟩ := info_parts info9
  go_enter Try.func48, Try.ntmps48
  go_wp2_with fail
  go_loopw [6, 7] (fun v i wr => SplAt s m q w v i wr) (fun _ i _ => s.size - (intOf i).toNat)
  case atStart => exact ⟨0, 0, Nat.zero_le _, by omega, rfl, World.ownsRow_nil _ _ _ _, Below.refl _ _⟩
  case round =>
    obtain ⟨j, a, hj, ha, rfl, hown, hbel⟩ := hrel
    have hsz := hbel.size
    by_cases hlt : j < q
    · have hroom : a + m ≤ s.size := by
        rw [hq'.out, ha]
        have := Nat.mul_le_mul_right m (show j + 1 ≤ q by omega)
        rw [Nat.add_mul, Nat.one_mul] at this; exact this
      have hjq : j ≤ 1000 := by
        have h1 := Nat.mul_le_mul_left j (show 1 ≤ m by omega)
        omega
      have hnext : pieces s m (j + 1) = pieces s m j ++ [s.extract a (a + m)] := by rw [pieces, ha]
      have hfin : ∀ (v' : Value) (wx : World), wx.ownsRow w.heap.size 9 1 v' (j + 1) (strs (pieces s m j) ++ [.string (s.extract a (a + m))]) → Below w.heap.size w wx → SplAt s m q w v' (.int .i64 ((a : Int) + (m : Int))) wx := by
        intro v' wx h1 h2
        refine ⟨j + 1, a + m, by omega, by rw [Nat.add_mul, Nat.one_mul, ha], rfl, ?_, h2⟩
        rw [hnext]
        unfold strs at h1 ⊢
        rw [List.map_append]; exact h1
      have hh := Lib.hid hfin
      have hsl := slice_mid s a m hroom
      clear hfin hnext ha
      go_wp2_with (first
        | (at_builtin; refine wpList_append_own _ rfl _ _ 22 rfl w.heap.size 9 i0 (.string ⟨#[]⟩) 1 16 Try.underlying22 hi hz0 hz1 hz2 rfl (by decide) _ _ _ rfl (hown.alloc _) ⟨wr.heap.size, 0, none⟩ 1 1 [.string (s.extract a (a + m))] rfl ?c0 ?c1 ?c2 ?c3 ?c4 ?c5 ?_)
        | go_in)
      case c0 => rfl
      case c1 =>
        intro jj u hj
        match jj, hj with
        | 0, hj => simp at hj; subst hj; simp [Addr.add]
      case c2 => intro u hu; simp at hu; subst hu; rfl
      case c3 => unfold maxLen; omega
      case c4 => omega
      case c5 => simp only [World.size_alloc]; omega
      · intro v' w2 hown' hgrow _
        have hb2 : Below w.heap.size w w2 := (hbel.alloc hsz _).grown hgrow (by simp only [World.size_alloc]; omega) (fun q hq => (hown.lt q hq).1)
        clear hown hgrow
        have hown3 := Lib.hid hown'
        clear hown'
        go_wp2
        refine ⟨hh.out _ _ hown3.out hb2, ?_⟩
        simp [intOf]; omega
    · obtain rfl : j = q := by omega
      have hae : a = s.size := by rw [ha]; exact hq'.out.symm
      clear ha
      subst hae
      have hown3 := Lib.hid hown
      clear hown
      go_wp2
      go_ret2
      exact ⟨_, rfl, hown3.out, Gr.of hbel⟩

theorem rsplit_c (s : ByteArray) (k : Int) (hk : I64 k) (w : World) (hs : s.size ≤ 1000) :
    Calls Try.prog 48 #[.string s, .int .i64 k] w fun e w' => ∃ v, e = .returned (.tuple #[v, .bool (splB s k)]) ∧ w'.ownsRow w.heap.size 9 1 v (splL s k).length (strs (splL s k)) ∧ Gr w w' := by
  cases h : splB s k
  · refine (rsplit_no s k hk w hs h).mono ?_
    rintro e u ⟨rfl, rfl⟩
    rw [splL_no h]
    exact ⟨_, by rw [h], World.ownsRow_nil _ _ _ _, Gr.refl _⟩
  · obtain ⟨m, rfl⟩ : ∃ m : Nat, k = m := by
      have h' := h
      unfold splB at h'; rw [decide_eq_true_iff] at h'
      exact ⟨k.toNat, by omega⟩
    exact rsplit_yes s m hk w hs h
end Go.Proofs.Ytojlceoeacebmaa
/- A slice that holds these strings, whoever made it; the document's comparison of two such. -/
namespace Go.Proofs.Ytojlceoeacebmaa
open Go.RowKit OctPlain FramePlain
set_option linter.unusedVariables false
set_option linter.unusedSimpArgs false
set_option maxRecDepth 20000
/-- v is a slice of these strings. -/
def Lies (w : World) (v : Value) (L : List ByteArray) : Prop := ∃ a c, v = .slice a L.length c ∧ L.length ≤ c ∧ (L = [] ∨ ∃ b off, a = some ⟨b, off, none⟩ ∧ SRow w b off L)
theorem Lies.gr {w w' : World} {v : Value} {L : List ByteArray} (h : Lies w v L) (g : Gr w w') : Lies w' v L := by
  obtain ⟨a, c, rfl, hc, h⟩ := h
  refine ⟨a, c, rfl, hc, h.imp id ?_⟩
  rintro ⟨b, off, rfl, hr⟩
  exact ⟨b, off, rfl, hr.gr g⟩
theorem lies_own {w : World} {B : Nat} {v : Value} {L : List ByteArray} (h : w.ownsRow B 9 1 v L.length (strs L)) : Lies w v L := by
  have hc := @World.ownsRow.cells w _ _ _ _ _ _ h
  have hl := h.lt
  obtain ⟨_, p⟩ := h
  rcases p with ⟨rfl, z⟩ | ⟨g, cap, cur, rfl, _, _, hn, _⟩
  · exact ⟨none, 0, by rw [z], by omega, .inl (List.eq_nil_of_length_eq_zero z)⟩
  · refine ⟨_, cap, rfl, hn, .inr ⟨g, 0, rfl, (hl g rfl).2, fun j x hj => ?_⟩⟩
    have := hc (g := g) rfl j (.string x) (by unfold strs; rw [List.getElem?_map, hj]; rfl)
    rw [Nat.zero_add]
    have ea : Addr.add ⟨g, 0, none⟩ j = ⟨g, j, none⟩ := by by_cases h : j = 0 <;> simp [Addr.add, h]
    rwa [ea] at this
theorem lies_in {w : World} {t : TypeId} {v : Value} (ht : Try.prog.underlying t = some (.slice 9)) (h : Rd Try.prog w t v) : ∃ L : List ByteArray, Lies w v L ∧ L.length ≤ maxLen ∧ ∀ s ∈ L, s.size ≤ maxLen := by
  obtain ⟨a, n, c, hv, hc⟩ := rd_cap ht h
  obtain ⟨a', c', l, rfl, hl, hr, hs⟩ := rd_strings ht Try.underlying9 (by kernel_rfl) h
  simp only [Value.slice.injEq] at hv
  obtain ⟨rfl, rfl, rfl⟩ := hv
  refine ⟨l, ⟨a', c', rfl, hc, ?_⟩, hl, hs⟩
  rcases Nat.eq_zero_or_pos l.length with h0 | h0
  · exact .inl (List.eq_nil_of_length_eq_zero h0)
  · exact .inr (srow_of hr h0)
/-- A slice of one string that the call has just made. -/
theorem lies_one (w : World) (s : ByteArray) (T : TypeId) : Lies (w.alloc (.cells #[.string s] T)) (.slice (some ⟨w.heap.size, 0, none⟩) 1 1) [s] := by
  refine ⟨_, 1, rfl, Nat.le_refl _, .inr ⟨_, _, rfl, by rw [World.size_alloc]; omega, fun j x hj => ?_⟩⟩
  obtain rfl : j = 0 := by have := (List.getElem?_eq_some_iff.1 hj).1; simpa using this
  simp at hj
  subst hj
  rw [World.cell?_alloc_new]
  rfl

theorem same_none4 (a b : Option Addr) (c d : Nat) (w : World) :
    Calls Try.prog 17 #[.slice a 0 c, .slice b 0 d] w fun e w' => e = .returned (.bool true) ∧ Gr w w' := by
  go_enter Try.func17, Try.ntmps17
  go_wp2_with fail
  go_rounds 1
  go_ret
  exact ⟨rfl, Gr.refl _⟩
def Same4At (n : Nat) (w : World) (i : Value) (wr : World) : Prop := ∃ j : Nat, j ≤ n ∧ i = .int .i64 j ∧ Below w.heap.size w wr
set_option maxHeartbeats 2000000 in
theorem same_some4 (g1 g2 o1 o2 n c d : Nat) (L : List ByteArray) (hL : L.length = n) (hn : n ≤ 1000000) (w : World) (h1 : SRow w g1 o1 L) (h2 : SRow w g2 o2 L) :
    Calls Try.prog 17 #[.slice (some ⟨g1, o1, none⟩) n c, .slice (some ⟨g2, o2, none⟩) n d] w fun e w' => e = .returned (.bool true) ∧ Gr w w' := by
  go_enter Try.func17, Try.ntmps17
  go_wp2_with fail
  go_loopw [5] (fun i wr => Same4At n w i wr) (fun i _ => n - (intOf i).toNat)
  case atStart => exact ⟨0, Nat.zero_le _, rfl, Below.refl _ _⟩
  case round =>
    obtain ⟨j, hj, rfl, hbel⟩ := hrel
    by_cases hlt : j < n
    · obtain ⟨x, hx, _, _⟩ := take_at (l := L) (j := j) (by omega)
      have c1 : wr.cell? ⟨g1, o1 + j, none⟩ = some (.string x) := (h1.gr hbel).2 j x hx
      have c2 : wr.cell? ⟨g2, o2 + j, none⟩ = some (.string x) := (h2.gr hbel).2 j x hx
      clear h1 h2 hx
      go_wp2_with fail
      go_region
      go_wp2
      refine ⟨⟨j + 1, by omega, rfl, ?_⟩, ?_⟩
      · exact hbel.drew
      · simp [intOf]; omega
    · obtain rfl : j = n := by omega
      clear h1 h2
      go_wp2
      go_ret
      exact ⟨rfl, Gr.of hbel⟩
theorem same_lies {w : World} {v1 v2 : Value} {L : List ByteArray} (hn : L.length ≤ 1000000) (h1 : Lies w v1 L) (h2 : Lies w v2 L) :
    Calls Try.prog 17 #[v1, v2] w fun e w' => e = .returned (.bool true) ∧ Gr w w' := by
  obtain ⟨a1, c1, rfl, _, h1⟩ := h1
  obtain ⟨a2, c2, rfl, _, h2⟩ := h2
  rcases h1 with rfl | ⟨b1, o1, rfl, r1⟩
  · exact same_none4 _ _ _ _ w
  · rcases h2 with rfl | ⟨b2, o2, rfl, r2⟩
    · exact same_none4 _ _ _ _ w
    · exact same_some4 b1 b2 o1 o2 L.length c1 c2 L rfl hn w r1 r2
end Go.Proofs.Ytojlceoeacebmaa
/- strings.Join with nothing between: by the library's contract, laid at this program's numbers. -/
namespace Go.Proofs.Ytojlceoeacebmaa
open Go.RowKit FramePlain
set_option linter.unusedVariables false
theorem join_flat : ∀ l : List (List UInt8), Lib.join l [] = l.flatten
  | [] => rfl
  | x :: r => by rw [Lib.join_cons]; simp [Lib.joinTail]
end Go.Proofs.Ytojlceoeacebmaa
/- Contracts of the document's Put, and of PutCoord on both sides. -/
namespace Go.Proofs.Ytojlceoeacebmaa
open Go.RowKit OctPlain
set_option linter.unusedVariables false
set_option linter.unusedSimpArgs false
set_option maxRecDepth 20000

def PutAt (n k : Int) (B : Nat) (w : World) (v s i : Value) (wr : World) : Prop :=
  ∃ j : Nat, (j : Int) ≤ k ∧ i = .int .i64 j ∧ v = .int .i64 (n / 256 ^ j) ∧ s = .string (bs (beL j n.toNat)) ∧ Below B w wr

set_option maxHeartbeats 1000000 in
theorem rput_c (n k : Int) (hn : I64 n) (hk : I64 k) (w : World) :
    Calls Try.prog 63 #[.int .i64 n, .int .i64 k] w fun e w' => e = .returned (.tuple #[.string (putS n k), .bool (fitsB n k)]) ∧ Gr w w' := by
  unfold I64 at hn hk
  by_cases h : (1 ≤ k ∧ k ≤ 8) ∧ 0 ≤ n
  · obtain ⟨hk8, hn0⟩ := h
    go_enter Try.func63, Try.ntmps63
    go_wp2_with fail
    go_loopw [0, 6, 7] (fun v s i wr => PutAt n k w.heap.size w v s i wr) (fun _ _ i _ => (k - intOf i).toNat)
    case atStart => exact ⟨0, by omega, by simp, by simp, by simp [beL, bs], Below.refl _ _⟩
    case round =>
      obtain ⟨j, hj, rfl, rfl, rfl, hb⟩ := hrel
      have hm0 : 0 ≤ n / 256 ^ j := Int.ediv_nonneg hn0 (Int.pow_nonneg (by omega))
      have hm1 : n / 256 ^ j ≤ n := Int.ediv_le_self _ hn0
      have hstep : n / 256 ^ (j + 1) = n / 256 ^ j / 256 := by rw [Int.pow_succ, Int.ediv_ediv_of_nonneg (Int.pow_nonneg (by omega))]
      by_cases hlt : (j : Int) < k
      · obtain ⟨m, hm⟩ : ∃ m, m = n / 256 ^ j := ⟨_, rfl⟩
        rw [← hm] at hm0 hm1 hstep ⊢
        have hc := fun u => conv1 u (m % 256) (by omega) (by omega)
        have s1 : (bs [UInt8.ofNat (m % 256).toNat]).size = 1 := bs_size _
        have s2 : (bs (beL j n.toNat)).size = j := by rw [bs_size, beL_length]
        have hnew : bs [UInt8.ofNat (m % 256).toNat] ++ bs (beL j n.toNat) = bs (beL (j + 1) n.toNat) := by
          rw [bs_app, beL_top, hm]
          rw [dig_cast n hn0]
          rfl
        have hnew' := Lib.hid hnew
        clear hm hnew
        go_wp2
        refine ⟨⟨j + 1, by omega, rfl, by rw [hstep], by rw [hnew'.out], Below.alloc hb hb.size _⟩, ?_⟩
        simp [intOf]; omega
      · obtain rfl : k = j := by omega
        have hfit : fitsB n j = decide (n / 256 ^ j = 0) := fits_at hk8 hn0
        by_cases hz : 0 < n / 256 ^ j
        · have hf : fitsB n j = false := by rw [hfit]; simp; omega
          have hp := put_no hf
          clear hfit
          go_wp2
          go_ret2
          first | exact ⟨rfl, Gr.of hb⟩ | exact ⟨ret_sb hp.symm hf.symm, Gr.of hb⟩
        · have hf : fitsB n j = true := by rw [hfit]; simp; omega
          have hp : putS n j = bs (beL j n.toNat) := by simp [putS, hf]
          clear hfit
          go_wp2
          go_ret2
          first | exact ⟨rfl, Gr.of hb⟩ | exact ⟨ret_sb hp.symm hf.symm, Gr.of hb⟩
  · have hf : fitsB n k = false := by
      simp only [fitsB, decide_eq_false_iff_not]
      intro hh; exact h ⟨hh.1, hh.2.1⟩
    have hp := put_no hf
    by_cases k1 : k < 1
    · go_enter Try.func63, Try.ntmps63
      go_wp2
      go_ret2
      first | exact ⟨rfl, Gr.refl _⟩ | exact ⟨ret_sb hp.symm hf.symm, Gr.refl _⟩
    · by_cases k2 : 8 < k
      · go_enter Try.func63, Try.ntmps63
        go_wp2
        go_ret2
        first | exact ⟨rfl, Gr.refl _⟩ | exact ⟨ret_sb hp.symm hf.symm, Gr.refl _⟩
      · have k3 : n < 0 := by omega
        go_enter Try.func63, Try.ntmps63
        go_wp2
        go_ret2
        first | exact ⟨rfl, Gr.refl _⟩ | exact ⟨ret_sb hp.symm hf.symm, Gr.refl _⟩
theorem tup_sb {a b : ByteArray} {p q : Bool} (h : a = b) (k : p = q) : (Value.tuple #[.string a, .bool p]) = .tuple #[.string b, .bool q] := by rw [h, k]

def coordS (x : Int) : ByteArray := putS (wrap64 (x + 2147483648)) 4
def coordB (x : Int) : Bool := fitsB (wrap64 (x + 2147483648)) 4
theorem coordB_no {x : Int} (hx : I64 x) (h : x < -2147483648 ∨ 2147483648 ≤ x) : coordB x = false := by
  unfold I64 at hx
  unfold coordB fitsB wrap64
  simp only [decide_eq_false_iff_not]
  have e : (256 : Int) ^ (4 : Int).toNat = 4294967296 := rfl
  rw [e]
  omega
theorem coordS_no {x : Int} (hx : I64 x) (h : x < -2147483648 ∨ 2147483648 ≤ x) : coordS x = ⟨#[]⟩ := put_no (coordB_no hx h)
theorem coordB_yes {x : Int} (h1 : -2147483648 ≤ x) (h2 : x < 2147483648) : coordB x = fitsB (x + 2147483648) 4 := by
  unfold coordB
  have : wrap64 (x + 2147483648) = x + 2147483648 := by unfold wrap64; omega
  rw [this]
theorem coordS_yes {x : Int} (h1 : -2147483648 ≤ x) (h2 : x < 2147483648) : coordS x = putS (x + 2147483648) 4 := by
  unfold coordS
  have : wrap64 (x + 2147483648) = x + 2147483648 := by unfold wrap64; omega
  rw [this]
end Go.Proofs.Ytojlceoeacebmaa

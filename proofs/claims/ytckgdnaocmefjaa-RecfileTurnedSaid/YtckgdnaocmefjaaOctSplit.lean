/- Contracts of Split, of the document's answer to it, and of the statement's comparison of two lists. -/
import Derived.Test.YtckgdnaocmefjaaOctRows
import Derived.Test.YtckgdnaocmefjaaClone
namespace Go.Proofs.Ytckgdnaocmefjaa
open Go.RowKit OctPlain
set_option linter.unusedVariables false
set_option linter.unusedSimpArgs false

namespace OctPlain
/-- The first j pieces. -/
def pieces (s : ByteArray) (k : Nat) : Nat → List ByteArray
  | 0 => []
  | j + 1 => pieces s k j ++ [s.extract (j * k) (j * k + k)]
theorem pieces_length (s : ByteArray) (k : Nat) : ∀ j, (pieces s k j).length = j
  | 0 => rfl
  | j + 1 => by rw [pieces, List.length_append, pieces_length s k j]; rfl
def splB (s : ByteArray) (k : Int) : Bool := decide (1 ≤ k ∧ (s.size : Int) % k = 0)
def splL (s : ByteArray) (k : Int) : List ByteArray := if splB s k = true then pieces s k.toNat (s.size / k.toNat) else []
theorem splL_no {s : ByteArray} {k : Int} (h : splB s k = false) : splL s k = [] := by simp [splL, h]
theorem splL_yes {s : ByteArray} {k : Int} (h : splB s k = true) : splL s k = pieces s k.toNat (s.size / k.toNat) := by simp [splL, h]
end OctPlain
def strs (l : List ByteArray) : List Value := l.map Value.string
theorem info9 : (Try.prog.info? 9).map (fun i => (i.zero, i.size, i.bytes)) = some (some (.string ⟨#[]⟩), 1, 16) := by kernel_rfl

theorem ret_vb {a b : Value} {p q : Bool} (h : a = b) (k : p = q) : Ending.returned (.tuple #[a, .bool p]) = .returned (.tuple #[b, .bool q]) := by rw [h, k]

set_option maxHeartbeats 1000000 in
theorem split_no (s : ByteArray) (k : Int) (hk : I64 k) (w : World) (hs : s.size ≤ 1000) (h : splB s k = false) :
    Calls Try.prog 75 #[.string s, .int .i64 k] w fun e w' => e = .returned (.tuple #[.slice none 0 0, .bool (splB s k)]) ∧ w = w' := by
  by_cases k1 : k < 1
  · go_enter Try.func75, Try.ntmps75
    go_wp2_with fail
    go_ret2
    first | exact ⟨rfl, rfl⟩ | exact ⟨ret_vb rfl h.symm, rfl⟩
  · have hm : ¬ (s.size : Int) % k = 0 := by
      intro hh
      have : splB s k = true := by unfold splB; rw [decide_eq_true_iff]; exact ⟨by omega, hh⟩
      rw [h] at this; cases this
    have hm2 : ((s.size : Int) % k == 0) = false := by simpa using hm
    have hm3 : ((s.size : Int) % k != 0) = true := by simpa using hm
    have hk0 : ¬ k = 0 := by omega
    go_enter Try.func75, Try.ntmps75
    go_wp2_with fail
    go_ret2
    first | exact ⟨rfl, rfl⟩ | exact ⟨ret_vb rfl h.symm, rfl⟩

theorem slice_mid (s : ByteArray) (a m : Nat) (h : a + m ≤ s.size) (w : World) :
    (Instr.slice 9 (.string s) (some (.int .i64 (a : Int))) (some (.int .i64 ((a : Int) + (m : Int)))) none).run Try.prog w = .ok (.string (s.extract a (a + m))) w := by
  have h1 := run_slice_string (P := Try.prog) w 9 s .i64 .i64 (a : Int) ((a : Int) + (m : Int)) Try.underlying9 (by omega) (by omega) (by omega)
  have e : ((a : Int) + (m : Int)).toNat = a + m := by omega
  rw [e, Int.toNat_natCast] at h1
  exact h1
def SplAt (s : ByteArray) (m q : Nat) (w : World) (v i : Value) (wr : World) : Prop :=
  ∃ j a : Nat, j ≤ q ∧ a = j * m ∧ i = .int .i64 a ∧ wr.ownsRow w.heap.size 9 1 v j (strs (pieces s m j)) ∧ Below w.heap.size w wr

set_option maxHeartbeats 2000000 in
theorem split_yes (s : ByteArray) (m : Nat) (hk : I64 m) (w : World) (hs : s.size ≤ 1000) (h : splB s m = true) :
    Calls Try.prog 75 #[.string s, .int .i64 m] w fun e w' => ∃ v, e = .returned (.tuple #[v, .bool true]) ∧ w'.ownsRow w.heap.size 9 1 v (splL s m).length (strs (splL s m)) ∧ Gr w w' := by
  have hL := splL_yes h
  unfold splB at h
  rw [decide_eq_true_iff] at h
  obtain ⟨hm1, hmod⟩ := h
  unfold I64 at hk
  rw [Int.toNat_natCast] at hL
  have hmod' : s.size % m = 0 := by omega
  have hq : s.size = s.size / m * m := by
    have := Nat.div_add_mod s.size m
    rw [hmod', Nat.add_zero, Nat.mul_comm] at this; exact this.symm
  generalize hqq : s.size / m = q at hq hL
  rw [hL, pieces_length]
  have hb2 : ((s.size : Int) % (m : Int) == 0) = true := by simpa using hmod
  have hb3 : ((s.size : Int) % (m : Int) != 0) = false := by simpa using hmod
  have hq' := Lib.hid hq
  clear hL hqq hq hmod hmod'
  obtain ⟨i0, hi, hz0, hz1, hz2⟩ := info_parts info9
  go_enter Try.func75, Try.ntmps75
  go_wp2_with fail
  refine (clone_c s _ hs).mono ?_
  rintro e w1 ⟨rfl, g⟩
  go_wp2_with fail
  go_loopw [7, 8] (fun v i wr => SplAt s m q w v i wr) (fun _ i _ => s.size - (intOf i).toNat)
  case atStart => exact ⟨0, 0, Nat.zero_le _, by omega, rfl, World.ownsRow_nil _ _ _ _, g⟩
  case round =>
    obtain ⟨j, a, hj, ha, rfl, hown, hbel⟩ := hrel
    have hsz := hbel.size
    by_cases hlt : j < q
    · have hroom : a + m ≤ s.size := by
        rw [hq'.out, ha]
        have := Nat.mul_le_mul_right m (show j + 1 ≤ q by omega)
        rw [Nat.add_mul, Nat.one_mul] at this; exact this
      have hjq : j ≤ 1000 := by
        have h1 := Nat.mul_le_mul_left j (show 1 ≤ m by omega)
        omega
      have hnext : pieces s m (j + 1) = pieces s m j ++ [s.extract a (a + m)] := by rw [pieces, ha]
      have hfin : ∀ (v' : Value) (wx : World), wx.ownsRow w.heap.size 9 1 v' (j + 1) (strs (pieces s m j) ++ [.string (s.extract a (a + m))]) → Below w.heap.size w wx → SplAt s m q w v' (.int .i64 ((a : Int) + (m : Int))) wx := by
        intro v' wx h1 h2
        refine ⟨j + 1, a + m, by omega, by rw [Nat.add_mul, Nat.one_mul, ha], rfl, ?_, h2⟩
        rw [hnext]
        unfold strs at h1 ⊢
        rw [List.map_append]; exact h1
      have hh := Lib.hid hfin
      have hsl := slice_mid s a m hroom
      clear hfin hnext ha
      go_wp2_with (first
        | (at_builtin; refine wpList_append_own _ rfl _ _ 22 rfl w.heap.size 9 i0 (.string ⟨#[]⟩) 1 16 Try.underlying22 hi hz0 hz1 hz2 rfl (by decide) _ _ _ rfl (hown.alloc _) ⟨wr.heap.size, 0, none⟩ 1 1 [.string (s.extract a (a + m))] rfl ?c0 ?c1 ?c2 ?c3 ?c4 ?c5 ?_)
        | go_in)
      case c0 => rfl
      case c1 =>
        intro jj u hj
        match jj, hj with
        | 0, hj => simp at hj; subst hj; simp [Addr.add]
      case c2 => intro u hu; simp at hu; subst hu; rfl
      case c3 => unfold maxLen; omega
      case c4 => omega
      case c5 => simp only [World.size_alloc]; omega
      · intro v' w2 hown' hgrow _
        have hb2 : Below w.heap.size w w2 := (hbel.alloc hsz _).grown hgrow (by simp only [World.size_alloc]; omega) (fun q hq => (hown.lt q hq).1)
        clear hown hgrow
        have hown3 := Lib.hid hown'
        clear hown'
        go_wp2
        refine ⟨hh.out _ _ hown3.out hb2, ?_⟩
        simp [intOf]; omega
    · obtain rfl : j = q := by omega
      have hae : a = s.size := by rw [ha]; exact hq'.out.symm
      clear ha
      subst hae
      have hown3 := Lib.hid hown
      clear hown
      go_wp2
      go_ret2
      exact ⟨_, rfl, hown3.out, Gr.of hbel⟩

theorem split_c (s : ByteArray) (k : Int) (hk : I64 k) (w : World) (hs : s.size ≤ 1000) :
    Calls Try.prog 75 #[.string s, .int .i64 k] w fun e w' => ∃ v, e = .returned (.tuple #[v, .bool (splB s k)]) ∧ w'.ownsRow w.heap.size 9 1 v (splL s k).length (strs (splL s k)) ∧ Gr w w' := by
  cases h : splB s k
  · refine (split_no s k hk w hs h).mono ?_
    rintro e u ⟨rfl, rfl⟩
    rw [splL_no h]
    exact ⟨_, by rw [h], World.ownsRow_nil _ _ _ _, Gr.refl _⟩
  · obtain ⟨m, rfl⟩ : ∃ m : Nat, k = m := by
      have h' := h
      unfold splB at h'; rw [decide_eq_true_iff] at h'
      exact ⟨k.toNat, by omega⟩
    exact split_yes s m hk w hs h
set_option maxHeartbeats 1000000 in
theorem rsplit_no (s : ByteArray) (k : Int) (hk : I64 k) (w : World) (hs : s.size ≤ 1000) (h : splB s k = false) :
    Calls Try.prog 56 #[.string s, .int .i64 k] w fun e w' => e = .returned (.tuple #[.slice none 0 0, .bool (splB s k)]) ∧ w = w' := by
  by_cases k1 : k < 1
  · go_enter Try.func56, Try.ntmps56
    go_wp2_with fail
    go_ret2
    first | exact ⟨rfl, rfl⟩ | exact ⟨ret_vb rfl h.symm, rfl⟩
  · have hm : ¬ (s.size : Int) % k = 0 := by
      intro hh
      have : splB s k = true := by unfold splB; rw [decide_eq_true_iff]; exact ⟨by omega, hh⟩
      rw [h] at this; cases this
    have hm2 : ((s.size : Int) % k == 0) = false := by simpa using hm
    have hm3 : ((s.size : Int) % k != 0) = true := by simpa using hm
    have hk0 : ¬ k = 0 := by omega
    go_enter Try.func56, Try.ntmps56
    go_wp2_with fail
    go_ret2
    first | exact ⟨rfl, rfl⟩ | exact ⟨ret_vb rfl h.symm, rfl⟩

set_option maxHeartbeats 2000000 in
theorem rsplit_yes (s : ByteArray) (m : Nat) (hk : I64 m) (w : World) (hs : s.size ≤ 1000) (h : splB s m = true) :
    Calls Try.prog 56 #[.string s, .int .i64 m] w fun e w' => ∃ v, e = .returned (.tuple #[v, .bool true]) ∧ w'.ownsRow w.heap.size 9 1 v (splL s m).length (strs (splL s m)) ∧ Gr w w' := by
  have hL := splL_yes h
  unfold splB at h
  rw [decide_eq_true_iff] at h
  obtain ⟨hm1, hmod⟩ := h
  unfold I64 at hk
  rw [Int.toNat_natCast] at hL
  have hmod' : s.size % m = 0 := by omega
  have hq : s.size = s.size / m * m := by
    have := Nat.div_add_mod s.size m
    rw [hmod', Nat.add_zero, Nat.mul_comm] at this; exact this.symm
  generalize hqq : s.size / m = q at hq hL
  rw [hL, pieces_length]
  have hb2 : ((s.size : Int) % (m : Int) == 0) = true := by simpa using hmod
  have hb3 : ((s.size : Int) % (m : Int) != 0) = false := by simpa using hmod
  have hq' := Lib.hid hq
  clear hL hqq hq hmod hmod'
  obtain ⟨i0, hi, hz0, hz1, hz2⟩ := info_parts info9
  go_enter Try.func56, Try.ntmps56
  go_wp2_with fail
  go_loopw [6, 7] (fun v i wr => SplAt s m q w v i wr) (fun _ i _ => s.size - (intOf i).toNat)
  case atStart => exact ⟨0, 0, Nat.zero_le _, by omega, rfl, World.ownsRow_nil _ _ _ _, Below.refl _ _⟩
  case round =>
    obtain ⟨j, a, hj, ha, rfl, hown, hbel⟩ := hrel
    have hsz := hbel.size
    by_cases hlt : j < q
    · have hroom : a + m ≤ s.size := by
        rw [hq'.out, ha]
        have := Nat.mul_le_mul_right m (show j + 1 ≤ q by omega)
        rw [Nat.add_mul, Nat.one_mul] at this; exact this
      have hjq : j ≤ 1000 := by
        have h1 := Nat.mul_le_mul_left j (show 1 ≤ m by omega)
        omega
      have hnext : pieces s m (j + 1) = pieces s m j ++ [s.extract a (a + m)] := by rw [pieces, ha]
      have hfin : ∀ (v' : Value) (wx : World), wx.ownsRow w.heap.size 9 1 v' (j + 1) (strs (pieces s m j) ++ [.string (s.extract a (a + m))]) → Below w.heap.size w wx → SplAt s m q w v' (.int .i64 ((a : Int) + (m : Int))) wx := by
        intro v' wx h1 h2
        refine ⟨j + 1, a + m, by omega, by rw [Nat.add_mul, Nat.one_mul, ha], rfl, ?_, h2⟩
        rw [hnext]
        unfold strs at h1 ⊢
        rw [List.map_append]; exact h1
      have hh := Lib.hid hfin
      have hsl := slice_mid s a m hroom
      clear hfin hnext ha
      go_wp2_with (first
        | (at_builtin; refine wpList_append_own _ rfl _ _ 22 rfl w.heap.size 9 i0 (.string ⟨#[]⟩) 1 16 Try.underlying22 hi hz0 hz1 hz2 rfl (by decide) _ _ _ rfl (hown.alloc _) ⟨wr.heap.size, 0, none⟩ 1 1 [.string (s.extract a (a + m))] rfl ?c0 ?c1 ?c2 ?c3 ?c4 ?c5 ?_)
        | go_in)
      case c0 => rfl
      case c1 =>
        intro jj u hj
        match jj, hj with
        | 0, hj => simp at hj; subst hj; simp [Addr.add]
      case c2 => intro u hu; simp at hu; subst hu; rfl
      case c3 => unfold maxLen; omega
      case c4 => omega
      case c5 => simp only [World.size_alloc]; omega
      · intro v' w2 hown' hgrow _
        have hb2 : Below w.heap.size w w2 := (hbel.alloc hsz _).grown hgrow (by simp only [World.size_alloc]; omega) (fun q hq => (hown.lt q hq).1)
        clear hown hgrow
        have hown3 := Lib.hid hown'
        clear hown'
        go_wp2
        refine ⟨hh.out _ _ hown3.out hb2, ?_⟩
        simp [intOf]; omega
    · obtain rfl : j = q := by omega
      have hae : a = s.size := by rw [ha]; exact hq'.out.symm
      clear ha
      subst hae
      have hown3 := Lib.hid hown
      clear hown
      go_wp2
      go_ret2
      exact ⟨_, rfl, hown3.out, Gr.of hbel⟩

theorem rsplit_c (s : ByteArray) (k : Int) (hk : I64 k) (w : World) (hs : s.size ≤ 1000) :
    Calls Try.prog 56 #[.string s, .int .i64 k] w fun e w' => ∃ v, e = .returned (.tuple #[v, .bool (splB s k)]) ∧ w'.ownsRow w.heap.size 9 1 v (splL s k).length (strs (splL s k)) ∧ Gr w w' := by
  cases h : splB s k
  · refine (rsplit_no s k hk w hs h).mono ?_
    rintro e u ⟨rfl, rfl⟩
    rw [splL_no h]
    exact ⟨_, by rw [h], World.ownsRow_nil _ _ _ _, Gr.refl _⟩
  · obtain ⟨m, rfl⟩ : ∃ m : Nat, k = m := by
      have h' := h
      unfold splB at h'; rw [decide_eq_true_iff] at h'
      exact ⟨k.toNat, by omega⟩
    exact rsplit_yes s m hk w hs h
end Go.Proofs.Ytckgdnaocmefjaa

/- In one text: FrameEnd, OctPlain2, FramePlain2, OctBits. -/
import Derived.Test.YtpmglnghnelenaaGreatP03
import Derived.Deep.RegionHeld3
import Derived.IntWalk
import Derived.Test.YtpmglnghnelenaaGreatP01
import Derived.Test.YtpmglnghnelenaaGreatP02
import Derived.Laws.Bits64
/- The contracts of PutEnd, and of the document's. -/
namespace Go.Proofs.YtpmglnghnelenaaGreat
open Go.RowKit CrcPlain OctPlain FramePlain
set_option linter.unusedVariables false
set_option linter.unusedSimpArgs false
set_option maxRecDepth 20000
namespace FramePlain
/-- An end ahead of its sum. -/
def endS (c m : Nat) : ByteArray := bs (0 :: (beL 8 c ++ beL 4 m))
def peB (c : Int) : Bool := decide (0 ≤ c ∧ c ≤ 4611686018427387904)
def peS (c : Int) (m : Nat) : ByteArray := if peB c = true then cl (endS c.toNat m) else ⟨#[]⟩
theorem peS_no {c : Int} {m : Nat} (h : peB c = false) : peS c m = ⟨#[]⟩ := by simp [peS, h]
theorem peS_yes {c : Int} {m : Nat} (h : peB c = true) : peS c m = cl (endS c.toNat m) := by simp [peS, h]
theorem endS_size (c m : Nat) : (endS c m).size = 13 := by unfold endS; rw [bs_size, List.length_cons, List.length_append, beL_length, beL_length]
theorem fits8 {c : Int} (hc : I64 c) : fitsB c 8 = decide (0 ≤ c) := by
  unfold fitsB I64 at *
  apply decide_eq_decide.2
  constructor
  · intro h; omega
  · intro h; refine ⟨by omega, h, ?_⟩; show c < 256 ^ 8; omega
theorem fits4 {m : Nat} (hm : m < 4294967296) : fitsB (m : Int) 4 = true := by
  unfold fitsB
  rw [decide_eq_true_iff]
  refine ⟨by omega, by omega, ?_⟩; show (m : Int) < 256 ^ 4; omega
theorem put8 {c : Int} (hc : I64 c) (h : 0 ≤ c) : putS c 8 = bs (beL 8 c.toNat) := by
  unfold putS; rw [fits8 hc, if_pos (by simpa using h)]; rfl
theorem put4 {m : Nat} (hm : m < 4294967296) : putS (m : Int) 4 = bs (beL 4 m) := by
  unfold putS; rw [if_pos (fits4 hm), Int.toNat_natCast]; rfl
theorem end_app (c m : Nat) : ByteArray.mk #[0] ++ bs (beL 8 c) ++ bs (beL 4 m) = endS c m := by
  show bs [0] ++ _ ++ _ = _
  rw [bs_app, bs_app]; rfl
end FramePlain

theorem fputend_c (c : Int) (hc : I64 c) (m : Nat) (hm : m < 4294967296) (w : World) :
    Calls Tryz.prog 91 #[.agg #[.int .i64 c, .int .u32 (m : Int)]] w fun e w' => e = .returned (.tuple #[.string (peS c m), .bool (peB c)]) ∧ Gr w w' := by
  obtain ⟨W, hW⟩ : ∃ W, W = w.alloc (.cells #[.int .i64 c, .int .u32 (m : Int)] 33) := ⟨_, rfl⟩
  have hg : Gr w W := by rw [hW]; exact Below.alloc (Below.refl _ _) (Nat.le_refl _) _
  have hlt : w.heap.size < W.heap.size := by rw [hW, World.size_alloc]; omega
  have hc0 : ∀ u, Gr W u → u.cell? ⟨w.heap.size, 0, none⟩ = some (.int .i64 c) := by
    intro u g
    rw [Below.cell g (p := ⟨w.heap.size, 0, none⟩) hlt, hW, World.cell?_alloc_mark]; rfl
  have hc1 : ∀ u, Gr W u → u.cell? ⟨w.heap.size, 1, none⟩ = some (.int .u32 (m : Int)) := by
    intro u g
    rw [Below.cell g (p := ⟨w.heap.size, 1, none⟩) hlt, hW, World.cell?_alloc_mark]; rfl
  have P8 := fun u => put_c c 8 hc (by unfold I64; omega) u
  have P4 := fun u => put_c m 4 (by unfold I64; omega) (by unfold I64; omega) u
  rw [fits8 hc] at P8
  rw [fits4 hm, put4 hm] at P4
  have H0 := Lib.hid hc0
  have H1 := Lib.hid hc1
  have HW := Lib.hid hW
  have c0 := hc0 _ (Gr.refl _)
  have c1 := hc1 _ (Gr.refl _)
  clear hc0 hc1 hW
  have hc' := hc
  unfold I64 at hc'
  by_cases h0 : c < 0
  · have hb : peB c = false := by unfold peB; rw [decide_eq_false_iff_not]; omega
    have HB := Lib.hid hb
    have HS := Lib.hid (peS_no (m := m) hb)
    have d0 : decide (0 ≤ c) = false := by rw [decide_eq_false_iff_not]; omega
    rw [d0] at P8
    clear hb d0
    go_enter Tryz.func91, Tryz.ntmps91
    go_wp2_with fail
    rw [← HW.out]
    refine (P8 _).mono ?_; rintro e u ⟨rfl, g⟩
    go_wp2_with fail
    go_ret2
    exact ⟨ret_sb HS.out.symm HB.out.symm, hg.trans g⟩
  · have d0 : decide (0 ≤ c) = true := by rw [decide_eq_true_iff]; omega
    rw [d0, put8 hc (by omega)] at P8
    by_cases h2 : 4611686018427387904 < c
    · have hb : peB c = false := by unfold peB; rw [decide_eq_false_iff_not]; omega
      have HB := Lib.hid hb
      have HS := Lib.hid (peS_no (m := m) hb)
      clear hb d0
      go_enter Tryz.func91, Tryz.ntmps91
      go_wp2_with fail
      rw [← HW.out]
      refine (P8 _).mono ?_; rintro e u ⟨rfl, g⟩
      have c0' := H0.out _ g
      go_wp2_with fail
      go_ret2
      exact ⟨ret_sb HS.out.symm HB.out.symm, hg.trans g⟩
    · have hb : peB c = true := by unfold peB; rw [decide_eq_true_iff]; omega
      have HB := Lib.hid hb
      have HS := Lib.hid (peS_yes (m := m) hb)
      have e1 := end_app c.toNat m
      have hz := endS_size c.toNat m
      have C := fun u => close_c (endS c.toNat m) (by omega) u
      rw [← e1] at C
      have E := Lib.hid e1
      have s1 : (bs (beL 8 c.toNat)).size = 8 := by rw [bs_size, beL_length]
      have s2 : (bs (beL 4 m)).size = 4 := by rw [bs_size, beL_length]
      clear hb d0 hz e1
      generalize bs (beL 8 c.toNat) = x8 at P8 C E s1
      generalize bs (beL 4 m) = x4 at P4 C E s2
      go_enter Tryz.func91, Tryz.ntmps91
      go_wp2_with fail
      rw [← HW.out]
      refine (P8 _).mono ?_; rintro e u ⟨rfl, g⟩
      have c0' := H0.out _ g
      have c1' := H1.out _ g
      go_wp2_with fail
      refine (P4 _).mono ?_; rintro e u2 ⟨rfl, g2⟩
      go_wp2_with fail
      refine (C _).mono ?_; rintro e u3 ⟨rfl, g3⟩
      go_wp2_with fail
      go_ret2
      exact ⟨ret_sb (by rw [E.out, HS.out]) HB.out.symm, ((hg.trans g).trans g2).trans g3⟩

theorem must_c (n k : Int) (hn : I64 n) (hk : I64 k) (w : World) :
    Calls Tryz.prog 72 #[.int .i64 n, .int .i64 k] w fun e w' => e = .returned (.string (putS n k)) ∧ Gr w w' := by
  go_enter Tryz.func72, Tryz.ntmps72
  go_wp2_with fail
  refine (rput_c n k hn hk _).mono ?_; rintro e u ⟨rfl, g⟩
  go_wp2_with fail
  go_ret
  exact ⟨rfl, g⟩

set_option maxHeartbeats 2000000 in
theorem rfputend_c (c : Int) (hc : I64 c) (m : Nat) (hm : m < 4294967296) (w : World) :
    Calls Tryz.prog 45 #[.agg #[.int .i64 c, .int .u32 (m : Int)]] w fun e w' => e = .returned (.tuple #[.string (peS c m), .bool (peB c)]) ∧ Gr w w' := by
  obtain ⟨W, hW⟩ : ∃ W, W = w.alloc (.cells #[.int .i64 c, .int .u32 (m : Int)] 33) := ⟨_, rfl⟩
  have hg : Gr w W := by rw [hW]; exact Below.alloc (Below.refl _ _) (Nat.le_refl _) _
  have hlt : w.heap.size < W.heap.size := by rw [hW, World.size_alloc]; omega
  have hS : ∀ u, Gr W u → Gr W u ∧ u.cell? ⟨w.heap.size, 0, none⟩ = some (.int .i64 c) ∧ u.cell? ⟨w.heap.size, 1, none⟩ = some (.int .u32 (m : Int)) := by
    intro u g
    refine ⟨g, ?_, ?_⟩
    · rw [Below.cell g (p := ⟨w.heap.size, 0, none⟩) hlt, hW, World.cell?_alloc_mark]; rfl
    · rw [Below.cell g (p := ⟨w.heap.size, 1, none⟩) hlt, hW, World.cell?_alloc_mark]; rfl
  have H := Lib.hid hS
  have HW := Lib.hid hW
  obtain ⟨_, c0, c1⟩ := hS _ (Gr.refl _)
  clear hS hW
  have hc' := hc
  unfold I64 at hc'
  by_cases h0 : c < 0
  · have hb : peB c = false := by unfold peB; rw [decide_eq_false_iff_not]; omega
    have HB := Lib.hid hb
    have HS := Lib.hid (peS_no (m := m) hb)
    clear hb
    go_enter Tryz.func45, Tryz.ntmps45
    go_wp2_with fail
    go_ret2
    exact ⟨ret_sb HS.out.symm HB.out.symm, by rw [← HW.out]; exact hg⟩
  · by_cases h2 : 4611686018427387904 < c
    · have hb : peB c = false := by unfold peB; rw [decide_eq_false_iff_not]; omega
      have HB := Lib.hid hb
      have HS := Lib.hid (peS_no (m := m) hb)
      clear hb
      go_enter Tryz.func45, Tryz.ntmps45
      go_wp2_with fail
      go_ret2
      exact ⟨ret_sb HS.out.symm HB.out.symm, by rw [← HW.out]; exact hg⟩
    · have hb : peB c = true := by unfold peB; rw [decide_eq_true_iff]; omega
      have HB := Lib.hid hb
      have HS := Lib.hid (peS_yes (m := m) hb)
      have e1 := end_app c.toNat m
      have hz := endS_size c.toNat m
      have s1 : (bs (beL 8 c.toNat)).size = 8 := by rw [bs_size, beL_length]
      have s2 : (bs (beL 4 m)).size = 4 := by rw [bs_size, beL_length]
      have M8 : ∀ u, Gr W u → Calls Tryz.prog 72 #[.int .i64 c, .int .i64 8] u fun e w' => e = .returned (.string (bs (beL 8 c.toNat))) ∧ Gr W w' ∧ w'.cell? ⟨w.heap.size, 0, none⟩ = some (.int .i64 c) ∧ w'.cell? ⟨w.heap.size, 1, none⟩ = some (.int .u32 (m : Int)) := by
        intro u g
        refine (must_c c 8 hc (by unfold I64; omega) u).mono ?_
        rintro e u2 ⟨rfl, g2⟩
        exact ⟨by rw [put8 hc (by omega)], H.out _ (g.trans g2)⟩
      have M4 : ∀ u, Gr W u → Calls Tryz.prog 72 #[.int .i64 (m : Int), .int .i64 4] u fun e w' => e = .returned (.string (bs (beL 4 m))) ∧ Gr W w' ∧ w'.cell? ⟨w.heap.size, 0, none⟩ = some (.int .i64 c) ∧ w'.cell? ⟨w.heap.size, 1, none⟩ = some (.int .u32 (m : Int)) := by
        intro u g
        refine (must_c m 4 (by unfold I64; omega) (by unfold I64; omega) u).mono ?_
        rintro e u2 ⟨rfl, g2⟩
        exact ⟨by rw [put4 hm], H.out _ (g.trans g2)⟩
      have C : ∀ u, Gr W u → Calls Tryz.prog 71 #[.string (ByteArray.mk #[0] ++ bs (beL 8 c.toNat) ++ bs (beL 4 m))] u fun e w' => e = .returned (.string (cl (endS c.toNat m))) ∧ Gr W w' ∧ w'.cell? ⟨w.heap.size, 0, none⟩ = some (.int .i64 c) ∧ w'.cell? ⟨w.heap.size, 1, none⟩ = some (.int .u32 (m : Int)) := by
        intro u g
        rw [e1]
        refine (rclose_c (endS c.toNat m) (by omega) u).mono ?_
        rintro e u2 ⟨rfl, g2⟩
        exact ⟨rfl, H.out _ (g.trans g2)⟩
      have hw1 : IntKind.i64.wrap (m : Int) = (m : Int) := IntWalk.i64_in _ (by omega)
      have hw2 : wrap64 (m : Int) = (m : Int) := IntWalk.wrap64_in _ (by omega)
      have gW := Gr.refl W
      have gWd : Gr W W.drew := Below.drew gW
      clear hb hz e1
      generalize bs (beL 8 c.toNat) = x8 at M8 C s1
      generalize bs (beL 4 m) = x4 at M4 C s2
      go_enter Tryz.func45, Tryz.ntmps45
      go_wp2_with fail
      rw [← HW.out]
      go_region_held3 (fun w' => Gr W w' ∧ w'.cell? ⟨w.heap.size, 0, none⟩ = some (.int .i64 c) ∧ w'.cell? ⟨w.heap.size, 1, none⟩ = some (.int .u32 (m : Int)))
        (first | exact H.out _ (Below.drew (by assumption)) | exact H.out _ (by assumption) | go_keep)
        ((first
          | (go_at_call 72; (with_reducible refine (M8 _ (by assumption)).mono ?_); rintro e u ⟨rfl, gu, cu0, cu1⟩)
          | (go_at_call 72; (with_reducible refine (M4 _ (by assumption)).mono ?_); rintro e u ⟨rfl, gu, cu0, cu1⟩)
          | (go_at_call 71; (with_reducible refine (C _ (by assumption)).mono ?_); rintro e u ⟨rfl, gu, cu0, cu1⟩)))
      go_wp2_with fail
      go_ret2
      exact ⟨ret_sb HS.out.symm HB.out.symm, hg.trans gu⟩
end Go.Proofs.YtpmglnghnelenaaGreat
/- Plain facts on the number of some bytes of a text. -/
namespace Go.Proofs.YtpmglnghnelenaaGreat
namespace OctPlain
theorem cutL_take (s : ByteArray) (a k j : Nat) (h : a + k ≤ s.size) (hj : j < k) : (cutL s a k).take (j + 1) = (cutL s a k).take j ++ [s[a + j]'(by omega)] := by
  have hl := cutL_length s a k h
  rw [List.take_succ_eq_append_getElem (by omega)]
  congr 2
  simp only [cutL, List.getElem_take, List.getElem_drop, Array.getElem_toList]
  rfl

theorem num_take_le (l : List UInt8) (j : Nat) (h : j < l.length) : num (l.take j) * 256 ≤ num l := by
  have h1 := num_app (l.take j) (l.drop j)
  rw [List.take_append_drop, List.length_drop] at h1
  have h2 : 256 ^ 1 ≤ 256 ^ (l.length - j) := Nat.pow_le_pow_right (by omega) (by omega)
  have h3 := Nat.mul_le_mul_left (num (l.take j)) h2
  omega

theorem getB_no {s : ByteArray} {a k : Int} (h : ¬ ((1 ≤ k ∧ k ≤ 8) ∧ 0 ≤ a ∧ a + k ≤ s.size)) : getB s a k = false := by
  unfold getB
  rw [decide_eq_false_iff_not]
  intro hh; exact h ⟨hh.1, hh.2.1, hh.2.2.1⟩
theorem getN_no {s : ByteArray} {a k : Int} (h : getB s a k = false) : getN s a k = 0 := by
  unfold getN; rw [h]; rfl
theorem getB_big {s : ByteArray} {p k : Nat} (h : 9223372036854775808 ≤ num (cutL s p k)) : getB s p k = false := by
  unfold getB
  rw [decide_eq_false_iff_not, Int.toNat_natCast, Int.toNat_natCast]
  omega
theorem getB_yes {s : ByteArray} {p k : Nat} (hk : 1 ≤ k ∧ k ≤ 8) (hp : p + k ≤ s.size) (h : num (cutL s p k) < 9223372036854775808) : getB s p k = true := by
  unfold getB
  rw [decide_eq_true_iff, Int.toNat_natCast, Int.toNat_natCast]
  omega
theorem getN_yes {s : ByteArray} {p k : Nat} (h : getB s p k = true) : getN s p k = num (cutL s p k) := by
  unfold getN; rw [if_pos h, Int.toNat_natCast, Int.toNat_natCast]

end OctPlain
end Go.Proofs.YtpmglnghnelenaaGreat
/- Plain facts on what the bytes of a block say. -/
namespace Go.Proofs.YtpmglnghnelenaaGreat
open Go.RowKit CrcPlain OctPlain FramePlain
set_option linter.unusedVariables false
set_option linter.unusedSimpArgs false
set_option maxRecDepth 20000
namespace FramePlain
/-- How many records a block says to have: 0, where it has no byte. -/
def cntN (s : ByteArray) : Nat := num (cutL s 0 1)
def gLen (size : Int) (s : ByteArray) : Int := 5 + cntN s * size
def gB (size : Int) (s : ByteArray) : Bool := sizeB size && decide (1 ≤ cntN s ∧ cntN s ≤ 4) && decide (gLen size s ≤ s.size) && opB (s.extract 0 (gLen size s).toNat)
def gN (size : Int) (s : ByteArray) : Int := if gB size s = true then gLen size s else 0
/-- A block's records, one behind the other. -/
def gBody (size : Int) (s : ByteArray) : ByteArray := (opS (s.extract 0 (gLen size s).toNat)).extract 1 (opS (s.extract 0 (gLen size s).toNat)).size
def gL (size : Int) (s : ByteArray) : List ByteArray := if gB size s = true then splL (gBody size s) size else []
theorem gN_no {size : Int} {s : ByteArray} (h : gB size s = false) : gN size s = 0 := by simp [gN, h]
theorem gL_no {size : Int} {s : ByteArray} (h : gB size s = false) : gL size s = [] := by simp [gL, h]
theorem gN_yes {size : Int} {s : ByteArray} (h : gB size s = true) : gN size s = gLen size s := by simp [gN, h]
theorem gL_yes {size : Int} {s : ByteArray} (h : gB size s = true) : gL size s = splL (gBody size s) size := by simp [gL, h]
theorem cntN_lt (s : ByteArray) : cntN s < 256 := by
  have h := num_lt (cutL s 0 1)
  have hl : (cutL s 0 1).length ≤ 1 := by unfold cutL; rw [List.length_take]; omega
  have hp : 256 ^ (cutL s 0 1).length ≤ 256 ^ 1 := Nat.pow_le_pow_right (by omega) hl
  unfold cntN
  omega
theorem getN_cnt (s : ByteArray) : getN s 0 1 = (cntN s : Int) := by
  have hlt := cntN_lt s
  by_cases h : 1 ≤ s.size
  · have hb : getB s (0 : Nat) (1 : Nat) = true := getB_yes (by omega) (by omega) (by unfold cntN at hlt; omega)
    exact getN_yes hb
  · have hb : getB s 0 1 = false := getB_no (by omega)
    rw [getN_no hb]
    have hl : s.data.toList = [] := by
      apply List.eq_nil_of_length_eq_zero; rw [data_length]; omega
    unfold cntN cutL; rw [hl]; rfl
theorem cntN_at (s : ByteArray) (h : 0 < s.size) : s[0].toNat = cntN s := by
  have e := cutL_take s 0 1 0 (by omega) (by omega)
  have hl := cutL_length s 0 1 (by omega)
  rw [List.take_of_length_le (by omega)] at e
  unfold cntN
  rw [e]
  simp [num]
theorem cntN_none (s : ByteArray) (h : s.size = 0) : cntN s = 0 := by
  have hl : s.data.toList = [] := by
    apply List.eq_nil_of_length_eq_zero; rw [data_length]; exact h
  unfold cntN cutL; rw [hl]; rfl
end FramePlain
/-- A row that lies above a bound lies above a lesser one. -/
theorem owns_low {w : World} {A B : Nat} {e : TypeId} {k : Nat} {v : Value} {n : Nat} {xs : List Value} (hA : A ≤ B) (h : w.ownsRow B e k v n xs) : w.ownsRow A e k v n xs := by
  obtain ⟨h1, h2⟩ := h
  refine ⟨h1, h2.imp id ?_⟩
  rintro ⟨g, cap, cur, e1, e2, e3⟩
  exact ⟨g, cap, cur, e1, Nat.le_trans hA e2, e3⟩
/-- What Get hands out. -/
def FGot (size : Int) (s : ByteArray) (w : World) (e : Ending) (w' : World) : Prop :=
  ∃ v, e = .returned (.tuple #[v, .int .i64 (gN size s), .bool (gB size s)]) ∧ w'.ownsRow w.heap.size 9 1 v (gL size s).length (strs (gL size s)) ∧ Gr w w'
theorem fgot_no {size : Int} {s : ByteArray} {w w' : World} (h : gB size s = false) (g : Gr w w') : FGot size s w (.returned (.tuple #[.slice none 0 0, .int .i64 0, .bool false])) w' := by
  refine ⟨_, by rw [gN_no h, h], ?_, g⟩
  rw [gL_no h]
  exact World.ownsRow_nil _ _ _ _
theorem fgot_yes {size : Int} {s : ByteArray} {w w' : World} {v : Value} {n : Int} (h : gB size s = true) (hn : gN size s = n) (ho : ∃ B, w.heap.size ≤ B ∧ w'.ownsRow B 9 1 v (splL (gBody size s) size).length (strs (splL (gBody size s) size))) (g : Gr w w') :
    FGot size s w (.returned (.tuple #[v, .int .i64 n, .bool true])) w' := by
  obtain ⟨B, hB, ho⟩ := ho
  refine ⟨_, by rw [hn, h], ?_, g⟩
  rw [gL_yes h]
  exact owns_low hB ho
end Go.Proofs.YtpmglnghnelenaaGreat
/- Plain facts: a byte laid behind a number whose lowest byte is none is added; numbers that wrap round. -/
namespace Go.Proofs.YtpmglnghnelenaaGreat
open Go.RowKit OctPlain
set_option linter.unusedVariables false

theorem or_step (N y : Nat) (hN : N < 72057594037927936) (hy : y < 256) :
    bits .or .i64 (wrap64 (wrap64 (N : Int) * 256)) (wrap64 (y : Int)) = wrap64 ((N * 256 + y : Nat) : Int) := by
  have h1 : (BitVec.ofInt 64 (wrap64 (wrap64 (N : Int) * 256))).toNat = 2 ^ 8 * N := by
    rw [BitVec.toNat_ofInt]; unfold wrap64; omega
  have h2 : (BitVec.ofInt 64 (wrap64 (y : Int))).toNat = y := by
    rw [BitVec.toNat_ofInt]; unfold wrap64; omega
  show IntKind.i64.wrap ((BitVec.ofInt 64 (wrap64 (wrap64 (N : Int) * 256)) ||| BitVec.ofInt 64 (wrap64 (y : Int))).toNat : Int) = _
  rw [BitVec.toNat_or, h1, h2, ← Nat.two_pow_add_eq_or_of_lt hy]
  have e : 2 ^ 8 * N + y = N * 256 + y := by omega
  rw [e]
  simp only [IntKind.wrap_i64, wrap64]

theorem or_first (y : Nat) (hy : y < 256) : bits .or .i64 0 (wrap64 (y : Int)) = wrap64 (y : Int) := by
  have h := or_step 0 y (by omega) hy
  have e : wrap64 (wrap64 ((0 : Nat) : Int) * 256) = 0 := by simp [wrap64]
  rw [e] at h
  simpa using h

/-- Eight bytes, laid behind each other one by one. -/
theorem chain8 {y0 y1 y2 y3 y4 y5 y6 y7 : UInt8} {v1 v2 v3 v4 v5 v6 v7 v8 : Int}
    (o1 : bits .or .i64 0 (wrap64 (y0.toNat : Int)) = v1)
    (o2 : bits .or .i64 (wrap64 (v1 * 256)) (wrap64 (y1.toNat : Int)) = v2)
    (o3 : bits .or .i64 (wrap64 (v2 * 256)) (wrap64 (y2.toNat : Int)) = v3)
    (o4 : bits .or .i64 (wrap64 (v3 * 256)) (wrap64 (y3.toNat : Int)) = v4)
    (o5 : bits .or .i64 (wrap64 (v4 * 256)) (wrap64 (y4.toNat : Int)) = v5)
    (o6 : bits .or .i64 (wrap64 (v5 * 256)) (wrap64 (y5.toNat : Int)) = v6)
    (o7 : bits .or .i64 (wrap64 (v6 * 256)) (wrap64 (y6.toNat : Int)) = v7)
    (o8 : bits .or .i64 (wrap64 (v7 * 256)) (wrap64 (y7.toNat : Int)) = v8) :
    v8 = wrap64 (num [y0, y1, y2, y3, y4, y5, y6, y7] : Int) := by
  have b0 := y0.toNat_lt; have b1 := y1.toNat_lt; have b2 := y2.toNat_lt; have b3 := y3.toNat_lt
  have b4 := y4.toNat_lt; have b5 := y5.toNat_lt; have b6 := y6.toNat_lt; have b7 := y7.toNat_lt
  rw [or_first _ (by omega)] at o1; subst o1
  rw [or_step _ _ (by omega) (by omega)] at o2; subst o2
  rw [or_step _ _ (by omega) (by omega)] at o3; subst o3
  rw [or_step _ _ (by omega) (by omega)] at o4; subst o4
  rw [or_step _ _ (by omega) (by omega)] at o5; subst o5
  rw [or_step _ _ (by omega) (by omega)] at o6; subst o6
  rw [or_step _ _ (by omega) (by omega)] at o7; subst o7
  rw [or_step _ _ (by omega) (by omega)] at o8; subst o8
  simp only [num, List.foldl, Nat.zero_mul, Nat.zero_add]

theorem num_zeros (l : List UInt8) : ∀ k, num (List.replicate k 0 ++ l) = num l := by
  intro k
  induction k with
  | zero => simp
  | succ k ih => rw [List.replicate_succ, List.cons_append, num_cons, ih]; simp

/-- Eight bytes that begin with none. -/
theorem pad8 (xs : List UInt8) (k : Nat) (hk : k ≤ 8) (hl : xs.length = k) :
    ∃ y0 y1 y2 y3 y4 y5 y6 y7 : UInt8, List.replicate (8 - k) 0 ++ xs = [y0, y1, y2, y3, y4, y5, y6, y7] ∧ num [y0, y1, y2, y3, y4, y5, y6, y7] = num xs := by
  have h8 : (List.replicate (8 - k) (0 : UInt8) ++ xs).length = 8 := by simp; omega
  have hn := num_zeros xs (8 - k)
  match h : List.replicate (8 - k) (0 : UInt8) ++ xs, h8 with
  | [a, b, c, d, e, f, g, i], _ => exact ⟨a, b, c, d, e, f, g, i, rfl, by rw [← h]; exact hn⟩
end Go.Proofs.YtpmglnghnelenaaGreat

/- In one text: FrameEnd, OctPlain2, FramePlain2, OctBits, OctGet, OctRget, OctGets. -/
import Derived.Test.YtjplkmmhjfpdaaaGreatDoorQ02
import Derived.Deep.RegionHeld3
import Derived.IntWalk
import Derived.Test.YtjplkmmhjfpdaaaGreatDoorQ01
import Derived.Laws.Bits64
import Derived.Lib.Hide
import Derived.Laws.CopyRow
import Derived.Lib.BufferWrite
import Derived.Deep.RegionLaw
/- The contracts of PutEnd, and of the document's. -/
namespace Go.Proofs.YtjplkmmhjfpdaaaGreatDoor
open Go.RowKit CrcPlain OctPlain FramePlain
set_option linter.unusedVariables false
set_option linter.unusedSimpArgs false
set_option maxRecDepth 20000
namespace FramePlain
def endS (c m : Nat) : ByteArray := bs (0 :: (beL 8 c ++ beL 4 m))
def peB (c : Int) : Bool := decide (0 ≤ c ∧ c ≤ 4611686018427387904)
def peS (c : Int) (m : Nat) : ByteArray := if peB c = true then cl (endS c.toNat m) else ⟨#[]⟩
theorem peS_no {c : Int} {m : Nat} (h : peB c = false) : peS c m = ⟨#[]⟩ := by simp [peS, h]
theorem peS_yes {c : Int} {m : Nat} (h : peB c = true) : peS c m = cl (endS c.toNat m) := by simp [peS, h]
theorem endS_size (c m : Nat) : (endS c m).size = 13 := by unfold endS; rw [bs_size, List.length_cons, List.length_append, beL_length, beL_length]
theorem fits8 {c : Int} (hc : I64 c) : fitsB c 8 = decide (0 ≤ c) := by
  unfold fitsB I64 at *
  apply decide_eq_decide.2
  constructor
  · intro h; omega
  · intro h; refine ⟨by omega, h, ?_⟩; show c < 256 ^ 8; omega
theorem fits4 {m : Nat} (hm : m < 4294967296) : fitsB (m : Int) 4 = true := by
  unfold fitsB
  rw [decide_eq_true_iff]
  refine ⟨by omega, by omega, ?_⟩; show (m : Int) < 256 ^ 4; omega
theorem put8 {c : Int} (hc : I64 c) (h : 0 ≤ c) : putS c 8 = bs (beL 8 c.toNat) := by
  unfold putS; rw [fits8 hc, if_pos (by simpa using h)]; rfl
theorem put4 {m : Nat} (hm : m < 4294967296) : putS (m : Int) 4 = bs (beL 4 m) := by
  unfold putS; rw [if_pos (fits4 hm), Int.toNat_natCast]; rfl
theorem end_app (c m : Nat) : ByteArray.mk #[0] ++ bs (beL 8 c) ++ bs (beL 4 m) = endS c m := by
  show bs [0] ++ _ ++ _ = _
  rw [bs_app, bs_app]; rfl
end FramePlain
theorem fputend_c (c : Int) (hc : I64 c) (m : Nat) (hm : m < 4294967296) (w : World) :
    Calls Tryz.prog 174 #[.agg #[.int .i64 c, .int .u32 (m : Int)]] w fun e w' => e = .returned (.tuple #[.string (peS c m), .bool (peB c)]) ∧ Gr w w' := by
  obtain ⟨W, hW⟩ : ∃ W, W = w.alloc (.cells #[.int .i64 c, .int .u32 (m : Int)] 37) := ⟨_, rfl⟩
  have hg : Gr w W := by rw [hW]; exact Below.alloc (Below.refl _ _) (Nat.le_refl _) _
  have hlt : w.heap.size < W.heap.size := by rw [hW, World.size_alloc]; omega
  have hc0 : ∀ u, Gr W u → u.cell? ⟨w.heap.size, 0, none⟩ = some (.int .i64 c) := by
    intro u g
    rw [Below.cell g (p := ⟨w.heap.size, 0, none⟩) hlt, hW, World.cell?_alloc_mark]; rfl
  have hc1 : ∀ u, Gr W u → u.cell? ⟨w.heap.size, 1, none⟩ = some (.int .u32 (m : Int)) := by
    intro u g
    rw [Below.cell g (p := ⟨w.heap.size, 1, none⟩) hlt, hW, World.cell?_alloc_mark]; rfl
  have P8 := fun u => put_c c 8 hc (by unfold I64; omega) u
  have P4 := fun u => put_c m 4 (by unfold I64; omega) (by unfold I64; omega) u
  rw [fits8 hc] at P8
  rw [fits4 hm, put4 hm] at P4
  have H0 := Lib.hid hc0
  have H1 := Lib.hid hc1
  have HW := Lib.hid hW
  have c0 := hc0 _ (Gr.refl _)
  have c1 := hc1 _ (Gr.refl _)
  clear hc0 hc1 hW
  have hc' := hc
  unfold I64 at hc'
  by_cases h0 : c < 0
  · have hb : peB c = false := by unfold peB; rw [decide_eq_false_iff_not]; omega
    have HB := Lib.hid hb
    have HS := Lib.hid (peS_no (m := m) hb)
    have d0 : decide (0 ≤ c) = false := by rw [decide_eq_false_iff_not]; omega
    rw [d0] at P8
    clear hb d0
    go_enter Tryz.func174, Tryz.ntmps174
    go_wp2_with fail
    rw [← HW.out]
    refine (P8 _).mono ?_; rintro e u ⟨rfl, g⟩
    go_wp2_with fail
    go_ret2
    exact ⟨ret_sb HS.out.symm HB.out.symm, hg.trans g⟩
  · have d0 : decide (0 ≤ c) = true := by rw [decide_eq_true_iff]; omega
    rw [d0, put8 hc (by omega)] at P8
    by_cases h2 : 4611686018427387904 < c
    · have hb : peB c = false := by unfold peB; rw [decide_eq_false_iff_not]; omega
      have HB := Lib.hid hb
      have HS := Lib.hid (peS_no (m := m) hb)
      clear hb d0
      go_enter Tryz.func174, Tryz.ntmps174
      go_wp2_with fail
      rw [← HW.out]
      refine (P8 _).mono ?_; rintro e u ⟨rfl, g⟩
      have c0' := H0.out _ g
      go_wp2_with fail
      go_ret2
      exact ⟨ret_sb HS.out.symm HB.out.symm, hg.trans g⟩
    · have hb : peB c = true := by unfold peB; rw [decide_eq_true_iff]; omega
      have HB := Lib.hid hb
      have HS := Lib.hid (peS_yes (m := m) hb)
      have e1 := end_app c.toNat m
      have hz := endS_size c.toNat m
      have C := fun u => close_c (endS c.toNat m) (by omega) u
      rw [← e1] at C
      have E := Lib.hid e1
      have s1 : (bs (beL 8 c.toNat)).size = 8 := by rw [bs_size, beL_length]
      have s2 : (bs (beL 4 m)).size = 4 := by rw [bs_size, beL_length]
      clear hb d0 hz e1
      generalize bs (beL 8 c.toNat) = x8 at P8 C E s1
      generalize bs (beL 4 m) = x4 at P4 C E s2
      go_enter Tryz.func174, Tryz.ntmps174
      go_wp2_with fail
      rw [← HW.out]
      refine (P8 _).mono ?_; rintro e u ⟨rfl, g⟩
      have c0' := H0.out _ g
      have c1' := H1.out _ g
      go_wp2_with fail
      refine (P4 _).mono ?_; rintro e u2 ⟨rfl, g2⟩
      go_wp2_with fail
      refine (C _).mono ?_; rintro e u3 ⟨rfl, g3⟩
      go_wp2_with fail
      go_ret2
      exact ⟨ret_sb (by rw [E.out, HS.out]) HB.out.symm, ((hg.trans g).trans g2).trans g3⟩
theorem must_c (n k : Int) (hn : I64 n) (hk : I64 k) (w : World) :
    Calls Tryz.prog 60 #[.int .i64 n, .int .i64 k] w fun e w' => e = .returned (.string (putS n k)) ∧ Gr w w' := by
  go_enter Tryz.func60, Tryz.ntmps60
  go_wp2_with fail
  refine (rput_c n k hn hk _).mono ?_; rintro e u ⟨rfl, g⟩
  go_wp2_with fail
  go_ret
  exact ⟨rfl, g⟩
set_option maxHeartbeats 2000000 in
theorem rfputend_c (c : Int) (hc : I64 c) (m : Nat) (hm : m < 4294967296) (w : World) :
    Calls Tryz.prog 33 #[.agg #[.int .i64 c, .int .u32 (m : Int)]] w fun e w' => e = .returned (.tuple #[.string (peS c m), .bool (peB c)]) ∧ Gr w w' := by
  obtain ⟨W, hW⟩ : ∃ W, W = w.alloc (.cells #[.int .i64 c, .int .u32 (m : Int)] 37) := ⟨_, rfl⟩
  have hg : Gr w W := by rw [hW]; exact Below.alloc (Below.refl _ _) (Nat.le_refl _) _
  have hlt : w.heap.size < W.heap.size := by rw [hW, World.size_alloc]; omega
  have hS : ∀ u, Gr W u → Gr W u ∧ u.cell? ⟨w.heap.size, 0, none⟩ = some (.int .i64 c) ∧ u.cell? ⟨w.heap.size, 1, none⟩ = some (.int .u32 (m : Int)) := by
    intro u g
    refine ⟨g, ?_, ?_⟩
    · rw [Below.cell g (p := ⟨w.heap.size, 0, none⟩) hlt, hW, World.cell?_alloc_mark]; rfl
    · rw [Below.cell g (p := ⟨w.heap.size, 1, none⟩) hlt, hW, World.cell?_alloc_mark]; rfl
  have H := Lib.hid hS
  have HW := Lib.hid hW
  obtain ⟨_, c0, c1⟩ := hS _ (Gr.refl _)
  clear hS hW
  have hc' := hc
  unfold I64 at hc'
  by_cases h0 : c < 0
  · have hb : peB c = false := by unfold peB; rw [decide_eq_false_iff_not]; omega
    have HB := Lib.hid hb
    have HS := Lib.hid (peS_no (m := m) hb)
    clear hb
    go_enter Tryz.func33, Tryz.ntmps33
    go_wp2_with fail
    go_ret2
    exact ⟨ret_sb HS.out.symm HB.out.symm, by rw [← HW.out]; exact hg⟩
  · by_cases h2 : 4611686018427387904 < c
    · have hb : peB c = false := by unfold peB; rw [decide_eq_false_iff_not]; omega
      have HB := Lib.hid hb
      have HS := Lib.hid (peS_no (m := m) hb)
      clear hb
      go_enter Tryz.func33, Tryz.ntmps33
      go_wp2_with fail
      go_ret2
      exact ⟨ret_sb HS.out.symm HB.out.symm, by rw [← HW.out]; exact hg⟩
    · have hb : peB c = true := by unfold peB; rw [decide_eq_true_iff]; omega
      have HB := Lib.hid hb
      have HS := Lib.hid (peS_yes (m := m) hb)
      have e1 := end_app c.toNat m
      have hz := endS_size c.toNat m
      have s1 : (bs (beL 8 c.toNat)).size = 8 := by rw [bs_size, beL_length]
      have s2 : (bs (beL 4 m)).size = 4 := by rw [bs_size, beL_length]
      have M8 : ∀ u, Gr W u → Calls Tryz.prog 60 #[.int .i64 c, .int .i64 8] u fun e w' => e = .returned (.string (bs (beL 8 c.toNat))) ∧ Gr W w' ∧ w'.cell? ⟨w.heap.size, 0, none⟩ = some (.int .i64 c) ∧ w'.cell? ⟨w.heap.size, 1, none⟩ = some (.int .u32 (m : Int)) := by
        intro u g
        refine (must_c c 8 hc (by unfold I64; omega) u).mono ?_
        rintro e u2 ⟨rfl, g2⟩
        exact ⟨by rw [put8 hc (by omega)], H.out _ (g.trans g2)⟩
      have M4 : ∀ u, Gr W u → Calls Tryz.prog 60 #[.int .i64 (m : Int), .int .i64 4] u fun e w' => e = .returned (.string (bs (beL 4 m))) ∧ Gr W w' ∧ w'.cell? ⟨w.heap.size, 0, none⟩ = some (.int .i64 c) ∧ w'.cell? ⟨w.heap.size, 1, none⟩ = some (.int .u32 (m : Int)) := by
        intro u g
        refine (must_c m 4 (by unfold I64; omega) (by unfold I64; omega) u).mono ?_
        rintro e u2 ⟨rfl, g2⟩
        exact ⟨by rw [put4 hm], H.out _ (g.trans g2)⟩
      have C : ∀ u, Gr W u → Calls Tryz.prog 59 #[.string (ByteArray.mk #[0] ++ bs (beL 8 c.toNat) ++ bs (beL 4 m))] u fun e w' => e = .returned (.string (cl (endS c.toNat m))) ∧ Gr W w' ∧ w'.cell? ⟨w.heap.size, 0, none⟩ = some (.int .i64 c) ∧ w'.cell? ⟨w.heap.size, 1, none⟩ = some (.int .u32 (m : Int)) := by
        intro u g
        rw [e1]
        refine (rclose_c (endS c.toNat m) (by omega) u).mono ?_
        rintro e u2 ⟨rfl, g2⟩
        exact ⟨rfl, H.out _ (g.trans g2)⟩
      have hw1 : IntKind.i64.wrap (m : Int) = (m : Int) := IntWalk.i64_in _ (by omega)
      have hw2 : wrap64 (m : Int) = (m : Int) := IntWalk.wrap64_in _ (by omega)
      have gW := Gr.refl W
      have gWd : Gr W W.drew := Below.drew gW
      clear hb hz e1
      generalize bs (beL 8 c.toNat) = x8 at M8 C s1
      generalize bs (beL 4 m) = x4 at M4 C s2
      go_enter Tryz.func33, Tryz.ntmps33
      go_wp2_with fail
      rw [← HW.out]
      go_region_held3 (fun w' => Gr W w' ∧ w'.cell? ⟨w.heap.size, 0, none⟩ = some (.int .i64 c) ∧ w'.cell? ⟨w.heap.size, 1, none⟩ = some (.int .u32 (m : Int)))
        (first | exact H.out _ (Below.drew (by assumption)) | exact H.out _ (by assumption) | go_keep)
        ((first
          | (go_at_call 60; (with_reducible refine (M8 _ (by assumption)).mono ?_); rintro e u ⟨rfl, gu, cu0, cu1⟩)
          | (go_at_call 60; (with_reducible refine (M4 _ (by assumption)).mono ?_); rintro e u ⟨rfl, gu, cu0, cu1⟩)
          | (go_at_call 59; (with_reducible refine (C _ (by assumption)).mono ?_); rintro e u ⟨rfl, gu, cu0, cu1⟩)))
      go_wp2_with fail
      go_ret2
      exact ⟨ret_sb HS.out.symm HB.out.symm, hg.trans gu⟩
end Go.Proofs.YtjplkmmhjfpdaaaGreatDoor
/- Plain facts on the number of some bytes of a text. -/
namespace Go.Proofs.YtjplkmmhjfpdaaaGreatDoor
namespace OctPlain
theorem cutL_take (s : ByteArray) (a k j : Nat) (h : a + k ≤ s.size) (hj : j < k) : (cutL s a k).take (j + 1) = (cutL s a k).take j ++ [s[a + j]'(by omega)] := by
  have hl := cutL_length s a k h
  rw [List.take_succ_eq_append_getElem (by omega)]
  congr 2
  simp only [cutL, List.getElem_take, List.getElem_drop, Array.getElem_toList]
  rfl
theorem getB_no {s : ByteArray} {a k : Int} (h : ¬ ((1 ≤ k ∧ k ≤ 8) ∧ 0 ≤ a ∧ a + k ≤ s.size)) : getB s a k = false := by
  unfold getB
  rw [decide_eq_false_iff_not]
  intro hh; exact h ⟨hh.1, hh.2.1, hh.2.2.1⟩
theorem getN_no {s : ByteArray} {a k : Int} (h : getB s a k = false) : getN s a k = 0 := by
  unfold getN; rw [h]; rfl
theorem getB_yes {s : ByteArray} {p k : Nat} (hk : 1 ≤ k ∧ k ≤ 8) (hp : p + k ≤ s.size) (h : num (cutL s p k) < 9223372036854775808) : getB s p k = true := by
  unfold getB
  rw [decide_eq_true_iff, Int.toNat_natCast, Int.toNat_natCast]
  omega
theorem getN_yes {s : ByteArray} {p k : Nat} (h : getB s p k = true) : getN s p k = num (cutL s p k) := by
  unfold getN; rw [if_pos h, Int.toNat_natCast, Int.toNat_natCast]
end OctPlain
end Go.Proofs.YtjplkmmhjfpdaaaGreatDoor
/- Plain facts on what the bytes of a block say. -/
namespace Go.Proofs.YtjplkmmhjfpdaaaGreatDoor
open Go.RowKit CrcPlain OctPlain FramePlain
set_option linter.unusedVariables false
set_option linter.unusedSimpArgs false
set_option maxRecDepth 20000
namespace FramePlain
def cntN (s : ByteArray) : Nat := num (cutL s 0 1)
def gLen (size : Int) (s : ByteArray) : Int := 5 + cntN s * size
def gB (size : Int) (s : ByteArray) : Bool := sizeB size && decide (1 ≤ cntN s ∧ cntN s ≤ 4) && decide (gLen size s ≤ s.size) && opB (s.extract 0 (gLen size s).toNat)
def gN (size : Int) (s : ByteArray) : Int := if gB size s = true then gLen size s else 0
def gBody (size : Int) (s : ByteArray) : ByteArray := (opS (s.extract 0 (gLen size s).toNat)).extract 1 (opS (s.extract 0 (gLen size s).toNat)).size
def gL (size : Int) (s : ByteArray) : List ByteArray := if gB size s = true then splL (gBody size s) size else []
theorem gN_no {size : Int} {s : ByteArray} (h : gB size s = false) : gN size s = 0 := by simp [gN, h]
theorem gL_no {size : Int} {s : ByteArray} (h : gB size s = false) : gL size s = [] := by simp [gL, h]
theorem gN_yes {size : Int} {s : ByteArray} (h : gB size s = true) : gN size s = gLen size s := by simp [gN, h]
theorem gL_yes {size : Int} {s : ByteArray} (h : gB size s = true) : gL size s = splL (gBody size s) size := by simp [gL, h]
theorem cntN_lt (s : ByteArray) : cntN s < 256 := by
  have h := num_lt (cutL s 0 1)
  have hl : (cutL s 0 1).length ≤ 1 := by unfold cutL; rw [List.length_take]; omega
  have hp : 256 ^ (cutL s 0 1).length ≤ 256 ^ 1 := Nat.pow_le_pow_right (by omega) hl
  unfold cntN
  omega
theorem getN_cnt (s : ByteArray) : getN s 0 1 = (cntN s : Int) := by
  have hlt := cntN_lt s
  by_cases h : 1 ≤ s.size
  · have hb : getB s (0 : Nat) (1 : Nat) = true := getB_yes (by omega) (by omega) (by unfold cntN at hlt; omega)
    exact getN_yes hb
  · have hb : getB s 0 1 = false := getB_no (by omega)
    rw [getN_no hb]
    have hl : s.data.toList = [] := by
      apply List.eq_nil_of_length_eq_zero; rw [data_length]; omega
    unfold cntN cutL; rw [hl]; rfl
theorem cntN_at (s : ByteArray) (h : 0 < s.size) : s[0].toNat = cntN s := by
  have e := cutL_take s 0 1 0 (by omega) (by omega)
  have hl := cutL_length s 0 1 (by omega)
  rw [List.take_of_length_le (by omega)] at e
  unfold cntN
  rw [e]
  simp [num]
end FramePlain
theorem owns_low {w : World} {A B : Nat} {e : TypeId} {k : Nat} {v : Value} {n : Nat} {xs : List Value} (hA : A ≤ B) (h : w.ownsRow B e k v n xs) : w.ownsRow A e k v n xs := by
  obtain ⟨h1, h2⟩ := h
  refine ⟨h1, h2.imp id ?_⟩
  rintro ⟨g, cap, cur, e1, e2, e3⟩
  exact ⟨g, cap, cur, e1, Nat.le_trans hA e2, e3⟩
def FGot (size : Int) (s : ByteArray) (w : World) (e : Ending) (w' : World) : Prop :=
  ∃ v, e = .returned (.tuple #[v, .int .i64 (gN size s), .bool (gB size s)]) ∧ w'.ownsRow w.heap.size 9 1 v (gL size s).length (strs (gL size s)) ∧ Gr w w'
theorem fgot_no {size : Int} {s : ByteArray} {w w' : World} (h : gB size s = false) (g : Gr w w') : FGot size s w (.returned (.tuple #[.slice none 0 0, .int .i64 0, .bool false])) w' := by
  refine ⟨_, by rw [gN_no h, h], ?_, g⟩
  rw [gL_no h]
  exact World.ownsRow_nil _ _ _ _
theorem fgot_yes {size : Int} {s : ByteArray} {w w' : World} {v : Value} {n : Int} (h : gB size s = true) (hn : gN size s = n) (ho : ∃ B, w.heap.size ≤ B ∧ w'.ownsRow B 9 1 v (splL (gBody size s) size).length (strs (splL (gBody size s) size))) (g : Gr w w') :
    FGot size s w (.returned (.tuple #[v, .int .i64 n, .bool true])) w' := by
  obtain ⟨B, hB, ho⟩ := ho
  refine ⟨_, by rw [hn, h], ?_, g⟩
  rw [gL_yes h]
  exact owns_low hB ho
end Go.Proofs.YtjplkmmhjfpdaaaGreatDoor
/- Plain facts: a byte laid behind a number whose lowest byte is none is added; numbers that wrap round. -/
namespace Go.Proofs.YtjplkmmhjfpdaaaGreatDoor
open Go.RowKit OctPlain
set_option linter.unusedVariables false
theorem or_step (N y : Nat) (hN : N < 72057594037927936) (hy : y < 256) :
    bits .or .i64 (wrap64 (wrap64 (N : Int) * 256)) (wrap64 (y : Int)) = wrap64 ((N * 256 + y : Nat) : Int) := by
  have h1 : (BitVec.ofInt 64 (wrap64 (wrap64 (N : Int) * 256))).toNat = 2 ^ 8 * N := by
    rw [BitVec.toNat_ofInt]; unfold wrap64; omega
  have h2 : (BitVec.ofInt 64 (wrap64 (y : Int))).toNat = y := by
    rw [BitVec.toNat_ofInt]; unfold wrap64; omega
  show IntKind.i64.wrap ((BitVec.ofInt 64 (wrap64 (wrap64 (N : Int) * 256)) ||| BitVec.ofInt 64 (wrap64 (y : Int))).toNat : Int) = _
  rw [BitVec.toNat_or, h1, h2, ← Nat.two_pow_add_eq_or_of_lt hy]
  have e : 2 ^ 8 * N + y = N * 256 + y := by omega
  rw [e]
  simp only [IntKind.wrap_i64, wrap64]
theorem or_first (y : Nat) (hy : y < 256) : bits .or .i64 0 (wrap64 (y : Int)) = wrap64 (y : Int) := by
  have h := or_step 0 y (by omega) hy
  have e : wrap64 (wrap64 ((0 : Nat) : Int) * 256) = 0 := by simp [wrap64]
  rw [e] at h
  simpa using h
theorem chain8 {y0 y1 y2 y3 y4 y5 y6 y7 : UInt8} {v1 v2 v3 v4 v5 v6 v7 v8 : Int}
    (o1 : bits .or .i64 0 (wrap64 (y0.toNat : Int)) = v1)
    (o2 : bits .or .i64 (wrap64 (v1 * 256)) (wrap64 (y1.toNat : Int)) = v2)
    (o3 : bits .or .i64 (wrap64 (v2 * 256)) (wrap64 (y2.toNat : Int)) = v3)
    (o4 : bits .or .i64 (wrap64 (v3 * 256)) (wrap64 (y3.toNat : Int)) = v4)
    (o5 : bits .or .i64 (wrap64 (v4 * 256)) (wrap64 (y4.toNat : Int)) = v5)
    (o6 : bits .or .i64 (wrap64 (v5 * 256)) (wrap64 (y5.toNat : Int)) = v6)
    (o7 : bits .or .i64 (wrap64 (v6 * 256)) (wrap64 (y6.toNat : Int)) = v7)
    (o8 : bits .or .i64 (wrap64 (v7 * 256)) (wrap64 (y7.toNat : Int)) = v8) :
    v8 = wrap64 (num [y0, y1, y2, y3, y4, y5, y6, y7] : Int) := by
  have b0 := y0.toNat_lt; have b1 := y1.toNat_lt; have b2 := y2.toNat_lt; have b3 := y3.toNat_lt
  have b4 := y4.toNat_lt; have b5 := y5.toNat_lt; have b6 := y6.toNat_lt; have b7 := y7.toNat_lt
  rw [or_first _ (by omega)] at o1; subst o1
  rw [or_step _ _ (by omega) (by omega)] at o2; subst o2
  rw [or_step _ _ (by omega) (by omega)] at o3; subst o3
  rw [or_step _ _ (by omega) (by omega)] at o4; subst o4
  rw [or_step _ _ (by omega) (by omega)] at o5; subst o5
  rw [or_step _ _ (by omega) (by omega)] at o6; subst o6
  rw [or_step _ _ (by omega) (by omega)] at o7; subst o7
  rw [or_step _ _ (by omega) (by omega)] at o8; subst o8
  simp only [num, List.foldl, Nat.zero_mul, Nat.zero_add]
theorem num_zeros (l : List UInt8) : ∀ k, num (List.replicate k 0 ++ l) = num l := by
  intro k
  induction k with
  | zero => simp
  | succ k ih => rw [List.replicate_succ, List.cons_append, num_cons, ih]; simp
theorem pad8 (xs : List UInt8) (k : Nat) (hk : k ≤ 8) (hl : xs.length = k) :
    ∃ y0 y1 y2 y3 y4 y5 y6 y7 : UInt8, List.replicate (8 - k) 0 ++ xs = [y0, y1, y2, y3, y4, y5, y6, y7] ∧ num [y0, y1, y2, y3, y4, y5, y6, y7] = num xs := by
  have h8 : (List.replicate (8 - k) (0 : UInt8) ++ xs).length = 8 := by simp; omega
  have hn := num_zeros xs (8 - k)
  match h : List.replicate (8 - k) (0 : UInt8) ++ xs, h8 with
  | [a, b, c, d, e, f, g, i], _ => exact ⟨a, b, c, d, e, f, g, i, rfl, by rw [← h]; exact hn⟩
end Go.Proofs.YtjplkmmhjfpdaaaGreatDoor
/- Contracts of Get and GetCoord, and of the document's answers to them. -/
namespace Go.Proofs.YtjplkmmhjfpdaaaGreatDoor
open Go.RowKit OctPlain
set_option linter.unusedVariables false
set_option linter.unusedSimpArgs false
set_option maxRecDepth 20000
theorem copy_cut {P : Program} (w : World) (dT sT ty elem : TypeId) (g o dLen dCap : Nat) (s : ByteArray) (xs : List UInt8) (cur : Array Value) (t : TypeId)
    (hu : P.underlying dT = some (.slice elem)) (hs : (P.info? elem).map (·.size) = some 1) (hg : w.heap[g]? = some (.cells cur t (0, 0))) (hx : s.data.toList.take dLen = xs) (hl : xs.length = dLen) (hfit : o + dLen ≤ cur.size) :
    (Builtin.copy_ #[dT, sT] ty #[.slice (some ⟨g, o, none⟩) dLen dCap, .string s]).run P w =
      .ok (goInt dLen) (w.setRow g (cur.toList.take o ++ Lib.byteCells xs ++ cur.toList.drop (o + dLen)).toArray) := by
  have hsz : dLen ≤ s.size := by
    have h1 := congrArg List.length hx
    rw [List.length_take, hl, Array.length_toList] at h1
    show dLen ≤ s.data.size
    omega
  have hlen : (Lib.byteCells xs).length = dLen := by rw [Lib.byteCells_length, hl]
  have hst := run_storeCells_at P g o t (Lib.byteCells xs) 0 cur w hg (by rw [hlen]; simpa using hfit) (Lib.byteCells_one _)
  have hmin : Nat.min s.size dLen = dLen := Nat.min_eq_right hsz
  have htk : List.take dLen (List.map (fun b : UInt8 => Value.int IntKind.u8 (b.toNat : Int)) s.data.toList) = Lib.byteCells xs := by
    rw [← List.map_take, hx]
    rfl
  rw [hlen] at hst
  simp only [Nat.add_zero] at hst
  cases hq : P.info? elem with
  | none => simp [hq] at hs
  | some i =>
    simp [Builtin.copy_, run_underlying hu, Builtin.lenOf, Builtin.firstCells, sizeOf, typeInfo, hq, hmin]
    rw [htk, hst]
    simp [Result.andThen]
theorem setRow_alloc (w : World) (cur Y : Array Value) (t : TypeId) : (w.alloc (.cells cur t)).setRow w.heap.size Y = w.alloc (.cells Y t) := by
  cases w with
  | mk heap tape drawn os output =>
    unfold World.setRow World.alloc
    congr 1
    apply Array.ext
    · simp
    · intro k h1 h2
      simp only [Array.getElem_modify, Array.getElem_push]
      simp at h1
      by_cases hk : k < heap.size
      · have : ¬ heap.size = k := by omega
        simp [hk, this]
      · have : heap.size = k := by omega
        simp [this]
theorem copy8 (w : World) (s : ByteArray) (p k : Nat) (hk : 1 ≤ k ∧ k ≤ 8) (hp : p + k ≤ s.size) (xs : List UInt8) (hx : cutL s p k = xs) :
    (Builtin.copy_ #[71, 9] 3 #[.slice (some ⟨w.heap.size, 8 - k, none⟩) k k, .string (s.extract p s.size)]).run Tryz.prog (w.alloc (.cells #[Value.int IntKind.u8 0, Value.int IntKind.u8 0, Value.int IntKind.u8 0, Value.int IntKind.u8 0,
          Value.int IntKind.u8 0, Value.int IntKind.u8 0, Value.int IntKind.u8 0, Value.int IntKind.u8 0] 161)) =
      .ok (goInt k) (w.alloc (.cells (List.replicate (8 - k) (Value.int IntKind.u8 0) ++ Lib.byteCells xs).toArray 161)) := by
  have hl : xs.length = k := by rw [← hx]; exact cutL_length _ _ _ hp
  have hg : (w.alloc (.cells #[Value.int IntKind.u8 0, Value.int IntKind.u8 0, Value.int IntKind.u8 0, Value.int IntKind.u8 0,
          Value.int IntKind.u8 0, Value.int IntKind.u8 0, Value.int IntKind.u8 0, Value.int IntKind.u8 0] 161)).heap[w.heap.size]? = some (.cells #[Value.int IntKind.u8 0, Value.int IntKind.u8 0, Value.int IntKind.u8 0, Value.int IntKind.u8 0,
          Value.int IntKind.u8 0, Value.int IntKind.u8 0, Value.int IntKind.u8 0, Value.int IntKind.u8 0] 161 (0, 0)) := heap_alloc_new w _
  rw [copy_cut (P := Tryz.prog) _ 71 9 3 5 w.heap.size (8 - k) k k (s.extract p s.size) xs _ 161 Tryz.underlying71 (by kernel_rfl) hg ?_ hl (by simp; omega)]
  · rw [setRow_alloc]
    congr 4
    have hk8 : k = 1 ∨ k = 2 ∨ k = 3 ∨ k = 4 ∨ k = 5 ∨ k = 6 ∨ k = 7 ∨ k = 8 := by omega
    rcases hk8 with rfl | rfl | rfl | rfl | rfl | rfl | rfl | rfl <;> simp
  · rw [Lib.extract_data, ← hx]
    unfold cutL
    rw [List.take_take]
    congr 1
    omega
theorem copy8d (w : World) (s : ByteArray) (p k : Nat) (hk : 1 ≤ k ∧ k ≤ 8) (hp : p + k ≤ s.size) (xs : List UInt8) (hx : cutL s p k = xs) :
    (Builtin.copy_ #[71, 9] 3 #[.slice (some ⟨w.heap.size, 8 - k, none⟩) k k, .string (s.extract p s.size)]).run Tryz.prog ((w.alloc (.cells #[Value.int IntKind.u8 0, Value.int IntKind.u8 0, Value.int IntKind.u8 0, Value.int IntKind.u8 0,
          Value.int IntKind.u8 0, Value.int IntKind.u8 0, Value.int IntKind.u8 0, Value.int IntKind.u8 0] 161)).drew) =
      .ok (goInt k) (w.alloc (.cells (List.replicate (8 - k) (Value.int IntKind.u8 0) ++ Lib.byteCells xs).toArray 161)).drew := copy8 w.drew s p k hk hp xs hx
theorem ret_ib {a b : Int} {p q : Bool} (h : a = b) (k : p = q) : Ending.returned (.tuple #[.int .i64 a, .bool p]) = .returned (.tuple #[.int .i64 b, .bool q]) := by rw [h, k]
theorem idx0 (y0 y1 y2 y3 y4 y5 y6 y7 : UInt8) (w : World) : (Instr.index 161 (.agg #[.int .u8 (y0.toNat : Int), .int .u8 (y1.toNat : Int), .int .u8 (y2.toNat : Int), .int .u8 (y3.toNat : Int), .int .u8 (y4.toNat : Int), .int .u8 (y5.toNat : Int), .int .u8 (y6.toNat : Int), .int .u8 (y7.toNat : Int)]) (.int .i64 0)).run Tryz.prog w = .ok (.int .u8 (y0.toNat : Int)) w := by kernel_rfl
theorem idx1 (y0 y1 y2 y3 y4 y5 y6 y7 : UInt8) (w : World) : (Instr.index 161 (.agg #[.int .u8 (y0.toNat : Int), .int .u8 (y1.toNat : Int), .int .u8 (y2.toNat : Int), .int .u8 (y3.toNat : Int), .int .u8 (y4.toNat : Int), .int .u8 (y5.toNat : Int), .int .u8 (y6.toNat : Int), .int .u8 (y7.toNat : Int)]) (.int .i64 1)).run Tryz.prog w = .ok (.int .u8 (y1.toNat : Int)) w := by kernel_rfl
theorem idx2 (y0 y1 y2 y3 y4 y5 y6 y7 : UInt8) (w : World) : (Instr.index 161 (.agg #[.int .u8 (y0.toNat : Int), .int .u8 (y1.toNat : Int), .int .u8 (y2.toNat : Int), .int .u8 (y3.toNat : Int), .int .u8 (y4.toNat : Int), .int .u8 (y5.toNat : Int), .int .u8 (y6.toNat : Int), .int .u8 (y7.toNat : Int)]) (.int .i64 2)).run Tryz.prog w = .ok (.int .u8 (y2.toNat : Int)) w := by kernel_rfl
theorem idx3 (y0 y1 y2 y3 y4 y5 y6 y7 : UInt8) (w : World) : (Instr.index 161 (.agg #[.int .u8 (y0.toNat : Int), .int .u8 (y1.toNat : Int), .int .u8 (y2.toNat : Int), .int .u8 (y3.toNat : Int), .int .u8 (y4.toNat : Int), .int .u8 (y5.toNat : Int), .int .u8 (y6.toNat : Int), .int .u8 (y7.toNat : Int)]) (.int .i64 3)).run Tryz.prog w = .ok (.int .u8 (y3.toNat : Int)) w := by kernel_rfl
theorem idx4 (y0 y1 y2 y3 y4 y5 y6 y7 : UInt8) (w : World) : (Instr.index 161 (.agg #[.int .u8 (y0.toNat : Int), .int .u8 (y1.toNat : Int), .int .u8 (y2.toNat : Int), .int .u8 (y3.toNat : Int), .int .u8 (y4.toNat : Int), .int .u8 (y5.toNat : Int), .int .u8 (y6.toNat : Int), .int .u8 (y7.toNat : Int)]) (.int .i64 4)).run Tryz.prog w = .ok (.int .u8 (y4.toNat : Int)) w := by kernel_rfl
theorem idx5 (y0 y1 y2 y3 y4 y5 y6 y7 : UInt8) (w : World) : (Instr.index 161 (.agg #[.int .u8 (y0.toNat : Int), .int .u8 (y1.toNat : Int), .int .u8 (y2.toNat : Int), .int .u8 (y3.toNat : Int), .int .u8 (y4.toNat : Int), .int .u8 (y5.toNat : Int), .int .u8 (y6.toNat : Int), .int .u8 (y7.toNat : Int)]) (.int .i64 5)).run Tryz.prog w = .ok (.int .u8 (y5.toNat : Int)) w := by kernel_rfl
theorem idx6 (y0 y1 y2 y3 y4 y5 y6 y7 : UInt8) (w : World) : (Instr.index 161 (.agg #[.int .u8 (y0.toNat : Int), .int .u8 (y1.toNat : Int), .int .u8 (y2.toNat : Int), .int .u8 (y3.toNat : Int), .int .u8 (y4.toNat : Int), .int .u8 (y5.toNat : Int), .int .u8 (y6.toNat : Int), .int .u8 (y7.toNat : Int)]) (.int .i64 6)).run Tryz.prog w = .ok (.int .u8 (y6.toNat : Int)) w := by kernel_rfl
theorem idx7 (y0 y1 y2 y3 y4 y5 y6 y7 : UInt8) (w : World) : (Instr.index 161 (.agg #[.int .u8 (y0.toNat : Int), .int .u8 (y1.toNat : Int), .int .u8 (y2.toNat : Int), .int .u8 (y3.toNat : Int), .int .u8 (y4.toNat : Int), .int .u8 (y5.toNat : Int), .int .u8 (y6.toNat : Int), .int .u8 (y7.toNat : Int)]) (.int .i64 7)).run Tryz.prog w = .ok (.int .u8 (y7.toNat : Int)) w := by kernel_rfl
theorem copy8y (w : World) (s : ByteArray) (p k : Nat) (hk : 1 ≤ k ∧ k ≤ 8) (hp : p + k ≤ s.size) {y0 y1 y2 y3 y4 y5 y6 y7 : UInt8} (hy : List.replicate (8 - k) 0 ++ cutL s p k = [y0, y1, y2, y3, y4, y5, y6, y7]) :
    (Builtin.copy_ #[71, 9] 3 #[.slice (some ⟨w.heap.size, 8 - k, none⟩) k k, .string (s.extract p s.size)]).run Tryz.prog ((w.alloc (.cells #[Value.int IntKind.u8 0, Value.int IntKind.u8 0, Value.int IntKind.u8 0, Value.int IntKind.u8 0,
          Value.int IntKind.u8 0, Value.int IntKind.u8 0, Value.int IntKind.u8 0, Value.int IntKind.u8 0] 161)).drew) =
      .ok (.int .i64 k) (w.alloc (.cells #[.int .u8 (y0.toNat : Int), .int .u8 (y1.toNat : Int), .int .u8 (y2.toNat : Int), .int .u8 (y3.toNat : Int), .int .u8 (y4.toNat : Int), .int .u8 (y5.toNat : Int), .int .u8 (y6.toNat : Int), .int .u8 (y7.toNat : Int)] 161)).drew := by
  rw [copy8d w s p k hk hp _ rfl]
  have e : (List.replicate (8 - k) (Value.int IntKind.u8 0) ++ Lib.byteCells (cutL s p k)).toArray = #[.int .u8 (y0.toNat : Int), .int .u8 (y1.toNat : Int), .int .u8 (y2.toNat : Int), .int .u8 (y3.toNat : Int), .int .u8 (y4.toNat : Int), .int .u8 (y5.toNat : Int), .int .u8 (y6.toNat : Int), .int .u8 (y7.toNat : Int)] := by
    have h := congrArg Lib.byteCells hy
    unfold Lib.byteCells at h ⊢
    rw [List.map_append, List.map_replicate] at h
    have h0 : ((0 : UInt8).toNat : Int) = 0 := rfl
    rw [h0] at h
    rw [h]
    rfl
  rw [e]
  rfl
set_option maxRecDepth 20000 in
set_option maxHeartbeats 4000000 in
theorem get_yes (s : ByteArray) (p k : Nat) (ha : I64 p) (hk8 : 1 ≤ k ∧ k ≤ 8) (hp : p + k ≤ s.size) (w : World) (hs : s.size ≤ 100000) :
    Calls Tryz.prog 102 #[.string s, .int .i64 p, .int .i64 k] w fun e w' => e = .returned (.tuple #[.int .i64 (getN s p k), .bool (getB s p k)]) ∧ Gr w w' := by
  obtain ⟨y0, y1, y2, y3, y4, y5, y6, y7, hy, hnum⟩ := pad8 (cutL s p k) k hk8.2 (cutL_length s p k hp)
  have hcp := copy8y w s p k hk8 hp hy
  have i0 := idx0 y0 y1 y2 y3 y4 y5 y6 y7
  have i1 := idx1 y0 y1 y2 y3 y4 y5 y6 y7
  have i2 := idx2 y0 y1 y2 y3 y4 y5 y6 y7
  have i3 := idx3 y0 y1 y2 y3 y4 y5 y6 y7
  have i4 := idx4 y0 y1 y2 y3 y4 y5 y6 y7
  have i5 := idx5 y0 y1 y2 y3 y4 y5 y6 y7
  have i6 := idx6 y0 y1 y2 y3 y4 y5 y6 y7
  have i7 := idx7 y0 y1 y2 y3 y4 y5 y6 y7
  obtain ⟨v1, o1⟩ : ∃ v, bits .or .i64 0 (wrap64 (y0.toNat : Int)) = v := ⟨_, rfl⟩
  obtain ⟨v2, o2⟩ : ∃ v, bits .or .i64 (wrap64 (v1 * 256)) (wrap64 (y1.toNat : Int)) = v := ⟨_, rfl⟩
  obtain ⟨v3, o3⟩ : ∃ v, bits .or .i64 (wrap64 (v2 * 256)) (wrap64 (y2.toNat : Int)) = v := ⟨_, rfl⟩
  obtain ⟨v4, o4⟩ : ∃ v, bits .or .i64 (wrap64 (v3 * 256)) (wrap64 (y3.toNat : Int)) = v := ⟨_, rfl⟩
  obtain ⟨v5, o5⟩ : ∃ v, bits .or .i64 (wrap64 (v4 * 256)) (wrap64 (y4.toNat : Int)) = v := ⟨_, rfl⟩
  obtain ⟨v6, o6⟩ : ∃ v, bits .or .i64 (wrap64 (v5 * 256)) (wrap64 (y5.toNat : Int)) = v := ⟨_, rfl⟩
  obtain ⟨v7, o7⟩ : ∃ v, bits .or .i64 (wrap64 (v6 * 256)) (wrap64 (y6.toNat : Int)) = v := ⟨_, rfl⟩
  obtain ⟨v8, o8⟩ : ∃ v, bits .or .i64 (wrap64 (v7 * 256)) (wrap64 (y7.toNat : Int)) = v := ⟨_, rfl⟩
  have hv := chain8 o1 o2 o3 o4 o5 o6 o7 o8
  rw [hnum] at hv
  have hlt := num_lt (cutL s p k)
  rw [cutL_length s p k hp] at hlt
  have hlt8 : num (cutL s p k) < 18446744073709551616 := Nat.lt_of_lt_of_le hlt (Nat.pow_le_pow_right (n := 256) (by omega) hk8.2)
  have hgB : getB s p k = decide (0 ≤ v8) := by
    rw [hv]
    unfold getB wrap64
    apply decide_eq_decide.2
    rw [Int.toNat_natCast, Int.toNat_natCast]
    omega
  have hgN : 0 ≤ v8 → getN s p k = v8 := by
    intro h0
    have : getB s p k = true := by rw [hgB]; simpa using h0
    unfold getN
    rw [if_pos this, Int.toNat_natCast, Int.toNat_natCast, hv]
    rw [hv] at h0
    unfold wrap64 at h0 ⊢
    omega
  have hgN0 : v8 < 0 → getN s p k = 0 := by
    intro h0
    have : getB s p k = false := by rw [hgB]; simp; omega
    unfold getN
    rw [this]; rfl
  have hh := Lib.hid (And.intro hgB (And.intro hgN hgN0))
  clear hv hlt hlt8 hgB hgN hgN0 hy hnum
  have hs' : (s.size : Int) ≤ 100000 := by omega
  clear hs
  have hm : k = 1 ∨ k = 2 ∨ k = 3 ∨ k = 4 ∨ k = 5 ∨ k = 6 ∨ k = 7 ∨ k = 8 := by omega
  by_cases hneg : v8 < 0
  · rcases hm with rfl | rfl | rfl | rfl | rfl | rfl | rfl | rfl
    all_goals
      go_enter Tryz.func102, Tryz.ntmps102
      go_wp2_with fail
      refine (sized_c _ (by unfold I64; omega) _).mono ?_
      rintro e u ⟨rfl, rfl⟩
      go_wp2
      go_region
      go_wp2_with fail
      go_rounds 9
      go_ret2
      exact ⟨ret_ib (hh.out.2.2 hneg).symm (by rw [hh.out.1]; simp; omega), Gr.of (by go_grown)⟩
  · rcases hm with rfl | rfl | rfl | rfl | rfl | rfl | rfl | rfl
    all_goals
      go_enter Tryz.func102, Tryz.ntmps102
      go_wp2_with fail
      refine (sized_c _ (by unfold I64; omega) _).mono ?_
      rintro e u ⟨rfl, rfl⟩
      go_wp2
      go_region
      go_wp2_with fail
      go_rounds 9
      go_ret2
      exact ⟨ret_ib (hh.out.2.1 (by omega)).symm (by rw [hh.out.1]; simp; omega), Gr.of (by go_grown)⟩
end Go.Proofs.YtjplkmmhjfpdaaaGreatDoor
/- Contracts of the document's Get. -/
namespace Go.Proofs.YtjplkmmhjfpdaaaGreatDoor
open Go.RowKit OctPlain
set_option linter.unusedVariables false
set_option linter.unusedSimpArgs false
set_option maxRecDepth 20000
end Go.Proofs.YtjplkmmhjfpdaaaGreatDoor
/- Contracts of Get in every case, and of GetCoord on both sides. -/
namespace Go.Proofs.YtjplkmmhjfpdaaaGreatDoor
open Go.RowKit OctPlain
set_option linter.unusedVariables false
set_option linter.unusedSimpArgs false
set_option maxRecDepth 20000
set_option maxHeartbeats 1000000 in
theorem get_no (s : ByteArray) (a k : Int) (ha : I64 a) (hk : I64 k) (w : World) (hs : s.size ≤ 100000) (h : ¬ ((1 ≤ k ∧ k ≤ 8) ∧ 0 ≤ a ∧ a + k ≤ s.size)) :
    Calls Tryz.prog 102 #[.string s, .int .i64 a, .int .i64 k] w fun e w' => e = .returned (.tuple #[.int .i64 (getN s a k), .bool (getB s a k)]) ∧ w = w' := by
  have hk' := hk
  unfold I64 at ha hk'
  have hb : getB s a k = false := getB_no h
  have hn : getN s a k = 0 := getN_no hb
  by_cases k1 : 1 ≤ k ∧ k ≤ 8
  · have hd : decide (1 ≤ k ∧ k ≤ 8) = true := by simpa using k1
    by_cases k3 : a < 0
    · go_enter Tryz.func102, Tryz.ntmps102
      go_wp2_with fail
      refine (sized_c _ hk _).mono ?_
      rintro e u ⟨rfl, rfl⟩
      go_wp2_with fail
      go_ret2
      first | exact ⟨rfl, rfl⟩ | exact ⟨ret_ib hn.symm hb.symm, rfl⟩
    · have k5 : (s.size : Int) - k < a := by omega
      go_enter Tryz.func102, Tryz.ntmps102
      go_wp2_with fail
      refine (sized_c _ hk _).mono ?_
      rintro e u ⟨rfl, rfl⟩
      go_wp2_with fail
      go_ret2
      first | exact ⟨rfl, rfl⟩ | exact ⟨ret_ib hn.symm hb.symm, rfl⟩
  · have hd : decide (1 ≤ k ∧ k ≤ 8) = false := by simpa using k1
    go_enter Tryz.func102, Tryz.ntmps102
    go_wp2_with fail
    refine (sized_c _ hk _).mono ?_
    rintro e u ⟨rfl, rfl⟩
    go_wp2_with fail
    go_ret2
    first | exact ⟨rfl, rfl⟩ | exact ⟨ret_ib hn.symm hb.symm, rfl⟩
theorem get_c (s : ByteArray) (a k : Int) (ha : I64 a) (hk : I64 k) (w : World) (hs : s.size ≤ 100000) :
    Calls Tryz.prog 102 #[.string s, .int .i64 a, .int .i64 k] w fun e w' => e = .returned (.tuple #[.int .i64 (getN s a k), .bool (getB s a k)]) ∧ Gr w w' := by
  by_cases h : (1 ≤ k ∧ k ≤ 8) ∧ 0 ≤ a ∧ a + k ≤ s.size
  · obtain ⟨p, rfl⟩ : ∃ p : Nat, a = p := ⟨a.toNat, by omega⟩
    obtain ⟨q, rfl⟩ : ∃ q : Nat, k = q := ⟨k.toNat, by omega⟩
    exact get_yes s p q ha (by omega) (by omega) w hs
  · exact (get_no s a k ha hk w hs h).mono (fun e w' hh => ⟨hh.1, hh.2 ▸ Gr.refl _⟩)
end Go.Proofs.YtjplkmmhjfpdaaaGreatDoor

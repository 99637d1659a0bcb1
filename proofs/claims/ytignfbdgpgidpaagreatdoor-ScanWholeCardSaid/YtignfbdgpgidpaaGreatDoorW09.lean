/- In one text: FrameGet, FrameAwake, CrcTurnPlain, CrcTurned, CrcBack, FrameEnd2. -/
import Derived.Test.YtignfbdgpgidpaaGreatDoorW08
import Derived.Test.YtignfbdgpgidpaaGreatDoorW07
import Derived.Test.YtignfbdgpgidpaaGreatDoorW06
import Derived.Test.YtignfbdgpgidpaaGreatDoorW05
import Derived.Deep.RegionHeld3
import Derived.BigRegion
import Derived.Lib.ConvBytes
import Derived.KernelRfl
/- The contracts of what cuts bytes into records, and of Get. -/
namespace Go.Proofs.YtignfbdgpgidpaaGreatDoor
open Go.RowKit CrcPlain OctPlain FramePlain
set_option linter.unusedVariables false
set_option linter.unusedSimpArgs false
set_option maxRecDepth 20000
theorem cutter_c (size : Int) (w : World) :
    Calls Tryz.prog 190 #[.int .i64 size] w fun e w' => e = .returned (.func (.func 201) #[] #[.pointer (some ⟨w.heap.size, 0, none⟩)]) ∧ w' = w.alloc (.cells #[.int .i64 size] 3) := by
  have hmf : ∀ (fn : Fn) (first cap : Array Value) (w : World), (Instr.makeFunc fn first cap).run Tryz.prog w = .ok (.func fn first cap) w := fun _ _ _ _ => rfl
  go_enter Tryz.func190, Tryz.ntmps190
  go_wp2
  go_ret
  exact ⟨rfl, rfl⟩
theorem cut1_c (s : ByteArray) (k : Int) (hk : I64 k) (B : Nat) (w : World) (hs : s.size ≤ 1000) (hp : w.cell? ⟨B, 0, none⟩ = some (.int .i64 k)) :
    Calls Tryz.prog 201 #[.string s, .pointer (some ⟨B, 0, none⟩)] w fun e w' => ∃ v, e = .returned (.tuple #[v, .bool (splB s k)]) ∧ w'.ownsRow w.heap.size 9 1 v (splL s k).length (strs (splL s k)) ∧ Gr w w' := by
  go_enter Tryz.func201, Tryz.ntmps201
  go_wp2_with fail
  refine (split_c s k hk _ hs).mono ?_; rintro e u ⟨v, rfl, o, g⟩
  have O := Lib.hid o
  clear o
  go_wp2_with fail
  go_ret2
  exact ⟨v, rfl, O.out, g⟩
theorem fget_none (s : ByteArray) (size : Int) (hk : I64 size) (w : World) (hs : s.size ≤ 100000) (h : sizeB size = false ∨ ¬ (1 ≤ cntN s ∧ cntN s ≤ 4)) :
    Calls Tryz.prog 165 #[.int .i64 size, .string s] w (FGot size s w) := by
  have hno : gB size s = false := by
    unfold gB
    rcases h with h | h
    · rw [h]; rfl
    · rw [decide_eq_false h, Bool.and_false, Bool.false_and, Bool.false_and]
  have HP := Lib.hid hno
  have G := fun w => get_c s 0 1 (by unfold I64; omega) (by unfold I64; omega) w hs
  rw [getN_cnt] at G
  have hlt := cntN_lt s
  generalize getB s 0 1 = bb at G
  generalize cntN s = c at G h hlt
  clear hno
  cases hsz : sizeB size
  · clear h
    go_enter Tryz.func165, Tryz.ntmps165
    go_wp2_with fail
    refine (G _).mono ?_; rintro e u ⟨rfl, g⟩
    go_wp2_with fail
    refine (fsized_c size hk _).mono ?_; rintro e u ⟨rfl, rfl⟩
    go_wp2_with fail
    go_ret3
    exact fgot_no HP.out g
  · rw [hsz] at h
    have h4 : decide (1 ≤ (c : Int) ∧ (c : Int) ≤ 4) = false := by rw [decide_eq_false_iff_not]; rcases h with h | h; cases h; omega
    clear h
    go_enter Tryz.func165, Tryz.ntmps165
    go_wp2_with fail
    refine (G _).mono ?_; rintro e u ⟨rfl, g⟩
    go_wp2_with fail
    refine (fsized_c size hk _).mono ?_; rintro e u ⟨rfl, rfl⟩
    go_wp2_with fail
    refine (fblock_c c (by unfold I64; omega) _).mono ?_; rintro e u ⟨rfl, rfl⟩
    go_wp2_with fail
    go_ret3
    exact fgot_no HP.out g
theorem slice_to (s : ByteArray) (n : Nat) (h : n ≤ s.size) (w : World) :
    (Instr.slice 9 (.string s) none (some (.int .i64 (n : Int))) none).run Tryz.prog w = .ok (.string (s.extract 0 n)) w := by
  rw [run_slice_string_to_if w 9 s .i64 (n : Int) Tryz.underlying9, if_pos ⟨by omega, by omega⟩, Int.toNat_natCast]
theorem slice_1 (s : ByteArray) (h : 1 ≤ s.size) (w : World) :
    (Instr.slice 9 (.string s) (some (.int .i64 1)) none none).run Tryz.prog w = .ok (.string (s.extract 1 s.size)) w := by
  rw [run_slice_string_from_if w 9 s .i64 1 Tryz.underlying9, if_pos ⟨by omega, by omega⟩]
  rfl
theorem gLen_nat {size : Int} {s : ByteArray} (hs : 1 ≤ size ∧ size ≤ 64) (hc : 1 ≤ cntN s ∧ cntN s ≤ 4) : ∃ n : Nat, gLen size s = n ∧ 6 ≤ n ∧ n ≤ 261 := by
  obtain ⟨m, rfl⟩ : ∃ m : Nat, size = m := ⟨size.toNat, by omega⟩
  unfold gLen
  refine ⟨5 + cntN s * m, by rw [Int.natCast_add, Int.natCast_mul]; rfl, ?_⟩
  generalize cntN s = c at hc
  have h1 : c = 1 ∨ c = 2 ∨ c = 3 ∨ c = 4 := by omega
  rcases h1 with rfl | rfl | rfl | rfl <;> omega
set_option maxHeartbeats 1000000 in
theorem fget_some (s : ByteArray) (size : Int) (hk : I64 size) (w : World) (hs : s.size ≤ 100000) (h1 : sizeB size = true) (h2 : 1 ≤ cntN s ∧ cntN s ≤ 4) :
    Calls Tryz.prog 165 #[.int .i64 size, .string s] w (FGot size s w) := by
  have h1' := h1
  simp only [sizeB, decide_eq_true_eq] at h1'
  obtain ⟨n, hn, hn6, hn261⟩ := gLen_nat h1' h2
  have G := fun w => get_c s 0 1 (by unfold I64; omega) (by unfold I64; omega) w hs
  rw [getN_cnt] at G
  have hgB : gB size s = (decide ((n : Int) ≤ s.size) && opB (s.extract 0 n)) := by
    unfold gB
    rw [h1, hn, decide_eq_true h2, Int.toNat_natCast]
    rfl
  have h4 : decide (1 ≤ (cntN s : Int) ∧ (cntN s : Int) ≤ 4) = true := by rw [decide_eq_true_iff]; omega
  have R := fun w => fsroom_c size (cntN s) (cntN s * size) h1' (by omega) rfl w
  have e5 : 5 + (cntN s : Int) * size = n := hn
  rw [e5] at R
  generalize getB s 0 1 = bb at G
  by_cases hlen : (s.size : Int) < n
  · have hno : gB size s = false := by rw [hgB]; rw [decide_eq_false (by omega)]; rfl
    have HP := Lib.hid hno
    generalize cntN s = c at G R h2 h4
    clear hno hgB hn e5 h1'
    go_enter Tryz.func165, Tryz.ntmps165
    go_wp2_with fail
    refine (G _).mono ?_; rintro e u ⟨rfl, g⟩
    go_wp2_with fail
    refine (fsized_c size hk _).mono ?_; rintro e u ⟨rfl, rfl⟩
    go_wp2_with fail
    refine (fblock_c c (by unfold I64; omega) _).mono ?_; rintro e u ⟨rfl, rfl⟩
    go_wp2_with fail
    refine (R _).mono ?_; rintro e u ⟨rfl, rfl⟩
    go_wp2_with fail
    go_ret3
    exact fgot_no HP.out g
  · have hle : n ≤ s.size := by omega
    have hxs : (s.extract 0 n).size = n := by rw [ByteArray.size_extract]; omega
    have hsl := slice_to s n hle
    have O := fun w => open_c (s.extract 0 n) (by omega) w
    cases hop : opB (s.extract 0 n)
    · have hno : gB size s = false := by rw [hgB, hop, Bool.and_false]
      have HP := Lib.hid hno
      rw [hop, opS_no hop] at O
      generalize cntN s = c at G R h2 h4
      clear hno hgB hn e5 h1' hop
      go_enter Tryz.func165, Tryz.ntmps165
      go_wp2_with fail
      refine (G _).mono ?_; rintro e u ⟨rfl, g⟩
      go_wp2_with fail
      refine (fsized_c size hk _).mono ?_; rintro e u ⟨rfl, rfl⟩
      go_wp2_with fail
      refine (fblock_c c (by unfold I64; omega) _).mono ?_; rintro e u ⟨rfl, rfl⟩
      go_wp2_with fail
      refine (R _).mono ?_; rintro e u ⟨rfl, rfl⟩
      go_wp2_with fail
      refine (O _).mono ?_; rintro e u2 ⟨rfl, g2⟩
      go_wp2_with fail
      go_ret3
      exact fgot_no HP.out (g.trans g2)
    · have hyes : gB size s = true := by rw [hgB, hop, decide_eq_true (by omega)]; rfl
      have hN := gN_yes hyes
      rw [hn] at hN
      have hbody : gBody size s = (opS (s.extract 0 n)).extract 1 (opS (s.extract 0 n)).size := by unfold gBody; rw [hn, Int.toNat_natCast]
      have hos : (opS (s.extract 0 n)).size = n - 4 := by rw [opS_yes hop, ahead_size _ (by omega), hxs]
      rw [hop] at O
      generalize opS (s.extract 0 n) = t at O hbody hos
      have hbz : (gBody size s).size ≤ 1000 := by rw [hbody, ByteArray.size_extract]; omega
      have C := fun B w hp => cut1_c (gBody size s) size hk B w hbz hp
      rw [hbody] at C
      have hs1 := slice_1 t (by omega)
      have HP := Lib.hid hyes
      have HN := Lib.hid hN
      have HB := Lib.hid hbody
      generalize cntN s = c at G R h2 h4
      clear hyes hgB hn e5 h1' hop hN hbody hos hbz hxs
      go_enter Tryz.func165, Tryz.ntmps165
      go_wp2_with fail
      refine (G _).mono ?_; rintro e u ⟨rfl, g⟩
      go_wp2_with fail
      refine (fsized_c size hk _).mono ?_; rintro e u ⟨rfl, rfl⟩
      go_wp2_with fail
      refine (fblock_c c (by unfold I64; omega) _).mono ?_; rintro e u ⟨rfl, rfl⟩
      go_wp2_with fail
      refine (R _).mono ?_; rintro e u ⟨rfl, rfl⟩
      go_wp2_with fail
      refine (O _).mono ?_; rintro e u2 ⟨rfl, g2⟩
      go_wp2_with fail
      refine (cutter_c size _).mono ?_; rintro e u3 ⟨rfl, rfl⟩
      obtain ⟨W, hW⟩ : ∃ W, W = u2.alloc (.cells #[.int .i64 size] 3) := ⟨_, rfl⟩
      have hg : Gr u2 W := by rw [hW]; exact Below.alloc (Below.refl _ _) (Nat.le_refl _) _
      have hcell : W.cell? ⟨u2.heap.size, 0, none⟩ = some (.int .i64 size) := by rw [hW, World.cell?_alloc_mark]; rfl
      rw [← hW]
      have CC := C _ W hcell
      clear hW hcell C
      go_wp2_with fail
      refine CC.mono ?_; rintro e u4 ⟨v, rfl, o, g4⟩
      have OO := Lib.hid o
      clear o
      go_wp2_with fail
      go_ret3
      have ow := OO.out
      rw [← HB.out] at ow
      have g3 := (g.trans g2).trans hg
      exact fgot_yes HP.out HN.out ⟨_, g3.size, ow⟩ (g3.trans g4)
theorem fget_c (s : ByteArray) (size : Int) (hk : I64 size) (w : World) (hs : s.size ≤ 100000) :
    Calls Tryz.prog 165 #[.int .i64 size, .string s] w (FGot size s w) := by
  by_cases h : sizeB size = true ∧ 1 ≤ cntN s ∧ cntN s ≤ 4
  · exact fget_some s size hk w hs h.1 h.2
  · refine fget_none s size hk w hs ?_
    cases hb : sizeB size
    · exact .inl rfl
    · exact .inr fun hc => h ⟨hb, hc⟩
end Go.Proofs.YtignfbdgpgidpaaGreatDoor
/- Put of whatever slice; the law's 'few'; the chapter's example. -/
namespace Go.Proofs.YtignfbdgpgidpaaGreatDoor
open Go.RowKit CrcPlain OctPlain FramePlain
set_option linter.unusedVariables false
set_option linter.unusedSimpArgs false
set_option maxRecDepth 20000
theorem rfput_c {w : World} {v : Value} {l : List ByteArray} (h : Lies w v l) (size : Int) (hk : I64 size) (hl : l.length ≤ 1000000) :
    Calls Tryz.prog 73 #[.int .i64 size, v] w fun e w' => e = .returned (.tuple #[.string (blkS size l), .bool (blkB size l)]) ∧ Gr w w' := by
  obtain ⟨a, c, rfl, hc, h⟩ := h
  by_cases hs : sizeB size = true ∧ 1 ≤ l.length ∧ l.length ≤ 4
  · rcases h with rfl | ⟨b, off, rfl, hr⟩
    · simp at hs
    · cases ha : allB size l
      · exact (rfput_mid b off c l.length l rfl size hk w hr hs.1 hs.2 ha).mono fun e w' ⟨h1, h2⟩ => ⟨h1, h2 ▸ Gr.refl _⟩
      · exact rfput_yes b off c l.length l rfl size hk w hr hs.1 hs.2 ha
  · refine (rfput_no a c l.length l rfl size hk w ?_).mono fun e w' ⟨h1, h2⟩ => ⟨h1, h2 ▸ Gr.refl _⟩
    cases hb : sizeB size
    · exact .inl rfl
    · exact .inr fun h4 => hs ⟨hb, h4⟩
end Go.Proofs.YtignfbdgpgidpaaGreatDoor
/- Plain facts on bytes of which bits are turned, without the model. -/
namespace Go.Proofs.YtignfbdgpgidpaaGreatDoor
namespace CrcPlain
theorem mul_xor (k a b : Nat) : 2 ^ k * (a ^^^ b) = 2 ^ k * a ^^^ 2 ^ k * b := by
  apply Nat.eq_of_testBit_eq
  intro i
  rw [Nat.testBit_xor, Nat.testBit_two_pow_mul, Nat.testBit_two_pow_mul, Nat.testBit_two_pow_mul, Nat.testBit_xor]
  cases decide (i ≥ k) <;> simp
theorem le_cons (b : UInt8) (l : List UInt8) : le (b :: l) = b.toNat ^^^ 2 ^ 8 * le l := by
  have := add_xor 8 (b := b.toNat) b.toNat_lt (le l)
  rw [← this]; rfl
theorem le_set : ∀ (l : List UInt8) (i : Nat) (x : Nat) (b c : UInt8), l[i]? = some b → c.toNat = b.toNat ^^^ x → le (l.set i c) = le l ^^^ 2 ^ (8 * i) * x
  | [], i, x, b, c, h, _ => by simp at h
  | a :: l, 0, x, b, c, h, hc => by
    simp at h
    subst h
    rw [List.set_cons_zero, le_cons, le_cons, hc]
    simp only [Nat.mul_zero, Nat.pow_zero, Nat.one_mul]
    rw [Nat.xor_assoc, Nat.xor_assoc, Nat.xor_comm x]
  | a :: l, i + 1, x, b, c, h, hc => by
    have ih := le_set l i x b c (by simpa using h) hc
    rw [List.set_cons_succ, le_cons, le_cons, ih, mul_xor, Nat.xor_assoc]
    congr 2
    rw [← Nat.mul_assoc, ← Nat.pow_add]
    congr 2
    omega
theorem le_lt : ∀ l : List UInt8, le l < 2 ^ (8 * l.length)
  | [] => by simp [le]
  | b :: l => by
    have ih := le_lt l
    have hb := b.toNat_lt
    have e : 8 * (b :: l).length = 8 * l.length + 8 := by rw [List.length_cons]; omega
    rw [e, Nat.pow_add]
    show b.toNat + 256 * le l < _
    omega
theorem le_inj : ∀ {a b : List UInt8}, a.length = b.length → le a = le b → a = b
  | [], [], _, _ => rfl
  | x :: a, y :: b, hl, h => by
    have hx := x.toNat_lt
    have hy := y.toNat_lt
    have h' : x.toNat + 256 * le a = y.toNat + 256 * le b := h
    have h1 : x = y := UInt8.toNat_inj.1 (by omega)
    have h2 := le_inj (a := a) (b := b) (by simpa using hl) (by omega)
    rw [h1, h2]
theorem low_next (b k : Nat) (h : b / 2 ^ k % 2 = 1) : b % 2 ^ (k + 1) = b % 2 ^ k ^^^ 2 ^ k := by
  have hm := Nat.mod_pow_succ (x := b) (b := 2) (k := k)
  rw [hm, h, add_xor k (Nat.mod_lt _ (Nat.pow_pos (by decide)))]
  rw [Nat.mul_one]
theorem low_same (b k : Nat) (h : b / 2 ^ k % 2 = 0) : b % 2 ^ (k + 1) = b % 2 ^ k := by
  have hm := Nat.mod_pow_succ (x := b) (b := 2) (k := k)
  rw [hm, h, Nat.mul_zero, Nat.add_zero]
theorem low_pos (b k : Nat) (h : b / 2 ^ k % 2 = 1) : b % 2 ^ (k + 1) ≠ 0 := by
  have hm := Nat.mod_pow_succ (x := b) (b := 2) (k := k)
  have hp : 0 < 2 ^ k := Nat.pow_pos (by decide)
  rw [hm, h, Nat.mul_one]
  omega
def Turn (l l' : List UInt8) (first w : Nat) : Prop := l'.length = l.length ∧ le l' = le l ^^^ 2 ^ first * w
theorem Turn.start (l : List UInt8) (first b : Nat) : Turn l l first (b % 2 ^ 0) := by
  refine ⟨rfl, ?_⟩
  have : b % 2 ^ 0 = 0 := by rw [Nat.pow_zero]; omega
  rw [this, Nat.mul_zero, Nat.xor_zero]
theorem Turn.on {l l' : List UInt8} {first b k : Nat} (h : Turn l l' first (b % 2 ^ k)) (hb : b / 2 ^ k % 2 = 1) {x c : UInt8} (hx : l'[(first + k) / 8]? = some x) (hc : c.toNat = x.toNat ^^^ 2 ^ ((first + k) % 8)) :
    Turn l (l'.set ((first + k) / 8) c) first (b % 2 ^ (k + 1)) := by
  refine ⟨by rw [List.length_set]; exact h.1, ?_⟩
  rw [le_set l' _ _ _ _ hx hc, h.2, low_next b k hb, mul_xor, Nat.xor_assoc, ← Nat.pow_add, ← Nat.pow_add]
  congr 3
  omega
theorem Turn.off {l l' : List UInt8} {first b k : Nat} (h : Turn l l' first (b % 2 ^ k)) (hb : b / 2 ^ k % 2 = 0) : Turn l l' first (b % 2 ^ (k + 1)) := by
  rw [low_same b k hb]; exact h
theorem Turn.zero {l l' : List UInt8} {first : Nat} (h : Turn l l' first 0) : l' = l := by
  apply le_inj h.1
  rw [h.2, Nat.mul_zero, Nat.xor_zero]
theorem Turn.apart {l l' : List UInt8} {first w : Nat} (h : Turn l l' first w) (hw : w < 4294967296) (hw0 : w ≠ 0) (hf : first ≤ 8 * l.length) (r : Nat) : reg r l' ≠ reg r l := by
  refine reg_apart h.1 hw hw0 (by rw [h.1]; exact hf) ?_
  rw [h.2, Nat.xor_comm (le l), Nat.xor_assoc, Nat.xor_self, Nat.xor_zero]
end CrcPlain
end Go.Proofs.YtignfbdgpgidpaaGreatDoor
/- The contract of the document's own turning of bits: by a walk of its text. -/
namespace Go.Proofs.YtignfbdgpgidpaaGreatDoor
open Go.RowKit CrcPlain
set_option linter.unusedVariables false
set_option linter.unusedSimpArgs false
set_option maxRecDepth 20000
theorem bit_is (b k : Nat) (hb : b < 4294967296) (h : b / 2 ^ k % 2 = 1) : bits .and .u32 ((b : Int) / 2 ^ k) 1 = 1 := by
  have hd : b / 2 ^ k < 4294967296 := Nat.lt_of_le_of_lt (Nat.div_le_self _ _) hb
  have e := u32_and_nat (b / 2 ^ k) 1 hd (by decide)
  rw [Nat.and_two_pow_sub_one_eq_mod _ 1, Nat.pow_one, h, Int.natCast_ediv, Int.natCast_pow] at e
  exact e
theorem bit_not (b k : Nat) (hb : b < 4294967296) (h : b / 2 ^ k % 2 = 0) : bits .and .u32 ((b : Int) / 2 ^ k) 1 = 0 := by
  have hd : b / 2 ^ k < 4294967296 := Nat.lt_of_le_of_lt (Nat.div_le_self _ _) hb
  have e := u32_and_nat (b / 2 ^ k) 1 hd (by decide)
  rw [Nat.and_two_pow_sub_one_eq_mod _ 1, Nat.pow_one, h, Int.natCast_ediv, Int.natCast_pow] at e
  exact e
theorem shl_at {j : Nat} (hj : j < 8) : IntKind.u8.wrap ((2 : Int) ^ j) = ((2 ^ j : Nat) : Int) := by
  have : j = 0 ∨ j = 1 ∨ j = 2 ∨ j = 3 ∨ j = 4 ∨ j = 5 ∨ j = 6 ∨ j = 7 := by omega
  rcases this with rfl | rfl | rfl | rfl | rfl | rfl | rfl | rfl <;> rfl
end Go.Proofs.YtignfbdgpgidpaaGreatDoor
/- Plain facts: what is closed is opened again; with bits turned nothing is opened. -/
namespace Go.Proofs.YtignfbdgpgidpaaGreatDoor
open Go.RowKit CrcPlain
set_option linter.unusedVariables false
set_option linter.unusedSimpArgs false
set_option maxRecDepth 20000
theorem opB_reg {x : ByteArray} (h : opB x = true) : reg 4294967295 x.data.toList = sts 32 4294967295 := by
  have h4 : 4 ≤ x.size := by unfold opB at h; rw [decide_eq_true_iff] at h; exact h.1
  have hc := (cl_is x h4).2 h
  have e : x.data.toList = (ahead x).data.toList ++ tl (more 0 (ahead x).data.toList) := by
    have := congrArg (fun s => s.data.toList) hc
    rw [← this]
    simp [cl, bs, ByteArray.data_append]
  rw [e]
  exact reg_closed _
theorem ahead_cl (s : ByteArray) : ahead (cl s) = s := by
  unfold ahead
  rw [cl_size]
  unfold cl
  apply ByteArray.ext
  apply Array.toList_inj.1
  have : s.size + 4 - 4 = s.size := by omega
  rw [this]
  simp [ByteArray.data_append]
  exact List.take_of_length_le (by simp)
theorem op_cl (s : ByteArray) : opB (cl s) = true ∧ opS (cl s) = s := by
  have h : opB (cl s) = true := (cl_is (cl s) (by rw [cl_size]; omega)).1 (by rw [ahead_cl])
  exact ⟨h, by rw [opS_yes h, ahead_cl]⟩
theorem op_turned {s : ByteArray} {l : List UInt8} {first v : Nat} (h : Turn (cl s).data.toList l first v) (hf : first < 8 * (cl s).size) (hv : v < 4294967296) (h0 : v ≠ 0) : opB (bs l) = false := by
  cases hb : opB (bs l)
  · rfl
  · exfalso
    have h1 := opB_reg hb
    have h2 := opB_reg (op_cl s).1
    have hl : (cl s).data.toList.length = (cl s).size := by simp
    exact h.apart hv h0 (by rw [hl]; omega) 4294967295 (h1.trans h2.symm)
end Go.Proofs.YtignfbdgpgidpaaGreatDoor
/- Plain facts on what the bytes of an end say. -/
namespace Go.Proofs.YtignfbdgpgidpaaGreatDoor
open Go.RowKit CrcPlain OctPlain FramePlain
set_option linter.unusedVariables false
set_option linter.unusedSimpArgs false
set_option maxRecDepth 20000
namespace FramePlain
def eB (s : ByteArray) : Bool := decide (s.size = 17) && decide (cntN s = 0) && opB s && (getB s 1 8 && decide (getN s 1 8 ≤ 4611686018427387904))
def eC (s : ByteArray) : Int := if eB s = true then getN s 1 8 else 0
def eM (s : ByteArray) : Int := if eB s = true then getN s 9 4 else 0
theorem eC_no {s : ByteArray} (h : eB s = false) : eC s = 0 := by simp [eC, h]
theorem eM_no {s : ByteArray} (h : eB s = false) : eM s = 0 := by simp [eM, h]
theorem eC_yes {s : ByteArray} (h : eB s = true) : eC s = getN s 1 8 := by simp [eC, h]
theorem eM_yes {s : ByteArray} (h : eB s = true) : eM s = getN s 9 4 := by simp [eM, h]
theorem ahead_data (s : ByteArray) : (ahead s).data.toList = s.data.toList.take (s.size - 4) := by
  unfold ahead
  simp [ByteArray.data_extract]
theorem cutL_ahead (s : ByteArray) (a k : Nat) (h : a + k ≤ s.size - 4) : cutL (ahead s) a k = cutL s a k := by
  unfold cutL
  rw [ahead_data, List.drop_take, List.take_take, Nat.min_eq_left (by omega)]
theorem get_ahead (s : ByteArray) (a k : Nat) (h : a + k ≤ s.size - 4) (h4 : 4 ≤ s.size) : getB (ahead s) a k = getB s a k ∧ getN (ahead s) a k = getN s a k := by
  have hc := cutL_ahead s a k h
  have hz := ahead_size s h4
  have hb : getB (ahead s) a k = getB s a k := by
    unfold getB
    rw [Int.toNat_natCast, Int.toNat_natCast, hc, hz]
    apply decide_eq_decide.2
    constructor <;> intro hh <;> refine ⟨hh.1, hh.2.1, by omega, hh.2.2.2⟩
  refine ⟨hb, ?_⟩
  unfold getN
  rw [hb, Int.toNat_natCast, Int.toNat_natCast, hc]
theorem beL_num : ∀ l : List UInt8, beL l.length (num l) = l := by
  intro l
  generalize hk : l.length = k
  induction k generalizing l with
  | zero => rw [List.eq_nil_of_length_eq_zero hk]; rfl
  | succ k ih =>
    obtain ⟨a, b, rfl⟩ : ∃ a b, l = a ++ [b] := ⟨l.dropLast, l.getLast (by intro h; rw [h] at hk; simp at hk), (List.dropLast_concat_getLast _).symm⟩
    rw [List.length_append, List.length_singleton] at hk
    have hb := b.toNat_lt
    have h1 : num (a ++ [b]) / 256 = num a := by rw [num_snoc]; omega
    have h2 : num (a ++ [b]) % 256 = b.toNat := by rw [num_snoc]; omega
    rw [beL, h1, h2, ih a (by omega)]
    simp
theorem get4_lt (s : ByteArray) (h : 13 ≤ s.size) : ∃ m : Nat, m < 4294967296 ∧ getN s 9 4 = m ∧ m = num (cutL s 9 4) ∧ getB s 9 4 = true := by
  have hl := cutL_length s 9 4 (by omega)
  have hlt := num_lt (cutL s 9 4)
  rw [hl] at hlt
  have hb : getB s (9 : Nat) (4 : Nat) = true := getB_yes (by omega) (by omega) (by omega)
  exact ⟨_, hlt, getN_yes hb, rfl, hb⟩
theorem get8_yes {s : ByteArray} (h : getB s 1 8 = true) : ∃ n : Nat, getN s 1 8 = n ∧ n = num (cutL s 1 8) := ⟨_, getN_yes (p := 1) (k := 8) h, rfl⟩
theorem ahead_end (s : ByteArray) (hz : s.size = 17) (h0 : cntN s = 0) : endS (num (cutL s 1 8)) (num (cutL s 9 4)) = ahead s := by
  have l0 := cutL_length s 0 1 (by omega)
  have l1 := cutL_length s 1 8 (by omega)
  have l2 := cutL_length s 9 4 (by omega)
  have b0 := beL_num (cutL s 0 1)
  have b1 := beL_num (cutL s 1 8)
  have b2 := beL_num (cutL s 9 4)
  rw [l0] at b0; rw [l1] at b1; rw [l2] at b2
  have hd := ahead_data s
  have e0 : cutL s 0 1 = [0] := by
    rw [← b0]
    unfold cntN at h0
    rw [h0]; rfl
  have hcat : cutL s 0 1 ++ (cutL s 1 8 ++ cutL s 9 4) = s.data.toList.take 13 := by
    unfold cutL
    rw [List.drop_zero]
    have q1 : s.data.toList.take 13 = s.data.toList.take 1 ++ (s.data.toList.drop 1).take 12 := by rw [← List.take_add]
    have q2 : (s.data.toList.drop 1).take 12 = (s.data.toList.drop 1).take 8 ++ ((s.data.toList.drop 1).drop 8).take 4 := by rw [← List.take_add]
    rw [q1, q2, List.drop_drop]
  unfold endS
  rw [b1, b2]
  apply ByteArray.ext
  apply Array.toList_inj.1
  rw [hd, hz, ← hcat, e0]
  rfl
theorem get_end {c m : Nat} (hc : c < 9223372036854775808) (hm : m < 4294967296) : cntN (cl (endS c m)) = 0 ∧ getB (cl (endS c m)) 1 8 = true ∧ getN (cl (endS c m)) 1 8 = c ∧ getN (cl (endS c m)) 9 4 = m := by
  have hd : (cl (endS c m)).data.toList = 0 :: (beL 8 c ++ (beL 4 m ++ tl (more 0 (endS c m).data.toList))) := by
    unfold cl endS
    rw [bs_app]
    simp [bs]
  have hz : (cl (endS c m)).size = 17 := by rw [cl_size, endS_size]
  generalize cl (endS c m) = s at hd hz
  have l8 := beL_length 8 c
  have l4 := beL_length 4 m
  have c0 : cutL s 0 1 = [0] := by unfold cutL; rw [hd]; rfl
  have c8 : cutL s 1 8 = beL 8 c := by
    unfold cutL; rw [hd, List.drop_succ_cons, List.drop_zero, List.take_append_of_le_length (by omega), List.take_of_length_le (by omega)]
  have c4 : cutL s 9 4 = beL 4 m := by
    unfold cutL
    rw [hd, List.drop_succ_cons, List.drop_append_of_le_length (by omega), List.drop_of_length_le (by omega), List.nil_append, List.take_append_of_le_length (by omega), List.take_of_length_le (by omega)]
  have n8 : num (cutL s 1 8) = c := by rw [c8]; exact num_beL 8 c (by omega)
  have n4 : num (cutL s 9 4) = m := by rw [c4]; exact num_beL 4 m (by omega)
  have g8 : getB s (1 : Nat) (8 : Nat) = true := getB_yes (by omega) (by omega) (by omega)
  have g4 : getB s (9 : Nat) (4 : Nat) = true := getB_yes (by omega) (by omega) (by omega)
  refine ⟨by unfold cntN; rw [c0]; rfl, g8, ?_, ?_⟩
  · have := getN_yes g8; rw [n8] at this; exact this
  · have := getN_yes g4; rw [n4] at this; exact this
end FramePlain
end Go.Proofs.YtignfbdgpgidpaaGreatDoor

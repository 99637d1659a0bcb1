/- In one text: CrcTurned, CrcBack. -/
import Derived.Test.YtgobdapngbpoeaaP04
import Derived.Deep.RegionHeld3
import Derived.BigRegion
import Derived.Lib.ConvBytes
import Derived.KernelRfl
/- The contract of the document's own turning of bits: by a walk of its text. -/
namespace Go.Proofs.Ytgobdapngbpoeaa
open Go.RowKit CrcPlain
set_option linter.unusedVariables false
set_option linter.unusedSimpArgs false
set_option maxRecDepth 20000
/-- Block B holds the bytes l, and may be written. -/
def Row (B : Nat) (l : List UInt8) (w : World) : Prop := B < w.heap.size ∧ ∀ j x, l[j]? = some x → w.cell? ⟨B, j, none⟩ = some (.int .u8 (x.toNat : Int)) ∧ w.frozen? ⟨B, j, none⟩ = false
theorem row_start (w : World) (s : ByteArray) : Row w.heap.size s.data.toList (Lib.bytesWorld w 5 s) ∧ Gr w (Lib.bytesWorld w 5 s) := by
  refine ⟨⟨by rw [Lib.bytesWorld_size]; omega, ?_⟩, ⟨rfl, rfl, rfl, by rw [Lib.bytesWorld_size]; omega, fun k hk => Lib.bytesWorld_at_old w _ s k hk⟩⟩
  intro j x hx
  have hj : j < s.size := by
    have := (List.getElem?_eq_some_iff.1 hx).1
    simpa using this
  refine ⟨?_, ?_⟩
  · rw [Lib.bytesWorld_cell w _ s j hj]
    rw [List.getD_eq_getElem?_getD, hx]
    rfl
  · unfold World.frozen?
    rw [Lib.bytesWorld_at_new]
    have hz : s.size ≤ (Lib.bytesCells w 5 s).size := by
      unfold Lib.bytesCells
      simp
    simp
    omega
theorem bit_is (b k : Nat) (hb : b < 4294967296) (h : b / 2 ^ k % 2 = 1) : bits .and .u32 ((b : Int) / 2 ^ k) 1 = 1 := by
  have hd : b / 2 ^ k < 4294967296 := Nat.lt_of_le_of_lt (Nat.div_le_self _ _) hb
  have e := u32_and_nat (b / 2 ^ k) 1 hd (by decide)
  rw [Nat.and_two_pow_sub_one_eq_mod _ 1, Nat.pow_one, h, Int.natCast_ediv, Int.natCast_pow] at e
  exact e
theorem bit_not (b k : Nat) (hb : b < 4294967296) (h : b / 2 ^ k % 2 = 0) : bits .and .u32 ((b : Int) / 2 ^ k) 1 = 0 := by
  have hd : b / 2 ^ k < 4294967296 := Nat.lt_of_le_of_lt (Nat.div_le_self _ _) hb
  have e := u32_and_nat (b / 2 ^ k) 1 hd (by decide)
  rw [Nat.and_two_pow_sub_one_eq_mod _ 1, Nat.pow_one, h, Int.natCast_ediv, Int.natCast_pow] at e
  exact e
theorem idx_at {s : ByteArray} {B cap i : Nat} (h : i < s.size) (W : World) : (Instr.indexAt 59 (.slice (some ⟨B, 0, none⟩) s.size cap) (.int .i64 (i : Int))).run Try.prog W = .ok (.pointer (some ⟨B, i, none⟩)) W := by
  have ea : Addr.add ⟨B, 0, none⟩ i = ⟨B, i, none⟩ := by by_cases h : i = 0 <;> simp [Addr.add, h]
  rw [run_indexAt_slice (h := by kernel_rfl), if_pos (by omega)]
  have hz : Try.prog.elem 59 = 5 := by kernel_rfl
  simp [hz, ea]
theorem shl_at {j : Nat} (hj : j < 8) : IntKind.u8.wrap ((2 : Int) ^ j) = ((2 ^ j : Nat) : Int) := by
  have : j = 0 ∨ j = 1 ∨ j = 2 ∨ j = 3 ∨ j = 4 ∨ j = 5 ∨ j = 6 ∨ j = 7 := by omega
  rcases this with rfl | rfl | rfl | rfl | rfl | rfl | rfl | rfl <;> rfl
theorem row_set {B : Nat} {l : List UInt8} {w : World} {i : Nat} {x : UInt8} {y : Nat} (h : Row B l w) (hx : l[i]? = some x) (hy : y < 256) :
    Row B (l.set i (UInt8.ofNat y)) (w.setCell ⟨B, i, none⟩ (.int .u8 (y : Int))).drew := by
  refine ⟨by simpa using h.1, ?_⟩
  intro j z hz
  by_cases hij : i = j
  · subst hij
    have hl := (List.getElem?_eq_some_iff.1 hx).1
    rw [List.getElem?_set_self hl] at hz
    have hz' : z = UInt8.ofNat y := by simpa using hz.symm
    subst hz'
    refine ⟨?_, by simpa using (h.2 i x hx).2⟩
    rw [World.cell?_drew, World.cell?_setCell_same' _ _ _ (by rw [(h.2 i x hx).1]; rfl), UInt8.toNat_ofNat']
    congr 3
    omega
  · rw [List.getElem?_set_ne hij] at hz
    refine ⟨?_, by simpa using (h.2 j z hz).2⟩
    rw [World.cell?_drew, World.cell?_setCell_other _ _ _ _ (by intro e; apply hij; injection e)]
    exact (h.2 j z hz).1
theorem conv_row {B : Nat} {l : List UInt8} {w : World} (h : Row B l w) (n cap : Nat) (hn : l.length = n) :
    (convert 59 9 (.slice (some ⟨B, 0, none⟩) n cap)).run Try.prog w = .ok (.string (bs l)) w := by
  subst hn
  refine run_convert_bytes_back (P := Try.prog) w 59 9 5 ⟨B, 0, none⟩ cap l Try.underlying59 Try.underlying5 Try.underlying9 (fun j hj => ?_)
  have ea : Addr.add ⟨B, 0, none⟩ j = ⟨B, j, none⟩ := by by_cases h : j = 0 <;> simp [Addr.add, h]
  rw [ea]
  exact (h.2 j l[j] (List.getElem?_eq_getElem hj)).1
/-- What comes of it: bytes on which some of the bits were put, and whether any was. -/
def TurnedAs (s : ByteArray) (first : Nat) (w : World) (e : Ending) (w' : World) : Prop :=
  ∃ (l : List UInt8) (v : Nat) (c : Bool), v < 4294967296 ∧ Turn s.data.toList l first v ∧ c = decide (v ≠ 0) ∧ e = .returned (.tuple #[.string (bs l), .bool c]) ∧ Gr w w'
/-- .. of no more bits than were asked for. -/
def TurnedIn (s : ByteArray) (first b : Nat) (w : World) (e : Ending) (w' : World) : Prop :=
  ∃ (l : List UInt8) (v : Nat) (c : Bool), v ≤ b ∧ v < 4294967296 ∧ Turn s.data.toList l first v ∧ c = decide (v ≠ 0) ∧ e = .returned (.tuple #[.string (bs l), .bool c]) ∧ Gr w w'
def TurnAt (s : ByteArray) (first b B : Nat) (w0 : World) (some_ k : Value) (wr : World) : Prop :=
  ∃ (n : Nat) (l : List UInt8) (c : Bool), n ≤ 32 ∧ k = .int .i64 n ∧ some_ = .bool c ∧ c = decide (b % 2 ^ n ≠ 0) ∧ Turn s.data.toList l first (b % 2 ^ n) ∧ Row B l wr ∧ Below B w0 wr
set_option maxHeartbeats 1000000 in
theorem turned_in_c (s : ByteArray) (first b : Nat) (hz : s.size ≤ 1000) (hf : first < 8 * s.size) (hb : b < 4294967296) (w : World) :
    Calls Try.prog 19 #[.string s, .int .i64 (first : Int), .int .u32 (b : Int)] w (TurnedIn s first b w) := by
  have hconv := Lib.run_convert_string_bytes (P := Try.prog) w 9 59 5 s Try.underlying9 Try.underlying59 Try.underlying5
  obtain ⟨hrow, hgr⟩ := row_start w s
  obtain ⟨W, hW⟩ : ∃ W, W = Lib.bytesWorld w 5 s := ⟨_, rfl⟩
  rw [← hW] at hconv hrow hgr
  obtain ⟨cap, hcap⟩ : ∃ c, c = grownCap w s.size 0 5 := ⟨_, rfl⟩
  rw [← hcap] at hconv
  clear hW hcap
  go_enter Try.func19, Try.ntmps19
  go_wp2_with fail
  clear hconv
  go_loopw [9, 10] (fun v i wr => TurnAt s first b w.heap.size w v i wr) (fun _ i _ => 32 - (intOf i).toNat)
  case atStart => exact ⟨0, s.data.toList, false, by omega, rfl, rfl, by simp [Nat.mod_one], Turn.start _ _ _, hrow, hgr⟩
  case round =>
    obtain ⟨k, l, c, hk, rfl, rfl, hc, ht, hr, hg⟩ := hrel
    have HC := Lib.hid hc
    clear hc
    by_cases hq : first + k < 8 * s.size
    · by_cases h32 : k < 32
      · obtain ⟨q, hq1⟩ : ∃ q, q = first + k := ⟨_, rfl⟩
        have hll : l.length = s.size := by rw [ht.1]; simp
        by_cases hbit : b / 2 ^ k % 2 = 1
        · have e1 := bit_is b k hb hbit
          have e2 : (first : Int) + (k : Int) = (q : Int) := by omega
          have e3 : IntKind.i64.wrap (q : Int) = (q : Int) := IntWalk.i64_in _ (by omega)
          obtain ⟨i, hi⟩ : ∃ i, i = q / 8 := ⟨_, rfl⟩
          obtain ⟨j, hj⟩ : ∃ j, j = q % 8 := ⟨_, rfl⟩
          have e4 : (q : Int) / 8 = (i : Int) := by omega
          have e5 : (q : Int) % 8 = (j : Int) := by omega
          have e6 : (q : Int).tdiv 8 = (i : Int) := by rw [Int.tdiv_eq_ediv_of_nonneg (by omega)]; exact e4
          have e7 : (q : Int).tmod 8 = (j : Int) := by rw [Int.tmod_eq_emod_of_nonneg (by omega)]; exact e5
          have e8 : IntKind.i64.wrap (i : Int) = (i : Int) := IntWalk.i64_in _ (by omega)
          have e9 : IntKind.i64.wrap (j : Int) = (j : Int) := IntWalk.i64_in _ (by omega)
          have hi2 : i < s.size := by omega
          have hj2 : j < 8 := by omega
          have HQ := Lib.hid hq1
          have HLL := Lib.hid hll
          have d1 : (k : Int) < 32 := by omega
          have d2 : (q : Int) < 8 * (s.size : Int) := by omega
          have d3 : (0 : Int) ≤ (i : Int) := by omega
          obtain ⟨x, hx⟩ : ∃ x, l[i]? = some x := ⟨l[i], List.getElem?_eq_getElem (by omega)⟩
          obtain ⟨hcell, hfro⟩ := hr.2 i x hx
          have hsz := hr.1
          have hle : i + 1 ≤ s.size := by omega
          have HR := Lib.hid hr
          clear hr
          have HX := Lib.hid hx
          have HI := Lib.hid hi
          have HJ := Lib.hid hj
          clear hx hi hj hq1 hll hq
          have hidx := idx_at (s := s) (B := w.heap.size) (cap := cap) hi2
          obtain ⟨p, hp, hp2⟩ : ∃ p : Nat, p = 2 ^ j ∧ p < 256 := ⟨2 ^ j, rfl, by have := Nat.pow_le_pow_right (n := 2) (by decide) (show j ≤ 7 by omega); omega⟩
          have hsh : IntKind.u8.wrap ((2 : Int) ^ j) = (p : Int) := by rw [hp]; exact shl_at hj2
          obtain ⟨y, hy, hy2⟩ : ∃ y : Nat, y = x.toNat ^^^ p ∧ y < 256 := ⟨_, rfl, Nat.xor_lt_two_pow (n := 8) x.toNat_lt hp2⟩
          have hxor : bits .xor .u8 (x.toNat : Int) (p : Int) = (y : Int) := by rw [hy]; exact u8_xor_nat _ _ x.toNat_lt hp2
          have HP := Lib.hid hp
          have HY := Lib.hid hy
          clear hp hy
          go_wp2_with fail
          go_region
          go_wp2_with fail
          refine ⟨⟨k + 1, l.set i (UInt8.ofNat y), true, by omega, rfl, rfl, by simpa using low_pos b k hbit, ?_, row_set HR.out HX.out hy2, Below.drew (Below.setCell hg (Nat.le_refl _) _)⟩, ?_⟩
          · have hon := ht.on hbit (x := x) (c := UInt8.ofNat y) (by rw [← HQ.out, ← HI.out]; exact HX.out) (by rw [← HQ.out, ← HJ.out, ← HP.out, UInt8.toNat_ofNat', ← HY.out]; omega)
            rw [← HQ.out, ← HI.out] at hon
            exact hon
          · simp [intOf]; omega
        · have e1 := bit_not b k hb (by omega)
          go_wp2_with fail
          refine ⟨⟨k + 1, l, c, by omega, rfl, rfl, by rw [low_same b k (by omega)]; exact HC.out, ht.off (by omega), hr, hg⟩, ?_⟩
          simp [intOf]; omega
      · have d1 : decide ((k : Int) < 32) = false := by rw [decide_eq_false_iff_not]; omega
        have hcv := conv_row hr s.size cap (by rw [ht.1]; simp)
        go_wp2_with fail
        go_ret2
        exact ⟨l, b % 2 ^ k, c, Nat.mod_le _ _, Nat.lt_of_le_of_lt (Nat.mod_le _ _) hb, ht, HC.out, rfl, hg⟩
    · by_cases h32 : k < 32
      · have d1 : decide ((k : Int) < 32) = true := by rw [decide_eq_true_iff]; omega
        have d2 : decide ((first : Int) + (k : Int) < 8 * (s.size : Int)) = false := by rw [decide_eq_false_iff_not]; omega
        have hcv := conv_row hr s.size cap (by rw [ht.1]; simp)
        go_wp2_with fail
        go_ret2
        exact ⟨l, b % 2 ^ k, c, Nat.mod_le _ _, Nat.lt_of_le_of_lt (Nat.mod_le _ _) hb, ht, HC.out, rfl, hg⟩
      · have d1 : decide ((k : Int) < 32) = false := by rw [decide_eq_false_iff_not]; omega
        have hcv := conv_row hr s.size cap (by rw [ht.1]; simp)
        go_wp2_with fail
        go_ret2
        exact ⟨l, b % 2 ^ k, c, Nat.mod_le _ _, Nat.lt_of_le_of_lt (Nat.mod_le _ _) hb, ht, HC.out, rfl, hg⟩
theorem turned_c (s : ByteArray) (first b : Nat) (hz : s.size ≤ 1000) (hf : first < 8 * s.size) (hb : b < 4294967296) (w : World) :
    Calls Try.prog 19 #[.string s, .int .i64 (first : Int), .int .u32 (b : Int)] w (TurnedAs s first w) :=
  (turned_in_c s first b hz hf hb w).mono fun e w' ⟨l, v, c, _, h⟩ => ⟨l, v, c, h⟩
end Go.Proofs.Ytgobdapngbpoeaa
/- Plain facts: what is closed is opened again; with bits turned nothing is opened. -/
namespace Go.Proofs.Ytgobdapngbpoeaa
open Go.RowKit CrcPlain
set_option linter.unusedVariables false
set_option linter.unusedSimpArgs false
set_option maxRecDepth 20000
theorem opB_reg {x : ByteArray} (h : opB x = true) : reg 4294967295 x.data.toList = sts 32 4294967295 := by
  have h4 : 4 ≤ x.size := by unfold opB at h; rw [decide_eq_true_iff] at h; exact h.1
  have hc := (cl_is x h4).2 h
  have e : x.data.toList = (ahead x).data.toList ++ tl (more 0 (ahead x).data.toList) := by
    have := congrArg (fun s => s.data.toList) hc
    rw [← this]
    simp [cl, bs, ByteArray.data_append]
  rw [e]
  exact reg_closed _
theorem ahead_cl (s : ByteArray) : ahead (cl s) = s := by
  unfold ahead
  rw [cl_size]
  unfold cl
  apply ByteArray.ext
  apply Array.toList_inj.1
  have : s.size + 4 - 4 = s.size := by omega
  rw [this]
  simp [ByteArray.data_append]
  exact List.take_of_length_le (by simp)
theorem op_cl (s : ByteArray) : opB (cl s) = true ∧ opS (cl s) = s := by
  have h : opB (cl s) = true := (cl_is (cl s) (by rw [cl_size]; omega)).1 (by rw [ahead_cl])
  exact ⟨h, by rw [opS_yes h, ahead_cl]⟩
theorem op_turned {s : ByteArray} {l : List UInt8} {first v : Nat} (h : Turn (cl s).data.toList l first v) (hf : first < 8 * (cl s).size) (hv : v < 4294967296) (h0 : v ≠ 0) : opB (bs l) = false := by
  cases hb : opB (bs l)
  · rfl
  · exfalso
    have h1 := opB_reg hb
    have h2 := opB_reg (op_cl s).1
    have hl : (cl s).data.toList.length = (cl s).size := by simp
    exact h.apart hv h0 (by rw [hl]; omega) 4294967295 (h1.trans h2.symm)
theorem op_same {s : ByteArray} {l : List UInt8} {first v : Nat} (h : Turn (cl s).data.toList l first v) (h0 : v = 0) : bs l = cl s := by
  subst h0
  rw [h.zero, bs_toList]
end Go.Proofs.Ytgobdapngbpoeaa

/- In one text: CrcTurned. -/
import Derived.Test.YtgopodgjnblgkaaDoorP14
import Derived.Test.YtgopodgjnblgkaaDoorP15
import Derived.Deep.RegionHeld3
import Derived.BigRegion
import Derived.Lib.ConvBytes
import Derived.KernelRfl
/- The contract of the document's own turning of bits: by a walk of its text. -/
namespace Go.Proofs.YtgopodgjnblgkaaDoor
open Go.RowKit CrcPlain
set_option linter.unusedVariables false
set_option linter.unusedSimpArgs false
set_option maxRecDepth 20000
/-- Block B holds the bytes l, and may be written. -/
def Row (B : Nat) (l : List UInt8) (w : World) : Prop := B < w.heap.size ∧ ∀ j x, l[j]? = some x → w.cell? ⟨B, j, none⟩ = some (.int .u8 (x.toNat : Int)) ∧ w.frozen? ⟨B, j, none⟩ = false
theorem row_start (w : World) (s : ByteArray) : Row w.heap.size s.data.toList (Lib.bytesWorld w 5 s) ∧ Gr w (Lib.bytesWorld w 5 s) := by
  refine ⟨⟨by rw [Lib.bytesWorld_size]; omega, ?_⟩, ⟨rfl, rfl, rfl, by rw [Lib.bytesWorld_size]; omega, fun k hk => Lib.bytesWorld_at_old w _ s k hk⟩⟩
  intro j x hx
  have hj : j < s.size := by
    have := (List.getElem?_eq_some_iff.1 hx).1
    simpa using this
  refine ⟨?_, ?_⟩
  · rw [Lib.bytesWorld_cell w _ s j hj]
    rw [List.getD_eq_getElem?_getD, hx]
    rfl
  · unfold World.frozen?
    rw [Lib.bytesWorld_at_new]
    have hz : s.size ≤ (Lib.bytesCells w 5 s).size := by
      unfold Lib.bytesCells
      simp
    simp
    omega
theorem bit_is (b k : Nat) (hb : b < 4294967296) (h : b / 2 ^ k % 2 = 1) : bits .and .u32 ((b : Int) / 2 ^ k) 1 = 1 := by
  have hd : b / 2 ^ k < 4294967296 := Nat.lt_of_le_of_lt (Nat.div_le_self _ _) hb
  have e := u32_and_nat (b / 2 ^ k) 1 hd (by decide)
  rw [Nat.and_two_pow_sub_one_eq_mod _ 1, Nat.pow_one, h, Int.natCast_ediv, Int.natCast_pow] at e
  exact e
theorem bit_not (b k : Nat) (hb : b < 4294967296) (h : b / 2 ^ k % 2 = 0) : bits .and .u32 ((b : Int) / 2 ^ k) 1 = 0 := by
  have hd : b / 2 ^ k < 4294967296 := Nat.lt_of_le_of_lt (Nat.div_le_self _ _) hb
  have e := u32_and_nat (b / 2 ^ k) 1 hd (by decide)
  rw [Nat.and_two_pow_sub_one_eq_mod _ 1, Nat.pow_one, h, Int.natCast_ediv, Int.natCast_pow] at e
  exact e
theorem idx_at {s : ByteArray} {B cap i : Nat} (h : i < s.size) (W : World) : (Instr.indexAt 56 (.slice (some ⟨B, 0, none⟩) s.size cap) (.int .i64 (i : Int))).run Tryd.prog W = .ok (.pointer (some ⟨B, i, none⟩)) W := by
  have ea : Addr.add ⟨B, 0, none⟩ i = ⟨B, i, none⟩ := by by_cases h : i = 0 <;> simp [Addr.add, h]
  rw [run_indexAt_slice (h := by kernel_rfl), if_pos (by omega)]
  have hz : Tryd.prog.elem 56 = 5 := by kernel_rfl
  simp [hz, ea]
theorem shl_at {j : Nat} (hj : j < 8) : IntKind.u8.wrap ((2 : Int) ^ j) = ((2 ^ j : Nat) : Int) := by
  have : j = 0 ∨ j = 1 ∨ j = 2 ∨ j = 3 ∨ j = 4 ∨ j = 5 ∨ j = 6 ∨ j = 7 := by omega
  rcases this with rfl | rfl | rfl | rfl | rfl | rfl | rfl | rfl <;> rfl
theorem row_set {B : Nat} {l : List UInt8} {w : World} {i : Nat} {x : UInt8} {y : Nat} (h : Row B l w) (hx : l[i]? = some x) (hy : y < 256) :
    Row B (l.set i (UInt8.ofNat y)) (w.setCell ⟨B, i, none⟩ (.int .u8 (y : Int))).drew := by
  refine ⟨by simpa using h.1, ?_⟩
  intro j z hz
  by_cases hij : i = j
  · subst hij
    have hl := (List.getElem?_eq_some_iff.1 hx).1
    rw [List.getElem?_set_self hl] at hz
    have hz' : z = UInt8.ofNat y := by simpa using hz.symm
    subst hz'
    refine ⟨?_, by simpa using (h.2 i x hx).2⟩
    rw [World.cell?_drew, World.cell?_setCell_same' _ _ _ (by rw [(h.2 i x hx).1]; rfl), UInt8.toNat_ofNat']
    congr 3
    omega
  · rw [List.getElem?_set_ne hij] at hz
    refine ⟨?_, by simpa using (h.2 j z hz).2⟩
    rw [World.cell?_drew, World.cell?_setCell_other _ _ _ _ (by intro e; apply hij; injection e)]
    exact (h.2 j z hz).1
theorem conv_row {B : Nat} {l : List UInt8} {w : World} (h : Row B l w) (n cap : Nat) (hn : l.length = n) :
    (convert 56 9 (.slice (some ⟨B, 0, none⟩) n cap)).run Tryd.prog w = .ok (.string (bs l)) w := by
  subst hn
  refine run_convert_bytes_back (P := Tryd.prog) w 56 9 5 ⟨B, 0, none⟩ cap l Tryd.underlying56 Tryd.underlying5 Tryd.underlying9 (fun j hj => ?_)
  have ea : Addr.add ⟨B, 0, none⟩ j = ⟨B, j, none⟩ := by by_cases h : j = 0 <;> simp [Addr.add, h]
  rw [ea]
  exact (h.2 j l[j] (List.getElem?_eq_getElem hj)).1
/-- What comes of it: bytes on which some of the bits were put, and whether any was. -/
def TurnedAs (s : ByteArray) (first : Nat) (w : World) (e : Ending) (w' : World) : Prop :=
  ∃ (l : List UInt8) (v : Nat) (c : Bool), v < 4294967296 ∧ Turn s.data.toList l first v ∧ c = decide (v ≠ 0) ∧ e = .returned (.tuple #[.string (bs l), .bool c]) ∧ Gr w w'
/-- .. of no more bits than were asked for. -/
def TurnedIn (s : ByteArray) (first b : Nat) (w : World) (e : Ending) (w' : World) : Prop :=
  ∃ (l : List UInt8) (v : Nat) (c : Bool), v ≤ b ∧ v < 4294967296 ∧ Turn s.data.toList l first v ∧ c = decide (v ≠ 0) ∧ e = .returned (.tuple #[.string (bs l), .bool c]) ∧ Gr w w'
def TurnAt (s : ByteArray) (first b B : Nat) (w0 : World) (some_ k : Value) (wr : World) : Prop :=
  ∃ (n : Nat) (l : List UInt8) (c : Bool), n ≤ 32 ∧ k = .int .i64 n ∧ some_ = .bool c ∧ c = decide (b % 2 ^ n ≠ 0) ∧ Turn s.data.toList l first (b % 2 ^ n) ∧ Row B l wr ∧ Below B w0 wr
end Go.Proofs.YtgopodgjnblgkaaDoor

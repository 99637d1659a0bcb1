/- strings.Builder of the call's own, without strings.Join: WriteString and String, by the library's contracts; a builder as one word. -/
import Derived.Shelf.Strings.BuilderK
import Derived.Test.YtddjhajnhamjoaaBase
namespace Go.Proofs.Ytddjhajnhamjoaa
open Go.RowKit
set_option linter.unusedVariables false
set_option linter.unusedSimpArgs false
set_option maxRecDepth 20000
def sbRen : Go.Shelf.Ren := ⟨fun | 166 => 22 | 169 => 24 | 240 => 38 | 276 => 47 | n => n, fun | 0 => 0 | 3 => 3 | 4 => 4 | 9 => 9 | 20 => 20 | 37 => 44 | 70 => 43 | 72 => 46 | 75 => 48 | 76 => 49 | 127 => 65 | 164 => 70 | 5 => 5 | 80 => 52 | n => n, fun | n => n⟩
theorem sbW : Go.Proofs.Lays.n166 Try.prog sbRen := {
  mixed := by kernel_rfl
  f166 := Try.func22.trans (congrArg some (by kernel_rfl))
  f240 := Try.func38.trans (congrArg some (by kernel_rfl))
  f276 := Try.func47.trans (congrArg some (by kernel_rfl))
  t0 := Try.underlying0
  a0 := Try.isAgg0
  z0 := Try.sizeOf0
  v0 := Try.zeroValue0
  t3 := Try.underlying3
  a3 := Try.isAgg3
  z3 := Try.sizeOf3
  v3 := Try.zeroValue3
  t4 := Try.underlying4
  a4 := Try.isAgg4
  z4 := Try.sizeOf4
  v4 := Try.zeroValue4
  t9 := Try.underlying9
  a9 := Try.isAgg9
  z9 := Try.sizeOf9
  v9 := Try.zeroValue9
  t20 := Try.underlying20
  a20 := Try.isAgg20
  z20 := Try.sizeOf20
  v20 := Try.zeroValue20
  t37 := Try.underlying44
  a37 := Try.isAgg44
  z37 := Try.sizeOf44
  v37 := Try.zeroValue44
  t70 := Try.underlying43
  a70 := Try.isAgg43
  z70 := Try.sizeOf43
  v70 := Try.zeroValue43
  t72 := Try.underlying46
  a72 := Try.isAgg46
  z72 := Try.sizeOf46
  v72 := Try.zeroValue46
  t75 := Try.underlying48
  a75 := Try.isAgg48
  z75 := Try.sizeOf48
  v75 := Try.zeroValue48
  t164 := Try.underlying70
  a164 := Try.isAgg70
  z164 := Try.sizeOf70
  v164 := Try.zeroValue70 }
theorem sbS : Go.Proofs.Lays.n169 Try.prog sbRen := {
  mixed := by kernel_rfl
  f169 := Try.func24.trans (congrArg some (by kernel_rfl))
  t0 := Try.underlying0
  a0 := Try.isAgg0
  z0 := Try.sizeOf0
  v0 := Try.zeroValue0
  t3 := Try.underlying3
  a3 := Try.isAgg3
  z3 := Try.sizeOf3
  v3 := Try.zeroValue3
  t9 := Try.underlying9
  a9 := Try.isAgg9
  z9 := Try.sizeOf9
  v9 := Try.zeroValue9
  t37 := Try.underlying44
  a37 := Try.isAgg44
  z37 := Try.sizeOf44
  v37 := Try.zeroValue44
  t70 := Try.underlying43
  a70 := Try.isAgg43
  z70 := Try.sizeOf43
  v70 := Try.zeroValue43
  t72 := Try.underlying46
  a72 := Try.isAgg46
  z72 := Try.sizeOf46
  v72 := Try.zeroValue46
  t127 := Try.underlying65
  a127 := Try.isAgg65
  z127 := Try.sizeOf65
  v127 := Try.zeroValue65 }
theorem sbX : Builder.Extra Try.prog sbRen := {
  sizeBuilder := by kernel_rfl
  liesBuilder := by kernel_rfl
  t5 := Try.underlying5
  a5 := Try.isAgg5
  z5 := Try.sizeOf5
  v5 := Try.zeroValue5
  infoByte := by kernel_rfl
  cellsByte := by kernel_rfl
  sizeByte := by kernel_rfl
  neB5 := by decide }
/-- At b there is a builder of the call's own that holds these bytes. -/
def SB (n0 b : Nat) (l : List UInt8) (w : World) : Prop := Lib.IsBuilderF 46 5 n0 b (Lib.byteCells l) w ∧ n0 ≤ w.heap.size
/-- What a write to it leaves: blocks that are neither the builder nor rows of bytes. -/
def SBKept (b : Nat) (w w' : World) : Prop := Lib.OthersKept 5 (some b) w w'
theorem sb_new (w : World) : SB w.heap.size w.heap.size [] (w.alloc (.cells #[.pointer none, .slice none 0 0] 46)) :=
  ⟨Lib.IsBuilderF.of (Lib.fresh_isBuilder _ _ w), by simp⟩
theorem byteCells_two (a b : List UInt8) : Lib.byteCells (a ++ b) = Lib.byteCells a ++ Lib.byteCells b := by simp [Lib.byteCells]
theorem sb_write_c (n0 b : Nat) (l : List UInt8) (s : ByteArray) (w : World) (h : SB n0 b l w) (hlen : l.length + s.size ≤ 100000000) :
    Calls Try.prog 22 #[.pointer (some ⟨b, 0, none⟩), .string s] w fun e w' => e = .returned (.tuple #[.int .i64 s.size, .nilIface]) ∧ SB n0 b (l ++ s.data.toList) w' ∧ Below n0 w w' ∧ SBKept b w w' := by
  refine (Any.Builder_WriteString_k sbW sbX n0 b (Lib.byteCells l) s w h.1 (by rw [Lib.byteCells_length]; omega) h.2).mono ?_
  rintro e w' ⟨he, hb, hbel, ho⟩
  refine ⟨he, ⟨?_, Nat.le_trans h.2 hbel.size⟩, hbel, ho⟩
  rw [byteCells_two]
  exact .inr hb
theorem sb_string_c (n0 b : Nat) (l : List UInt8) (w : World) (h : SB n0 b l w) :
    Calls Try.prog 24 #[.pointer (some ⟨b, 0, none⟩)] w fun e w' => e = .returned (.string (bs l)) ∧ SB n0 b l w' ∧ Below n0 w w' ∧ SBKept b w w' := by
  refine (Any.Builder_String_any_k sbS sbX n0 b l w h.1 h.2).mono ?_
  rintro e w' ⟨he, hb, hbel, ho⟩
  exact ⟨he, ⟨hb, Nat.le_trans h.2 hbel.size⟩, hbel, ho⟩
/-- New memory leaves it. -/
theorem SB.gr {n0 b : Nat} {l : List UInt8} {w w' : World} (h : SB n0 b l w) (g : Gr w w') : SB n0 b l w' := by
  have hg : w.grownBy w' none := ⟨g.1, g.2, g.3, g.size, fun k hk _ => g.block k hk⟩
  have one : ∀ p, Lib.BuilderAtF 46 5 n0 b p (Lib.byteCells l) w → Lib.BuilderAtF 46 5 n0 b p (Lib.byteCells l) w' := by
    rintro p ⟨h1, v, hb, ho, hv⟩
    exact ⟨h1, v, (g.block b (Array.getElem?_eq_some_iff.1 hb).1).trans hb, ho.kept hg (by cases hv : v.ownBlock <;> simp), hv⟩
  exact ⟨h.1.imp (one _) (one _), Nat.le_trans h.2 g.size⟩
end Go.Proofs.Ytddjhajnhamjoaa

/- In one text: Clone. -/
import Derived.Test.YtibajmjplpnbmaaRows
import Derived.Test.YtibajmjplpnbmaaP00
import Derived.Shelf.LaysM
import Derived.Shelf.Strconv.Clone
/- strings.Clone gives the same bytes: by the library's contract of internal/stringslite.Clone, laid at this program's numbers. -/
namespace Go.Proofs.Ytibajmjplpnbmaa
open Go.RowKit
set_option linter.unusedVariables false
def cloneRen : Go.Shelf.Ren := ⟨fun | 316 => 48 | n => n, fun | 9 => 9 | 3 => 3 | 4 => 4 | 37 => 23 | 0 => 0 | 127 => 96 | 5 => 5 | n => n, fun | n => n⟩
theorem cloneLaid : Go.Proofs.LaysM.n316 Try.prog cloneRen := {
  mixed := by kernel_rfl
  f316 := Try.func48.trans (congrArg some (by kernel_rfl))
  t0 := Try.underlying0
  a0 := Try.isAgg0
  z0 := Try.sizeOf0
  v0 := Try.zeroValue0
  t3 := Try.underlying3
  a3 := Try.isAgg3
  z3 := Try.sizeOf3
  v3 := Try.zeroValue3
  t4 := Try.underlying4
  a4 := Try.isAgg4
  z4 := Try.sizeOf4
  v4 := Try.zeroValue4
  t9 := Try.underlying9
  a9 := Try.isAgg9
  z9 := Try.sizeOf9
  v9 := Try.zeroValue9
  t37 := Try.underlying23
  a37 := Try.isAgg23
  z37 := Try.sizeOf23
  v37 := Try.zeroValue23
  t127 := Try.underlying96
  a127 := Try.isAgg96
  z127 := Try.sizeOf96
  v127 := Try.zeroValue96
  t5 := Try.underlying5
  a5 := Try.isAgg5
  z5 := Try.sizeOf5
  v5 := Try.zeroValue5
  i0 := by kernel_rfl
  i3 := by kernel_rfl
  i4 := by kernel_rfl
  i5 := by kernel_rfl
  i9 := by kernel_rfl
  i37 := by kernel_rfl
  i127 := by kernel_rfl }
theorem clone_c (s : ByteArray) (w : World) (hs : s.size ≤ 1000) :
    Calls Try.prog 32 #[.string s] w fun e w' => e = .returned (.string s) ∧ Gr w w' := by
  go_enter Try.func32, Try.ntmps32
  go_wp2_with fail
  refine (Any.stringslite_Clone cloneLaid s w (by omega)).mono ?_
  rintro e u ⟨rfl, g⟩
  go_wp2
  go_ret
  exact ⟨rfl, Gr.of g⟩
end Go.Proofs.Ytibajmjplpnbmaa

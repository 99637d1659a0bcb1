/- The contract of the document's GetEnd. -/
import Derived.Test.YtckgdnaocmefjaaFrameGetEnd
import Derived.Test.YtckgdnaocmefjaaFrameRget
namespace Go.Proofs.Ytckgdnaocmefjaa
open Go.RowKit CrcPlain OctPlain FramePlain
set_option linter.unusedVariables false
set_option linter.unusedSimpArgs false
theorem two_new2 (w : World) (a b : Value) (T : TypeId) (o : Obj) {u : World} (g : Gr ((w.alloc o).alloc (.cells #[a, b] T)) u) : Two w (w.heap.size + 1) a b u := by
  have h := two_new (w.alloc o) a b T g
  rw [World.size_alloc] at h
  exact ⟨h.lt, h.c0, h.c1, h.f0, h.f1⟩
end Go.Proofs.Ytckgdnaocmefjaa

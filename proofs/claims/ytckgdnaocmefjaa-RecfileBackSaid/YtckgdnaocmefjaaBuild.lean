/- strings.Builder of the call's own: WriteString and String, by the library's contracts; a builder as one word. -/
import Derived.Shelf.Strings.BuilderK
import Derived.Test.YtckgdnaocmefjaaJoin
import Derived.Test.YtckgdnaocmefjaaTold
namespace Go.Proofs.Ytckgdnaocmefjaa
open Go.RowKit FramePlain
set_option linter.unusedVariables false
set_option linter.unusedSimpArgs false
/-- At b there is a builder of the call's own that holds these bytes. -/
def Bld (n0 b : Nat) (l : List UInt8) (w : World) : Prop := Lib.IsBuilderF 47 5 n0 b (Lib.byteCells l) w ∧ n0 ≤ w.heap.size
/-- What a write to it leaves: blocks that are neither the builder nor rows of bytes. -/
def BKept (b : Nat) (w w' : World) : Prop := Lib.OthersKept 5 (some b) w w'
theorem bld_new (w : World) : Bld w.heap.size w.heap.size [] (w.alloc (.cells #[.pointer none, .slice none 0 0] 47)) :=
  ⟨Lib.IsBuilderF.of (Lib.fresh_isBuilder _ _ w), by simp⟩
theorem byteCells_app (a b : List UInt8) : Lib.byteCells (a ++ b) = Lib.byteCells a ++ Lib.byteCells b := by simp [Lib.byteCells]
theorem bwrite_c (n0 b : Nat) (l : List UInt8) (s : ByteArray) (w : World) (h : Bld n0 b l w) (hlen : l.length + s.size ≤ 100000000) :
    Calls Try.prog 22 #[.pointer (some ⟨b, 0, none⟩), .string s] w fun e w' => e = .returned (.tuple #[.int .i64 s.size, .nilIface]) ∧ Bld n0 b (l ++ s.data.toList) w' ∧ Below n0 w w' ∧ BKept b w w' := by
  have L : Go.Proofs.Lays.n166 Try.prog joinRen := { joinLaid with }
  refine (Any.Builder_WriteString_k L joinExtra n0 b (Lib.byteCells l) s w h.1 (by rw [Lib.byteCells_length]; omega) h.2).mono ?_
  rintro e w' ⟨he, hb, hbel, ho⟩
  refine ⟨he, ⟨?_, Nat.le_trans h.2 hbel.size⟩, hbel, ho⟩
  rw [byteCells_app]
  exact .inr hb
theorem bstring_c (n0 b : Nat) (l : List UInt8) (w : World) (h : Bld n0 b l w) :
    Calls Try.prog 26 #[.pointer (some ⟨b, 0, none⟩)] w fun e w' => e = .returned (.string (bs l)) ∧ Bld n0 b l w' ∧ Below n0 w w' ∧ BKept b w w' := by
  have L : Go.Proofs.Lays.n169 Try.prog joinRen := { joinLaid with }
  refine (Any.Builder_String_any_k L joinExtra n0 b l w h.1 h.2).mono ?_
  rintro e w' ⟨he, hb, hbel, ho⟩
  exact ⟨he, ⟨hb, Nat.le_trans h.2 hbel.size⟩, hbel, ho⟩
/-- What is neither the builder nor a row of bytes stands behind a write. -/
theorem BKept.block {b : Nat} {w w' : World} (h : BKept b w w') {k : Nat} {c : Array Value} {T : TypeId} {fz : Nat × Nat} (hk : w.heap[k]? = some (.cells c T fz)) (hb : k ≠ b) (hT : T ≠ 5) : w'.heap[k]? = some (.cells c T fz) :=
  h k _ hk (fun e => hb (Option.some.inj e)) (fun c' fz' e => by injection e with _ e2 _; exact hT e2)
theorem BKept.keeps {b C : Nat} {w w' : World} (h : BKept b w w') (hs : w.heap.size ≤ w'.heap.size) (hb : ∃ c T fz, w.heap[b]? = some (.cells c T fz)) : KeepsFrom C w w' :=
  ⟨hs, fun k o _ hk ho => h k o hk (fun e => by
    obtain ⟨c, T, fz, hc⟩ := hb
    obtain rfl : k = b := Option.some.inj e
    rw [hc] at hk; cases hk; cases ho) (fun c fz e => by rw [e] at ho; cases ho)⟩
theorem Bld.cells {n0 b : Nat} {l : List UInt8} {w : World} (h : Bld n0 b l w) : ∃ c T fz, w.heap[b]? = some (.cells c T fz) := by
  rcases h.1 with h1 | h1
  · obtain ⟨_, v, hb, _⟩ := h1; exact ⟨_, _, _, hb⟩
  · obtain ⟨_, v, hb, _⟩ := h1; exact ⟨_, _, _, hb⟩
theorem Bld.lt {n0 b : Nat} {l : List UInt8} {w : World} (h : Bld n0 b l w) : b < w.heap.size := by
  obtain ⟨c, T, fz, hc⟩ := h.cells
  exact (Array.getElem?_eq_some_iff.1 hc).1
end Go.Proofs.Ytckgdnaocmefjaa

/- In one text: BudA. -/
import Derived.Test.YtibajmjplpnbmaaP07
import Derived.Test.YtibajmjplpnbmaaP04
/- A budget as a part of a world: the program's, and the document's. -/
namespace Go.Proofs.Ytibajmjplpnbmaa
open Go.RowKit
set_option linter.unusedVariables false
set_option linter.unusedSimpArgs false
set_option maxRecDepth 20000
def BuA (p : Nat) (b : Bu) : Asn := fun w B => b.ok ∧ Blk p (bcells b) 57 w B
theorem fr_bu (p : Nat) (b : Bu) : Fr (BuA p b) := ⟨fun h o d => ⟨h.1, (fr_blk _ _ _).fr h.2 o d⟩, fun h => (fr_blk _ _ _).lo h.2⟩
theorem BuA.at {p : Nat} {b : Bu} {w : World} {B : Nat → Prop} (h : BuA p b w B) : BAt w p b := ⟨h.1, h.2.1⟩
theorem bu_next {p : Nat} {b b' : Bu} {w w' : World} {B : Nat → Prop} (h : BuA p b w B) (k : BAt w' p b') (g : Only (fun i => i = p) w w') : ∃ B', BuA p b' w' B' ∧ Nx B w B' w' :=
  ⟨B, ⟨k.1, k.2, h.2.2⟩, Nx.of g fun b hb => (h.2.2 b).2 hb⟩
theorem bu_take (p : Nat) (b : Bu) (n : Int) (w : World) (B : Nat → Prop) (h : BuA p b w B) :
    Calls Try.prog 29 #[.pointer (some ⟨p, 0, none⟩), .int .i64 n] w (Does w B (BuA p (b.take n)) (.int .i64 (b.takeE n))) :=
  (btake_c p b n w h.at).mono fun e w' ⟨he, k, g⟩ => ⟨he, bu_next h k g⟩
theorem bu_give (p : Nat) (b : Bu) (n : Int) (w : World) (B : Nat → Prop) (h : BuA p b w B) :
    Calls Try.prog 31 #[.pointer (some ⟨p, 0, none⟩), .int .i64 n] w (Does w B (BuA p (b.give n)) (.tuple #[])) :=
  (bgive_c p b n w h.at).mono fun e w' ⟨he, k, g⟩ => ⟨he, bu_next h k g⟩
theorem bu_new (m : Int) (w : World) (h : 0 ≤ m) (h2 : m ≤ 9223372036854775807) :
    Calls Try.prog 9 #[.int .i64 m] w fun e w' => e = .returned (.pointer (some ⟨w.heap.size, 0, none⟩)) ∧ BuA w.heap.size ⟨m, 0, 0⟩ w' (fun x => x = w.heap.size) ∧ Gr w w' :=
  (bnew_c m w h h2).mono fun e w' ⟨he, k, g⟩ => ⟨he, ⟨k.1, k.2, fun _ => Iff.rfl⟩, g⟩
/-! The document's. -/
def rbcells (b : Bu) : Array Value := #[.int .i64 b.m, .int .i64 b.now, .int .i64 b.high]
end Go.Proofs.Ytibajmjplpnbmaa

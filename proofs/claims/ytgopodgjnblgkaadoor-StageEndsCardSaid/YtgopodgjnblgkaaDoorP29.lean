/- In one text: MnSay, FlPart. -/
import Derived.Test.YtgopodgjnblgkaaDoorP28
import Derived.Test.YtgopodgjnblgkaaDoorP18
import Derived.Test.YtgopodgjnblgkaaDoorP12
/- What Get says: of the program and of the document; results in cells. -/
namespace Go.Proofs.YtgopodgjnblgkaaDoor
open Go.RowKit FsPlain CrcPlain OctPlain MnPlain
set_option linter.unusedVariables false
set_option linter.unusedSimpArgs false
set_option maxRecDepth 20000
/-- A slice that lies in no block that was there. -/
def NewFl (w : World) (v : Value) : Prop := ∀ b n c, v = .slice (some b) n c → w.heap.size ≤ b.block
theorem newFl_nil (w : World) (n c : Nat) : NewFl w (.slice none n c) := fun b n' c' e => by cases e
theorem NewFl.low {w u : World} {v : Value} (h : NewFl u v) (g : Gr w u) : NewFl w v := fun b n c e => Nat.le_trans g.size (h b n c e)
/-- What Get says. -/
def GtSays (s : ByteArray) (w : World) (e : Ending) (w' : World) : Prop :=
  ((∃ m v, mnIs s m ∧ e = .returned (.tuple #[.agg #[.int .i64 m.stage, .int .i64 m.pass, v], .bool true]) ∧ LiesFl w' v m.files ∧ (∀ f ∈ m.files, flK f) ∧ NewFl w v) ∨
    ((∀ m, ¬ mnIs s m) ∧ e = .returned (.tuple #[.agg #[.int .i64 0, .int .i64 0, .slice none 0 0], .bool false]))) ∧ Gr w w'
theorem mn_results2 {fn : Func} {p q : Tmp} (hfn : fn.results = #[.cell p 34, .tmp q]) {tmps : Array Value} {o : Nat} {x y z v : Value} {w : World} (hp : tmps.getD p undef = .pointer (some ⟨o, 0, none⟩)) (hv : tmps.getD q undef = v) (hb : w.heap[o]? = some (.cells #[x, y, z] 34 (0, 0))) :
    (results fn tmps).run Tryd.prog w = .ok (.tuple #[.agg #[x, y, z], v]) w := by
  have c0 : w.cell? ⟨o, 0, none⟩ = some x := by rw [cells_at hb]; rfl
  have c1 : w.cell? ⟨o, 1, none⟩ = some y := by rw [cells_at hb]; rfl
  have c2 : w.cell? ⟨o, 2, none⟩ = some z := by rw [cells_at hb]; rfl
  rw [results_cell_tmp hfn, hp, hv]
  simp [go_sem, c0, c1, c2]
theorem mn_store2 {u : World} {q : Nat} {c : Array Value} (hc : u.heap[q]? = some (.cells c 34 (0, 0))) (h3 : c.size = 3) (x y z : Value) :
    (((u.setCell ⟨q, 0, none⟩ x).setCell ⟨q, 1, none⟩ y).setCell ⟨q, 2, none⟩ z).heap[q]? = some (.cells #[x, y, z] 34 (0, 0)) ∧ Only (fun i => i = q) u (((u.setCell ⟨q, 0, none⟩ x).setCell ⟨q, 1, none⟩ y).setCell ⟨q, 2, none⟩ z) := by
  refine ⟨?_, ((Only.cell1 u q 0 x).trans (Only.cell1 _ q 1 y)).trans (Only.cell1 _ q 2 z)⟩
  rw [cells_set (cells_set (cells_set hc 0 _) 1 _) 2 _]
  match c, h3 with
  | ⟨[_, _, _]⟩, _ => rfl
/-- A slice of files stays while a block that is none of its is written. -/
theorem LiesFl.stay {w w' : World} {v : Value} {l : List Fl} {q : Nat} (h : LiesFl w v l) (o : Only (fun i => i = q) w w') (hq : ∀ b n c, v = .slice (some b) n c → b.block ≠ q) : LiesFl w' v l := by
  obtain ⟨a, c, e, hc, h⟩ := h
  refine ⟨a, c, e, hc, h.imp id fun ⟨b, off, e2, k⟩ => ⟨b, off, e2, ?_⟩⟩
  have hb : b ≠ q := hq ⟨b, off, none⟩ l.length c (by rw [e, e2])
  refine ⟨Nat.lt_of_lt_of_le k.1 o.size, fun j x hj => ?_⟩
  obtain ⟨k0, k1, k2, k3⟩ := k.2 j x hj
  exact ⟨(o.cell (p := ⟨b, _, none⟩) k.1 hb).trans k0, (o.cell (p := ⟨b, _, none⟩) k.1 hb).trans k1, (o.cell (p := ⟨b, _, none⟩) k.1 hb).trans k2, (o.cell (p := ⟨b, _, none⟩) k.1 hb).trans k3⟩
end Go.Proofs.YtgopodgjnblgkaaDoor
/- A slice of files as a part. -/
namespace Go.Proofs.YtgopodgjnblgkaaDoor
open Go.RowKit FsPlain MnPlain
set_option linter.unusedVariables false
set_option linter.unusedSimpArgs false
set_option maxRecDepth 20000
def FlA (v : Value) (l : List Fl) : Asn := fun w B => LiesFl w v l ∧ (∀ b, B b → b < w.heap.size) ∧ (l = [] ∨ ∃ b o n c, v = .slice (some ⟨b, o, none⟩) n c ∧ B b)
theorem fr_fl (v : Value) (l : List Fl) : Fr (FlA v l) where
  fr := fun {w w' B C} ⟨h, hl, hb⟩ o d => by
    refine ⟨?_, fun b hb => Nat.lt_of_lt_of_le (hl b hb) o.size, hb⟩
    obtain ⟨a, c, e, hc, h⟩ := h
    rcases h with h | ⟨b, off, e2, k⟩
    · exact ⟨a, c, e, hc, .inl h⟩
    · rcases hb with hb | ⟨b', o', n', c', e3, hB⟩
      · exact ⟨a, c, e, hc, .inl hb⟩
      · rw [e, e2] at e3
        simp only [Value.slice.injEq, Option.some.injEq, Addr.mk.injEq] at e3
        obtain ⟨⟨hbb, _, _⟩, _, _⟩ := e3
        have hn : ¬ C b := by rw [hbb]; exact d b' hB
        refine ⟨a, c, e, hc, .inr ⟨b, off, e2, Nat.lt_of_lt_of_le k.1 o.size, fun j x hj => ?_⟩⟩
        obtain ⟨k0, k1, k2, k3⟩ := k.2 j x hj
        exact ⟨(o.cell (p := ⟨b, _, none⟩) k.1 hn).trans k0, (o.cell (p := ⟨b, _, none⟩) k.1 hn).trans k1, (o.cell (p := ⟨b, _, none⟩) k.1 hn).trans k2, (o.cell (p := ⟨b, _, none⟩) k.1 hn).trans k3⟩
  lo := fun ⟨_, hl, _⟩ => hl
/-- What is new lies in new blocks. -/
theorem fl_new {w w' : World} {v : Value} {l : List Fl} (h : LiesFl w' v l) (hn : NewFl w v) : ∃ B, FlA v l w' B ∧ ∀ b, B b → w.heap.size ≤ b := by
  obtain ⟨a, c, e, hc, k⟩ := id h
  rcases k with k | ⟨b, off, e2, k⟩
  · exact ⟨fun _ => False, ⟨h, fun b hb => hb.elim, .inl k⟩, fun b hb => hb.elim⟩
  · refine ⟨fun x => x = b, ⟨h, fun x hx => by rw [hx]; exact k.1, .inr ⟨b, off, _, c, by rw [e, e2], rfl⟩⟩, fun x hx => ?_⟩
    rw [hx]
    exact hn ⟨b, off, none⟩ _ _ (by rw [e, e2])
theorem fl_lies {w : World} {B : Nat → Prop} {v : Value} {l : List Fl} (h : FlA v l w B) : LiesFl w v l := h.1
end Go.Proofs.YtgopodgjnblgkaaDoor

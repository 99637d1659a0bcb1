/- In one text: StLaw. -/
import Derived.Test.YtgopodgjnblgkaaDoorP35
import Derived.Test.YtgopodgjnblgkaaDoorP36
import Derived.Test.YtgopodgjnblgkaaDoorP37
import Derived.Deep.DeepCutAuto
import Derived.Deep.RegionHeld3
/- For the law of layer 21: a step made; a step in a block of its own; the example. (St: the program's stage.) -/
namespace Go.Proofs.YtgopodgjnblgkaaDoor
open Go.RowKit FsPlain MnPlain RnPlain StPlain
set_option linter.unusedVariables false
set_option linter.unusedSimpArgs false
set_option maxRecDepth 20000
theorem sp_store {u : World} {q : Nat} {x0 y0 : Value} (hc : u.heap[q]? = some (.cells #[x0, y0] 25 (0, 0))) (x y : Value) :
    ((u.setCell ⟨q, 0, none⟩ x).setCell ⟨q, 1, none⟩ y).heap[q]? = some (.cells #[x, y] 25 (0, 0)) ∧ Only (fun i => i = q) u ((u.setCell ⟨q, 0, none⟩ x).setCell ⟨q, 1, none⟩ y) :=
  ⟨by rw [cells_set (cells_set hc 0 _) 1 _]; rfl, (Only.cell1 u q 0 x).trans (Only.cell1 _ q 1 y)⟩
theorem sp_cells {u : World} {q : Nat} {x y : Value} (h : u.heap[q]? = some (.cells #[x, y] 25 (0, 0))) : u.cell? ⟨q, 0, none⟩ = some x ∧ u.cell? ⟨q, 1, none⟩ = some y ∧ u.frozen? ⟨q, 0, none⟩ = false ∧ u.frozen? ⟨q, 1, none⟩ = false :=
  ⟨by rw [cells_at h]; rfl, by rw [cells_at h]; rfl, cells_free h 0, cells_free h 1⟩
theorem grd21 {a b : World} (g : Gr a b) : Gr a b.drew := g.drew
theorem grs21 {a b : World} {p i : Nat} {v : Value} (g : Gr a b) (h : a.heap.size ≤ p) : Gr a (b.setCell ⟨p, i, none⟩ v) := Below.setCell g h v
theorem gr21 (w : World) (o : Obj) : Gr w (w.alloc o) := (Gr.refl w).alloc (Nat.le_refl _) o
theorem gra21 {a b : World} {o : Obj} (g : Gr a b) : Gr a (b.alloc o) := g.trans (gr21 b o)
theorem mk21_c (a b : Int) (w : World) : Calls Tryd.prog 5 #[.int .i64 a, .int .i64 b] w fun e w' => e = .returned (.agg #[.int .i64 a, .int .i64 b]) ∧ Gr w w' := by
  go_enter Tryd.func5, Tryd.ntmps5
  go_wp2_with fail
  exact bodyPost_ret (v := .agg #[.int .i64 a, .int .i64 b]) (by simp [results, Tryd.results5, go_sem, World.cell?_alloc_new]) rfl ⟨rfl, gr21 w _⟩
/-- A new step's block, made ahead of the call or behind it. -/
def NxCut (W : World) (t q : Int) (ok : Bool) (v b : Value) (u : World) : Prop := ∃ p, v = .pointer (some ⟨p, 0, none⟩) ∧ b = .bool ok ∧ W.heap.size ≤ p ∧ u.heap[p]? = some (.cells #[.int .i64 t, .int .i64 q] 25 (0, 0)) ∧ Gr W u
theorem nxcut_new {W u : World} {t q : Int} {ok : Bool} (g : Gr W u) : NxCut W t q ok (.pointer (some ⟨u.heap.size, 0, none⟩)) (.bool ok) (u.alloc (.cells #[.int .i64 t, .int .i64 q] 25)) := ⟨_, rfl, rfl, g.size, heap_alloc_new u _, g.trans (gr21 u _)⟩
theorem sp_zero {u w : World} (g : Gr (u.alloc (.cells #[.int .i64 0, .int .i64 0] 25)) w) : w.heap[u.heap.size]? = some (.cells #[.int .i64 0, .int .i64 0] 25 (0, 0)) := (Below.block g _ (by simp)).trans (heap_alloc_new u _)
theorem sp_zerod {u w : World} (g : Gr (u.alloc (.cells #[.int .i64 0, .int .i64 0] 25)).drew w) : w.heap[u.heap.size]? = some (.cells #[.int .i64 0, .int .i64 0] 25 (0, 0)) := sp_zero (Gr.ofDrew g)
theorem nxcut_set {W u : World} {t q : Int} {ok : Bool} {p : Nat} (g : Gr W u) (hp : W.heap.size ≤ p) (h : u.heap[p]? = some (.cells #[.int .i64 0, .int .i64 0] 25 (0, 0))) : NxCut W t q ok (.pointer (some ⟨p, 0, none⟩)) (.bool ok) ((u.setCell ⟨p, 0, none⟩ (.int .i64 t)).setCell ⟨p, 1, none⟩ (.int .i64 q)) := by
  obtain ⟨r1, r2⟩ := sp_store h (.int .i64 t) (.int .i64 q)
  exact ⟨p, rfl, rfl, hp, r1, Below.trans g (r2.toBelow (n := W.heap.size) g.size fun i e => by omega)⟩
/-- Ahead of a step. -/
def St21 (w : World) (S : Nat) (n : Int) (v : Value) (wr : World) : Prop := ∃ (i : Nat) (s p : Int), v = .int .i64 (i : Int) ∧ AtP s p n i ∧ wr.heap[S]? = some (.cells #[.int .i64 s, .int .i64 p] 25 (0, 0)) ∧ Gr w wr
theorem next_64 (s p r : Int) (stop : Bool) (hs : -10 ≤ s ∧ s ≤ 100) (hp : -10 ≤ p ∧ p ≤ 100) : (-10 ≤ (nextP s p r stop).1 ∧ (nextP s p r stop).1 ≤ 101) ∧ (-10 ≤ (nextP s p r stop).2.1 ∧ (nextP s p r stop).2.1 ≤ 101) := by
  unfold nextP
  (repeat' split) <;> simp <;> omega
end Go.Proofs.YtgopodgjnblgkaaDoor

/- In one text: MnBackL. -/
import Derived.Test.YtgobdapngbpoeaaP32
import Derived.Test.YtgobdapngbpoeaaP05
import Derived.Deep.DeepCutAuto
import Derived.Deep.RegionHeld3
/- For ManifestBack: what With and Find leave, in whatever order the memory is made. -/
namespace Go.Proofs.Ytgobdapngbpoeaa
open Go.RowKit FsPlain CrcPlain OctPlain MnPlain
set_option linter.unusedVariables false
set_option linter.unusedSimpArgs false
set_option maxRecDepth 20000
/-- A file f lies in a block of its own at v. -/
def XCut (W : World) (f : Fl) (v b : Value) (w : World) : Prop := ∃ p, v = .pointer (some ⟨p, 0, none⟩) ∧ b = .bool true ∧ w.heap[p]? = some (.cells #[.string f.name, .int .i64 f.size, .int .i64 f.count, .int .u32 f.sum] 27 (0, 0)) ∧ Gr W w
theorem fl_zero19 {u w : World} (g : Gr (u.alloc (.cells #[.string ⟨#[]⟩, .int .i64 0, .int .i64 0, .int .u32 0] 27)) w) : w.heap[u.heap.size]? = some (.cells #[.string ⟨#[]⟩, .int .i64 0, .int .i64 0, .int .u32 0] 27 (0, 0)) := (Below.block g _ (by simp)).trans (heap_alloc_new u _)
theorem fl_zero19d {u w : World} (g : Gr (u.alloc (.cells #[.string ⟨#[]⟩, .int .i64 0, .int .i64 0, .int .u32 0] 27)).drew w) : w.heap[u.heap.size]? = some (.cells #[.string ⟨#[]⟩, .int .i64 0, .int .i64 0, .int .u32 0] 27 (0, 0)) := fl_zero19 (Gr.ofDrew g)
theorem grd19 {a b : World} (g : Gr a b) : Gr a b.drew := g.drew
theorem gra19 {a b : World} {o : Obj} (g : Gr a b) : Gr a (b.alloc o) := g.trans (gr19 b o)
theorem grs19 {a b : World} {p i : Nat} {v : Value} (g : Gr a b) (h : a.heap.size ≤ p) : Gr a (b.setCell ⟨p, i, none⟩ v) := Below.setCell g h v
theorem fl_zeros {w : World} {q : Nat} (h : w.heap[q]? = some (.cells #[.string ⟨#[]⟩, .int .i64 0, .int .i64 0, .int .u32 0] 27 (0, 0))) : (w.cell? ⟨q, 0, none⟩ = some (.string ⟨#[]⟩) ∧ w.cell? ⟨q, 1, none⟩ = some (.int .i64 0) ∧ w.cell? ⟨q, 2, none⟩ = some (.int .i64 0) ∧ w.cell? ⟨q, 3, none⟩ = some (.int .u32 0)) ∧ w.frozen? ⟨q, 0, none⟩ = false ∧ w.frozen? ⟨q, 1, none⟩ = false ∧ w.frozen? ⟨q, 2, none⟩ = false ∧ w.frozen? ⟨q, 3, none⟩ = false := ⟨⟨by rw [cells_at h]; rfl, by rw [cells_at h]; rfl, by rw [cells_at h]; rfl, by rw [cells_at h]; rfl⟩, cells_free h 0, cells_free h 1, cells_free h 2, cells_free h 3⟩
theorem xcut_new {W t : World} {f : Fl} (g : Gr W t) : XCut W f (.pointer (some ⟨t.heap.size, 0, none⟩)) (.bool true) (t.alloc (.cells #[.string f.name, .int .i64 f.size, .int .i64 f.count, .int .u32 f.sum] 27)) := ⟨_, rfl, rfl, heap_alloc_new t _, g.trans (gr19 t _)⟩
theorem xcut_set {W t : World} {f : Fl} {q : Nat} (g : Gr W t) (hq : W.heap.size ≤ q) (h : t.heap[q]? = some (.cells #[.string ⟨#[]⟩, .int .i64 0, .int .i64 0, .int .u32 0] 27 (0, 0))) : XCut W f (.pointer (some ⟨q, 0, none⟩)) (.bool true) ((((t.setCell ⟨q, 0, none⟩ (.string f.name)).setCell ⟨q, 1, none⟩ (.int .i64 f.size)).setCell ⟨q, 2, none⟩ (.int .i64 f.count)).setCell ⟨q, 3, none⟩ (.int .u32 f.sum)) := by
  obtain ⟨r1, r2⟩ := fl_store hq g h rfl f
  exact ⟨q, rfl, rfl, r1, r2⟩
theorem find_with_get (g : Fl) (l : List Fl) : (findF g.name (withF g l)).getD flZ = g ∧ (findF g.name (withF g l)).isSome = true := by rw [find_with]; exact ⟨rfl, rfl⟩
theorem with_names {g : Fl} {l : List Fl} {k : Nat} (hg : g.name.size ≤ k) (h : ∀ f ∈ l, f.name.size ≤ k) : ∀ f ∈ withF g l, f.name.size ≤ k := by
  induction l with
  | nil => intro f hf; unfold withF at hf; rw [List.mem_singleton] at hf; rw [hf]; exact hg
  | cons x t ih =>
    intro f hf
    unfold withF at hf
    split at hf
    · rcases List.mem_cons.1 hf with rfl | hf
      · exact hg
      · exact h f (by simp [hf])
    · rcases List.mem_cons.1 hf with rfl | hf
      · exact h f (by simp)
      · exact ih (fun z hz => h z (by simp [hz])) f hf
theorem with_len (g : Fl) (l : List Fl) : (withF g l).length ≤ l.length + 1 := by
  rw [with_set]
  split
  · rw [set_length]; omega
  · rw [List.length_append, set_length, List.length_singleton]; omega
theorem mnS_is {m : Mn} (hm : mnB m = true) (hK : ∀ f ∈ m.files, flK f) : mnIs (mnS m) m := ⟨hm, fun f hf => ⟨(hK f hf).2.2.2.1, (hK f hf).2.2.2.2⟩, rfl⟩
theorem pt_yes {m : Mn} (hm : mnB m = true) : ptS m = mnS m := by unfold ptS; rw [if_pos hm]
theorem pt_no {m : Mn} (hm : mnB m = false) : ptS m = ⟨#[]⟩ := by unfold ptS; rw [hm]; rfl
end Go.Proofs.Ytgobdapngbpoeaa

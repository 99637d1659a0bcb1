/- What a source has from now on: the program's set. -/
import Derived.Test.YtifpiekajbcoiaaLoMem
import Derived.Test.YtifpiekajbcoiaaClone
import Derived.Deep.RegionLaw
namespace Go.Proofs.Ytifpiekajbcoiaa
open Go.RowKit LoPlain
set_option linter.unusedVariables false
set_option linter.unusedSimpArgs false
set_option maxRecDepth 20000
/-- What a store into a block known whole leaves of its cells. -/
theorem set_cell {w : World} {b : Nat} {c : Array Value} {T : TypeId} (h : w.heap[b]? = some (.cells c T (0, 0))) (i : Nat) (u : Value) (j : Nat) : (w.setCell ⟨b, i, none⟩ u).cell? ⟨b, j, none⟩ = (c.setIfInBounds i u)[j]? := cells_at (cells_set h i u) j
theorem set_free {w : World} {b : Nat} {c : Array Value} {T : TypeId} (h : w.heap[b]? = some (.cells c T (0, 0))) (i : Nat) (u : Value) (j : Nat) : (w.setCell ⟨b, i, none⟩ u).frozen? ⟨b, j, none⟩ = false := cells_free (cells_set h i u) j
theorem some_at {cs : Array Value} {i : Nat} (h : i < cs.size) : ∃ v, cs[i]? = some v := ⟨cs[i], Array.getElem?_eq_getElem h⟩
set_option maxHeartbeats 2000000 in
/-- One is over. -/
theorem set_over_c {p n : Nat} {g : Nat → Option Hd} {left : Int} {f : Nat → Int} {win : Int} {w : World} {B : Nat → Prop} (h : TrA p n g left f win w B) (hl : 1 ≤ left ∧ left ≤ 64) {i : Nat} (hi : i < 64) (s : ByteArray) :
    Calls Try.prog 17 #[.pointer (some ⟨p, 0, none⟩), .int .i64 i, .string s, .bool true] w (Does w B (TrA p n (setA g i ⟨s, true⟩) (left - 1) f win) (.tuple #[])) := by
  obtain ⟨cs, ⟨hb, hB⟩, ht⟩ := h
  have hs := ht.size
  obtain ⟨y1, hy1⟩ := some_at (cs := cs) (i := 2 + i * 2) (by omega)
  obtain ⟨y2, hy2⟩ := some_at (cs := cs) (i := 2 + i * 2 + 1) (by omega)
  have hb1 := cells_set hb (2 + i * 2) (.string ⟨#[]⟩)
  have hb2 := cells_set hb1 (2 + i * 2 + 1) (.bool true)
  have hT : TrC n (setA g i ⟨s, true⟩) left f win ((cs.setIfInBounds (2 + i * 2) (.string ⟨#[]⟩)).setIfInBounds (2 + i * 2 + 1) (.bool true)) := ht.set hi ⟨s, true⟩
  have hb3 := cells_set hb2 1 (.int .i64 (left - 1))
  have f1 : w.cell? ⟨p, 2 + i * 2, none⟩ = some y1 := by rw [cells_at hb]; exact hy1
  have f2 : w.frozen? ⟨p, 2 + i * 2, none⟩ = false := cells_free hb _
  have f3 : (w.setCell ⟨p, 2 + i * 2, none⟩ (.string ⟨#[]⟩)).cell? ⟨p, 2 + i * 2 + 1, none⟩ = some y2 := by rw [cells_at hb1, sib_get _ _ _ _ (by omega), if_neg (by omega)]; exact hy2
  have f4 : (w.setCell ⟨p, 2 + i * 2, none⟩ (.string ⟨#[]⟩)).frozen? ⟨p, 2 + i * 2 + 1, none⟩ = false := cells_free hb1 _
  have f5 : ((w.setCell ⟨p, 2 + i * 2, none⟩ (.string ⟨#[]⟩)).setCell ⟨p, 2 + i * 2 + 1, none⟩ (.bool true)).cell? ⟨p, 1, none⟩ = some (.int .i64 left) := by rw [cells_at hb2]; exact hT.c1
  have f6 : ((w.setCell ⟨p, 2 + i * 2, none⟩ (.string ⟨#[]⟩)).setCell ⟨p, 2 + i * 2 + 1, none⟩ (.bool true)).frozen? ⟨p, 1, none⟩ = false := cells_free hb2 _
  have HE := Lib.hid (show TrA p n (setA g i ⟨s, true⟩) (left - 1) f win (((w.setCell ⟨p, 2 + i * 2, none⟩ (.string ⟨#[]⟩)).setCell ⟨p, 2 + i * 2 + 1, none⟩ (.bool true)).setCell ⟨p, 1, none⟩ (.int .i64 (left - 1))) B from ⟨_, ⟨hb3, hB⟩, hT.left _⟩)
  have HN := Lib.hid (show Nx B w B (((w.setCell ⟨p, 2 + i * 2, none⟩ (.string ⟨#[]⟩)).setCell ⟨p, 2 + i * 2 + 1, none⟩ (.bool true)).setCell ⟨p, 1, none⟩ (.int .i64 (left - 1))) from
    Nx.of (((Only.cell1 w p _ _).trans (Only.cell1 _ p _ _)).trans (Only.cell1 _ p _ _)) (fun b e => (hB b).2 e))
  clear hb hb1 hb2 hb3 hT ht hy1 hy2 hs
  go_enter Try.func17, Try.ntmps17
  go_wp2_with fail
  refine bodyPost_ret (results_none rfl _ _ _) rfl ⟨rfl, B, HE.out, HN.out⟩
set_option maxHeartbeats 4000000 in
/-- One has a head. -/
theorem set_head_c {p n : Nat} {g : Nat → Option Hd} {left : Int} {f : Nat → Int} {win : Int} {w : World} {B : Nat → Prop} (h : TrA p n g left f win w B) {i : Nat} (hi : i < 64) (s : ByteArray) (hz : s.size ≤ 1000) :
    Calls Try.prog 17 #[.pointer (some ⟨p, 0, none⟩), .int .i64 i, .string s, .bool false] w (Does w B (TrA p n (setA g i ⟨s, false⟩) left f win) (.tuple #[])) := by
  have FR := Lib.hid (fun u (q : Gr w u) => (fr_tr p n g left f win).fr h (Only.ofGr (B := fun _ => False) q) (fun _ _ e => e))
  have K : ∀ u, Gr w u → p < w.heap.size ∧ (∃ y, u.cell? ⟨p, 2 + i * 2, none⟩ = some y) ∧ u.frozen? ⟨p, 2 + i * 2, none⟩ = false ∧ (∃ y, (u.setCell ⟨p, 2 + i * 2, none⟩ (.string s)).cell? ⟨p, 2 + i * 2 + 1, none⟩ = some y) ∧ (u.setCell ⟨p, 2 + i * 2, none⟩ (.string s)).frozen? ⟨p, 2 + i * 2 + 1, none⟩ = false ∧
      TrA p n (setA g i ⟨s, false⟩) left f win ((u.setCell ⟨p, 2 + i * 2, none⟩ (.string s)).setCell ⟨p, 2 + i * 2 + 1, none⟩ (.bool false)) B ∧ Nx B w B ((u.setCell ⟨p, 2 + i * 2, none⟩ (.string s)).setCell ⟨p, 2 + i * 2 + 1, none⟩ (.bool false)) := by
    intro u q
    obtain ⟨cs, ⟨hb, hB⟩, ht⟩ := FR.out u q
    have hs := ht.size
    obtain ⟨_, ⟨hb0, _⟩, _⟩ := h
    obtain ⟨y1, hy1⟩ := some_at (cs := cs) (i := 2 + i * 2) (by omega)
    obtain ⟨y2, hy2⟩ := some_at (cs := cs) (i := 2 + i * 2 + 1) (by omega)
    have hb1 := cells_set hb (2 + i * 2) (.string s)
    have hb2 := cells_set hb1 (2 + i * 2 + 1) (.bool false)
    refine ⟨lt_of_block hb0, ⟨y1, by rw [cells_at hb]; exact hy1⟩, cells_free hb _, ⟨y2, by rw [cells_at hb1, sib_get _ _ _ _ (by omega), if_neg (by omega)]; exact hy2⟩, cells_free hb1 _, ⟨_, ⟨hb2, hB⟩, ht.set hi ⟨s, false⟩⟩, ?_⟩
    exact (Nx.gr q).trans (Nx.of ((Only.cell1 u p _ _).trans (Only.cell1 _ p _ _)) (fun b e => (hB b).2 e))
  have HK := Lib.hid K
  have C := Lib.hid (fun u (q : Gr w u) => (clone_c s u hz).mono (R' := fun e u' => e = .returned (.string s) ∧ Gr w u' ∧ (∃ y, u'.cell? ⟨p, 2 + i * 2, none⟩ = some y) ∧ u'.frozen? ⟨p, 2 + i * 2, none⟩ = false ∧ (∃ y, (u'.setCell ⟨p, 2 + i * 2, none⟩ (.string s)).cell? ⟨p, 2 + i * 2 + 1, none⟩ = some y) ∧ (u'.setCell ⟨p, 2 + i * 2, none⟩ (.string s)).frozen? ⟨p, 2 + i * 2 + 1, none⟩ = false) (fun e u' h => by
    have q' := q.trans h.2
    have k := HK.out u' q'
    exact ⟨h.1, q', k.2.1, k.2.2.1, k.2.2.2.1, k.2.2.2.2.1⟩))
  have gd : Gr w w.drew := grN w 1
  have hi2 : (i : Int) < 64 := by omega
  clear K h FR
  go_enter Try.func17, Try.ntmps17
  go_wp2_with fail
  go_region_law (go_simp; go_at_call 19; ((with_reducible refine (C.out _ (by assumption)).mono ?_); rintro e u ⟨rfl, gu, ⟨y1, c1⟩, c2, ⟨y2, c3⟩, c4⟩))
  refine bodyPost_end (results_none rfl _ _ _) rfl ⟨rfl, B, (HK.out u gu).2.2.2.2.2.1, (HK.out u gu).2.2.2.2.2.2⟩
end Go.Proofs.Ytifpiekajbcoiaa

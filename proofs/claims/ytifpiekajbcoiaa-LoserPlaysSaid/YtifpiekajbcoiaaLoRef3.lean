/- The document's tree: New. -/
import Derived.Test.YtifpiekajbcoiaaLoRef2
import Derived.Test.YtifpiekajbcoiaaTextW
import Derived.Deep.AppendLies
namespace Go.Proofs.Ytifpiekajbcoiaa
open Go.RowKit LoPlain
set_option linter.unusedVariables false
set_option linter.unusedSimpArgs false
set_option maxRecDepth 20000
/-- A new one. -/
structure RLoMade (l : List Hd) (w : World) (e : Ending) (w' : World) : Prop where
  made : ∃ q B, e = .returned (.pointer (some ⟨q, 0, none⟩)) ∧ RLoA q l w' B ∧ ∀ b, B b → w.heap.size ≤ b
  gr : Gr w w'
theorem hdS_snoc (l : List Hd) (x : Hd) : hdS (l ++ [x]) = hdS l ++ [.string x.s] := by simp [hdS]
theorem hdO_snoc (l : List Hd) (x : Hd) : hdO (l ++ [x]) = hdO l ++ [.bool x.o] := by simp [hdO]
def NewAt (l : List Hd) (w : World) (i : Value) (wr : World) : Prop :=
  ∃ (j : Nat) (v1 v2 : Value) (B : Nat → Prop), j ≤ l.length ∧ i = .int .i64 (j : Int) ∧ stars (rlps w.heap.size v1 v2 (l.take j)) wr B ∧ Nx (fun _ => False) w B wr
/-- A row of a tree appended to, its field written. -/
theorem rlo_app1 {q : Nat} {v1 v2 : Value} {l : List Hd} {u u1 w1 : World} {B : Nat → Prop} {g c : Nat} {s : ByteArray} (h : stars (rlps q v1 v2 l) u B) (gr : Gr u u1) (hown : w1.ownsRow 0 9 1 (.slice (some ⟨g, 0, none⟩) (l.length + 1) c) (l.length + 1) (hdS l ++ [.string s])) (hg : u1.grownBy w1 v1.ownBlock) (hat : v1.ownBlock = some g ∨ g = u1.heap.size) :
    (w1.frozen? ⟨q, 0, none⟩ = false ∧ w1.cell? ⟨q, 0, none⟩ = some v1 ∧ w1.cell? ⟨q, 1, none⟩ = some v2) ∧
    ∃ B', stars [Blk q #[.slice (some ⟨g, 0, none⟩) (l.length + 1) c, v2] 36, RowE 9 1 (.slice (some ⟨g, 0, none⟩) (l.length + 1) c) (l.length + 1) (hdS l ++ [.string s]), RowE 4 1 v2 l.length (hdO l)] (w1.setCell ⟨q, 0, none⟩ (.slice (some ⟨g, 0, none⟩) (l.length + 1) c)) B' ∧ Nx B u B' (w1.setCell ⟨q, 0, none⟩ (.slice (some ⟨g, 0, none⟩) (l.length + 1) c)) := by
  obtain ⟨B1, s1, n1⟩ := step_at (w' := w1) (Q := RowE 9 1 (.slice (some ⟨g, 0, none⟩) (l.length + 1) c) (l.length + 1) (hdS l ++ [.string s])) 1 rfl (frs_rlps q v1 v2 l) h (fun B1 k => rowE_app k gr hown hg hat)
  obtain ⟨_, hb, _⟩ := part_at 0 rfl s1
  obtain ⟨B2, s2, n2⟩ := step_at (Q := Blk q #[.slice (some ⟨g, 0, none⟩) (l.length + 1) c, v2] 36) 0 rfl (show Frs [Blk q #[v1, v2] 36, RowE 9 1 (.slice (some ⟨g, 0, none⟩) (l.length + 1) c) (l.length + 1) (hdS l ++ [.string s]), RowE 4 1 v2 l.length (hdO l)] from ⟨fr_blk _ _ _, fr_rowE _ _ _ _ _, fr_rowE _ _ _ _ _, trivial⟩) s1 (fun B1 k => blk_next (i := 0) k (.slice (some ⟨g, 0, none⟩) (l.length + 1) c))
  exact ⟨⟨cells_free hb.1 0, by rw [cells_at hb.1]; rfl, by rw [cells_at hb.1]; rfl⟩, B2, s2, n1.trans n2⟩
theorem rlo_app2 {q : Nat} {v1 v2 : Value} {l : List Hd} {x : Hd} {u u1 w1 : World} {B : Nat → Prop} {g c : Nat} (h : stars [Blk q #[v1, v2] 36, RowE 9 1 v1 (l.length + 1) (hdS l ++ [.string x.s]), RowE 4 1 v2 l.length (hdO l)] u B) (gr : Gr u u1) (hown : w1.ownsRow 0 4 1 (.slice (some ⟨g, 0, none⟩) (l.length + 1) c) (l.length + 1) (hdO l ++ [.bool x.o])) (hg : u1.grownBy w1 v2.ownBlock) (hat : v2.ownBlock = some g ∨ g = u1.heap.size) :
    (w1.frozen? ⟨q, 1, none⟩ = false ∧ w1.cell? ⟨q, 1, none⟩ = some v2) ∧
    ∃ B', stars (rlps q v1 (.slice (some ⟨g, 0, none⟩) (l.length + 1) c) (l ++ [x])) (w1.setCell ⟨q, 1, none⟩ (.slice (some ⟨g, 0, none⟩) (l.length + 1) c)) B' ∧ Nx B u B' (w1.setCell ⟨q, 1, none⟩ (.slice (some ⟨g, 0, none⟩) (l.length + 1) c)) := by
  obtain ⟨B1, s1, n1⟩ := step_at (w' := w1) (Q := RowE 4 1 (.slice (some ⟨g, 0, none⟩) (l.length + 1) c) (l.length + 1) (hdO l ++ [.bool x.o])) 2 rfl (show Frs [Blk q #[v1, v2] 36, RowE 9 1 v1 (l.length + 1) (hdS l ++ [.string x.s]), RowE 4 1 v2 l.length (hdO l)] from ⟨fr_blk _ _ _, fr_rowE _ _ _ _ _, fr_rowE _ _ _ _ _, trivial⟩) h (fun B1 k => rowE_app k gr hown hg hat)
  obtain ⟨_, hb, _⟩ := part_at 0 rfl s1
  obtain ⟨B2, s2, n2⟩ := step_at (Q := Blk q #[v1, .slice (some ⟨g, 0, none⟩) (l.length + 1) c] 36) 0 rfl (show Frs [Blk q #[v1, v2] 36, RowE 9 1 v1 (l.length + 1) (hdS l ++ [.string x.s]), RowE 4 1 (.slice (some ⟨g, 0, none⟩) (l.length + 1) c) (l.length + 1) (hdO l ++ [.bool x.o])] from ⟨fr_blk _ _ _, fr_rowE _ _ _ _ _, fr_rowE _ _ _ _ _, trivial⟩) s1 (fun B1 k => blk_next (i := 1) k (.slice (some ⟨g, 0, none⟩) (l.length + 1) c))
  refine ⟨⟨cells_free hb.1 1, by rw [cells_at hb.1]; rfl⟩, B2, ?_, n1.trans n2⟩
  unfold rlps
  rw [hdS_snoc, hdO_snoc, List.length_append, List.length_singleton]
  exact s2
/-- The rows of such three parts lie apart from the block. -/
theorem rlps_ne {q : Nat} {c : Array Value} {T E1 E2 : TypeId} {v1 v2 : Value} {n1 n2 : Nat} {x1 x2 : List Value} {w : World} {B : Nat → Prop} (h : stars [Blk q c T, RowE E1 1 v1 n1 x1, RowE E2 1 v2 n2 x2] w B) :
    (∀ b, v1.ownBlock = some b → b ≠ q ∧ B b) ∧ (∀ b, v2.ownBlock = some b → b ≠ q ∧ B b) := by
  obtain ⟨B1, B2, hb, ⟨B3, B4, h1, ⟨B5, B6, h2, _, _, e3⟩, _, e2⟩, a, e⟩ := h
  have hq : B1 q := (hb.2 q).2 rfl
  refine ⟨fun b k => ?_, fun b k => ?_⟩
  · have h3 := (e2 b).2 (.inl (h1.2.1 b k))
    exact ⟨fun e' => a q hq (e' ▸ h3), (e b).2 (.inr h3)⟩
  · have h3 := (e2 b).2 (.inr ((e3 b).2 (.inl (h2.2.1 b k))))
    exact ⟨fun e' => a q hq (e' ▸ h3), (e b).2 (.inr h3)⟩
set_option maxHeartbeats 4000000 in
theorem rlo_new_c {w : World} {v1 v2 : Value} {hs : List ByteArray} {os : List Bool} (h1 : Lies w v1 hs) (h2 : LiesV w v2 (bools os)) (hn : hs.length ≤ 64) (ho : os.length ≤ 1000000) :
    Calls Try.prog 8 #[v1, v2] w (RLoMade (mkL hs os) w) := by
  obtain ⟨i0, hi, hz0, hz1, hz2⟩ := info_parts infoS
  obtain ⟨i1, hi1, hy0, hy1, hy2⟩ := info_parts infoB
  obtain ⟨n, hnn⟩ : ∃ n, hs.length = n := ⟨_, rfl⟩
  obtain ⟨m, hmm⟩ : ∃ m, os.length = m := ⟨_, rfl⟩
  have hln : (mkL hs os).length = n := by rw [mkL_length, hnn]
  obtain ⟨ha, hc, rfl, hcap, hh⟩ := h1
  obtain ⟨oa, oc, rfl, ocap, oh⟩ := h2
  have hbl : (bools os).length = m := by simpa [bools] using hmm
  rw [hbl]
  rw [hnn] at hn ⊢
  rw [hmm] at ho
  have HH : 1 ≤ n → ∃ b off, ha = some ⟨b, off, none⟩ ∧ SRow w b off hs := fun k => hh.elim (fun e => by rw [e] at hnn; simp at hnn; omega) id
  have OH : 1 ≤ m → ∃ b off, oa = some ⟨b, off, none⟩ ∧ VRow w b off (bools os) := fun k => oh.elim (fun e => by rw [e] at hbl; simp at hbl; omega) id
  have H1 := Lib.hid HH
  have H2 := Lib.hid OH
  have HL := Lib.hid hln
  have HN := Lib.hid hnn
  have HM := Lib.hid hmm
  have hnI : (n : Int) ≤ 64 := by omega
  clear HH OH hh oh hln hnn hmm hbl hcap ocap
  go_enter Try.func8, Try.ntmps8
  go_wp2_with fail
  go_loopw [6] (fun i wr => NewAt (mkL hs os) w i wr) (fun i _ => n - (intOf i).toNat)
  case atStart =>
    refine ⟨0, .slice none 0 0, .slice none 0 0, fun b => b = w.heap.size, Nat.zero_le _, rfl, ?_, Only.ofGr (Below.alloc (Below.refl _ _) (Nat.le_refl _) _), fun b hb => .inr (by omega)⟩
    refine ⟨fun b => b = w.heap.size, fun _ => False, ⟨heap_alloc_new w _, fun b => Iff.rfl⟩, ⟨fun _ => False, fun _ => False, rowE_nil _ _ _, ⟨fun _ => False, fun _ => False, rowE_nil _ _ _, fun b h => h, fun b h => h.elim, fun b => by simp⟩, fun b h => h.elim, fun b => by simp⟩, fun b _ h => h.elim, fun b => by simp⟩
  case round =>
    obtain ⟨j, u1, u2, B, hj, rfl, hst, nx⟩ := hrel
    have hln := HL.out
    have hjl : ((mkL hs os).take j).length = j := by rw [List.length_take]; omega
    by_cases hlt : j < n
    · obtain ⟨s, hs'⟩ : ∃ s, hs[j]? = some s := ⟨hs[j]'(by have := HN.out; omega), List.getElem?_eq_getElem _⟩
      have hx := mkL_at hs os j s hs'
      have hstep : (mkL hs os).take (j + 1) = (mkL hs os).take j ++ [⟨s, (os[j]?).getD false⟩] := by rw [List.take_add_one, hx]; rfl
      have HST := Lib.hid hstep
      obtain ⟨hb, off, rfl, hrow⟩ := H1.out (by omega)
      have hws := nx.only.size
      have cs : wr.cell? ⟨hb, off + j, none⟩ = some (.string s) := by rw [nx.only.cell (p := ⟨hb, off + j, none⟩) hrow.1 (fun h => h)]; exact hrow.2 j s hs'
      obtain ⟨_, hbk, _⟩ := part_at 0 rfl hst
      obtain ⟨_, hr1, _⟩ := part_at 1 rfl hst
      obtain ⟨a1, c1, e1, _⟩ := rowE_shape hr1
      rw [hjl] at e1
      subst e1
      have k0 : wr.cell? ⟨w.heap.size, 0, none⟩ = some (.slice a1 j c1) := by rw [cells_at hbk.1]; rfl
      have hqlt := lt_of_block hbk.1
      have hr1o := hr1.1
      rw [hjl] at hr1o
      have RW := Lib.hid hr1o
      generalize (mkL hs os).take j = L at hst hjl RW HST
      have hneq : hb ≠ w.heap.size := by have := hrow.1; omega
      have hhb : hb < wr.heap.size := Nat.lt_of_lt_of_le hrow.1 hws
      have H := Lib.hid hst
      have NX := Lib.hid nx
      have hne1 := (rlps_ne hst).1
      have HQ1 := Lib.hid (show some w.heap.size ≠ (Value.slice a1 j c1).ownBlock from fun e => (hne1 _ e.symm).1 rfl)
      have HQ2 := Lib.hid (show some hb ≠ (Value.slice a1 j c1).ownBlock from fun e => by
        rcases nx.new _ (hne1 _ e.symm).2 with h | h
        · exact h
        · have := hrow.1; omega)
      have fz : wr.frozen? ⟨w.heap.size, 0, none⟩ = false := cells_free hbk.1 0
      have SH := Lib.hid (fun u (g : Gr wr u) => (⟨by rw [Below.cell g (p := ⟨w.heap.size, 0, none⟩) hqlt]; exact k0, by rw [Below.cell g (p := ⟨hb, off + j, none⟩) hhb]; exact cs, cells_free ((g.block _ hqlt).trans hbk.1) 0⟩ :
        u.cell? ⟨w.heap.size, 0, none⟩ = some (.slice a1 j c1) ∧ u.cell? ⟨hb, off + j, none⟩ = some (.string s) ∧ u.frozen? ⟨w.heap.size, 0, none⟩ = false))
      obtain ⟨g, cap, w1, hrun, hown1, hgrow, hat, hlt1⟩ := run_append_lies (P := Try.prog) ((wr.alloc (.cells #[.string s] 9)).drew) 22 22 0 9 i0 (.string ⟨#[]⟩) 1 16 Try.underlying22 hi hz0 hz1 hz2 rfl (by decide) (.slice a1 j c1) j (hdS L) (ownsRow_gr RW.out (Below.drew (Below.alloc (Below.refl _ _) (Nat.le_refl _) _))) ⟨wr.heap.size, 0, none⟩ 1 1 [.string s] rfl (World.news_of_block (show ((wr.alloc _).drew).heap[wr.heap.size]? = _ from heap_alloc_new wr _)) (by simp [Value.oneCell']) (by omega) (by unfold maxLen; omega) (by omega) (Nat.zero_le _) _ rfl
      have z0 : w1.cell? ⟨w.heap.size, 0, none⟩ = some (.slice a1 j c1) := by rw [hgrow.cell_far _ (by simp; omega) HQ1.out]; exact (SH.out _ (Below.drew (Below.alloc (Below.refl _ _) (Nat.le_refl _) _))).1
      have z1 : w1.cell? ⟨hb, off + j, none⟩ = some (.string s) := by rw [hgrow.cell_far _ (by simp; omega) HQ2.out]; exact (SH.out _ (Below.drew (Below.alloc (Below.refl _ _) (Nat.le_refl _) _))).2.1
      have z2 : w1.frozen? ⟨w.heap.size, 0, none⟩ = false := by rw [hgrow.frozen_far _ (by simp; omega) HQ1.out]; exact (SH.out _ (Below.drew (Below.alloc (Below.refl _ _) (Nat.le_refl _) _))).2.2
      have M := Lib.hid (rlo_app1 (q := w.heap.size) (s := s) H.out (Below.drew (Below.alloc (Below.refl _ _) (Nat.le_refl _) (.cells #[.string s] 9))) (by rw [hjl]; exact hown1) hgrow hat)
      have HR := Lib.hid hrun
      have S0 := Lib.hid (ws4_all (S := fun u => u.cell? ⟨w.heap.size, 0, none⟩ = some (.slice a1 j c1) ∧ u.cell? ⟨hb, off + j, none⟩ = some (.string s)) (a := wr.drew) (b := (wr.alloc (.cells #[.string s] 9)).drew) (c := w1) (d := w1.setCell ⟨w.heap.size, 0, none⟩ (.slice (some ⟨g, 0, none⟩) (j + 1) cap)) ⟨k0, cs⟩ ⟨(SH.out _ (Below.drew (Below.alloc (Below.refl _ _) (Nat.le_refl _) _))).1, (SH.out _ (Below.drew (Below.alloc (Below.refl _ _) (Nat.le_refl _) _))).2.1⟩ ⟨z0, z1⟩)
      clear hst hbk hr1 hr1o hx hstep hs' hrow nx hne1 hrun hown1 hgrow hat
      go_wp2_with fail
      refine textW_region [9, 10, 13] (Ws4 wr.drew ((wr.alloc (.cells #[.string s] 9)).drew) w1 (w1.setCell ⟨w.heap.size, 0, none⟩ (.slice (some ⟨g, 0, none⟩) (j + 1) cap))) (fun u => u.cell? ⟨w.heap.size, 0, none⟩ = some (.slice a1 j c1) ∧ u.cell? ⟨hb, off + j, none⟩ = some (.string s)) (by kernel_rfl) (by kernel_rfl) (by kernel_rfl) (by kernel_rfl) (by kernel_rfl) rfl S0.out ?_
      iterate 9 (first
        | (refine textW_skip (by decide) (by rfl) ?_; (try simp only [Act.put, List.setIfInBounds_toArray, List.set_cons_zero, List.set_cons_succ]))
        | (refine textW_val (v := ?_) (by decide) (by rfl) ?_ ?_; rotate_left 1; (· intro u hu; (try dsimp only at hu); go_simp <;> with_reducible rfl); (try simp only [Act.put, List.setIfInBounds_toArray, List.set_cons_zero, List.set_cons_succ])))
      refine textW_mut (v := .slice (some ⟨wr.heap.size, 0, none⟩) 1 1) 0 rfl (by rfl) (by unfold Ws4; go_simp) ?_
      (try simp only [Act.put, List.setIfInBounds_toArray, List.set_cons_zero, List.set_cons_succ])
      refine textW_mut (v := .slice (some ⟨g, 0, none⟩) (j + 1) cap) 1 rfl (by rfl) (exec_append (.tmp 22) (.tmp 27) _ _ (by rfl) (by rfl) (by rfl) HR.out) ?_
      (try simp only [Act.put, List.setIfInBounds_toArray, List.set_cons_zero, List.set_cons_succ])
      iterate 2 (first
        | (refine textW_skip (by decide) (by rfl) ?_; (try simp only [Act.put, List.setIfInBounds_toArray, List.set_cons_zero, List.set_cons_succ]))
        | (refine textW_val (v := ?_) (by decide) (by rfl) ?_ ?_; rotate_left 1; (· intro u hu; (try dsimp only at hu); go_simp <;> with_reducible rfl); (try simp only [Act.put, List.setIfInBounds_toArray, List.set_cons_zero, List.set_cons_succ])))
      refine textW_store 2 rfl (by rfl) (by rfl) (by unfold Ws4; go_simp) ?_
      refine textW_done ?_
      dsimp only [Ws4, List.length]
      obtain ⟨_, B2, hst2, nx2'⟩ := M.out
      rw [hjl] at hst2 nx2'
      have nx2 := NX.out.trans nx2'
      obtain ⟨w3, hw3⟩ : ∃ w3, w1.setCell ⟨w.heap.size, 0, none⟩ (.slice (some ⟨g, 0, none⟩) (j + 1) cap) = w3 := ⟨_, rfl⟩
      rw [hw3] at hst2 nx2 ⊢
      clear hw3 nx2' M NX HR S0 z0 z1 z2 hlt1 H
      obtain ⟨_, hbk2, _⟩ := part_at 0 rfl hst2
      obtain ⟨_, hr2, _⟩ := part_at 2 rfl hst2
      obtain ⟨a2, c2, e2, _⟩ := rowE_shape hr2
      subst e2
      have k1 : w3.cell? ⟨w.heap.size, 1, none⟩ = some (.slice a2 j c2) := by rw [cells_at hbk2.1]; rfl
      have hqlt2 := lt_of_block hbk2.1
      have RW2 := Lib.hid hr2.1
      have hne2 := (rlps_ne hst2).2
      have HQ3 := Lib.hid (show some w.heap.size ≠ (Value.slice a2 j c2).ownBlock from fun e => (hne2 _ e.symm).1 rfl)
      have SH2 := Lib.hid (fun u (g : Gr w3 u) => (⟨by rw [Below.cell g (p := ⟨w.heap.size, 1, none⟩) hqlt2]; exact k1, cells_free ((g.block _ hqlt2).trans hbk2.1) 1⟩ :
          u.cell? ⟨w.heap.size, 1, none⟩ = some (.slice a2 j c2) ∧ u.frozen? ⟨w.heap.size, 1, none⟩ = false))
      have H2s := Lib.hid hst2
      have NX2 := Lib.hid nx2
      have f2 : w3.frozen? ⟨w.heap.size, 1, none⟩ = false := cells_free hbk2.1 1
      have LL := Lib.hid hjl
      clear hst2 hr2 hne2 k0 fz hbk2 RW SH HQ1 HQ2
      by_cases hov : j < m
      · obtain ⟨ob, hob⟩ : ∃ ob, os[j]? = some ob := ⟨os[j]'(by have := HM.out; omega), List.getElem?_eq_getElem _⟩
        have HOB := Lib.hid (show (os[j]?).getD false = ob by rw [hob]; rfl)
        obtain ⟨bo, oo, rfl, hor⟩ := H2.out (by omega)
        have hbw : bo < w3.heap.size := Nat.lt_of_lt_of_le hor.1 NX2.out.only.size
        have co : w3.cell? ⟨bo, oo + j, none⟩ = some (.bool ob) := by
          rw [NX2.out.only.cell (p := ⟨bo, oo + j, none⟩) hor.1 (fun h => h)]; exact hor.2 j _ (by unfold bools; rw [List.getElem?_map, hob]; rfl)
        have HQ4 := Lib.hid (show some bo ≠ (Value.slice a2 j c2).ownBlock from fun e => by
          rcases NX2.out.new _ ((rlps_ne H2s.out).2 _ e.symm).2 with h | h
          · exact h
          · have := hor.1; omega)
        have t1 : decide ((j : Int) < (m : Int)) = true := by simpa using hov
        clear hob hor
        obtain ⟨g2, cap2, w4, hrun, hown1, hgrow, hat, hlt1⟩ := run_append_lies (P := Try.prog) ((w3.alloc (.cells #[.bool ob] 4)).drew) 23 23 0 4 i1 (.bool false) 1 1 Try.underlying23 hi1 hy0 hy1 hy2 rfl (by decide) (.slice a2 j c2) j (hdO L) (ownsRow_gr RW2.out (Below.drew (Below.alloc (Below.refl _ _) (Nat.le_refl _) _))) ⟨w3.heap.size, 0, none⟩ 1 1 [.bool ob] rfl (World.news_of_block (show ((w3.alloc _).drew).heap[w3.heap.size]? = _ from heap_alloc_new w3 _)) (by simp [Value.oneCell']) (by omega) (by unfold maxLen; omega) (by omega) (Nat.zero_le _) _ rfl
        have z0 : w4.cell? ⟨w.heap.size, 1, none⟩ = some (.slice a2 j c2) := by rw [hgrow.cell_far _ (by simp; omega) HQ3.out]; exact (SH2.out _ (Below.drew (Below.alloc (Below.refl _ _) (Nat.le_refl _) _))).1
        have z2 : w4.frozen? ⟨w.heap.size, 1, none⟩ = false := by rw [hgrow.frozen_far _ (by simp; omega) HQ3.out]; exact (SH2.out _ (Below.drew (Below.alloc (Below.refl _ _) (Nat.le_refl _) _))).2
        have z1 : w4.cell? ⟨bo, oo + j, none⟩ = some (.bool ob) := by rw [hgrow.cell_far _ (by simp; omega) HQ4.out, Below.cell (Below.drew (Below.alloc (Below.refl _ _) (Nat.le_refl _) _)) (p := ⟨bo, oo + j, none⟩) hbw]; exact co
        have M := Lib.hid (rlo_app2 (q := w.heap.size) (x := ⟨s, ob⟩) (l := L) (by rw [hjl]; exact H2s.out) (Below.drew (Below.alloc (Below.refl _ _) (Nat.le_refl _) (.cells #[.bool ob] 4))) (by rw [hjl]; exact hown1) hgrow hat)
        have HR := Lib.hid hrun
        have S0 := Lib.hid (ws4_all (S := fun u => u.cell? ⟨w.heap.size, 1, none⟩ = some (.slice a2 j c2) ∧ u.cell? ⟨bo, oo + j, none⟩ = some (.bool ob)) (a := w3.drew) (b := (w3.alloc (.cells #[.bool ob] 4)).drew) (c := w4) (d := w4.setCell ⟨w.heap.size, 1, none⟩ (.slice (some ⟨g2, 0, none⟩) (j + 1) cap2)) ⟨k1, co⟩ ⟨(SH2.out _ (Below.drew (Below.alloc (Below.refl _ _) (Nat.le_refl _) _))).1, (by rw [Below.cell (Below.drew (Below.alloc (Below.refl _ _) (Nat.le_refl _) _)) (p := ⟨bo, oo + j, none⟩) hbw]; exact co)⟩ ⟨z0, z1⟩)
        clear hrun hown1 hgrow hat hjl
        go_wp2_with fail
        refine textW_region [15, 16, 19] (Ws4 w3.drew ((w3.alloc (.cells #[.bool ob] 4)).drew) w4 (w4.setCell ⟨w.heap.size, 1, none⟩ (.slice (some ⟨g2, 0, none⟩) (j + 1) cap2))) (fun u => u.cell? ⟨w.heap.size, 1, none⟩ = some (.slice a2 j c2) ∧ u.cell? ⟨bo, oo + j, none⟩ = some (.bool ob)) (by kernel_rfl) (by kernel_rfl) (by kernel_rfl) (by kernel_rfl) (by kernel_rfl) rfl S0.out ?_
        iterate 15 (first
          | (refine textW_skip (by decide) (by rfl) ?_; (try simp only [Act.put, List.setIfInBounds_toArray, List.set_cons_zero, List.set_cons_succ]))
          | (refine textW_val (v := ?_) (by decide) (by rfl) ?_ ?_; rotate_left 1; (· intro u hu; (try dsimp only at hu); go_simp <;> with_reducible rfl); (try simp only [Act.put, List.setIfInBounds_toArray, List.set_cons_zero, List.set_cons_succ])))
        refine textW_mut (v := .slice (some ⟨w3.heap.size, 0, none⟩) 1 1) 0 rfl (by rfl) (by unfold Ws4; go_simp) ?_
        (try simp only [Act.put, List.setIfInBounds_toArray, List.set_cons_zero, List.set_cons_succ])
        refine textW_mut (v := .slice (some ⟨g2, 0, none⟩) (j + 1) cap2) 1 rfl (by rfl) (exec_append (.tmp 35) (.tmp 46) _ _ (by rfl) (by rfl) (by rfl) HR.out) ?_
        (try simp only [Act.put, List.setIfInBounds_toArray, List.set_cons_zero, List.set_cons_succ])
        iterate 2 (first
          | (refine textW_skip (by decide) (by rfl) ?_; (try simp only [Act.put, List.setIfInBounds_toArray, List.set_cons_zero, List.set_cons_succ]))
          | (refine textW_val (v := ?_) (by decide) (by rfl) ?_ ?_; rotate_left 1; (· intro u hu; (try dsimp only at hu); go_simp <;> with_reducible rfl); (try simp only [Act.put, List.setIfInBounds_toArray, List.set_cons_zero, List.set_cons_succ])))
        refine textW_store 2 rfl (by rfl) (by rfl) (by unfold Ws4; go_simp) ?_
        refine textW_done ?_
        dsimp only [Ws4, List.length]
        obtain ⟨_, B3, hst3, nx3⟩ := M.out
        rw [LL.out] at hst3 nx3
        obtain ⟨w5, hw5⟩ : ∃ w5, w4.setCell ⟨w.heap.size, 1, none⟩ (.slice (some ⟨g2, 0, none⟩) (j + 1) cap2) = w5 := ⟨_, rfl⟩
        rw [hw5] at hst3 nx3 ⊢
        have M3 := Lib.hid hst3
        have N3 := Lib.hid nx3
        clear hw5 hst3 nx3 M HR S0 z0 z2 hlt1 SH2
        go_wp2_with fail
        refine ⟨⟨j + 1, _, _, B3, by omega, rfl, by rw [HST.out, HOB.out]; exact M3.out, NX2.out.trans N3.out⟩, ?_⟩
        simp [intOf]; omega
      · have HOB := Lib.hid (show (os[j]?).getD false = false by rw [List.getElem?_eq_none (by have := HM.out; omega)]; rfl)
        have t1 : decide ((j : Int) < (m : Int)) = false := by simpa using hov
        obtain ⟨g2, cap2, w4, hrun, hown1, hgrow, hat, hlt1⟩ := run_append_lies (P := Try.prog) ((w3.alloc (.cells #[.bool false] 4)).drew) 23 23 0 4 i1 (.bool false) 1 1 Try.underlying23 hi1 hy0 hy1 hy2 rfl (by decide) (.slice a2 j c2) j (hdO L) (ownsRow_gr RW2.out (Below.drew (Below.alloc (Below.refl _ _) (Nat.le_refl _) _))) ⟨w3.heap.size, 0, none⟩ 1 1 [.bool false] rfl (World.news_of_block (show ((w3.alloc _).drew).heap[w3.heap.size]? = _ from heap_alloc_new w3 _)) (by simp [Value.oneCell']) (by omega) (by unfold maxLen; omega) (by omega) (Nat.zero_le _) _ rfl
        have z0 : w4.cell? ⟨w.heap.size, 1, none⟩ = some (.slice a2 j c2) := by rw [hgrow.cell_far _ (by simp; omega) HQ3.out]; exact (SH2.out _ (Below.drew (Below.alloc (Below.refl _ _) (Nat.le_refl _) _))).1
        have z2 : w4.frozen? ⟨w.heap.size, 1, none⟩ = false := by rw [hgrow.frozen_far _ (by simp; omega) HQ3.out]; exact (SH2.out _ (Below.drew (Below.alloc (Below.refl _ _) (Nat.le_refl _) _))).2
        
        have M := Lib.hid (rlo_app2 (q := w.heap.size) (x := ⟨s, false⟩) (l := L) (by rw [hjl]; exact H2s.out) (Below.drew (Below.alloc (Below.refl _ _) (Nat.le_refl _) (.cells #[.bool false] 4))) (by rw [hjl]; exact hown1) hgrow hat)
        have HR := Lib.hid hrun
        have S0 := Lib.hid (ws4_all (S := fun u => u.cell? ⟨w.heap.size, 1, none⟩ = some (.slice a2 j c2)) (a := w3.drew) (b := (w3.alloc (.cells #[.bool false] 4)).drew) (c := w4) (d := w4.setCell ⟨w.heap.size, 1, none⟩ (.slice (some ⟨g2, 0, none⟩) (j + 1) cap2)) k1 (SH2.out _ (Below.drew (Below.alloc (Below.refl _ _) (Nat.le_refl _) _))).1 z0)
        clear hrun hown1 hgrow hat hjl
        go_wp2_with fail
        refine textW_region [15, 16, 19] (Ws4 w3.drew ((w3.alloc (.cells #[.bool false] 4)).drew) w4 (w4.setCell ⟨w.heap.size, 1, none⟩ (.slice (some ⟨g2, 0, none⟩) (j + 1) cap2))) (fun u => u.cell? ⟨w.heap.size, 1, none⟩ = some (.slice a2 j c2)) (by kernel_rfl) (by kernel_rfl) (by kernel_rfl) (by kernel_rfl) (by kernel_rfl) rfl S0.out ?_
        iterate 15 (first
          | (refine textW_skip (by decide) (by rfl) ?_; (try simp only [Act.put, List.setIfInBounds_toArray, List.set_cons_zero, List.set_cons_succ]))
          | (refine textW_val (v := ?_) (by decide) (by rfl) ?_ ?_; rotate_left 1; (· intro u hu; (try dsimp only at hu); go_simp <;> with_reducible rfl); (try simp only [Act.put, List.setIfInBounds_toArray, List.set_cons_zero, List.set_cons_succ])))
        refine textW_mut (v := .slice (some ⟨w3.heap.size, 0, none⟩) 1 1) 0 rfl (by rfl) (by unfold Ws4; go_simp) ?_
        (try simp only [Act.put, List.setIfInBounds_toArray, List.set_cons_zero, List.set_cons_succ])
        refine textW_mut (v := .slice (some ⟨g2, 0, none⟩) (j + 1) cap2) 1 rfl (by rfl) (exec_append (.tmp 35) (.tmp 46) _ _ (by rfl) (by rfl) (by rfl) HR.out) ?_
        (try simp only [Act.put, List.setIfInBounds_toArray, List.set_cons_zero, List.set_cons_succ])
        iterate 2 (first
          | (refine textW_skip (by decide) (by rfl) ?_; (try simp only [Act.put, List.setIfInBounds_toArray, List.set_cons_zero, List.set_cons_succ]))
          | (refine textW_val (v := ?_) (by decide) (by rfl) ?_ ?_; rotate_left 1; (· intro u hu; (try dsimp only at hu); go_simp <;> with_reducible rfl); (try simp only [Act.put, List.setIfInBounds_toArray, List.set_cons_zero, List.set_cons_succ])))
        refine textW_store 2 rfl (by rfl) (by rfl) (by unfold Ws4; go_simp) ?_
        refine textW_done ?_
        dsimp only [Ws4, List.length]
        obtain ⟨_, B3, hst3, nx3⟩ := M.out
        rw [LL.out] at hst3 nx3
        obtain ⟨w5, hw5⟩ : ∃ w5, w4.setCell ⟨w.heap.size, 1, none⟩ (.slice (some ⟨g2, 0, none⟩) (j + 1) cap2) = w5 := ⟨_, rfl⟩
        rw [hw5] at hst3 nx3 ⊢
        have M3 := Lib.hid hst3
        have N3 := Lib.hid nx3
        clear hw5 hst3 nx3 M HR S0 z0 z2 hlt1 SH2
        go_wp2_with fail
        refine ⟨⟨j + 1, _, _, B3, by omega, rfl, by rw [HST.out, HOB.out]; exact M3.out, NX2.out.trans N3.out⟩, ?_⟩
        simp [intOf]; omega
    · obtain rfl : j = n := by omega
      have HE := Lib.hid (show (mkL hs os).take j = mkL hs os from List.take_of_length_le (by omega))
      have H := Lib.hid hst
      have NX := Lib.hid nx
      clear hst nx
      go_wp2_with fail
      go_ret
      refine ⟨⟨w.heap.size, B, rfl, ⟨u1, u2, ?_⟩, fun b hb => (NX.out.new b hb).resolve_left id⟩, nx_gr NX.out⟩
      have := H.out
      rw [HE.out] at this
      exact this
end Go.Proofs.Ytifpiekajbcoiaa

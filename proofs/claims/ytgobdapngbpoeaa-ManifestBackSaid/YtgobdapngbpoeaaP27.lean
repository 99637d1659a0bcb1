/- In one text: MnPc. -/
import Derived.Test.YtgobdapngbpoeaaP20
import Derived.Test.YtgobdapngbpoeaaP11
import Derived.Test.YtgobdapngbpoeaaP04
/- The program's layer 19: Same (slices.Equal), own, Find. -/
namespace Go.Proofs.Ytgobdapngbpoeaa
open Go.RowKit FsPlain MnPlain
set_option linter.unusedVariables false
set_option linter.unusedSimpArgs false
set_option maxRecDepth 20000
theorem lies_len {w : World} {a : Option Addr} {n c : Nat} {l : List Fl} (h : LiesFl w (.slice a n c) l) : n = l.length := by
  obtain ⟨a', c', e, hc, _⟩ := h
  simp only [Value.slice.injEq] at e
  exact e.2.1
/-- At the head of a round. -/
def SqAt (l m : List Fl) (w : World) (v : Value) (wr : World) : Prop := ∃ i : Nat, i ≤ l.length ∧ v = .int .i64 (i : Int) ∧ flsEq l m = flsEq (l.drop i) (m.drop i) ∧ Gr w wr
set_option maxHeartbeats 4000000 in
theorem equal19_c (a b : Option Addr) (n1 n2 c1 c2 : Nat) (l m : List Fl) (w : World) (h1 : LiesFl w (.slice a n1 c1) l) (h2 : LiesFl w (.slice b n2 c2) m) (hl : l.length ≤ maxLen) (hm : m.length ≤ maxLen) :
    Calls Try.prog 34 #[.slice a n1 c1, .slice b n2 c2] w fun e w' => e = .returned (.bool (flsEq l m)) ∧ Gr w w' := by
  have hn1 := lies_len h1
  have hn2 := lies_len h2
  subst hn1 hn2
  obtain ⟨r, hr⟩ : ∃ r, flsEq l m = r := ⟨_, rfl⟩
  rw [hr]
  unfold maxLen at hl hm
  have H1 := Lib.hid h1
  have H2 := Lib.hid h2
  clear h1 h2
  by_cases e3 : l.length = m.length
  · have e3b : ((l.length : Int) != (m.length : Int)) = false := by simp [e3]
    have HR := Lib.hid hr
    have HE := Lib.hid e3
    clear hr e3
    go_enter Try.func34, Try.ntmps34
    go_wp2_with fail
    go_loopw [5, 13] (fun _ v wr => SqAt l m w v wr) (fun _ v _ => l.length - (intOf v).toNat)
    case atStart => exact ⟨0, Nat.zero_le _, rfl, by rw [List.drop_zero, List.drop_zero], Gr.refl _⟩
    case round =>
      clear e3b
      obtain ⟨i, hi1, rfl, hst, g1⟩ := hrel
      by_cases hlt : i < l.length
      · have hlt2 : i < m.length := by rw [← HE.out]; exact hlt
        obtain ⟨_, hc, ab, ao, rfl, hb, ⟨k0, k1, k2, k3⟩⟩ := fl_get (H1.out.gr g1) hlt
        obtain ⟨_, hc2, bb, bo, rfl, hb2, ⟨j0, j1, j2, j3⟩⟩ := fl_get (H2.out.gr g1) hlt2
        have q1 : (i : Int) < (l.length : Int) := by omega
        have q2 : (i : Int) < (m.length : Int) := by omega
        have hstep := flsEq_step hlt hlt2
        have NE := fun w => fl_neq l[i] m[i] w
        cases he : flEq l[i] m[i]
        · have er : r = false := by rw [← HR.out, hst, hstep, he, Bool.false_and]
          subst er
          rw [he] at NE
          clear hst hstep he
          go_wp2_with fail
          go_region
          go_wp2
          go_ret
          exact ⟨rfl, g1.drew⟩
        · have NX := Lib.hid (show flsEq l m = flsEq (l.drop (i + 1)) (m.drop (i + 1)) by rw [hst, hstep, he, Bool.true_and])
          rw [he] at NE
          clear hst hstep he
          go_wp2_with fail
          go_region
          go_wp2
          go_roundw
          case rel => exact ⟨i + 1, by omega, by rw [show ((i + 1 : Nat) : Int) = (i : Int) + 1 by omega], NX.out, g1.drew⟩
          case measure => simp [intOf]; omega
      · have hie : i = l.length := by omega
        have er : r = true := by
          rw [← HR.out, hst, hie, List.drop_length, HE.out, List.drop_length]
          rfl
        subst er
        have q1 : ¬ (i : Int) < (l.length : Int) := by omega
        clear hst
        go_wp2_with fail
        go_ret
        exact ⟨rfl, g1⟩
  · have er : r = false := by rw [← hr, flsEq_len e3]
    have e3b : ((l.length : Int) != (m.length : Int)) = true := by
      rw [bne_iff_ne]
      omega
    subst er
    clear hr e3
    go_enter Try.func34, Try.ntmps34
    go_wp2_with fail
    go_ret
    exact ⟨rfl, Gr.refl _⟩
set_option maxHeartbeats 4000000 in
theorem same19_c (s1 p1 s2 p2 : Int) (a b : Option Addr) (n1 n2 c1 c2 : Nat) (l m : List Fl) (w : World) (h1 : LiesFl w (.slice a n1 c1) l) (h2 : LiesFl w (.slice b n2 c2) m) (hl : l.length ≤ maxLen) (hm : m.length ≤ maxLen) :
    Calls Try.prog 18 #[.agg #[.int .i64 s1, .int .i64 p1, .slice a n1 c1], .agg #[.int .i64 s2, .int .i64 p2, .slice b n2 c2]] w fun e w' => e = .returned (.bool (mnEq ⟨s1, p1, l⟩ ⟨s2, p2, m⟩)) ∧ Gr w w' := by
  obtain ⟨r, hr⟩ : ∃ r, mnEq ⟨s1, p1, l⟩ ⟨s2, p2, m⟩ = r := ⟨_, rfl⟩
  rw [hr]
  unfold mnEq at hr
  simp only at hr
  have gW : Gr w ((w.alloc (.cells #[.int .i64 s1, .int .i64 p1, .slice a n1 c1] 24)).alloc (.cells #[.int .i64 s2, .int .i64 p2, .slice b n2 c2] 24)) := ((Gr.refl w).alloc (Nat.le_refl _) _).alloc (by simp) _
  have EQ := Lib.hid (equal19_c a b n1 n2 c1 c2 l m _ (h1.gr gW) (h2.gr gW) hl hm)
  have GW := Lib.hid gW
  clear h1 h2 hl hm gW
  by_cases e1 : s1 = s2
  · subst e1
    by_cases e2 : p1 = p2
    · subst e2
      rw [decide_eq_true rfl, decide_eq_true rfl, Bool.true_and, Bool.true_and] at hr
      rw [hr] at EQ
      clear hr
      go_enter Try.func18, Try.ntmps18
      go_wp2_with fail
      refine EQ.out.mono ?_; rintro e u ⟨rfl, g⟩
      go_wp2_with fail
      go_ret
      exact ⟨rfl, GW.out.trans g⟩
    · have er : r = false := by rw [← hr, decide_eq_false e2, Bool.false_and, Bool.and_false]
      have e2b : (p1 == p2) = false := by simpa using e2
      subst er
      clear hr
      go_enter Try.func18, Try.ntmps18
      go_wp2_with fail
      go_ret
      exact ⟨rfl, GW.out⟩
  · have er : r = false := by rw [← hr, decide_eq_false e1, Bool.false_and]
    have e1b : (s1 == s2) = false := by simpa using e1
    subst er
    clear hr
    go_enter Try.func18, Try.ntmps18
    go_wp2_with fail
    go_ret
    exact ⟨rfl, GW.out⟩
theorem fl_results1 {fn : Func} {p : Tmp} (hfn : fn.results = #[.cell p 27]) {tmps : Array Value} {o : Nat} {f : Fl} {w : World} (hp : tmps.getD p undef = .pointer (some ⟨o, 0, none⟩)) (hb : w.heap[o]? = some (.cells #[.string f.name, .int .i64 f.size, .int .i64 f.count, .int .u32 f.sum] 27 (0, 0))) :
    (results fn tmps).run Try.prog w = .ok (flV f) w := by
  have c0 : w.cell? ⟨o, 0, none⟩ = some (.string f.name) := by rw [cells_at hb]; rfl
  have c1 : w.cell? ⟨o, 1, none⟩ = some (.int .i64 f.size) := by rw [cells_at hb]; rfl
  have c2 : w.cell? ⟨o, 2, none⟩ = some (.int .i64 f.count) := by rw [cells_at hb]; rfl
  have c3 : w.cell? ⟨o, 3, none⟩ = some (.int .u32 f.sum) := by rw [cells_at hb]; rfl
  have hp2 := hp
  rw [Array.getD_eq_getD_getElem?] at hp2
  simp [results, hfn, hp2, go_sem, c0, c1, c2, c3, flV]
/-- A file stored into a block of its own. -/
theorem fl_store {w u : World} {q : Nat} (hw : w.heap.size ≤ q) (g : Gr w u) {c : Array Value} (hc : u.heap[q]? = some (.cells c 27 (0, 0))) (h4 : c.size = 4) (f : Fl) :
    ((((u.setCell ⟨q, 0, none⟩ (.string f.name)).setCell ⟨q, 1, none⟩ (.int .i64 f.size)).setCell ⟨q, 2, none⟩ (.int .i64 f.count)).setCell ⟨q, 3, none⟩ (.int .u32 f.sum)).heap[q]? = some (.cells #[.string f.name, .int .i64 f.size, .int .i64 f.count, .int .u32 f.sum] 27 (0, 0)) ∧ Gr w ((((u.setCell ⟨q, 0, none⟩ (.string f.name)).setCell ⟨q, 1, none⟩ (.int .i64 f.size)).setCell ⟨q, 2, none⟩ (.int .i64 f.count)).setCell ⟨q, 3, none⟩ (.int .u32 f.sum)) := by
  have o := (((Only.cell1 u q 0 (.string f.name)).trans (Only.cell1 _ q 1 (.int .i64 f.size))).trans (Only.cell1 _ q 2 (.int .i64 f.count))).trans (Only.cell1 _ q 3 (.int .u32 f.sum))
  refine ⟨?_, Below.trans g (o.toBelow (n := w.heap.size) g.size fun b e => by omega)⟩
  rw [cells_set (cells_set (cells_set (cells_set hc 0 _) 1 _) 2 _) 3 _]
  match c, h4 with
  | ⟨[_, _, _, _]⟩, _ => rfl
theorem own19_c (f : Fl) (hn : f.name.size ≤ 1000) (w : World) :
    Calls Try.prog 30 #[.agg #[.string f.name, .int .i64 f.size, .int .i64 f.count, .int .u32 f.sum]] w fun e w' => e = .returned (.agg #[.string f.name, .int .i64 f.size, .int .i64 f.count, .int .u32 f.sum]) ∧ Gr w w' := by
  obtain ⟨W, hW⟩ : ∃ W, W = (w.alloc (.cells #[.string f.name, .int .i64 f.size, .int .i64 f.count, .int .u32 f.sum] 27)).alloc (.cells #[.string ⟨#[]⟩, .int .i64 0, .int .i64 0, .int .u32 0] 27) := ⟨_, rfl⟩
  have gW : Gr w W := by rw [hW]; exact ((Gr.refl w).alloc (Nat.le_refl _) _).alloc (by simp) _
  have hz : W.heap.size = w.heap.size + 1 + 1 := by rw [hW]; simp
  have y0 : W.heap[w.heap.size]? = some (.cells #[.string f.name, .int .i64 f.size, .int .i64 f.count, .int .u32 f.sum] 27 (0, 0)) := by
    rw [hW, Below.heap_alloc _ _ _ (by simp)]
    exact heap_alloc_new w _
  have y1 : W.heap[w.heap.size + 1]? = some (.cells #[.string ⟨#[]⟩, .int .i64 0, .int .i64 0, .int .u32 0] 27 (0, 0)) := by
    rw [hW]
    have := heap_alloc_new (w.alloc (.cells #[.string f.name, .int .i64 f.size, .int .i64 f.count, .int .u32 f.sum] 27)) (.cells #[.string ⟨#[]⟩, .int .i64 0, .int .i64 0, .int .u32 0] 27)
    rwa [World.size_alloc] at this
  have CL := Lib.hid (clone_c f.name W hn)
  have HW := Lib.hid hW
  have K := Lib.hid (show ∀ u, Gr W u → u.heap[w.heap.size]? = some (.cells #[.string f.name, .int .i64 f.size, .int .i64 f.count, .int .u32 f.sum] 27 (0, 0)) ∧ u.heap[w.heap.size + 1]? = some (.cells #[.string ⟨#[]⟩, .int .i64 0, .int .i64 0, .int .u32 0] 27 (0, 0)) ∧ Gr w u ∧ W.heap.size = w.heap.size + 1 + 1 from fun u g => ⟨(g.block _ (by omega)).trans y0, (g.block _ (by omega)).trans y1, gW.trans g, hz⟩)
  clear hW gW hz y0 y1 hn
  go_enter Try.func30, Try.ntmps30
  go_wp2_with fail
  rw [← HW.out]
  refine CL.out.mono ?_; rintro e u ⟨rfl, g⟩
  obtain ⟨x0, x1, gu, hz⟩ := K.out u g
  have hzu := g.size
  have c0 : u.cell? ⟨w.heap.size, 0, none⟩ = some (.string f.name) := by rw [cells_at x0]; rfl
  have f0 := cells_free x0 0
  obtain ⟨U, hU⟩ : ∃ U, U = u.setCell ⟨w.heap.size, 0, none⟩ (.string f.name) := ⟨_, rfl⟩
  have u0 : U.heap[w.heap.size]? = some (.cells #[.string f.name, .int .i64 f.size, .int .i64 f.count, .int .u32 f.sum] 27 (0, 0)) := by rw [hU, cells_set x0 0]; rfl
  have oU : Only (fun k => k = w.heap.size) u U := by rw [hU]; exact Only.cell1 _ _ _ _
  have u1 : U.heap[w.heap.size + 1]? = some (.cells #[.string ⟨#[]⟩, .int .i64 0, .int .i64 0, .int .u32 0] 27 (0, 0)) := (oU.block _ (by omega) (by omega)).trans x1
  have gU : Gr w U := Below.trans gu (oU.toBelow (n := w.heap.size) gu.size fun b e => by omega)
  have b0 : U.cell? ⟨w.heap.size, 0, none⟩ = some (.string f.name) := by rw [cells_at u0]; rfl
  have b1 : U.cell? ⟨w.heap.size, 1, none⟩ = some (.int .i64 f.size) := by rw [cells_at u0]; rfl
  have b2 : U.cell? ⟨w.heap.size, 2, none⟩ = some (.int .i64 f.count) := by rw [cells_at u0]; rfl
  have b3 : U.cell? ⟨w.heap.size, 3, none⟩ = some (.int .u32 f.sum) := by rw [cells_at u0]; rfl
  have e0 : U.cell? ⟨w.heap.size + 1, 0, none⟩ = some (.string ⟨#[]⟩) := by rw [cells_at u1]; rfl
  have e1 : U.cell? ⟨w.heap.size + 1, 1, none⟩ = some (.int .i64 0) := by rw [cells_at u1]; rfl
  have e2 : U.cell? ⟨w.heap.size + 1, 2, none⟩ = some (.int .i64 0) := by rw [cells_at u1]; rfl
  have e3 : U.cell? ⟨w.heap.size + 1, 3, none⟩ = some (.int .u32 0) := by rw [cells_at u1]; rfl
  have g0 := cells_free u1 0
  have g1 := cells_free u1 1
  have g2 := cells_free u1 2
  have g3 := cells_free u1 3
  have FS := Lib.hid (fl_store (q := w.heap.size + 1) (by omega) gU u1 rfl f)
  have HU := Lib.hid hU
  have hU2 := hU.symm
  clear x0 x1 gu hz hzu u0 u1 oU gU hU g
  go_wp2_with fail
  exact bodyPost_ret (fl_results1 (f := f) rfl rfl FS.out.1) rfl ⟨rfl, FS.out.2⟩
end Go.Proofs.Ytgobdapngbpoeaa

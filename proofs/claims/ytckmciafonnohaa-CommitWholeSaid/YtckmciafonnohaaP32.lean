/- In one text: MnPg, MnPe. -/
import Derived.Test.YtckmciafonnohaaP31
import Derived.Test.YtckmciafonnohaaP25
import Derived.Laws.OwnMore
/- The program's layer 19: a file and a manifest read by the cursor. -/
namespace Go.Proofs.Ytckmciafonnohaa
open Go.RowKit FsPlain CrcPlain OctPlain MnPlain
set_option linter.unusedVariables false
set_option linter.unusedSimpArgs false
set_option maxRecDepth 20000
/-- A file stored into a block known whole. -/
theorem fl_store2 {u : World} {q : Nat} {c : Array Value} (hc : u.heap[q]? = some (.cells c 61 (0, 0))) (h4 : c.size = 4) (f : Fl) :
    ((((u.setCell ⟨q, 0, none⟩ (.string f.name)).setCell ⟨q, 1, none⟩ (.int .i64 f.size)).setCell ⟨q, 2, none⟩ (.int .i64 f.count)).setCell ⟨q, 3, none⟩ (.int .u32 f.sum)).heap[q]? = some (.cells #[.string f.name, .int .i64 f.size, .int .i64 f.count, .int .u32 f.sum] 61 (0, 0)) ∧ Only (fun i => i = q) u ((((u.setCell ⟨q, 0, none⟩ (.string f.name)).setCell ⟨q, 1, none⟩ (.int .i64 f.size)).setCell ⟨q, 2, none⟩ (.int .i64 f.count)).setCell ⟨q, 3, none⟩ (.int .u32 f.sum)) := by
  refine ⟨?_, (((Only.cell1 u q 0 (.string f.name)).trans (Only.cell1 _ q 1 (.int .i64 f.size))).trans (Only.cell1 _ q 2 (.int .i64 f.count))).trans (Only.cell1 _ q 3 (.int .u32 f.sum))⟩
  rw [cells_set (cells_set (cells_set (cells_set hc 0 _) 1 _) 2 _) 3 _]
  match c, h4 with
  | ⟨[_, _, _, _]⟩, _ => rfl
theorem cu_next {p : Nat} {b : ByteArray} {c d e : Cu} {w u v : World} (h : CuTo p b c w u) (k : CuTo p b d u v) : CuTo p b d w v := cu_to h.2 k
set_option maxHeartbeats 2000000 in
theorem cfile_c (p : Nat) (b : ByteArray) (c : Cu) (hb : b.size ≤ 1000) (hp : c.p ≤ 800000) (w : World) (h : CuAt w p b c) :
    Calls Try.prog 61 #[.pointer (some ⟨p, 0, none⟩)] w fun e w' => e = .returned (.agg #[.string (fileF b c).name, .int .i64 (fileF b c).size, .int .i64 (fileF b c).count, .int .u32 (fileF b c).sum]) ∧ CuTo p b (fileE b c) w w' := by
  have hpl := lt_of_block h
  have hpn : p ≠ w.heap.size := by omega
  obtain ⟨W, hW⟩ : ∃ W, W = w.alloc (.cells #[.string ⟨#[]⟩, .int .i64 0, .int .i64 0, .int .u32 0] 61) := ⟨_, rfl⟩
  have gW : Gr w W := by rw [hW]; exact gr19 _ _
  have hz : W.heap.size = w.heap.size + 1 := by rw [hW]; simp
  have y0 : W.heap[w.heap.size]? = some (.cells #[.string ⟨#[]⟩, .int .i64 0, .int .i64 0, .int .u32 0] 61 (0, 0)) := by rw [hW]; exact heap_alloc_new w _
  have hN := fileN_lt b c
  have q1 : (nextC b 1 c).p = c.p + 1 := rfl
  have q2 : (file2 b c).p = c.p + 1 + fileN b c := rfl
  have q3 : (nextC b 1 (file2 b c)).p = c.p + 1 + fileN b c + 1 := rfl
  have q4 : (nextC b 8 (nextC b 1 (file2 b c))).p = c.p + 1 + fileN b c + 1 + 8 := rfl
  have n1 : getC b 1 c = ((fileN b c : Nat) : Int) := by unfold fileN; have := getC_nat (b := b) (k := 1) (c := c); omega
  have C1 := cnext_c p 1 b c hb (by omega) (by omega) W (cu_gr h gW)
  rw [n1] at C1
  have C1 := Lib.hid C1
  have C2 := Lib.hid (fun u (hu : CuAt u p b (nextC b 1 c)) => ctext_c p (fileN b c) b (nextC b 1 c) hb (by omega) (by omega) u hu)
  have C3 := Lib.hid (fun u (hu : CuAt u p b (file2 b c)) => cnext_c p 1 b (file2 b c) hb (by omega) (by omega) u hu)
  have C4 := Lib.hid (fun u (hu : CuAt u p b (nextC b 1 (file2 b c))) => cnext_c p 8 b (nextC b 1 (file2 b c)) hb (by omega) (by omega) u hu)
  have C5 := Lib.hid (fun u (hu : CuAt u p b (nextC b 8 (nextC b 1 (file2 b c)))) => cnext_c p 4 b (nextC b 8 (nextC b 1 (file2 b c))) hb (by omega) (by omega) u hu)
  obtain ⟨f, hf⟩ : ∃ f, fileF b c = f := ⟨_, rfl⟩
  have e1 : textS b (fileN b c) (nextC b 1 c) = f.name := by rw [← hf]; rfl
  have e2 : getC b 1 (file2 b c) = f.size := by rw [← hf]; rfl
  have e3 : getC b 8 (nextC b 1 (file2 b c)) = f.count := by rw [← hf]; rfl
  have e4 : getC b 4 (nextC b 8 (nextC b 1 (file2 b c))) = f.sum := by rw [← hf]; rfl
  have hs0 : 0 ≤ f.sum := by rw [← e4]; exact getC_nat
  have hs1 : f.sum < 4294967296 := by have := getC_lt (b := b) (k := 4) (c := nextC b 8 (nextC b 1 (file2 b c))) (by omega); rw [← e4]; simpa using this
  have hwr : IntKind.u32.wrap f.sum = f.sum := IntWalk.u32_in _ (by omega)
  rw [e1] at C2
  rw [e2] at C3
  rw [e3] at C4
  rw [e4] at C5
  rw [hf]
  have FE := Lib.hid (show fileE b c = nextC b 4 (nextC b 8 (nextC b 1 (file2 b c))) from rfl)
  have F2 := Lib.hid (show file2 b c = textC b (fileN b c) (nextC b 1 c) from rfl)
  obtain ⟨n, hn⟩ : ∃ n, fileN b c = n := ⟨_, rfl⟩
  rw [hn] at C1 C2 F2
  have K := Lib.hid (show ∀ u, Only (fun i => i = p) W u → u.heap[w.heap.size]? = some (.cells #[.string ⟨#[]⟩, .int .i64 0, .int .i64 0, .int .u32 0] 61 (0, 0)) ∧ W.heap.size = w.heap.size + 1 ∧ Only (fun i => i = p) w u from fun u g => ⟨(g.block _ (by omega) (by omega)).trans y0, hz, (Only.ofGr gW).trans g⟩)
  have HW := Lib.hid hW
  clear h gW hz y0 hN q1 q2 q3 q4 n1 hf e1 e2 e3 e4 hs0 hs1 hn hW hpn hp hb
  go_enter Try.func61, Try.ntmps61
  go_wp2_with fail
  rw [← HW.out]
  refine C1.out.mono ?_; rintro e u1 ⟨rfl, h1⟩
  have D2 := Lib.hid (C2.out u1 h1.1)
  have H1 := Lib.hid h1
  clear h1 C1 C2
  go_wp2_with fail
  refine D2.out.mono ?_; rintro e u2 ⟨rfl, h2⟩
  rw [← F2.out] at h2
  have H2 := Lib.hid (cu_to H1.out.2 h2)
  have D3 := Lib.hid (C3.out u2 h2.1)
  clear h2 C3 D2 H1
  go_wp2_with fail
  refine D3.out.mono ?_; rintro e u3 ⟨rfl, h3⟩
  have H3 := Lib.hid (cu_to H2.out.2 h3)
  have D4 := Lib.hid (C4.out u3 h3.1)
  clear h3 C4 D3 H2
  go_wp2_with fail
  refine D4.out.mono ?_; rintro e u4 ⟨rfl, h4⟩
  have H4 := Lib.hid (cu_to H3.out.2 h4)
  have D5 := Lib.hid (C5.out u4 h4.1)
  clear h4 C5 D4 H3
  go_wp2_with fail
  refine D5.out.mono ?_; rintro e u5 ⟨rfl, h5⟩
  rw [← FE.out] at h5
  obtain ⟨H5, o5⟩ := cu_to H4.out.2 h5
  obtain ⟨x1, hz, o6⟩ := K.out u5 o5
  have e0 : u5.cell? ⟨w.heap.size, 0, none⟩ = some (.string ⟨#[]⟩) := by rw [cells_at x1]; rfl
  have e1 : u5.cell? ⟨w.heap.size, 1, none⟩ = some (.int .i64 0) := by rw [cells_at x1]; rfl
  have e2 : u5.cell? ⟨w.heap.size, 2, none⟩ = some (.int .i64 0) := by rw [cells_at x1]; rfl
  have e3 : u5.cell? ⟨w.heap.size, 3, none⟩ = some (.int .u32 0) := by rw [cells_at x1]; rfl
  have g0 := cells_free x1 0
  have g1 := cells_free x1 1
  have g2 := cells_free x1 2
  have g3 := cells_free x1 3
  obtain ⟨r1, r2⟩ := fl_store2 x1 rfl f
  have FS := Lib.hid r1
  have FC := Lib.hid (show CuTo p b (fileE b c) w _ from ⟨(r2.block p (lt_of_block H5) (by omega)).trans H5, o6.andThen r2 fun i hi => .inr (by omega)⟩)
  clear x1 o5 H5 o6 r1 r2 h5 hz H4 D5
  go_wp2_with fail
  exact bodyPost_ret (fl_results1 (f := f) rfl rfl FS.out) rfl ⟨rfl, FC.out⟩
end Go.Proofs.Ytckmciafonnohaa
/- The program's layer 19: With. -/
namespace Go.Proofs.Ytckmciafonnohaa
open Go.RowKit FsPlain MnPlain
set_option linter.unusedVariables false
set_option linter.unusedSimpArgs false
set_option maxRecDepth 20000
theorem fls_set : ∀ {l : List Fl} {k : Nat} (_ : k < l.length) (g : Fl), ((((fls l).set (k * 4) (.string g.name)).set (k * 4 + 1) (.int .i64 g.size)).set (k * 4 + 2) (.int .i64 g.count)).set (k * 4 + 3) (.int .u32 g.sum) = fls (l.set k g)
  | [], k, h, g => by simp at h
  | x :: l, 0, h, g => rfl
  | x :: l, k + 1, h, g => by
    have h' : k < l.length := by simpa using h
    have ih := fls_set h' g
    have e : (k + 1) * 4 = k * 4 + 1 + 1 + 1 + 1 := by omega
    rw [e]
    simp only [fls, List.set_cons_succ]
    rw [ih]
namespace MnPlain
theorem with_pl {g : Fl} {l : List Fl} {k : Nat} (hk : k < l.length) (hn : l[k].name = g.name) (h : ∀ j (hj : j < k), l[j].name ≠ g.name) : withF g l = l.set k g := by
  have e : l = l.take k ++ (l[k] :: l.drop (k + 1)) := by rw [← List.drop_eq_getElem_cons hk, List.take_append_drop]
  have ha : ∀ f ∈ l.take k, f.name ≠ g.name := fun f hf => by
    obtain ⟨j, hj, rfl⟩ := List.mem_iff_getElem.1 hf
    rw [List.getElem_take]
    rw [List.length_take] at hj
    exact h j (by omega)
  have e2 : withF g l = withF g (l.take k ++ (l[k] :: l.drop (k + 1))) := congrArg _ e
  rw [e2, with_ahead ha, List.set_eq_take_append_cons_drop, if_pos hk]
  show _ ++ (if l[k].name = g.name then g :: l.drop (k + 1) else _) = _
  rw [if_pos hn]
theorem with_no {g : Fl} {l : List Fl} (h : ∀ j (hj : j < l.length), l[j].name ≠ g.name) : withF g l = l ++ [g] := by
  have := with_ahead (g := g) (l := l) (m := []) fun f hf => by
    obtain ⟨j, hj, rfl⟩ := List.mem_iff_getElem.1 hf
    exact h j hj
  rw [List.append_nil] at this
  exact this
end MnPlain
/-- At the head of a file. -/
def WpAt (m : Mn) (W : World) (vf vi : Value) (wr : World) : Prop := ∃ i : Nat, i ≤ m.files.length ∧ vi = .int .i64 (i : Int) ∧ wr.ownsRow W.heap.size 61 4 vf i (fls (m.files.take i)) ∧ Gr W wr
/-- A file put in an own row. -/
theorem flrow_set {B : Nat} {u : World} {b n c : Nat} {l : List Fl} (h : u.ownsRow B 61 4 (.slice (some ⟨b, 0, none⟩) n c) n (fls l)) {k : Nat} (hk : k < l.length) (g : Fl) :
    ((((u.setCell ⟨b, k * 4, none⟩ (.string g.name)).setCell ⟨b, k * 4 + 1, none⟩ (.int .i64 g.size)).setCell ⟨b, k * 4 + 2, none⟩ (.int .i64 g.count)).setCell ⟨b, k * 4 + 3, none⟩ (.int .u32 g.sum)).ownsRow B 61 4 (.slice (some ⟨b, 0, none⟩) n c) n (fls (l.set k g)) ∧
    Only (fun i => i = b) u ((((u.setCell ⟨b, k * 4, none⟩ (.string g.name)).setCell ⟨b, k * 4 + 1, none⟩ (.int .i64 g.size)).setCell ⟨b, k * 4 + 2, none⟩ (.int .i64 g.count)).setCell ⟨b, k * 4 + 3, none⟩ (.int .u32 g.sum)) := by
  refine ⟨?_, (((Only.cell1 u b _ _).trans (Only.cell1 _ b _ _)).trans (Only.cell1 _ b _ _)).trans (Only.cell1 _ b _ _)⟩
  rw [← fls_set hk g]
  exact ((((h.stored (k * 4) (.string g.name)).1.stored (k * 4 + 1) (.int .i64 g.size)).1.stored (k * 4 + 2) (.int .i64 g.count)).1.stored (k * 4 + 3) (.int .u32 g.sum)).1
end Go.Proofs.Ytckmciafonnohaa

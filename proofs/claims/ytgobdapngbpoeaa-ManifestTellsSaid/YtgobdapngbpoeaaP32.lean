/- In one text: MnPd, MnLaw. -/
import Derived.Test.YtgobdapngbpoeaaP27
import Derived.Test.YtgobdapngbpoeaaP21
import Derived.Test.YtgobdapngbpoeaaP31
/- The program's layer 19: Find. -/
namespace Go.Proofs.Ytgobdapngbpoeaa
open Go.RowKit FsPlain MnPlain
set_option linter.unusedVariables false
set_option linter.unusedSimpArgs false
set_option maxRecDepth 20000
theorem fl_results2 {fn : Func} {p u : Tmp} (hfn : fn.results = #[.cell p 27, .tmp u]) {tmps : Array Value} {o : Nat} {f : Fl} {v : Value} {w : World} (hp : tmps.getD p undef = .pointer (some ⟨o, 0, none⟩)) (hu : tmps.getD u undef = v) (hb : w.heap[o]? = some (.cells #[.string f.name, .int .i64 f.size, .int .i64 f.count, .int .u32 f.sum] 27 (0, 0))) :
    (results fn tmps).run Try.prog w = .ok (.tuple #[flV f, v]) w := fl_results hfn hp hu (by rw [cells_at hb]; rfl) (by rw [cells_at hb]; rfl) (by rw [cells_at hb]; rfl) (by rw [cells_at hb]; rfl)
theorem find_pl {n : ByteArray} {l : List Fl} {k : Nat} (hk : k < l.length) (hn : l[k].name = n) (h : ∀ j (hj : j < k), l[j].name ≠ n) : findF n l = some l[k] := by rw [find_at hk h, if_pos hn]
set_option maxHeartbeats 4000000 in
theorem find19_c (st ps : Int) (a : Option Addr) (n c : Nat) (l : List Fl) (nm : ByteArray) (w : World) (h : LiesFl w (.slice a n c) l) (hl : l.length ≤ maxLen) (hN : ∀ f ∈ l, f.name.size ≤ 1000) :
    Calls Try.prog 11 #[.agg #[.int .i64 st, .int .i64 ps, .slice a n c], .string nm] w fun e w' => e = .returned (.tuple #[flV ((findF nm l).getD flZ), .bool (findF nm l).isSome]) ∧ Gr w w' := by
  have hn := lies_len h
  subst hn
  obtain ⟨r, hr⟩ : ∃ r, findF nm l = r := ⟨_, rfl⟩
  rw [hr]
  have HR := Lib.hid hr
  obtain ⟨W, hW⟩ : ∃ W, W = (w.alloc (.cells #[.int .i64 st, .int .i64 ps, .slice a l.length c] 24)).alloc (.cells #[.string ⟨#[]⟩, .int .i64 0, .int .i64 0, .int .u32 0] 27) := ⟨_, rfl⟩
  have gW : Gr w W := by rw [hW]; exact ((Gr.refl w).alloc (Nat.le_refl _) _).alloc (by simp) _
  have hz : W.heap.size = w.heap.size + 1 + 1 := by rw [hW]; simp
  have y0 : W.heap[w.heap.size]? = some (.cells #[.int .i64 st, .int .i64 ps, .slice a l.length c] 24 (0, 0)) := by
    rw [hW, Below.heap_alloc _ _ _ (by simp)]
    exact heap_alloc_new w _
  have y1 : W.heap[w.heap.size + 1]? = some (.cells #[.string ⟨#[]⟩, .int .i64 0, .int .i64 0, .int .u32 0] 27 (0, 0)) := by
    rw [hW]
    have := heap_alloc_new (w.alloc (.cells #[.int .i64 st, .int .i64 ps, .slice a l.length c] 24)) (.cells #[.string ⟨#[]⟩, .int .i64 0, .int .i64 0, .int .u32 0] 27)
    rwa [World.size_alloc] at this
  have PC := Lib.hid (place19_c (h.gr gW) hl nm)
  have H := Lib.hid h
  have HN := Lib.hid hN
  have HW := Lib.hid hW
  have K := Lib.hid (show ∀ u, Gr W u → u.heap[w.heap.size]? = some (.cells #[.int .i64 st, .int .i64 ps, .slice a l.length c] 24 (0, 0)) ∧ u.heap[w.heap.size + 1]? = some (.cells #[.string ⟨#[]⟩, .int .i64 0, .int .i64 0, .int .u32 0] 27 (0, 0)) ∧ Gr w u ∧ W.heap.size = w.heap.size + 1 + 1 from fun u g => ⟨(g.block _ (by omega)).trans y0, (g.block _ (by omega)).trans y1, gW.trans g, hz⟩)
  unfold maxLen at hl
  clear hW gW hz y0 y1 h hN hr
  go_enter Try.func11, Try.ntmps11
  go_wp2_with fail
  rw [← HW.out]
  refine PC.out.mono ?_; intro e u hi
  obtain ⟨i, rfl, hi, g⟩ := hi
  obtain ⟨x0, x1, gu, hz⟩ := K.out u g
  have hzu := g.size
  have FS := Lib.hid (fun U (gU : Gr w U) (u1 : U.heap[w.heap.size + 1]? = some (.cells #[.string ⟨#[]⟩, .int .i64 0, .int .i64 0, .int .u32 0] 27 (0, 0))) f => fl_store (q := w.heap.size + 1) (by omega) gU u1 rfl f)
  rcases hi with ⟨rfl, hno⟩ | ⟨k, rfl, hk, hnm, hah⟩
  · obtain rfl : r = none := by rw [← HR.out]; exact find_no hno
    have e0 : u.cell? ⟨w.heap.size + 1, 0, none⟩ = some (.string ⟨#[]⟩) := by rw [cells_at x1]; rfl
    have e1 : u.cell? ⟨w.heap.size + 1, 1, none⟩ = some (.int .i64 0) := by rw [cells_at x1]; rfl
    have e2 : u.cell? ⟨w.heap.size + 1, 2, none⟩ = some (.int .i64 0) := by rw [cells_at x1]; rfl
    have e3 : u.cell? ⟨w.heap.size + 1, 3, none⟩ = some (.int .u32 0) := by rw [cells_at x1]; rfl
    have g0 := cells_free x1 0
    have g1 := cells_free x1 1
    have g2 := cells_free x1 2
    have g3 := cells_free x1 3
    have FE := Lib.hid (FS.out u gu x1 flZ)
    clear x0 x1 gu hz hzu hno g
    go_wp2_with fail
    exact bodyPost_ret (fl_results2 (f := flZ) rfl rfl rfl FE.out.1) rfl ⟨rfl, FE.out.2⟩
  · obtain ⟨f, hf⟩ : ∃ f, l[k] = f := ⟨_, rfl⟩
    obtain rfl : r = some f := by rw [← HR.out, ← hf]; exact find_pl hk hnm hah
    obtain ⟨_, hc, b, o, rfl, hb, ⟨k0, k1, k2, k3⟩⟩ := fl_get (H.out.gr gu) hk
    have OW := Lib.hid (own19_c l[k] (HN.out _ (List.getElem_mem hk)) u)
    have q0 : u.cell? ⟨w.heap.size, 2, none⟩ = some (.slice (some ⟨b, o, none⟩) l.length c) := by rw [cells_at x0]; rfl
    have q1 : (k : Int) < (l.length : Int) := by omega
    rw [hf] at k0 k1 k2 k3 OW
    have KG := Lib.hid (show Gr W u from g)
    clear x0 x1 gu hz hzu hnm hah hf g
    go_wp2_with fail
    refine OW.out.mono ?_; rintro e u2 ⟨rfl, g2⟩
    obtain ⟨_, x1, gu, hz⟩ := K.out u2 (KG.out.trans g2)
    have e0 : u2.cell? ⟨w.heap.size + 1, 0, none⟩ = some (.string ⟨#[]⟩) := by rw [cells_at x1]; rfl
    have e1 : u2.cell? ⟨w.heap.size + 1, 1, none⟩ = some (.int .i64 0) := by rw [cells_at x1]; rfl
    have e2 : u2.cell? ⟨w.heap.size + 1, 2, none⟩ = some (.int .i64 0) := by rw [cells_at x1]; rfl
    have e3 : u2.cell? ⟨w.heap.size + 1, 3, none⟩ = some (.int .u32 0) := by rw [cells_at x1]; rfl
    have g0 := cells_free x1 0
    have g1 := cells_free x1 1
    have g2 := cells_free x1 2
    have g3 := cells_free x1 3
    have FE := Lib.hid (FS.out u2 gu x1 f)
    clear x1 gu hz k0 k1 k2 k3 q0
    go_wp2_with fail
    exact bodyPost_ret (fl_results2 (f := f) rfl rfl rfl FE.out.1) rfl ⟨rfl, FE.out.2⟩
end Go.Proofs.Ytgobdapngbpoeaa
/- For the statements of layer 19: arguments, and contracts in the form that a walk wants. -/
namespace Go.Proofs.Ytgobdapngbpoeaa
open Go.RowKit Go.ChangeShapes Go.WideShapes Go.Deep FsPlain CrcPlain OctPlain MnPlain
set_option linter.unusedVariables false
set_option linter.unusedSimpArgs false
set_option maxRecDepth 20000
theorem mn_in {w : World} {v : Value} (h : RdAgg Try.prog w 24 v) : ∃ (m : Mn) (a : Option Addr) (c : Nat), v = .agg #[.int .i64 m.stage, .int .i64 m.pass, .slice a m.files.length c] ∧ LiesFl w (.slice a m.files.length c) m.files ∧ m.files.length ≤ maxLen ∧ (∀ f ∈ m.files, flK f) ∧ I64 m.stage ∧ I64 m.pass := by
  obtain ⟨fs, cs, hu, rfl, hsz, hf⟩ := h
  rw [Try.underlying24] at hu
  simp only [Option.some.injEq, TypeDesc.struct.injEq] at hu
  subst hu
  obtain ⟨l⟩ := cs
  match l, hsz with
  | [c0, c1, c2], _ =>
    obtain ⟨d0, e0, r0⟩ := hf 0 _ rfl
    obtain ⟨d1, e1, r1⟩ := hf 1 _ rfl
    obtain ⟨d2, e2, r2⟩ := hf 2 _ rfl
    simp at e0 e1 e2
    subst e0 e1 e2
    obtain ⟨n, rfl, hn⟩ := rd_int Try.underlying3 r0
    obtain ⟨k, rfl, hk⟩ := rd_int Try.underlying3 r1
    obtain ⟨L, hL, hl, hK⟩ := liesFl_in Try.underlying22 r2
    obtain ⟨a, c, e, _⟩ := id hL
    subst e
    exact ⟨⟨n, k, L⟩, a, c, rfl, hL, hl, hK, bounds_i64 hn, bounds_i64 hk⟩
theorem fl_in {w : World} {v : Value} (h : RdAgg Try.prog w 27 v) : ∃ f : Fl, v = .agg #[.string f.name, .int .i64 f.size, .int .i64 f.count, .int .u32 f.sum] ∧ flK f := by
  obtain ⟨fs, cs, hu, rfl, hsz, hf⟩ := h
  rw [Try.underlying27] at hu
  simp only [Option.some.injEq, TypeDesc.struct.injEq] at hu
  subst hu
  obtain ⟨l⟩ := cs
  match l, hsz with
  | [c0, c1, c2, c3], _ =>
    obtain ⟨d0, e0, r0⟩ := hf 0 _ rfl
    obtain ⟨d1, e1, r1⟩ := hf 1 _ rfl
    obtain ⟨d2, e2, r2⟩ := hf 2 _ rfl
    obtain ⟨d3, e3, r3⟩ := hf 3 _ rfl
    simp at e0 e1 e2 e3
    subst e0 e1 e2 e3
    obtain ⟨s, rfl, hs⟩ := rd_string Try.underlying9 r0
    obtain ⟨n, rfl, hn⟩ := rd_int Try.underlying3 r1
    obtain ⟨k, rfl, hk⟩ := rd_int Try.underlying3 r2
    obtain ⟨q, rfl, hq⟩ := rd_int Try.underlying25 r3
    have b3 := bounds_u32 hq
    exact ⟨⟨s, n, k, q⟩, rfl, hs, bounds_i64 hn, bounds_i64 hk, b3.1, by show q < 4294967296; omega⟩
namespace MnPlain
theorem few_mn {l : List Fl} (h : fewB l = true) : l.length ≤ 20 ∧ ∀ f ∈ l, f.name.size ≤ 40 := by
  unfold fewB at h
  rw [Bool.and_eq_true, decide_eq_true_iff, List.all_eq_true] at h
  refine ⟨h.2, fun f hf => ?_⟩
  have := h.1 f (by rw [List.take_of_length_le h.2]; exact hf)
  simpa using this
/-- The bytes that Put tells. -/
def ptS (m : Mn) : ByteArray := if mnB m = true then mnS m else ⟨#[]⟩
theorem ptS_size {m : Mn} : (ptS m).size ≤ 1000 := by
  unfold ptS
  split
  · next h =>
    have hb : newB [] m.files = true := by unfold mnB at h; rw [Bool.and_eq_true] at h; exact h.2
    have h16 : m.files.length ≤ 16 := by
      unfold mnB at h
      simp only [Bool.and_eq_true, decide_eq_true_eq] at h
      exact h.1.2.2
    have := flat_le (l := m.files) fun f hf => by
      have := newB_all hb f hf
      unfold flB rightB at this
      simp only [Bool.and_eq_true, decide_eq_true_eq] at this
      have e : f.name.data.toList.length = f.name.size := rfl
      omega
    rw [mnS_size, ← flat_length]
    omega
  · show (0 : Nat) ≤ 1000
    omega
/-- What Get tells. -/
def gtIs (s : ByteArray) (m : Mn) (b : Bool) : Prop := (b = true ∧ mnIs s m) ∨ (b = false ∧ m = ⟨0, 0, []⟩ ∧ ∀ m', ¬ mnIs s m')
theorem gtIs_one {s : ByteArray} {m m' : Mn} {b b' : Bool} (h : gtIs s m b) (h' : gtIs s m' b') : m' = m ∧ b' = b := by
  rcases h with ⟨rfl, h⟩ | ⟨rfl, rfl, h⟩ <;> rcases h' with ⟨rfl, h'⟩ | ⟨rfl, rfl, h'⟩
  · exact ⟨mnIs_one h' h, rfl⟩
  · exact absurd h (h' _)
  · exact absurd h' (h _)
  · exact ⟨rfl, rfl⟩
end MnPlain
theorem gt_cases {s : ByteArray} {w w' : World} {e : Ending} (h : GtSays s w e w') : ∃ (m : Mn) (a : Option Addr) (c : Nat) (b : Bool), e = .returned (.tuple #[.agg #[.int .i64 m.stage, .int .i64 m.pass, .slice a m.files.length c], .bool b]) ∧ LiesFl w' (.slice a m.files.length c) m.files ∧ m.files.length ≤ maxLen ∧ gtIs s m b ∧ Gr w w' := by
  obtain ⟨h | h, g⟩ := h
  · obtain ⟨m, v, hm, rfl, hl, _⟩ := h
    obtain ⟨a, c, e, _⟩ := id hl
    subst e
    have h16 : m.files.length ≤ 16 := by
      have h := hm.1
      unfold mnB at h
      simp only [Bool.and_eq_true, decide_eq_true_eq] at h
      exact h.1.2.2
    exact ⟨m, a, c, true, rfl, hl, by unfold maxLen; omega, .inl ⟨rfl, hm⟩, g⟩
  · exact ⟨⟨0, 0, []⟩, none, 0, false, h.2, liesFl_nil w', by unfold maxLen; simp, .inr ⟨rfl, rfl, h.1⟩, g⟩
theorem put19_c (m : Mn) {a : Option Addr} {n c : Nat} (w : World) (h : LiesFl w (.slice a n c) m.files) (hl : m.files.length ≤ maxLen) (hK : ∀ f ∈ m.files, flK f) :
    Calls Try.prog 7 #[.agg #[.int .i64 m.stage, .int .i64 m.pass, .slice a n c]] w fun e w' => e = .returned (.tuple #[.string (ptS m), .bool (mnB m)]) ∧ Gr w w' := by
  unfold ptS
  cases hm : mnB m
  · exact put19_no m w h hl hK hm
  · exact put19_yes m w h hK hm
theorem rput19_c (m : Mn) {a : Option Addr} {n c : Nat} (w : World) (h : LiesFl w (.slice a n c) m.files) (hl : m.files.length ≤ maxLen) (hK : ∀ f ∈ m.files, flK f) (hs : I64 m.stage) (hp : I64 m.pass) :
    Calls Try.prog 8 #[.agg #[.int .i64 m.stage, .int .i64 m.pass, .slice a n c]] w fun e w' => e = .returned (.tuple #[.string (ptS m), .bool (mnB m)]) ∧ Gr w w' := by
  unfold ptS
  cases hm : mnB m
  · exact rput19_no m w h hl hK hs hp hm
  · exact rput19_yes m w h hK hm
theorem fl_eql (x : Fl) (w : World) : (binOp .eql 27 (.agg #[.string x.name, .int .i64 x.size, .int .i64 x.count, .int .u32 x.sum]) (.agg #[.string x.name, .int .i64 x.size, .int .i64 x.count, .int .u32 x.sum])).run Try.prog w = .ok (.bool true) w := by
  rw [run_eql_struct, fl_equal, flEq_iff.2 rfl]
  simp
/-- Same of two that are one. -/
theorem rsame_one (m : Mn) {v v' : Value} (w : World) (h : LiesFl w v m.files) (h' : LiesFl w v' m.files) (hl : m.files.length ≤ maxLen) :
    Calls Try.prog 15 #[.agg #[.int .i64 m.stage, .int .i64 m.pass, v], .agg #[.int .i64 m.stage, .int .i64 m.pass, v']] w fun e w' => e = .returned (.bool true) ∧ Gr w w' := by
  obtain ⟨a, c, e, _⟩ := id h
  obtain ⟨a', c', e', _⟩ := id h'
  subst e e'
  have := rsame19_c m.stage m.pass m.stage m.pass a a' _ _ c c' m.files m.files w h h' hl hl
  rwa [show mnEq ⟨m.stage, m.pass, m.files⟩ ⟨m.stage, m.pass, m.files⟩ = true from mnEq_iff.2 rfl] at this
theorem rget19_c (s : ByteArray) (hs : s.size ≤ 700) (w : World) : Calls Try.prog 10 #[.string s] w (GtSays s w) := by
  by_cases h : s.size < 13
  · exact rget19_short s w h
  · exact rget19_long s w (by omega) hs
/-- The cells of a file, of a manifest, in a block of their own. -/
def FlB (u : World) (p : Nat) (f : Fl) : Prop := u.cell? ⟨p, 0, none⟩ = some (.string f.name) ∧ u.cell? ⟨p, 1, none⟩ = some (.int .i64 f.size) ∧ u.cell? ⟨p, 2, none⟩ = some (.int .i64 f.count) ∧ u.cell? ⟨p, 3, none⟩ = some (.int .u32 f.sum)
def MnB (u : World) (p : Nat) (x y : Int) (v : Value) : Prop := u.cell? ⟨p, 0, none⟩ = some (.int .i64 x) ∧ u.cell? ⟨p, 1, none⟩ = some (.int .i64 y) ∧ u.cell? ⟨p, 2, none⟩ = some v
theorem flB_at {u : World} {p : Nat} {f : Fl} (h : u.heap[p]? = some (.cells #[.string f.name, .int .i64 f.size, .int .i64 f.count, .int .u32 f.sum] 27 (0, 0))) : FlB u p f := ⟨by rw [cells_at h]; rfl, by rw [cells_at h]; rfl, by rw [cells_at h]; rfl, by rw [cells_at h]; rfl⟩
theorem mnB_at {u : World} {p : Nat} {x y : Int} {v : Value} (h : u.heap[p]? = some (.cells #[.int .i64 x, .int .i64 y, v] 24 (0, 0))) : MnB u p x y v := ⟨by rw [cells_at h]; rfl, by rw [cells_at h]; rfl, by rw [cells_at h]; rfl⟩
theorem flB_gr {u u' : World} {p : Nat} {f : Fl} (h : FlB u p f) (g : Gr u u') : FlB u' p f := by
  have hb : p < u.heap.size := World.block_lt_of_cell? u _ h.1
  exact ⟨(Below.cell g (p := ⟨p, 0, none⟩) hb).trans h.1, (Below.cell g (p := ⟨p, 1, none⟩) hb).trans h.2.1, (Below.cell g (p := ⟨p, 2, none⟩) hb).trans h.2.2.1, (Below.cell g (p := ⟨p, 3, none⟩) hb).trans h.2.2.2⟩
theorem mnB_gr {u u' : World} {p : Nat} {x y : Int} {v : Value} (h : MnB u p x y v) (g : Gr u u') : MnB u' p x y v := by
  have hb : p < u.heap.size := World.block_lt_of_cell? u _ h.1
  exact ⟨(Below.cell g (p := ⟨p, 0, none⟩) hb).trans h.1, (Below.cell g (p := ⟨p, 1, none⟩) hb).trans h.2.1, (Below.cell g (p := ⟨p, 2, none⟩) hb).trans h.2.2⟩
end Go.Proofs.Ytgobdapngbpoeaa

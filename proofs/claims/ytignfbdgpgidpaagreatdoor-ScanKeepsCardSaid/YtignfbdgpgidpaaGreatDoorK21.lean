/- In one text: MnPi, MnAwake, MnPd, MnLaw, CmRef. -/
import Derived.Test.YtignfbdgpgidpaaGreatDoorK20
import Derived.Test.YtignfbdgpgidpaaGreatDoorK16
import Derived.Test.YtignfbdgpgidpaaGreatDoorK19
import Derived.Test.YtignfbdgpgidpaaGreatDoorK15
import Derived.Test.YtignfbdgpgidpaaGreatDoorK07
import Derived.Test.YtignfbdgpgidpaaGreatDoorK13
import Derived.Test.YtignfbdgpgidpaaGreatDoorK12
/- The program's layer 19: Get. -/
namespace Go.Proofs.YtignfbdgpgidpaaGreatDoor
open Go.RowKit FsPlain CrcPlain OctPlain MnPlain
set_option linter.unusedVariables false
set_option linter.unusedSimpArgs false
set_option maxRecDepth 20000
set_option maxHeartbeats 4000000 in
theorem get19_c (s : ByteArray) (hs : s.size ≤ 1000) (w : World) :
    Calls Tryz.prog 119 #[.string s] w (GtSays s w) := by
  obtain ⟨W0, hW⟩ : ∃ W, W = w.alloc (.cells #[.int .i64 0, .int .i64 0, .slice none 0 0] 27) := ⟨_, rfl⟩
  have gW : Gr w W0 := by rw [hW]; exact gr19 _ _
  have hz : W0.heap.size = w.heap.size + 1 := by rw [hW]; simp
  have y0 : W0.heap[w.heap.size]? = some (.cells #[.int .i64 0, .int .i64 0, .slice none 0 0] 27 (0, 0)) := by rw [hW]; exact heap_alloc_new w _
  have OP := open_c s hs W0
  have K := Lib.hid (show ∀ u, Gr W0 u → u.heap[w.heap.size]? = some (.cells #[.int .i64 0, .int .i64 0, .slice none 0 0] 27 (0, 0)) ∧ Gr w u ∧ W0.heap.size = w.heap.size + 1 from fun u g => ⟨(g.block _ (by omega)).trans y0, gW.trans g, hz⟩)
  have ZF := Lib.hid (fun (u : World) (x : u.heap[w.heap.size]? = some (.cells #[.int .i64 0, .int .i64 0, .slice none 0 0] 27 (0, 0))) (g : Gr w u) (a b c : Value) => by
    obtain ⟨r1, r2⟩ := mn_store2 x rfl a b c
    exact (⟨r1, r2, Below.trans g (r2.toBelow (n := w.heap.size) g.size fun i e => by omega)⟩ : (((u.setCell ⟨w.heap.size, 0, none⟩ a).setCell ⟨w.heap.size, 1, none⟩ b).setCell ⟨w.heap.size, 2, none⟩ c).heap[w.heap.size]? = some (.cells #[a, b, c] 27 (0, 0)) ∧ Only (fun i => i = w.heap.size) u (((u.setCell ⟨w.heap.size, 0, none⟩ a).setCell ⟨w.heap.size, 1, none⟩ b).setCell ⟨w.heap.size, 2, none⟩ c) ∧ Gr w (((u.setCell ⟨w.heap.size, 0, none⟩ a).setCell ⟨w.heap.size, 1, none⟩ b).setCell ⟨w.heap.size, 2, none⟩ c)))
  have ZC := Lib.hid (fun (u : World) (x : u.heap[w.heap.size]? = some (.cells #[.int .i64 0, .int .i64 0, .slice none 0 0] 27 (0, 0))) => (⟨by rw [cells_at x]; rfl, by rw [cells_at x]; rfl, by rw [cells_at x]; rfl, cells_free x 0, cells_free x 1, cells_free x 2⟩ : u.cell? ⟨w.heap.size, 0, none⟩ = some (.int .i64 0) ∧ u.cell? ⟨w.heap.size, 1, none⟩ = some (.int .i64 0) ∧ u.cell? ⟨w.heap.size, 2, none⟩ = some (.slice none 0 0) ∧ u.frozen? ⟨w.heap.size, 0, none⟩ = false ∧ u.frozen? ⟨w.heap.size, 1, none⟩ = false ∧ u.frozen? ⟨w.heap.size, 2, none⟩ = false))
  obtain ⟨b, hb⟩ : ∃ b, opS s = b := ⟨_, rfl⟩
  rw [hb] at OP
  have HW := Lib.hid hW
  cases ho : opB s with
  | false =>
    rw [ho] at OP
    have HN := Lib.hid (fun m => mnIs_shut ho m)
    have OP := Lib.hid OP
    clear gW hz y0 hW ho hb
    go_enter Tryz.func119, Tryz.ntmps119
    go_wp2_with fail
    rw [← HW.out]
    refine OP.out.mono ?_; rintro e u ⟨rfl, g⟩
    obtain ⟨x, gu, _⟩ := K.out u g
    obtain ⟨c0, c1, c2, f0, f1, f2⟩ := ZC.out u x
    have Z := Lib.hid (ZF.out u x gu (.int .i64 0) (.int .i64 0) (.slice none 0 0))
    clear x gu g
    go_wp2_with fail
    exact bodyPost_ret (mn_results2 rfl rfl rfl Z.out.1) rfl ⟨.inr ⟨HN.out, rfl⟩, Z.out.2.2⟩
  | true =>
    rw [ho] at OP
    have HB := Lib.hid (show opB s = true ∧ b = opS s from ⟨ho, hb.symm⟩)
    have hbs : b.size ≤ 1000 := by rw [← hb, opS_yes ho]; unfold ahead; rw [ByteArray.size_extract]; omega
    have OP := Lib.hid OP
    clear gW hz y0 hW ho hb hs
    go_enter Tryz.func119, Tryz.ntmps119
    go_wp2_with fail
    rw [← HW.out]
    refine OP.out.mono ?_; rintro e u ⟨rfl, g⟩
    obtain ⟨W, hWW⟩ : ∃ W, W = u.alloc (.cells #[.string b, .int .i64 0, .bool false] 187) := ⟨_, rfl⟩
    have g1 : Gr u W := by rw [hWW]; exact gr19 _ _
    have hz1 : W.heap.size = u.heap.size + 1 := by rw [hWW]; simp
    have y1 : CuAt W u.heap.size b ⟨0, false⟩ := by unfold CuAt; rw [hWW]; exact heap_alloc_new u _
    have CM := Lib.hid (cmanifest_c u.heap.size b hbs W y1)
    have KW := Lib.hid (show (∀ v, Only (fun i => i = u.heap.size) W v → v.heap[w.heap.size]? = some (.cells #[.int .i64 0, .int .i64 0, .slice none 0 0] 27 (0, 0)) ∧ Gr w v) ∧ w.heap.size + 1 ≤ W.heap.size from by
      obtain ⟨x, gu, hz⟩ := K.out u g
      have hu := g.size
      refine ⟨fun v o => ⟨(o.block _ (by omega) (by omega)).trans ((g1.block _ (by omega)).trans x), ?_⟩, by omega⟩
      exact Below.trans (gu.trans g1) (o.toBelow (n := w.heap.size) (by omega) fun i e => by omega))
    have HWW := Lib.hid hWW
    clear hWW g1 hz1 y1 g OP
    go_wp2_with fail
    rw [← HWW.out]
    refine CM.out.mono ?_; intro e u5 hgot
    obtain ⟨c, L, v, rfl, hpc, hcu, hli, hfr, o5⟩ := hgot
    obtain ⟨x5, g5⟩ := KW.out.1 u5 o5
    obtain ⟨st, hst⟩ : ∃ st, stN b = st := ⟨_, rfl⟩
    obtain ⟨ps, hps⟩ : ∃ ps, psN b = ps := ⟨_, rfl⟩
    rw [hst, hps]
    obtain ⟨a2, c2, rfl, hc2, _⟩ := id hli
    obtain ⟨V, hV⟩ : ∃ V, V = u5.alloc (.cells #[.int .i64 st, .int .i64 ps, .slice a2 L.length c2] 27) := ⟨_, rfl⟩
    have gV : Gr u5 V := by rw [hV]; exact gr19 _ _
    have hzV : V.heap.size = u5.heap.size + 1 := by rw [hV]; simp
    have yV : V.heap[u5.heap.size]? = some (.cells #[.int .i64 st, .int .i64 ps, .slice a2 L.length c2] 27 (0, 0)) := by rw [hV]; exact heap_alloc_new u5 _
    have hLl : L.length ≤ maxLen := by have := hpc.1; have := cnt_lt b; unfold maxLen; omega
    have hK := hpc.2.2.1
    have KV := Lib.hid (fun u6 (g6 : Gr V u6) => (⟨(Below.block (gV.trans g6) _ (lt_of_block x5)).trans x5, g5.trans (gV.trans g6), by rw [cells_at ((g6.block _ (by omega)).trans yV)]; rfl, by rw [cells_at ((g6.block _ (by omega)).trans yV)]; rfl, by rw [cells_at ((g6.block _ (by omega)).trans yV)]; rfl, hli.gr (gV.trans g6), by have := g6.size; omega⟩ : u6.heap[w.heap.size]? = some (.cells #[.int .i64 0, .int .i64 0, .slice none 0 0] 27 (0, 0)) ∧ Gr w u6 ∧ u6.cell? ⟨u5.heap.size, 0, none⟩ = some (.int .i64 st) ∧ u6.cell? ⟨u5.heap.size, 1, none⟩ = some (.int .i64 ps) ∧ u6.cell? ⟨u5.heap.size, 2, none⟩ = some (.slice a2 L.length c2) ∧ LiesFl u6 (.slice a2 L.length c2) L ∧ u5.heap.size < u6.heap.size))
    obtain ⟨r, hr⟩ : ∃ r, (!c.x && decide (c.p = b.size)) = r := ⟨_, rfl⟩
    have RT := Lib.hid (cright_c u.heap.size b c hr V (cu_gr hcu gV))
    have HV := Lib.hid hV
    have HFR := Lib.hid (show w.heap.size + 1 ≤ W.heap.size ∧ ∀ b' n' c', Value.slice a2 L.length c2 = .slice (some b') n' c' → W.heap.size ≤ b'.block from ⟨KW.out.2, hfr⟩)
    have MR := Lib.hid (fun u6 (g6 : Gr V u6) => mright_c st ps a2 L.length c2 L u6 (hli.gr (gV.trans g6)) hLl hK)
    have HK := Lib.hid hK
    cases r with
    | false =>
      have HN := Lib.hid (fun m => pc_no hpc HB.out.2 (fun k => by rw [k.1, k.2.1, decide_eq_true rfl] at hr; cases hr) m)
      clear hpc hcu hli hfr o5 x5 g5 hst hps gV hzV yV hLl hK hr hV hc2 hbs MR
      go_wp2_with fail
      rw [← HV.out]
      refine RT.out.mono ?_; rintro e u6 ⟨rfl, g6⟩
      obtain ⟨x, gu, _⟩ := KV.out u6 g6
      obtain ⟨c0, c1, c2', f0, f1, f2⟩ := ZC.out u6 x
      have Z := Lib.hid (ZF.out u6 x gu (.int .i64 0) (.int .i64 0) (.slice none 0 0))
      clear x gu g6
      go_wp2_with fail
      exact bodyPost_ret (mn_results2 rfl rfl rfl Z.out.1) rfl ⟨.inr ⟨HN.out, rfl⟩, Z.out.2.2⟩
    | true =>
      have hx : c.x = false := by cases e : c.x; rfl; rw [e] at hr; cases hr
      have hp : c.p = b.size := by rw [hx] at hr; simpa using hr
      cases hm : mnB ⟨st, ps, L⟩ with
      | false =>
        have HN := Lib.hid (fun m => pc_no hpc HB.out.2 (fun k => by have := k.2.2; rw [hst, hps, hm] at this; cases this) m)
        rw [hm] at MR
        clear hpc hcu hli hfr o5 x5 g5 hst hps gV hzV yV hLl hK hr hV hc2 hbs hx hp hm
        go_wp2_with fail
        rw [← HV.out]
        refine RT.out.mono ?_; rintro e u6 ⟨rfl, g6⟩
        obtain ⟨x, gu, d0, d1, d2, _, hlt⟩ := KV.out u6 g6
        have G6 := Lib.hid (show Gr V u6 from g6)
        have M6 := Lib.hid (MR.out u6 g6)
        clear x gu g6 MR
        go_wp2_with fail
        refine M6.out.mono ?_; rintro e u7 ⟨rfl, g7⟩
        obtain ⟨x, gu, _⟩ := KV.out u7 (G6.out.trans g7)
        obtain ⟨c0, c1, c2', f0, f1, f2⟩ := ZC.out u7 x
        have Z := Lib.hid (ZF.out u7 x gu (.int .i64 0) (.int .i64 0) (.slice none 0 0))
        clear x gu g7 d0 d1 d2 hlt
        go_wp2_with fail
        exact bodyPost_ret (mn_results2 rfl rfl rfl Z.out.1) rfl ⟨.inr ⟨HN.out, rfl⟩, Z.out.2.2⟩
      | true =>
        have HY := Lib.hid (pc_yes hpc HB.out.1 HB.out.2 hx hp (by rw [hst, hps]; exact hm))
        rw [hst, hps] at HY
        rw [hm] at MR
        clear hpc hcu hli hfr o5 x5 g5 hst hps gV hzV yV hLl hK hr hV hc2 hbs hx hp hm
        go_wp2_with fail
        rw [← HV.out]
        refine RT.out.mono ?_; rintro e u6 ⟨rfl, g6⟩
        obtain ⟨x, gu, d0, d1, d2, _, hlt⟩ := KV.out u6 g6
        have G6 := Lib.hid (show Gr V u6 from g6)
        have M6 := Lib.hid (MR.out u6 g6)
        clear x gu g6 MR
        go_wp2_with fail
        refine M6.out.mono ?_; rintro e u7 ⟨rfl, g7⟩
        clear d0 d1 d2 hlt
        obtain ⟨x, gu, d0, d1, d2, hl7, hlt⟩ := KV.out u7 (G6.out.trans g7)
        obtain ⟨c0, c1, c2', f0, f1, f2⟩ := ZC.out u7 x
        have z := ZF.out u7 x gu (.int .i64 st) (.int .i64 ps) (.slice a2 L.length c2)
        have Z := Lib.hid z
        have LS := Lib.hid (hl7.stay z.2.1 fun b' n' c' e => by have := HFR.out.2 b' n' c' e; have := HFR.out.1; omega)
        clear x gu g7 hl7 z
        go_wp2_with fail
        exact bodyPost_ret (mn_results2 rfl rfl rfl Z.out.1) rfl ⟨.inl ⟨⟨st, ps, L⟩, _, HY.out, rfl, LS.out, HK.out, fun b' n' c' e => by have := HFR.out.2 b' n' c' e; have := HFR.out.1; omega⟩, Z.out.2.2⟩
end Go.Proofs.YtignfbdgpgidpaaGreatDoor
/- The example of layer 19's statements. -/
namespace Go.Proofs.YtignfbdgpgidpaaGreatDoor
open Go.RowKit FsPlain CrcPlain OctPlain MnPlain
set_option linter.unusedVariables false
set_option linter.unusedSimpArgs false
set_option maxRecDepth 20000
theorem liesFl_nil (w : World) : LiesFl w (.slice none 0 0) [] := ⟨none, 0, rfl, Nat.le_refl _, .inl rfl⟩
end Go.Proofs.YtignfbdgpgidpaaGreatDoor
/- The program's layer 19: Find. -/
namespace Go.Proofs.YtignfbdgpgidpaaGreatDoor
open Go.RowKit FsPlain MnPlain
set_option linter.unusedVariables false
set_option linter.unusedSimpArgs false
set_option maxRecDepth 20000
end Go.Proofs.YtignfbdgpgidpaaGreatDoor
/- For the statements of layer 19: arguments, and contracts in the form that a walk wants. -/
namespace Go.Proofs.YtignfbdgpgidpaaGreatDoor
open Go.RowKit Go.ChangeShapes Go.WideShapes Go.Deep FsPlain CrcPlain OctPlain MnPlain
set_option linter.unusedVariables false
set_option linter.unusedSimpArgs false
set_option maxRecDepth 20000
namespace MnPlain
def ptS (m : Mn) : ByteArray := if mnB m = true then mnS m else ⟨#[]⟩
theorem ptS_size {m : Mn} : (ptS m).size ≤ 1000 := by
  unfold ptS
  split
  · next h =>
    have hb : newB [] m.files = true := by unfold mnB at h; rw [Bool.and_eq_true] at h; exact h.2
    have h16 : m.files.length ≤ 16 := by
      unfold mnB at h
      simp only [Bool.and_eq_true, decide_eq_true_eq] at h
      exact h.1.2.2
    have := flatl_le (l := m.files) fun f hf => by
      have := newB_all hb f hf
      unfold flB rightB at this
      simp only [Bool.and_eq_true, decide_eq_true_eq] at this
      have e : f.name.data.toList.length = f.name.size := rfl
      omega
    rw [mnS_size, ← flat_length]
    omega
  · show (0 : Nat) ≤ 1000
    omega
def gtIs (s : ByteArray) (m : Mn) (b : Bool) : Prop := (b = true ∧ mnIs s m) ∨ (b = false ∧ m = ⟨0, 0, []⟩ ∧ ∀ m', ¬ mnIs s m')
end MnPlain
theorem gt_cases2 {s : ByteArray} {w w' : World} {e : Ending} (h : GtSays s w e w') : ∃ (m : Mn) (a : Option Addr) (c : Nat) (b : Bool), e = .returned (.tuple #[.agg #[.int .i64 m.stage, .int .i64 m.pass, .slice a m.files.length c], .bool b]) ∧ LiesFl w' (.slice a m.files.length c) m.files ∧ m.files.length ≤ maxLen ∧ gtIs s m b ∧ Gr w w' ∧ NewFl w (.slice a m.files.length c) := by
  obtain ⟨h | h, g⟩ := h
  · obtain ⟨m, v, hm, rfl, hl, _, hn⟩ := h
    obtain ⟨a, c, e, _⟩ := id hl
    subst e
    have h16 : m.files.length ≤ 16 := by
      have h := hm.1
      unfold mnB at h
      simp only [Bool.and_eq_true, decide_eq_true_eq] at h
      exact h.1.2.2
    exact ⟨m, a, c, true, rfl, hl, by unfold maxLen; omega, .inl ⟨rfl, hm⟩, g, hn⟩
  · exact ⟨⟨0, 0, []⟩, none, 0, false, h.2, liesFl_nil w', by unfold maxLen; simp, .inr ⟨rfl, rfl, h.1⟩, g, newFl_nil w _ _⟩
theorem put19_c (m : Mn) {a : Option Addr} {n c : Nat} (w : World) (h : LiesFl w (.slice a n c) m.files) (hl : m.files.length ≤ maxLen) (hK : ∀ f ∈ m.files, flK f) :
    Calls Tryz.prog 54 #[.agg #[.int .i64 m.stage, .int .i64 m.pass, .slice a n c]] w fun e w' => e = .returned (.tuple #[.string (ptS m), .bool (mnB m)]) ∧ Gr w w' := by
  unfold ptS
  cases hm : mnB m
  · exact put19_no m w h hl hK hm
  · exact put19_yes m w h hK hm
theorem rsame_one (m : Mn) {v v' : Value} (w : World) (h : LiesFl w v m.files) (h' : LiesFl w v' m.files) (hl : m.files.length ≤ maxLen) :
    Calls Tryz.prog 25 #[.agg #[.int .i64 m.stage, .int .i64 m.pass, v], .agg #[.int .i64 m.stage, .int .i64 m.pass, v']] w fun e w' => e = .returned (.bool true) ∧ Gr w w' := by
  obtain ⟨a, c, e, _⟩ := id h
  obtain ⟨a', c', e', _⟩ := id h'
  subst e e'
  have := rsame19_c m.stage m.pass m.stage m.pass a a' _ _ c c' m.files m.files w h h' hl hl
  rwa [show mnEq ⟨m.stage, m.pass, m.files⟩ ⟨m.stage, m.pass, m.files⟩ = true from mnEq_iff.2 rfl] at this
def MnB (u : World) (p : Nat) (x y : Int) (v : Value) : Prop := u.cell? ⟨p, 0, none⟩ = some (.int .i64 x) ∧ u.cell? ⟨p, 1, none⟩ = some (.int .i64 y) ∧ u.cell? ⟨p, 2, none⟩ = some v
theorem mnB_at {u : World} {p : Nat} {x y : Int} {v : Value} (h : u.heap[p]? = some (.cells #[.int .i64 x, .int .i64 y, v] 27 (0, 0))) : MnB u p x y v := ⟨by rw [cells_at h]; rfl, by rw [cells_at h]; rfl, by rw [cells_at h]; rfl⟩
end Go.Proofs.YtignfbdgpgidpaaGreatDoor
/- The document's answers of layer 20: Save. -/
namespace Go.Proofs.YtignfbdgpgidpaaGreatDoor
open Go.RowKit FsPlain CrcPlain OctPlain MnPlain CmPlain
set_option linter.unusedVariables false
set_option linter.unusedSimpArgs false
set_option maxRecDepth 20000
namespace CmPlain
def saveR (s : St) (m : Mn) : St × Int := if mnB m = true then saveS s (ptS m).data.toList else (s, 1)
end CmPlain
def wayS : ByteArray := ⟨#[109, 97, 110, 105, 102, 101, 115, 116, 46, 110, 101, 119]⟩
def nameS : ByteArray := ⟨#[109, 97, 110, 105, 102, 101, 115, 116]⟩
end Go.Proofs.YtignfbdgpgidpaaGreatDoor

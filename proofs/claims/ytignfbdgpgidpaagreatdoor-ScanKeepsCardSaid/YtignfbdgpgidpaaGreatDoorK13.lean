/- In one text: FsBad, RfsRename, MnRef1, MnRef2, MnRef3, MnRef4. -/
import Derived.Test.YtignfbdgpgidpaaGreatDoorK06
import Derived.Test.YtignfbdgpgidpaaGreatDoorK12
import Derived.Test.YtignfbdgpgidpaaGreatDoorK09
import Derived.Test.YtignfbdgpgidpaaGreatDoorK07
/- Both disks: Create and Append of whatever name. -/
namespace Go.Proofs.YtignfbdgpgidpaaGreatDoor
open Go.RowKit FsPlain
set_option linter.unusedVariables false
set_option linter.unusedSimpArgs false
set_option maxRecDepth 20000
def createX (s : St) (n : List UInt8) : St × Int := if rightB n = true then createR s n else (s, 1)
theorem d_createX (p : Nat) (s : St) (n : ByteArray) (hn : n.size ≤ 1000) (h1 : s.calls ≤ 1000000000000) (w : World) (B : Nat → Prop) (h : DiskA p s w B) :
    Calls Tryz.prog 19 #[.pointer (some ⟨p, 0, none⟩), .string n] w (Does w B (DiskA p (createX s n.data.toList).1) (.int .i64 (createX s n.data.toList).2)) := by
  unfold createX
  by_cases hm : rightB n.data.toList = true
  · rw [if_pos hm]
    exact d_create p s n hn hm h1 w B h
  · rw [if_neg hm]
    have hm : rightB n.data.toList = false := by simpa using hm
    have C1 := Lib.hid (right_c n (by unfold maxLen; omega) w)
    rw [hm] at C1
    have C2 := Lib.hid (call_no p 0 s w)
    have H := Lib.hid h
    clear h hm
    go_enter Tryz.func19, Tryz.ntmps19
    go_wp2_with fail
    refine C1.out.mono ?_; rintro e w2 ⟨rfl, rfl⟩
    go_wp2_with fail
    refine C2.out.mono ?_; rintro e w2 ⟨rfl, rfl⟩
    go_wp2_with fail
    go_ret
    exact ⟨rfl, B, H.out, Nx.refl _ _⟩
end Go.Proofs.YtignfbdgpgidpaaGreatDoor
/- The document's disk: Rename. -/
namespace Go.Proofs.YtignfbdgpgidpaaGreatDoor
open Go.RowKit FsPlain
set_option linter.unusedVariables false
set_option linter.unusedSimpArgs false
set_option maxRecDepth 20000
end Go.Proofs.YtignfbdgpgidpaaGreatDoor
/- The document's answers of layer 19: Few, Find. -/
namespace Go.Proofs.YtignfbdgpgidpaaGreatDoor
open Go.RowKit FsPlain MnPlain
set_option linter.unusedVariables false
set_option linter.unusedSimpArgs false
set_option maxRecDepth 20000
namespace MnPlain
def fewB (l : List Fl) : Bool := (l.take 20).all (fun f => decide (f.name.size ≤ 40)) && decide (l.length ≤ 20)
end MnPlain
theorem fl_get {w : World} {a : Option Addr} {n c : Nat} {l : List Fl} (h : LiesFl w (.slice a n c) l) {i : Nat} (hi : i < l.length) : n = l.length ∧ n ≤ c ∧ ∃ b o, a = some ⟨b, o, none⟩ ∧ b < w.heap.size ∧ FlAt w b (o + i * 4) l[i] := by
  obtain ⟨a', c', e, hc, h⟩ := h
  simp only [Value.slice.injEq] at e
  obtain ⟨rfl, rfl, rfl⟩ := e
  rcases h with rfl | ⟨b, o, rfl, h1, h2⟩
  · simp at hi
  · exact ⟨rfl, hc, b, o, rfl, h1, h2 i _ (List.getElem?_eq_getElem hi)⟩
set_option maxHeartbeats 2000000 in
theorem rfew_c (st ps : Int) (a : Option Addr) (n c : Nat) (l : List Fl) (w : World) (h : LiesFl w (.slice a n c) l) (hl : l.length ≤ maxLen) :
    Calls Tryz.prog 39 #[.agg #[.int .i64 st, .int .i64 ps, .slice a n c]] w fun e w' => e = .returned (.bool (fewB l)) ∧ Gr w w' := by
  have hn : n = l.length := by
    obtain ⟨a', c', e, hc, _⟩ := h
    simp only [Value.slice.injEq] at e
    exact e.2.1
  obtain ⟨r, hr⟩ : ∃ r, fewB l = r := ⟨_, rfl⟩
  rw [hr]
  unfold maxLen at hl
  have H := Lib.hid h
  have HR := Lib.hid hr
  clear h hr
  subst hn
  go_enter Tryz.func39, Tryz.ntmps39
  go_wp2_with fail
  go_loopw [3] (fun v wr => ∃ i : Nat, i ≤ l.length ∧ i ≤ 20 ∧ v = .int .i64 (i : Int) ∧ (∀ j (hj : j < l.length), j < i → l[j].name.size ≤ 40) ∧ wr = w.alloc (.cells #[.int .i64 st, .int .i64 ps, .slice a l.length c] 27)) (fun v _ => l.length - (intOf v).toNat)
  case atStart => exact ⟨0, Nat.zero_le _, by decide, rfl, fun j _ hj => by omega, rfl⟩
  case round =>
    obtain ⟨i, hi1, hi2, rfl, hall, rfl⟩ := hrel
    have HA := Lib.hid hall
    clear hall
    by_cases hlt : i < l.length ∧ i < 20
    · obtain ⟨_, hc, b, o, rfl, hb, ⟨k0, _, _, _⟩⟩ := fl_get H.out hlt.1
      have q1 : (i : Int) < (l.length : Int) := by omega
      have q2 : (i : Int) < 20 := by omega
      by_cases hs : l[i].name.size ≤ 40
      · have q3 : ¬ (40 : Int) < (l[i].name.size : Int) := by omega
        have NX := Lib.hid (show ∀ j (hj : j < l.length), j < i + 1 → l[j].name.size ≤ 40 from fun j hj hji => by
          by_cases e : j = i
          · subst e; exact hs
          · exact HA.out j hj (by omega))
        have hb2 : b < w.heap.size := hb
        clear hs
        go_wp2_with fail
        go_roundw
        case rel => exact ⟨i + 1, by omega, by omega, by rw [show ((i + 1 : Nat) : Int) = (i : Int) + 1 by omega], NX.out, by first | rfl | trivial⟩
        case measure => simp [intOf]; omega
      · have q3 : (40 : Int) < (l[i].name.size : Int) := by omega
        have er : r = false := by
          rw [← HR.out]
          unfold fewB
          rw [Bool.and_eq_false_iff, List.all_eq_false]
          left
          exact ⟨l[i], by rw [List.mem_iff_getElem]; exact ⟨i, by rw [List.length_take]; omega, by rw [List.getElem_take]⟩, by simpa using hs⟩
        subst er
        clear hs
        go_wp2_with fail
        go_ret
        exact ⟨rfl, (Gr.refl _).alloc (Nat.le_refl _) _⟩
    · have er : r = decide ((l.length : Int) ≤ 20) := by
        rw [← HR.out]
        unfold fewB
        have e1 : (l.take 20).all (fun f => decide (f.name.size ≤ 40)) = true := by
          rw [List.all_eq_true]
          intro f hf
          obtain ⟨j, hj, rfl⟩ := List.mem_iff_getElem.1 hf
          rw [List.length_take] at hj
          rw [List.getElem_take]
          exact decide_eq_true (HA.out j (by omega) (by omega))
        rw [e1, Bool.true_and]
        exact decide_eq_decide.2 (by omega)
      subst er
      by_cases q1 : (i : Int) < (l.length : Int)
      · have q2 : ¬ (i : Int) < 20 := by omega
        clear hlt
        go_wp2_with fail
        go_ret
        exact ⟨rfl, (Gr.refl _).alloc (Nat.le_refl _) _⟩
      · clear hlt
        go_wp2_with fail
        go_ret
        exact ⟨rfl, (Gr.refl _).alloc (Nat.le_refl _) _⟩
end Go.Proofs.YtignfbdgpgidpaaGreatDoor
/- The document's answers of layer 19: Find. -/
namespace Go.Proofs.YtignfbdgpgidpaaGreatDoor
open Go.RowKit FsPlain MnPlain
set_option linter.unusedVariables false
set_option linter.unusedSimpArgs false
set_option maxRecDepth 20000
def flV (f : Fl) : Value := .agg #[.string f.name, .int .i64 f.size, .int .i64 f.count, .int .u32 f.sum]
def flZ : Fl := ⟨⟨#[]⟩, 0, 0, 0⟩
theorem fl_results {fn : Func} {p u : Tmp} (hfn : fn.results = #[.cell p 48, .tmp u]) {tmps : Array Value} {o : Nat} {f : Fl} {v : Value} {w : World} (hp : tmps.getD p undef = .pointer (some ⟨o, 0, none⟩)) (hu : tmps.getD u undef = v) (c0 : w.cell? ⟨o, 0, none⟩ = some (.string f.name)) (c1 : w.cell? ⟨o, 1, none⟩ = some (.int .i64 f.size)) (c2 : w.cell? ⟨o, 2, none⟩ = some (.int .i64 f.count)) (c3 : w.cell? ⟨o, 3, none⟩ = some (.int .u32 f.sum)) :
    (results fn tmps).run Tryz.prog w = .ok (.tuple #[flV f, v]) w := by
  rw [results_cell_tmp hfn, hp, hu]
  simp [go_sem, c0, c1, c2, c3, flV]
set_option maxHeartbeats 2000000 in
theorem rfind_c (st ps : Int) (a : Option Addr) (n c : Nat) (l : List Fl) (nm : ByteArray) (w : World) (h : LiesFl w (.slice a n c) l) (hl : l.length ≤ maxLen) :
    Calls Tryz.prog 27 #[.agg #[.int .i64 st, .int .i64 ps, .slice a n c], .string nm] w fun e w' => e = .returned (.tuple #[flV ((findF nm l).getD flZ), .bool (findF nm l).isSome]) ∧ Gr w w' := by
  have hn : n = l.length := by
    obtain ⟨a', c', e, hc, _⟩ := h
    simp only [Value.slice.injEq] at e
    exact e.2.1
  obtain ⟨r, hr⟩ : ∃ r, findF nm l = r := ⟨_, rfl⟩
  rw [hr]
  unfold maxLen at hl
  have H := Lib.hid h
  have HR := Lib.hid hr
  clear h hr
  subst hn
  go_enter Tryz.func27, Tryz.ntmps27
  go_wp2_with fail
  go_loopw [6] (fun v wr => ∃ i : Nat, i ≤ l.length ∧ v = .int .i64 (i : Int) ∧ (∀ j (hj : j < l.length), j < i → l[j].name ≠ nm) ∧ wr = (w.alloc (.cells #[.int .i64 st, .int .i64 ps, .slice a l.length c] 27)).alloc (.cells #[.string ⟨#[]⟩, .int .i64 0, .int .i64 0, .int .u32 0] 48)) (fun v _ => l.length - (intOf v).toNat)
  case atStart => exact ⟨0, Nat.zero_le _, rfl, fun j _ hj => by omega, rfl⟩
  case round =>
    obtain ⟨i, hi1, rfl, hall, rfl⟩ := hrel
    have HA := Lib.hid hall
    clear hall
    by_cases hlt : i < l.length
    · obtain ⟨_, hc, b, o, rfl, hb, ⟨k0, k1, k2, k3⟩⟩ := fl_get H.out hlt
      have q1 : (i : Int) < (l.length : Int) := by omega
      by_cases hs : l[i].name = nm
      · have er : r = some l[i] := by rw [← HR.out, find_at hlt (fun j hj => HA.out j (by omega) hj), if_pos hs]
        subst er
        subst hs
        go_wp2_with fail
        exact bodyPost_ret (fl_results (f := l[i]) rfl rfl rfl (by simp [flZ]) (by simp [flZ]) (by simp [flZ]) (by simp [flZ])) rfl ⟨rfl, ((Gr.refl w).alloc (Nat.le_refl _) _).alloc (by simp) _⟩
      · have qs : (l[i].name.toList == nm.toList) = false := by
          rw [beq_eq_false_iff_ne]
          intro e
          exact hs (ByteArray.ext (Array.toList_inj.1 (by rw [← Lib.toList_data, ← Lib.toList_data, e])))
        have NX := Lib.hid (show ∀ j (hj : j < l.length), j < i + 1 → l[j].name ≠ nm from fun j hj hji => by
          by_cases e : j = i
          · subst e; exact hs
          · exact HA.out j hj (by omega))
        clear hs
        go_wp2_with fail
        go_roundw
        case rel => exact ⟨i + 1, by omega, by rw [show ((i + 1 : Nat) : Int) = (i : Int) + 1 by omega], NX.out, by first | rfl | trivial⟩
        case measure => simp [intOf]; omega
    · have er : r = none := by rw [← HR.out]; exact MnPlain.find_no fun j hj => HA.out j hj (by omega)
      subst er
      go_wp2_with fail
      exact bodyPost_ret (fl_results (f := flZ) rfl rfl rfl (by simp [flZ]) (by simp [flZ]) (by simp [flZ]) (by simp [flZ])) rfl ⟨rfl, ((Gr.refl w).alloc (Nat.le_refl _) _).alloc (by simp) _⟩
end Go.Proofs.YtignfbdgpgidpaaGreatDoor
/- The document's answers of layer 19: Right. -/
namespace Go.Proofs.YtignfbdgpgidpaaGreatDoor
open Go.RowKit FsPlain MnPlain
set_option linter.unusedVariables false
set_option linter.unusedSimpArgs false
set_option maxRecDepth 20000
end Go.Proofs.YtignfbdgpgidpaaGreatDoor
/- The document's answers of layer 19: Same. -/
namespace Go.Proofs.YtignfbdgpgidpaaGreatDoor
open Go.RowKit FsPlain MnPlain
set_option linter.unusedVariables false
set_option linter.unusedSimpArgs false
set_option maxRecDepth 20000
namespace MnPlain
def flEq (x y : Fl) : Bool := decide (x.name = y.name) && (decide (x.size = y.size) && (decide (x.count = y.count) && decide (x.sum = y.sum)))
theorem flEq_iff {x y : Fl} : flEq x y = true ↔ x = y := by
  obtain ⟨a, b, c, d⟩ := x
  obtain ⟨a2, b2, c2, d2⟩ := y
  simp [flEq]
def flsEq : List Fl → List Fl → Bool
  | [], [] => true
  | x :: l, y :: m => flEq x y && flsEq l m
  | _, _ => false
theorem flsEq_iff : ∀ {l m : List Fl}, flsEq l m = true ↔ l = m
  | [], [] => by simp [flsEq]
  | [], y :: m => by simp [flsEq]
  | x :: l, [] => by simp [flsEq]
  | x :: l, y :: m => by
    show (flEq x y && flsEq l m) = true ↔ _
    rw [Bool.and_eq_true, flEq_iff, flsEq_iff, List.cons.injEq]
theorem flsEq_len {l m : List Fl} (h : l.length ≠ m.length) : flsEq l m = false := by
  cases e : flsEq l m
  · rfl
  · rw [flsEq_iff.1 e] at h
    exact absurd rfl h
theorem flsEq_step {l m : List Fl} {i : Nat} (h1 : i < l.length) (h2 : i < m.length) : flsEq (l.drop i) (m.drop i) = (flEq l[i] m[i] && flsEq (l.drop (i + 1)) (m.drop (i + 1))) := by
  rw [List.drop_eq_getElem_cons h1, List.drop_eq_getElem_cons h2]
  rfl
def mnEq (x y : Mn) : Bool := decide (x.stage = y.stage) && (decide (x.pass = y.pass) && flsEq x.files y.files)
theorem mnEq_iff {x y : Mn} : mnEq x y = true ↔ x = y := by
  obtain ⟨a, b, c⟩ := x
  obtain ⟨a2, b2, c2⟩ := y
  simp [mnEq, flsEq_iff]
end MnPlain
theorem fl_equal (x y : Fl) (w : World) : (Op.equalIn 10000 48 (.agg #[.string x.name, .int .i64 x.size, .int .i64 x.count, .int .u32 x.sum]) (.agg #[.string y.name, .int .i64 y.size, .int .i64 y.count, .int .u32 y.sum])).run Tryz.prog w = .ok (flEq x y) w := by
  rw [run_equalIn_agg w 9999 _ _ _ (by kernel_rfl) (by kernel_rfl)]
  obtain ⟨a, b, c, d⟩ := x
  obtain ⟨a2, b2, c2, d2⟩ := y
  unfold flEq
  by_cases h1 : a = a2
  · by_cases h2 : b = b2
    · by_cases h3 : c = c2
      · by_cases h4 : d = d2 <;> simp [go_sem, h1, h2, h3, h4]
      · simp [go_sem, h1, h2, h3]
    · simp [go_sem, h1, h2]
  · have e : (a.toList == a2.toList) = false := by
      rw [beq_eq_false_iff_ne]
      exact fun k => h1 (ByteArray.ext (Array.toList_inj.1 (by rw [← Lib.toList_data, ← Lib.toList_data, k])))
    simp [go_sem, h1, e]
theorem fl_neq (x y : Fl) (w : World) : (binOp .neq 48 (.agg #[.string x.name, .int .i64 x.size, .int .i64 x.count, .int .u32 x.sum]) (.agg #[.string y.name, .int .i64 y.size, .int .i64 y.count, .int .u32 y.sum])).run Tryz.prog w = .ok (.bool (!flEq x y)) w := by
  rw [run_neq_struct, fl_equal]
  simp
def SmAt (l m : List Fl) (w1 : World) (v : Value) (wr : World) : Prop := ∃ i : Nat, i ≤ l.length ∧ v = .int .i64 (i : Int) ∧ flsEq l m = flsEq (l.drop i) (m.drop i) ∧ Gr w1 wr
set_option maxHeartbeats 4000000 in
theorem rsame19_c (s1 p1 s2 p2 : Int) (a b : Option Addr) (n1 n2 c1 c2 : Nat) (l m : List Fl) (w : World) (h1 : LiesFl w (.slice a n1 c1) l) (h2 : LiesFl w (.slice b n2 c2) m) (hl : l.length ≤ maxLen) (hm : m.length ≤ maxLen) :
    Calls Tryz.prog 25 #[.agg #[.int .i64 s1, .int .i64 p1, .slice a n1 c1], .agg #[.int .i64 s2, .int .i64 p2, .slice b n2 c2]] w fun e w' => e = .returned (.bool (mnEq ⟨s1, p1, l⟩ ⟨s2, p2, m⟩)) ∧ Gr w w' := by
  have hn1 : n1 = l.length := by
    obtain ⟨a', c', e, hc, _⟩ := h1
    simp only [Value.slice.injEq] at e
    exact e.2.1
  have hn2 : n2 = m.length := by
    obtain ⟨a', c', e, hc, _⟩ := h2
    simp only [Value.slice.injEq] at e
    exact e.2.1
  subst hn1 hn2
  obtain ⟨r, hr⟩ : ∃ r, mnEq ⟨s1, p1, l⟩ ⟨s2, p2, m⟩ = r := ⟨_, rfl⟩
  rw [hr]
  unfold maxLen at hl hm
  unfold mnEq at hr
  simp only at hr
  have H1 := Lib.hid h1
  have H2 := Lib.hid h2
  obtain ⟨W, hW⟩ : ∃ W, W = (w.alloc (.cells #[.int .i64 s1, .int .i64 p1, .slice a l.length c1] 27)).alloc (.cells #[.int .i64 s2, .int .i64 p2, .slice b m.length c2] 27) := ⟨_, rfl⟩
  have gW : Gr w W := by rw [hW]; exact ((Gr.refl w).alloc (Nat.le_refl _) _).alloc (by simp) _
  have GW := Lib.hid gW
  clear h1 h2
  by_cases e1 : s1 = s2
  · subst e1
    by_cases e2 : p1 = p2
    · subst e2
      by_cases e3 : l.length = m.length
      · rw [decide_eq_true rfl, decide_eq_true rfl, Bool.true_and, Bool.true_and] at hr
        have e3b : ((l.length : Int) != (m.length : Int)) = false := by simp [e3]
        have HR := Lib.hid hr
        have HE := Lib.hid e3
        have A2 := Lib.hid (show ∀ u, Gr W u → u.cell? ⟨w.heap.size, 2, none⟩ = some (.slice a l.length c1) ∧ u.cell? ⟨w.heap.size + 1, 2, none⟩ = some (.slice b m.length c2) from fun u g => by
          have hz : W.heap.size = w.heap.size + 2 := by rw [hW]; simp
          have y0 : W.heap[w.heap.size]? = some (.cells #[.int .i64 s1, .int .i64 p1, .slice a l.length c1] 27 (0, 0)) := by
            rw [hW, Below.heap_alloc _ _ _ (by simp)]
            exact heap_alloc_new w _
          have y1 : W.heap[w.heap.size + 1]? = some (.cells #[.int .i64 s1, .int .i64 p1, .slice b m.length c2] 27 (0, 0)) := by
            rw [hW, ← World.size_alloc w (.cells #[.int .i64 s1, .int .i64 p1, .slice a l.length c1] 27)]
            exact heap_alloc_new _ _
          rw [g.cell (p := ⟨w.heap.size, 2, none⟩) (show w.heap.size < W.heap.size by omega), g.cell (p := ⟨w.heap.size + 1, 2, none⟩) (show w.heap.size + 1 < W.heap.size by omega), cells_at y0, cells_at y1]
          exact ⟨rfl, rfl⟩)
        have HW := Lib.hid hW
        clear hr gW e3
        go_enter Tryz.func25, Tryz.ntmps25
        go_wp2_with fail
        rw [← HW.out]
        go_loopw [5] (fun v wr => SmAt l m W v wr) (fun v _ => l.length - (intOf v).toNat)
        case atStart => exact ⟨0, Nat.zero_le _, rfl, by rw [List.drop_zero, List.drop_zero], Gr.refl _⟩
        case round =>
          clear hW e3b
          obtain ⟨i, hi1, rfl, hst, g1⟩ := hrel
          obtain ⟨a2, b2⟩ := A2.out wr g1
          have G := GW.out.trans g1
          by_cases hlt : i < l.length
          · have hlt2 : i < m.length := by rw [← HE.out]; exact hlt
            obtain ⟨_, hc, ab, ao, rfl, hb, ⟨k0, k1, k2, k3⟩⟩ := fl_get (H1.out.gr G) hlt
            obtain ⟨_, hc2, bb, bo, rfl, hb2, ⟨j0, j1, j2, j3⟩⟩ := fl_get (H2.out.gr G) hlt2
            have q1 : (i : Int) < (l.length : Int) := by omega
            have q2 : (i : Int) < (m.length : Int) := by omega
            have hstep := flsEq_step hlt hlt2
            have NE := fun w => fl_neq l[i] m[i] w
            cases he : flEq l[i] m[i]
            · have er : r = false := by rw [← HR.out, hst, hstep, he, Bool.false_and]
              subst er
              rw [he] at NE
              clear hst hstep he
              go_wp2_with fail
              go_region
              go_wp2
              go_ret
              exact ⟨rfl, G.drew⟩
            · have NX := Lib.hid (show flsEq l m = flsEq (l.drop (i + 1)) (m.drop (i + 1)) by rw [hst, hstep, he, Bool.true_and])
              rw [he] at NE
              clear hst hstep he
              go_wp2_with fail
              go_region
              go_wp2
              go_roundw
              case rel => exact ⟨i + 1, by omega, by rw [show ((i + 1 : Nat) : Int) = (i : Int) + 1 by omega], NX.out, g1.drew⟩
              case measure => simp [intOf]; omega
          · have hie : i = l.length := by omega
            have er : r = true := by
              rw [← HR.out, hst, hie, List.drop_length, HE.out, List.drop_length]
              rfl
            subst er
            have q1 : ¬ (i : Int) < (l.length : Int) := by omega
            clear hst
            go_wp2_with fail
            go_ret
            exact ⟨rfl, G⟩
      · have er : r = false := by rw [← hr, flsEq_len e3, Bool.and_false, Bool.and_false]
        have e3b : ((l.length : Int) != (m.length : Int)) = true := by
          rw [bne_iff_ne]
          omega
        subst er
        clear hr e3 hW
        go_enter Tryz.func25, Tryz.ntmps25
        go_wp2_with fail
        go_ret
        exact ⟨rfl, ((Gr.refl w).alloc (Nat.le_refl _) _).alloc (by simp) _⟩
    · have er : r = false := by rw [← hr, decide_eq_false e2, Bool.false_and, Bool.and_false]
      have e2b : (p1 != p2) = true := by simpa using e2
      subst er
      clear hr hW
      go_enter Tryz.func25, Tryz.ntmps25
      go_wp2_with fail
      go_ret
      exact ⟨rfl, ((Gr.refl w).alloc (Nat.le_refl _) _).alloc (by simp) _⟩
  · have er : r = false := by rw [← hr, decide_eq_false e1, Bool.false_and]
    have e1b : (s1 != s2) = true := by simpa using e1
    subst er
    clear hr hW
    go_enter Tryz.func25, Tryz.ntmps25
    go_wp2_with fail
    go_ret
    exact ⟨rfl, ((Gr.refl w).alloc (Nat.le_refl _) _).alloc (by simp) _⟩
end Go.Proofs.YtignfbdgpgidpaaGreatDoor

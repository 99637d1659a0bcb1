/- In one text: MnRef6. -/
import Derived.Test.YtgobdapngbpoeaaP16
import Derived.Test.YtgobdapngbpoeaaP17
import Derived.BigQuiet
/- The document's answers of layer 19: With. -/
namespace Go.Proofs.Ytgobdapngbpoeaa
open Go.RowKit FsPlain MnPlain
set_option linter.unusedVariables false
set_option linter.unusedSimpArgs false
set_option maxRecDepth 20000
/-- At the head of a file. -/
def WtAt (m : Mn) (g : Fl) (B : Nat) (w1 : World) (vp vi : Value) (wr : World) : Prop :=
  ∃ (i : Nat) (v2 : Value), i ≤ m.files.length ∧ vi = .int .i64 (i : Int) ∧ vp = .bool (hasN g.name (m.files.take i)) ∧ wr.heap[B]? = some (.cells #[.int .i64 m.stage, .int .i64 m.pass, v2] 24 (0, 0)) ∧ wr.ownsRow (B + 1) 27 4 v2 (setF g (m.files.take i)).length (fls (setF g (m.files.take i))) ∧ Only (fun b => b = B) w1 wr
/-- A file appended to out's files, and the field written. -/
theorem wt_app {B : Nat} {W wr wz w2 : World} {st ps : Int} {v2 v' : Value} {l : List Fl} {x : Fl} (hb : wr.heap[B]? = some (.cells #[.int .i64 st, .int .i64 ps, v2] 24 (0, 0))) (hown : wr.ownsRow (B + 1) 27 4 v2 l.length (fls l)) (ho : Only (fun b => b = B) W wr) (hW : W.heap.size = B + 1)
    (gz : Gr wr wz) (hown2 : w2.ownsRow (B + 1) 27 4 v' (l.length + 1) (fls l ++ flc x)) (hgrow : wz.grownBy w2 v2.ownBlock) :
    (w2.frozen? ⟨B, 2, none⟩ = false ∧ w2.cell? ⟨B, 2, none⟩ = some v2 ∧ w2.cell? ⟨B, 0, none⟩ = some (.int .i64 st) ∧ w2.cell? ⟨B, 1, none⟩ = some (.int .i64 ps)) ∧
    (w2.setCell ⟨B, 2, none⟩ v').heap[B]? = some (.cells #[.int .i64 st, .int .i64 ps, v'] 24 (0, 0)) ∧ (w2.setCell ⟨B, 2, none⟩ v').ownsRow (B + 1) 27 4 v' (l ++ [x]).length (fls (l ++ [x])) ∧ Only (fun b => b = B) W (w2.setCell ⟨B, 2, none⟩ v') := by
  have hlt := lt_of_block hb
  have hne : some B ≠ v2.ownBlock := fun e => by
    have := (hown.lt B e.symm).1
    omega
  have h2 : w2.heap[B]? = some (.cells #[.int .i64 st, .int .i64 ps, v2] 24 (0, 0)) := by
    rw [hgrow.block B (Nat.lt_of_lt_of_le hlt gz.size) hne]
    exact (gz.block B hlt).trans hb
  obtain ⟨B', h3, _⟩ := blk_next (i := 2) (show Blk B #[.int .i64 st, .int .i64 ps, v2] 24 w2 (fun b => b = B) from ⟨h2, fun b => Iff.rfl⟩) v'
  refine ⟨⟨cells_free h2 2, by rw [cells_at h2]; rfl, by rw [cells_at h2]; rfl, by rw [cells_at h2]; rfl⟩, h3.1, ?_, ?_⟩
  · rw [fls_snoc, List.length_append, List.length_singleton]
    exact ownsRow_setCell_below hown2 (Nat.lt_succ_self B) v'
  · have o1 : Only (fun b => b = B) W wz := ho.trans (Only.ofGr gz)
    have o2 : Only (fun k => v2.ownBlock = some k) wz w2 := Only.grown hgrow fun k e => e
    have o3 : Only (fun b => b = B) W w2 := o1.andThen o2 fun k e => .inr (by rw [hW]; exact (hown.lt k e).1)
    exact o3.trans (Only.cell1 w2 B 2 v')
theorem wt_fin {w u : World} {B q : Nat} {v' : Value} {l : List Fl} (hq : q < B) (hw : w.heap.size ≤ q) (h : u.ownsRow B 27 4 v' l.length (fls l)) (g : Gr w u) {c : Array Value} {T : TypeId} (hc : u.heap[q]? = some (.cells c T (0, 0))) (x y z : Value) :
    (((u.setCell ⟨q, 0, none⟩ x).setCell ⟨q, 1, none⟩ y).setCell ⟨q, 2, none⟩ z).heap[q]? = some (.cells (((c.setIfInBounds 0 x).setIfInBounds 1 y).setIfInBounds 2 z) T (0, 0)) ∧ LiesFl (((u.setCell ⟨q, 0, none⟩ x).setCell ⟨q, 1, none⟩ y).setCell ⟨q, 2, none⟩ z) v' l ∧ Gr w (((u.setCell ⟨q, 0, none⟩ x).setCell ⟨q, 1, none⟩ y).setCell ⟨q, 2, none⟩ z) := by
  have h1 := ownsRow_setCell_below (ownsRow_setCell_below (ownsRow_setCell_below h (a := ⟨q, 0, none⟩) hq x) (a := ⟨q, 1, none⟩) hq y) (a := ⟨q, 2, none⟩) hq z
  have o := ((Only.cell1 u q 0 x).trans (Only.cell1 _ q 1 y)).trans (Only.cell1 _ q 2 z)
  obtain ⟨_, b1, _⟩ := blk_next (i := 0) (show Blk q c T u (fun b => b = q) from ⟨hc, fun b => Iff.rfl⟩) x
  obtain ⟨_, b2, _⟩ := blk_next (i := 1) b1 y
  obtain ⟨_, b3, _⟩ := blk_next (i := 2) b2 z
  exact ⟨b3.1, liesFl_own h1, Below.trans g (o.toBelow (n := w.heap.size) g.size fun b e => by omega)⟩
theorem mn_results {fn : Func} {p : Tmp} (hfn : fn.results = #[.cell p 24]) {tmps : Array Value} {o : Nat} {x y z : Value} {w : World} (hp : tmps.getD p undef = .pointer (some ⟨o, 0, none⟩)) (hx : x.oneCell' = true) (hy : y.oneCell' = true) (hz : z.oneCell' = true) (hb : w.heap[o]? = some (.cells #[x, y, z] 24 (0, 0))) :
    (results fn tmps).run Try.prog w = .ok (.agg #[x, y, z]) w := by
  have c0 : w.cell? ⟨o, 0, none⟩ = some x := by rw [cells_at hb]; rfl
  have c1 : w.cell? ⟨o, 1, none⟩ = some y := by rw [cells_at hb]; rfl
  have c2 : w.cell? ⟨o, 2, none⟩ = some z := by rw [cells_at hb]; rfl
  have hp2 := hp
  rw [Array.getD_eq_getD_getElem?] at hp2
  simp [results, hfn, hp2, go_sem, c0, c1, c2]
set_option maxHeartbeats 8000000 in
theorem rwith19_c (m : Mn) (g : Fl) {a : Option Addr} {n c : Nat} (w : World) (h : LiesFl w (.slice a n c) m.files) (hl : m.files.length ≤ 1000000) :
    Calls Try.prog 17 #[.agg #[.int .i64 m.stage, .int .i64 m.pass, .slice a n c], .agg #[.string g.name, .int .i64 g.size, .int .i64 g.count, .int .u32 g.sum]] w fun e w' => ∃ v, e = .returned (.agg #[.int .i64 m.stage, .int .i64 m.pass, v]) ∧ LiesFl w' v (withF g m.files) ∧ Gr w w' := by
  have hn : n = m.files.length := by
    obtain ⟨a', c', e, hc, _⟩ := h
    simp only [Value.slice.injEq] at e
    exact e.2.1
  subst hn
  obtain ⟨i0, hi, hz0, hz1, hz2⟩ := info_parts infoFl
  obtain ⟨W, hW⟩ : ∃ W, W = (((w.alloc (.cells #[.int .i64 m.stage, .int .i64 m.pass, .slice a m.files.length c] 24)).alloc (.cells #[.string g.name, .int .i64 g.size, .int .i64 g.count, .int .u32 g.sum] 27)).alloc (.cells #[.int .i64 0, .int .i64 0, .slice none 0 0] 24)).alloc (.cells #[.int .i64 m.stage, .int .i64 m.pass, .slice none 0 0] 24) := ⟨_, rfl⟩
  have gW : Gr w W := by rw [hW]; exact ((((Gr.refl w).alloc (Nat.le_refl _) _).alloc (by simp) _).alloc (by simp <;> omega) _).alloc (by simp <;> omega) _
  have hz : W.heap.size = w.heap.size + 1 + 1 + 1 + 1 := by rw [hW]; simp
  have y0 : W.heap[w.heap.size]? = some (.cells #[.int .i64 m.stage, .int .i64 m.pass, .slice a m.files.length c] 24 (0, 0)) := by
    rw [hW, Below.heap_alloc _ _ _ (by simp <;> omega), Below.heap_alloc _ _ _ (by simp <;> omega), Below.heap_alloc _ _ _ (by simp)]
    exact heap_alloc_new w _
  have y1 : W.heap[w.heap.size + 1]? = some (.cells #[.string g.name, .int .i64 g.size, .int .i64 g.count, .int .u32 g.sum] 27 (0, 0)) := by
    rw [hW, Below.heap_alloc _ _ _ (by simp <;> omega), Below.heap_alloc _ _ _ (by simp)]
    have := heap_alloc_new (w.alloc (.cells #[.int .i64 m.stage, .int .i64 m.pass, .slice a m.files.length c] 24)) (.cells #[.string g.name, .int .i64 g.size, .int .i64 g.count, .int .u32 g.sum] 27)
    rwa [World.size_alloc] at this
  have y2 : W.heap[w.heap.size + 1 + 1]? = some (.cells #[.int .i64 0, .int .i64 0, .slice none 0 0] 24 (0, 0)) := by
    rw [hW, Below.heap_alloc _ _ _ (by simp)]
    have := heap_alloc_new ((w.alloc (.cells #[.int .i64 m.stage, .int .i64 m.pass, .slice a m.files.length c] 24)).alloc (.cells #[.string g.name, .int .i64 g.size, .int .i64 g.count, .int .u32 g.sum] 27)) (.cells #[.int .i64 0, .int .i64 0, .slice none 0 0] 24)
    rwa [World.size_alloc, World.size_alloc] at this
  have y3 : W.heap[w.heap.size + 1 + 1 + 1]? = some (.cells #[.int .i64 m.stage, .int .i64 m.pass, .slice none 0 0] 24 (0, 0)) := by
    rw [hW]
    have := heap_alloc_new (((w.alloc (.cells #[.int .i64 m.stage, .int .i64 m.pass, .slice a m.files.length c] 24)).alloc (.cells #[.string g.name, .int .i64 g.size, .int .i64 g.count, .int .u32 g.sum] 27)).alloc (.cells #[.int .i64 0, .int .i64 0, .slice none 0 0] 24)) (.cells #[.int .i64 m.stage, .int .i64 m.pass, .slice none 0 0] 24)
    rwa [World.size_alloc, World.size_alloc, World.size_alloc] at this
  have SH := Lib.hid (fun (wr u : World) (ho : Only (fun b => b = w.heap.size + 1 + 1 + 1) W wr) (q : Gr wr u) => by
    have k0 : u.heap[w.heap.size]? = _ := (q.block _ (by have := ho.size; omega)).trans ((ho.block _ (by omega) (by omega)).trans y0)
    have k1 : u.heap[w.heap.size + 1]? = _ := (q.block _ (by have := ho.size; omega)).trans ((ho.block _ (by omega) (by omega)).trans y1)
    exact (⟨by rw [cells_at k0]; rfl, by rw [cells_at k1]; rfl, by rw [cells_at k1]; rfl, by rw [cells_at k1]; rfl, by rw [cells_at k1]; rfl⟩ : u.cell? ⟨w.heap.size, 2, none⟩ = some (.slice a m.files.length c) ∧ u.cell? ⟨w.heap.size + 1, 0, none⟩ = some (.string g.name) ∧ u.cell? ⟨w.heap.size + 1, 1, none⟩ = some (.int .i64 g.size) ∧ u.cell? ⟨w.heap.size + 1, 2, none⟩ = some (.int .i64 g.count) ∧ u.cell? ⟨w.heap.size + 1, 3, none⟩ = some (.int .u32 g.sum)))
  have GA := Lib.hid (fun (wr u : World) (ho : Only (fun b => b = w.heap.size + 1 + 1 + 1) W wr) (q : Gr wr u) => (Below.trans gW (Below.trans (ho.toBelow (n := w.heap.size) (by omega) (fun b e => by omega)) (Below.mono q (by have := ho.size; omega))) : Gr w u))
  have Y2 := Lib.hid y2
  have HW := Lib.hid hW
  have HZ := Lib.hid hz
  have KH := Lib.hid (show ∀ u, Gr w u → LiesFl u (.slice a m.files.length c) m.files from fun u q => h.gr q)
  have ST := Lib.hid (show WtAt m g (w.heap.size + 1 + 1 + 1) W (.bool false) (.int .i64 0) W from ⟨0, .slice none 0 0, Nat.zero_le _, rfl, rfl, y3, World.ownsRow_nil _ _ _ _, Only.refl _ _⟩)
  have hbI : ∀ k, k ≤ m.files.length → (k + 1) * 40 ≤ 140737488355328 ∧ k + 1 ≤ maxLen := fun k hk => ⟨by omega, by unfold maxLen; omega⟩
  clear h y0 y1 y2 y3 gW hW hz
  go_enter Try.func17, Try.ntmps17
  go_wp2_with fail
  rw [← HW.out]
  go_loopw [6, 7] (fun vp vi wr => WtAt m g (w.heap.size + 1 + 1 + 1) W vp vi wr) (fun _ vi _ => m.files.length - (intOf vi).toNat)
  case atStart => exact ST.out
  case round =>
    clear ST
    obtain ⟨i, v2, hi1, rfl, rfl, hb, hown, ho⟩ := hrel
    obtain ⟨A2, F0, F1, F2, F3⟩ := SH.out wr wr ho (Gr.refl wr)
    have G1 := GA.out wr wr ho (Gr.refl wr)
    have hsl : (setF g (m.files.take i)).length = i := by rw [set_length, List.length_take]; omega
    by_cases hlt : i < m.files.length
    · have q1 : (i : Int) < (m.files.length : Int) := by omega
      obtain ⟨_, hc, b, o, rfl, hbl, ⟨k0, k1, k2, k3⟩⟩ := fl_get (KH.out wr G1) hlt
      have htk : m.files.take (i + 1) = m.files.take i ++ [m.files[i]] := by rw [List.take_add_one, List.getElem?_eq_getElem hlt]; rfl
      have hset := set_snoc g (m.files.take i) m.files[i]
      have hhas := has_snoc g.name (m.files.take i) m.files[i]
      rw [← htk] at hset hhas
      obtain ⟨f, hf⟩ : ∃ f, m.files[i] = f := ⟨_, rfl⟩
      rw [hf] at k0 k1 k2 k3 hset hhas
      obtain ⟨p, hp⟩ : ∃ p, hasN g.name (m.files.take i) = p := ⟨_, rfl⟩
      obtain ⟨L, hL⟩ : ∃ L, setF g (m.files.take i) = L := ⟨_, rfl⟩
      rw [hp] at hset hhas ⊢
      rw [hL] at hset hown hsl
      have hbI := hbI i (by omega)
      have kB : ∀ u, Gr wr u → u.cell? ⟨w.heap.size + 1 + 1 + 1, 2, none⟩ = some v2 := fun u q => by rw [cells_at ((q.block _ (lt_of_block hb)).trans hb)]; rfl
      have hws : w.heap.size + 1 + 1 + 1 + 1 ≤ wr.heap.size := by have := ho.size; have := HZ.out; omega
      have hblr := G1.size
      have hmx : m.files.length ≤ maxLen := by unfold maxLen; omega
      by_cases hA : f.name = g.name ∧ p = false
      · obtain ⟨hnm, rfl⟩ := hA
        rw [hnm] at k0
        rw [if_pos ⟨rfl, hnm⟩] at hset
        rw [hnm, decide_eq_true rfl, Bool.or_true] at hhas
        have NX := Lib.hid (show ∀ (v' : Value) (u : World), u.heap[w.heap.size + 1 + 1 + 1]? = some (.cells #[.int .i64 m.stage, .int .i64 m.pass, v'] 24 (0, 0)) → u.ownsRow (w.heap.size + 1 + 1 + 1 + 1) 27 4 v' (L ++ [g]).length (fls (L ++ [g])) → Only (fun b => b = w.heap.size + 1 + 1 + 1) W u → WtAt m g (w.heap.size + 1 + 1 + 1) W (.bool true) (.int .i64 ((i : Int) + 1)) u from fun v' u a1 a2 a3 => ⟨i + 1, v', by omega, rfl, by rw [hhas], a1, by rw [hset]; exact a2, a3⟩)
        clear hset hhas hp hL hf htk
        go_wp2_with fail
        go_quiet (fail)
        rename_i nq
        obtain ⟨Z, hZ⟩ : ∃ Z, Z = wr.drewN nq := ⟨_, rfl⟩
        rw [← hZ]
        have gZ : Gr wr Z := by rw [hZ]; exact grN19 _ _
        clear hZ A2 F0 F1 F2 F3 k0 k1 k2 k3
        obtain ⟨A2, F0, F1, F2, F3⟩ := SH.out wr Z ho gZ
        have kZ := kB Z gZ
        have hownZ := ownsRow_gr hown gZ
        rw [hsl] at hownZ
        go_wp2_with (first
          | (at_builtin; refine wpList_append_own_at _ rfl _ _ 22 rfl (w.heap.size + 1 + 1 + 1 + 1) 27 i0 (.agg #[.string ⟨#[]⟩, .int .i64 0, .int .i64 0, .int .u32 0]) 4 40 Try.underlying22 hi hz0 hz1 hz2 rfl (by decide) _ _ _ rfl (hownZ.alloc _) ⟨Z.heap.size, 0, none⟩ 1 1 (flc g) rfl ?c0 ?c1 ?c2 ?c3 ?c4 ?c5 ?_)
          | go_in)
        case c0 => rfl
        case c1 =>
          intro jj z hjz
          rw [add_lit19, World.cell?_alloc_new, List.getElem?_toArray, Nat.zero_add]
          exact hjz
        case c2 => exact flc_one g
        case c3 => exact hbI.2
        case c4 => exact hbI.1
        case c5 => have := gZ.size; simp only [World.size_alloc]; omega
        intro X' w2 hown2 hgrow _ hat
        obtain ⟨gb, cap, rfl, _, _⟩ := hown2.form (by omega)
        obtain ⟨⟨z1, z2, _, _⟩, hb', hown', ho'⟩ := wt_app (x := g) hb hown ho HZ.out (gZ.trans ((Gr.refl Z).alloc (Nat.le_refl _) _)) (by rw [hsl]; exact hown2) hgrow
        have N2 := Lib.hid (NX.out _ _ hb' hown' ho')
        clear hown hown2 hgrow hat hb' hown' ho' hownZ hb ho NX A2 F0 F1 F2 F3 kZ
        go_wp2_with fail
        go_roundw
        case rel => exact N2.out
        case measure => simp [intOf]; omega
      · have hB : (f.name = g.name ∧ p = true) ∨ (f.name.toList == g.name.toList) = false := by
          by_cases e : f.name = g.name
          · exact .inl ⟨e, by cases p <;> simp_all⟩
          · refine .inr ?_
            rw [beq_eq_false_iff_ne]
            intro k
            exact e (ByteArray.ext (Array.toList_inj.1 (by rw [← Lib.toList_data, ← Lib.toList_data, k])))
        rw [if_neg (fun k => hA ⟨k.2, k.1⟩)] at hset
        have hhas2 : hasN g.name (m.files.take (i + 1)) = p := by
          rw [hhas]
          rcases hB with ⟨_, e⟩ | e
          · rw [e, Bool.true_or]
          · rw [decide_eq_false (fun k => by rw [k] at e; simp at e), Bool.or_false]
        have NX := Lib.hid (show ∀ (v' : Value) (u : World), u.heap[w.heap.size + 1 + 1 + 1]? = some (.cells #[.int .i64 m.stage, .int .i64 m.pass, v'] 24 (0, 0)) → u.ownsRow (w.heap.size + 1 + 1 + 1 + 1) 27 4 v' (L ++ [f]).length (fls (L ++ [f])) → Only (fun b => b = w.heap.size + 1 + 1 + 1) W u → WtAt m g (w.heap.size + 1 + 1 + 1) W (.bool p) (.int .i64 ((i : Int) + 1)) u from fun v' u a1 a2 a3 => ⟨i + 1, v', by omega, rfl, by rw [hhas2], a1, by rw [hset]; exact a2, a3⟩)
        have KF := Lib.hid (show ∀ u, Gr wr u → u.cell? ⟨b, o + i * 4, none⟩ = some (.string f.name) ∧ u.cell? ⟨b, o + i * 4 + 1, none⟩ = some (.int .i64 f.size) ∧ u.cell? ⟨b, o + i * 4 + 2, none⟩ = some (.int .i64 f.count) ∧ u.cell? ⟨b, o + i * 4 + 3, none⟩ = some (.int .u32 f.sum) from fun u q => ⟨by rw [Below.cell q (p := ⟨b, _, none⟩) hbl]; exact k0, by rw [Below.cell q (p := ⟨b, _, none⟩) hbl]; exact k1, by rw [Below.cell q (p := ⟨b, _, none⟩) hbl]; exact k2, by rw [Below.cell q (p := ⟨b, _, none⟩) hbl]; exact k3⟩)
        have hblw : b < w.heap.size := by
          obtain ⟨_, _, b', o', e, hb', _⟩ := fl_get (KH.out w (Gr.refl w)) hlt
          simp only [Option.some.injEq, Addr.mk.injEq] at e
          rw [e.1]; exact hb'
        have hbne : some b ≠ v2.ownBlock := fun e => by
          have := (hown.lt b e.symm).1
          omega
        have hBne : some (w.heap.size + 1 + 1 + 1) ≠ v2.ownBlock := fun e => by
          have := (hown.lt _ e.symm).1
          omega
        have hane : some w.heap.size ≠ v2.ownBlock := fun e => by
          have := (hown.lt _ e.symm).1
          omega
        clear hset hhas hhas2 hp hL hf htk hA
        rcases hB with ⟨hnm, rfl⟩ | qs
        rw [← hnm] at F0
        all_goals
          go_wp2_with fail
          go_quiet (fail)
          rename_i nq
          obtain ⟨Z, hZ⟩ : ∃ Z, Z = wr.drewN nq := ⟨_, rfl⟩
          rw [← hZ]
          have gZ : Gr wr Z := by rw [hZ]; exact grN19 _ _
          clear hZ A2 F0 F1 F2 F3 k0 k1 k2 k3
          obtain ⟨D, hD⟩ : ∃ D, D = (Z.alloc (.cells #[.string f.name, .int .i64 f.size, .int .i64 f.count, .int .u32 f.sum] 27)).drew := ⟨_, rfl⟩
          have gD : Gr Z D := by rw [hD]; exact Below.drew ((Gr.refl Z).alloc (Nat.le_refl _) _)
          have hDz : D.heap.size = Z.heap.size + 1 := by rw [hD]; show (Z.alloc _).heap.size = _; rw [World.size_alloc]
          have hownD := ownsRow_gr hown (gZ.trans gD)
          rw [hsl] at hownD
          obtain ⟨gb, cap, w1, hrun, hown1, hgrow, hat, hlt1⟩ := run_append_lies (P := Try.prog) D 22 22 (w.heap.size + 1 + 1 + 1 + 1) 27 i0 (.agg #[.string ⟨#[]⟩, .int .i64 0, .int .i64 0, .int .u32 0]) 4 40 Try.underlying22 hi hz0 hz1 hz2 rfl (by decide) v2 i (fls L) hownD ⟨Z.heap.size, 0, none⟩ 1 1 (flc f) rfl (World.news_of_block (show D.heap[Z.heap.size]? = _ by rw [hD]; exact heap_alloc_new Z _)) (flc_one f) (by omega) hbI.2 hbI.1 (by have := gZ.size; omega) _ rfl
          have hk1 := hgrow.size
          have hk2 := gZ.size
          have z0 : w1.cell? ⟨w.heap.size + 1 + 1 + 1, 2, none⟩ = some v2 := by rw [World.cell?_of_block (hgrow.block (w.heap.size + 1 + 1 + 1) (by omega) hBne)]; exact kB D (gZ.trans gD)
          have z1 : w1.cell? ⟨w.heap.size, 2, none⟩ = some (.slice (some ⟨b, o, none⟩) m.files.length c) := by rw [World.cell?_of_block (hgrow.block w.heap.size (by omega) hane)]; exact (SH.out wr D ho (gZ.trans gD)).1
          have zF : ∀ k, w1.cell? ⟨b, k, none⟩ = D.cell? ⟨b, k, none⟩ := fun k => World.cell?_of_block (hgrow.block b (by omega) hbne)
          obtain ⟨d0, d1, d2, d3⟩ := KF.out D (gZ.trans gD)
          obtain ⟨e0, e1, e2, e3⟩ := KF.out Z gZ
          have S0 := Lib.hid (ws4_all (S := fun u => u.cell? ⟨w.heap.size + 1 + 1 + 1, 2, none⟩ = some v2 ∧ u.cell? ⟨w.heap.size, 2, none⟩ = some (.slice (some ⟨b, o, none⟩) m.files.length c) ∧ u.cell? ⟨b, o + i * 4, none⟩ = some (.string f.name) ∧ u.cell? ⟨b, o + i * 4 + 1, none⟩ = some (.int .i64 f.size) ∧ u.cell? ⟨b, o + i * 4 + 2, none⟩ = some (.int .i64 f.count) ∧ u.cell? ⟨b, o + i * 4 + 3, none⟩ = some (.int .u32 f.sum)) (a := Z.drew) (b := D) (c := w1) (d := w1.setCell ⟨w.heap.size + 1 + 1 + 1, 2, none⟩ (.slice (some ⟨gb, 0, none⟩) (i + 1) cap))
            ⟨kB Z gZ, (SH.out wr Z ho gZ).1, e0, e1, e2, e3⟩ ⟨kB D (gZ.trans gD), (SH.out wr D ho (gZ.trans gD)).1, d0, d1, d2, d3⟩ ⟨z0, z1, (zF _).trans d0, (zF _).trans d1, (zF _).trans d2, (zF _).trans d3⟩)
          obtain ⟨⟨z2, z3, _, _⟩, hb', hown', ho'⟩ := wt_app (x := f) hb hown ho HZ.out (gZ.trans gD) (by rw [hsl]; exact hown1) hgrow
          have N2 := Lib.hid (NX.out _ _ hb' hown' ho')
          have HR := Lib.hid hrun
          have HD := Lib.hid hD
          clear hown hown1 hgrow hat hb' hown' ho' hownD hb ho NX z0 z1 zF d0 d1 d2 d3 e0 e1 e2 e3 hrun hD hk1 hk2
          go_wp2_with fail
          refine textW_region [7, 8, 10] (Ws4 Z.drew D w1 (w1.setCell ⟨w.heap.size + 1 + 1 + 1, 2, none⟩ (.slice (some ⟨gb, 0, none⟩) (i + 1) cap))) (fun u => u.cell? ⟨w.heap.size + 1 + 1 + 1, 2, none⟩ = some v2 ∧ u.cell? ⟨w.heap.size, 2, none⟩ = some (.slice (some ⟨b, o, none⟩) m.files.length c) ∧ u.cell? ⟨b, o + i * 4, none⟩ = some (.string f.name) ∧ u.cell? ⟨b, o + i * 4 + 1, none⟩ = some (.int .i64 f.size) ∧ u.cell? ⟨b, o + i * 4 + 2, none⟩ = some (.int .i64 f.count) ∧ u.cell? ⟨b, o + i * 4 + 3, none⟩ = some (.int .u32 f.sum)) (by kernel_rfl) (by kernel_rfl) (by kernel_rfl) (by kernel_rfl) (by kernel_rfl) rfl S0.out ?_
          iterate 7 (first
            | (refine textW_skip (by decide) (by rfl) ?_; (try simp only [Act.put, List.setIfInBounds_toArray, List.set_cons_zero, List.set_cons_succ]))
            | (refine textW_val (v := ?_) (by decide) (by rfl) ?_ ?_; rotate_left 1; (· intro u hu; (try dsimp only at hu); go_simp <;> with_reducible rfl); (try simp only [Act.put, List.setIfInBounds_toArray, List.set_cons_zero, List.set_cons_succ])))
          refine textW_mut (v := .slice (some ⟨Z.heap.size, 0, none⟩) 1 1) 0 rfl (by rfl) (by unfold Ws4; rw [HD.out]; go_simp) ?_
          (try simp only [Act.put, List.setIfInBounds_toArray, List.set_cons_zero, List.set_cons_succ])
          refine textW_mut (v := .slice (some ⟨gb, 0, none⟩) (i + 1) cap) 1 rfl (by rfl) (exec_append (.tmp 40) (.tmp 46) _ _ (by rfl) (by rfl) (by rfl) HR.out) ?_
          (try simp only [Act.put, List.setIfInBounds_toArray, List.set_cons_zero, List.set_cons_succ])
          iterate 1 (first
            | (refine textW_skip (by decide) (by rfl) ?_; (try simp only [Act.put, List.setIfInBounds_toArray, List.set_cons_zero, List.set_cons_succ]))
            | (refine textW_val (v := ?_) (by decide) (by rfl) ?_ ?_; rotate_left 1; (· intro u hu; (try dsimp only at hu); go_simp <;> with_reducible rfl); (try simp only [Act.put, List.setIfInBounds_toArray, List.set_cons_zero, List.set_cons_succ])))
          refine textW_store 2 rfl (by rfl) (by rfl) (by unfold Ws4; go_simp) ?_
          refine textW_done ?_
          dsimp only [Ws4, List.length]
          go_wp2_with fail
          go_roundw
          case rel => exact N2.out
          case measure => simp [intOf]; omega
    · have hie : i = m.files.length := by omega
      have q1 : ¬ (i : Int) < (m.files.length : Int) := by omega
      rw [hie, List.take_length] at hsl hown ⊢
      have hws : w.heap.size + 1 + 1 + 1 + 1 ≤ wr.heap.size := by have := ho.size; have := HZ.out; omega
      have hw := with_set g m.files
      obtain ⟨p, hp⟩ : ∃ p, hasN g.name m.files = p := ⟨_, rfl⟩
      obtain ⟨L, hL⟩ : ∃ L, setF g m.files = L := ⟨_, rfl⟩
      rw [hp, hL] at hw
      rw [hp]
      rw [hL] at hown hsl
      have FN := Lib.hid (show ∀ (l : List Fl) (a2 : Option Addr) (n2 c2 : Nat) (u : World), u.heap[w.heap.size + 1 + 1 + 1]? = some (.cells #[.int .i64 m.stage, .int .i64 m.pass, .slice a2 n2 c2] 24 (0, 0)) → u.ownsRow (w.heap.size + 1 + 1 + 1 + 1) 27 4 (.slice a2 n2 c2) l.length (fls l) → Only (fun b => b = w.heap.size + 1 + 1 + 1) W u → u.heap[w.heap.size + 1 + 1]? = some (.cells #[.int .i64 0, .int .i64 0, .slice none 0 0] 24 (0, 0)) ∧ (((u.setCell ⟨w.heap.size + 1 + 1, 0, none⟩ (.int .i64 m.stage)).setCell ⟨w.heap.size + 1 + 1, 1, none⟩ (.int .i64 m.pass)).setCell ⟨w.heap.size + 1 + 1, 2, none⟩ (.slice a2 n2 c2)).heap[w.heap.size + 1 + 1]? = some (.cells #[.int .i64 m.stage, .int .i64 m.pass, .slice a2 n2 c2] 24 (0, 0)) ∧ LiesFl (((u.setCell ⟨w.heap.size + 1 + 1, 0, none⟩ (.int .i64 m.stage)).setCell ⟨w.heap.size + 1 + 1, 1, none⟩ (.int .i64 m.pass)).setCell ⟨w.heap.size + 1 + 1, 2, none⟩ (.slice a2 n2 c2)) (.slice a2 n2 c2) l ∧ Gr w (((u.setCell ⟨w.heap.size + 1 + 1, 0, none⟩ (.int .i64 m.stage)).setCell ⟨w.heap.size + 1 + 1, 1, none⟩ (.int .i64 m.pass)).setCell ⟨w.heap.size + 1 + 1, 2, none⟩ (.slice a2 n2 c2)) from fun l a2 n2 c2 u a1 h2 a3 => by
        have r2 : u.heap[w.heap.size + 1 + 1]? = some (.cells #[.int .i64 0, .int .i64 0, .slice none 0 0] 24 (0, 0)) := (a3.block _ (by have := HZ.out; omega) (by omega)).trans Y2.out
        exact ⟨r2, wt_fin (w := w) (q := w.heap.size + 1 + 1) (by omega) (by omega) h2 (GA.out u u a3 (Gr.refl u)) r2 (.int .i64 m.stage) (.int .i64 m.pass) (.slice a2 n2 c2)⟩)
      cases p with
      | true =>
        rw [if_pos rfl] at hw
        subst hw
        obtain ⟨a2, c2, rfl, _⟩ := liesFl_own hown
        obtain ⟨r2, r3⟩ := FN.out _ _ _ _ _ hb hown ho
        have kB0 : wr.cell? ⟨w.heap.size + 1 + 1 + 1, 0, none⟩ = some (.int .i64 m.stage) := by rw [cells_at hb]; rfl
        have kB1 : wr.cell? ⟨w.heap.size + 1 + 1 + 1, 1, none⟩ = some (.int .i64 m.pass) := by rw [cells_at hb]; rfl
        have kB2 : wr.cell? ⟨w.heap.size + 1 + 1 + 1, 2, none⟩ = some (.slice a2 (withF g m.files).length c2) := by rw [cells_at hb]; rfl
        have kC0 : wr.cell? ⟨w.heap.size + 1 + 1, 0, none⟩ = some (.int .i64 0) := by rw [cells_at r2]; rfl
        have kC1 : wr.cell? ⟨w.heap.size + 1 + 1, 1, none⟩ = some (.int .i64 0) := by rw [cells_at r2]; rfl
        have kC2 : wr.cell? ⟨w.heap.size + 1 + 1, 2, none⟩ = some (.slice none 0 0) := by rw [cells_at r2]; rfl
        have kf0 := cells_free r2 0
        have kf1 := cells_free r2 1
        have kf2 := cells_free r2 2
        have R3 := Lib.hid r3
        clear hown hb ho FN hie hp hL hsl F0 F1 F2 F3 r2 r3
        go_wp2_with fail
        exact bodyPost_ret (mn_results rfl rfl rfl rfl rfl R3.out.1) rfl ⟨_, rfl, R3.out.2⟩
      | false =>
        rw [if_neg (by simp)] at hw
        have hbI := hbI m.files.length (Nat.le_refl _)
        have kB : wr.cell? ⟨w.heap.size + 1 + 1 + 1, 2, none⟩ = some v2 := by rw [cells_at hb]; rfl
        rw [hsl] at hown
        clear hie hp hL
        go_wp2_with (first
          | (at_builtin; refine wpList_append_own_at _ rfl _ _ 22 rfl (w.heap.size + 1 + 1 + 1 + 1) 27 i0 (.agg #[.string ⟨#[]⟩, .int .i64 0, .int .i64 0, .int .u32 0]) 4 40 Try.underlying22 hi hz0 hz1 hz2 rfl (by decide) _ _ _ rfl (hown.alloc _) ⟨wr.heap.size, 0, none⟩ 1 1 (flc g) rfl ?c0 ?c1 ?c2 ?c3 ?c4 ?c5 ?_)
          | go_in)
        case c0 => rfl
        case c1 =>
          intro jj z hjz
          exact hjz
        case c2 => exact flc_one g
        case c5 => first | omega | (simp only [World.size_alloc]; omega)
        intro X' w2 hown2 hgrow _ hat
        obtain ⟨gb, cap, rfl, _, _⟩ := hown2.form (by omega)
        obtain ⟨⟨z1, z2, z3, z4⟩, hb', hown', ho'⟩ := wt_app (x := g) hb (by rw [hsl]; exact hown) ho HZ.out ((Gr.refl wr).alloc (Nat.le_refl _) _) (by rw [hsl]; exact hown2) hgrow
        rw [← hw] at hown'
        obtain ⟨r2, r3⟩ := FN.out _ _ _ _ _ hb' hown' ho'
        have hz2' : w.heap.size + 1 + 1 < w2.heap.size := by have := hgrow.size; simp only [World.size_alloc] at this; omega
        have r4 : w2.heap[w.heap.size + 1 + 1]? = some (.cells #[.int .i64 0, .int .i64 0, .slice none 0 0] 24 (0, 0)) := ((Only.cell1 w2 (w.heap.size + 1 + 1 + 1) 2 (.slice (some ⟨gb, 0, none⟩) (m.files.length + 1) cap)).block _ hz2' (by omega)).symm.trans r2
        have kC0 : w2.cell? ⟨w.heap.size + 1 + 1, 0, none⟩ = some (.int .i64 0) := by rw [cells_at r4]; rfl
        have kC1 : w2.cell? ⟨w.heap.size + 1 + 1, 1, none⟩ = some (.int .i64 0) := by rw [cells_at r4]; rfl
        have kC2 : w2.cell? ⟨w.heap.size + 1 + 1, 2, none⟩ = some (.slice none 0 0) := by rw [cells_at r4]; rfl
        have kf0 := cells_free r4 0
        have kf1 := cells_free r4 1
        have kf2 := cells_free r4 2
        have R3 := Lib.hid r3
        clear hown hown2 hgrow hat hb' hown' ho' hb ho FN A2 F0 F1 F2 F3 kB r2 r3 r4 hz2'
        go_wp2_with fail
        exact bodyPost_ret (mn_results rfl rfl rfl rfl rfl R3.out.1) rfl ⟨_, rfl, R3.out.2⟩
end Go.Proofs.Ytgobdapngbpoeaa

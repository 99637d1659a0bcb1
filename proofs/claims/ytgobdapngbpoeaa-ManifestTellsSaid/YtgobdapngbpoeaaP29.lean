/- In one text: MnPe. -/
import Derived.Test.YtgobdapngbpoeaaP27
import Derived.Test.YtgobdapngbpoeaaP18
import Derived.Laws.OwnMore
/- The program's layer 19: With. -/
namespace Go.Proofs.Ytgobdapngbpoeaa
open Go.RowKit FsPlain MnPlain
set_option linter.unusedVariables false
set_option linter.unusedSimpArgs false
set_option maxRecDepth 20000
theorem fls_set : ∀ {l : List Fl} {k : Nat} (_ : k < l.length) (g : Fl), ((((fls l).set (k * 4) (.string g.name)).set (k * 4 + 1) (.int .i64 g.size)).set (k * 4 + 2) (.int .i64 g.count)).set (k * 4 + 3) (.int .u32 g.sum) = fls (l.set k g)
  | [], k, h, g => by simp at h
  | x :: l, 0, h, g => rfl
  | x :: l, k + 1, h, g => by
    have h' : k < l.length := by simpa using h
    have ih := fls_set h' g
    have e : (k + 1) * 4 = k * 4 + 1 + 1 + 1 + 1 := by omega
    rw [e]
    simp only [fls, List.set_cons_succ]
    rw [ih]
namespace MnPlain
theorem with_pl {g : Fl} {l : List Fl} {k : Nat} (hk : k < l.length) (hn : l[k].name = g.name) (h : ∀ j (hj : j < k), l[j].name ≠ g.name) : withF g l = l.set k g := by
  have e : l = l.take k ++ (l[k] :: l.drop (k + 1)) := by rw [← List.drop_eq_getElem_cons hk, List.take_append_drop]
  have ha : ∀ f ∈ l.take k, f.name ≠ g.name := fun f hf => by
    obtain ⟨j, hj, rfl⟩ := List.mem_iff_getElem.1 hf
    rw [List.getElem_take]
    rw [List.length_take] at hj
    exact h j (by omega)
  have e2 : withF g l = withF g (l.take k ++ (l[k] :: l.drop (k + 1))) := congrArg _ e
  rw [e2, with_ahead ha, List.set_eq_take_append_cons_drop, if_pos hk]
  show _ ++ (if l[k].name = g.name then g :: l.drop (k + 1) else _) = _
  rw [if_pos hn]
theorem with_no {g : Fl} {l : List Fl} (h : ∀ j (hj : j < l.length), l[j].name ≠ g.name) : withF g l = l ++ [g] := by
  have := with_ahead (g := g) (l := l) (m := []) fun f hf => by
    obtain ⟨j, hj, rfl⟩ := List.mem_iff_getElem.1 hf
    exact h j hj
  rw [List.append_nil] at this
  exact this
end MnPlain
/-- At the head of a file. -/
def WpAt (m : Mn) (W : World) (vf vi : Value) (wr : World) : Prop := ∃ i : Nat, i ≤ m.files.length ∧ vi = .int .i64 (i : Int) ∧ wr.ownsRow W.heap.size 27 4 vf i (fls (m.files.take i)) ∧ Gr W wr
/-- A file put in an own row. -/
theorem flrow_set {B : Nat} {u : World} {b n c : Nat} {l : List Fl} (h : u.ownsRow B 27 4 (.slice (some ⟨b, 0, none⟩) n c) n (fls l)) {k : Nat} (hk : k < l.length) (g : Fl) :
    ((((u.setCell ⟨b, k * 4, none⟩ (.string g.name)).setCell ⟨b, k * 4 + 1, none⟩ (.int .i64 g.size)).setCell ⟨b, k * 4 + 2, none⟩ (.int .i64 g.count)).setCell ⟨b, k * 4 + 3, none⟩ (.int .u32 g.sum)).ownsRow B 27 4 (.slice (some ⟨b, 0, none⟩) n c) n (fls (l.set k g)) ∧
    Only (fun i => i = b) u ((((u.setCell ⟨b, k * 4, none⟩ (.string g.name)).setCell ⟨b, k * 4 + 1, none⟩ (.int .i64 g.size)).setCell ⟨b, k * 4 + 2, none⟩ (.int .i64 g.count)).setCell ⟨b, k * 4 + 3, none⟩ (.int .u32 g.sum)) := by
  refine ⟨?_, (((Only.cell1 u b _ _).trans (Only.cell1 _ b _ _)).trans (Only.cell1 _ b _ _)).trans (Only.cell1 _ b _ _)⟩
  rw [← fls_set hk g]
  exact ((((h.stored (k * 4) (.string g.name)).1.stored (k * 4 + 1) (.int .i64 g.size)).1.stored (k * 4 + 2) (.int .i64 g.count)).1.stored (k * 4 + 3) (.int .u32 g.sum)).1
set_option maxHeartbeats 8000000 in
theorem with19_c (m : Mn) (g : Fl) {a : Option Addr} {n c : Nat} (w : World) (h : LiesFl w (.slice a n c) m.files) (hl : m.files.length ≤ 1000000) (hN : ∀ f ∈ m.files, f.name.size ≤ 1000) (hg : g.name.size ≤ 1000) :
    Calls Try.prog 16 #[.agg #[.int .i64 m.stage, .int .i64 m.pass, .slice a n c], .agg #[.string g.name, .int .i64 g.size, .int .i64 g.count, .int .u32 g.sum]] w fun e w' => ∃ v, e = .returned (.agg #[.int .i64 m.stage, .int .i64 m.pass, v]) ∧ LiesFl w' v (withF g m.files) ∧ Gr w w' := by
  have hn := lies_len h
  subst hn
  obtain ⟨i0, hi, hz0, hz1, hz2⟩ := info_parts infoFl
  obtain ⟨W, hW⟩ : ∃ W, W = ((w.alloc (.cells #[.int .i64 m.stage, .int .i64 m.pass, .slice a m.files.length c] 24)).alloc (.cells #[.string g.name, .int .i64 g.size, .int .i64 g.count, .int .u32 g.sum] 27)).alloc (.cells #[.int .i64 0, .int .i64 0, .slice none 0 0] 24) := ⟨_, rfl⟩
  have gW : Gr w W := by rw [hW]; exact (((Gr.refl w).alloc (Nat.le_refl _) _).alloc (by simp) _).alloc (by simp <;> omega) _
  have hz : W.heap.size = w.heap.size + 1 + 1 + 1 := by rw [hW]; simp
  have y0 : W.heap[w.heap.size]? = some (.cells #[.int .i64 m.stage, .int .i64 m.pass, .slice a m.files.length c] 24 (0, 0)) := by
    rw [hW, Below.heap_alloc _ _ _ (by simp <;> omega), Below.heap_alloc _ _ _ (by simp)]
    exact heap_alloc_new w _
  have y1 : W.heap[w.heap.size + 1]? = some (.cells #[.string g.name, .int .i64 g.size, .int .i64 g.count, .int .u32 g.sum] 27 (0, 0)) := by
    rw [hW, Below.heap_alloc _ _ _ (by simp)]
    have := heap_alloc_new (w.alloc (.cells #[.int .i64 m.stage, .int .i64 m.pass, .slice a m.files.length c] 24)) (.cells #[.string g.name, .int .i64 g.size, .int .i64 g.count, .int .u32 g.sum] 27)
    rwa [World.size_alloc] at this
  have y2 : W.heap[w.heap.size + 1 + 1]? = some (.cells #[.int .i64 0, .int .i64 0, .slice none 0 0] 24 (0, 0)) := by
    rw [hW]
    have := heap_alloc_new ((w.alloc (.cells #[.int .i64 m.stage, .int .i64 m.pass, .slice a m.files.length c] 24)).alloc (.cells #[.string g.name, .int .i64 g.size, .int .i64 g.count, .int .u32 g.sum] 27)) (.cells #[.int .i64 0, .int .i64 0, .slice none 0 0] 24)
    rwa [World.size_alloc, World.size_alloc] at this
  have SH := Lib.hid (fun (u : World) (q : Gr W u) => by
    have k0 : u.heap[w.heap.size]? = _ := (q.block _ (by omega)).trans y0
    have k1 : u.heap[w.heap.size + 1]? = _ := (q.block _ (by omega)).trans y1
    have k2 : u.heap[w.heap.size + 1 + 1]? = _ := (q.block _ (by omega)).trans y2
    exact (⟨⟨by rw [cells_at k0]; rfl, by rw [cells_at k0]; rfl, by rw [cells_at k0]; rfl⟩, ⟨by rw [cells_at k1]; rfl, by rw [cells_at k1]; rfl, by rw [cells_at k1]; rfl, by rw [cells_at k1]; rfl⟩, k2, gW.trans q⟩ : (u.cell? ⟨w.heap.size, 0, none⟩ = some (.int .i64 m.stage) ∧ u.cell? ⟨w.heap.size, 1, none⟩ = some (.int .i64 m.pass) ∧ u.cell? ⟨w.heap.size, 2, none⟩ = some (.slice a m.files.length c)) ∧ (u.cell? ⟨w.heap.size + 1, 0, none⟩ = some (.string g.name) ∧ u.cell? ⟨w.heap.size + 1, 1, none⟩ = some (.int .i64 g.size) ∧ u.cell? ⟨w.heap.size + 1, 2, none⟩ = some (.int .i64 g.count) ∧ u.cell? ⟨w.heap.size + 1, 3, none⟩ = some (.int .u32 g.sum)) ∧ u.heap[w.heap.size + 1 + 1]? = some (.cells #[.int .i64 0, .int .i64 0, .slice none 0 0] 24 (0, 0)) ∧ Gr w u))
  have HW := Lib.hid hW
  have HZ := Lib.hid hz
  have KH := Lib.hid (show ∀ u, Gr w u → LiesFl u (.slice a m.files.length c) m.files from fun u q => h.gr q)
  have ST := Lib.hid (show WpAt m W (.slice none 0 0) (.int .i64 0) W from ⟨0, Nat.zero_le _, rfl, World.ownsRow_nil _ _ _ _, Gr.refl _⟩)
  have HN := Lib.hid hN
  have OWg := Lib.hid (fun u => own19_c g hg u)
  have FN := Lib.hid (fun (u : World) (l : List Fl) (v' : Value) (gu : Gr W u) (ho : u.ownsRow W.heap.size 27 4 v' l.length (fls l)) => wt_fin (w := w) (q := w.heap.size + 1 + 1) (B := W.heap.size) (by omega) (by omega) ho (gW.trans gu) ((gu.block _ (by omega)).trans y2) (.int .i64 m.stage) (.int .i64 m.pass) v')
  have hbI : ∀ k, k ≤ m.files.length → (k + 1) * 40 ≤ 140737488355328 ∧ k + 1 ≤ maxLen := fun k hk => ⟨by omega, by unfold maxLen; omega⟩
  clear h y0 y1 y2 gW hW hz hN hg
  go_enter Try.func16, Try.ntmps16
  go_wp2_with fail
  rw [← HW.out]
  go_loopw [5, 12] (fun vf vi wr => WpAt m W vf vi wr) (fun _ vi _ => m.files.length - (intOf vi).toNat)
  case atStart => exact ST.out
  case round =>
    clear ST
    obtain ⟨i, hi1, rfl, hown, gr⟩ := hrel
    obtain ⟨⟨A0, A1, A2⟩, ⟨F0, F1, F2, F3⟩, Y2, G1⟩ := SH.out wr gr
    by_cases hlt : i < m.files.length
    · have q1 : (i : Int) < (m.files.length : Int) := by omega
      obtain ⟨_, hc, b, o, rfl, hbl, ⟨k0, k1, k2, k3⟩⟩ := fl_get (KH.out wr G1) hlt
      have htk : m.files.take (i + 1) = m.files.take i ++ [m.files[i]] := by rw [List.take_add_one, List.getElem?_eq_getElem hlt]; rfl
      have OW := Lib.hid (fun u => own19_c m.files[i] (HN.out _ (List.getElem_mem hlt)) u)
      obtain ⟨f, hf⟩ : ∃ f, m.files[i] = f := ⟨_, rfl⟩
      rw [hf] at k0 k1 k2 k3 OW htk
      have HT := Lib.hid htk
      obtain ⟨L, hL⟩ : ∃ L, m.files.take i = L := ⟨_, rfl⟩
      rw [hL] at hown
      have HL := Lib.hid hL
      have hbI := hbI i (by omega)
      have hmx : (m.files.length : Int) ≤ 9223372036854775807 := by omega
      have gV := gr19 wr (.cells #[.string f.name, .int .i64 f.size, .int .i64 f.count, .int .u32 f.sum] 27)
      have GV := Lib.hid gV
      have GR := Lib.hid gr
      have hwz := gr.size
      clear htk hf hL gV A0 A1 F0 F1 F2 F3 Y2 gr
      go_wp2_with fail
      refine (OW.out _).mono ?_; rintro e u ⟨rfl, g2⟩
      have gu := GV.out.trans g2
      have hownU := ownsRow_gr hown gu
      have hsz := gu.size
      go_wp2_with (first
        | (at_builtin; refine wpList_append_own_at _ rfl _ _ 22 rfl W.heap.size 27 i0 (.agg #[.string ⟨#[]⟩, .int .i64 0, .int .i64 0, .int .u32 0]) 4 40 Try.underlying22 hi hz0 hz1 hz2 rfl (by decide) _ _ _ rfl (hownU.alloc _) ⟨u.heap.size, 0, none⟩ 1 1 (flc f) rfl ?c0 ?c1 ?c2 ?c3 ?c4 ?c5 ?_)
        | go_in)
      case c0 => rfl
      case c1 =>
        intro jj z hjz
        rw [add_lit19, World.cell?_alloc_new, List.getElem?_toArray, Nat.zero_add]
        exact hjz
      case c2 => exact flc_one f
      case c3 => exact hbI.2
      case c4 => exact hbI.1
      case c5 => simp only [World.size_alloc]; omega
      intro v' w2 hown2 hgrow _ hat
      have hgW : Gr W w2 := Below.grown (Below.alloc (Below.trans (show Below W.heap.size W wr from GR.out) (Below.mono gu hwz)) (by omega) _) hgrow (by simp only [World.size_alloc]; omega) (fun q hq => (hown.lt q hq).1)
      have NX := Lib.hid (show WpAt m W v' (.int .i64 ((i : Int) + 1)) w2 from ⟨i + 1, by omega, rfl, by rw [HT.out, HL.out, fls_snoc]; exact hown2, hgW⟩)
      clear hown hown2 hownU hgrow hat hgW gu g2 hsz
      go_wp2_with fail
      go_roundw
      case rel => exact NX.out
      case measure => simp [intOf]; omega
    · have hie : i = m.files.length := by omega
      have q1 : ¬ (i : Int) < (m.files.length : Int) := by omega
      rw [hie, List.take_length] at hown
      obtain ⟨a2, c2, rfl, _⟩ := liesFl_own hown
      have PC := Lib.hid (place19_c (liesFl_own hown) (by unfold maxLen; omega) g.name)
      have hbI := hbI m.files.length (Nat.le_refl _)
      have GR := Lib.hid gr
      clear A0 A1 A2 F1 F2 F3 Y2
      go_wp2_with fail
      refine PC.out.mono ?_; intro e u hpi
      obtain ⟨j, rfl, hpi, g2⟩ := hpi
      obtain ⟨_, ⟨F0, F1, F2, F3⟩, _, _⟩ := SH.out u (GR.out.trans g2)
      have hownU := ownsRow_gr hown g2
      have hszu := g2.size
      have hszr := gr.size
      have GU := Lib.hid (GR.out.trans g2)
      rcases hpi with ⟨rfl, hno⟩ | ⟨k, rfl, hk, hnm, hah⟩
      · have HWI := Lib.hid (with_no (g := g) hno)
        clear hno hown g2 gr hie
        go_wp2_with fail
        refine (OWg.out _).mono ?_; rintro e u2 ⟨rfl, g3⟩
        have hownV := ownsRow_gr hownU g3
        have hszv := g3.size
        go_wp2_with (first
          | (at_builtin; refine wpList_append_own_at _ rfl _ _ 22 rfl W.heap.size 27 i0 (.agg #[.string ⟨#[]⟩, .int .i64 0, .int .i64 0, .int .u32 0]) 4 40 Try.underlying22 hi hz0 hz1 hz2 rfl (by decide) _ _ _ rfl (hownV.alloc _) ⟨u2.heap.size, 0, none⟩ 1 1 (flc g) rfl ?c0 ?c1 ?c2 ?c3 ?c4 ?c5 ?_)
          | go_in)
        case c0 => rfl
        case c1 =>
          intro jj z hjz
          rw [add_lit19, World.cell?_alloc_new, List.getElem?_toArray, Nat.zero_add]
          exact hjz
        case c2 => exact flc_one g
        case c3 => exact hbI.2
        case c4 => exact hbI.1
        case c5 => simp only [World.size_alloc]; omega
        intro v' w2 hown2 hgrow _ hat
        have hgW : Gr W w2 := Below.grown (Below.alloc (Below.trans (show Below W.heap.size W u from GU.out) (Below.mono g3 (by omega))) (by omega) _) hgrow (by simp only [World.size_alloc]; omega) (fun q hq => (hownU.lt q hq).1)
        obtain ⟨⟨A0, A1, _⟩, _, Y2, _⟩ := SH.out w2 hgW
        have hown3 : w2.ownsRow W.heap.size 27 4 v' (m.files ++ [g]).length (fls (m.files ++ [g])) := by rw [fls_snoc, List.length_append, List.length_singleton]; exact hown2
        obtain ⟨R1, R2⟩ := FN.out w2 _ v' hgW hown3
        rw [← HWI.out] at R2
        have R3 := Lib.hid (And.intro R1 R2)
        obtain ⟨gb, cap, rfl, _, _⟩ := hown2.form (by omega)
        have kC0 : w2.cell? ⟨w.heap.size + 1 + 1, 0, none⟩ = some (.int .i64 0) := by rw [cells_at Y2]; rfl
        have kC1 : w2.cell? ⟨w.heap.size + 1 + 1, 1, none⟩ = some (.int .i64 0) := by rw [cells_at Y2]; rfl
        have kC2 : w2.cell? ⟨w.heap.size + 1 + 1, 2, none⟩ = some (.slice none 0 0) := by rw [cells_at Y2]; rfl
        have kf0 := cells_free Y2 0
        have kf1 := cells_free Y2 1
        have kf2 := cells_free Y2 2
        clear hown2 hown3 hownU hownV hgrow hat hgW R1 R2 Y2 F0 F1 F2 F3 g3
        go_wp2_with fail
        exact bodyPost_ret (mn_results rfl rfl rfl rfl rfl R3.out.1) rfl ⟨_, rfl, R3.out.2⟩
      · have HWI := Lib.hid (with_pl (g := g) hk hnm hah)
        have qk : (k : Int) < (m.files.length : Int) := by omega
        have qk0 : ¬ (k : Int) < 0 := by omega
        clear hnm hah hown g2 gr hie
        go_wp2_with fail
        refine (OWg.out _).mono ?_; rintro e u2 ⟨rfl, g3⟩
        have hownV := ownsRow_gr hownU g3
        have hszv := g3.size
        obtain ⟨gb, cap, hva, hgb, hgl⟩ := hownV.form (by omega)
        simp only [Value.slice.injEq] at hva
        obtain ⟨rfl, -, rfl⟩ := hva
        have hlen := fls_length m.files
        have r0 : u2.cell? ⟨gb, k * 4, none⟩ = some (.string m.files[k].name) := by rw [hownV.cellAt (k * 4) (by omega)]; exact (fls_at (List.getElem?_eq_getElem hk)).1
        have r1 : u2.cell? ⟨gb, k * 4 + 1, none⟩ = some (.int .i64 m.files[k].size) := by rw [hownV.cellAt (k * 4 + 1) (by omega)]; exact (fls_at (List.getElem?_eq_getElem hk)).2.1
        have r2 : u2.cell? ⟨gb, k * 4 + 2, none⟩ = some (.int .i64 m.files[k].count) := by rw [hownV.cellAt (k * 4 + 2) (by omega)]; exact (fls_at (List.getElem?_eq_getElem hk)).2.2.1
        have r3 : u2.cell? ⟨gb, k * 4 + 3, none⟩ = some (.int .u32 m.files[k].sum) := by rw [hownV.cellAt (k * 4 + 3) (by omega)]; exact (fls_at (List.getElem?_eq_getElem hk)).2.2.2
        have t0 := hownV.frozenAt (k * 4)
        have t1 := hownV.frozenAt (k * 4 + 1)
        have t2 := hownV.frozenAt (k * 4 + 2)
        have t3 := hownV.frozenAt (k * 4 + 3)
        obtain ⟨hownS, oS⟩ := flrow_set hownV hk g
        obtain ⟨U, hU⟩ : ∃ U, (((u2.setCell ⟨gb, k * 4, none⟩ (.string g.name)).setCell ⟨gb, k * 4 + 1, none⟩ (.int .i64 g.size)).setCell ⟨gb, k * 4 + 2, none⟩ (.int .i64 g.count)).setCell ⟨gb, k * 4 + 3, none⟩ (.int .u32 g.sum) = U := ⟨_, rfl⟩
        rw [hU] at hownS oS
        have hgW : Gr W U := Below.trans (Below.trans (show Below W.heap.size W u from GU.out) (Below.mono g3 (by omega))) (oS.toBelow (n := W.heap.size) (by omega) fun b e => by omega)
        obtain ⟨⟨A0, A1, _⟩, _, Y2, _⟩ := SH.out U hgW
        obtain ⟨R1, R2⟩ := FN.out U (m.files.set k g) _ hgW (by rw [List.length_set]; exact hownS)
        rw [← HWI.out] at R2
        have R3 := Lib.hid (And.intro R1 R2)
        have kC0 : U.cell? ⟨w.heap.size + 1 + 1, 0, none⟩ = some (.int .i64 0) := by rw [cells_at Y2]; rfl
        have kC1 : U.cell? ⟨w.heap.size + 1 + 1, 1, none⟩ = some (.int .i64 0) := by rw [cells_at Y2]; rfl
        have kC2 : U.cell? ⟨w.heap.size + 1 + 1, 2, none⟩ = some (.slice none 0 0) := by rw [cells_at Y2]; rfl
        have kf0 := cells_free Y2 0
        have kf1 := cells_free Y2 1
        have kf2 := cells_free Y2 2
        clear hownS hownU hownV oS hgW R1 R2 Y2 F0 F1 F2 F3 g3 hlen
        go_wp2_with fail
        exact bodyPost_ret (mn_results rfl rfl rfl rfl rfl R3.out.1) rfl ⟨_, rfl, R3.out.2⟩
end Go.Proofs.Ytgobdapngbpoeaa

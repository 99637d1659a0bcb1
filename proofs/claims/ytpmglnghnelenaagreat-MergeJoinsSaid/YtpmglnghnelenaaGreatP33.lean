/- In one text: LoSet, LoUp. -/
import Derived.Test.YtpmglnghnelenaaGreatP32
import Derived.Test.YtpmglnghnelenaaGreatP02
import Derived.Deep.RegionLaw
import Derived.WalkMore
import Derived.ScopeJumps
/- What a source has from now on: the program's set. -/
namespace Go.Proofs.YtpmglnghnelenaaGreat
open Go.RowKit LoPlain
set_option linter.unusedVariables false
set_option linter.unusedSimpArgs false
set_option maxRecDepth 20000
/-- What a store into a block known whole leaves of its cells. -/
theorem set_cell {w : World} {b : Nat} {c : Array Value} {T : TypeId} (h : w.heap[b]? = some (.cells c T (0, 0))) (i : Nat) (u : Value) (j : Nat) : (w.setCell ⟨b, i, none⟩ u).cell? ⟨b, j, none⟩ = (c.setIfInBounds i u)[j]? := cells_at (cells_set h i u) j
theorem set_free {w : World} {b : Nat} {c : Array Value} {T : TypeId} (h : w.heap[b]? = some (.cells c T (0, 0))) (i : Nat) (u : Value) (j : Nat) : (w.setCell ⟨b, i, none⟩ u).frozen? ⟨b, j, none⟩ = false := cells_free (cells_set h i u) j
theorem some_at {cs : Array Value} {i : Nat} (h : i < cs.size) : ∃ v, cs[i]? = some v := ⟨cs[i], Array.getElem?_eq_getElem h⟩
set_option maxHeartbeats 2000000 in
/-- One is over. -/
theorem set_over_c {p n : Nat} {g : Nat → Option Hd} {left : Int} {f : Nat → Int} {win : Int} {w : World} {B : Nat → Prop} (h : TrA p n g left f win w B) (hl : 1 ≤ left ∧ left ≤ 64) {i : Nat} (hi : i < 64) (s : ByteArray) :
    Calls Tryz.prog 89 #[.pointer (some ⟨p, 0, none⟩), .int .i64 i, .string s, .bool true] w (Does w B (TrA p n (setA g i ⟨s, true⟩) (left - 1) f win) (.tuple #[])) := by
  obtain ⟨cs, ⟨hb, hB⟩, ht⟩ := h
  have hs := ht.size
  obtain ⟨y1, hy1⟩ := some_at (cs := cs) (i := 2 + i * 2) (by omega)
  obtain ⟨y2, hy2⟩ := some_at (cs := cs) (i := 2 + i * 2 + 1) (by omega)
  have hb1 := cells_set hb (2 + i * 2) (.string ⟨#[]⟩)
  have hb2 := cells_set hb1 (2 + i * 2 + 1) (.bool true)
  have hT : TrC n (setA g i ⟨s, true⟩) left f win ((cs.setIfInBounds (2 + i * 2) (.string ⟨#[]⟩)).setIfInBounds (2 + i * 2 + 1) (.bool true)) := ht.set hi ⟨s, true⟩
  have hb3 := cells_set hb2 1 (.int .i64 (left - 1))
  have f1 : w.cell? ⟨p, 2 + i * 2, none⟩ = some y1 := by rw [cells_at hb]; exact hy1
  have f2 : w.frozen? ⟨p, 2 + i * 2, none⟩ = false := cells_free hb _
  have f3 : (w.setCell ⟨p, 2 + i * 2, none⟩ (.string ⟨#[]⟩)).cell? ⟨p, 2 + i * 2 + 1, none⟩ = some y2 := by rw [cells_at hb1, sib_get _ _ _ _ (by omega), if_neg (by omega)]; exact hy2
  have f4 : (w.setCell ⟨p, 2 + i * 2, none⟩ (.string ⟨#[]⟩)).frozen? ⟨p, 2 + i * 2 + 1, none⟩ = false := cells_free hb1 _
  have f5 : ((w.setCell ⟨p, 2 + i * 2, none⟩ (.string ⟨#[]⟩)).setCell ⟨p, 2 + i * 2 + 1, none⟩ (.bool true)).cell? ⟨p, 1, none⟩ = some (.int .i64 left) := by rw [cells_at hb2]; exact hT.c1
  have f6 : ((w.setCell ⟨p, 2 + i * 2, none⟩ (.string ⟨#[]⟩)).setCell ⟨p, 2 + i * 2 + 1, none⟩ (.bool true)).frozen? ⟨p, 1, none⟩ = false := cells_free hb2 _
  have HE := Lib.hid (show TrA p n (setA g i ⟨s, true⟩) (left - 1) f win (((w.setCell ⟨p, 2 + i * 2, none⟩ (.string ⟨#[]⟩)).setCell ⟨p, 2 + i * 2 + 1, none⟩ (.bool true)).setCell ⟨p, 1, none⟩ (.int .i64 (left - 1))) B from ⟨_, ⟨hb3, hB⟩, hT.left _⟩)
  have HN := Lib.hid (show Nx B w B (((w.setCell ⟨p, 2 + i * 2, none⟩ (.string ⟨#[]⟩)).setCell ⟨p, 2 + i * 2 + 1, none⟩ (.bool true)).setCell ⟨p, 1, none⟩ (.int .i64 (left - 1))) from
    Nx.of (((Only.cell1 w p _ _).trans (Only.cell1 _ p _ _)).trans (Only.cell1 _ p _ _)) (fun b e => (hB b).2 e))
  clear hb hb1 hb2 hb3 hT ht hy1 hy2 hs
  go_enter Tryz.func89, Tryz.ntmps89
  go_wp2_with fail
  refine bodyPost_ret (results_none rfl _ _ _) rfl ⟨rfl, B, HE.out, HN.out⟩
set_option maxHeartbeats 4000000 in
/-- One has a head. -/
theorem set_head_c {p n : Nat} {g : Nat → Option Hd} {left : Int} {f : Nat → Int} {win : Int} {w : World} {B : Nat → Prop} (h : TrA p n g left f win w B) {i : Nat} (hi : i < 64) (s : ByteArray) (hz : s.size ≤ 1000) :
    Calls Tryz.prog 89 #[.pointer (some ⟨p, 0, none⟩), .int .i64 i, .string s, .bool false] w (Does w B (TrA p n (setA g i ⟨s, false⟩) left f win) (.tuple #[])) := by
  have FR := Lib.hid (fun u (q : Gr w u) => (fr_tr p n g left f win).fr h (Only.ofGr (B := fun _ => False) q) (fun _ _ e => e))
  have K : ∀ u, Gr w u → p < w.heap.size ∧ (∃ y, u.cell? ⟨p, 2 + i * 2, none⟩ = some y) ∧ u.frozen? ⟨p, 2 + i * 2, none⟩ = false ∧ (∃ y, (u.setCell ⟨p, 2 + i * 2, none⟩ (.string s)).cell? ⟨p, 2 + i * 2 + 1, none⟩ = some y) ∧ (u.setCell ⟨p, 2 + i * 2, none⟩ (.string s)).frozen? ⟨p, 2 + i * 2 + 1, none⟩ = false ∧
      TrA p n (setA g i ⟨s, false⟩) left f win ((u.setCell ⟨p, 2 + i * 2, none⟩ (.string s)).setCell ⟨p, 2 + i * 2 + 1, none⟩ (.bool false)) B ∧ Nx B w B ((u.setCell ⟨p, 2 + i * 2, none⟩ (.string s)).setCell ⟨p, 2 + i * 2 + 1, none⟩ (.bool false)) := by
    intro u q
    obtain ⟨cs, ⟨hb, hB⟩, ht⟩ := FR.out u q
    have hs := ht.size
    obtain ⟨_, ⟨hb0, _⟩, _⟩ := h
    obtain ⟨y1, hy1⟩ := some_at (cs := cs) (i := 2 + i * 2) (by omega)
    obtain ⟨y2, hy2⟩ := some_at (cs := cs) (i := 2 + i * 2 + 1) (by omega)
    have hb1 := cells_set hb (2 + i * 2) (.string s)
    have hb2 := cells_set hb1 (2 + i * 2 + 1) (.bool false)
    refine ⟨lt_of_block hb0, ⟨y1, by rw [cells_at hb]; exact hy1⟩, cells_free hb _, ⟨y2, by rw [cells_at hb1, sib_get _ _ _ _ (by omega), if_neg (by omega)]; exact hy2⟩, cells_free hb1 _, ⟨_, ⟨hb2, hB⟩, ht.set hi ⟨s, false⟩⟩, ?_⟩
    exact (Nx.gr q).trans (Nx.of ((Only.cell1 u p _ _).trans (Only.cell1 _ p _ _)) (fun b e => (hB b).2 e))
  have HK := Lib.hid K
  have C := Lib.hid (fun u (q : Gr w u) => (clone_c s u hz).mono (R' := fun e u' => e = .returned (.string s) ∧ Gr w u' ∧ (∃ y, u'.cell? ⟨p, 2 + i * 2, none⟩ = some y) ∧ u'.frozen? ⟨p, 2 + i * 2, none⟩ = false ∧ (∃ y, (u'.setCell ⟨p, 2 + i * 2, none⟩ (.string s)).cell? ⟨p, 2 + i * 2 + 1, none⟩ = some y) ∧ (u'.setCell ⟨p, 2 + i * 2, none⟩ (.string s)).frozen? ⟨p, 2 + i * 2 + 1, none⟩ = false) (fun e u' h => by
    have q' := q.trans h.2
    have k := HK.out u' q'
    exact ⟨h.1, q', k.2.1, k.2.2.1, k.2.2.2.1, k.2.2.2.2.1⟩))
  have gd : Gr w w.drew := grN w 1
  have hi2 : (i : Int) < 64 := by omega
  clear K h FR
  go_enter Tryz.func89, Tryz.ntmps89
  go_wp2_with fail
  go_region_law (go_simp; go_at_call 52; ((with_reducible refine (C.out _ (by assumption)).mono ?_); rintro e u ⟨rfl, gu, ⟨y1, c1⟩, c2, ⟨y2, c3⟩, c4⟩))
  refine bodyPost_end (results_none rfl _ _ _) rfl ⟨rfl, B, (HK.out u gu).2.2.2.2.2.1, (HK.out u gu).2.2.2.2.2.2⟩
end Go.Proofs.YtpmglnghnelenaaGreat
/- One plays its way up: the program's play, a loop made of a jump. -/
namespace Go.Proofs.YtpmglnghnelenaaGreat
open Go.RowKit LoPlain
set_option linter.unusedVariables false
set_option linter.unusedSimpArgs false
set_option maxRecDepth 20000
def Rng15 (n : Nat) (f : Nat → Int) : Prop := ∀ q, 1 ≤ q → q < n → f q = -1 ∨ (0 ≤ f q ∧ f q < n)
theorem rng_upd {n : Nat} {f : Nat → Int} (h : Rng15 n f) (p : Nat) {x : Nat} (hx : x < n) : Rng15 n (updA f p x) := by
  intro q h1 h2
  by_cases e : q = p
  · subst e; rw [upd_at]; omega
  · rw [upd_ne _ _ e]; exact h q h1 h2
/-- What one on its way up finds at a place. -/
theorem tr_put {p n : Nat} {g : Nat → Option Hd} {left : Int} {f : Nat → Int} {win : Int} {w : World} {B : Nat → Prop} (h : TrA p n g left f win w B) {q : Nat} (hq : q < 64) (v : Int) :
    w.cell? ⟨p, 130 + q, none⟩ = some (.int .i64 (f q)) ∧ w.frozen? ⟨p, 130 + q, none⟩ = false ∧ TrA p n g left (updA f q v) win (w.setCell ⟨p, 130 + q, none⟩ (.int .i64 v)) B ∧ Nx B w B (w.setCell ⟨p, 130 + q, none⟩ (.int .i64 v)) := by
  obtain ⟨cs, ⟨hb, hB⟩, ht⟩ := h
  exact ⟨by rw [cells_at hb]; exact ht.los q hq, cells_free hb _, ⟨_, ⟨cells_set hb _ _, hB⟩, ht.put hq v⟩, Nx.of (Only.cell1 w p _ _) (fun b e => (hB b).2 e)⟩
theorem tr_win {p n : Nat} {g : Nat → Option Hd} {left : Int} {f : Nat → Int} {win : Int} {w : World} {B : Nat → Prop} (h : TrA p n g left f win w B) (v : Int) :
    w.cell? ⟨p, 194, none⟩ = some (.int .i64 win) ∧ w.frozen? ⟨p, 194, none⟩ = false ∧ TrA p n g left f v (w.setCell ⟨p, 194, none⟩ (.int .i64 v)) B ∧ Nx B w B (w.setCell ⟨p, 194, none⟩ (.int .i64 v)) := by
  obtain ⟨cs, ⟨hb, hB⟩, ht⟩ := h
  exact ⟨by rw [cells_at hb]; exact ht.wn, cells_free hb _, ⟨_, ⟨cells_set hb _ _, hB⟩, ht.win v⟩, Nx.of (Only.cell1 w p _ _) (fun b e => (hB b).2 e)⟩
theorem tr_n {p n : Nat} {g : Nat → Option Hd} {left : Int} {f : Nat → Int} {win : Int} {w : World} {B : Nat → Prop} (h : TrA p n g left f win w B) : w.cell? ⟨p, 0, none⟩ = some (.int .i64 (n : Int)) ∧ w.cell? ⟨p, 1, none⟩ = some (.int .i64 left) ∧ p < w.heap.size := by
  obtain ⟨cs, ⟨hb, hB⟩, ht⟩ := h
  exact ⟨by rw [cells_at hb]; exact ht.c0, by rw [cells_at hb]; exact ht.c1, lt_of_block hb⟩
theorem tr_gr {p n : Nat} {g : Nat → Option Hd} {left : Int} {f : Nat → Int} {win : Int} {w u : World} {B : Nat → Prop} (h : TrA p n g left f win w B) (q : Gr w u) : TrA p n g left f win u B :=
  (fr_tr p n g left f win).fr h (Only.ofGr (B := fun _ => False) q) (fun _ _ e => e)
theorem play_zero (lt : Nat → Nat → Bool) (f : Nat → Int) (win : Int) (x : Nat) : playN lt f win x 0 = (f, (x : Int)) := by rw [playN, dif_pos rfl]
theorem play_stop {lt : Nat → Nat → Bool} {f : Nat → Int} (win : Int) (x : Nat) {q : Nat} (hq : q ≠ 0) (h : f q = -1) : playN lt f win x q = (updA f q x, win) := by rw [playN, dif_neg hq, if_pos h]
theorem play_up {lt : Nat → Nat → Bool} {f : Nat → Int} (win : Int) (x : Nat) {q y : Nat} (hq : q ≠ 0) (h : f q = (y : Int)) : playN lt f win x q = if lt y x = true then playN lt (updA f q x) win y (q / 2) else playN lt f win x (q / 2) := by
  rw [playN, dif_neg hq, if_neg (by rw [h]; omega), h, Int.toNat_natCast]
/-- At each jump. -/
structure UpJ (p n : Nat) (l : List Hd) (left win : Int) (w : World) (B : Nat → Prop) (R : (Nat → Int) × Int) (x q : Nat) (wr : World) : Prop where
  ex : ∃ f, TrA p n (fun i => l[i]?) left f win wr B ∧ Rng15 n f ∧ playN (ahd l) f win x q = R
  nx : Nx B w B wr
  hx : x < n
  hq : q < n
set_option maxHeartbeats 4000000 in
theorem play_c {p n : Nat} {l : List Hd} {left : Int} {f : Nat → Int} {win : Int} {w : World} {B : Nat → Prop} (h : TrA p n (fun i => l[i]?) left f win w B) (hl : l.length = n) (hn : n ≤ 64) (hf : Rng15 n f) {x : Nat} (hx : x < n) :
    Calls Tryz.prog 90 #[.pointer (some ⟨p, 0, none⟩), .int .i64 x] w (Does w B (TrA p n (fun i => l[i]?) left (playN (ahd l) f win x ((n + x) / 2)).1 (playN (ahd l) f win x ((n + x) / 2)).2) (.tuple #[])) := by
  obtain ⟨q0, hq0⟩ : ∃ q, (n + x) / 2 = q := ⟨_, rfl⟩
  have J0 : UpJ p n l left win w B (playN (ahd l) f win x q0) x q0 w := ⟨⟨f, h, hf, rfl⟩, Nx.refl _ _, hx, by omega⟩
  rw [hq0]
  obtain ⟨R, hR⟩ : ∃ R, playN (ahd l) f win x q0 = R := ⟨_, rfl⟩
  rw [hR] at J0 ⊢
  obtain ⟨c0, _, hp⟩ := tr_n h
  have J1 := Lib.hid J0
  have HL := Lib.hid hl
  have t0 : ((n : Int) + (x : Int)).tdiv 2 = (q0 : Int) := by rw [Int.tdiv_eq_ediv_of_nonneg (by omega)]; omega
  have HQ := Lib.hid hq0
  have hq64 : q0 < 64 := by omega
  have tw : wrap64 (q0 : Int) = (q0 : Int) := by unfold wrap64; omega
  clear hR J0 h hf hl hq0
  go_enter Tryz.func90, Tryz.ntmps90
  go_wp2_with fail
  refine wp_scope_jumps 0 (fun a' w' => ∃ (x1 q1 : Nat), UpJ p n l left win w B R x1 q1 w' ∧ ∃ (u2 u3 u5 u6 u7 u8 u9 u10 u11 u12 u13 u14 u15 u16 u17 u18 u19 u20 u21 u22 u23 u24 u25 u26 u27 u28 u29 u30 u31 u32 u33 u34 u35 u36 u37 u38 u39 u40 u41 u42 u43 u44 u45 : Value), a' = { tmps := #[.pointer (some ⟨p, 0, none⟩), .int .i64 (x1 : Int), u2, u3, .int .i64 (q1 : Int), u5, u6, u7, u8, u9, u10, u11, u12, u13, u14, u15, u16, u17, u18, u19, u20, u21, u22, u23, u24, u25, u26, u27, u28, u29, u30, u31, u32, u33, u34, u35, u36, u37, u38, u39, u40, u41, u42, u43, u44, u45], defers := [] }) (fun a' _ => (intOf (a'.tmps.getD 4 undef)).toNat) rfl ?_ ?_
  · go_wp2_with fail
    go_step3
    have hJ := J1
    generalize x = x1 at *
    generalize q0 = q1 at *
    obtain ⟨⟨f1, hT, hr, hP⟩, hN, hx1, hq1⟩ := hJ.out
    by_cases hz : q1 = 0
    · subst hz
      obtain ⟨c1, c2, hT2, hN2⟩ := tr_win hT (x1 : Int)
      rw [play_zero] at hP
      have HE := Lib.hid (show TrA p n (fun i => l[i]?) left R.1 R.2 (w.setCell ⟨p, 194, none⟩ (.int .i64 (x1 : Int))) B by rw [← hP]; exact hT2)
      have HN := Lib.hid (hN.trans hN2)
      clear hT hr hP hN hT2 hN2
      go_wp2_with fail
      simp only [Exit.jump]
      exact bodyPost_ret (results_none rfl _ _ _) rfl ⟨rfl, B, HE.out, HN.out⟩
    · obtain ⟨c1, c2, hT2, hN2⟩ := tr_put hT (q := q1) (by omega) (x1 : Int)
      have hz2 : ((q1 : Int) == 0) = false := by simp [hz]
      have hz3 : ¬ (q1 : Int) = 0 := by omega
      have hq2 : (q1 : Int) < 64 := by omega
      have hq3 : q1 < 64 := by omega
      rcases hr q1 (by omega) hq1 with h1 | ⟨h1, h2⟩
      · rw [h1] at c1
        rw [play_stop _ _ hz h1] at hP
        have HE := Lib.hid (show TrA p n (fun i => l[i]?) left R.1 R.2 (w.setCell ⟨p, 130 + q1, none⟩ (.int .i64 (x1 : Int))) B by rw [← hP]; exact hT2)
        have HN := Lib.hid (hN.trans hN2)
        clear hT hr hP hN hT2 hN2 h1
        go_wp2_with fail
        simp only [Exit.jump]
        exact bodyPost_ret (results_none rfl _ _ _) rfl ⟨rfl, B, HE.out, HN.out⟩
      · obtain ⟨y, hy⟩ : ∃ y : Nat, f1 q1 = (y : Int) := ⟨(f1 q1).toNat, by omega⟩
        have hyn : y < n := by omega
        rw [hy] at c1
        rw [play_up _ _ hz hy] at hP
        have hm : ((y : Int) == -1) = false := by rw [beq_eq_false_iff_ne]; omega
        have hm2 : ¬ (y : Int) = -1 := by omega
        obtain ⟨xe, hxe⟩ : ∃ z, l[x1]? = some z := ⟨l[x1]'(by rw [HL.out]; omega), List.getElem?_eq_getElem _⟩
        obtain ⟨ye, hye⟩ : ∃ z, l[y]? = some z := ⟨l[y]'(by rw [HL.out]; omega), List.getElem?_eq_getElem _⟩
        have AH := Lib.hid (aheadO_c hT (a := y) (b := x1) (by omega) (by omega) hye hxe)
        rw [ahdV_is hye hxe] at AH
        have t1 : (q1 : Int).tdiv 2 = ((q1 / 2 : Nat) : Int) := by rw [Int.tdiv_eq_ediv_of_nonneg (by omega)]; omega
        have HT := Lib.hid hT
        have HR := Lib.hid hr
        have HN := Lib.hid hN
        have hh : q1 / 2 < n := by omega
        obtain ⟨q2, hq2e⟩ : ∃ q2, q1 / 2 = q2 := ⟨_, rfl⟩
        rw [hq2e] at t1 hP hh
        have hlt : q2 < q1 := by omega
        cases hb : ahd l y x1
        · rw [hb] at AH hP
          rw [if_neg (by simp)] at hP
          have HP := Lib.hid hP
          clear hT hr hN hP hb hT2 hN2 hy h1 h2 hq2e hxe hye
          go_wp2_with fail
          refine (AH.out).mono ?_; rintro e u ⟨rfl, gu⟩
          go_wp2_with fail
          go_step3
          exact ⟨rfl, ⟨_, _, ⟨⟨f1, tr_gr HT.out gu, HR.out, HP.out⟩, HN.out.trans (Nx.gr gu), hx1, hh⟩, _, _, _, _, _, _, _, _, _, _, _, _, _, _, _, _, _, _, _, _, _, _, _, _, _, _, _, _, _, _, _, _, _, _, _, _, _, _, _, _, _, _, _, rfl⟩⟩
        · rw [hb] at AH hP
          rw [if_pos rfl] at hP
          have HP := Lib.hid hP
          have HF := Lib.hid (fun u (gu : Gr w u) => tr_put (tr_gr hT gu) (q := q1) hq3 (x1 : Int))
          clear hT hr hN hP hb hT2 hN2 hy h1 h2 hq2e hxe hye
          go_wp2_with fail
          refine (AH.out).mono ?_; rintro e u ⟨rfl, gu⟩
          obtain ⟨d1, d2, hT3, hN3⟩ := HF.out u gu
          have HT3 := Lib.hid hT3
          have HN3 := Lib.hid ((HN.out.trans (Nx.gr gu)).trans hN3)
          clear hT3 hN3
          go_wp2_with fail
          go_region
          go_wp2_with fail
          go_step3
          exact ⟨rfl, ⟨_, _, ⟨⟨_, tr_gr HT3.out (grN _ 1), rng_upd HR.out q1 hx1, HP.out⟩, HN3.out.trans (Nx.gr (grN _ 1)), hyn, hh⟩, _, _, _, _, _, _, _, _, _, _, _, _, _, _, _, _, _, _, _, _, _, _, _, _, _, _, _, _, _, _, _, _, _, _, _, _, _, _, _, _, _, _, _, rfl⟩⟩
  · rintro a' W ⟨x1, q1, hJ0, u2, u3, u5, u6, u7, u8, u9, u10, u11, u12, u13, u14, u15, u16, u17, u18, u19, u20, u21, u22, u23, u24, u25, u26, u27, u28, u29, u30, u31, u32, u33, u34, u35, u36, u37, u38, u39, u40, u41, u42, u43, u44, u45, rfl⟩
    have hJ := Lib.hid hJ0
    clear hJ0 J1 HQ t0 c0 hp
    obtain ⟨⟨f1, hT, hr, hP⟩, hN, hx1, hq1⟩ := hJ.out
    by_cases hz : q1 = 0
    · subst hz
      obtain ⟨c1, c2, hT2, hN2⟩ := tr_win hT (x1 : Int)
      rw [play_zero] at hP
      have HE := Lib.hid (show TrA p n (fun i => l[i]?) left R.1 R.2 (W.setCell ⟨p, 194, none⟩ (.int .i64 (x1 : Int))) B by rw [← hP]; exact hT2)
      have HN := Lib.hid (hN.trans hN2)
      clear hT hr hP hN hT2 hN2
      go_wp2_with fail
      simp only [Exit.jump]
      exact bodyPost_ret (results_none rfl _ _ _) rfl ⟨rfl, B, HE.out, HN.out⟩
    · obtain ⟨c1, c2, hT2, hN2⟩ := tr_put hT (q := q1) (by omega) (x1 : Int)
      have hz2 : ((q1 : Int) == 0) = false := by simp [hz]
      have hz3 : ¬ (q1 : Int) = 0 := by omega
      have hq2 : (q1 : Int) < 64 := by omega
      have hq3 : q1 < 64 := by omega
      rcases hr q1 (by omega) hq1 with h1 | ⟨h1, h2⟩
      · rw [h1] at c1
        rw [play_stop _ _ hz h1] at hP
        have HE := Lib.hid (show TrA p n (fun i => l[i]?) left R.1 R.2 (W.setCell ⟨p, 130 + q1, none⟩ (.int .i64 (x1 : Int))) B by rw [← hP]; exact hT2)
        have HN := Lib.hid (hN.trans hN2)
        clear hT hr hP hN hT2 hN2 h1
        go_wp2_with fail
        simp only [Exit.jump]
        exact bodyPost_ret (results_none rfl _ _ _) rfl ⟨rfl, B, HE.out, HN.out⟩
      · obtain ⟨y, hy⟩ : ∃ y : Nat, f1 q1 = (y : Int) := ⟨(f1 q1).toNat, by omega⟩
        have hyn : y < n := by omega
        rw [hy] at c1
        rw [play_up _ _ hz hy] at hP
        have hm : ((y : Int) == -1) = false := by rw [beq_eq_false_iff_ne]; omega
        have hm2 : ¬ (y : Int) = -1 := by omega
        obtain ⟨xe, hxe⟩ : ∃ z, l[x1]? = some z := ⟨l[x1]'(by rw [HL.out]; omega), List.getElem?_eq_getElem _⟩
        obtain ⟨ye, hye⟩ : ∃ z, l[y]? = some z := ⟨l[y]'(by rw [HL.out]; omega), List.getElem?_eq_getElem _⟩
        have AH := Lib.hid (aheadO_c hT (a := y) (b := x1) (by omega) (by omega) hye hxe)
        rw [ahdV_is hye hxe] at AH
        have t1 : (q1 : Int).tdiv 2 = ((q1 / 2 : Nat) : Int) := by rw [Int.tdiv_eq_ediv_of_nonneg (by omega)]; omega
        have HT := Lib.hid hT
        have HR := Lib.hid hr
        have HN := Lib.hid hN
        have hh : q1 / 2 < n := by omega
        obtain ⟨q2, hq2e⟩ : ∃ q2, q1 / 2 = q2 := ⟨_, rfl⟩
        rw [hq2e] at t1 hP hh
        have hlt : q2 < q1 := by omega
        cases hb : ahd l y x1
        · rw [hb] at AH hP
          rw [if_neg (by simp)] at hP
          have HP := Lib.hid hP
          clear hT hr hN hP hb hT2 hN2 hy h1 h2 hq2e hxe hye
          go_wp2_with fail
          refine (AH.out).mono ?_; rintro e u ⟨rfl, gu⟩
          go_wp2_with fail
          go_step3
          refine ⟨rfl, ⟨_, _, ⟨⟨f1, tr_gr HT.out gu, HR.out, HP.out⟩, HN.out.trans (Nx.gr gu), hx1, hh⟩, _, _, _, _, _, _, _, _, _, _, _, _, _, _, _, _, _, _, _, _, _, _, _, _, _, _, _, _, _, _, _, _, _, _, _, _, _, _, _, _, _, _, _, rfl⟩, ?_⟩
          simp [intOf]; omega
        · rw [hb] at AH hP
          rw [if_pos rfl] at hP
          have HP := Lib.hid hP
          have HF := Lib.hid (fun u (gu : Gr W u) => tr_put (tr_gr hT gu) (q := q1) hq3 (x1 : Int))
          clear hT hr hN hP hb hT2 hN2 hy h1 h2 hq2e hxe hye
          go_wp2_with fail
          refine (AH.out).mono ?_; rintro e u ⟨rfl, gu⟩
          obtain ⟨d1, d2, hT3, hN3⟩ := HF.out u gu
          have HT3 := Lib.hid hT3
          have HN3 := Lib.hid ((HN.out.trans (Nx.gr gu)).trans hN3)
          clear hT3 hN3
          go_wp2_with fail
          go_region
          go_wp2_with fail
          go_step3
          refine ⟨rfl, ⟨_, _, ⟨⟨_, tr_gr HT3.out (grN _ 1), rng_upd HR.out q1 hx1, HP.out⟩, HN3.out.trans (Nx.gr (grN _ 1)), hyn, hh⟩, _, _, _, _, _, _, _, _, _, _, _, _, _, _, _, _, _, _, _, _, _, _, _, _, _, _, _, _, _, _, _, _, _, _, _, _, _, _, _, _, _, _, _, rfl⟩, ?_⟩
          simp [intOf]; omega
end Go.Proofs.YtpmglnghnelenaaGreat

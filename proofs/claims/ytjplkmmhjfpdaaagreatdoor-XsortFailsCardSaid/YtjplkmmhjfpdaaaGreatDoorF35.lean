/- In one text: LoUp, Lo. -/
import Derived.Test.YtjplkmmhjfpdaaaGreatDoorF34
import Derived.WalkMore
import Derived.ScopeJumps
/- One plays its way up: the program's play, a loop made of a jump. -/
namespace Go.Proofs.YtjplkmmhjfpdaaaGreatDoor
open Go.RowKit LoPlain
set_option linter.unusedVariables false
set_option linter.unusedSimpArgs false
set_option maxRecDepth 20000
def Rng15 (n : Nat) (f : Nat → Int) : Prop := ∀ q, 1 ≤ q → q < n → f q = -1 ∨ (0 ≤ f q ∧ f q < n)
theorem rng_upd {n : Nat} {f : Nat → Int} (h : Rng15 n f) (p : Nat) {x : Nat} (hx : x < n) : Rng15 n (updA f p x) := by
  intro q h1 h2
  by_cases e : q = p
  · subst e; rw [upd_at]; omega
  · rw [upd_ne _ _ e]; exact h q h1 h2
theorem tr_put {p n : Nat} {g : Nat → Option Hd} {left : Int} {f : Nat → Int} {win : Int} {w : World} {B : Nat → Prop} (h : TrA p n g left f win w B) {q : Nat} (hq : q < 64) (v : Int) :
    w.cell? ⟨p, 130 + q, none⟩ = some (.int .i64 (f q)) ∧ w.frozen? ⟨p, 130 + q, none⟩ = false ∧ TrA p n g left (updA f q v) win (w.setCell ⟨p, 130 + q, none⟩ (.int .i64 v)) B ∧ Nx B w B (w.setCell ⟨p, 130 + q, none⟩ (.int .i64 v)) := by
  obtain ⟨cs, ⟨hb, hB⟩, ht⟩ := h
  exact ⟨by rw [cells_at hb]; exact ht.los q hq, cells_free hb _, ⟨_, ⟨cells_set hb _ _, hB⟩, ht.put hq v⟩, Nx.of (Only.cell1 w p _ _) (fun b e => (hB b).2 e)⟩
theorem tr_win {p n : Nat} {g : Nat → Option Hd} {left : Int} {f : Nat → Int} {win : Int} {w : World} {B : Nat → Prop} (h : TrA p n g left f win w B) (v : Int) :
    w.cell? ⟨p, 194, none⟩ = some (.int .i64 win) ∧ w.frozen? ⟨p, 194, none⟩ = false ∧ TrA p n g left f v (w.setCell ⟨p, 194, none⟩ (.int .i64 v)) B ∧ Nx B w B (w.setCell ⟨p, 194, none⟩ (.int .i64 v)) := by
  obtain ⟨cs, ⟨hb, hB⟩, ht⟩ := h
  exact ⟨by rw [cells_at hb]; exact ht.wn, cells_free hb _, ⟨_, ⟨cells_set hb _ _, hB⟩, ht.win v⟩, Nx.of (Only.cell1 w p _ _) (fun b e => (hB b).2 e)⟩
theorem tr_n {p n : Nat} {g : Nat → Option Hd} {left : Int} {f : Nat → Int} {win : Int} {w : World} {B : Nat → Prop} (h : TrA p n g left f win w B) : w.cell? ⟨p, 0, none⟩ = some (.int .i64 (n : Int)) ∧ w.cell? ⟨p, 1, none⟩ = some (.int .i64 left) ∧ p < w.heap.size := by
  obtain ⟨cs, ⟨hb, hB⟩, ht⟩ := h
  exact ⟨by rw [cells_at hb]; exact ht.c0, by rw [cells_at hb]; exact ht.c1, lt_of_block hb⟩
theorem tr_gr {p n : Nat} {g : Nat → Option Hd} {left : Int} {f : Nat → Int} {win : Int} {w u : World} {B : Nat → Prop} (h : TrA p n g left f win w B) (q : Gr w u) : TrA p n g left f win u B :=
  (fr_tr p n g left f win).fr h (Only.ofGr (B := fun _ => False) q) (fun _ _ e => e)
theorem play_zero (lt : Nat → Nat → Bool) (f : Nat → Int) (win : Int) (x : Nat) : playN lt f win x 0 = (f, (x : Int)) := by rw [playN, dif_pos rfl]
theorem play_stop {lt : Nat → Nat → Bool} {f : Nat → Int} (win : Int) (x : Nat) {q : Nat} (hq : q ≠ 0) (h : f q = -1) : playN lt f win x q = (updA f q x, win) := by rw [playN, dif_neg hq, if_pos h]
theorem play_up {lt : Nat → Nat → Bool} {f : Nat → Int} (win : Int) (x : Nat) {q y : Nat} (hq : q ≠ 0) (h : f q = (y : Int)) : playN lt f win x q = if lt y x = true then playN lt (updA f q x) win y (q / 2) else playN lt f win x (q / 2) := by
  rw [playN, dif_neg hq, if_neg (by rw [h]; omega), h, Int.toNat_natCast]
structure UpJ (p n : Nat) (l : List Hd) (left win : Int) (w : World) (B : Nat → Prop) (R : (Nat → Int) × Int) (x q : Nat) (wr : World) : Prop where
  ex : ∃ f, TrA p n (fun i => l[i]?) left f win wr B ∧ Rng15 n f ∧ playN (ahd l) f win x q = R
  nx : Nx B w B wr
  hx : x < n
  hq : q < n
set_option maxHeartbeats 4000000 in
theorem play_c {p n : Nat} {l : List Hd} {left : Int} {f : Nat → Int} {win : Int} {w : World} {B : Nat → Prop} (h : TrA p n (fun i => l[i]?) left f win w B) (hl : l.length = n) (hn : n ≤ 64) (hf : Rng15 n f) {x : Nat} (hx : x < n) :
    Calls Tryz.prog 180 #[.pointer (some ⟨p, 0, none⟩), .int .i64 x] w (Does w B (TrA p n (fun i => l[i]?) left (playN (ahd l) f win x ((n + x) / 2)).1 (playN (ahd l) f win x ((n + x) / 2)).2) (.tuple #[])) := by
  obtain ⟨q0, hq0⟩ : ∃ q, (n + x) / 2 = q := ⟨_, rfl⟩
  have J0 : UpJ p n l left win w B (playN (ahd l) f win x q0) x q0 w := ⟨⟨f, h, hf, rfl⟩, Nx.refl _ _, hx, by omega⟩
  rw [hq0]
  obtain ⟨R, hR⟩ : ∃ R, playN (ahd l) f win x q0 = R := ⟨_, rfl⟩
  rw [hR] at J0 ⊢
  obtain ⟨c0, _, hp⟩ := tr_n h
  have J1 := Lib.hid J0
  have HL := Lib.hid hl
  have t0 : ((n : Int) + (x : Int)).tdiv 2 = (q0 : Int) := by rw [Int.tdiv_eq_ediv_of_nonneg (by omega)]; omega
  have HQ := Lib.hid hq0
  have hq64 : q0 < 64 := by omega
  have tw : wrap64 (q0 : Int) = (q0 : Int) := by unfold wrap64; omega
  clear hR J0 h hf hl hq0
  go_enter Tryz.func180, Tryz.ntmps180
  go_wp2_with fail
  refine wp_scope_jumps 0 (fun a' w' => ∃ (x1 q1 : Nat), UpJ p n l left win w B R x1 q1 w' ∧ ∃ (u2 u3 u5 u6 u7 u8 u9 u10 u11 u12 u13 u14 u15 u16 u17 u18 u19 u20 u21 u22 u23 u24 u25 u26 u27 u28 u29 u30 u31 u32 u33 u34 u35 u36 u37 u38 u39 u40 u41 u42 u43 u44 u45 : Value), a' = { tmps := #[.pointer (some ⟨p, 0, none⟩), .int .i64 (x1 : Int), u2, u3, .int .i64 (q1 : Int), u5, u6, u7, u8, u9, u10, u11, u12, u13, u14, u15, u16, u17, u18, u19, u20, u21, u22, u23, u24, u25, u26, u27, u28, u29, u30, u31, u32, u33, u34, u35, u36, u37, u38, u39, u40, u41, u42, u43, u44, u45], defers := [] }) (fun a' _ => (intOf (a'.tmps.getD 4 undef)).toNat) rfl ?_ ?_
  · go_wp2_with fail
    go_step3
    have hJ := J1
    generalize x = x1 at *
    generalize q0 = q1 at *
    obtain ⟨⟨f1, hT, hr, hP⟩, hN, hx1, hq1⟩ := hJ.out
    by_cases hz : q1 = 0
    · subst hz
      obtain ⟨c1, c2, hT2, hN2⟩ := tr_win hT (x1 : Int)
      rw [play_zero] at hP
      have HE := Lib.hid (show TrA p n (fun i => l[i]?) left R.1 R.2 (w.setCell ⟨p, 194, none⟩ (.int .i64 (x1 : Int))) B by rw [← hP]; exact hT2)
      have HN := Lib.hid (hN.trans hN2)
      clear hT hr hP hN hT2 hN2
      go_wp2_with fail
      simp only [Exit.jump]
      exact bodyPost_ret (results_none rfl _ _ _) rfl ⟨rfl, B, HE.out, HN.out⟩
    · obtain ⟨c1, c2, hT2, hN2⟩ := tr_put hT (q := q1) (by omega) (x1 : Int)
      have hz2 : ((q1 : Int) == 0) = false := by simp [hz]
      have hz3 : ¬ (q1 : Int) = 0 := by omega
      have hq2 : (q1 : Int) < 64 := by omega
      have hq3 : q1 < 64 := by omega
      rcases hr q1 (by omega) hq1 with h1 | ⟨h1, h2⟩
      · rw [h1] at c1
        rw [play_stop _ _ hz h1] at hP
        have HE := Lib.hid (show TrA p n (fun i => l[i]?) left R.1 R.2 (w.setCell ⟨p, 130 + q1, none⟩ (.int .i64 (x1 : Int))) B by rw [← hP]; exact hT2)
        have HN := Lib.hid (hN.trans hN2)
        clear hT hr hP hN hT2 hN2 h1
        go_wp2_with fail
        simp only [Exit.jump]
        exact bodyPost_ret (results_none rfl _ _ _) rfl ⟨rfl, B, HE.out, HN.out⟩
      · obtain ⟨y, hy⟩ : ∃ y : Nat, f1 q1 = (y : Int) := ⟨(f1 q1).toNat, by omega⟩
        have hyn : y < n := by omega
        rw [hy] at c1
        rw [play_up _ _ hz hy] at hP
        have hm : ((y : Int) == -1) = false := by rw [beq_eq_false_iff_ne]; omega
        have hm2 : ¬ (y : Int) = -1 := by omega
        obtain ⟨xe, hxe⟩ : ∃ z, l[x1]? = some z := ⟨l[x1]'(by rw [HL.out]; omega), List.getElem?_eq_getElem _⟩
        obtain ⟨ye, hye⟩ : ∃ z, l[y]? = some z := ⟨l[y]'(by rw [HL.out]; omega), List.getElem?_eq_getElem _⟩
        have AH := Lib.hid (aheadO_c hT (a := y) (b := x1) (by omega) (by omega) hye hxe)
        rw [ahdV_is hye hxe] at AH
        have t1 : (q1 : Int).tdiv 2 = ((q1 / 2 : Nat) : Int) := by rw [Int.tdiv_eq_ediv_of_nonneg (by omega)]; omega
        have HT := Lib.hid hT
        have HR := Lib.hid hr
        have HN := Lib.hid hN
        have hh : q1 / 2 < n := by omega
        obtain ⟨q2, hq2e⟩ : ∃ q2, q1 / 2 = q2 := ⟨_, rfl⟩
        rw [hq2e] at t1 hP hh
        have hlt : q2 < q1 := by omega
        cases hb : ahd l y x1
        · rw [hb] at AH hP
          rw [if_neg (by simp)] at hP
          have HP := Lib.hid hP
          clear hT hr hN hP hb hT2 hN2 hy h1 h2 hq2e hxe hye
          go_wp2_with fail
          refine (AH.out).mono ?_; rintro e u ⟨rfl, gu⟩
          go_wp2_with fail
          go_step3
          exact ⟨rfl, ⟨_, _, ⟨⟨f1, tr_gr HT.out gu, HR.out, HP.out⟩, HN.out.trans (Nx.gr gu), hx1, hh⟩, _, _, _, _, _, _, _, _, _, _, _, _, _, _, _, _, _, _, _, _, _, _, _, _, _, _, _, _, _, _, _, _, _, _, _, _, _, _, _, _, _, _, _, rfl⟩⟩
        · rw [hb] at AH hP
          rw [if_pos rfl] at hP
          have HP := Lib.hid hP
          have HF := Lib.hid (fun u (gu : Gr w u) => tr_put (tr_gr hT gu) (q := q1) hq3 (x1 : Int))
          clear hT hr hN hP hb hT2 hN2 hy h1 h2 hq2e hxe hye
          go_wp2_with fail
          refine (AH.out).mono ?_; rintro e u ⟨rfl, gu⟩
          obtain ⟨d1, d2, hT3, hN3⟩ := HF.out u gu
          have HT3 := Lib.hid hT3
          have HN3 := Lib.hid ((HN.out.trans (Nx.gr gu)).trans hN3)
          clear hT3 hN3
          go_wp2_with fail
          go_region
          go_wp2_with fail
          go_step3
          exact ⟨rfl, ⟨_, _, ⟨⟨_, tr_gr HT3.out (grN _ 1), rng_upd HR.out q1 hx1, HP.out⟩, HN3.out.trans (Nx.gr (grN _ 1)), hyn, hh⟩, _, _, _, _, _, _, _, _, _, _, _, _, _, _, _, _, _, _, _, _, _, _, _, _, _, _, _, _, _, _, _, _, _, _, _, _, _, _, _, _, _, _, _, rfl⟩⟩
  · rintro a' W ⟨x1, q1, hJ0, u2, u3, u5, u6, u7, u8, u9, u10, u11, u12, u13, u14, u15, u16, u17, u18, u19, u20, u21, u22, u23, u24, u25, u26, u27, u28, u29, u30, u31, u32, u33, u34, u35, u36, u37, u38, u39, u40, u41, u42, u43, u44, u45, rfl⟩
    have hJ := Lib.hid hJ0
    clear hJ0 J1 HQ t0 c0 hp
    obtain ⟨⟨f1, hT, hr, hP⟩, hN, hx1, hq1⟩ := hJ.out
    by_cases hz : q1 = 0
    · subst hz
      obtain ⟨c1, c2, hT2, hN2⟩ := tr_win hT (x1 : Int)
      rw [play_zero] at hP
      have HE := Lib.hid (show TrA p n (fun i => l[i]?) left R.1 R.2 (W.setCell ⟨p, 194, none⟩ (.int .i64 (x1 : Int))) B by rw [← hP]; exact hT2)
      have HN := Lib.hid (hN.trans hN2)
      clear hT hr hP hN hT2 hN2
      go_wp2_with fail
      simp only [Exit.jump]
      exact bodyPost_ret (results_none rfl _ _ _) rfl ⟨rfl, B, HE.out, HN.out⟩
    · obtain ⟨c1, c2, hT2, hN2⟩ := tr_put hT (q := q1) (by omega) (x1 : Int)
      have hz2 : ((q1 : Int) == 0) = false := by simp [hz]
      have hz3 : ¬ (q1 : Int) = 0 := by omega
      have hq2 : (q1 : Int) < 64 := by omega
      have hq3 : q1 < 64 := by omega
      rcases hr q1 (by omega) hq1 with h1 | ⟨h1, h2⟩
      · rw [h1] at c1
        rw [play_stop _ _ hz h1] at hP
        have HE := Lib.hid (show TrA p n (fun i => l[i]?) left R.1 R.2 (W.setCell ⟨p, 130 + q1, none⟩ (.int .i64 (x1 : Int))) B by rw [← hP]; exact hT2)
        have HN := Lib.hid (hN.trans hN2)
        clear hT hr hP hN hT2 hN2 h1
        go_wp2_with fail
        simp only [Exit.jump]
        exact bodyPost_ret (results_none rfl _ _ _) rfl ⟨rfl, B, HE.out, HN.out⟩
      · obtain ⟨y, hy⟩ : ∃ y : Nat, f1 q1 = (y : Int) := ⟨(f1 q1).toNat, by omega⟩
        have hyn : y < n := by omega
        rw [hy] at c1
        rw [play_up _ _ hz hy] at hP
        have hm : ((y : Int) == -1) = false := by rw [beq_eq_false_iff_ne]; omega
        have hm2 : ¬ (y : Int) = -1 := by omega
        obtain ⟨xe, hxe⟩ : ∃ z, l[x1]? = some z := ⟨l[x1]'(by rw [HL.out]; omega), List.getElem?_eq_getElem _⟩
        obtain ⟨ye, hye⟩ : ∃ z, l[y]? = some z := ⟨l[y]'(by rw [HL.out]; omega), List.getElem?_eq_getElem _⟩
        have AH := Lib.hid (aheadO_c hT (a := y) (b := x1) (by omega) (by omega) hye hxe)
        rw [ahdV_is hye hxe] at AH
        have t1 : (q1 : Int).tdiv 2 = ((q1 / 2 : Nat) : Int) := by rw [Int.tdiv_eq_ediv_of_nonneg (by omega)]; omega
        have HT := Lib.hid hT
        have HR := Lib.hid hr
        have HN := Lib.hid hN
        have hh : q1 / 2 < n := by omega
        obtain ⟨q2, hq2e⟩ : ∃ q2, q1 / 2 = q2 := ⟨_, rfl⟩
        rw [hq2e] at t1 hP hh
        have hlt : q2 < q1 := by omega
        cases hb : ahd l y x1
        · rw [hb] at AH hP
          rw [if_neg (by simp)] at hP
          have HP := Lib.hid hP
          clear hT hr hN hP hb hT2 hN2 hy h1 h2 hq2e hxe hye
          go_wp2_with fail
          refine (AH.out).mono ?_; rintro e u ⟨rfl, gu⟩
          go_wp2_with fail
          go_step3
          refine ⟨rfl, ⟨_, _, ⟨⟨f1, tr_gr HT.out gu, HR.out, HP.out⟩, HN.out.trans (Nx.gr gu), hx1, hh⟩, _, _, _, _, _, _, _, _, _, _, _, _, _, _, _, _, _, _, _, _, _, _, _, _, _, _, _, _, _, _, _, _, _, _, _, _, _, _, _, _, _, _, _, rfl⟩, ?_⟩
          simp [intOf]; omega
        · rw [hb] at AH hP
          rw [if_pos rfl] at hP
          have HP := Lib.hid hP
          have HF := Lib.hid (fun u (gu : Gr W u) => tr_put (tr_gr hT gu) (q := q1) hq3 (x1 : Int))
          clear hT hr hN hP hb hT2 hN2 hy h1 h2 hq2e hxe hye
          go_wp2_with fail
          refine (AH.out).mono ?_; rintro e u ⟨rfl, gu⟩
          obtain ⟨d1, d2, hT3, hN3⟩ := HF.out u gu
          have HT3 := Lib.hid hT3
          have HN3 := Lib.hid ((HN.out.trans (Nx.gr gu)).trans hN3)
          clear hT3 hN3
          go_wp2_with fail
          go_region
          go_wp2_with fail
          go_step3
          refine ⟨rfl, ⟨_, _, ⟨⟨_, tr_gr HT3.out (grN _ 1), rng_upd HR.out q1 hx1, HP.out⟩, HN3.out.trans (Nx.gr (grN _ 1)), hyn, hh⟩, _, _, _, _, _, _, _, _, _, _, _, _, _, _, _, _, _, _, _, _, _, _, _, _, _, _, _, _, _, _, _, _, _, _, _, _, _, _, _, _, _, _, _, rfl⟩, ?_⟩
          simp [intOf]; omega
end Go.Proofs.YtjplkmmhjfpdaaaGreatDoor
/- The program's tree: the contracts of its calls. -/
namespace Go.Proofs.YtjplkmmhjfpdaaaGreatDoor
open Go.RowKit LoPlain
set_option linter.unusedVariables false
set_option linter.unusedSimpArgs false
set_option maxRecDepth 20000
def zv15 (i : Nat) : Value := if i < 2 then .int .i64 0 else if i < 130 then (if i % 2 = 0 then .string ⟨#[]⟩ else .bool false) else .int .i64 0
def loZ : Array Value := ((List.range 195).map zv15).toArray
theorem zero_tr (w : World) : (zeroValue 209).run Tryz.prog w = .ok (.agg loZ) w := by kernel_rfl
theorem loZ_at {i : Nat} (h : i < 195) : loZ[i]? = some (zv15 i) := by simp [loZ, h]
theorem loZ_size : loZ.size = 195 := by simp [loZ]
def LoA (p : Nat) (l : List Hd) : Asn := fun w B => l.length ≤ 64 ∧ ∃ f win, TrA p l.length (fun i => l[i]?) ((leftN l : Nat) : Int) f win w B ∧ (∀ q, 1 ≤ q → q < l.length → f q = (losA l.length (ahd l) q : Int)) ∧ (1 ≤ l.length → win = (winA l.length (ahd l) 1 : Int))
theorem fr_lo (p : Nat) (l : List Hd) : Fr (LoA p l) where
  fr := fun ⟨hl, f, win, h, a, b⟩ o d => ⟨hl, f, win, (fr_tr _ _ _ _ _ _).fr h o d, a, b⟩
  lo := fun ⟨_, f, win, h, _, _⟩ b hb => (fr_tr _ _ _ _ _ _).lo h b hb
theorem lo_of {p n : Nat} {l : List Hd} {f : Nat → Int} {win : Int} {w : World} {B : Nat → Prop} (hn : l.length = n) (hl : n ≤ 64) (h : TrA p n (fun i => l[i]?) ((leftN l : Nat) : Int) f win w B) (hf : ∀ q, 1 ≤ q → q < n → f q = (losA n (ahd l) q : Int)) (hw : 1 ≤ n → win = (winA n (ahd l) 1 : Int)) : LoA p l w B := by
  subst hn; exact ⟨hl, f, win, h, hf, hw⟩
theorem left_c {p n : Nat} {g : Nat → Option Hd} {left : Int} {f : Nat → Int} {win : Int} {w : World} {B : Nat → Prop} (h : TrA p n g left f win w B) :
    Calls Tryz.prog 178 #[.pointer (some ⟨p, 0, none⟩)] w fun e w' => e = .returned (.int .i64 left) ∧ w' = w := by
  obtain ⟨_, c1, hp⟩ := tr_n h
  clear h
  go_enter Tryz.func178, Tryz.ntmps178
  go_wp2_with fail
  go_ret
  exact ⟨rfl, rfl⟩
theorem least_c {p n : Nat} {g : Nat → Option Hd} {left : Int} {f : Nat → Int} {win : Int} {w : World} {B : Nat → Prop} (h : TrA p n g left f win w B) (hl : left ≠ 0) :
    Calls Tryz.prog 147 #[.pointer (some ⟨p, 0, none⟩)] w fun e w' => e = .returned (.tuple #[.int .i64 win, .bool true]) ∧ w' = w := by
  obtain ⟨c2, _⟩ := tr_win h 0
  have C := Lib.hid (left_c h)
  have t : (left == 0) = false := by simp [hl]
  clear h
  go_enter Tryz.func147, Tryz.ntmps147
  go_wp2_with fail
  refine C.out.mono ?_; rintro e u ⟨rfl, rfl⟩
  go_wp2_with fail
  go_ret2
  exact ⟨rfl, rfl⟩
theorem least_no {v : Value} {w : World} (C : Calls Tryz.prog 178 #[v] w fun e w' => e = .returned (.int .i64 0) ∧ Gr w w') :
    Calls Tryz.prog 147 #[v] w fun e w' => e = .returned (.tuple #[.int .i64 0, .bool false]) ∧ Gr w w' := by
  have H := Lib.hid C
  clear C
  go_enter Tryz.func147, Tryz.ntmps147
  go_wp2_with fail
  refine H.out.mono ?_; rintro e u ⟨rfl, g⟩
  go_wp2_with fail
  go_ret2
  exact ⟨rfl, g⟩
theorem head_no {v : Value} {w : World} (C : Calls Tryz.prog 147 #[v] w fun e w' => e = .returned (.tuple #[.int .i64 0, .bool false]) ∧ Gr w w') :
    Calls Tryz.prog 148 #[v] w fun e w' => e = .returned (.string ⟨#[]⟩) ∧ Gr w w' := by
  have H := Lib.hid C
  clear C
  go_enter Tryz.func148, Tryz.ntmps148
  go_wp2_with fail
  refine H.out.mono ?_; rintro e u ⟨rfl, g⟩
  go_wp2_with fail
  go_ret
  exact ⟨rfl, g⟩
theorem next_no {v : Value} {s : ByteArray} {o : Bool} {w : World} (C : Calls Tryz.prog 147 #[v] w fun e w' => e = .returned (.tuple #[.int .i64 0, .bool false]) ∧ Gr w w') :
    Calls Tryz.prog 150 #[v, .string s, .bool o] w fun e w' => e = .returned (.tuple #[]) ∧ Gr w w' := by
  have H := Lib.hid C
  clear C
  go_enter Tryz.func150, Tryz.ntmps150
  go_wp2_with fail
  refine H.out.mono ?_; rintro e u ⟨rfl, g⟩
  go_wp2_with fail
  exact bodyPost_ret (results_none rfl _ _ _) rfl ⟨rfl, g⟩
theorem does_of {p : Nat} {l : List Hd} {w : World} {B : Nat → Prop} (h : LoA p l w B) {f : FuncId} {args : Array Value} {v : Value} (C : Calls Tryz.prog f args w fun e w' => e = .returned v ∧ Gr w w') : Calls Tryz.prog f args w (Does w B (LoA p l) v) := by
  refine C.mono ?_
  rintro e u ⟨he, g⟩
  exact ⟨he, B, (fr_lo p l).fr h (Only.ofGr (B := fun _ => False) g) (fun _ _ e => e), Nx.gr g⟩
theorem left_gr {p n : Nat} {g : Nat → Option Hd} {f : Nat → Int} {win : Int} {w : World} {B : Nat → Prop} (h : TrA p n g 0 f win w B) :
    Calls Tryz.prog 178 #[.pointer (some ⟨p, 0, none⟩)] w fun e w' => e = .returned (.int .i64 0) ∧ Gr w w' :=
  (left_c h).mono fun e u k => ⟨k.1, by rw [k.2]; exact Gr.refl _⟩
theorem lo_least_c {p : Nat} {l : List Hd} (hl : l.length ≤ 64) {w : World} {B : Nat → Prop} (h : LoA p l w B) :
    Calls Tryz.prog 147 #[.pointer (some ⟨p, 0, none⟩)] w (Does w B (LoA p l) (.tuple #[.int .i64 (leastI l), .bool (leastB l)])) := by
  have h0 := h
  obtain ⟨_, f, win, ht, hf, hw⟩ := h
  by_cases hz : leftN l = 0
  · obtain ⟨a, b⟩ := left_zero hz
    rw [a, b]
    rw [hz] at ht
    exact does_of h0 (least_no (left_gr ht))
  · obtain ⟨a, b, c⟩ := win_least hz
    have hI : leastI l = win := by unfold leastI; rw [hw (by omega), a]; omega
    rw [hI, b]
    exact does_of h0 ((least_c ht (by omega)).mono fun e u k => ⟨k.1, by rw [k.2]; exact Gr.refl _⟩)
theorem lo_head_c {p : Nat} {l : List Hd} (hl : l.length ≤ 64) {w : World} {B : Nat → Prop} (h : LoA p l w B) :
    Calls Tryz.prog 148 #[.pointer (some ⟨p, 0, none⟩)] w (Does w B (LoA p l) (.string (headS l))) := by
  have h0 := h
  obtain ⟨_, f, win, ht, hf, hw⟩ := h
  by_cases hz : leftN l = 0
  · obtain ⟨a, b⟩ := left_zero hz
    have hh : headS l = ⟨#[]⟩ := by unfold headS; rw [if_neg (by rw [a]; simp)]
    rw [hh]
    rw [hz] at ht
    exact does_of h0 (head_no (least_no (left_gr ht)))
  · obtain ⟨a, b, c⟩ := win_least hz
    obtain ⟨i, hi⟩ : ∃ i, winA l.length (ahd l) 1 = i := ⟨_, rfl⟩
    rw [hw (by omega), hi] at ht
    rw [hi] at a c
    have hon := least_on b
    have hx : l[i]? = some l[i] := List.getElem?_eq_getElem c
    have hh : headS l = keptS l[i] := by
      unfold headS keptS
      rw [a, Int.toNat_natCast, oAt_at hx] at hon
      rw [if_pos b, if_neg (by rw [hon]; simp), a, Int.toNat_natCast, sAt_at hx]
    have hi64 : i < 64 := by omega
    have hiI : (i : Int) < 64 := by omega
    have C := Lib.hid (least_c ht (by omega))
    have c1 : w.cell? ⟨p, 2 + i * 2, none⟩ = some (.string (headS l)) := by
      obtain ⟨cs, ⟨hb, hB⟩, htc⟩ := ht
      rw [cells_at hb, hh]
      exact (htc.src i _ hi64 hx).1
    have D := Lib.hid h0
    generalize headS l = s at c1 ⊢
    clear hh hx hon a b c hi hw hf ht hz h0
    go_enter Tryz.func148, Tryz.ntmps148
    go_wp2_with fail
    refine C.out.mono ?_; rintro e u ⟨rfl, rfl⟩
    go_wp2_with fail
    go_ret
    exact ⟨rfl, B, D.out, Nx.refl _ _⟩
theorem set_get {l : List Hd} {i : Nat} (hi : i < l.length) (x : Hd) : setA (fun j => l[j]?) i x = fun j => (l.set i x)[j]? := by
  funext j
  unfold setA
  by_cases e : j = i
  · subst e; rw [if_pos rfl, List.getElem?_set_self hi]
  · rw [if_neg e, List.getElem?_set_ne (fun e2 => e e2.symm)]
theorem leftN_set : ∀ (l : List Hd) (i : Nat) (s : ByteArray) (o : Bool), oAt l i = false → leftN (l.set i ⟨s, o⟩) + (if o = true then 1 else 0) = leftN l
  | [], i, s, o, h => by simp [oAt] at h
  | x :: l, 0, s, o, h => by
    have hx : x.o = false := by simpa [oAt] using h
    unfold leftN
    rw [List.set_cons_zero, List.countP_cons, List.countP_cons, hx]
    cases o <;> simp
  | x :: l, i + 1, s, o, h => by
    have ih := leftN_set l i s o (by simpa [oAt] using h)
    unfold leftN at ih ⊢
    rw [List.set_cons_succ, List.countP_cons, List.countP_cons]
    omega
set_option maxHeartbeats 1000000 in
theorem lo_next_c {p : Nat} {l : List Hd} (hl : l.length ≤ 64) (s : ByteArray) (o : Bool) (hs : s.size ≤ 1000) {w : World} {B : Nat → Prop} (h : LoA p l w B) :
    Calls Tryz.prog 150 #[.pointer (some ⟨p, 0, none⟩), .string s, .bool o] w (Does w B (LoA p (nextL l s o)) (.tuple #[])) := by
  have h0 := h
  obtain ⟨_, f, win, ht, hf, hw⟩ := h
  by_cases hz : leftN l = 0
  · obtain ⟨a, b⟩ := left_zero hz
    have hh : nextL l s o = l := by unfold nextL; rw [if_neg (by rw [a]; simp)]
    rw [hh]
    rw [hz] at ht
    exact does_of h0 (next_no (least_no (left_gr ht)))
  · obtain ⟨a, b, c⟩ := win_least hz
    obtain ⟨i, hi⟩ : ∃ i, winA l.length (ahd l) 1 = i := ⟨_, rfl⟩
    rw [hw (by omega), hi] at ht
    rw [hi] at a c
    have hon := least_on b
    rw [a, Int.toNat_natCast] at hon
    have hh : nextL l s o = l.set i ⟨s, o⟩ := by unfold nextL; rw [if_pos b, a, Int.toNat_natCast]
    obtain ⟨l', hl'⟩ : ∃ l', l.set i ⟨s, o⟩ = l' := ⟨_, rfl⟩
    have hlen : l'.length = l.length := by rw [← hl']; simp
    have hleft := leftN_set l i s o hon
    rw [hl'] at hleft
    rw [hh, hl']
    have hle := leftN_le l
    obtain ⟨n, hn⟩ : ∃ n, l.length = n := ⟨_, rfl⟩
    rw [hn] at ht hf hi c hlen hl hle
    have hsg := set_get (by rw [hn]; exact c) (⟨s, o⟩ : Hd) (l := l)
    rw [hl'] at hsg
    have C := Lib.hid (least_c ht (by omega))
    have S : Calls Tryz.prog 179 #[.pointer (some ⟨p, 0, none⟩), .int .i64 i, .string s, .bool o] w (Does w B (TrA p n (fun j => l'[j]?) ((leftN l' : Nat) : Int) f (i : Int)) (.tuple #[])) := by
      rw [← hsg]
      cases o
      · have e : ((leftN l' : Nat) : Int) = ((leftN l : Nat) : Int) := by rw [if_neg (by simp)] at hleft; omega
        rw [e]
        exact set_head_c ht (by omega) s hs
      · have e : ((leftN l' : Nat) : Int) = ((leftN l : Nat) : Int) - 1 := by rw [if_pos rfl] at hleft; omega
        rw [e]
        exact set_over_c ht (by omega) (by omega) s
    have HS := Lib.hid S
    have N := next_step (ord_ahd n l) (ord_ahd n l') c hi (fun x y hx hy => by rw [← hl']; exact (ahd_set _ hx hy).symm) hf (i : Int)
    have hr : Rng15 n f := by
      intro q h1 h2
      rw [hf q h1 h2]
      have a1 := win_lt (lt := ahd l) (n := n) (c := 2 * q) (by omega) (by omega)
      have a2 := win_lt (lt := ahd l) (n := n) (c := 2 * q + 1) (by omega) (by omega)
      unfold losA
      split <;> omega
    have P := Lib.hid (fun (u : World) (B1 : Nat → Prop) (k : TrA p n (fun j => l'[j]?) ((leftN l' : Nat) : Int) f (i : Int) u B1) => play_c k hlen hl hr c)
    have E := Lib.hid (fun (u : World) (B1 : Nat → Prop) (k : TrA p n (fun j => l'[j]?) ((leftN l' : Nat) : Int) (playN (ahd l') f (i : Int) i ((n + i) / 2)).1 (playN (ahd l') f (i : Int) i ((n + i) / 2)).2 u B1) => lo_of hlen hl k N.1 (fun _ => N.2))
    clear N hr S hsg hle hleft hlen hl' hh hon a b hi hw hf ht hz h0 hn
    go_enter Tryz.func150, Tryz.ntmps150
    go_wp2_with fail
    refine C.out.mono ?_; rintro e u ⟨rfl, rfl⟩
    go_wp2_with fail
    refine HS.out.mono ?_; rintro e u1 ⟨rfl, B1, k1, n1⟩
    have K1 := Lib.hid k1
    have N1 := Lib.hid n1
    clear k1 n1
    go_wp2_with fail
    refine (P.out _ _ K1.out).mono ?_; rintro e u2 ⟨rfl, B2, k2, n2⟩
    have K2 := Lib.hid k2
    have N2 := Lib.hid n2
    clear k2 n2
    go_wp2_with fail
    refine bodyPost_end (results_none rfl _ _ _) rfl ⟨rfl, B2, E.out _ _ K2.out, N1.out.trans N2.out⟩
structure LoMade (l : List Hd) (w : World) (e : Ending) (w' : World) : Prop where
  made : ∃ p B, e = .returned (.pointer (some ⟨p, 0, none⟩)) ∧ LoA p l w' B ∧ ∀ b, B b → w.heap.size ≤ b
  gr : Gr w w'
end Go.Proofs.YtjplkmmhjfpdaaaGreatDoor

/- The document's tree: how many are left; what Next makes of it; New. -/
import Derived.Test.YtifpiekajbcoiaaLoRef
import Derived.Deep.RegionHeld3
namespace Go.Proofs.Ytifpiekajbcoiaa
open Go.RowKit LoPlain
set_option linter.unusedVariables false
set_option linter.unusedSimpArgs false
set_option maxRecDepth 20000
def LftAt (l : List Hd) (w : World) (b i : Value) (wr : World) : Prop := ∃ j : Nat, j ≤ l.length ∧ i = .int .i64 (j : Int) ∧ b = .int .i64 ((leftN (l.take j) : Nat) : Int) ∧ wr = w
set_option maxHeartbeats 1000000 in
theorem rlo_left_c {q : Nat} {l : List Hd} (hl : l.length ≤ 1000) {w : World} (h : RLoC q l w) :
    Calls Try.prog 12 #[.pointer (some ⟨q, 0, none⟩)] w fun e w' => e = .returned (.int .i64 ((leftN l : Nat) : Int)) ∧ w = w' := by
  obtain ⟨n, hn⟩ : ∃ n, l.length = n := ⟨_, rfl⟩
  have HN := Lib.hid hn
  obtain ⟨a1, c1, a2, c2, d1, d2, hq, hc⟩ := h
  have HC := Lib.hid hc
  rw [hn] at hl d1 d2
  clear hn hc d1
  go_enter Try.func12, Try.ntmps12
  go_wp2_with fail
  go_loopw [3, 4] (fun b i wr => LftAt l w b i wr) (fun _ i _ => n - (intOf i).toNat)
  case atStart => exact ⟨0, Nat.zero_le _, rfl, rfl, rfl⟩
  case round =>
    obtain ⟨j, hj, rfl, rfl, rfl⟩ := hrel
    have hjn := HN.out
    by_cases hlt : j < n
    · obtain ⟨x, hx⟩ : ∃ x, l[j]? = some x := ⟨l[j], List.getElem?_eq_getElem (by omega)⟩
      obtain ⟨g1, g2, rfl, rfl, k3, k4, hc⟩ := HC.out (by omega)
      obtain ⟨_, co⟩ := hc j x hx
      have hstep : l.take (j + 1) = l.take j ++ [x] := by rw [List.take_add_one, hx]; rfl
      have hle := leftN_le (l.take j)
      have hle2 : (l.take j).length ≤ j := by rw [List.length_take]; omega
      have hs := leftN_snoc (l.take j) x
      rw [← hstep] at hs
      cases hxo : x.o
      · rw [hxo] at co hs
        have HX := Lib.hid (show leftN (l.take (j + 1)) = leftN (l.take j) + 1 by rw [hs]; rfl)
        generalize leftN (l.take j) = m at hle HX
        clear hc hx hstep hs
        go_wp2_with fail
        refine ⟨⟨j + 1, by omega, rfl, by rw [HX.out]; rfl, rfl⟩, ?_⟩
        simp [intOf]; omega
      · rw [hxo] at co hs
        have HX := Lib.hid (show leftN (l.take (j + 1)) = leftN (l.take j) by rw [hs]; rfl)
        generalize leftN (l.take j) = m at hle HX
        clear hc hx hstep hs
        go_wp2_with fail
        refine ⟨⟨j + 1, by omega, rfl, by rw [HX.out], rfl⟩, ?_⟩
        simp [intOf]; omega
    · obtain rfl : j = n := by omega
      have ht : l.take j = l := List.take_of_length_le (by omega)
      rw [ht]
      obtain ⟨m, hm⟩ : ∃ m, leftN l = m := ⟨_, rfl⟩
      rw [hm]
      have HL := Lib.hid hm
      clear hm
      go_wp2_with fail
      go_ret
      exact ⟨ret_i15 (by rw [HL.out]), rfl⟩
theorem hdS_set (l : List Hd) (i : Nat) (x : Hd) : hdS (l.set i x) = (hdS l).set i (.string x.s) := by simp [hdS, List.map_set]
theorem hdO_set (l : List Hd) (i : Nat) (x : Hd) : hdO (l.set i x) = (hdO l).set i (.bool x.o) := by simp [hdO, List.map_set]
/-- Both rows written at one place. -/
theorem rlo_put {q : Nat} {l : List Hd} {w : World} {B : Nat → Prop} (h : RLoA q l w B) {i : Nat} (hi : i < l.length) (x : Hd) :
    ∃ g1 c1 g2 c2, (w.cell? ⟨q, 0, none⟩ = some (.slice (some ⟨g1, 0, none⟩) l.length c1) ∧ w.cell? ⟨q, 1, none⟩ = some (.slice (some ⟨g2, 0, none⟩) l.length c2) ∧ (∃ y, w.cell? ⟨g1, i, none⟩ = some y) ∧ w.frozen? ⟨g1, i, none⟩ = false) ∧
      ((w.setCell ⟨g1, i, none⟩ (.string x.s)).cell? ⟨q, 1, none⟩ = some (.slice (some ⟨g2, 0, none⟩) l.length c2) ∧ (∃ y, (w.setCell ⟨g1, i, none⟩ (.string x.s)).cell? ⟨g2, i, none⟩ = some y) ∧ (w.setCell ⟨g1, i, none⟩ (.string x.s)).frozen? ⟨g2, i, none⟩ = false) ∧
      ∃ B', RLoA q (l.set i x) ((w.setCell ⟨g1, i, none⟩ (.string x.s)).setCell ⟨g2, i, none⟩ (.bool x.o)) B' ∧ Nx B w B' ((w.setCell ⟨g1, i, none⟩ (.string x.s)).setCell ⟨g2, i, none⟩ (.bool x.o)) := by
  obtain ⟨v1, v2, h⟩ := h
  obtain ⟨_, hb, _⟩ := part_at 0 rfl h
  obtain ⟨_, h1, _⟩ := part_at 1 rfl h
  obtain ⟨_, h2, _⟩ := part_at 2 rfl h
  obtain ⟨y, hy⟩ : ∃ y, l[i]? = some y := ⟨l[i], List.getElem?_eq_getElem hi⟩
  obtain ⟨g1, c1, rfl, _⟩ := rowE_form h1 (by omega)
  obtain ⟨g2, c2, rfl, _⟩ := rowE_form h2 (by omega)
  obtain ⟨B1, s1, n1⟩ := step_at (P := RowE 9 1 _ l.length (hdS l)) (Q := RowE 9 1 _ l.length ((hdS l).set i (.string x.s))) 1 rfl (frs_rlps q _ _ l) h (fun B1 k => rowE_set k rfl hi (.string x.s))
  have f1 : Frs ((rlps q (.slice (some ⟨g1, 0, none⟩) l.length c1) (.slice (some ⟨g2, 0, none⟩) l.length c2) l).set 1 (RowE 9 1 (.slice (some ⟨g1, 0, none⟩) l.length c1) l.length ((hdS l).set i (.string x.s)))) := ⟨fr_blk _ _ _, fr_rowE _ _ _ _ _, fr_rowE _ _ _ _ _, trivial⟩
  obtain ⟨_, hb2, _⟩ := part_at 0 rfl s1
  obtain ⟨_, h22, _⟩ := part_at 2 rfl s1
  obtain ⟨B2, s2, n2⟩ := step_at (P := RowE 4 1 _ l.length (hdO l)) (Q := RowE 4 1 _ l.length ((hdO l).set i (.bool x.o))) 2 rfl f1 s1 (fun B1 k => rowE_set k rfl hi (.bool x.o))
  have r1 := rowE_at h1 rfl (hdS_at hy)
  have r2 := rowE_at h22 rfl (hdO_at hy)
  refine ⟨g1, c1, g2, c2, ⟨by rw [cells_at hb.1]; rfl, by rw [cells_at hb.1]; rfl, ⟨_, r1.1⟩, r1.2⟩, ⟨by rw [cells_at hb2.1]; rfl, ⟨_, r2.1⟩, r2.2⟩, B2, ⟨.slice (some ⟨g1, 0, none⟩) l.length c1, .slice (some ⟨g2, 0, none⟩) l.length c2, ?_⟩, n1.trans n2⟩
  unfold rlps
  rw [List.length_set, hdS_set, hdO_set]
  exact s2
set_option maxHeartbeats 1000000 in
theorem rlo_next_c {q : Nat} {l : List Hd} (hl : l.length ≤ 1000) (s : ByteArray) (o : Bool) {w : World} {B : Nat → Prop} (h : RLoA q l w B) :
    Calls Try.prog 15 #[.pointer (some ⟨q, 0, none⟩), .string s, .bool o] w (Does w B (RLoA q (nextL l s o)) (.tuple #[])) := by
  have C := rlo_least_c hl (rlo_cells h)
  have hr := leastN_range l
  cases hb : leastB l
  · have HX := Lib.hid (show nextL l s o = l by unfold nextL; rw [if_neg (by rw [hb]; simp)])
    rw [hb] at C
    have H := Lib.hid h
    have HC := Lib.hid C
    clear h C hb hr
    go_enter Try.func15, Try.ntmps15
    go_wp2_with fail
    refine HC.out.mono ?_; rintro e u ⟨rfl, g⟩
    go_wp2_with fail
    refine bodyPost_ret (results_none rfl _ _ _) rfl ⟨rfl, B, ?_, Nx.gr g⟩
    rw [HX.out]
    exact (fr_rlo q l).fr H.out (Only.ofGr (B := fun _ => False) g) (fun _ _ e => e)
  · obtain ⟨i, hi⟩ : ∃ i : Nat, leastN l = (i : Int) := ⟨(leastN l).toNat, by unfold leastB at hb; rw [decide_eq_true_iff] at hb; omega⟩
    have hlt : i < l.length := by omega
    have hI : leastI l = (i : Int) := by unfold leastI; omega
    have HX := Lib.hid (show nextL l s o = l.set i ⟨s, o⟩ by unfold nextL; rw [if_pos hb, hi, Int.toNat_natCast])
    rw [hb, hI] at C
    have K := Lib.hid (fun u (g : Gr w u) => rlo_put ((fr_rlo q l).fr h (Only.ofGr (B := fun _ => False) g) (fun _ _ e => e)) hlt ⟨s, o⟩)
    have HC := Lib.hid C
    obtain ⟨n, hn⟩ : ∃ n, l.length = n := ⟨_, rfl⟩
    clear h C hb hr hi hI
    rw [hn] at hl hlt
    go_enter Try.func15, Try.ntmps15
    go_wp2_with fail
    refine HC.out.mono ?_; rintro e u ⟨rfl, g⟩
    obtain ⟨g1, c1, g2, c2, ⟨e1, e2, ⟨y1, e3⟩, e4⟩, ⟨e5, ⟨y2, e6⟩, e7⟩, B', k, nx⟩ := K.out u g
    rw [hn] at e1 e2 e5
    have HK := Lib.hid k
    have HNX := Lib.hid nx
    have HG := Lib.hid g
    clear k nx g
    go_wp2_with fail
    refine bodyPost_end (results_none rfl _ _ _) rfl ⟨rfl, B', ?_, (Nx.gr HG.out).trans HNX.out⟩
    rw [HX.out]
    exact HK.out
end Go.Proofs.Ytifpiekajbcoiaa

/- The document's tree: the least, how many are left. -/
import Derived.Test.YtifpiekajbcoiaaLoRow
import Derived.Test.YtifpiekajbcoiaaLoPlain
import Derived.BigQuiet
namespace Go.Proofs.Ytifpiekajbcoiaa
open Go.RowKit LoPlain
set_option linter.unusedVariables false
set_option linter.unusedSimpArgs false
set_option maxRecDepth 20000
def hdS (l : List Hd) : List Value := l.map (fun x => .string x.s)
def hdO (l : List Hd) : List Value := l.map (fun x => .bool x.o)
theorem hdS_len (l : List Hd) : (hdS l).length = l.length := by simp [hdS]
theorem hdO_len (l : List Hd) : (hdO l).length = l.length := by simp [hdO]
theorem hdS_at {l : List Hd} {i : Nat} {x : Hd} (h : l[i]? = some x) : (hdS l)[i]? = some (.string x.s) := by simp [hdS, h]
theorem hdO_at {l : List Hd} {i : Nat} {x : Hd} (h : l[i]? = some x) : (hdO l)[i]? = some (.bool x.o) := by simp [hdO, h]
theorem lt_list15 (a b : ByteArray) : ltS a b = Op.bytesLess a.toList b.toList := rfl
def rlps (q : Nat) (v1 v2 : Value) (l : List Hd) : List Asn := [Blk q #[v1, v2] 36, RowE 9 1 v1 l.length (hdS l), RowE 4 1 v2 l.length (hdO l)]
theorem frs_rlps (q : Nat) (v1 v2 : Value) (l : List Hd) : Frs (rlps q v1 v2 l) := ⟨fr_blk _ _ _, fr_rowE _ _ _ _ _, fr_rowE _ _ _ _ _, trivial⟩
/-- The document's tree at q. -/
def RLoA (q : Nat) (l : List Hd) : Asn := fun w B => ∃ v1 v2, stars (rlps q v1 v2 l) w B
theorem fr_rlo (q : Nat) (l : List Hd) : Fr (RLoA q l) where
  fr := fun ⟨v1, v2, h⟩ o d => ⟨v1, v2, (fr_stars (frs_rlps q v1 v2 l)).fr h o d⟩
  lo := fun ⟨v1, v2, h⟩ b hb => (fr_stars (frs_rlps q v1 v2 l)).lo h b hb
/-- Its cells. -/
def RLoC (q : Nat) (l : List Hd) (w : World) : Prop :=
  ∃ a1 c1 a2 c2, w.cell? ⟨q, 0, none⟩ = some (.slice a1 l.length c1) ∧ w.cell? ⟨q, 1, none⟩ = some (.slice a2 l.length c2) ∧ q < w.heap.size ∧
    (1 ≤ l.length → ∃ g1 g2, a1 = some ⟨g1, 0, none⟩ ∧ a2 = some ⟨g2, 0, none⟩ ∧ g1 < w.heap.size ∧ g2 < w.heap.size ∧ ∀ i x, l[i]? = some x → w.cell? ⟨g1, i, none⟩ = some (.string x.s) ∧ w.cell? ⟨g2, i, none⟩ = some (.bool x.o))
theorem rlo_cells {q : Nat} {l : List Hd} {w : World} {B : Nat → Prop} (h : RLoA q l w B) : RLoC q l w := by
  obtain ⟨v1, v2, h⟩ := h
  obtain ⟨_, hb, _⟩ := part_at 0 rfl h
  obtain ⟨_, h1, _⟩ := part_at 1 rfl h
  obtain ⟨_, h2, _⟩ := part_at 2 rfl h
  obtain ⟨a1, c1, e1, _⟩ := rowE_shape h1
  obtain ⟨a2, c2, e2, _⟩ := rowE_shape h2
  refine ⟨a1, c1, a2, c2, by rw [cells_at hb.1, ← e1]; rfl, by rw [cells_at hb.1, ← e2]; rfl, lt_of_block hb.1, fun hn => ?_⟩
  obtain ⟨g1, d1, f1, k1⟩ := rowE_form h1 (by omega)
  obtain ⟨g2, d2, f2, k2⟩ := rowE_form h2 (by omega)
  rw [e1] at f1
  rw [e2] at f2
  simp only [Value.slice.injEq, true_and] at f1 f2
  refine ⟨g1, g2, f1.1, f2.1, k1, k2, fun i x hx => ⟨(rowE_at h1 (g := g1) (c := c1) (by rw [e1, f1.1]) (hdS_at hx)).1, (rowE_at h2 (g := g2) (c := c2) (by rw [e2, f2.1]) (hdO_at hx)).1⟩⟩
theorem RLoC.gr {q : Nat} {l : List Hd} {w u : World} (h : RLoC q l w) (g : Gr w u) : RLoC q l u := by
  obtain ⟨a1, c1, a2, c2, h1, h2, hq, h3⟩ := h
  refine ⟨a1, c1, a2, c2, by rw [Below.cell g (p := ⟨q, 0, none⟩) hq]; exact h1, by rw [Below.cell g (p := ⟨q, 1, none⟩) hq]; exact h2, Nat.lt_of_lt_of_le hq g.size, fun hn => ?_⟩
  obtain ⟨g1, g2, e1, e2, k1, k2, hc⟩ := h3 hn
  exact ⟨g1, g2, e1, e2, Nat.lt_of_lt_of_le k1 g.size, Nat.lt_of_lt_of_le k2 g.size, fun i x hx => ⟨by rw [Below.cell g (p := ⟨g1, i, none⟩) k1]; exact (hc i x hx).1, by rw [Below.cell g (p := ⟨g2, i, none⟩) k2]; exact (hc i x hx).2⟩⟩
theorem ret_ib15 {a b : Int} {p q : Bool} (h : a = b) (k : p = q) : Ending.returned (.tuple #[.int .i64 a, .bool p]) = .returned (.tuple #[.int .i64 b, .bool q]) := by rw [h, k]
theorem ret_i15 {a b : Int} (h : a = b) : Ending.returned (.int .i64 a) = .returned (.int .i64 b) := by rw [h]
def LstAt (q : Nat) (l : List Hd) (w : World) (b i : Value) (wr : World) : Prop := ∃ j : Nat, j ≤ l.length ∧ i = .int .i64 (j : Int) ∧ b = .int .i64 (bestN l j) ∧ Gr w wr
set_option maxHeartbeats 4000000 in
theorem rlo_least_c {q : Nat} {l : List Hd} (hl : l.length ≤ 1000) {w : World} (h : RLoC q l w) :
    Calls Try.prog 10 #[.pointer (some ⟨q, 0, none⟩)] w fun e w' => e = .returned (.tuple #[.int .i64 (leastI l), .bool (leastB l)]) ∧ Gr w w' := by
  obtain ⟨n, hn⟩ : ∃ n, l.length = n := ⟨_, rfl⟩
  have HN := Lib.hid hn
  have H := Lib.hid h
  rw [hn] at hl
  obtain ⟨a1, c1, a2, c2, d1, d2, hq, _⟩ := h
  rw [hn] at d1 d2
  have D := Lib.hid (fun u (g : Gr w u) => (⟨by rw [Below.cell g (p := ⟨q, 0, none⟩) hq]; exact d1, by rw [Below.cell g (p := ⟨q, 1, none⟩) hq]; exact d2⟩ : u.cell? ⟨q, 0, none⟩ = some (.slice a1 n c1) ∧ u.cell? ⟨q, 1, none⟩ = some (.slice a2 n c2)))
  clear hn
  go_enter Try.func10, Try.ntmps10
  go_wp2_with fail
  go_loopw [4, 5] (fun b i wr => LstAt q l w b i wr) (fun _ i _ => n - (intOf i).toNat)
  case atStart => exact ⟨0, Nat.zero_le _, rfl, rfl, Gr.refl _⟩
  case round =>
    obtain ⟨j, hj, rfl, rfl, g⟩ := hrel
    have hjn := HN.out
    obtain ⟨k1, k2⟩ := D.out wr g
    have hr := bestN_range l j
    clear d1 d2
    by_cases hlt : j < n
    · obtain ⟨x, hx⟩ : ∃ x, l[j]? = some x := ⟨l[j], List.getElem?_eq_getElem (by omega)⟩
      obtain ⟨b1, b2, b3, b4, e1, e2, hq2, hc0⟩ := H.out.gr g
      obtain ⟨g1, g2, f1, f2, k3, k4, hc⟩ := hc0 (by omega)
      clear hc0
      have e1' := e1
      have e2' := e2
      rw [hjn, k1] at e1'
      rw [hjn, k2] at e2'
      simp only [Option.some.injEq, Value.slice.injEq, true_and] at e1' e2'
      obtain ⟨rfl, rfl⟩ := e1'
      obtain ⟨rfl, rfl⟩ := e2'
      subst f1 f2
      obtain ⟨cs, co⟩ := hc j x hx
      have hs := sAt_at hx
      have ho := oAt_at hx
      have hstep : bestN l (j + 1) = if (!oAt l j && (decide (bestN l j < 0) || ltS (sAt l j) (sAt l (bestN l j).toNat))) = true then (j : Int) else bestN l j := rfl
      rw [hs, ho] at hstep
      have HS := Lib.hid hstep
      have GN := Lib.hid (fun k => g.trans (grN wr k))
      clear hs ho hstep
      cases hxo : x.o
      · rw [hxo] at co
        by_cases hb : bestN l j < 0
        · have HX := Lib.hid (show bestN l (j + 1) = (j : Int) by rw [HS.out, hxo, decide_eq_true hb]; rfl)
          generalize bestN l j = bb at hr hb
          have t1 : decide (bb < 0) = true := by simp [hb]
          clear hc e1 e2 hx
          go_wp2_with fail
          go_quiet (fail)
          go_wp2_with fail
          refine ⟨⟨j + 1, by omega, rfl, by rw [HX.out], GN.out _⟩, ?_⟩
          simp [intOf]; omega
        · obtain ⟨y, hy⟩ : ∃ y, l[(bestN l j).toNat]? = some y := ⟨l[(bestN l j).toNat]'(by omega), List.getElem?_eq_getElem (by omega)⟩
          obtain ⟨cy, _⟩ := hc _ y hy
          have hys := sAt_at hy
          obtain ⟨p, hp⟩ : ∃ p : Nat, bestN l j = (p : Int) := ⟨(bestN l j).toNat, by omega⟩
          rw [hp] at hys hb hr cy HS
          rw [Int.toNat_natCast] at cy hys HS
          rw [hys] at HS
          have hpn : p < n := by omega
          have t1 : decide ((p : Int) < 0) = false := by simp
          rw [hp]
          cases ht : ltS x.s y.s
          · have HX := Lib.hid (show bestN l (j + 1) = (p : Int) by rw [HS.out, hxo, ht, t1]; rfl)
            have t2 : Op.bytesLess x.s.toList y.s.toList = false := ht
            clear hc e1 e2 hx hy hys hp ht
            go_wp2_with fail
            go_quiet (fail)
            go_wp2_with fail
            refine ⟨⟨j + 1, by omega, rfl, by rw [HX.out], GN.out _⟩, ?_⟩
            simp [intOf]; omega
          · have HX := Lib.hid (show bestN l (j + 1) = (j : Int) by rw [HS.out, hxo, ht, t1]; rfl)
            have t2 : Op.bytesLess x.s.toList y.s.toList = true := ht
            clear hc e1 e2 hx hy hys hp ht
            go_wp2_with fail
            go_quiet (fail)
            go_wp2_with fail
            refine ⟨⟨j + 1, by omega, rfl, by rw [HX.out], GN.out _⟩, ?_⟩
            simp [intOf]; omega
      · rw [hxo] at co
        have HX := Lib.hid (show bestN l (j + 1) = bestN l j by rw [HS.out, hxo]; rfl)
        generalize bestN l j = bb at hr HX
        clear hc e1 e2 hx
        go_wp2_with fail
        go_quiet (fail)
        go_wp2_with fail
        refine ⟨⟨j + 1, by omega, rfl, by rw [HX.out], GN.out _⟩, ?_⟩
        simp [intOf]; omega
    · obtain rfl : j = n := by omega
      have HI := Lib.hid (show leastI l = max 0 (bestN l j) by unfold leastI leastN; rw [HN.out])
      have HB := Lib.hid (show leastB l = decide (0 ≤ bestN l j) by unfold leastB leastN; rw [HN.out])
      generalize bestN l j = bb at hr HI HB
      by_cases hb : bb < 0
      · have t1 : decide (0 ≤ bb) = false := by simp; omega
        have e : max 0 bb = 0 := by omega
        go_wp2_with fail
        go_ret2
        exact ⟨ret_ib15 (by rw [HI.out]; omega) (by rw [HB.out]; simp; omega), g⟩
      · have t1 : decide (0 ≤ bb) = true := by simp; omega
        have e : max 0 bb = bb := by omega
        go_wp2_with fail
        all_goals
          go_ret2
          exact ⟨ret_ib15 (by rw [HI.out]; omega) (by rw [HB.out]; simp; omega), g⟩
end Go.Proofs.Ytifpiekajbcoiaa

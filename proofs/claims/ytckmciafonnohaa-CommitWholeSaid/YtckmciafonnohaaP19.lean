/- In one text: MnRef3. -/
import Derived.Test.YtckmciafonnohaaP18
import Derived.Test.YtckmciafonnohaaP13
/- The document's answers of layer 19: Right. -/
namespace Go.Proofs.Ytckmciafonnohaa
open Go.RowKit FsPlain MnPlain
set_option linter.unusedVariables false
set_option linter.unusedSimpArgs false
set_option maxRecDepth 20000
theorem flB_eq (f : Fl) : flB f = (rightB f.name.data.toList && decide (1 ≤ f.size) && decide (f.size ≤ 64) && decide (0 ≤ f.count) && decide (f.count ≤ 4611686018427387904)) := by
  unfold flB
  cases rightB f.name.data.toList <;> simp [Bool.and_assoc, and_assoc]
/-- At the head of a file. -/
def RmAt19 (l : List Fl) (w0 w1 : World) (v : Value) (wr : World) : Prop := ∃ i : Nat, i ≤ l.length ∧ v = .int .i64 (i : Int) ∧ newB [] l = newB (l.take i) (l.drop i) ∧ Gr w1 wr
/-- While it is held against those ahead of it. -/
def RuAt (l : List Fl) (i : Nat) (w2 : World) (v : Value) (wr : World) : Prop := ∃ k : Nat, k ≤ i ∧ v = .int .i64 (k : Int) ∧ (∀ j (hj : j < l.length), j < k → ∀ hi : i < l.length, l[j].name ≠ l[i].name) ∧ Gr w2 wr
set_option maxHeartbeats 4000000 in
theorem rmright_c (st ps : Int) (a : Option Addr) (n c : Nat) (l : List Fl) (w : World) (h : LiesFl w (.slice a n c) l) (hl : l.length ≤ maxLen) (hK : ∀ f ∈ l, flK f) (hs : I64 st) (hp : I64 ps) :
    Calls Try.prog 12 #[.agg #[.int .i64 st, .int .i64 ps, .slice a n c]] w fun e w' => e = .returned (.bool (mnB ⟨st, ps, l⟩)) ∧ Gr w w' := by
  have hn : n = l.length := by
    obtain ⟨a', c', e, hc, _⟩ := h
    simp only [Value.slice.injEq] at e
    exact e.2.1
  obtain ⟨r, hr⟩ : ∃ r, mnB ⟨st, ps, l⟩ = r := ⟨_, rfl⟩
  rw [hr]
  unfold maxLen at hl
  have H := Lib.hid h
  have HK := Lib.hid hK
  clear h hK
  subst hn
  unfold mnB at hr
  simp only at hr
  by_cases c1 : 1 ≤ st
  · by_cases c2 : st ≤ 7
    · by_cases c3 : 0 ≤ ps
      · by_cases c4 : ps ≤ 1000
        · by_cases c5 : l.length ≤ 16
          · rw [decide_eq_true (show (1 ≤ st ∧ st ≤ 7) ∧ (0 ≤ ps ∧ ps ≤ 1000) ∧ l.length ≤ 16 from ⟨⟨c1, c2⟩, ⟨c3, c4⟩, c5⟩), Bool.true_and] at hr
            have HR := Lib.hid hr
            have c5I : ¬ (16 : Int) < (l.length : Int) := by omega
            clear hr
            go_enter Try.func12, Try.ntmps12
            go_wp2_with fail
            go_loopw [3] (fun v wr => RmAt19 l w (w.alloc (.cells #[.int .i64 st, .int .i64 ps, .slice a l.length c] 31)) v wr) (fun v _ => l.length - (intOf v).toNat)
            case atStart => exact ⟨0, Nat.zero_le _, rfl, by rw [List.take_zero, List.drop_zero], Gr.refl _⟩
            case round =>
              obtain ⟨i, hi1, rfl, hnb, g1⟩ := hrel
              have A2 : wr.cell? ⟨w.heap.size, 2, none⟩ = some (.slice a l.length c) := by rw [g1.cell (p := ⟨w.heap.size, 2, none⟩) (by simp)]; simp
              have G : Gr w wr := ((Gr.refl w).alloc (Nat.le_refl _) _).trans (Below.mono g1 (by simp))
              have HW := H.out.gr G
              by_cases hlt : i < l.length
              · obtain ⟨_, hc, b, o, rfl, hb, ⟨k0, k1, k2, k3⟩⟩ := fl_get HW hlt
                have q1 : (i : Int) < (l.length : Int) := by omega
                have hfk := HK.out l[i] (List.getElem_mem hlt)
                have RC := Lib.hid (fun v => rright_c l[i].name hfk.1 v)
                cases d1 : rightB l[i].name.data.toList
                · rw [d1] at RC
                  have er : r = false := by rw [← HR.out, hnb, new_step hlt, flB_eq]; simp [d1]
                  subst er
                  clear hnb HR
                  go_wp2_with fail
                  refine (RC.out _).mono ?_; rintro e u ⟨rfl, rfl⟩
                  go_wp2_with fail
                  go_ret
                  exact ⟨rfl, G.alloc G.size _⟩
                · rw [d1] at RC
                  by_cases d2 : 1 ≤ l[i].size
                  · by_cases d3 : l[i].size ≤ 64
                    · by_cases d4 : 0 ≤ l[i].count
                      · by_cases d5 : l[i].count ≤ 4611686018427387904
                        · have hstep : newB [] l = (((l.take i).all fun g => decide (g.name ≠ l[i].name)) && newB (l.take (i + 1)) (l.drop (i + 1))) := by
                            rw [hnb, new_step hlt, flB_eq]; simp [d1, d2, d3, d4, d5]
                          have ST := Lib.hid hstep
                          clear hnb hstep
                          go_wp2_with fail
                          refine (RC.out _).mono ?_; rintro e u ⟨rfl, rfl⟩
                          go_wp2_with fail
                          rename World => wo
                          have hw1 : w.heap.size < wo.heap.size := by have := g1.size; simp at this; omega
                          clear RC d1 d2 d3 d4 d5 k0 k1 k2 k3
                          go_loopw [5] (fun v wr => RuAt l i (wo.alloc (.cells #[.string l[i].name, .int .i64 l[i].size, .int .i64 l[i].count, .int .u32 l[i].sum] 61)) v wr) (fun v _ => i - (intOf v).toNat)
                          case atStart => exact ⟨0, Nat.zero_le _, rfl, fun j _ hj => by omega, Gr.refl _⟩
                          case round =>
                            obtain ⟨k, hk, rfl, hne, g2⟩ := hrel
                            have G2 : Gr wo wr := Gr.trans ((Gr.refl wo).alloc (Nat.le_refl _) _) g2
                            have B2 : wr.cell? ⟨w.heap.size, 2, none⟩ = some (.slice (some ⟨b, o, none⟩) l.length c) := by rw [G2.cell (p := ⟨w.heap.size, 2, none⟩) hw1]; exact A2
                            have F0 : wr.cell? ⟨wo.heap.size, 0, none⟩ = some (.string l[i].name) := by rw [g2.cell (p := ⟨wo.heap.size, 0, none⟩) (by simp)]; simp
                            have NE := Lib.hid hne
                            clear hne
                            by_cases hki : k < i
                            · obtain ⟨_, _, b', o', e2, hb', ⟨m0, _, _, _⟩⟩ := fl_get (H.out.gr (G.trans G2)) (i := k) (by omega)
                              simp only [Option.some.injEq, Addr.mk.injEq, and_true] at e2
                              obtain ⟨rfl, rfl⟩ := e2
                              have q2 : (k : Int) < (i : Int) := by omega
                              have q3 : (k : Int) < (l.length : Int) := by omega
                              obtain ⟨nk, hnk⟩ : ∃ nk, l[k].name = nk := ⟨_, rfl⟩
                              obtain ⟨ni, hni⟩ : ∃ ni, l[i].name = ni := ⟨_, rfl⟩
                              by_cases hs : nk = ni
                              · have er : r = false := by
                                  rw [← HR.out, ST.out, Bool.and_eq_false_iff]
                                  left
                                  rw [Bool.eq_false_iff]
                                  intro hall
                                  exact (all_ne hlt _).1 hall k hki (by rw [hnk, hni, hs])
                                subst er
                                rw [hnk] at m0
                                rw [hni] at F0
                                subst hs
                                clear hnk hni ST HR
                                go_wp2_with fail
                                go_region
                                go_wp2
                                go_ret
                                exact ⟨rfl, (G.trans G2).drew⟩
                              · have qs : (nk.toList == ni.toList) = false := by
                                  rw [beq_eq_false_iff_ne]
                                  intro e
                                  exact hs (ByteArray.ext (Array.toList_inj.1 (by rw [← Lib.toList_data, ← Lib.toList_data, e])))
                                have NX := Lib.hid (show ∀ j (hj : j < l.length), j < k + 1 → ∀ hi : i < l.length, l[j].name ≠ l[i].name from fun j hj hjk hi => by
                                  by_cases e : j = k
                                  · subst e; rw [hnk, hni]; exact hs
                                  · exact NE.out j hj (by omega) hi)
                                rw [hnk] at m0
                                rw [hni] at F0
                                clear hs hnk hni
                                go_wp2_with fail
                                go_region
                                go_wp2
                                go_roundw
                                case rel => exact ⟨k + 1, by omega, by rw [show ((k + 1 : Nat) : Int) = (k : Int) + 1 by omega], NX.out, g2.drew⟩
                                case measure => simp [intOf]; omega
                            · have hke : k = i := by omega
                              have NB := Lib.hid (show newB [] l = newB (l.take (i + 1)) (l.drop (i + 1)) from by
                                rw [ST.out, (all_ne hlt _).2 (fun j hj => NE.out j (by omega) (by omega) hlt), Bool.true_and])
                              have q2 : ¬ (k : Int) < (i : Int) := by omega
                              clear ST hke
                              go_wp2_with fail
                              go_roundw
                              case rel => exact ⟨i + 1, by omega, by rw [show ((i + 1 : Nat) : Int) = (i : Int) + 1 by omega], NB.out, g1.trans G2⟩
                              case measure => simp [intOf]; omega
                        · have d5 : 4611686018427387904 < l[i].count := by omega
                          have er : r = false := by rw [← HR.out, hnb, new_step hlt, flB_eq]; simp [show ¬ l[i].count ≤ 4611686018427387904 by omega]
                          subst er
                          clear hnb HR
                          go_wp2_with fail
                          refine (RC.out _).mono ?_; rintro e u ⟨rfl, rfl⟩
                          go_wp2_with fail
                          go_ret
                          exact ⟨rfl, G.alloc G.size _⟩
                      · have d4 : l[i].count < 0 := by omega
                        have er : r = false := by rw [← HR.out, hnb, new_step hlt, flB_eq]; simp [show ¬ 0 ≤ l[i].count by omega]
                        subst er
                        clear hnb HR
                        go_wp2_with fail
                        refine (RC.out _).mono ?_; rintro e u ⟨rfl, rfl⟩
                        go_wp2_with fail
                        go_ret
                        exact ⟨rfl, G.alloc G.size _⟩
                    · have d3 : 64 < l[i].size := by omega
                      have er : r = false := by rw [← HR.out, hnb, new_step hlt, flB_eq]; simp [show ¬ l[i].size ≤ 64 by omega]
                      subst er
                      clear hnb HR
                      go_wp2_with fail
                      refine (RC.out _).mono ?_; rintro e u ⟨rfl, rfl⟩
                      go_wp2_with fail
                      go_ret
                      exact ⟨rfl, G.alloc G.size _⟩
                  · have d2 : l[i].size < 1 := by omega
                    have er : r = false := by rw [← HR.out, hnb, new_step hlt, flB_eq]; simp [show ¬ 1 ≤ l[i].size by omega]
                    subst er
                    clear hnb HR
                    go_wp2_with fail
                    refine (RC.out _).mono ?_; rintro e u ⟨rfl, rfl⟩
                    go_wp2_with fail
                    go_ret
                    exact ⟨rfl, G.alloc G.size _⟩
              · have hie : i = l.length := by omega
                have er : r = true := by rw [← HR.out, hnb, hie]; exact new_end l
                subst er
                have q1 : ¬ (i : Int) < (l.length : Int) := by omega
                clear hnb HR
                go_wp2_with fail
                go_ret
                exact ⟨rfl, G⟩
          · have er : r = false := by rw [← hr, decide_eq_false (fun k => c5 k.2.2), Bool.false_and]
            have c5I : (16 : Int) < (l.length : Int) := by omega
            subst er
            clear hr
            go_enter Try.func12, Try.ntmps12
            go_wp2_with fail
            go_ret
            exact ⟨rfl, (Gr.refl _).alloc (Nat.le_refl _) _⟩
        · have er : r = false := by rw [← hr, decide_eq_false (fun k => c4 k.2.1.2), Bool.false_and]
          subst er
          clear hr
          go_enter Try.func12, Try.ntmps12
          go_wp2_with fail
          go_ret
          exact ⟨rfl, (Gr.refl _).alloc (Nat.le_refl _) _⟩
      · have er : r = false := by rw [← hr, decide_eq_false (fun k => c3 k.2.1.1), Bool.false_and]
        subst er
        clear hr
        go_enter Try.func12, Try.ntmps12
        go_wp2_with fail
        go_ret
        exact ⟨rfl, (Gr.refl _).alloc (Nat.le_refl _) _⟩
    · have er : r = false := by rw [← hr, decide_eq_false (fun k => c2 k.1.2), Bool.false_and]
      subst er
      clear hr
      go_enter Try.func12, Try.ntmps12
      go_wp2_with fail
      go_ret
      exact ⟨rfl, (Gr.refl _).alloc (Nat.le_refl _) _⟩
  · have er : r = false := by rw [← hr, decide_eq_false (fun k => c1 k.1.1), Bool.false_and]
    subst er
    clear hr
    go_enter Try.func12, Try.ntmps12
    go_wp2_with fail
    go_ret
    exact ⟨rfl, (Gr.refl _).alloc (Nat.le_refl _) _⟩
end Go.Proofs.Ytckmciafonnohaa

/- In one text: MnRef3, MnRef4, OctPut, OctPut2. -/
import Derived.Test.YtignfbdgpgidpaaGreatDoorS18
import Derived.Test.YtignfbdgpgidpaaGreatDoorS11
import Derived.Test.YtignfbdgpgidpaaGreatDoorS00
import Derived.Test.YtignfbdgpgidpaaGreatDoorS16
import Derived.WalkKit
import Derived.ProofKit
import Derived.Below
import Derived.Handy
import Derived.WalkLawsBesides
import Derived.Outline
import Derived.Test.YtignfbdgpgidpaaGreatDoorS17
/- The document's answers of layer 19: Right. -/
namespace Go.Proofs.YtignfbdgpgidpaaGreatDoor
open Go.RowKit FsPlain MnPlain
set_option linter.unusedVariables false
set_option linter.unusedSimpArgs false
set_option maxRecDepth 20000
theorem flB_eq (f : Fl) : flB f = (rightB f.name.data.toList && decide (1 ≤ f.size) && decide (f.size ≤ 64) && decide (0 ≤ f.count) && decide (f.count ≤ 4611686018427387904)) := by
  unfold flB
  cases rightB f.name.data.toList <;> simp [Bool.and_assoc, and_assoc]
def RmAt19 (l : List Fl) (w0 w1 : World) (v : Value) (wr : World) : Prop := ∃ i : Nat, i ≤ l.length ∧ v = .int .i64 (i : Int) ∧ newB [] l = newB (l.take i) (l.drop i) ∧ Gr w1 wr
def RuAt (l : List Fl) (i : Nat) (w2 : World) (v : Value) (wr : World) : Prop := ∃ k : Nat, k ≤ i ∧ v = .int .i64 (k : Int) ∧ (∀ j (hj : j < l.length), j < k → ∀ hi : i < l.length, l[j].name ≠ l[i].name) ∧ Gr w2 wr
set_option maxHeartbeats 4000000 in
theorem rmright_c (st ps : Int) (a : Option Addr) (n c : Nat) (l : List Fl) (w : World) (h : LiesFl w (.slice a n c) l) (hl : l.length ≤ maxLen) (hK : ∀ f ∈ l, flK f) (hs : I64 st) (hp : I64 ps) :
    Calls Tryz.prog 108 #[.agg #[.int .i64 st, .int .i64 ps, .slice a n c]] w fun e w' => e = .returned (.bool (mnB ⟨st, ps, l⟩)) ∧ Gr w w' := by
  have hn : n = l.length := by
    obtain ⟨a', c', e, hc, _⟩ := h
    simp only [Value.slice.injEq] at e
    exact e.2.1
  obtain ⟨r, hr⟩ : ∃ r, mnB ⟨st, ps, l⟩ = r := ⟨_, rfl⟩
  rw [hr]
  unfold maxLen at hl
  have H := Lib.hid h
  have HK := Lib.hid hK
  clear h hK
  subst hn
  unfold mnB at hr
  simp only at hr
  by_cases c1 : 1 ≤ st
  · by_cases c2 : st ≤ 7
    · by_cases c3 : 0 ≤ ps
      · by_cases c4 : ps ≤ 1000
        · by_cases c5 : l.length ≤ 16
          · rw [decide_eq_true (show (1 ≤ st ∧ st ≤ 7) ∧ (0 ≤ ps ∧ ps ≤ 1000) ∧ l.length ≤ 16 from ⟨⟨c1, c2⟩, ⟨c3, c4⟩, c5⟩), Bool.true_and] at hr
            have HR := Lib.hid hr
            have c5I : ¬ (16 : Int) < (l.length : Int) := by omega
            clear hr
            go_enter Tryz.func108, Tryz.ntmps108
            go_wp2_with fail
            go_loopw [3] (fun v wr => RmAt19 l w (w.alloc (.cells #[.int .i64 st, .int .i64 ps, .slice a l.length c] 27)) v wr) (fun v _ => l.length - (intOf v).toNat)
            case atStart => exact ⟨0, Nat.zero_le _, rfl, by rw [List.take_zero, List.drop_zero], Gr.refl _⟩
            case round =>
              obtain ⟨i, hi1, rfl, hnb, g1⟩ := hrel
              have A2 : wr.cell? ⟨w.heap.size, 2, none⟩ = some (.slice a l.length c) := by rw [g1.cell (p := ⟨w.heap.size, 2, none⟩) (by simp)]; simp
              have G : Gr w wr := ((Gr.refl w).alloc (Nat.le_refl _) _).trans (Below.mono g1 (by simp))
              have HW := H.out.gr G
              by_cases hlt : i < l.length
              · obtain ⟨_, hc, b, o, rfl, hb, ⟨k0, k1, k2, k3⟩⟩ := fl_get HW hlt
                have q1 : (i : Int) < (l.length : Int) := by omega
                have hfk := HK.out l[i] (List.getElem_mem hlt)
                have RC := Lib.hid (fun v => rright_c l[i].name hfk.1 v)
                cases d1 : rightB l[i].name.data.toList
                · rw [d1] at RC
                  have er : r = false := by rw [← HR.out, hnb, new_step hlt, flB_eq]; simp [d1]
                  subst er
                  clear hnb HR
                  go_wp2_with fail
                  refine (RC.out _).mono ?_; rintro e u ⟨rfl, rfl⟩
                  go_wp2_with fail
                  go_ret
                  exact ⟨rfl, G.alloc G.size _⟩
                · rw [d1] at RC
                  by_cases d2 : 1 ≤ l[i].size
                  · by_cases d3 : l[i].size ≤ 64
                    · by_cases d4 : 0 ≤ l[i].count
                      · by_cases d5 : l[i].count ≤ 4611686018427387904
                        · have hstep : newB [] l = (((l.take i).all fun g => decide (g.name ≠ l[i].name)) && newB (l.take (i + 1)) (l.drop (i + 1))) := by
                            rw [hnb, new_step hlt, flB_eq]; simp [d1, d2, d3, d4, d5]
                          have ST := Lib.hid hstep
                          clear hnb hstep
                          go_wp2_with fail
                          refine (RC.out _).mono ?_; rintro e u ⟨rfl, rfl⟩
                          go_wp2_with fail
                          rename World => wo
                          have hw1 : w.heap.size < wo.heap.size := by have := g1.size; simp at this; omega
                          clear RC d1 d2 d3 d4 d5 k0 k1 k2 k3
                          go_loopw [5] (fun v wr => RuAt l i (wo.alloc (.cells #[.string l[i].name, .int .i64 l[i].size, .int .i64 l[i].count, .int .u32 l[i].sum] 48)) v wr) (fun v _ => i - (intOf v).toNat)
                          case atStart => exact ⟨0, Nat.zero_le _, rfl, fun j _ hj => by omega, Gr.refl _⟩
                          case round =>
                            obtain ⟨k, hk, rfl, hne, g2⟩ := hrel
                            have G2 : Gr wo wr := Gr.trans ((Gr.refl wo).alloc (Nat.le_refl _) _) g2
                            have B2 : wr.cell? ⟨w.heap.size, 2, none⟩ = some (.slice (some ⟨b, o, none⟩) l.length c) := by rw [G2.cell (p := ⟨w.heap.size, 2, none⟩) hw1]; exact A2
                            have F0 : wr.cell? ⟨wo.heap.size, 0, none⟩ = some (.string l[i].name) := by rw [g2.cell (p := ⟨wo.heap.size, 0, none⟩) (by simp)]; simp
                            have NE := Lib.hid hne
                            clear hne
                            by_cases hki : k < i
                            · obtain ⟨_, _, b', o', e2, hb', ⟨m0, _, _, _⟩⟩ := fl_get (H.out.gr (G.trans G2)) (i := k) (by omega)
                              simp only [Option.some.injEq, Addr.mk.injEq, and_true] at e2
                              obtain ⟨rfl, rfl⟩ := e2
                              have q2 : (k : Int) < (i : Int) := by omega
                              have q3 : (k : Int) < (l.length : Int) := by omega
                              obtain ⟨nk, hnk⟩ : ∃ nk, l[k].name = nk := ⟨_, rfl⟩
                              obtain ⟨ni, hni⟩ : ∃ ni, l[i].name = ni := ⟨_, rfl⟩
                              by_cases hs : nk = ni
                              · have er : r = false := by
                                  rw [← HR.out, ST.out, Bool.and_eq_false_iff]
                                  left
                                  rw [Bool.eq_false_iff]
                                  intro hall
                                  exact (all_ne hlt _).1 hall k hki (by rw [hnk, hni, hs])
                                subst er
                                rw [hnk] at m0
                                rw [hni] at F0
                                subst hs
                                clear hnk hni ST HR
                                go_wp2_with fail
                                go_region
                                go_wp2
                                go_ret
                                exact ⟨rfl, (G.trans G2).drew⟩
                              · have qs : (nk.toList == ni.toList) = false := by
                                  rw [beq_eq_false_iff_ne]
                                  intro e
                                  exact hs (ByteArray.ext (Array.toList_inj.1 (by rw [← Lib.toList_data, ← Lib.toList_data, e])))
                                have NX := Lib.hid (show ∀ j (hj : j < l.length), j < k + 1 → ∀ hi : i < l.length, l[j].name ≠ l[i].name from fun j hj hjk hi => by
                                  by_cases e : j = k
                                  · subst e; rw [hnk, hni]; exact hs
                                  · exact NE.out j hj (by omega) hi)
                                rw [hnk] at m0
                                rw [hni] at F0
                                clear hs hnk hni
                                go_wp2_with fail
                                go_region
                                go_wp2
                                go_roundw
                                case rel => exact ⟨k + 1, by omega, by rw [show ((k + 1 : Nat) : Int) = (k : Int) + 1 by omega], NX.out, g2.drew⟩
                                case measure => simp [intOf]; omega
                            · have hke : k = i := by omega
                              have NB := Lib.hid (show newB [] l = newB (l.take (i + 1)) (l.drop (i + 1)) from by
                                rw [ST.out, (all_ne hlt _).2 (fun j hj => NE.out j (by omega) (by omega) hlt), Bool.true_and])
                              have q2 : ¬ (k : Int) < (i : Int) := by omega
                              clear ST hke
                              go_wp2_with fail
                              go_roundw
                              case rel => exact ⟨i + 1, by omega, by rw [show ((i + 1 : Nat) : Int) = (i : Int) + 1 by omega], NB.out, g1.trans G2⟩
                              case measure => simp [intOf]; omega
                        · have d5 : 4611686018427387904 < l[i].count := by omega
                          have er : r = false := by rw [← HR.out, hnb, new_step hlt, flB_eq]; simp [show ¬ l[i].count ≤ 4611686018427387904 by omega]
                          subst er
                          clear hnb HR
                          go_wp2_with fail
                          refine (RC.out _).mono ?_; rintro e u ⟨rfl, rfl⟩
                          go_wp2_with fail
                          go_ret
                          exact ⟨rfl, G.alloc G.size _⟩
                      · have d4 : l[i].count < 0 := by omega
                        have er : r = false := by rw [← HR.out, hnb, new_step hlt, flB_eq]; simp [show ¬ 0 ≤ l[i].count by omega]
                        subst er
                        clear hnb HR
                        go_wp2_with fail
                        refine (RC.out _).mono ?_; rintro e u ⟨rfl, rfl⟩
                        go_wp2_with fail
                        go_ret
                        exact ⟨rfl, G.alloc G.size _⟩
                    · have d3 : 64 < l[i].size := by omega
                      have er : r = false := by rw [← HR.out, hnb, new_step hlt, flB_eq]; simp [show ¬ l[i].size ≤ 64 by omega]
                      subst er
                      clear hnb HR
                      go_wp2_with fail
                      refine (RC.out _).mono ?_; rintro e u ⟨rfl, rfl⟩
                      go_wp2_with fail
                      go_ret
                      exact ⟨rfl, G.alloc G.size _⟩
                  · have d2 : l[i].size < 1 := by omega
                    have er : r = false := by rw [← HR.out, hnb, new_step hlt, flB_eq]; simp [show ¬ 1 ≤ l[i].size by omega]
                    subst er
                    clear hnb HR
                    go_wp2_with fail
                    refine (RC.out _).mono ?_; rintro e u ⟨rfl, rfl⟩
                    go_wp2_with fail
                    go_ret
                    exact ⟨rfl, G.alloc G.size _⟩
              · have hie : i = l.length := by omega
                have er : r = true := by rw [← HR.out, hnb, hie]; exact new_end l
                subst er
                have q1 : ¬ (i : Int) < (l.length : Int) := by omega
                clear hnb HR
                go_wp2_with fail
                go_ret
                exact ⟨rfl, G⟩
          · have er : r = false := by rw [← hr, decide_eq_false (fun k => c5 k.2.2), Bool.false_and]
            have c5I : (16 : Int) < (l.length : Int) := by omega
            subst er
            clear hr
            go_enter Tryz.func108, Tryz.ntmps108
            go_wp2_with fail
            go_ret
            exact ⟨rfl, (Gr.refl _).alloc (Nat.le_refl _) _⟩
        · have er : r = false := by rw [← hr, decide_eq_false (fun k => c4 k.2.1.2), Bool.false_and]
          subst er
          clear hr
          go_enter Tryz.func108, Tryz.ntmps108
          go_wp2_with fail
          go_ret
          exact ⟨rfl, (Gr.refl _).alloc (Nat.le_refl _) _⟩
      · have er : r = false := by rw [← hr, decide_eq_false (fun k => c3 k.2.1.1), Bool.false_and]
        subst er
        clear hr
        go_enter Tryz.func108, Tryz.ntmps108
        go_wp2_with fail
        go_ret
        exact ⟨rfl, (Gr.refl _).alloc (Nat.le_refl _) _⟩
    · have er : r = false := by rw [← hr, decide_eq_false (fun k => c2 k.1.2), Bool.false_and]
      subst er
      clear hr
      go_enter Tryz.func108, Tryz.ntmps108
      go_wp2_with fail
      go_ret
      exact ⟨rfl, (Gr.refl _).alloc (Nat.le_refl _) _⟩
  · have er : r = false := by rw [← hr, decide_eq_false (fun k => c1 k.1.1), Bool.false_and]
    subst er
    clear hr
    go_enter Tryz.func108, Tryz.ntmps108
    go_wp2_with fail
    go_ret
    exact ⟨rfl, (Gr.refl _).alloc (Nat.le_refl _) _⟩
end Go.Proofs.YtignfbdgpgidpaaGreatDoor
/- The document's answers of layer 19: Same. -/
namespace Go.Proofs.YtignfbdgpgidpaaGreatDoor
open Go.RowKit FsPlain MnPlain
set_option linter.unusedVariables false
set_option linter.unusedSimpArgs false
set_option maxRecDepth 20000
namespace MnPlain
end MnPlain
end Go.Proofs.YtignfbdgpgidpaaGreatDoor
/- Contracts of layer octet's functions that make bytes, and of the document's answers to them, each by a walk of its text. -/
namespace Go.Proofs.YtignfbdgpgidpaaGreatDoor
open Go.RowKit OctPlain
set_option linter.unusedVariables false
set_option linter.unusedSimpArgs false
set_option maxRecDepth 20000
set_option maxHeartbeats 1000000 in
theorem full_c (n : Int) (hn : I64 n) (w : World) :
    Calls Tryz.prog 169 #[.int .i64 n] w fun e w' => e = .returned (.agg #[Value.int IntKind.u8 (n / 72057594037927936 % 256), Value.int IntKind.u8 (n / 281474976710656 % 256),
              Value.int IntKind.u8 (n / 1099511627776 % 256), Value.int IntKind.u8 (n / 4294967296 % 256),
              Value.int IntKind.u8 (n / 16777216 % 256), Value.int IntKind.u8 (n / 65536 % 256),
              Value.int IntKind.u8 (n / 256 % 256), Value.int IntKind.u8 (n % 256)]) ∧ Gr w w' := by
  go_enter Tryz.func169, Tryz.ntmps169
  go_wp2_with fail
  go_rounds 9
  refine bodyPost_ret (v := .agg #[Value.int IntKind.u8 (n / 72057594037927936 % 256), Value.int IntKind.u8 (n / 281474976710656 % 256),
              Value.int IntKind.u8 (n / 1099511627776 % 256), Value.int IntKind.u8 (n / 4294967296 % 256),
              Value.int IntKind.u8 (n / 16777216 % 256), Value.int IntKind.u8 (n / 65536 % 256),
              Value.int IntKind.u8 (n / 256 % 256), Value.int IntKind.u8 (n % 256)]) (by simp [results, Tryz.results169, go_sem]) rfl ⟨rfl, Gr.of (by go_grown)⟩
set_option maxHeartbeats 1000000 in
theorem sized_c (k : Int) (hk : I64 k) (w : World) :
    Calls Tryz.prog 176 #[.int .i64 k] w fun e w' => e = .returned (.bool (decide (1 ≤ k ∧ k ≤ 8))) ∧ w = w' := by
  by_cases h1 : 1 ≤ k <;> by_cases h2 : k ≤ 8
  all_goals
    go_enter Tryz.func176, Tryz.ntmps176
    go_wp2
    go_ret
    exact ⟨by simp [h1, h2], rfl⟩
theorem ret_b {a b : Bool} (h : a = b) : Ending.returned (.bool a) = .returned (.bool b) := by rw [h]
theorem b_of {a : Bool} {p : Prop} [Decidable p] (h : a = true ↔ p) : a = decide p := by
  cases a <;> simp_all
set_option maxHeartbeats 1000000 in
theorem fits_c (n k : Int) (hn : I64 n) (hk : I64 k) (w : World) :
    Calls Tryz.prog 168 #[.int .i64 n, .int .i64 k] w fun e w' => e = .returned (.bool (fitsB n k)) ∧ w = w' := by
  unfold I64 at hn hk
  by_cases h : 1 ≤ k ∧ k ≤ 8
  · have hd : decide (1 ≤ k ∧ k ≤ 8) = true := by simpa using h
    have hk8 : k = 1 ∨ k = 2 ∨ k = 3 ∨ k = 4 ∨ k = 5 ∨ k = 6 ∨ k = 7 ∨ k = 8 := by omega
    rcases hk8 with rfl | rfl | rfl | rfl | rfl | rfl | rfl | rfl
    all_goals
      go_enter Tryz.func168, Tryz.ntmps168
      go_wp2_with fail
      refine (sized_c _ hk _).mono ?_
      rintro e u ⟨rfl, rfl⟩
      go_wp2
      go_ret
      refine ⟨ret_b (b_of ?_), rfl⟩
      simp
      omega
  · have hd : decide (1 ≤ k ∧ k ≤ 8) = false := by simpa using h
    have hf : fitsB n k = false := by simp [fitsB, h]
    go_enter Tryz.func168, Tryz.ntmps168
    go_wp2_with fail
    refine (sized_c k hk _).mono ?_
    rintro e u ⟨rfl, rfl⟩
    go_wp2
    go_ret
    exact ⟨ret_b hf.symm, rfl⟩
end Go.Proofs.YtignfbdgpgidpaaGreatDoor
/- Contracts of Put and PutCoord, and of the document's answers to them. -/
namespace Go.Proofs.YtignfbdgpgidpaaGreatDoor
open Go.RowKit OctPlain
set_option linter.unusedVariables false
set_option linter.unusedSimpArgs false
set_option maxRecDepth 20000
theorem conv8 (u : World) (n : Int) (k : Nat) (hn : 0 ≤ n) (hk : 1 ≤ k ∧ k ≤ 8) :
    (convert 94 9 (.slice (some ⟨u.heap.size, 8 - k, none⟩) k k)).run Tryz.prog (u.alloc (.cells #[Value.int IntKind.u8 (n / 72057594037927936 % 256), Value.int IntKind.u8 (n / 281474976710656 % 256),
              Value.int IntKind.u8 (n / 1099511627776 % 256), Value.int IntKind.u8 (n / 4294967296 % 256),
              Value.int IntKind.u8 (n / 16777216 % 256), Value.int IntKind.u8 (n / 65536 % 256),
              Value.int IntKind.u8 (n / 256 % 256), Value.int IntKind.u8 (n % 256)] 202)) = .ok (.string (bs (beL k n.toNat))) (u.alloc (.cells #[Value.int IntKind.u8 (n / 72057594037927936 % 256), Value.int IntKind.u8 (n / 281474976710656 % 256),
              Value.int IntKind.u8 (n / 1099511627776 % 256), Value.int IntKind.u8 (n / 4294967296 % 256),
              Value.int IntKind.u8 (n / 16777216 % 256), Value.int IntKind.u8 (n / 65536 % 256),
              Value.int IntKind.u8 (n / 256 % 256), Value.int IntKind.u8 (n % 256)] 202)) := by
  obtain ⟨m, rfl⟩ : ∃ m : Nat, n = m := ⟨n.toNat, by omega⟩
  refine conv_list _ _ _ _ (beL_length k m) ?_
  intro j x hx
  have hj : j < k := by
    have := (List.getElem?_eq_some_iff.1 hx).1
    rw [beL_length] at this; exact this
  have ea : Addr.add ⟨u.heap.size, 8 - k, none⟩ j = ⟨u.heap.size, 8 - k + j, none⟩ := by simp [Addr.add]
  rw [ea, World.cell?_alloc_mark]
  have hk8 : k = 1 ∨ k = 2 ∨ k = 3 ∨ k = 4 ∨ k = 5 ∨ k = 6 ∨ k = 7 ∨ k = 8 := by omega
  rcases hk8 with rfl | rfl | rfl | rfl | rfl | rfl | rfl | rfl
  all_goals
    have hj8 : j = 0 ∨ j = 1 ∨ j = 2 ∨ j = 3 ∨ j = 4 ∨ j = 5 ∨ j = 6 ∨ j = 7 := by omega
    rcases hj8 with rfl | rfl | rfl | rfl | rfl | rfl | rfl | rfl <;> first | (exfalso; omega) | (simp [beL] at hx; subst hx; simp; done) | (simp [beL] at hx; subst hx; simp; omega)
def b1 (b : UInt8) : ByteArray := bs [b]
theorem conv1 (u : World) (x : Int) (h0 : 0 ≤ x) (h1 : x < 256) :
    (convert 94 9 (.slice (some ⟨u.heap.size, 0, none⟩) 1 1)).run Tryz.prog (u.alloc (.cells #[Value.int IntKind.u8 x] 5)) = .ok (.string (bs [UInt8.ofNat x.toNat])) (u.alloc (.cells #[Value.int IntKind.u8 x] 5)) := by
  refine conv_list _ _ _ _ rfl ?_
  intro j y hy
  obtain rfl : j = 0 := by
    have := (List.getElem?_eq_some_iff.1 hy).1
    simpa using this
  simp at hy
  subst hy
  show World.cell? _ ⟨u.heap.size, 0 + 0, none⟩ = _
  rw [World.cell?_alloc_mark]
  simp
  omega
set_option maxHeartbeats 1000000 in
theorem put_c (n k : Int) (hn : I64 n) (hk : I64 k) (w : World) :
    Calls Tryz.prog 145 #[.int .i64 n, .int .i64 k] w fun e w' => e = .returned (.tuple #[.string (putS n k), .bool (fitsB n k)]) ∧ Gr w w' := by
  cases hf : fitsB n k
  · have hp := put_no hf
    go_enter Tryz.func145, Tryz.ntmps145
    go_wp2_with fail
    refine (fits_c n k hn hk _).mono ?_
    rintro e u ⟨rfl, rfl⟩
    go_wp2
    go_ret2
    exact ⟨ret_sb hp.symm rfl, Gr.refl _⟩
  · have hf' := hf
    simp only [fitsB, decide_eq_true_eq] at hf'
    obtain ⟨hk8, hn0, _⟩ := hf'
    have hp : putS n k = bs (beL k.toNat n.toNat) := by simp [putS, hf]
    have hm : k = 1 ∨ k = 2 ∨ k = 3 ∨ k = 4 ∨ k = 5 ∨ k = 6 ∨ k = 7 ∨ k = 8 := by omega
    rcases hm with rfl | rfl | rfl | rfl | rfl | rfl | rfl | rfl
    case' inl => have hc := fun u => conv8 u n 1 hn0 (by omega)
    case' inr.inl => have hc := fun u => conv8 u n 2 hn0 (by omega)
    case' inr.inr.inl => have hc := fun u => conv8 u n 3 hn0 (by omega)
    case' inr.inr.inr.inl => have hc := fun u => conv8 u n 4 hn0 (by omega)
    case' inr.inr.inr.inr.inl => have hc := fun u => conv8 u n 5 hn0 (by omega)
    case' inr.inr.inr.inr.inr.inl => have hc := fun u => conv8 u n 6 hn0 (by omega)
    case' inr.inr.inr.inr.inr.inr.inl => have hc := fun u => conv8 u n 7 hn0 (by omega)
    case' inr.inr.inr.inr.inr.inr.inr => have hc := fun u => conv8 u n 8 hn0 (by omega)
    all_goals
      go_enter Tryz.func145, Tryz.ntmps145
      go_wp2_with fail
      refine (fits_c n _ hn hk _).mono ?_
      rintro e u ⟨rfl, rfl⟩
      go_wp2_with fail
      refine (full_c n hn _).mono ?_
      rintro e u ⟨rfl, g⟩
      go_wp2
      go_ret2
      exact ⟨ret_sb hp.symm rfl, g.trans (Gr.of (by go_grown))⟩
end Go.Proofs.YtignfbdgpgidpaaGreatDoor

/- The program's Merge and Best of near ones. -/
import Derived.Test.YtllfecgaadfkoaaTkProgG
namespace Go.Proofs.Ytllfecgaadfkoaa
open Go.RowKit TkPlain
set_option linter.unusedVariables false
set_option linter.unusedSimpArgs false
set_option maxRecDepth 20000
theorem put_length (l : List Nr) (k : Int) (x : Nr) : (putL l k x).length ≤ max l.length k.toNat := by
  unfold putL
  split
  · rw [List.length_take]; omega
  · omega
theorem merge_length (k : Int) : ∀ (b a : List Nr), (mergeL a b k).length ≤ max a.length k.toNat
  | [], a => by simp [mergeL]; omega
  | x :: b, a => by
    have h1 := merge_length k b (putL a k x)
    have h2 := put_length a k x
    have : mergeL a (x :: b) k = mergeL (putL a k x) b k := rfl
    rw [this]
    omega
theorem merge_not {k : Int} : ∀ {b a : List Nr}, rightN a k = false → mergeL a b k = a
  | [], a, _ => rfl
  | x :: b, a, h => by
    have : mergeL a (x :: b) k = mergeL (putL a k x) b k := rfl
    rw [this, okPut_no (by unfold okPut; rw [h]; rfl), merge_not h]
theorem best_merge (l : List Nr) (k : Int) : bestL l k = mergeL [] l k := by
  unfold bestL
  by_cases h : kB k = true
  · rw [if_pos h]
  · rw [if_neg h, merge_not]
    unfold rightN
    simp at h
    rw [h]; rfl
theorem put_right {l : List Nr} {k : Int} {x : Nr} (h : rightN l k = true) : rightN (putL l k x) k = true := by
  unfold putL
  split
  · rename_i hok
    unfold okPut at hok
    simp only [Bool.and_eq_true, Bool.not_eq_true'] at hok
    obtain ⟨⟨_, ho⟩, hh⟩ := hok
    obtain ⟨hk, hlen, hall, hrise, hun⟩ := right_iff.1 h
    have hid : ∀ y ∈ l, y.id ≠ x.id := fun y hy e => by
      have := hasN_iff.2 ⟨y, hy, e⟩
      rw [hh] at this; cases this
    refine right_iff.2 ⟨hk, by rw [List.length_take]; omega, fun y hy => ?_, rise_take (ins_rise hrise hid) _, unlike_take ((unlike_perm (ins_perm x l)).2 (List.pairwise_cons.2 ⟨fun y hy e => hid y hy e.symm, hun⟩)) _⟩
    rcases ins_mem.1 (List.mem_of_mem_take hy) with rfl | hy
    · exact ho
    · exact hall y hy
  · exact h
theorem merge_right {k : Int} : ∀ (b : List Nr) {a : List Nr}, rightN a k = true → rightN (mergeL a b k) k = true
  | [], a, h => h
  | x :: b, a, h => by
    have : mergeL a (x :: b) k = mergeL (putL a k x) b k := rfl
    rw [this]
    exact merge_right b (put_right h)
/-- What Merge answers. -/
def MergeGot (l : List Nr) (w : World) (e : Ending) (w' : World) : Prop := ∃ v' n, e = .returned (.tuple #[v', .int .i64 n]) ∧ LiesN w' v' l ∧ Gr w w'
theorem mergeGot {l : List Nr} {w w' : World} {e : Ending} {v' : Value} {n : Int} (h1 : e = .returned (.tuple #[v', .int .i64 n])) (h2 : LiesN w' v' l) (h3 : Gr w w') : MergeGot l w e w' := ⟨v', n, h1, h2, h3⟩
def MgAt (a b : List Nr) (k : Int) (w : World) (lv i : Value) (wr : World) : Prop := ∃ j : Nat, j ≤ b.length ∧ i = .int .i64 (j : Int) ∧ wr.ownsRow w.heap.size 26 3 lv (mergeL a (b.take j) k).length (nrs (mergeL a (b.take j) k)) ∧ Below w.heap.size w wr
set_option maxHeartbeats 4000000 in
theorem merge_got {w : World} {v1 v2 : Value} {a b : List Nr} (h1 : LiesN w v1 a) (h2 : LiesN w v2 b) (hl : a.length ≤ 1000) (hl2 : b.length ≤ 1000) (k : Int) (hk : I64 k) :
    Calls Try.prog 11 #[v1, v2, .int .i64 k] w fun e w' => MergeGot (mergeL a b k) w e w' := by
  have H1 := Lib.hid (fun u (g : Gr w u) => h1.gr g)
  have OW := Lib.hid (own12_c h1 hl)
  obtain ⟨a1, c1, rfl, hc1, _⟩ := h1
  obtain ⟨a2, c2, rfl, hc2, h2⟩ := h2
  have K0 : 1 ≤ b.length → ∃ b2 o2, a2 = some ⟨b2, o2, none⟩ ∧ NrRow w b2 o2 b := fun h1 => h2.elim (fun h0 => by rw [h0] at h1; simp at h1) (fun k => k)
  have K := Lib.hid K0
  have R0 := fun u (g : Gr w u) => tright_c (H1.out u g) hl k hk
  clear K0 h2
  cases r1 : rightN a k
  · simp only [r1] at R0
    have R := Lib.hid R0
    have HM := Lib.hid (merge_not (b := b) r1)
    clear r1 R0
    go_enter Try.func11, Try.ntmps11
    go_wp2_with fail
    refine OW.out.mono ?_; intro e u hg
    obtain ⟨v', rfl, ho, g⟩ := hg
    have HO := Lib.hid ho
    clear ho
    go_wp2_with fail
    refine (R.out _ g).mono ?_; rintro e u2 ⟨rfl, g2⟩
    go_wp2_with fail
    go_ret2
    exact mergeGot rfl (by rw [HM.out]; exact liesN_own (ownsRow_grT HO.out g2)) (g.trans g2)
  · simp only [r1] at R0
    have R := Lib.hid R0
    have hkb := (right_iff.1 r1).1
    have hml : ∀ m, (mergeL a m k).length ≤ 1000 := fun m => by have := merge_length k m a; omega
    have HML := Lib.hid hml
    have HMR := Lib.hid (fun m => merge_right m r1)
    clear r1 R0 hml
    go_enter Try.func11, Try.ntmps11
    go_wp2_with fail
    refine OW.out.mono ?_; intro e u hg
    obtain ⟨v', rfl, ho, g⟩ := hg
    have HO := Lib.hid ho
    clear ho
    go_wp2_with fail
    refine (R.out _ g).mono ?_; rintro e u2 ⟨rfl, g2⟩
    have HO2 := Lib.hid (ownsRow_grT HO.out g2)
    have g3 := g.trans g2
    have hb0 := g3.mono (Nat.le_refl _)
    clear R
    go_wp2_with fail
    go_loopw [8, 10, 20] (fun lv _ i wr => MgAt a b k w lv i wr) (fun _ _ i _ => b.length - (intOf i).toNat)
    case atStart => exact ⟨0, Nat.zero_le _, rfl, HO2.out, hb0⟩
    case round =>
      obtain ⟨j, hj, rfl, hlv, hbel⟩ := hrel
      have hsz := hbel.size
      by_cases hlt : j < b.length
      · obtain ⟨x, hx, hstep, _⟩ := take_onT hlt
        obtain ⟨b2, o2, rfl, hv⟩ := K.out (by omega)
        obtain ⟨d1, d2, d3⟩ := (hv.gr (Gr.of hbel)).2 j x hx
        obtain ⟨Z, hZ⟩ : ∃ Z, wr.alloc (.cells #[.int .i64 x.d, .int .i64 x.id, .bool x.nw] 26) = Z := ⟨_, rfl⟩
        have gZ : Gr wr Z := by rw [← hZ]; exact grT _ _
        have hA : NrAt Z wr.heap.size 0 x := by
          refine ⟨?_, ?_, ?_⟩ <;> (rw [← hZ, World.cell?_alloc_new]; rfl)
        obtain ⟨f1, f2, f3⟩ := hA
        have P0 := take12_c (ownsRow_grT hlv gZ) (Nat.le_trans hsz gZ.size) k (HMR.out (b.take j)) x
        have hmm : putL (mergeL a (b.take j) k) k x = mergeL a (b.take (j + 1)) k := by rw [hstep, merge_snoc]
        rw [hmm] at P0
        have P := Lib.hid P0
        clear hx hstep hv hlv P0 hmm
        go_wp2_with fail
        refine P.out.mono ?_; intro e u2 hg
        obtain ⟨v', b', rfl, h', g'⟩ := hg
        have H' := Lib.hid h'
        clear h'
        go_wp2_with fail
        refine ⟨⟨j + 1, by omega, rfl, H'.out, Below.trans hbel (Below.trans (gZ.mono hsz) g')⟩, ?_⟩
        simp [intOf]; omega
      · obtain rfl : j = b.length := by omega
        rw [List.take_length] at hlv
        obtain ⟨wb, hwb⟩ : ∃ wb : World, wb = wr := ⟨_, rfl⟩
        subst hwb
        have gb := Gr.of hbel
        have HLV := Lib.hid (fun u (g : Gr wb u) => liesN_own (ownsRow_grT hlv g))
        have OT := Lib.hid (others12_c (HLV.out wb (Gr.refl _)) (H1.out wb gb) (HML.out b) hl)
        clear hlv
        go_wp2_with fail
        refine OT.out.mono ?_; intro e u3 hg
        obtain ⟨n, rfl, g4⟩ := hg
        go_wp2_with fail
        go_ret2
        exact mergeGot rfl (HLV.out _ g4) (gb.trans g4)
theorem merge_c {w : World} {v1 v2 : Value} {a b : List Nr} (h1 : LiesN w v1 a) (h2 : LiesN w v2 b) (hl : a.length ≤ 1000) (hl2 : b.length ≤ 1000) (k : Int) (hk : I64 k) :
    Calls Try.prog 11 #[v1, v2, .int .i64 k] w fun e w' => ∃ v' n, e = .returned (.tuple #[v', .int .i64 n]) ∧ LiesN w' v' (mergeL a b k) ∧ Gr w w' := (merge_got h1 h2 hl hl2 k hk).mono (fun e w' h => h)
theorem best_c {w : World} {v : Value} {l : List Nr} (h : LiesN w v l) (hl : l.length ≤ 1000) (k : Int) (hk : I64 k) :
    Calls Try.prog 7 #[v, .int .i64 k] w fun e w' => ∃ v', e = .returned v' ∧ LiesN w' v' (bestL l k) ∧ Gr w w' := by
  have M := merge_got (liesN_nil w) h (by simp) hl k hk
  rw [← best_merge] at M
  have HM := Lib.hid M
  clear M h
  go_enter Try.func7, Try.ntmps7
  go_wp2_with fail
  refine HM.out.mono ?_; intro e u hg
  obtain ⟨v', n, rfl, h', g⟩ := hg
  have H' := Lib.hid h'
  clear h'
  go_wp2_with fail
  go_ret
  exact ⟨_, rfl, H'.out, g⟩
end Go.Proofs.Ytllfecgaadfkoaa

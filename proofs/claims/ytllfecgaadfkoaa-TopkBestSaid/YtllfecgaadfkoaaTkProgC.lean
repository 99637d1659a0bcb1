/- The program's place (sort.Search with a comparison as a function), own and others. -/
import Derived.Test.YtllfecgaadfkoaaTkProgB
import Derived.Test.YtllfecgaadfkoaaTkApp
namespace Go.Proofs.Ytllfecgaadfkoaa
open Go.RowKit TkPlain
set_option linter.unusedVariables false
set_option linter.unusedSimpArgs false
set_option maxRecDepth 20000
def PlAt (n t : Nat) (w : World) (lo hi : Value) (wr : World) : Prop := ∃ a b : Nat, lo = .int .i64 (a : Int) ∧ hi = .int .i64 (b : Int) ∧ a ≤ t ∧ t ≤ b ∧ b ≤ n ∧ Below w.heap.size w wr
set_option maxHeartbeats 1000000 in
theorem search12_c (n t : Nat) (ht : t ≤ n) (hn : n ≤ 1000) (p5 p3 : Value) (w : World) (HC : ∀ u, Gr w u → ∀ i : Nat, i < n → Calls Try.prog 27 #[.int .i64 i, p5, p3] u fun e w' => e = .returned (.bool (decide (t ≤ i))) ∧ Gr u w') :
    Calls Try.prog 26 #[.int .i64 n, .func (.func 27) #[] #[p5, p3]] w fun e w' => e = .returned (.int .i64 t) ∧ Gr w w' := by
  have H := Lib.hid HC
  clear HC
  go_enter Try.func26, Try.ntmps26
  go_wp2_with fail
  go_loopw [5, 6, 7] (fun lo hi _ wr => PlAt n t w lo hi wr) (fun lo hi _ _ => (intOf hi).toNat - (intOf lo).toNat)
  case atStart => exact ⟨0, n, rfl, rfl, Nat.zero_le _, ht, Nat.le_refl _, Below.refl _ _⟩
  case round =>
    obtain ⟨a, b, rfl, rfl, h1, h2, h3, hbel⟩ := hrel
    have hsz := hbel.size
    by_cases hlt : a < b
    · have HM := H.out wr (Gr.of hbel) ((a + b) / 2) (by omega)
      have e1 : (((a + b) / 2 : Nat) : Int) = ((a : Int) + (b : Int)) / 2 := by omega
      rw [e1] at HM
      by_cases hp : t ≤ (a + b) / 2
      · rw [decide_eq_true hp] at HM
        have HH := Lib.hid HM
        clear HM
        go_wp2_with fail
        refine HH.out.mono ?_; rintro e u ⟨rfl, g⟩
        go_wp2_with fail
        refine ⟨⟨a, (a + b) / 2, rfl, by rw [e1], h1, hp, by omega, Below.trans hbel (g.mono hsz)⟩, ?_⟩
        simp [intOf]; omega
      · rw [decide_eq_false hp] at HM
        have HH := Lib.hid HM
        clear HM
        go_wp2_with fail
        refine HH.out.mono ?_; rintro e u ⟨rfl, g⟩
        go_wp2_with fail
        refine ⟨⟨(a + b) / 2 + 1, b, by rw [show (((a + b) / 2 + 1 : Nat) : Int) = ((a : Int) + (b : Int)) / 2 + 1 by omega], rfl, by omega, h2, h3, Below.trans hbel (g.mono hsz)⟩, ?_⟩
        simp [intOf]; omega
    · obtain rfl : a = t := by omega
      go_wp2_with fail
      go_ret
      exact ⟨rfl, Gr.of hbel⟩
set_option maxHeartbeats 1000000 in
theorem place1_c {w : World} (b o n c p2 p3 : Nat) {l : List Nr} (hn : l.length = n) (hv : NrRow w b o l) (x : Nr) (hp3 : p3 < w.heap.size) (hx : NrAt w p3 0 x) (hp2 : w.cell? ⟨p2, 0, none⟩ = some (.slice (some ⟨b, o, none⟩) n c)) (i : Nat) (y : Nr) (hy : l[i]? = some y) (hi : n ≤ 1000) :
    Calls Try.prog 27 #[.int .i64 i, .pointer (some ⟨p2, 0, none⟩), .pointer (some ⟨p3, 0, none⟩)] w fun e w' => e = .returned (.bool (!lessN y x)) ∧ Gr w w' := by
  have hlt := (List.getElem?_eq_some_iff.1 hy).1
  have hA := hv.2 i y hy
  have hp2b := World.block_lt_of_cell? w _ hp2
  have S : ∀ u, Gr w u → Gr w u ∧ (u.cell? ⟨p3, 0, none⟩ = some (.int .i64 x.d) ∧ u.cell? ⟨p3, 0 + 1, none⟩ = some (.int .i64 x.id) ∧ u.cell? ⟨p3, 0 + 2, none⟩ = some (.bool x.nw)) ∧ u.cell? ⟨p2, 0, none⟩ = some (.slice (some ⟨b, o, none⟩) n c) ∧ (u.cell? ⟨b, o + i * 3, none⟩ = some (.int .i64 y.d) ∧ u.cell? ⟨b, o + i * 3 + 1, none⟩ = some (.int .i64 y.id) ∧ u.cell? ⟨b, o + i * 3 + 2, none⟩ = some (.bool y.nw)) := fun u gu => ⟨gu, hx.gr hp3 gu, by rw [Below.cell gu (p := ⟨p2, 0, none⟩) hp2b]; exact hp2, hA.gr hv.1 gu⟩
  have SH := Lib.hid S
  have L0 : ∀ u, Gr w u → Calls Try.prog 25 #[.agg #[.int .i64 y.d, .int .i64 y.id, .bool y.nw], .agg #[.int .i64 x.d, .int .i64 x.id, .bool x.nw]] u fun e w' => e = .returned (.bool (lessN y x)) ∧ Gr w w' := by
    intro u gu
    refine (tless_c y x u).mono ?_
    rintro e w' ⟨rfl, g⟩
    exact ⟨rfl, gu.trans g⟩
  have gd : Gr w w.drew := Below.drew (Gr.refl w)
  have d1 : i < n := by omega
  obtain ⟨q, hq⟩ : ∃ q, lessN y x = q := ⟨_, rfl⟩
  rw [hq] at L0 ⊢
  have L := Lib.hid L0
  clear hv hx hp2 hy hA S L0 hq
  go_enter Try.func27, Try.ntmps27
  go_wp2_with fail
  refine text_region (S := fun u => Gr w u ∧ (u.cell? ⟨p3, 0, none⟩ = some (.int .i64 x.d) ∧ u.cell? ⟨p3, 0 + 1, none⟩ = some (.int .i64 x.id) ∧ u.cell? ⟨p3, 0 + 2, none⟩ = some (.bool x.nw)) ∧ u.cell? ⟨p2, 0, none⟩ = some (.slice (some ⟨b, o, none⟩) n c) ∧ (u.cell? ⟨b, o + i * 3, none⟩ = some (.int .i64 y.d) ∧ u.cell? ⟨b, o + i * 3 + 1, none⟩ = some (.int .i64 y.id) ∧ u.cell? ⟨b, o + i * 3 + 2, none⟩ = some (.bool y.nw))) (by kernel_rfl) (by kernel_rfl) (by kernel_rfl) (SH.out _ gd) ?_
  repeat (first
    | (refine text_skip (by rfl) ?_; (try simp only [Act.put, List.setIfInBounds_toArray, List.set_cons_zero, List.set_cons_succ]))
    | (refine text_val (v := ?_) (by rfl) ?_ ?_; rotate_left 1; (· intro u hu; (try dsimp only at hu); go_simp <;> with_reducible rfl); (try simp only [Act.put, List.setIfInBounds_toArray, List.set_cons_zero, List.set_cons_succ]))
    | (refine text_call (fun u hu => ((L.out u hu.1).mono (fun e w' h => ⟨h.1, SH.out w' h.2⟩))) (by rfl) ?_ ?_; (· intro u; go_simp); (try simp only [Act.put, List.setIfInBounds_toArray, List.set_cons_zero, List.set_cons_succ])))
  refine text_done (fun u hu => ?_)
  have gu := hu.1
  clear hu
  go_wp2_with fail
  go_ret
  exact ⟨rfl, gu⟩
/-- Where one is put. -/
theorem ins_split {x : Nr} : ∀ {l : List Nr}, ∃ t, t ≤ l.length ∧ insN x l = l.take t ++ x :: l.drop t ∧ (∀ (i : Nat) (y : Nr), l[i]? = some y → i < t → lessN y x = true) ∧ (∀ y, l[t]? = some y → lessN y x = false)
  | [] => ⟨0, by simp, by simp [insN], by simp, by simp⟩
  | z :: r => by
    by_cases h : lessN z x = true
    · obtain ⟨t, h1, h2, h3, h4⟩ := ins_split (x := x) (l := r)
      refine ⟨t + 1, by simp; omega, by simp [insN, h, h2], fun i y hy hi => ?_, fun y hy => h4 y (by simpa using hy)⟩
      match i, hy with
      | 0, hy => simp at hy; subst hy; exact h
      | i + 1, hy => exact h3 i y (by simpa using hy) (by omega)
    · exact ⟨0, by simp, by simp [insN, h], by simp, fun y hy => by simp at hy; subst hy; simpa using h⟩
theorem okPut_no {l : List Nr} {k : Int} {x : Nr} (h : okPut l k x = false) : putL l k x = l := by unfold putL; rw [if_neg (by rw [h]; simp)]
structure PutAt (l : List Nr) (k : Int) (x : Nr) (t : Nat) : Prop where
  le : t ≤ l.length
  place : ∀ (i : Nat) (y : Nr), l[i]? = some y → (!lessN y x) = decide (t ≤ i)
  full : (t : Int) = k → putL l k x = l
  put : okPut l k x = true → putL l k x = (l.take t ++ x :: l.drop t).take k.toNat
theorem putAt {l : List Nr} {k : Int} {x : Nr} (hr : rightN l k = true) : ∃ t, PutAt l k x t := by
  obtain ⟨t, h1, h2, h3, h4⟩ := ins_split (x := x) (l := l)
  obtain ⟨hk, hlen, hall, hrise, hun⟩ := right_iff.1 hr
  have hput : okPut l k x = true → putL l k x = (l.take t ++ x :: l.drop t).take k.toNat := fun hok => by unfold putL; rw [if_pos hok, h2]
  refine ⟨t, h1, fun i y hy => ?_, fun e => ?_, hput⟩
  · by_cases hi : i < t
    · rw [decide_eq_false (by omega), h3 i y hy hi]; rfl
    · rw [decide_eq_true (by omega)]
      obtain ⟨hil, rfl⟩ := List.getElem?_eq_some_iff.1 hy
      have htl : t < l.length := by omega
      have hz := h4 l[t] (List.getElem?_eq_getElem htl)
      by_cases hit : i = t
      · subst hit; rw [hz]; rfl
      · cases hq : lessN l[i] x
        · rfl
        · have := less_trans (List.pairwise_iff_getElem.1 hrise t i htl hil (by omega)) hq
          rw [this] at hz; cases hz
  · cases hok : okPut l k x
    · exact okPut_no hok
    · rw [hput hok]
      have : t = l.length := by omega
      subst this
      rw [List.take_length, List.take_append_of_le_length (by omega), List.take_of_length_le (by omega)]
set_option maxHeartbeats 1000000 in
theorem place12_c {w : World} {v : Value} {l : List Nr} (h : LiesN w v l) (hl : l.length ≤ 1000) (k : Int) (x : Nr) (t : Nat) (hp : PutAt l k x t) :
    Calls Try.prog 22 #[v, .agg #[.int .i64 x.d, .int .i64 x.id, .bool x.nw]] w fun e w' => e = .returned (.int .i64 t) ∧ Gr w w' := by
  obtain ⟨a, c, rfl, hc, h⟩ := h
  obtain ⟨W1, hW1⟩ : ∃ W1, W1 = w.alloc (.cells #[.slice a l.length c] 22) := ⟨_, rfl⟩
  obtain ⟨W, hW⟩ : ∃ W, W = W1.alloc (.cells #[.int .i64 x.d, .int .i64 x.id, .bool x.nw] 26) := ⟨_, rfl⟩
  have g1 : Gr w W1 := by rw [hW1]; exact grT _ _
  have g2 : Gr W1 W := by rw [hW]; exact grT _ _
  have gW : Gr w W := g1.trans g2
  have s1 : W1.heap.size = w.heap.size + 1 := by rw [hW1, World.size_alloc]
  have s2 : W.heap.size = w.heap.size + 2 := by rw [hW, World.size_alloc, s1]
  have k3 : W.cell? ⟨w.heap.size, 0, none⟩ = some (.slice a l.length c) := by
    rw [Below.cell g2 (p := ⟨w.heap.size, 0, none⟩) (by rw [s1]; exact Nat.lt_succ_self _), hW1, World.cell?_alloc_new]; rfl
  have k5 : NrAt W (w.heap.size + 1) 0 x := by
    refine ⟨?_, ?_, ?_⟩ <;> (rw [← s1, hW, World.cell?_alloc_new]; rfl)
  have KH := Lib.hid (fun u (g : Gr W u) => (⟨by rw [Below.cell g (p := ⟨w.heap.size, 0, none⟩) (by rw [s2]; show w.heap.size < _; omega)]; exact k3, k5.gr (by rw [s2]; omega) g⟩ : u.cell? ⟨w.heap.size, 0, none⟩ = some (.slice a l.length c) ∧ NrAt u (w.heap.size + 1) 0 x))
  have hWW : (w.alloc (.cells #[.slice a l.length c] 22)).alloc (.cells #[.int .i64 x.d, .int .i64 x.id, .bool x.nw] 26) = W := by rw [hW, hW1]
  have hpl := hp.le
  have PC : ∀ u, Gr W u → ∀ i : Nat, i < l.length → Calls Try.prog 27 #[.int .i64 i, .pointer (some ⟨w.heap.size, 0, none⟩), .pointer (some ⟨w.heap.size + 1, 0, none⟩)] u fun e w' => e = .returned (.bool (decide (t ≤ i))) ∧ Gr u w' := by
    intro u g i hi
    obtain ⟨y, hy, _, _⟩ := take_onT hi
    rcases h with h0 | ⟨b, o, rfl, hr⟩
    · rw [h0] at hi; simp at hi
    · have := place1_c (w := u) b o l.length c w.heap.size (w.heap.size + 1) rfl (hr.gr (gW.trans g)) x (by have := g.size; omega) (KH.out u g).2 (KH.out u g).1 i y hy (by omega)
      rw [hp.place i y hy] at this
      exact this
  have PL := Lib.hid (search12_c l.length t hpl hl (.pointer (some ⟨w.heap.size, 0, none⟩)) (.pointer (some ⟨w.heap.size + 1, 0, none⟩)) W PC)
  obtain ⟨b3, b5, b6, b7⟩ := KH.out W (Gr.refl _)
  clear k3 k5 h hW hW1 g1 g2 s1 s2 PC hp
  go_enter Try.func22, Try.ntmps22
  go_wp2_with fail
  refine PL.out.mono ?_; rintro e u ⟨rfl, g⟩
  go_wp2_with fail
  go_ret
  exact ⟨rfl, gW.trans g⟩
/-- What own answers: a row of its own. -/
def OwnGot (l : List Nr) (w : World) (e : Ending) (w' : World) : Prop := ∃ v', e = .returned v' ∧ w'.ownsRow w.heap.size 26 3 v' l.length (nrs l) ∧ Gr w w'
theorem ownGot {l : List Nr} {w w' : World} {v' : Value} (h : w'.ownsRow w.heap.size 26 3 v' l.length (nrs l)) (g : Gr w w') : OwnGot l w (.returned v') w' := ⟨v', rfl, h, g⟩
theorem own12_c {w : World} {v : Value} {l : List Nr} (h : LiesN w v l) (hl : l.length ≤ 1000) :
    Calls Try.prog 16 #[v] w fun e w' => OwnGot l w e w' := by
  have HL := Lib.hid h
  obtain ⟨a, c, rfl, hc, h⟩ := h
  clear h
  go_enter Try.func16, Try.ntmps16
  go_wp2_with (at_builtin; refine wpList_app_near (xs := []) (ys := l) rfl _ _ w.heap.size rfl rfl (World.ownsRow_nil _ _ _ _) rfl ?l1 ?l2 ?l3 ?_)
  case l1 => exact HL.out
  case l2 => simp; omega
  case l3 => exact Nat.le_refl _
  intro o1 y1 hown1 hgr1 _
  have b1 : Below w.heap.size w y1 := (Below.refl _ _).grown hgr1 (Nat.le_refl _) (fun q hq => by cases hq)
  have hO : y1.ownsRow w.heap.size 26 3 o1 l.length (nrs l) := by simpa using hown1
  have HO := Lib.hid hO
  clear hown1 hO hgr1
  go_wp2_with fail
  go_ret
  exact ownGot HO.out (Gr.of b1)
def MnAt (n : Nat) (w : World) (c i : Value) (wr : World) : Prop := ∃ j m : Nat, j ≤ n ∧ m ≤ j ∧ i = .int .i64 (j : Int) ∧ c = .int .i64 (m : Int) ∧ Below w.heap.size w wr
def OthGot (w : World) (e : Ending) (w' : World) : Prop := ∃ n, e = .returned (.int .i64 n) ∧ Gr w w'
theorem othGot {w w' : World} {n : Int} (g : Gr w w') : OthGot w (.returned (.int .i64 n)) w' := ⟨n, rfl, g⟩
set_option maxHeartbeats 1000000 in
theorem others12_c {w : World} {v1 v2 : Value} {l a : List Nr} (h1 : LiesN w v1 l) (h2 : LiesN w v2 a) (hl : l.length ≤ 1000) (hl2 : a.length ≤ 1000) :
    Calls Try.prog 18 #[v1, v2] w fun e w' => OthGot w e w' := by
  have T := Lib.hid (fun (id : Int) u (g : Gr w u) => thas_c (h2.gr g) hl2 id)
  obtain ⟨a1, c1, rfl, hc1, h1⟩ := h1
  obtain ⟨a2, c2, rfl, hc2, _⟩ := h2
  have K0 : 1 ≤ l.length → ∃ b2 o2, a1 = some ⟨b2, o2, none⟩ ∧ NrRow w b2 o2 l := fun h0 => h1.elim (fun h3 => by rw [h3] at h0; simp at h0) (fun k => k)
  have K := Lib.hid K0
  clear K0 h1
  go_enter Try.func18, Try.ntmps18
  go_wp2_with fail
  go_loopw [5, 7, 10] (fun c _ i wr => MnAt l.length w c i wr) (fun _ _ i _ => l.length - (intOf i).toNat)
  case atStart => exact ⟨0, 0, Nat.zero_le _, Nat.le_refl _, rfl, rfl, Below.refl _ _⟩
  case round =>
    obtain ⟨j, m, hj, hm, rfl, rfl, hb3⟩ := hrel
    have hs3 := hb3.size
    by_cases hlt : j < l.length
    · obtain ⟨x, hx, hstep, _⟩ := take_onT hlt
      obtain ⟨b3, o3, rfl, hv⟩ := K.out (by omega)
      obtain ⟨d1, d2, d3⟩ := (hv.gr (Gr.of hb3)).2 j x hx
      obtain ⟨Z, hZ⟩ : ∃ Z, wr.alloc (.cells #[.int .i64 x.d, .int .i64 x.id, .bool x.nw] 26) = Z := ⟨_, rfl⟩
      have gZ : Gr wr Z := by rw [← hZ]; exact grT _ _
      have hA : NrAt Z wr.heap.size 0 x := by
        refine ⟨?_, ?_, ?_⟩ <;> (rw [← hZ, World.cell?_alloc_new]; rfl)
      obtain ⟨f1, f2, f3⟩ := hA
      have T0 := T.out x.id Z ((Gr.of hb3).trans gZ)
      cases r2 : hasN a x.id
      · rw [r2] at T0
        have TT := Lib.hid T0
        clear hx hstep hv T0 r2
        go_wp2_with fail
        refine TT.out.mono ?_; rintro e u2 ⟨rfl, g'⟩
        go_wp2_with fail
        refine ⟨⟨j + 1, m + 1, by omega, by omega, rfl, rfl, Below.trans hb3 ((gZ.trans g').mono hs3)⟩, ?_⟩
        simp [intOf]; omega
      · rw [r2] at T0
        have TT := Lib.hid T0
        clear hx hstep hv T0 r2
        go_wp2_with fail
        refine TT.out.mono ?_; rintro e u2 ⟨rfl, g'⟩
        go_wp2_with fail
        refine ⟨⟨j + 1, m, by omega, by omega, rfl, rfl, Below.trans hb3 ((gZ.trans g').mono hs3)⟩, ?_⟩
        simp [intOf]; omega
    · obtain rfl : j = l.length := by omega
      go_wp2_with fail
      go_ret
      exact othGot (Gr.of hb3)
end Go.Proofs.Ytllfecgaadfkoaa

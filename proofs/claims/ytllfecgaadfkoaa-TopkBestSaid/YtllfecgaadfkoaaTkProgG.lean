/- The program's take: one near one put into a right list, in the list's own memory. -/
import Derived.Test.YtllfecgaadfkoaaTkProgF
namespace Go.Proofs.Ytllfecgaadfkoaa
open Go.RowKit TkPlain
set_option linter.unusedVariables false
set_option linter.unusedSimpArgs false
set_option maxRecDepth 20000
/-- What take answers. -/
def TakeGot (B : Nat) (l : List Nr) (w : World) (e : Ending) (w' : World) : Prop := ∃ v' b, e = .returned (.tuple #[v', .bool b]) ∧ w'.ownsRow B 26 3 v' l.length (nrs l) ∧ Below B w w'
theorem takeGot {B : Nat} {l : List Nr} {w w' : World} {e : Ending} {v' : Value} {b : Bool} (h1 : e = .returned (.tuple #[v', .bool b])) (h2 : w'.ownsRow B 26 3 v' l.length (nrs l)) (h3 : Below B w w') : TakeGot B l w e w' := ⟨v', b, h1, h2, h3⟩
theorem own_first {w : World} {B : Nat} {a : Option Addr} {n c : Nat} {l : List Nr} (h : w.ownsRow B 26 3 (.slice a n c) n (nrs l)) (hl : l.length = n) (m : Nat) (hm : m ≤ n) : w.ownsRow B 26 3 (.slice a m c) (l.take m).length (nrs (l.take m)) := by
  have hlm : (l.take m).length = m := by rw [List.length_take]; omega
  obtain ⟨h1, q⟩ := h
  refine ⟨nrs_length _, ?_⟩
  rw [hlm]
  rcases q with ⟨e, z⟩ | ⟨g, cap, cur, e, hB, hg, hn, hcm, hcs, hcl⟩
  · cases e
    exact .inl ⟨by rw [show m = 0 by omega], by omega⟩
  · cases e
    exact .inr ⟨g, c, cur, rfl, hB, hg, by omega, hcm, hcs, by rw [← nrs_takeN l m (by omega), ← hcl, List.take_take, Nat.min_eq_left (by omega)]⟩
theorem put_take {l : List Nr} {t K m : Nat} {x : Nr} (hk : 1 ≤ K) (htl : t ≤ l.length) (hlk : l.length ≤ K) (htk : t < K) (hm : m = min l.length (K - 1)) : (l.take m).take t ++ x :: (l.take m).drop t = (l.take t ++ x :: l.drop t).take K := by
  have htm : t ≤ m := by omega
  rw [List.take_append, List.length_take, Nat.min_eq_left htl, List.take_take, Nat.min_eq_left htm, List.take_of_length_le (show (l.take t).length ≤ K by rw [List.length_take]; omega)]
  obtain ⟨q, hq⟩ : ∃ q, K - t = q + 1 := ⟨K - t - 1, by omega⟩
  rw [hq, List.take_succ_cons, List.drop_take]
  by_cases h : l.length ≤ K - 1
  · rw [show (l.drop t).take (m - t) = l.drop t from List.take_of_length_le (by rw [List.length_drop]; omega), show (l.drop t).take q = l.drop t from List.take_of_length_le (by rw [List.length_drop]; omega)]
  · rw [show m - t = q by omega]
set_option maxHeartbeats 4000000 in
theorem take12_c {w : World} {v : Value} {l : List Nr} {B : Nat} (hown : w.ownsRow B 26 3 v l.length (nrs l)) (hB : B ≤ w.heap.size) (k : Int) (hr : rightN l k = true) (x : Nr) :
    Calls Try.prog 17 #[v, .int .i64 k, .agg #[.int .i64 x.d, .int .i64 x.id, .bool x.nw]] w fun e w' => TakeGot B (putL l k x) w e w' := by
  obtain ⟨hkb, hlk, _⟩ := right_iff.1 hr
  obtain ⟨K, rfl⟩ : ∃ K : Nat, k = (K : Int) := ⟨k.toNat, by omega⟩
  have hl : l.length ≤ 1000 := by omega
  obtain ⟨t, hp⟩ := putAt (x := x) hr
  obtain ⟨Z, hZ⟩ : ∃ Z, Z = w.alloc (.cells #[.int .i64 x.d, .int .i64 x.id, .bool x.nw] 26) := ⟨_, rfl⟩
  have gZ : Gr w Z := by rw [hZ]; exact grT _ _
  have sZ : Z.heap.size = w.heap.size + 1 := by rw [hZ, World.size_alloc]
  have kZ : NrAt Z w.heap.size 0 x := by
    refine ⟨?_, ?_, ?_⟩ <;> (rw [hZ, World.cell?_alloc_new]; rfl)
  have KH := Lib.hid (fun u (g : Gr Z u) => (kZ.gr (by rw [sZ]; omega) g : NrAt u w.heap.size 0 x))
  have HO := Lib.hid (fun u (g : Gr Z u) => ownsRow_grT hown (gZ.trans g))
  have HB := Lib.hid (fun u (g : Gr Z u) => ((gZ.trans g).mono hB : Below B w u))
  obtain ⟨a, c, rfl, hc⟩ : ∃ a c, v = .slice a l.length c ∧ l.length ≤ c := by
    obtain ⟨_, p⟩ := hown
    rcases p with ⟨rfl, z⟩ | ⟨g, cap, cur, rfl, _, _, hn, _⟩
    · exact ⟨none, 0, by rw [z], by omega⟩
    · exact ⟨_, cap, rfl, hn⟩
  have P := Lib.hid (fun u (g : Gr Z u) => place12_c (liesN_own (HO.out u g)) hl K x t hp)
  have O0 := fun u => tnear_c x u
  unfold nrV at O0
  have N0 := fun u (g : Gr Z u) => thas_c (liesN_own (HO.out u g)) hl x.id
  have hpl := hp.le
  obtain ⟨b1, b2, b3⟩ := KH.out Z (Gr.refl _)
  have hZ' : w.alloc (.cells #[.int .i64 x.d, .int .i64 x.id, .bool x.nw] 26) = Z := hZ.symm
  by_cases htk : t = K
  · have e1 : ((t : Int) == (K : Int)) = true := by simp [htk]
    have HP := Lib.hid (hp.full (by rw [htk]))
    clear hown hp O0 N0 kZ hr hZ htk
    go_enter Try.func17, Try.ntmps17
    go_wp2_with fail
    refine (P.out _ (Gr.refl _)).mono ?_; rintro e u ⟨rfl, g⟩
    obtain ⟨c1, c2, c3⟩ := KH.out u g
    go_wp2_with fail
    go_ret2
    exact takeGot rfl (by rw [HP.out]; exact HO.out u g) (HB.out u g)
  · have e1 : ((t : Int) == (K : Int)) = false := beq_eq_false_iff_ne.2 (by omega)
    cases r2 : oneN x
    · simp only [r2] at O0
      have O := Lib.hid O0
      have HP := Lib.hid (okPut_no (l := l) (k := K) (x := x) (by unfold okPut; rw [r2]; simp))
      clear hown hp O0 N0 kZ hr hZ r2
      go_enter Try.func17, Try.ntmps17
      go_wp2_with fail
      refine (P.out _ (Gr.refl _)).mono ?_; rintro e u ⟨rfl, g⟩
      obtain ⟨c1, c2, c3⟩ := KH.out u g
      go_wp2_with fail
      refine (O.out _).mono ?_; rintro e u2 ⟨rfl, g2⟩
      have g2 := g.trans g2
      obtain ⟨d1, d2, d3⟩ := KH.out u2 g2
      go_wp2_with fail
      go_ret2
      exact takeGot rfl (by rw [HP.out]; exact HO.out _ g2) (HB.out _ g2)
    · simp only [r2] at O0
      have O := Lib.hid O0
      cases r3 : hasN l x.id
      · simp only [r3] at N0
        have N := Lib.hid N0
        have HP := Lib.hid (hp.put (by unfold okPut; rw [hr, r2, r3]; rfl))
        obtain ⟨m, hm⟩ : ∃ m, m = min l.length (K - 1) := ⟨_, rfl⟩
        have hml : m ≤ l.length := by omega
        have htm : t ≤ m := by omega
        have HPT := Lib.hid (put_take (x := x) (by omega) hpl (by omega) (by omega) hm)
        have f1 := cut_to a l.length c m (by omega) (by omega) (m : Int) rfl
        have hmin : min (l.length : Int) ((K : Int) - 1) = (m : Int) := by omega
        have hlm : (l.take m).length ≤ 1000 := by rw [List.length_take]; omega
        have I := Lib.hid (fun u (g : Gr Z u) (p : Nat) (hp : u.heap[p]? = some (.cells #[.int .i64 x.d, .int .i64 x.id, .bool x.nw] 26 (0, 0))) (hne : (Value.slice a m c).ownBlock ≠ some p) => insert12_c (own_first (HO.out u g) rfl m hml) (Nat.le_trans hB (gZ.trans g).size) hlm t (by rw [List.length_take]; omega) x p hp hne)
        have HM := Lib.hid hm
        clear hown hp O0 N0 kZ hr hZ r2 r3 hm
        go_enter Try.func17, Try.ntmps17
        go_wp2_with fail
        refine (P.out _ (Gr.refl _)).mono ?_; rintro e u ⟨rfl, g⟩
        obtain ⟨c1, c2, c3⟩ := KH.out u g
        go_wp2_with fail
        refine (O.out _).mono ?_; rintro e u2 ⟨rfl, g2⟩
        have g2 := g.trans g2
        obtain ⟨d1, d2, d3⟩ := KH.out u2 g2
        go_wp2_with fail
        refine (N.out _ g2).mono ?_; rintro e u3 ⟨rfl, g3⟩
        have g3 := g2.trans g3
        obtain ⟨x1, x2, x3⟩ := KH.out u3 g3
        go_wp2_with fail
        have SH := Lib.hid (fun u (g : Gr Z u) => (⟨g, KH.out u g⟩ : Gr Z u ∧ NrAt u w.heap.size 0 x))
        have mixed : Try.prog.follows Departure.mixedOrders = true := by kernel_rfl
        have g5 : Gr Z (u3.alloc (.cells #[.int .i64 x.d, .int .i64 x.id, .bool x.nw] 26)).drew := g3.trans (Below.drew (grT _ _))
        have I5 := Lib.hid (I.out _ g5 u3.heap.size (by
          show (u3.alloc _).heap[u3.heap.size]? = _
          rw [World.alloc]; exact Array.getElem?_push_size) (by
          intro e
          have := ((own_first (HO.out u3 g3) rfl m hml).lt u3.heap.size e).2
          omega))
        go_region_law_o (go_simp; go_at_call 24; (with_reducible refine (I5.out).mono ?_); intro e y hg; obtain ⟨v', rfl, ho, hb⟩ := hg)
        have HO2 := Lib.hid ho
        clear ho
        go_wp2_with fail
        go_ret2
        refine takeGot rfl ?_ (Below.trans (HB.out _ g5) hb)
        rw [HP.out, Int.toNat_natCast, ← HPT.out]
        exact HO2.out
      · simp only [r3] at N0
        have N := Lib.hid N0
        have HP := Lib.hid (okPut_no (l := l) (k := K) (x := x) (by unfold okPut; rw [r3]; simp))
        clear hown hp O0 N0 kZ hr hZ r2 r3
        go_enter Try.func17, Try.ntmps17
        go_wp2_with fail
        refine (P.out _ (Gr.refl _)).mono ?_; rintro e u ⟨rfl, g⟩
        obtain ⟨c1, c2, c3⟩ := KH.out u g
        go_wp2_with fail
        refine (O.out _).mono ?_; rintro e u2 ⟨rfl, g2⟩
        have g2 := g.trans g2
        obtain ⟨d1, d2, d3⟩ := KH.out u2 g2
        go_wp2_with fail
        refine (N.out _ g2).mono ?_; rintro e u3 ⟨rfl, g3⟩
        have g3 := g2.trans g3
        go_wp2_with fail
        go_ret2
        exact takeGot rfl (by rw [HP.out]; exact HO.out _ g3) (HB.out _ g3)
end Go.Proofs.Ytllfecgaadfkoaa

/- In one text: VcClone, VcIdx. -/
import Derived.Test.YtibajmjplpnbmaaP30
import Derived.Lib.SliceRun
import Derived.Test.YtibajmjplpnbmaaP20
/- slices.Clone of numbers: a new row of them. -/
namespace Go.Proofs.Ytibajmjplpnbmaa
open Go.RowKit FsPlain OctPlain DsPlain
set_option linter.unusedVariables false
set_option linter.unusedSimpArgs false
set_option maxRecDepth 20000
set_option maxHeartbeats 1000000 in
theorem cloneI_c {w : World} {v : Value} {l : List Int} (h : LiesI w v l) (hl : l.length ≤ 1000000) :
    Calls Try.prog 41 #[v] w fun e w' => ∃ v', e = .returned v' ∧ w'.ownsRow w.heap.size 3 1 v' l.length (ints l) ∧ Gr w w' := by
  obtain ⟨i0, hi, hz0, hz1, hz2⟩ := info_partsV infoI
  have q := fun (w : World) (a : Option Addr) (n c n' c' : Nat) => Lib.run_eql_slice_nil (P := Try.prog) w 41 3 a n c n' c' Try.underlying41
  obtain ⟨a, c, rfl, hc, h⟩ := h
  cases a with
  | none =>
    have hl0 : l = [] := h.elim id (fun ⟨b, o, e, _⟩ => by cases e)
    subst hl0
    go_enter Try.func41, Try.ntmps41
    go_wp2_with fail
    go_ret
    exact ⟨_, rfl, World.ownsRow_nil _ _ _ _, Gr.refl _⟩
  | some ad =>
    obtain ⟨W, hW⟩ : ∃ W, W = w.alloc (.cells #[] 3) := ⟨_, rfl⟩
    have gW : Gr w W := by rw [hW]; exact Below.alloc (Below.refl _ _) (Nat.le_refl _) _
    have ho : W.ownsRow w.heap.size 3 1 (.slice (some ⟨w.heap.size, 0, none⟩) 0 0) 0 [] := by rw [hW]; exact World.ownsRow_lit w #[] 0 (Nat.le_refl _) (Nat.zero_le _) rfl
    have hcell : ∀ j u, (ints l)[j]? = some u → W.cell? (ad.add j) = some u := fun j u hj => by
      rcases h with rfl | ⟨b, o, e, hr⟩
      · simp [ints] at hj
      · cases e
        rw [Addr.add_lit]
        exact (hr.gr gW).2 j u hj
    have hone : ∀ u ∈ ints l, u.oneCell' = true := fun u hu => by
      obtain ⟨x, _, rfl⟩ := List.mem_map.1 hu; rfl
    have hlen : (ints l).length = l.length * 1 := by simp [ints]
    have hWe : w.alloc (.cells #[] 3) = W := hW.symm
    obtain ⟨n, hn⟩ : ∃ n, n = l.length := ⟨_, rfl⟩
    rw [← hn] at hl hlen hc ⊢
    have HC := Lib.hid hcell
    have HO := Lib.hid hone
    have HL := Lib.hid hlen
    have OW := Lib.hid ho
    have GW := Lib.hid gW
    have hbs := gW.size
    clear h hcell hone hlen ho gW hW hn
    go_enter Try.func41, Try.ntmps41
    go_wp2_with (first
      | (at_builtin; refine wpList_append_own_at _ rfl _ _ 41 rfl w.heap.size 3 i0 (.int .i64 0) 1 8 Try.underlying41 hi hz0 hz1 hz2 rfl (by decide) _ 0 [] rfl OW.out ad n c (ints l) rfl ?c0 ?c1 ?c2 ?c3 ?c4 ?c5 ?_)
      | go_in)
    case c0 => exact HL.out
    case c1 => exact HC.out
    case c2 => exact HO.out
    case c3 => unfold maxLen; omega
    case c4 => omega
    case c5 => exact hbs
    intro v' w2 hown2 hgrow2 _ hat2
    have HX := Lib.hid hown2
    have HG := Lib.hid hgrow2
    clear hown2 hgrow2 hat2
    go_wp2_with fail
    go_ret
    refine ⟨_, rfl, HX.out, Below.grown GW.out HG.out hbs fun k hk => ?_⟩
    cases hk; exact Nat.le_refl _
end Go.Proofs.Ytibajmjplpnbmaa
/- Where the vector of an id is among those that are kept: slices.IndexFunc with the program's own test. -/
namespace Go.Proofs.Ytibajmjplpnbmaa
open Go.RowKit FsPlain
set_option linter.unusedVariables false
set_option linter.unusedSimpArgs false
set_option maxRecDepth 20000
theorem vtest_c (x : Kp) (i : Int) (D : Nat) (w : World) (hD : w.cell? ⟨D, 0, none⟩ = some (.int .i64 i)) :
    Calls Try.prog 38 #[.agg #[.int .i64 x.id, x.v], .pointer (some ⟨D, 0, none⟩)] w fun e w' => e = .returned (.bool (decide (x.id = i))) ∧ Gr w w' := by
  obtain ⟨id, ad, cap, l⟩ := x
  unfold Kp.v
  dsimp only
  have hb := World.block_lt_of_cell? w _ hD
  have g : Gr w (w.alloc (.cells #[.int .i64 id, .slice ad l.length cap] 79)) := Below.alloc (Below.refl _ _) (Nat.le_refl _) _
  have e1 : (id == i) = decide (id = i) := rfl
  obtain ⟨b, hbq⟩ : ∃ b, b = decide (id = i) := ⟨_, rfl⟩
  rw [← hbq] at e1 ⊢
  have HG := Lib.hid g
  clear g hbq
  go_enter Try.func38, Try.ntmps38
  go_wp2_with fail
  go_ret
  exact ⟨rfl, HG.out⟩
/-- Where it is, or -1. -/
def posK (K : List Kp) (i : Int) : Int := match K.findIdx? (fun x => decide (x.id = i)) with
  | some a => (a : Nat)
  | none => -1
theorem pos_no {K : List Kp} {i : Int} (h : ∀ x ∈ K, x.id ≠ i) : posK K i = -1 := by
  have : K.findIdx? (fun x => decide (x.id = i)) = none := List.findIdx?_eq_none_iff.2 fun x hx => by simpa using h x hx
  unfold posK; rw [this]
theorem pos_at {K : List Kp} {i : Int} {a : Nat} {x : Kp} (hx : K[a]? = some x) (hi : x.id = i) (h : ∀ y ∈ K.take a, y.id ≠ i) : posK K i = a := by
  have hlt := (List.getElem?_eq_some_iff.1 hx).1
  have : K.findIdx? (fun x => decide (x.id = i)) = some a := by
    rw [List.findIdx?_eq_some_iff_getElem]
    refine ⟨hlt, ?_, fun j hj => ?_⟩
    · rw [List.getElem?_eq_getElem hlt] at hx
      cases hx; simpa using hi
    · have := h (K[j]) (List.mem_take_iff_getElem.2 ⟨j, by omega, rfl⟩)
      simpa using this
  unfold posK; rw [this]
theorem pos_case (K : List Kp) (i : Int) : (posK K i = -1 ∧ ∀ x ∈ K, x.id ≠ i) ∨ ∃ a x, posK K i = (a : Nat) ∧ K[a]? = some x ∧ x.id = i := by
  unfold posK
  cases h : K.findIdx? (fun x => decide (x.id = i)) with
  | none => exact .inl ⟨rfl, fun x hx => by simpa using List.findIdx?_eq_none_iff.1 h x hx⟩
  | some a =>
    rw [List.findIdx?_eq_some_iff_getElem] at h
    obtain ⟨hlt, h1, _⟩ := h
    exact .inr ⟨a, K[a], rfl, List.getElem?_eq_getElem hlt, by simpa using h1⟩
def IdxAt (K : List Kp) (i : Int) (w : World) (j : Value) (wr : World) : Prop := ∃ a : Nat, a ≤ K.length ∧ j = .int .i64 (a : Int) ∧ (∀ x ∈ K.take a, x.id ≠ i) ∧ Gr w wr
set_option maxHeartbeats 1000000 in
theorem vidx_c {w : World} {v : Value} {K : List Kp} (h : OwnK w v K) (hl : K.length ≤ 2000000) (i : Int) (D : Nat) (hD : w.cell? ⟨D, 0, none⟩ = some (.int .i64 i)) :
    Calls Try.prog 37 #[v, .func (.func 38) #[] #[.pointer (some ⟨D, 0, none⟩)]] w fun e w' => e = .returned (.int .i64 (posK K i)) ∧ Gr w w' := by
  have hDb := World.block_lt_of_cell? w _ hD
  have HD := Lib.hid (fun u (g : Gr w u) => ((Below.cell g (p := ⟨D, 0, none⟩) hDb).trans hD))
  have HO := Lib.hid (fun u (g : Gr w u) => ownK_gr h g)
  obtain ⟨ad, c, rfl, hc, hg⟩ := ownK_shape h
  have HG := Lib.hid hg
  clear hg h hD
  go_enter Try.func37, Try.ntmps37
  go_wp2_with fail
  go_loopw [8] (fun j wr => IdxAt K i w j wr) (fun j _ => K.length - (intOf j).toNat)
  case atStart => exact ⟨0, Nat.zero_le _, rfl, by simp, Gr.refl _⟩
  case round =>
    obtain ⟨a, ha, rfl, hall, hgr⟩ := hrel
    by_cases hlt : a < K.length
    · obtain ⟨g, rfl, hgb⟩ := HG.out (by omega)
      obtain ⟨x, hx⟩ : ∃ x, K[a]? = some x := ⟨_, List.getElem?_eq_getElem hlt⟩
      obtain ⟨x1, x2⟩ := ownK_cells (HO.out _ hgr) hx
      have T := fun u (g : Gr w u) => vtest_c x i D u (HD.out u g)
      by_cases he : x.id = i
      · rw [decide_eq_true he] at T
        have TH := Lib.hid T
        have HP := Lib.hid (pos_at hx he hall)
        unfold Kp.v at x2 TH
        have t1 : (a : Int) < (K.length : Int) := by omega
        clear hx hall he T
        go_wp2_with fail
        refine (TH.out _ hgr).mono ?_; rintro e u ⟨rfl, g2⟩
        have g3 := hgr.trans g2
        have HG3 := Lib.hid g3
        clear g3 g2 hgr
        go_wp2_with fail
        go_ret
        exact ⟨ret_i HP.out.symm, HG3.out⟩
      · rw [decide_eq_false he] at T
        have TH := Lib.hid T
        have hstep : ∀ y ∈ K.take (a + 1), y.id ≠ i := by
          intro y hy
          rw [List.take_succ_eq_append_getElem hlt] at hy
          rcases List.mem_append.1 hy with hy | hy
          · exact hall y hy
          · rw [List.getElem?_eq_getElem hlt] at hx
            cases hx
            obtain rfl : y = K[a] := by simpa using hy
            exact he
        have HS := Lib.hid hstep
        unfold Kp.v at x2 TH
        have t1 : (a : Int) < (K.length : Int) := by omega
        clear hx hall he T hstep
        go_wp2_with fail
        refine (TH.out _ hgr).mono ?_; rintro e u ⟨rfl, g2⟩
        have g3 := hgr.trans g2
        have HG3 := Lib.hid g3
        clear g3 g2 hgr
        go_wp2_with fail
        refine ⟨⟨a + 1, by omega, rfl, HS.out, HG3.out⟩, ?_⟩
        simp [intOf]; omega
    · obtain rfl : a = K.length := by omega
      rw [List.take_length] at hall
      have HP := Lib.hid (pos_no hall)
      have HGR := Lib.hid hgr
      clear hall hgr
      go_wp2_with fail
      go_ret
      exact ⟨ret_i HP.out.symm, HGR.out⟩
end Go.Proofs.Ytibajmjplpnbmaa

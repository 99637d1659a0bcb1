/- In one text: RnRef2. -/
import Derived.Test.YtdlomcgkpiejgaaGreatDoorP23
/- The document's texts in order: insert, Sorted. -/
namespace Go.Proofs.YtdlomcgkpiejgaaGreatDoor
open Go.RowKit RnPlain
set_option linter.unusedVariables false
set_option linter.unusedSimpArgs false
set_option maxRecDepth 20000
/-- What a call hands out that makes a slice of strings. -/
structure GotS (w : World) (l : List ByteArray) (e : Ending) (w' : World) : Prop where
  got : ∃ v, e = .returned v ∧ w'.ownsRow w.heap.size 9 1 v l.length (strs l)
  gr : Gr w w'
theorem own_gr16 {base : Nat} {w w' : World} {v : Value} {n : Nat} {xs : List Value} (h : w.ownsRow base 9 1 v n xs) (g : Gr w w') : w'.ownsRow base 9 1 v n xs := h.kept (⟨g.1, g.2, g.3, g.size, fun k hk _ => g.block k hk⟩ : w.grownBy w' none) (by cases hv : v.ownBlock <;> simp)
def InsAt (l : List ByteArray) (s : ByteArray) (w : World) (v i : Value) (wr : World) : Prop :=
  ∃ j : Nat, j ≤ l.length ∧ i = .int .i64 (j : Int) ∧ (∀ y ∈ l.take j, leT y s = true) ∧ wr.ownsRow w.heap.size 9 1 v j (strs (l.take j)) ∧ Below w.heap.size w wr
set_option maxHeartbeats 4000000 in
theorem rinsert_c {w : World} {v : Value} {l : List ByteArray} (h : Lies w v l) (hl : l.length ≤ 10000) (s : ByteArray) :
    Calls Tryz.prog 69 #[v, .string s] w (GotS w (insT l s)) := by
  obtain ⟨i0, hi, hz0, hz1, hz2⟩ := info_parts infoSs
  have HL := Lib.hid (fun u (g : Gr w u) => h.gr g)
  obtain ⟨a, c, rfl, hc, h⟩ := h
  obtain ⟨n, hn⟩ : ∃ n, l.length = n := ⟨_, rfl⟩
  have HN := Lib.hid hn
  have H := Lib.hid (show 1 ≤ n → ∃ b o, a = some ⟨b, o, none⟩ ∧ SRow w b o l from fun h1 => h.elim (fun h0 => by rw [h0] at hn; simp at hn; omega) id)
  rw [hn] at hl hc HL ⊢
  clear h hn
  go_enter Tryz.func69, Tryz.ntmps69
  go_wp2_with fail
  go_loopw [5, 6] (fun v i wr => InsAt l s w v i wr) (fun _ i _ => n - (intOf i).toNat)
  case atStart => exact ⟨0, Nat.zero_le _, rfl, by simp, World.ownsRow_nil _ _ _ _, Below.refl _ _⟩
  case round =>
    obtain ⟨j, hj, rfl, hall, hown, hbel⟩ := hrel
    have hjn := HN.out
    rw [hjn] at hj
    have hws := hbel.size
    have fin : (∀ x, l[j]? = some x → leT x s = false) → insT l s = l.take j ++ s :: l.drop j := fun hh => tw_end hall hh
    by_cases hlt : j < n
    · obtain ⟨x, hx, hstep, hmem⟩ := take_on16 (l := l) (j := j) (by omega)
      obtain ⟨b, o, rfl, hr⟩ := H.out (by omega)
      have hcx : wr.cell? ⟨b, o + j, none⟩ = some (.string x) := by rw [hbel.cell hr.1]; exact hr.2 j x hx
      by_cases hxs : x = s
      · subst hxs
        have hle : leT x x = true := by unfold leT; simp
        have NX := Lib.hid (tw_step hall hx hle)
        have HST := Lib.hid hstep
        have OW := Lib.hid hown
        have HB := Lib.hid hbel
        clear hall hx hstep hmem hown hr fin hle
        go_wp2_with (first
          | (at_builtin; refine wpList_append_own_at _ rfl _ _ 22 rfl w.heap.size 9 i0 (.string ⟨#[]⟩) 1 16 Tryz.underlying22 hi hz0 hz1 hz2 rfl (by decide) _ j (strs (l.take j)) rfl (OW.out.alloc _) ⟨wr.heap.size, 0, none⟩ 1 1 [.string x] rfl rfl (cell_one_new _ _ _) (by simp [Value.oneCell']) (by unfold maxLen; omega) (by omega) (by simp; omega) ?_)
          | go_in)
        intro v' w1 hown1 hgrow1 _ _
        have hb1 : Below w.heap.size w w1 := (HB.out.alloc hws _).grown hgrow1 (by simp; omega) (fun q hq => (OW.out.lt q hq).1)
        have OW1 := Lib.hid (show w1.ownsRow w.heap.size 9 1 v' (j + 1) (strs (l.take (j + 1))) by rw [HST.out, strs_app]; exact hown1)
        clear hown1 hgrow1
        go_wp2_with fail
        refine ⟨⟨j + 1, by omega, rfl, NX.out, OW1.out, hb1⟩, ?_⟩
        simp [intOf]; omega
      · have t2 : (x.toList == s.toList) = false := by
          rw [beq_eq_false_iff_ne]
          intro e
          rw [Lib.toList_data, Lib.toList_data] at e
          exact hxs (ByteArray.ext (Array.toList_inj.1 e))
        have hlt2 : leT x s = Op.bytesLess x.toList s.toList := by unfold leT ltT; rw [t2, Bool.or_false]
        cases hle : Op.bytesLess x.toList s.toList
        · rw [hle] at hlt2
          have FIN := Lib.hid (fin (fun y hy => by rw [hx] at hy; cases hy; exact hlt2))
          clear hx hstep hmem hr hxs
          have OW := Lib.hid hown
          have HB := Lib.hid hbel
          have SL := last_anyS (some ⟨b, o, none⟩) n c j (by omega) hc
          obtain ⟨vs, hvs⟩ : ∃ vs, Value.slice (if c = j then (some (⟨b, o, none⟩ : Addr)) else (some (⟨b, o, none⟩ : Addr)).map (fun x => x.add j)) (n - j) (c - j) = vs := ⟨_, rfl⟩
          rw [hvs] at SL
          have HVS := Lib.hid hvs
          clear hall hown fin hlt2 hvs
          go_wp2_with (first
            | (at_builtin; refine wpList_append_own_at _ rfl _ _ 22 rfl w.heap.size 9 i0 (.string ⟨#[]⟩) 1 16 Tryz.underlying22 hi hz0 hz1 hz2 rfl (by decide) _ j (strs (l.take j)) rfl (OW.out.alloc _) ⟨wr.heap.size, 0, none⟩ 1 1 [.string s] rfl rfl (cell_one_new _ _ _) (by simp [Value.oneCell']) (by unfold maxLen; omega) (by omega) (by simp; omega) ?_)
            | go_in)
          intro v' w1 hown1 hgrow1 _ _
          have hb1 : Below w.heap.size w w1 := (HB.out.alloc hws _).grown hgrow1 (by simp; omega) (fun q hq => (OW.out.lt q hq).1)
          have hx1 := (show w1.ownsRow w.heap.size 9 1 v' (l.take j ++ [s]).length (strs (l.take j ++ [s])) by rw [strs_app, List.length_append, List.length_take, Nat.min_eq_left (by omega)]; exact hown1)
          have OW1 := Lib.hid hx1
          have HR1 := Lib.hid (by have hh := lies_lastS (HL.out w1 hb1) j (by omega); rw [HVS.out] at hh; exact hh)
          clear hown1 hgrow1 hx1
          go_wp2_with (first
            | (at_builtin; refine wpList_app_str rfl _ _ w.heap.size rfl rfl OW1.out rfl HR1.out (by rw [List.length_append, List.length_take, List.length_drop]; simp; omega) (by have := hb1.size; omega) ?_)
            | go_in)
          intro v2 w2 hown2 hgrow2 _
          have hb2 : Below w.heap.size w w2 := hb1.grown hgrow2 hb1.size (fun q hq => (OW1.out.lt q hq).1)
          have key : ∀ q xs, w2.ownsRow w.heap.size 9 1 v2 q xs → q = (insT l s).length → xs = strs (insT l s) → w2.ownsRow w.heap.size 9 1 v2 (insT l s).length (strs (insT l s)) := by rintro q xs h rfl rfl; exact h
          have OW2 := Lib.hid (key _ _ hown2 (by have := HN.out; rw [insT_length]; (try simp only [List.length_append, List.length_take, List.length_drop, List.length_singleton]); omega) (by first | (rw [FIN.out]; done) | (rw [FIN.out]; simp)))
          clear key
          clear hown2 hgrow2
          go_wp2_with fail
          go_ret
          exact ⟨⟨v2, rfl, OW2.out⟩, hb2⟩
        · rw [hle] at hlt2
          have NX := Lib.hid (tw_step hall hx hlt2)
          have HST := Lib.hid hstep
          have OW := Lib.hid hown
          have HB := Lib.hid hbel
          clear hall hx hstep hmem hown hr fin hlt2 hxs
          go_wp2_with (first
            | (at_builtin; refine wpList_append_own_at _ rfl _ _ 22 rfl w.heap.size 9 i0 (.string ⟨#[]⟩) 1 16 Tryz.underlying22 hi hz0 hz1 hz2 rfl (by decide) _ j (strs (l.take j)) rfl (OW.out.alloc _) ⟨wr.heap.size, 0, none⟩ 1 1 [.string x] rfl rfl (cell_one_new _ _ _) (by simp [Value.oneCell']) (by unfold maxLen; omega) (by omega) (by simp; omega) ?_)
            | go_in)
          intro v' w1 hown1 hgrow1 _ _
          have hb1 : Below w.heap.size w w1 := (HB.out.alloc hws _).grown hgrow1 (by simp; omega) (fun q hq => (OW.out.lt q hq).1)
          have OW1 := Lib.hid (show w1.ownsRow w.heap.size 9 1 v' (j + 1) (strs (l.take (j + 1))) by rw [HST.out, strs_app]; exact hown1)
          clear hown1 hgrow1
          go_wp2_with fail
          refine ⟨⟨j + 1, by omega, rfl, NX.out, OW1.out, hb1⟩, ?_⟩
          simp [intOf]; omega
    · obtain rfl : j = n := by omega
      have FIN := Lib.hid (fin (fun y hy => by rw [List.getElem?_eq_none (by omega)] at hy; cases hy))
      have OW := Lib.hid hown
      have HB := Lib.hid hbel
      have SL := last_anyS a j c j (by omega) hc
      obtain ⟨vs, hvs⟩ : ∃ vs, Value.slice (if c = j then a else a.map (fun x => x.add j)) (j - j) (c - j) = vs := ⟨_, rfl⟩
      rw [hvs] at SL
      have HVS := Lib.hid hvs
      clear hall hown fin hvs
      go_wp2_with (first
        | (at_builtin; refine wpList_append_own_at _ rfl _ _ 22 rfl w.heap.size 9 i0 (.string ⟨#[]⟩) 1 16 Tryz.underlying22 hi hz0 hz1 hz2 rfl (by decide) _ j (strs (l.take j)) rfl (OW.out.alloc _) ⟨wr.heap.size, 0, none⟩ 1 1 [.string s] rfl rfl (cell_one_new _ _ _) (by simp [Value.oneCell']) (by unfold maxLen; omega) (by omega) (by simp; omega) ?_)
        | go_in)
      intro v' w1 hown1 hgrow1 _ _
      have hb1 : Below w.heap.size w w1 := (HB.out.alloc hws _).grown hgrow1 (by simp; omega) (fun q hq => (OW.out.lt q hq).1)
      have hx1 := (show w1.ownsRow w.heap.size 9 1 v' (l.take j ++ [s]).length (strs (l.take j ++ [s])) by rw [strs_app, List.length_append, List.length_take, Nat.min_eq_left (by omega)]; exact hown1)
      have OW1 := Lib.hid hx1
      have HR1 := Lib.hid (by have hh := lies_lastS (HL.out w1 hb1) j (by omega); rw [HVS.out] at hh; exact hh)
      clear hown1 hgrow1 hx1
      go_wp2_with (first
        | (at_builtin; refine wpList_app_str rfl _ _ w.heap.size rfl rfl OW1.out rfl HR1.out (by rw [List.length_append, List.length_take, List.length_drop]; simp; omega) (by have := hb1.size; omega) ?_)
        | go_in)
      intro v2 w2 hown2 hgrow2 _
      have hb2 : Below w.heap.size w w2 := hb1.grown hgrow2 hb1.size (fun q hq => (OW1.out.lt q hq).1)
      have key : ∀ q xs, w2.ownsRow w.heap.size 9 1 v2 q xs → q = (insT l s).length → xs = strs (insT l s) → w2.ownsRow w.heap.size 9 1 v2 (insT l s).length (strs (insT l s)) := by rintro q xs h rfl rfl; exact h
      have OW2 := Lib.hid (key _ _ hown2 (by have := HN.out; rw [insT_length]; (try simp only [List.length_append, List.length_take, List.length_drop, List.length_singleton]); omega) (by first | (rw [FIN.out]; done) | (rw [FIN.out]; simp)))
      clear key
      clear hown2 hgrow2
      go_wp2_with fail
      go_ret
      exact ⟨⟨v2, rfl, OW2.out⟩, hb2⟩
def SrtAt (l : List ByteArray) (u : Bool) (w : World) (v i : Value) (wr : World) : Prop :=
  ∃ j : Nat, j ≤ l.length ∧ i = .int .i64 (j : Int) ∧ wr.ownsRow w.heap.size 9 1 v (sortT (l.take j) u).length (strs (sortT (l.take j) u)) ∧ Below w.heap.size w wr
theorem own_up16 {b1 b2 : Nat} {w : World} {v : Value} {n : Nat} {xs : List Value} (h : w.ownsRow b2 9 1 v n xs) (hb : b1 ≤ b2) : w.ownsRow b1 9 1 v n xs := by
  refine ⟨h.1, h.2.imp id ?_⟩
  rintro ⟨g, cap, cur, h1, h2, h3⟩
  exact ⟨g, cap, cur, h1, Nat.le_trans hb h2, h3⟩
set_option maxHeartbeats 2000000 in
theorem rsorted_c {w : World} {v : Value} {l : List ByteArray} (h : Lies w v l) (hl : l.length ≤ 9000) (un : Bool) :
    Calls Tryz.prog 38 #[v, .bool un] w (GotS w (sortT l un)) := by
  obtain ⟨a, c, rfl, hc, h⟩ := h
  obtain ⟨n, hn⟩ : ∃ n, l.length = n := ⟨_, rfl⟩
  have HN := Lib.hid hn
  have H := Lib.hid (show 1 ≤ n → ∃ b o, a = some ⟨b, o, none⟩ ∧ SRow w b o l from fun h1 => h.elim (fun h0 => by rw [h0] at hn; simp at hn; omega) id)
  rw [hn] at hl hc ⊢
  clear h hn
  go_enter Tryz.func38, Tryz.ntmps38
  go_wp2_with fail
  go_loopw [5, 6] (fun v i wr => SrtAt l un w v i wr) (fun _ i _ => n - (intOf i).toNat)
  case atStart => exact ⟨0, Nat.zero_le _, rfl, World.ownsRow_nil _ _ _ _, Below.refl _ _⟩
  case round =>
    obtain ⟨j, hj, rfl, hown, hbel⟩ := hrel
    have hjn := HN.out
    rw [hjn] at hj
    have hws := hbel.size
    by_cases hlt : j < n
    · obtain ⟨x, hx, hstep, hmem⟩ := take_on16 (l := l) (j := j) (by omega)
      obtain ⟨b, o, rfl, hr⟩ := H.out (by omega)
      have hcx : ∀ u, Below w.heap.size w u → u.cell? ⟨b, o + j, none⟩ = some (.string x) := fun u g => by rw [g.cell hr.1]; exact hr.2 j x hx
      have hsn := sortT_snoc (l.take j) un x
      rw [← hstep] at hsn
      have hle := sortT_le (l.take j) un
      rw [List.length_take] at hle
      generalize sortT (l.take j) un = L at hown hsn hle
      have LI := Lib.hid (fun u (g : Gr wr u) => (lies_own (B := w.heap.size) hown).gr g)
      have hlL : L.length ≤ 9000 := by omega
      have HA := Lib.hid (fun u (g : Gr wr u) => rhas16_c (LI.out u g) (by omega) x)
      have IN := Lib.hid (fun u (g : Gr wr u) => rinsert_c (LI.out u g) (by omega) x)
      have SN := Lib.hid hsn
      have CX := Lib.hid hcx
      have OW := Lib.hid hown
      have HB := Lib.hid hbel
      have d0 := hcx wr hbel
      clear hcx hsn hown hbel hx hstep hmem hr hle
      cases un
      · have GA := Lib.hid (Gr.refl wr)
        have HH : (!false || !hasT L x) = true := rfl
        have PN := Lib.hid (show putT false L x = insT L x by unfold putT; rw [HH]; rfl)
        go_wp2_with fail
        refine (IN.out _ GA.out).mono ?_; rintro e u ⟨⟨v2, rfl, ho⟩, g⟩
        have GU := Lib.hid (GA.out.trans g)
        have OU := Lib.hid (own_up16 ho (Nat.le_trans hws GA.out.size))
        clear ho g
        go_wp2_with fail
        refine ⟨⟨j + 1, by omega, rfl, by rw [SN.out, PN.out]; exact OU.out, Below.trans HB.out (Below.mono GU.out hws)⟩, ?_⟩
        simp [intOf]; omega
      · cases hh : hasT L x
        · rw [hh] at HA
          have HH : (!true || !hasT L x) = true := by rw [hh]; rfl
          go_wp2_with fail
          refine (HA.out _ (Gr.refl _)).mono ?_; rintro e u0 ⟨rfl, rfl⟩
          have GA := Lib.hid (Gr.refl wr)
          have PN := Lib.hid (show putT true L x = insT L x by unfold putT; rw [HH]; rfl)
          go_wp2_with fail
          refine (IN.out _ GA.out).mono ?_; rintro e u ⟨⟨v2, rfl, ho⟩, g⟩
          have GU := Lib.hid (GA.out.trans g)
          have OU := Lib.hid (own_up16 ho (Nat.le_trans hws GA.out.size))
          clear ho g
          go_wp2_with fail
          refine ⟨⟨j + 1, by omega, rfl, by rw [SN.out, PN.out]; exact OU.out, Below.trans HB.out (Below.mono GU.out hws)⟩, ?_⟩
          simp [intOf]; omega
        · rw [hh] at HA
          have PN := Lib.hid (show putT true L x = L by unfold putT; rw [hh]; rfl)
          go_wp2_with fail
          refine (HA.out _ (Gr.refl _)).mono ?_; rintro e u0 ⟨rfl, rfl⟩
          go_wp2_with fail
          refine ⟨⟨j + 1, by omega, rfl, by rw [SN.out, PN.out]; exact OW.out, HB.out⟩, ?_⟩
          simp [intOf]; omega
    · obtain rfl : j = n := by omega
      have ht : l.take j = l := List.take_of_length_le (by omega)
      rw [ht] at hown
      have OW := Lib.hid hown
      clear hown
      go_wp2_with fail
      go_ret
      exact ⟨⟨_, rfl, OW.out⟩, hbel⟩
end Go.Proofs.YtdlomcgkpiejgaaGreatDoor

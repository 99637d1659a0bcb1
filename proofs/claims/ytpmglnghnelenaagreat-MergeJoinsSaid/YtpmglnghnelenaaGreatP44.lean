/- In one text: RnRef2, MgRef, Must6, RecBoth. -/
import Derived.Test.YtpmglnghnelenaaGreatP43
import Derived.Test.YtpmglnghnelenaaGreatP27
import Derived.Test.YtpmglnghnelenaaGreatP37
import Derived.Test.YtpmglnghnelenaaGreatP38
/- The document's texts in order: insert, Sorted. -/
namespace Go.Proofs.YtpmglnghnelenaaGreat
open Go.RowKit RnPlain
set_option linter.unusedVariables false
set_option linter.unusedSimpArgs false
set_option maxRecDepth 20000
/-- What a call hands out that makes a slice of strings. -/
structure GotS (w : World) (l : List ByteArray) (e : Ending) (w' : World) : Prop where
  got : ∃ v, e = .returned v ∧ w'.ownsRow w.heap.size 9 1 v l.length (strs l)
  gr : Gr w w'
theorem own_gr16 {base : Nat} {w w' : World} {v : Value} {n : Nat} {xs : List Value} (h : w.ownsRow base 9 1 v n xs) (g : Gr w w') : w'.ownsRow base 9 1 v n xs := h.kept (⟨g.1, g.2, g.3, g.size, fun k hk _ => g.block k hk⟩ : w.grownBy w' none) (by cases hv : v.ownBlock <;> simp)
def InsAt (l : List ByteArray) (s : ByteArray) (w : World) (v i : Value) (wr : World) : Prop :=
  ∃ j : Nat, j ≤ l.length ∧ i = .int .i64 (j : Int) ∧ (∀ y ∈ l.take j, leT y s = true) ∧ wr.ownsRow w.heap.size 9 1 v j (strs (l.take j)) ∧ Below w.heap.size w wr
set_option maxHeartbeats 4000000 in
theorem rinsert_c {w : World} {v : Value} {l : List ByteArray} (h : Lies w v l) (hl : l.length ≤ 10000) (s : ByteArray) :
    Calls Tryz.prog 68 #[v, .string s] w (GotS w (insT l s)) := by
  obtain ⟨i0, hi, hz0, hz1, hz2⟩ := info_parts infoSs
  have HL := Lib.hid (fun u (g : Gr w u) => h.gr g)
  obtain ⟨a, c, rfl, hc, h⟩ := h
  obtain ⟨n, hn⟩ : ∃ n, l.length = n := ⟨_, rfl⟩
  have HN := Lib.hid hn
  have H := Lib.hid (show 1 ≤ n → ∃ b o, a = some ⟨b, o, none⟩ ∧ SRow w b o l from fun h1 => h.elim (fun h0 => by rw [h0] at hn; simp at hn; omega) id)
  rw [hn] at hl hc HL ⊢
  clear h hn
  go_enter Tryz.func68, Tryz.ntmps68
  go_wp2_with fail
  go_loopw [5, 6] (fun v i wr => InsAt l s w v i wr) (fun _ i _ => n - (intOf i).toNat)
  case atStart => exact ⟨0, Nat.zero_le _, rfl, by simp, World.ownsRow_nil _ _ _ _, Below.refl _ _⟩
  case round =>
    obtain ⟨j, hj, rfl, hall, hown, hbel⟩ := hrel
    have hjn := HN.out
    rw [hjn] at hj
    have hws := hbel.size
    have fin : (∀ x, l[j]? = some x → leT x s = false) → insT l s = l.take j ++ s :: l.drop j := fun hh => tw_end hall hh
    by_cases hlt : j < n
    · obtain ⟨x, hx, hstep, hmem⟩ := take_on16 (l := l) (j := j) (by omega)
      obtain ⟨b, o, rfl, hr⟩ := H.out (by omega)
      have hcx : wr.cell? ⟨b, o + j, none⟩ = some (.string x) := by rw [hbel.cell hr.1]; exact hr.2 j x hx
      by_cases hxs : x = s
      · subst hxs
        have hle : leT x x = true := by unfold leT; simp
        have NX := Lib.hid (tw_step hall hx hle)
        have HST := Lib.hid hstep
        have OW := Lib.hid hown
        have HB := Lib.hid hbel
        clear hall hx hstep hmem hown hr fin hle
        go_wp2_with (first
          | (at_builtin; refine wpList_append_own_at _ rfl _ _ 26 rfl w.heap.size 9 i0 (.string ⟨#[]⟩) 1 16 Tryz.underlying26 hi hz0 hz1 hz2 rfl (by decide) _ j (strs (l.take j)) rfl (OW.out.alloc _) ⟨wr.heap.size, 0, none⟩ 1 1 [.string x] rfl rfl (cell_one_new _ _ _) (by simp [Value.oneCell']) (by unfold maxLen; omega) (by omega) (by simp; omega) ?_)
          | go_in)
        intro v' w1 hown1 hgrow1 _ _
        have hb1 : Below w.heap.size w w1 := (HB.out.alloc hws _).grown hgrow1 (by simp; omega) (fun q hq => (OW.out.lt q hq).1)
        have OW1 := Lib.hid (show w1.ownsRow w.heap.size 9 1 v' (j + 1) (strs (l.take (j + 1))) by rw [HST.out, strs_app]; exact hown1)
        clear hown1 hgrow1
        go_wp2_with fail
        refine ⟨⟨j + 1, by omega, rfl, NX.out, OW1.out, hb1⟩, ?_⟩
        simp [intOf]; omega
      · have t2 : (x.toList == s.toList) = false := by
          rw [beq_eq_false_iff_ne]
          intro e
          rw [Lib.toList_data, Lib.toList_data] at e
          exact hxs (ByteArray.ext (Array.toList_inj.1 e))
        have hlt2 : leT x s = Op.bytesLess x.toList s.toList := by unfold leT ltT; rw [t2, Bool.or_false]
        cases hle : Op.bytesLess x.toList s.toList
        · rw [hle] at hlt2
          have FIN := Lib.hid (fin (fun y hy => by rw [hx] at hy; cases hy; exact hlt2))
          clear hx hstep hmem hr hxs
          have OW := Lib.hid hown
          have HB := Lib.hid hbel
          have SL := last_anyS (some ⟨b, o, none⟩) n c j (by omega) hc
          obtain ⟨vs, hvs⟩ : ∃ vs, Value.slice (if c = j then (some (⟨b, o, none⟩ : Addr)) else (some (⟨b, o, none⟩ : Addr)).map (fun x => x.add j)) (n - j) (c - j) = vs := ⟨_, rfl⟩
          rw [hvs] at SL
          have HVS := Lib.hid hvs
          clear hall hown fin hlt2 hvs
          go_wp2_with (first
            | (at_builtin; refine wpList_append_own_at _ rfl _ _ 26 rfl w.heap.size 9 i0 (.string ⟨#[]⟩) 1 16 Tryz.underlying26 hi hz0 hz1 hz2 rfl (by decide) _ j (strs (l.take j)) rfl (OW.out.alloc _) ⟨wr.heap.size, 0, none⟩ 1 1 [.string s] rfl rfl (cell_one_new _ _ _) (by simp [Value.oneCell']) (by unfold maxLen; omega) (by omega) (by simp; omega) ?_)
            | go_in)
          intro v' w1 hown1 hgrow1 _ _
          have hb1 : Below w.heap.size w w1 := (HB.out.alloc hws _).grown hgrow1 (by simp; omega) (fun q hq => (OW.out.lt q hq).1)
          have hx1 := (show w1.ownsRow w.heap.size 9 1 v' (l.take j ++ [s]).length (strs (l.take j ++ [s])) by rw [strs_app, List.length_append, List.length_take, Nat.min_eq_left (by omega)]; exact hown1)
          have OW1 := Lib.hid hx1
          have HR1 := Lib.hid (by have hh := lies_lastS (HL.out w1 hb1) j (by omega); rw [HVS.out] at hh; exact hh)
          clear hown1 hgrow1 hx1
          go_wp2_with (first
            | (at_builtin; refine wpList_app_str rfl _ _ w.heap.size rfl rfl OW1.out rfl HR1.out (by rw [List.length_append, List.length_take, List.length_drop]; simp; omega) (by have := hb1.size; omega) ?_)
            | go_in)
          intro v2 w2 hown2 hgrow2 _
          have hb2 : Below w.heap.size w w2 := hb1.grown hgrow2 hb1.size (fun q hq => (OW1.out.lt q hq).1)
          have key : ∀ q xs, w2.ownsRow w.heap.size 9 1 v2 q xs → q = (insT l s).length → xs = strs (insT l s) → w2.ownsRow w.heap.size 9 1 v2 (insT l s).length (strs (insT l s)) := by rintro q xs h rfl rfl; exact h
          have OW2 := Lib.hid (key _ _ hown2 (by have := HN.out; rw [insT_length]; (try simp only [List.length_append, List.length_take, List.length_drop, List.length_singleton]); omega) (by first | (rw [FIN.out]; done) | (rw [FIN.out]; simp)))
          clear key
          clear hown2 hgrow2
          go_wp2_with fail
          go_ret
          exact ⟨⟨v2, rfl, OW2.out⟩, hb2⟩
        · rw [hle] at hlt2
          have NX := Lib.hid (tw_step hall hx hlt2)
          have HST := Lib.hid hstep
          have OW := Lib.hid hown
          have HB := Lib.hid hbel
          clear hall hx hstep hmem hown hr fin hlt2 hxs
          go_wp2_with (first
            | (at_builtin; refine wpList_append_own_at _ rfl _ _ 26 rfl w.heap.size 9 i0 (.string ⟨#[]⟩) 1 16 Tryz.underlying26 hi hz0 hz1 hz2 rfl (by decide) _ j (strs (l.take j)) rfl (OW.out.alloc _) ⟨wr.heap.size, 0, none⟩ 1 1 [.string x] rfl rfl (cell_one_new _ _ _) (by simp [Value.oneCell']) (by unfold maxLen; omega) (by omega) (by simp; omega) ?_)
            | go_in)
          intro v' w1 hown1 hgrow1 _ _
          have hb1 : Below w.heap.size w w1 := (HB.out.alloc hws _).grown hgrow1 (by simp; omega) (fun q hq => (OW.out.lt q hq).1)
          have OW1 := Lib.hid (show w1.ownsRow w.heap.size 9 1 v' (j + 1) (strs (l.take (j + 1))) by rw [HST.out, strs_app]; exact hown1)
          clear hown1 hgrow1
          go_wp2_with fail
          refine ⟨⟨j + 1, by omega, rfl, NX.out, OW1.out, hb1⟩, ?_⟩
          simp [intOf]; omega
    · obtain rfl : j = n := by omega
      have FIN := Lib.hid (fin (fun y hy => by rw [List.getElem?_eq_none (by omega)] at hy; cases hy))
      have OW := Lib.hid hown
      have HB := Lib.hid hbel
      have SL := last_anyS a j c j (by omega) hc
      obtain ⟨vs, hvs⟩ : ∃ vs, Value.slice (if c = j then a else a.map (fun x => x.add j)) (j - j) (c - j) = vs := ⟨_, rfl⟩
      rw [hvs] at SL
      have HVS := Lib.hid hvs
      clear hall hown fin hvs
      go_wp2_with (first
        | (at_builtin; refine wpList_append_own_at _ rfl _ _ 26 rfl w.heap.size 9 i0 (.string ⟨#[]⟩) 1 16 Tryz.underlying26 hi hz0 hz1 hz2 rfl (by decide) _ j (strs (l.take j)) rfl (OW.out.alloc _) ⟨wr.heap.size, 0, none⟩ 1 1 [.string s] rfl rfl (cell_one_new _ _ _) (by simp [Value.oneCell']) (by unfold maxLen; omega) (by omega) (by simp; omega) ?_)
        | go_in)
      intro v' w1 hown1 hgrow1 _ _
      have hb1 : Below w.heap.size w w1 := (HB.out.alloc hws _).grown hgrow1 (by simp; omega) (fun q hq => (OW.out.lt q hq).1)
      have hx1 := (show w1.ownsRow w.heap.size 9 1 v' (l.take j ++ [s]).length (strs (l.take j ++ [s])) by rw [strs_app, List.length_append, List.length_take, Nat.min_eq_left (by omega)]; exact hown1)
      have OW1 := Lib.hid hx1
      have HR1 := Lib.hid (by have hh := lies_lastS (HL.out w1 hb1) j (by omega); rw [HVS.out] at hh; exact hh)
      clear hown1 hgrow1 hx1
      go_wp2_with (first
        | (at_builtin; refine wpList_app_str rfl _ _ w.heap.size rfl rfl OW1.out rfl HR1.out (by rw [List.length_append, List.length_take, List.length_drop]; simp; omega) (by have := hb1.size; omega) ?_)
        | go_in)
      intro v2 w2 hown2 hgrow2 _
      have hb2 : Below w.heap.size w w2 := hb1.grown hgrow2 hb1.size (fun q hq => (OW1.out.lt q hq).1)
      have key : ∀ q xs, w2.ownsRow w.heap.size 9 1 v2 q xs → q = (insT l s).length → xs = strs (insT l s) → w2.ownsRow w.heap.size 9 1 v2 (insT l s).length (strs (insT l s)) := by rintro q xs h rfl rfl; exact h
      have OW2 := Lib.hid (key _ _ hown2 (by have := HN.out; rw [insT_length]; (try simp only [List.length_append, List.length_take, List.length_drop, List.length_singleton]); omega) (by first | (rw [FIN.out]; done) | (rw [FIN.out]; simp)))
      clear key
      clear hown2 hgrow2
      go_wp2_with fail
      go_ret
      exact ⟨⟨v2, rfl, OW2.out⟩, hb2⟩
def SrtAt (l : List ByteArray) (u : Bool) (w : World) (v i : Value) (wr : World) : Prop :=
  ∃ j : Nat, j ≤ l.length ∧ i = .int .i64 (j : Int) ∧ wr.ownsRow w.heap.size 9 1 v (sortT (l.take j) u).length (strs (sortT (l.take j) u)) ∧ Below w.heap.size w wr
theorem own_up16 {b1 b2 : Nat} {w : World} {v : Value} {n : Nat} {xs : List Value} (h : w.ownsRow b2 9 1 v n xs) (hb : b1 ≤ b2) : w.ownsRow b1 9 1 v n xs := by
  refine ⟨h.1, h.2.imp id ?_⟩
  rintro ⟨g, cap, cur, h1, h2, h3⟩
  exact ⟨g, cap, cur, h1, Nat.le_trans hb h2, h3⟩
set_option maxHeartbeats 2000000 in
theorem rsorted_c {w : World} {v : Value} {l : List ByteArray} (h : Lies w v l) (hl : l.length ≤ 9000) (un : Bool) :
    Calls Tryz.prog 34 #[v, .bool un] w (GotS w (sortT l un)) := by
  obtain ⟨a, c, rfl, hc, h⟩ := h
  obtain ⟨n, hn⟩ : ∃ n, l.length = n := ⟨_, rfl⟩
  have HN := Lib.hid hn
  have H := Lib.hid (show 1 ≤ n → ∃ b o, a = some ⟨b, o, none⟩ ∧ SRow w b o l from fun h1 => h.elim (fun h0 => by rw [h0] at hn; simp at hn; omega) id)
  rw [hn] at hl hc ⊢
  clear h hn
  go_enter Tryz.func34, Tryz.ntmps34
  go_wp2_with fail
  go_loopw [5, 6] (fun v i wr => SrtAt l un w v i wr) (fun _ i _ => n - (intOf i).toNat)
  case atStart => exact ⟨0, Nat.zero_le _, rfl, World.ownsRow_nil _ _ _ _, Below.refl _ _⟩
  case round =>
    obtain ⟨j, hj, rfl, hown, hbel⟩ := hrel
    have hjn := HN.out
    rw [hjn] at hj
    have hws := hbel.size
    by_cases hlt : j < n
    · obtain ⟨x, hx, hstep, hmem⟩ := take_on16 (l := l) (j := j) (by omega)
      obtain ⟨b, o, rfl, hr⟩ := H.out (by omega)
      have hcx : ∀ u, Below w.heap.size w u → u.cell? ⟨b, o + j, none⟩ = some (.string x) := fun u g => by rw [g.cell hr.1]; exact hr.2 j x hx
      have hsn := sortT_snoc (l.take j) un x
      rw [← hstep] at hsn
      have hle := sortT_le (l.take j) un
      rw [List.length_take] at hle
      generalize sortT (l.take j) un = L at hown hsn hle
      have LI := Lib.hid (fun u (g : Gr wr u) => (lies_own (B := w.heap.size) hown).gr g)
      have hlL : L.length ≤ 9000 := by omega
      have HA := Lib.hid (fun u (g : Gr wr u) => rhas16_c (LI.out u g) (by omega) x)
      have IN := Lib.hid (fun u (g : Gr wr u) => rinsert_c (LI.out u g) (by omega) x)
      have SN := Lib.hid hsn
      have CX := Lib.hid hcx
      have OW := Lib.hid hown
      have HB := Lib.hid hbel
      have d0 := hcx wr hbel
      clear hcx hsn hown hbel hx hstep hmem hr hle
      cases un
      · have GA := Lib.hid (Gr.refl wr)
        have HH : (!false || !hasT L x) = true := rfl
        have PN := Lib.hid (show putT false L x = insT L x by unfold putT; rw [HH]; rfl)
        go_wp2_with fail
        refine (IN.out _ GA.out).mono ?_; rintro e u ⟨⟨v2, rfl, ho⟩, g⟩
        have GU := Lib.hid (GA.out.trans g)
        have OU := Lib.hid (own_up16 ho (Nat.le_trans hws GA.out.size))
        clear ho g
        go_wp2_with fail
        refine ⟨⟨j + 1, by omega, rfl, by rw [SN.out, PN.out]; exact OU.out, Below.trans HB.out (Below.mono GU.out hws)⟩, ?_⟩
        simp [intOf]; omega
      · cases hh : hasT L x
        · rw [hh] at HA
          have HH : (!true || !hasT L x) = true := by rw [hh]; rfl
          go_wp2_with fail
          refine (HA.out _ (Gr.refl _)).mono ?_; rintro e u0 ⟨rfl, rfl⟩
          have GA := Lib.hid (Gr.refl wr)
          have PN := Lib.hid (show putT true L x = insT L x by unfold putT; rw [HH]; rfl)
          go_wp2_with fail
          refine (IN.out _ GA.out).mono ?_; rintro e u ⟨⟨v2, rfl, ho⟩, g⟩
          have GU := Lib.hid (GA.out.trans g)
          have OU := Lib.hid (own_up16 ho (Nat.le_trans hws GA.out.size))
          clear ho g
          go_wp2_with fail
          refine ⟨⟨j + 1, by omega, rfl, by rw [SN.out, PN.out]; exact OU.out, Below.trans HB.out (Below.mono GU.out hws)⟩, ?_⟩
          simp [intOf]; omega
        · rw [hh] at HA
          have PN := Lib.hid (show putT true L x = L by unfold putT; rw [hh]; rfl)
          go_wp2_with fail
          refine (HA.out _ (Gr.refl _)).mono ?_; rintro e u0 ⟨rfl, rfl⟩
          go_wp2_with fail
          refine ⟨⟨j + 1, by omega, rfl, by rw [SN.out, PN.out]; exact OW.out, HB.out⟩, ?_⟩
          simp [intOf]; omega
    · obtain rfl : j = n := by omega
      have ht : l.take j = l := List.take_of_length_le (by omega)
      rw [ht] at hown
      have OW := Lib.hid hown
      clear hown
      go_wp2_with fail
      go_ret
      exact ⟨⟨_, rfl, OW.out⟩, hbel⟩
end Go.Proofs.YtpmglnghnelenaaGreat
/- The document's words on lists that rise, and their merge. -/
namespace Go.Proofs.YtpmglnghnelenaaGreat
open Go.RowKit LoPlain RnPlain
set_option linter.unusedVariables false
set_option linter.unusedSimpArgs false
set_option maxRecDepth 20000
def srtB : List ByteArray → Bool
  | x :: y :: r => !ltT y x && srtB (y :: r)
  | _ => true
theorem srtB_iff : ∀ {l : List ByteArray}, srtB l = true ↔ Srt l
  | [] => by simp [srtB, Srt]
  | [x] => by simp [srtB, Srt]
  | x :: y :: r => by
    have ih := srtB_iff (l := y :: r)
    have e : srtB (x :: y :: r) = (!ltT y x && srtB (y :: r)) := rfl
    rw [e, Bool.and_eq_true, ih, Bool.not_eq_true', ← le_iff]
    constructor
    · rintro ⟨h1, h2⟩
      refine List.pairwise_cons.2 ⟨fun z hz => ?_, h2⟩
      rcases List.mem_cons.1 hz with rfl | hz
      · exact h1
      · exact le_trans h1 ((List.pairwise_cons.1 h2).1 z hz)
    · intro h
      exact ⟨(List.pairwise_cons.1 h).1 y (by simp), (List.pairwise_cons.1 h).2⟩
theorem srtB_no {l : List ByteArray} {k : Nat} {x y : ByteArray} (hx : l[k]? = some x) (hy : l[k + 1]? = some y) (h : ltT y x = true) : srtB l = false := by
  cases hs : srtB l
  · rfl
  · have h1 := srtB_iff.1 hs
    obtain ⟨hk, rfl⟩ := List.getElem?_eq_some_iff.1 hx
    obtain ⟨hk1, rfl⟩ := List.getElem?_eq_some_iff.1 hy
    have := (List.pairwise_iff_getElem.1 h1) k (k + 1) hk hk1 (by omega)
    rw [le_iff.1 this] at h; cases h
theorem srtB_all : ∀ {l : List ByteArray}, (∀ (k : Nat) (x y : ByteArray), l[k]? = some x → l[k + 1]? = some y → ltT y x = false) → srtB l = true
  | [], _ => rfl
  | [x], _ => rfl
  | x :: y :: r, h => by
    unfold srtB
    rw [h 0 x y rfl rfl, srtB_all fun k a b h1 h2 => h (k + 1) a b h1 h2]
    rfl
def Rises17At (l : List ByteArray) (w : World) (i : Value) (wr : World) : Prop :=
  ∃ k : Nat, i = .int .i64 ((k + 1 : Nat) : Int) ∧ k ≤ l.length ∧ Gr w wr ∧ ∀ (j : Nat) (x y : ByteArray), j < k → l[j]? = some x → l[j + 1]? = some y → ltT y x = false
set_option maxHeartbeats 1000000 in
theorem rrises_c {w : World} {v : Value} {l : List ByteArray} (h : Lies w v l) (hl : l.length ≤ 100000) :
    Calls Tryz.prog 33 #[v] w fun e w' => e = .returned (.bool (srtB l)) ∧ Gr w w' := by
  obtain ⟨a, c, rfl, hc, h⟩ := h
  obtain ⟨n, hn⟩ : ∃ n, l.length = n := ⟨_, rfl⟩
  have HN := Lib.hid hn
  have H := Lib.hid (show 1 ≤ n → ∃ b o, a = some ⟨b, o, none⟩ ∧ SRow w b o l from fun h1 => h.elim (fun h0 => by rw [h0] at hn; simp at hn; omega) id)
  rw [hn] at hl ⊢
  clear h hn hc
  go_enter Tryz.func33, Tryz.ntmps33
  go_wp2_with fail
  go_loopw [3] (fun i wr => Rises17At l w i wr) (fun i _ => n + 1 - (intOf i).toNat)
  case atStart => exact ⟨0, rfl, Nat.zero_le _, Gr.refl _, fun j x y hj => by omega⟩
  case round =>
    obtain ⟨k, rfl, hk, g, hall⟩ := hrel
    have G := Lib.hid g
    have hln := HN.out
    rw [hln] at hk
    have e1 : IntKind.i64.wrap (((k + 1 : Nat) : Int) - 1) = (k : Int) := by rw [show ((k + 1 : Nat) : Int) - 1 = (k : Int) by omega]; exact IntWalk.i64_in _ (by omega)
    obtain ⟨q, hq⟩ : ∃ q, k + 1 = q := ⟨_, rfl⟩
    rw [hq] at e1 ⊢
    by_cases hlt : k + 1 < n
    · obtain ⟨x, hx⟩ : ∃ x, l[k]? = some x := ⟨l[k]'(by omega), List.getElem?_eq_getElem _⟩
      obtain ⟨y, hy⟩ : ∃ y, l[k + 1]? = some y := ⟨l[k + 1]'(by omega), List.getElem?_eq_getElem _⟩
      obtain ⟨b, o, rfl, hr0⟩ := H.out (by omega)
      have hr := hr0.gr g
      have hcx := hr.2 k x hx
      have hcy := hr.2 (k + 1) y hy
      rw [hq] at hcy
      have d1 : (q : Int) < (n : Int) := by omega
      have d2 : (k : Int) < (n : Int) := by omega
      have d3 : k < n := by omega
      have d4 : q < n := by omega
      have hk9 : (q : Int) ≤ 100000 := by omega
      have HQ := Lib.hid hq
      cases ht : ltT y x
      · have HX := Lib.hid (show ∀ (j : Nat) (x y : ByteArray), j < k + 1 → l[j]? = some x → l[j + 1]? = some y → ltT y x = false from fun j x2 y2 hj h1 h2 => by
          by_cases e : j = k
          · subst e
            rw [hx] at h1; rw [hy] at h2
            cases h1; cases h2; exact ht
          · exact hall j x2 y2 (by omega) h1 h2)
        have t1 : Op.bytesLess y.toList x.toList = false := ht
        clear hx hy hr hr0 ht hall hq hlt g
        go_wp2_with fail
        go_region
        all_goals
          go_wp2_with fail
          have hqq := HQ.out
          refine ⟨⟨k + 1, by rw [hqq]; rfl, by have := HN.out; omega, G.out.trans (Gr.ofDrew (Gr.refl _)), HX.out⟩, ?_⟩
          simp [intOf]; omega
      · have HX := Lib.hid (srtB_no hx hy ht)
        have t1 : Op.bytesLess y.toList x.toList = true := ht
        clear hx hy hr hr0 ht hall hq hlt g
        go_wp2_with fail
        go_region
        all_goals
          go_wp2_with fail
          go_ret
          exact ⟨ret_b16 HX.out.symm, G.out.trans (Gr.ofDrew (Gr.refl _))⟩
    · have d1 : ¬ (q : Int) < (n : Int) := by omega
      have HX := Lib.hid (show srtB l = true from srtB_all fun j x y h1 h2 => hall j x y (by have := (List.getElem?_eq_some_iff.1 h2).1; omega) h1 h2)
      clear hall hq g
      go_wp2_with fail
      go_ret
      exact ⟨ret_b16 HX.out.symm, G.out⟩
def Rise17At (X : List (List ByteArray)) (w : World) (i : Value) (wr : World) : Prop :=
  ∃ j : Nat, j ≤ X.length ∧ i = .int .i64 (j : Int) ∧ Gr w wr ∧ (X.take j).all srtB = true
theorem takeX {X : List (List ByteArray)} {j : Nat} (hj : j < X.length) : ∃ x, X[j]? = some x ∧ X.take (j + 1) = X.take j ++ [x] ∧ x ∈ X :=
  ⟨X[j], List.getElem?_eq_getElem hj, List.take_succ_eq_append_getElem hj, List.getElem_mem hj⟩
set_option maxHeartbeats 1000000 in
theorem rrise17_c {w : World} {v : Value} {X : List (List ByteArray)} (h : LiesSS w v X) (hX : X.length ≤ 100000) (hl : ∀ l ∈ X, l.length ≤ 100000) :
    Calls Tryz.prog 11 #[v] w fun e w' => e = .returned (.bool (X.all srtB)) ∧ Gr w w' := by
  have HS := Lib.hid (fun u (g : Gr w u) => h.gr g)
  obtain ⟨a, c, rfl, hc, _⟩ := h
  have HL := Lib.hid hl
  obtain ⟨n, hn⟩ : ∃ n, X.length = n := ⟨_, rfl⟩
  have HN := Lib.hid hn
  rw [hn] at hX HS ⊢
  clear hn hc hl
  go_enter Tryz.func11, Tryz.ntmps11
  go_wp2_with fail
  go_loopw [3] (fun i wr => Rise17At X w i wr) (fun i _ => n - (intOf i).toNat)
  case atStart => exact ⟨0, Nat.zero_le _, rfl, Gr.refl _, rfl⟩
  case round =>
    obtain ⟨j, hj, rfl, g, hall⟩ := hrel
    have G := Lib.hid g
    have hln := HN.out
    rw [hln] at hj
    by_cases hlt : j < n
    · obtain ⟨x, hx, hstep, hmem⟩ := takeX (X := X) (j := j) (by omega)
      obtain ⟨a', c', b, off, xv, he, ha, hb, hcx, hlies⟩ := liesSS_at (HS.out wr g) hx
      simp only [Value.slice.injEq] at he
      obtain ⟨rfl, -, rfl⟩ := he
      subst ha
      have hxl := HL.out x hmem
      have CR := Lib.hid (rrises_c hlies hxl)
      obtain ⟨xa, xc, rfl, _⟩ := hlies
      cases ht : srtB x
      · have HX := Lib.hid (show X.all srtB = false by rw [List.all_eq_false]; exact ⟨x, hmem, by rw [ht]; decide⟩)
        rw [ht] at CR
        clear hx hstep hmem hall ht hxl g
        go_wp2_with fail
        refine CR.out.mono ?_; rintro e u ⟨rfl, g1⟩
        go_wp2_with fail
        go_ret
        exact ⟨ret_b16 HX.out.symm, G.out.trans g1⟩
      · have HX := Lib.hid (show (X.take (j + 1)).all srtB = true by rw [hstep, List.all_append, hall]; simp [ht])
        rw [ht] at CR
        clear hx hstep hmem hall ht hxl g
        go_wp2_with fail
        refine CR.out.mono ?_; rintro e u ⟨rfl, g1⟩
        have G2 := Lib.hid (G.out.trans g1)
        clear g1
        go_wp2_with fail
        refine ⟨⟨j + 1, by have := HN.out; omega, rfl, G2.out, HX.out⟩, ?_⟩
        simp [intOf]; omega
    · obtain rfl : j = n := by omega
      have HX := Lib.hid (show X.all srtB = true by rw [List.take_of_length_le (by omega)] at hall; exact hall)
      clear hall g
      go_wp2_with fail
      go_ret
      exact ⟨ret_b16 HX.out.symm, G.out⟩
theorem own_shape16 {E : TypeId} {base : Nat} {w : World} {v : Value} {n : Nat} {xs : List Value} (h : w.ownsRow base E 1 v n xs) : ∃ a c, v = .slice a n c := by
  rcases h.2 with ⟨rfl, rfl⟩ | ⟨g, cap, cur, rfl, _⟩
  · exact ⟨none, 0, rfl⟩
  · exact ⟨_, cap, rfl⟩
def Mer17At (X : List (List ByteArray)) (w : World) (v i : Value) (wr : World) : Prop :=
  ∃ j : Nat, j ≤ X.length ∧ i = .int .i64 (j : Int) ∧ wr.ownsRow w.heap.size 9 1 v (X.take j).flatten.length (strs (X.take j).flatten) ∧ Below w.heap.size w wr
theorem flat_few {X : List (List ByteArray)} (hl : ∀ l ∈ X, l.length ≤ 12) : ∀ j, (X.take j).flatten.length ≤ 12 * X.length := by
  intro j
  have key : ∀ Y : List (List ByteArray), (∀ l ∈ Y, l.length ≤ 12) → Y.flatten.length ≤ 12 * Y.length := by
    intro Y
    induction Y with
    | nil => intro _; simp
    | cons y r ih =>
      intro h
      have h1 := ih fun l hl => h l (by simp [hl])
      have h2 := h y (by simp)
      rw [List.flatten_cons, List.length_append, List.length_cons]
      omega
  have h1 := key (X.take j) fun l h => hl l (List.mem_of_mem_take h)
  have h2 : (X.take j).length ≤ X.length := by rw [List.length_take]; omega
  omega
set_option maxHeartbeats 2000000 in
theorem rmerged17_c {w : World} {v : Value} {X : List (List ByteArray)} (h : LiesSS w v X) (hX : X.length ≤ 64) (hl : ∀ l ∈ X, l.length ≤ 12) (un : Bool) :
    Calls Tryz.prog 12 #[v, .bool un] w (GotS w (sortT X.flatten un)) := by
  have HF := Lib.hid (flat_few hl)
  have HS := Lib.hid (fun u (g : Below w.heap.size w u) => h.gr g)
  obtain ⟨a, c, rfl, hc, _⟩ := h
  obtain ⟨n, hn⟩ : ∃ n, X.length = n := ⟨_, rfl⟩
  have HN := Lib.hid hn
  rw [hn] at hX HS ⊢
  clear hn hc hl
  go_enter Tryz.func12, Tryz.ntmps12
  go_wp2_with fail
  go_loopw [5, 6] (fun v i wr => Mer17At X w v i wr) (fun _ i _ => n - (intOf i).toNat)
  case atStart => exact ⟨0, Nat.zero_le _, rfl, World.ownsRow_nil _ _ _ _, Below.refl _ _⟩
  case round =>
    obtain ⟨j, hj, rfl, hown, hbel⟩ := hrel
    have hln := HN.out
    rw [hln] at hj
    have hws := hbel.size
    by_cases hlt : j < n
    · obtain ⟨x, hx, hstep, hmem⟩ := takeX (X := X) (j := j) (by omega)
      obtain ⟨a', c', b, off, xv, he, ha, hb, hcx, hlies⟩ := liesSS_at (HS.out wr hbel) hx
      simp only [Value.slice.injEq] at he
      obtain ⟨rfl, -, rfl⟩ := he
      subst ha
      have hfl : (X.take (j + 1)).flatten = (X.take j).flatten ++ x := by rw [hstep, List.flatten_append]; simp
      have hf1 := HF.out (j + 1)
      rw [hfl, List.length_append, hln] at hf1
      have FL := Lib.hid hfl
      generalize (X.take j).flatten = L at hown hf1 FL
      obtain ⟨sa, sc, rfl⟩ := own_shape16 hown
      have HF1 := Lib.hid hf1
      have HWS := Lib.hid hws
      obtain ⟨ln, hln2⟩ : ∃ ln, L.length = ln := ⟨_, rfl⟩
      have HLN := Lib.hid hln2
      have OW := Lib.hid (show wr.ownsRow w.heap.size 9 1 (.slice sa ln sc) L.length (strs L) by rw [← hln2]; exact hown)
      rw [hln2]
      have HB := Lib.hid hbel
      have LI := Lib.hid hlies
      obtain ⟨xa, xc, rfl, _⟩ := hlies
      clear hx hstep hmem hown hbel hfl hf1 hln2 hws
      go_wp2_with (first
        | (at_builtin; refine wpList_app_str (xs := L) rfl _ _ w.heap.size rfl rfl OW.out rfl LI.out (by have := HF1.out; omega) HWS.out ?_)
        | go_in)
      intro v2 w2 hown2 hgrow2 _
      have hb2 : Below w.heap.size w w2 := HB.out.grown hgrow2 HWS.out (fun q hq => (OW.out.lt q hq).1)
      have OW2 := Lib.hid (show w2.ownsRow w.heap.size 9 1 v2 (X.take (j + 1)).flatten.length (strs (X.take (j + 1)).flatten) by rw [FL.out, List.length_append]; exact hown2)
      clear hown2 hgrow2
      go_wp2_with fail
      refine ⟨⟨j + 1, by have := HN.out; omega, rfl, OW2.out, hb2⟩, ?_⟩
      simp [intOf]; omega
    · obtain rfl : j = n := by omega
      have ht : X.take j = X := List.take_of_length_le (by omega)
      have hf1 := HF.out j
      rw [ht] at hown hf1
      obtain ⟨sa, sc, rfl⟩ := own_shape16 hown
      have CS := Lib.hid (rsorted_c (lies_own (B := w.heap.size) hown) (by omega) un)
      have HB := Lib.hid hbel
      have HWS := Lib.hid hws
      obtain ⟨fl, hfl⟩ : ∃ fl, X.flatten.length = fl := ⟨_, rfl⟩
      rw [hfl] at CS ⊢
      clear hown hbel hfl hf1 ht hws
      go_wp2_with fail
      refine CS.out.mono ?_; rintro e u ⟨⟨v2, rfl, ho⟩, g⟩
      have OU := Lib.hid (own_up16 ho HWS.out)
      have GU := Lib.hid (Below.trans HB.out (Below.mono g HWS.out))
      clear ho g
      go_wp2_with fail
      go_ret
      exact ⟨⟨v2, rfl, OU.out⟩, GU.out⟩
end Go.Proofs.YtpmglnghnelenaaGreat
/- The document's file of records, that is there. -/
namespace Go.Proofs.YtpmglnghnelenaaGreat
open Go.RowKit CrcPlain OctPlain FramePlain RecPlain
set_option linter.unusedVariables false
set_option linter.unusedSimpArgs false
set_option maxRecDepth 20000
theorem must6_c {w : World} {v : Value} {L : List ByteArray} (h : Lies w v L) (size : Int) (hk : I64 size) (hl : L.length ≤ 3000) (hz : ∀ s ∈ L, s.size ≤ 1000) :
    Calls Tryz.prog 16 #[.int .i64 size, v] w fun e w' => e = .returned (.string (layR size L)) ∧ Gr w w' := by
  have C := Lib.hid (rlay_c h size hk hl hz)
  clear h
  go_enter Tryz.func16, Tryz.ntmps16
  go_wp2_with fail
  refine C.out.mono ?_; rintro e u ⟨rfl, g⟩
  go_wp2_with fail
  go_ret
  exact ⟨rfl, g⟩
end Go.Proofs.YtpmglnghnelenaaGreat
/- Both Parses, as one: what they come to of any bytes. -/
namespace Go.Proofs.YtpmglnghnelenaaGreat
open Go.RowKit CrcPlain OctPlain FramePlain RecPlain
set_option linter.unusedVariables false
set_option linter.unusedSimpArgs false
set_option maxRecDepth 20000
/-- These records, these numbers, this error. -/
def PThis (L : List ByteArray) (c m k : Int) (w : World) (e : Ending) (w' : World) : Prop := ∃ v, e = .returned (.tuple #[v, .agg #[.int .i64 c, .int .u32 m], .int .i64 k]) ∧ Lies w' v L ∧ Gr w w'
theorem this_file {L : List ByteArray} {w : World} {e : Ending} {w' : World} (g : PFile L w e w') : PThis L L.length (sumN L) 0 w e w' := g
theorem this_none {w : World} {e : Ending} {w' : World} (g : PNone w e w') : PThis [] 0 0 6 w e w' := ⟨_, g.1, lies_nil w', g.2⟩
theorem file_len {size : Int} {s : ByteArray} {L : List ByteArray} (h : IsFile size s L) : L.length ≤ s.size := by
  have h1 := blks_ge _ (ups_blk h.1)
  rw [ups_all] at h1
  have h2 := congrArg List.length h.2
  unfold layL at h2
  rw [data_length, List.length_append, List.length_append] at h2
  omega
end Go.Proofs.YtpmglnghnelenaaGreat

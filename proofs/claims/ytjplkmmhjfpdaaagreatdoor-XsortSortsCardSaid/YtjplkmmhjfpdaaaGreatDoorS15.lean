/- In one text: RnRef2, MgRef, Few, RecSum, Told, Chunk, Build. -/
import Derived.Test.YtjplkmmhjfpdaaaGreatDoorS14
import Derived.Test.YtjplkmmhjfpdaaaGreatDoorS09
import Derived.Test.YtjplkmmhjfpdaaaGreatDoorS00
import Derived.WalkKit
import Derived.ProofKit
import Derived.Below
import Derived.Handy
import Derived.WalkLawsBesides
import Derived.Outline
import Derived.Test.YtjplkmmhjfpdaaaGreatDoorS05
import Derived.Test.YtjplkmmhjfpdaaaGreatDoorS01
import Derived.StillTailTactics
import Derived.RangeFuncNested
import Derived.RangeFuncBox
import Derived.RangeFuncBound
import Derived.RangeFuncCalls
import Derived.RangeFuncLeaves
import Derived.Shelf.Abstract
import Derived.Shelf.RegionOpen
import Derived.OwnWalkIn
import Derived.TacticsInMore
import Derived.LoopNIn
import Derived.LoopIn
import Derived.Shelf.Strings.BuilderK
import Derived.Test.YtjplkmmhjfpdaaaGreatDoorS02
/- The document's texts in order: insert, Sorted. -/
namespace Go.Proofs.YtjplkmmhjfpdaaaGreatDoor
open Go.RowKit RnPlain
set_option linter.unusedVariables false
set_option linter.unusedSimpArgs false
set_option maxRecDepth 20000
structure GotS (w : World) (l : List ByteArray) (e : Ending) (w' : World) : Prop where
  got : ∃ v, e = .returned v ∧ w'.ownsRow w.heap.size 9 1 v l.length (strs l)
  gr : Gr w w'
def InsAt (l : List ByteArray) (s : ByteArray) (w : World) (v i : Value) (wr : World) : Prop :=
  ∃ j : Nat, j ≤ l.length ∧ i = .int .i64 (j : Int) ∧ (∀ y ∈ l.take j, leT y s = true) ∧ wr.ownsRow w.heap.size 9 1 v j (strs (l.take j)) ∧ Below w.heap.size w wr
set_option maxHeartbeats 4000000 in
theorem rinsert_c {w : World} {v : Value} {l : List ByteArray} (h : Lies w v l) (hl : l.length ≤ 10000) (s : ByteArray) :
    Calls Tryz.prog 49 #[v, .string s] w (GotS w (insT l s)) := by
  obtain ⟨i0, hi, hz0, hz1, hz2⟩ := info_parts infoSs
  have HL := Lib.hid (fun u (g : Gr w u) => h.gr g)
  obtain ⟨a, c, rfl, hc, h⟩ := h
  obtain ⟨n, hn⟩ : ∃ n, l.length = n := ⟨_, rfl⟩
  have HN := Lib.hid hn
  have H := Lib.hid (show 1 ≤ n → ∃ b o, a = some ⟨b, o, none⟩ ∧ SRow w b o l from fun h1 => h.elim (fun h0 => by rw [h0] at hn; simp at hn; omega) id)
  rw [hn] at hl hc HL ⊢
  clear h hn
  go_enter Tryz.func49, Tryz.ntmps49
  go_wp2_with fail
  go_loopw [5, 6] (fun v i wr => InsAt l s w v i wr) (fun _ i _ => n - (intOf i).toNat)
  case atStart => exact ⟨0, Nat.zero_le _, rfl, by simp, World.ownsRow_nil _ _ _ _, Below.refl _ _⟩
  case round =>
    obtain ⟨j, hj, rfl, hall, hown, hbel⟩ := hrel
    have hjn := HN.out
    rw [hjn] at hj
    have hws := hbel.size
    have fin : (∀ x, l[j]? = some x → leT x s = false) → insT l s = l.take j ++ s :: l.drop j := fun hh => tw_end hall hh
    by_cases hlt : j < n
    · obtain ⟨x, hx, hstep, hmem⟩ := take_on16 (l := l) (j := j) (by omega)
      obtain ⟨b, o, rfl, hr⟩ := H.out (by omega)
      have hcx : wr.cell? ⟨b, o + j, none⟩ = some (.string x) := by rw [hbel.cell hr.1]; exact hr.2 j x hx
      by_cases hxs : x = s
      · subst hxs
        have hle : leT x x = true := by unfold leT; simp
        have NX := Lib.hid (tw_step hall hx hle)
        have HST := Lib.hid hstep
        have OW := Lib.hid hown
        have HB := Lib.hid hbel
        clear hall hx hstep hmem hown hr fin hle
        go_wp2_with (first
          | (at_builtin; refine wpList_append_own_at _ rfl _ _ 22 rfl w.heap.size 9 i0 (.string ⟨#[]⟩) 1 16 Tryz.underlying22 hi hz0 hz1 hz2 rfl (by decide) _ j (strs (l.take j)) rfl (OW.out.alloc _) ⟨wr.heap.size, 0, none⟩ 1 1 [.string x] rfl rfl (cell_one_new _ _ _) (by simp [Value.oneCell']) (by unfold maxLen; omega) (by omega) (by simp; omega) ?_)
          | go_in)
        intro v' w1 hown1 hgrow1 _ _
        have hb1 : Below w.heap.size w w1 := (HB.out.alloc hws _).grown hgrow1 (by simp; omega) (fun q hq => (OW.out.lt q hq).1)
        have OW1 := Lib.hid (show w1.ownsRow w.heap.size 9 1 v' (j + 1) (strs (l.take (j + 1))) by rw [HST.out, strs_app]; exact hown1)
        clear hown1 hgrow1
        go_wp2_with fail
        refine ⟨⟨j + 1, by omega, rfl, NX.out, OW1.out, hb1⟩, ?_⟩
        simp [intOf]; omega
      · have t2 : (x.toList == s.toList) = false := by
          rw [beq_eq_false_iff_ne]
          intro e
          rw [Lib.toList_data, Lib.toList_data] at e
          exact hxs (ByteArray.ext (Array.toList_inj.1 e))
        have hlt2 : leT x s = Op.bytesLess x.toList s.toList := by unfold leT ltT; rw [t2, Bool.or_false]
        cases hle : Op.bytesLess x.toList s.toList
        · rw [hle] at hlt2
          have FIN := Lib.hid (fin (fun y hy => by rw [hx] at hy; cases hy; exact hlt2))
          clear hx hstep hmem hr hxs
          have OW := Lib.hid hown
          have HB := Lib.hid hbel
          have SL := last_anyS (some ⟨b, o, none⟩) n c j (by omega) hc
          obtain ⟨vs, hvs⟩ : ∃ vs, Value.slice (if c = j then (some (⟨b, o, none⟩ : Addr)) else (some (⟨b, o, none⟩ : Addr)).map (fun x => x.add j)) (n - j) (c - j) = vs := ⟨_, rfl⟩
          rw [hvs] at SL
          have HVS := Lib.hid hvs
          clear hall hown fin hlt2 hvs
          go_wp2_with (first
            | (at_builtin; refine wpList_append_own_at _ rfl _ _ 22 rfl w.heap.size 9 i0 (.string ⟨#[]⟩) 1 16 Tryz.underlying22 hi hz0 hz1 hz2 rfl (by decide) _ j (strs (l.take j)) rfl (OW.out.alloc _) ⟨wr.heap.size, 0, none⟩ 1 1 [.string s] rfl rfl (cell_one_new _ _ _) (by simp [Value.oneCell']) (by unfold maxLen; omega) (by omega) (by simp; omega) ?_)
            | go_in)
          intro v' w1 hown1 hgrow1 _ _
          have hb1 : Below w.heap.size w w1 := (HB.out.alloc hws _).grown hgrow1 (by simp; omega) (fun q hq => (OW.out.lt q hq).1)
          have hx1 := (show w1.ownsRow w.heap.size 9 1 v' (l.take j ++ [s]).length (strs (l.take j ++ [s])) by rw [strs_app, List.length_append, List.length_take, Nat.min_eq_left (by omega)]; exact hown1)
          have OW1 := Lib.hid hx1
          have HR1 := Lib.hid (by have hh := lies_lastS (HL.out w1 hb1) j (by omega); rw [HVS.out] at hh; exact hh)
          clear hown1 hgrow1 hx1
          go_wp2_with (first
            | (at_builtin; refine wpList_app_str rfl _ _ w.heap.size rfl rfl OW1.out rfl HR1.out (by rw [List.length_append, List.length_take, List.length_drop]; simp; omega) (by have := hb1.size; omega) ?_)
            | go_in)
          intro v2 w2 hown2 hgrow2 _
          have hb2 : Below w.heap.size w w2 := hb1.grown hgrow2 hb1.size (fun q hq => (OW1.out.lt q hq).1)
          have key : ∀ q xs, w2.ownsRow w.heap.size 9 1 v2 q xs → q = (insT l s).length → xs = strs (insT l s) → w2.ownsRow w.heap.size 9 1 v2 (insT l s).length (strs (insT l s)) := by rintro q xs h rfl rfl; exact h
          have OW2 := Lib.hid (key _ _ hown2 (by have := HN.out; rw [insT_length]; (try simp only [List.length_append, List.length_take, List.length_drop, List.length_singleton]); omega) (by first | (rw [FIN.out]; done) | (rw [FIN.out]; simp)))
          clear key
          clear hown2 hgrow2
          go_wp2_with fail
          go_ret
          exact ⟨⟨v2, rfl, OW2.out⟩, hb2⟩
        · rw [hle] at hlt2
          have NX := Lib.hid (tw_step hall hx hlt2)
          have HST := Lib.hid hstep
          have OW := Lib.hid hown
          have HB := Lib.hid hbel
          clear hall hx hstep hmem hown hr fin hlt2 hxs
          go_wp2_with (first
            | (at_builtin; refine wpList_append_own_at _ rfl _ _ 22 rfl w.heap.size 9 i0 (.string ⟨#[]⟩) 1 16 Tryz.underlying22 hi hz0 hz1 hz2 rfl (by decide) _ j (strs (l.take j)) rfl (OW.out.alloc _) ⟨wr.heap.size, 0, none⟩ 1 1 [.string x] rfl rfl (cell_one_new _ _ _) (by simp [Value.oneCell']) (by unfold maxLen; omega) (by omega) (by simp; omega) ?_)
            | go_in)
          intro v' w1 hown1 hgrow1 _ _
          have hb1 : Below w.heap.size w w1 := (HB.out.alloc hws _).grown hgrow1 (by simp; omega) (fun q hq => (OW.out.lt q hq).1)
          have OW1 := Lib.hid (show w1.ownsRow w.heap.size 9 1 v' (j + 1) (strs (l.take (j + 1))) by rw [HST.out, strs_app]; exact hown1)
          clear hown1 hgrow1
          go_wp2_with fail
          refine ⟨⟨j + 1, by omega, rfl, NX.out, OW1.out, hb1⟩, ?_⟩
          simp [intOf]; omega
    · obtain rfl : j = n := by omega
      have FIN := Lib.hid (fin (fun y hy => by rw [List.getElem?_eq_none (by omega)] at hy; cases hy))
      have OW := Lib.hid hown
      have HB := Lib.hid hbel
      have SL := last_anyS a j c j (by omega) hc
      obtain ⟨vs, hvs⟩ : ∃ vs, Value.slice (if c = j then a else a.map (fun x => x.add j)) (j - j) (c - j) = vs := ⟨_, rfl⟩
      rw [hvs] at SL
      have HVS := Lib.hid hvs
      clear hall hown fin hvs
      go_wp2_with (first
        | (at_builtin; refine wpList_append_own_at _ rfl _ _ 22 rfl w.heap.size 9 i0 (.string ⟨#[]⟩) 1 16 Tryz.underlying22 hi hz0 hz1 hz2 rfl (by decide) _ j (strs (l.take j)) rfl (OW.out.alloc _) ⟨wr.heap.size, 0, none⟩ 1 1 [.string s] rfl rfl (cell_one_new _ _ _) (by simp [Value.oneCell']) (by unfold maxLen; omega) (by omega) (by simp; omega) ?_)
        | go_in)
      intro v' w1 hown1 hgrow1 _ _
      have hb1 : Below w.heap.size w w1 := (HB.out.alloc hws _).grown hgrow1 (by simp; omega) (fun q hq => (OW.out.lt q hq).1)
      have hx1 := (show w1.ownsRow w.heap.size 9 1 v' (l.take j ++ [s]).length (strs (l.take j ++ [s])) by rw [strs_app, List.length_append, List.length_take, Nat.min_eq_left (by omega)]; exact hown1)
      have OW1 := Lib.hid hx1
      have HR1 := Lib.hid (by have hh := lies_lastS (HL.out w1 hb1) j (by omega); rw [HVS.out] at hh; exact hh)
      clear hown1 hgrow1 hx1
      go_wp2_with (first
        | (at_builtin; refine wpList_app_str rfl _ _ w.heap.size rfl rfl OW1.out rfl HR1.out (by rw [List.length_append, List.length_take, List.length_drop]; simp; omega) (by have := hb1.size; omega) ?_)
        | go_in)
      intro v2 w2 hown2 hgrow2 _
      have hb2 : Below w.heap.size w w2 := hb1.grown hgrow2 hb1.size (fun q hq => (OW1.out.lt q hq).1)
      have key : ∀ q xs, w2.ownsRow w.heap.size 9 1 v2 q xs → q = (insT l s).length → xs = strs (insT l s) → w2.ownsRow w.heap.size 9 1 v2 (insT l s).length (strs (insT l s)) := by rintro q xs h rfl rfl; exact h
      have OW2 := Lib.hid (key _ _ hown2 (by have := HN.out; rw [insT_length]; (try simp only [List.length_append, List.length_take, List.length_drop, List.length_singleton]); omega) (by first | (rw [FIN.out]; done) | (rw [FIN.out]; simp)))
      clear key
      clear hown2 hgrow2
      go_wp2_with fail
      go_ret
      exact ⟨⟨v2, rfl, OW2.out⟩, hb2⟩
def SrtAt (l : List ByteArray) (u : Bool) (w : World) (v i : Value) (wr : World) : Prop :=
  ∃ j : Nat, j ≤ l.length ∧ i = .int .i64 (j : Int) ∧ wr.ownsRow w.heap.size 9 1 v (sortT (l.take j) u).length (strs (sortT (l.take j) u)) ∧ Below w.heap.size w wr
theorem own_up16 {b1 b2 : Nat} {w : World} {v : Value} {n : Nat} {xs : List Value} (h : w.ownsRow b2 9 1 v n xs) (hb : b1 ≤ b2) : w.ownsRow b1 9 1 v n xs := by
  refine ⟨h.1, h.2.imp id ?_⟩
  rintro ⟨g, cap, cur, h1, h2, h3⟩
  exact ⟨g, cap, cur, h1, Nat.le_trans hb h2, h3⟩
set_option maxHeartbeats 2000000 in
theorem rsorted_c {w : World} {v : Value} {l : List ByteArray} (h : Lies w v l) (hl : l.length ≤ 9000) (un : Bool) :
    Calls Tryz.prog 14 #[v, .bool un] w (GotS w (sortT l un)) := by
  obtain ⟨a, c, rfl, hc, h⟩ := h
  obtain ⟨n, hn⟩ : ∃ n, l.length = n := ⟨_, rfl⟩
  have HN := Lib.hid hn
  have H := Lib.hid (show 1 ≤ n → ∃ b o, a = some ⟨b, o, none⟩ ∧ SRow w b o l from fun h1 => h.elim (fun h0 => by rw [h0] at hn; simp at hn; omega) id)
  rw [hn] at hl hc ⊢
  clear h hn
  go_enter Tryz.func14, Tryz.ntmps14
  go_wp2_with fail
  go_loopw [5, 6] (fun v i wr => SrtAt l un w v i wr) (fun _ i _ => n - (intOf i).toNat)
  case atStart => exact ⟨0, Nat.zero_le _, rfl, World.ownsRow_nil _ _ _ _, Below.refl _ _⟩
  case round =>
    obtain ⟨j, hj, rfl, hown, hbel⟩ := hrel
    have hjn := HN.out
    rw [hjn] at hj
    have hws := hbel.size
    by_cases hlt : j < n
    · obtain ⟨x, hx, hstep, hmem⟩ := take_on16 (l := l) (j := j) (by omega)
      obtain ⟨b, o, rfl, hr⟩ := H.out (by omega)
      have hcx : ∀ u, Below w.heap.size w u → u.cell? ⟨b, o + j, none⟩ = some (.string x) := fun u g => by rw [g.cell hr.1]; exact hr.2 j x hx
      have hsn := sortT_snoc (l.take j) un x
      rw [← hstep] at hsn
      have hle := sortT_le (l.take j) un
      rw [List.length_take] at hle
      generalize sortT (l.take j) un = L at hown hsn hle
      have LI := Lib.hid (fun u (g : Gr wr u) => (lies_own (B := w.heap.size) hown).gr g)
      have hlL : L.length ≤ 9000 := by omega
      have HA := Lib.hid (fun u (g : Gr wr u) => rhas16_c (LI.out u g) (by omega) x)
      have IN := Lib.hid (fun u (g : Gr wr u) => rinsert_c (LI.out u g) (by omega) x)
      have SN := Lib.hid hsn
      have CX := Lib.hid hcx
      have OW := Lib.hid hown
      have HB := Lib.hid hbel
      have d0 := hcx wr hbel
      clear hcx hsn hown hbel hx hstep hmem hr hle
      cases un
      · have GA := Lib.hid (Gr.refl wr)
        have HH : (!false || !hasT L x) = true := rfl
        have PN := Lib.hid (show putT false L x = insT L x by unfold putT; rw [HH]; rfl)
        go_wp2_with fail
        refine (IN.out _ GA.out).mono ?_; rintro e u ⟨⟨v2, rfl, ho⟩, g⟩
        have GU := Lib.hid (GA.out.trans g)
        have OU := Lib.hid (own_up16 ho (Nat.le_trans hws GA.out.size))
        clear ho g
        go_wp2_with fail
        refine ⟨⟨j + 1, by omega, rfl, by rw [SN.out, PN.out]; exact OU.out, Below.trans HB.out (Below.mono GU.out hws)⟩, ?_⟩
        simp [intOf]; omega
      · cases hh : hasT L x
        · rw [hh] at HA
          have HH : (!true || !hasT L x) = true := by rw [hh]; rfl
          go_wp2_with fail
          refine (HA.out _ (Gr.refl _)).mono ?_; rintro e u0 ⟨rfl, rfl⟩
          have GA := Lib.hid (Gr.refl wr)
          have PN := Lib.hid (show putT true L x = insT L x by unfold putT; rw [HH]; rfl)
          go_wp2_with fail
          refine (IN.out _ GA.out).mono ?_; rintro e u ⟨⟨v2, rfl, ho⟩, g⟩
          have GU := Lib.hid (GA.out.trans g)
          have OU := Lib.hid (own_up16 ho (Nat.le_trans hws GA.out.size))
          clear ho g
          go_wp2_with fail
          refine ⟨⟨j + 1, by omega, rfl, by rw [SN.out, PN.out]; exact OU.out, Below.trans HB.out (Below.mono GU.out hws)⟩, ?_⟩
          simp [intOf]; omega
        · rw [hh] at HA
          have PN := Lib.hid (show putT true L x = L by unfold putT; rw [hh]; rfl)
          go_wp2_with fail
          refine (HA.out _ (Gr.refl _)).mono ?_; rintro e u0 ⟨rfl, rfl⟩
          go_wp2_with fail
          refine ⟨⟨j + 1, by omega, rfl, by rw [SN.out, PN.out]; exact OW.out, HB.out⟩, ?_⟩
          simp [intOf]; omega
    · obtain rfl : j = n := by omega
      have ht : l.take j = l := List.take_of_length_le (by omega)
      rw [ht] at hown
      have OW := Lib.hid hown
      clear hown
      go_wp2_with fail
      go_ret
      exact ⟨⟨_, rfl, OW.out⟩, hbel⟩
end Go.Proofs.YtjplkmmhjfpdaaaGreatDoor
/- The document's words on lists that rise, and their merge. -/
namespace Go.Proofs.YtjplkmmhjfpdaaaGreatDoor
open Go.RowKit LoPlain RnPlain
set_option linter.unusedVariables false
set_option linter.unusedSimpArgs false
set_option maxRecDepth 20000
theorem own_shape16 {E : TypeId} {base : Nat} {w : World} {v : Value} {n : Nat} {xs : List Value} (h : w.ownsRow base E 1 v n xs) : ∃ a c, v = .slice a n c := by
  rcases h.2 with ⟨rfl, rfl⟩ | ⟨g, cap, cur, rfl, _⟩
  · exact ⟨none, 0, rfl⟩
  · exact ⟨_, cap, rfl⟩
end Go.Proofs.YtjplkmmhjfpdaaaGreatDoor
/- The laws' Few of strings. -/
namespace Go.Proofs.YtjplkmmhjfpdaaaGreatDoor
open Go.RowKit
set_option linter.unusedVariables false
set_option linter.unusedSimpArgs false
set_option maxRecDepth 20000
def few6 (l : List ByteArray) (m : Nat) : Bool := decide (l.length ≤ m) && (l.take m).all (fun s => decide (s.size ≤ 80))
theorem few6_yes {l : List ByteArray} {m : Nat} (h : few6 l m = true) : l.length ≤ m ∧ ∀ s ∈ l, s.size ≤ 80 := by
  unfold few6 at h
  simp only [Bool.and_eq_true, decide_eq_true_eq, List.all_eq_true] at h
  refine ⟨h.1, fun s hs => h.2 s ?_⟩
  rw [List.take_of_length_le h.1]; exact hs
theorem retbF {a b : Bool} (h : a = b) : Ending.returned (.bool a) = .returned (.bool b) := by rw [h]
def Few6At (l : List ByteArray) (m : Nat) (w : World) (i : Value) (wr : World) : Prop := ∃ j : Nat, j ≤ m ∧ j ≤ l.length ∧ i = .int .i64 j ∧ wr = w ∧ (l.take j).all (fun s => decide (s.size ≤ 80)) = true
theorem few6_c {w : World} {v : Value} {l : List ByteArray} (h : Lies w v l) (m : Nat) (hm : m ≤ 100) (hl : l.length ≤ 9223372036854775807) :
    Calls Tryz.prog 6 #[v, .int .i64 (m : Int)] w fun e w' => e = .returned (.bool (few6 l m)) ∧ w = w' := by
  obtain ⟨a, c, rfl, hc, h⟩ := h
  obtain ⟨n, hn⟩ : ∃ n, l.length = n := ⟨_, rfl⟩
  have HN := Lib.hid hn
  have H0 : 1 ≤ n → ∃ b off, a = some ⟨b, off, none⟩ ∧ SRow w b off l := fun h1 => h.elim (fun h0 => by rw [h0] at hn; simp at hn; omega) id
  have H := Lib.hid H0
  rw [hn] at hl ⊢
  have hl2 : (n : Int) ≤ 9223372036854775807 := by omega
  clear h hc hn H0 hl
  go_enter Tryz.func6, Tryz.ntmps6
  go_wp2_with fail
  go_loopw [5] (fun i wr => Few6At l m w i wr) (fun i _ => n - (intOf i).toNat)
  case atStart => exact ⟨0, Nat.zero_le _, Nat.zero_le _, rfl, rfl, rfl⟩
  case round =>
    obtain ⟨j, hjm, hj, rfl, rfl, hall⟩ := hrel
    have hln := HN.out
    by_cases hlt : j < n
    · by_cases h10 : j < m
      · obtain ⟨x, hx, hstep, hmem⟩ := take_at (l := l) (j := j) (by omega)
        obtain ⟨b, off, rfl, hr⟩ := H.out (by omega)
        have hcx := hr.2 j x hx
        by_cases hz : x.size ≤ 80
        · have hnext : (l.take (j + 1)).all (fun s => decide (s.size ≤ 80)) = true := by rw [hstep, List.all_append, hall]; simpa using hz
          have HX := Lib.hid hnext
          have hz2 : ¬ (80 : Int) < x.size := by omega
          have d1 : (j : Int) < (m : Int) := by omega
          clear hnext hstep hall hx hmem hz hr H
          go_wp2_with fail
          refine ⟨⟨j + 1, by omega, by have := HN.out; omega, rfl, rfl, HX.out⟩, ?_⟩
          simp [intOf]; omega
        · have hno : few6 l m = false := by
            unfold few6
            cases hd : decide (l.length ≤ m)
            · rfl
            · rw [decide_eq_true_iff] at hd
              rw [List.take_of_length_le hd, Bool.true_and, List.all_eq_false]
              exact ⟨x, hmem, by simpa using hz⟩
          have HX := Lib.hid hno
          have hz2 : (80 : Int) < x.size := by omega
          have d1 : (j : Int) < (m : Int) := by omega
          clear hno hstep hall hx hmem hz hr H
          go_wp2_with fail
          go_ret
          exact ⟨retbF HX.out.symm, rfl⟩
      · obtain rfl : j = m := by omega
        have hno : few6 l j = false := by unfold few6; rw [decide_eq_false (by omega)]; rfl
        have HX := Lib.hid hno
        have hx2 : ¬ (n : Int) ≤ (j : Int) := by omega
        clear hno hall H
        go_wp2_with fail
        go_ret
        exact ⟨retbF HX.out.symm, rfl⟩
    · obtain rfl : j = n := by omega
      have hyes : few6 l m = true := by
        unfold few6
        rw [decide_eq_true (by omega), List.take_of_length_le (by omega)]
        rw [List.take_of_length_le (by omega)] at hall
        rw [hall]; rfl
      have HX := Lib.hid hyes
      have hx2 : (j : Int) ≤ (m : Int) := by omega
      clear hyes hall H
      go_wp2_with fail
      go_ret
      exact ⟨retbF HX.out.symm, rfl⟩
end Go.Proofs.YtjplkmmhjfpdaaaGreatDoor
/- Contracts of both Sums. -/
namespace Go.Proofs.YtjplkmmhjfpdaaaGreatDoor
open Go.RowKit CrcPlain OctPlain FramePlain RecPlain
set_option linter.unusedVariables false
set_option linter.unusedSimpArgs false
set_option maxRecDepth 20000
theorem blk_at {w : World} {b : Nat} {c : Array Value} {T : TypeId} (h : w.heap[b]? = some (.cells c T (0, 0))) (i : Nat) : w.cell? ⟨b, i, none⟩ = c[i]? := by simp [World.cell?, h]
theorem blk_free {w : World} {b : Nat} {c : Array Value} {T : TypeId} (h : w.heap[b]? = some (.cells c T (0, 0))) (i : Nat) : w.frozen? ⟨b, i, none⟩ = false := by simp [World.frozen?, h]
theorem blk_lt {w : World} {b : Nat} {o : Obj} (h : w.heap[b]? = some o) : b < w.heap.size := (Array.getElem?_eq_some_iff.1 h).1
theorem blk_set {w : World} {b : Nat} {c : Array Value} {T : TypeId} (h : w.heap[b]? = some (.cells c T (0, 0))) (i : Nat) (u : Value) : (w.setCell ⟨b, i, none⟩ u).heap[b]? = some (.cells (c.setIfInBounds i u) T (0, 0)) := by
  obtain ⟨hlt, hb⟩ := Array.getElem?_eq_some_iff.1 h
  simp only [World.setCell, Array.getElem?_modify, if_true, h]
  rfl
theorem blk_gr {w u : World} {b : Nat} {o : Obj} (h : w.heap[b]? = some o) (g : Gr w u) : u.heap[b]? = some o := (g.block b (blk_lt h)).trans h
theorem blk_other {w : World} {b : Nat} {o : Obj} (h : w.heap[b]? = some o) (a : Addr) (u : Value) (hne : a.block ≠ b) : (w.setCell a u).heap[b]? = some o := by
  rw [Below.heap_setCell _ _ _ _ (fun e => hne e.symm)]; exact h
theorem sumN_nil : sumN [] = 0 := by decide
theorem sumN_snoc (l : List ByteArray) (x : ByteArray) : sumN (l ++ [x]) = more (sumN l) x.data.toList := by
  unfold sumN; rw [cat_snoc, more_app]
theorem two_blks (w : World) (o p : Obj) : ((w.alloc o).alloc p).heap[w.heap.size]? = some o ∧ ((w.alloc o).alloc p).heap[w.heap.size + 1]? = some p ∧ Below w.heap.size w ((w.alloc o).alloc p) := by
  refine ⟨(Below.heap_alloc _ _ _ (by simp)).trans (heap_alloc_new w _), ?_, ((Gr.refl w).alloc (Nat.le_refl _) _).alloc (by simp) _⟩
  have := heap_alloc_new (w.alloc o) p
  rwa [World.size_alloc] at this
def SumAt (L : List ByteArray) (n : Nat) (w : World) (i : Value) (wr : World) : Prop :=
  ∃ j : Nat, j ≤ n ∧ i = .int .i64 j ∧ wr.heap[w.heap.size]? = some (.cells #[.int .i64 0, .int .u32 0] 37 (0, 0)) ∧ wr.heap[w.heap.size + 1]? = some (.cells #[.int .i64 n, .int .u32 (sumN (L.take j) : Nat)] 37 (0, 0)) ∧ Below w.heap.size w wr
def SumGot (L : List ByteArray) (w : World) (e : Ending) (w' : World) : Prop := e = .returned (.agg #[.int .i64 (L.length : Nat), .int .u32 (sumN L : Nat)]) ∧ Gr w w'
theorem sum_start (L : List ByteArray) (n : Nat) (w : World) : SumAt L n w (.int .i64 0) ((w.alloc (.cells #[.int .i64 0, .int .u32 0] 37)).alloc (.cells #[.int .i64 n, .int .u32 0] 37)) := by
  obtain ⟨h1, h2, h3⟩ := two_blks w (.cells #[.int .i64 0, .int .u32 0] 37) (.cells #[.int .i64 n, .int .u32 0] 37)
  refine ⟨0, Nat.zero_le _, rfl, h1, ?_, h3⟩
  rw [List.take_zero, sumN_nil]; exact h2
theorem sum_next {L : List ByteArray} {n j : Nat} {w wr u : World} (hj : j < n) (r0 : wr.heap[w.heap.size]? = some (.cells #[.int .i64 0, .int .u32 0] 37 (0, 0)))
    (r1 : wr.heap[w.heap.size + 1]? = some (.cells #[.int .i64 n, .int .u32 (sumN (L.take j) : Nat)] 37 (0, 0))) (hb : Below w.heap.size w wr) (g : Gr wr u) (m : Nat) (hm : m = sumN (L.take (j + 1))) :
    SumAt L n w (.int .i64 ((j : Int) + 1)) (u.setCell ⟨w.heap.size + 1, 1, none⟩ (.int .u32 (m : Nat))) := by
  subst hm
  refine ⟨j + 1, hj, rfl, blk_other (blk_gr r0 g) _ _ (by simp), by simpa using blk_set (blk_gr r1 g) 1 (.int .u32 (sumN (L.take (j + 1)) : Nat)), ?_⟩
  exact ((Gr.of hb).trans g).setCell (p := ⟨w.heap.size + 1, 1, none⟩) (by simp) _
set_option maxRecDepth 20000 in
set_option maxHeartbeats 2000000 in
theorem rsum_c {w : World} {v : Value} {L : List ByteArray} (h : Lies w v L) (hl : L.length ≤ 1000000) (hz : ∀ s ∈ L, s.size ≤ 1000) :
    Calls Tryz.prog 18 #[v] w (SumGot L w) := by
  obtain ⟨a, c, rfl, hc, h⟩ := h
  obtain ⟨n, hn⟩ : ∃ n, L.length = n := ⟨_, rfl⟩
  have HN := Lib.hid hn
  have H0 : 1 ≤ n → ∃ b off, a = some ⟨b, off, none⟩ ∧ SRow w b off L := fun h1 => h.elim (fun h0 => by rw [h0] at hn; simp at hn; omega) id
  have H := Lib.hid H0
  have HZ := Lib.hid hz
  have hst := sum_start L n w
  rw [hn] at hl ⊢
  clear h hc hn H0 hz
  go_enter Tryz.func18, Tryz.ntmps18
  go_wp2_with fail
  go_loopw [4] (fun i wr => SumAt L n w i wr) (fun i _ => n - (intOf i).toNat)
  case atStart => exact hst
  case round =>
    clear hst
    obtain ⟨j, hj, rfl, r0, r1, hb⟩ := hrel
    have hln := HN.out
    by_cases hlt : j < n
    · obtain ⟨x, hx, hstep, hmem⟩ := take_at (l := L) (j := j) (by omega)
      obtain ⟨b, off, rfl, hr⟩ := H.out (by omega)
      have hcx : wr.cell? ⟨b, off + j, none⟩ = some (.string x) := by rw [hb.cell hr.1]; exact hr.2 j x hx
      have M := fun w => rmore_c (sumN (L.take j)) (sumN_lt _) x (HZ.out x hmem) w
      have hs := sumN_snoc (L.take j) x
      rw [← hstep] at hs
      have HS := Lib.hid hs.symm
      have c1 : wr.cell? ⟨w.heap.size + 1, 1, none⟩ = some (.int .u32 (sumN (L.take j) : Nat)) := by rw [blk_at r1]; rfl
      have hk : ∀ u, Gr wr u → u.cell? ⟨w.heap.size + 1, 1, none⟩ = some (.int .u32 (sumN (L.take j) : Nat)) ∧ u.frozen? ⟨w.heap.size + 1, 1, none⟩ = false :=
        fun u g => ⟨by rw [blk_at (blk_gr r1 g)]; rfl, blk_free (blk_gr r1 g) 1⟩
      have HK := Lib.hid hk
      have R0 := Lib.hid r0
      have R1 := Lib.hid r1
      have hbs0 : ∀ u, Gr wr u → ∀ m : Nat, m = sumN (L.take (j + 1)) → SumAt L n w (.int .i64 ((j : Int) + 1)) (u.setCell ⟨w.heap.size + 1, 1, none⟩ (.int .u32 (m : Nat))) := fun u g m hm => sum_next hlt r0 r1 hb g m hm
      have hbs := Lib.hid hbs0
      obtain ⟨m, hm⟩ : ∃ m, m = more (sumN (L.take j)) x.data.toList := ⟨_, rfl⟩
      rw [← hm] at M HS
      have HM := Lib.hid hm
      have MM := Lib.hid (fun w => (M w).mono fun e w' h => (show e = .returned (.int .u32 (m : Nat)) ∧ w' = w from ⟨h.1, h.2.symm⟩))
      have hl2 : (n : Int) ≤ 1000000 := by omega
      clear hm hs hbs0 hstep hmem hx hk r0 r1 hr H HZ M hl
      go_wp2_with fail
      obtain ⟨d1, f1⟩ := HK.out wr (Gr.refl _)
      refine wp_region_still_tail 8 (by kernel_rfl) (by kernel_rfl) ?_
      simp only [List.take_succ_cons, List.take_zero, List.drop_succ_cons, List.drop_zero]
      still_step
      still_step
      still_step
      still_step
      still_step
      still_step
      still_call (MM.out wr.drew)
      still_step
      refine wpStill_nil ?_
      change wpList _ _ _ _ _ wr.drew
      have f2 : wr.drew.frozen? ⟨w.heap.size + 1, 1, none⟩ = false := f1
      have d2 : wr.drew.cell? ⟨w.heap.size + 1, 1, none⟩ = some (.int .u32 (sumN (L.take j) : Nat)) := d1
      go_wp2_with fail
      refine ⟨hbs.out wr.drew (Gr.refl wr).drew m HS.out, ?_⟩
      simp [intOf]; omega
    · obtain rfl : j = n := by omega
      have hte : L.take j = L := List.take_of_length_le (by omega)
      rw [hte] at r1
      obtain ⟨m, hm⟩ : ∃ m, m = sumN L := ⟨_, rfl⟩
      rw [← hm] at r1
      have hw : Two w w.heap.size (.int .i64 0) (.int .u32 0) wr := ⟨blk_lt r0, by rw [blk_at r0]; rfl, by rw [blk_at r0]; rfl, blk_free r0 0, blk_free r0 1⟩
      obtain ⟨W, hW, d0, d1, gW⟩ := two_set hw (.int .i64 (j : Nat)) (.int .u32 (m : Nat)) (Gr.of hb) (Nat.le_refl _)
      have e0 : wr.cell? ⟨w.heap.size + 1, 0, none⟩ = some (.int .i64 (j : Nat)) := by rw [blk_at r1]; rfl
      have e1 : wr.cell? ⟨w.heap.size + 1, 1, none⟩ = some (.int .u32 (m : Nat)) := by rw [blk_at r1]; rfl
      obtain ⟨hlt2, c0, c1, f0, f1⟩ := hw
      have HW := Lib.hid hW
      have HM := Lib.hid hm
      clear hW r0 r1 hm hte H HZ
      go_wp2_with fail
      rw [← HW.out]
      exact bodyPost_ret (v := .agg #[.int .i64 (j : Nat), .int .u32 (m : Nat)]) (by simp [results, Tryz.results18, go_sem, d0, d1]) rfl ⟨by rw [hln, HM.out], gW⟩
end Go.Proofs.YtjplkmmhjfpdaaaGreatDoor
/- A range over a function that hands out what lies in new memory: the loop's body is told what holds of it then (Pr). Beside the library's law: there a body knows of a value no more than its type. -/
namespace Go.Proofs.YtjplkmmhjfpdaaaGreatDoor
open Go.RowKit
set_option linter.unusedVariables false
set_option linter.unusedSimpArgs false
set_option maxRecDepth 20000
def SeqTold {α : Type} (n : Nat) (P : Program) (g : Nat) (lb : Array Value) (encs : α → Array Value) (Pr : List α → α → World → Prop) (Kp : World → World → Prop) (S Sp : List α → Prop) (w : World) : Prop :=
  ∀ (l : Nat) (J Jx : List α → World → Prop) (W : World), Below w.heap.size w W → (∀ s A B, J s A → Gr A B → J s B) →
    (∀ pre x W1, J pre W1 → Pr pre x W1 → YieldAt Fence.wide (n - 1) P l (encs x) W1 fun e W' =>
      (e = .returned (.bool true) ∧ J (pre ++ [x]) W' ∧ Kp W1 W') ∨ (e = .returned (.bool false) ∧ Jx (pre ++ [x]) W')) →
    J [] W →
    CallsIn Fence.wide n P g (#[.func (.yield l) #[] #[]] ++ lb) W fun e W' => (∃ v, e = .returned v) ∧ ((∃ xs, S xs ∧ J xs W') ∨ (∃ pre, Sp pre ∧ Jx pre W'))
def LoopAt (l D : Nat) (r : Loop) (W : World) : Prop := W.heap[l]? = some (.loop r) ∧ W.heap[D]? = some (.deferred (some []))
theorem LoopAt.turn {l D : Nat} {r : Loop} {W : World} (h : LoopAt l D r W) (hne : l ≠ D) (r' : Loop) : LoopAt l D r' (W.putObj l (.loop r')) :=
  ⟨World.putObj_heap_same (Array.getElem?_eq_some_iff.1 h.1).1, (World.putObj_heap_other (Ne.symm hne)).trans h.2⟩
theorem LoopAt.kept {C l D : Nat} {r : Loop} {A B : World} (h : LoopAt l D r A) (hl : C ≤ l) (hD : C ≤ D) (k : KeepsFrom C A B) : LoopAt l D r B := ⟨k.same _ _ hl h.1 rfl, k.same _ _ hD h.2 rfl⟩
theorem LoopAt.gr {l D : Nat} {r : Loop} {A B : World} (h : LoopAt l D r A) (g : Gr A B) : LoopAt l D r B :=
  ⟨(g.block l (Array.getElem?_eq_some_iff.1 h.1).1).trans h.1, (g.block D (Array.getElem?_eq_some_iff.1 h.2).1).trans h.2⟩
def JumpOf : Exit → Option (Option Code)
  | .normal => some none
  | .ret => some (some .ret)
  | .exit id => some (some (.exit id))
  | .goto t => some (some (.goto t))
  | .panic _ => none
  | .outgrown => none
section
variable {α : Type} {n : Nat} {P : Program} {gf : Nat} {lb : Array Value} {encs : α → Array Value} {Pr : List α → α → World → Prop} {Kp : World → World → Prop} {S Sp : List α → Prop}
end
end Go.Proofs.YtjplkmmhjfpdaaaGreatDoor
/- slices.Chunk of a slice of strings, by fours: its call, and its iterator. -/
namespace Go.Proofs.YtjplkmmhjfpdaaaGreatDoor
open Go.RowKit Go.Shelf CrcPlain OctPlain FramePlain RecPlain
set_option linter.unusedVariables false
set_option linter.unusedSimpArgs false
set_option maxRecDepth 20000
attribute [local go_sem] Oper.semAt_some
def fourV (b off n j : Nat) : Value := .slice (some ⟨b, off + 4 * j, none⟩) (min 4 (n - 4 * j)) (min 4 (n - 4 * j))
theorem addr_add (b off j : Nat) : Addr.add ⟨b, off, none⟩ j = ⟨b, off + j, none⟩ := by by_cases h : j = 0 <;> simp [Addr.add, h]
theorem from_run (b off n c i : Nat) (h1 : i < n) (h2 : n ≤ c) (w : World) :
    (Instr.slice 22 (.slice (some ⟨b, off, none⟩) n c) (some (.int .i64 (i : Int))) none none).run Tryz.prog w = .ok (.slice (some ⟨b, off + i, none⟩) (n - i) (c - i)) w := by
  have hne : c ≠ i := by omega
  have h3 : (i : Int) ≤ (n : Int) := by omega
  have h4 : i ≤ n := by omega
  simp [Instr.slice, Instr.sliceBounds, run_underlying Tryz.underlying22, run_underlying Tryz.underlying9, go_sem, sliced, hne, h3, h4, addr_add, show Tryz.prog.cellsOf 9 = 1 by kernel_rfl]
theorem full_run (b off n c i e : Nat) (h1 : 1 ≤ e) (h2 : i + e ≤ n) (h3 : n ≤ c) (w : World) :
    (Instr.slice 22 (.slice (some ⟨b, off, none⟩) n c) (some (.int .i64 (i : Int))) (some (.int .i64 ((i : Int) + (e : Int)))) (some (.int .i64 ((i : Int) + (e : Int))))).run Tryz.prog w = .ok (.slice (some ⟨b, off + i, none⟩) e e) w := by
  have hne : i + e ≠ i := by omega
  have k1 : (i : Int) + (e : Int) ≤ (c : Int) := by omega
  have k2 : (i : Int) ≤ (i : Int) + (e : Int) := by omega
  have k3 : ((i : Int) + (e : Int)).toNat = i + e := by omega
  have k4 : (0 : Int) ≤ (i : Int) + (e : Int) := by omega
  simp [Instr.slice, Instr.sliceBounds, run_underlying Tryz.underlying22, run_underlying Tryz.underlying9, go_sem, sliced, hne, k1, k2, k3, k4, addr_add, show ¬ e = 0 by omega, show Tryz.prog.cellsOf 9 = 1 by kernel_rfl]
def ChunkKeep (Bs Bn : Nat) (W W' : World) : Prop := W.heap.size ≤ W'.heap.size ∧ W'.heap[Bs]? = W.heap[Bs]? ∧ W'.heap[Bn]? = W.heap[Bn]?
end Go.Proofs.YtjplkmmhjfpdaaaGreatDoor
/- strings.Builder of the call's own: WriteString and String, by the library's contracts; a builder as one word. -/
namespace Go.Proofs.YtjplkmmhjfpdaaaGreatDoor
open Go.RowKit FramePlain
set_option linter.unusedVariables false
set_option linter.unusedSimpArgs false
set_option maxRecDepth 20000
def Bld (n0 b : Nat) (l : List UInt8) (w : World) : Prop := Lib.IsBuilderF 240 5 n0 b (Lib.byteCells l) w ∧ n0 ≤ w.heap.size
def BKept (b : Nat) (w w' : World) : Prop := Lib.OthersKept 5 (some b) w w'
theorem BKept.block {b : Nat} {w w' : World} (h : BKept b w w') {k : Nat} {c : Array Value} {T : TypeId} {fz : Nat × Nat} (hk : w.heap[k]? = some (.cells c T fz)) (hb : k ≠ b) (hT : T ≠ 5) : w'.heap[k]? = some (.cells c T fz) :=
  h k _ hk (fun e => hb (Option.some.inj e)) (fun c' fz' e => by injection e with _ e2 _; exact hT e2)
theorem BKept.keeps {b C : Nat} {w w' : World} (h : BKept b w w') (hs : w.heap.size ≤ w'.heap.size) (hb : ∃ c T fz, w.heap[b]? = some (.cells c T fz)) : KeepsFrom C w w' :=
  ⟨hs, fun k o _ hk ho => h k o hk (fun e => by
    obtain ⟨c, T, fz, hc⟩ := hb
    obtain rfl : k = b := Option.some.inj e
    rw [hc] at hk; cases hk; cases ho) (fun c fz e => by rw [e] at ho; cases ho)⟩
theorem Bld.cells {n0 b : Nat} {l : List UInt8} {w : World} (h : Bld n0 b l w) : ∃ c T fz, w.heap[b]? = some (.cells c T fz) := by
  rcases h.1 with h1 | h1
  · obtain ⟨_, v, hb, _⟩ := h1; exact ⟨_, _, _, hb⟩
  · obtain ⟨_, v, hb, _⟩ := h1; exact ⟨_, _, _, hb⟩
theorem Bld.lt {n0 b : Nat} {l : List UInt8} {w : World} (h : Bld n0 b l w) : b < w.heap.size := by
  obtain ⟨c, T, fz, hc⟩ := h.cells
  exact (Array.getElem?_eq_some_iff.1 hc).1
end Go.Proofs.YtjplkmmhjfpdaaaGreatDoor

/- In one text: RnRef, ScKRef, ScKRef2, Must6. -/
import Derived.Test.YtignfbdgpgidpaaGreatDoorK38
import Derived.Test.YtignfbdgpgidpaaGreatDoorK11
import Derived.WalkKit
import Derived.ProofKit
import Derived.OwnWalk
import Derived.Lib.Strings
import Derived.Test.YtignfbdgpgidpaaGreatDoorK36
import Derived.Test.YtignfbdgpgidpaaGreatDoorK35
import Derived.Test.YtignfbdgpgidpaaGreatDoorK15
import Derived.Deep.RegionHeld3
import Derived.Test.YtignfbdgpgidpaaGreatDoorK31
/- The document's names of runs, and its texts in order. -/
namespace Go.Proofs.YtignfbdgpgidpaaGreatDoor
open Go.RowKit RnPlain
set_option linter.unusedVariables false
set_option linter.unusedSimpArgs false
set_option maxRecDepth 20000
theorem ret_s16 {a b : ByteArray} (h : a = b) : Ending.returned (.string a) = .returned (.string b) := by rw [h]
theorem gr16 (w : World) (o : Obj) : Gr w (w.alloc o) := Below.alloc (Below.refl _ _) (Nat.le_refl _) _
theorem dig1 (u : World) (d : Nat) (hd : d < 10) :
    (convert 94 9 (.slice (some ⟨u.heap.size, 0, none⟩) 1 1)).run Tryz.prog (u.alloc (.cells #[.int .u8 (48 + (d : Int))] 5)) = .ok (.string (bs [UInt8.ofNat (48 + d)])) (u.alloc (.cells #[.int .u8 (48 + (d : Int))] 5)) := by
  refine conv_list _ _ _ _ rfl ?_
  intro j x hx
  obtain rfl : j = 0 := by
    have := (List.getElem?_eq_some_iff.1 hx).1
    simpa using this
  cases hx
  show World.cell? _ ⟨u.heap.size, 0 + 0, none⟩ = _
  rw [World.cell?_alloc_new]
  have e1 : (UInt8.ofNat (48 + d)).toNat = 48 + d := by rw [UInt8.toNat_ofNat']; omega
  rw [e1]
  rfl
set_option maxHeartbeats 1000000 in
theorem rdigits_c : ∀ (f n : Nat), n < f → n ≤ 1000000 → ∀ w : World, Calls Tryz.prog 109 #[.int .i64 (n : Int)] w fun e w' => e = .returned (.string (bs (digB n))) ∧ Gr w w' := by
  have key : ∀ (n : Nat) (w : World), n ≤ 1000000 → (n < 10 ∨ ∀ u : World, (bs (digB (n / 10))).size ≤ 1000001 ∧ Calls Tryz.prog 109 #[.int .i64 ((n / 10 : Nat) : Int)] u fun e w' => e = .returned (.string (bs (digB (n / 10)))) ∧ Gr u w') →
      Calls Tryz.prog 109 #[.int .i64 (n : Int)] w fun e w' => e = .returned (.string (bs (digB n))) ∧ Gr w w' := by
    intro n w hn hrec
    have C := dig1 w (n % 10) (by omega)
    have q1 : (n : Int).tmod 10 = ((n % 10 : Nat) : Int) := by rw [Int.tmod_eq_emod_of_nonneg (by omega)]; omega
    have q2 : (n : Int).tdiv 10 = ((n / 10 : Nat) : Int) := by rw [Int.tdiv_eq_ediv_of_nonneg (by omega)]; omega
    have hd : n % 10 < 10 := Nat.mod_lt _ (by omega)
    have hz : (bs [UInt8.ofNat (48 + n % 10)]).size = 1 := by rw [bs_size]; rfl
    by_cases h10 : n < 10
    · have HB := Lib.hid (show bs [UInt8.ofNat (48 + n % 10)] = bs (digB n) by rw [digB_small h10, Nat.mod_eq_of_lt h10])
      have t1 : (n : Int) < 10 := by omega
      generalize n % 10 = d at C q1 hd HB hz
      generalize bs [UInt8.ofNat (48 + d)] = t at C HB hz
      have c1 : IntKind.u8.wrap (48 + (d : Int)) = 48 + (d : Int) := IntWalk.u8_in _ (by omega)
      have HG := Lib.hid (gr16 w (.cells #[.int .u8 (48 + (d : Int))] 5))
      clear hrec q2
      go_enter Tryz.func109, Tryz.ntmps109
      go_wp2_with fail
      go_ret
      exact ⟨ret_s16 HB.out, HG.out⟩
    · have HB := Lib.hid (show bs (digB (n / 10)) ++ bs [UInt8.ofNat (48 + n % 10)] = bs (digB n) by rw [digB_big h10, bs_app])
      have R := Lib.hid (hrec.resolve_left h10)
      have t1 : ¬ (n : Int) < 10 := by omega
      have hs := (R.out w).1
      have hm : n / 10 ≤ 1000000 := by omega
      generalize n % 10 = d at C q1 hd HB hz
      generalize n / 10 = m at q2 HB R hs hm
      have w64 : wrap64 (m : Int) = (m : Int) := by unfold wrap64; omega
      generalize bs [UInt8.ofNat (48 + d)] = t at C HB hz
      generalize bs (digB m) = s at R HB hs
      have c1 : IntKind.u8.wrap (48 + (d : Int)) = 48 + (d : Int) := IntWalk.u8_in _ (by omega)
      have HG := Lib.hid (gr16 w (.cells #[.int .u8 (48 + (d : Int))] 5))
      have hcat : (s.size : Int) + t.size ≤ 9223372036854775807 := by omega
      clear hrec
      go_enter Tryz.func109, Tryz.ntmps109
      go_wp2_with fail
      refine (R.out _).2.mono ?_; rintro e u ⟨rfl, g⟩
      go_wp2_with fail
      go_ret
      exact ⟨ret_s16 HB.out, HG.out.trans g⟩
  intro f
  induction f with
  | zero => intro n h; omega
  | succ f ih =>
    intro n hf hn w
    by_cases h10 : n < 10
    · exact key n w hn (.inl h10)
    · refine key n w hn (.inr fun u => ⟨?_, ih (n / 10) (by omega) (by omega) u⟩)
      have := digB_le (n / 10 + 1) (n / 10) (by omega)
      rw [bs_size]; omega
set_option maxHeartbeats 1000000 in
theorem rname16_c (s : ByteArray) (i : Int) (hi : i ≤ 1000000) (hs : s.size ≤ 100000) (w : World) :
    Calls Tryz.prog 81 #[.string s, .int .i64 i] w fun e w' => e = .returned (.string (nameN s i)) ∧ Gr w w' := by
  by_cases h0 : i < 0
  · have HE := Lib.hid (show nameN s i = ⟨#[]⟩ by unfold nameN; rw [if_pos h0])
    go_enter Tryz.func81, Tryz.ntmps81
    go_wp2_with fail
    go_ret
    exact ⟨ret_s16 HE.out.symm, Gr.refl _⟩
  · obtain ⟨n, rfl⟩ : ∃ n : Nat, i = (n : Int) := ⟨i.toNat, by omega⟩
    have HE := Lib.hid (show nameN s (n : Int) = (s ++ bs [46]) ++ bs (digB n) by unfold nameN; rw [if_neg h0, Int.toNat_natCast])
    have D := Lib.hid (fun u => rdigits_c (n + 1) n (by omega) (by omega) u)
    have hl := digB_le (n + 1) n (by omega)
    have hz : (bs (digB n)).size ≤ 1000001 := by rw [bs_size]; omega
    have hz1 : (bs [46]).size = 1 := by rw [bs_size]; rfl
    have cat1 : ∀ u : World, (Op.stringOp .add s ⟨#[46]⟩).run Tryz.prog u = .ok (.string (s ++ bs [46])) u := fun u => run_string_add_sum u _ _ (by have : (⟨#[46]⟩ : ByteArray).size = 1 := rfl; omega)
    have cat2 : ∀ u : World, (Op.stringOp .add (s ++ bs [46]) (bs (digB n))).run Tryz.prog u = .ok (.string ((s ++ bs [46]) ++ bs (digB n))) u := fun u => run_string_add_sum u _ _ (by rw [ByteArray.size_append, hz1]; omega)
    generalize s ++ bs [46] = s1 at cat1 cat2 HE
    generalize bs (digB n) = t at D hz cat2 HE
    generalize s1 ++ t = r at cat2 HE
    clear hl
    go_enter Tryz.func81, Tryz.ntmps81
    go_wp2_with fail
    refine (D.out _).mono ?_; rintro e u ⟨rfl, g⟩
    go_wp2_with fail
    go_ret
    exact ⟨ret_s16 HE.out.symm, g⟩
end Go.Proofs.YtignfbdgpgidpaaGreatDoor
/- The document's layer 21: Right, Graph, Files. -/
namespace Go.Proofs.YtignfbdgpgidpaaGreatDoor
open Go.RowKit FsPlain MnPlain RnPlain StPlain
set_option linter.unusedVariables false
set_option linter.unusedSimpArgs false
set_option maxRecDepth 20000
theorem rightP_not {s p r : Int} (h : ¬ ((1 ≤ r ∧ r ≤ 64) ∧ (((s = 0 ∨ s = 1 ∨ s = 2 ∨ s = 3 ∨ s = 6 ∨ s = 7) ∧ p = 0) ∨ (s = 4 ∧ 1 ≤ p ∧ p < r) ∨ (s = 5 ∧ 1 ≤ p ∧ p ≤ r)))) : rightP s p r = false := decide_eq_false h
set_option maxHeartbeats 4000000 in
theorem rright21_c (s p r : Int) (w : World) : Calls Tryz.prog 15 #[.agg #[.int .i64 s, .int .i64 p], .int .i64 r] w fun e w' => e = .returned (.bool (rightP s p r)) ∧ Gr w w' := by
  have HG := Lib.hid (grst w (.cells #[.int .i64 s, .int .i64 p] 41))
  obtain ⟨R, hR⟩ : ∃ R, rightP s p r = R := ⟨_, rfl⟩
  rw [hR]
  have YES : ((1 ≤ r ∧ r ≤ 64) ∧ (((s = 0 ∨ s = 1 ∨ s = 2 ∨ s = 3 ∨ s = 6 ∨ s = 7) ∧ p = 0) ∨ (s = 4 ∧ 1 ≤ p ∧ p < r) ∨ (s = 5 ∧ 1 ≤ p ∧ p ≤ r))) → R = true := fun h => by rw [← hR]; exact rightP_iff.2 h
  have NO : ¬ ((1 ≤ r ∧ r ≤ 64) ∧ (((s = 0 ∨ s = 1 ∨ s = 2 ∨ s = 3 ∨ s = 6 ∨ s = 7) ∧ p = 0) ∨ (s = 4 ∧ 1 ≤ p ∧ p < r) ∨ (s = 5 ∧ 1 ≤ p ∧ p ≤ r))) → R = false := fun h => by rw [← hR]; exact rightP_not h
  clear hR
  by_cases hr1 : r < 1
  · obtain rfl := NO (by omega)
    clear YES NO
    go_enter Tryz.func15, Tryz.ntmps15
    go_wp2_with fail
    go_ret
    exact ⟨rfl, HG.out⟩
  by_cases hr2 : 64 < r
  · obtain rfl := NO (by omega)
    clear YES NO
    go_enter Tryz.func15, Tryz.ntmps15
    go_wp2_with fail
    go_ret
    exact ⟨rfl, HG.out⟩
  by_cases c0 : s = 0 ∨ s = 1 ∨ s = 2 ∨ s = 3 ∨ s = 6 ∨ s = 7
  · by_cases hp : p = 0
    · obtain rfl := YES (by omega)
      clear YES NO
      subst hp
      rcases c0 with rfl | rfl | rfl | rfl | rfl | rfl <;>
      · go_enter Tryz.func15, Tryz.ntmps15
        go_wp2_with fail
        go_ret
        exact ⟨rfl, HG.out⟩
    · obtain rfl := NO (by omega)
      clear YES NO
      have hp2 : ((p : Int) == 0) = false := by simpa using hp
      rcases c0 with rfl | rfl | rfl | rfl | rfl | rfl <;>
      · go_enter Tryz.func15, Tryz.ntmps15
        go_wp2_with fail
        go_ret
        exact ⟨rfl, HG.out⟩
  by_cases c4 : s = 4
  · by_cases hp1 : 1 ≤ p
    · by_cases hp2 : p < r
      · obtain rfl := YES (by omega)
        clear YES NO c0
        subst c4
        go_enter Tryz.func15, Tryz.ntmps15
        go_wp2_with fail
        go_ret
        exact ⟨rfl, HG.out⟩
      · obtain rfl := NO (by omega)
        clear YES NO c0
        subst c4
        go_enter Tryz.func15, Tryz.ntmps15
        go_wp2_with fail
        go_ret
        exact ⟨rfl, HG.out⟩
    · obtain rfl := NO (by omega)
      clear YES NO c0
      subst c4
      go_enter Tryz.func15, Tryz.ntmps15
      go_wp2_with fail
      go_ret
      exact ⟨rfl, HG.out⟩
  by_cases c5 : s = 5
  · by_cases hp1 : 1 ≤ p
    · by_cases hp2 : p ≤ r
      · obtain rfl := YES (by omega)
        clear YES NO c0 c4
        subst c5
        go_enter Tryz.func15, Tryz.ntmps15
        go_wp2_with fail
        go_ret
        exact ⟨rfl, HG.out⟩
      · obtain rfl := NO (by omega)
        clear YES NO c0 c4
        subst c5
        go_enter Tryz.func15, Tryz.ntmps15
        go_wp2_with fail
        go_ret
        exact ⟨rfl, HG.out⟩
    · obtain rfl := NO (by omega)
      clear YES NO c0 c4
      subst c5
      go_enter Tryz.func15, Tryz.ntmps15
      go_wp2_with fail
      go_ret
      exact ⟨rfl, HG.out⟩
  obtain rfl := NO (by omega)
  have n0 : ((s : Int) == 0) = false := by simp; omega
  have n1 : ((s : Int) == 1) = false := by simp; omega
  have n2 : ((s : Int) == 2) = false := by simp; omega
  have n3 : ((s : Int) == 3) = false := by simp; omega
  have n4 : ((s : Int) == 4) = false := by simp; omega
  have n5 : ((s : Int) == 5) = false := by simp; omega
  have n6 : ((s : Int) == 6) = false := by simp; omega
  have n7 : ((s : Int) == 7) = false := by simp; omega
  clear YES NO c0 c4 c5
  go_enter Tryz.func15, Tryz.ntmps15
  go_wp2_with fail
  go_ret
  exact ⟨rfl, HG.out⟩
theorem gnB_name (p : Int) : nameN ⟨#[103, 114, 97, 112, 104]⟩ p = gnB p := by
  unfold nameN gnB
  split
  · rfl
  · rw [show (⟨#[103, 114, 97, 112, 104]⟩ : ByteArray) = bs [103, 114, 97, 112, 104] from rfl, bs_app, bs_app]
    rfl
theorem rgraph21_c (p : Int) (hp : p ≤ 1000) (w : World) : Calls Tryz.prog 48 #[.int .i64 p] w fun e w' => e = .returned (.string (gnB p)) ∧ Gr w w' := by
  have C := Lib.hid (fun u => rname16_c ⟨#[103, 114, 97, 112, 104]⟩ p (by omega) (by decide) u)
  rw [gnB_name] at C
  go_enter Tryz.func48, Tryz.ntmps48
  go_wp2_with fail
  refine (C.out _).mono ?_; rintro e u ⟨rfl, g⟩
  go_wp2_with fail
  go_ret
  exact ⟨rfl, g⟩
end Go.Proofs.YtignfbdgpgidpaaGreatDoor
/- The document's layer 21: Files. -/
namespace Go.Proofs.YtignfbdgpgidpaaGreatDoor
open Go.RowKit FsPlain MnPlain RnPlain StPlain
set_option linter.unusedVariables false
set_option linter.unusedSimpArgs false
set_option maxRecDepth 20000
theorem grd2k {a b : World} (g : Gr a b) : Gr a b.drew := g.drew
def KfGot (w : World) (l : List Fl) (e : Ending) (w' : World) : Prop := ∃ (a : Option Addr) (c : Nat), e = .returned (.slice a l.length c) ∧ LiesFl w' (.slice a l.length c) l ∧ NewFl w (.slice a l.length c) ∧ Gr w w'
theorem kf_one {w u : World} (k : Nat) (hk : k = u.heap.size) (g : Gr w u) (x : Fl) : KfGot w [x] (.returned (.slice (some ⟨k, 0, none⟩) 1 1)) (u.alloc (.cells #[.string x.name, .int .i64 x.size, .int .i64 x.count, .int .u32 x.sum] 48)) :=
  by subst hk; exact ⟨_, 1, rfl, lies_new1 u x, fun b n c e => by cases e; exact g.size, g.trans (grst u _)⟩
theorem kf_two {w u : World} (k : Nat) (hk : k = u.heap.size) (g : Gr w u) (x z : Fl) : KfGot w [x, z] (.returned (.slice (some ⟨k, 0, none⟩) 2 2)) (u.alloc (.cells #[.string x.name, .int .i64 x.size, .int .i64 x.count, .int .u32 x.sum, .string z.name, .int .i64 z.size, .int .i64 z.count, .int .u32 z.sum] 48)) :=
  by subst hk; exact ⟨_, 2, rfl, lies_new2 u x z, fun b n c e => by cases e; exact g.size, g.trans (grst u _)⟩
set_option maxHeartbeats 4000000 in
theorem rfiles21_c (s p : Int) (hp : 0 ≤ p ∧ p ≤ 1000) (hs : 1 ≤ s ∧ s ≤ 7) (w : World) : Calls Tryz.prog 17 #[.agg #[.int .i64 s, .int .i64 p]] w (KfGot w (filesP s p)) := by
  have y0 := heap_alloc_new w (.cells #[.int .i64 s, .int .i64 p] 41)
  have g0 := grst w (.cells #[.int .i64 s, .int .i64 p] 41)
  obtain ⟨V, hV⟩ : ∃ V, w.alloc (.cells #[.int .i64 s, .int .i64 p] 41) = V := ⟨_, rfl⟩
  have hVz : V.heap.size = w.heap.size + 1 := by rw [← hV]; simp
  rw [hV] at y0 g0
  have y1 := heap_alloc_new V (.cells #[.string ⟨#[112, 97, 105, 114, 115, 46, 111, 117, 116]⟩, .int .i64 8, .int .i64 0, .int .u32 0] 48)
  have g1 := grst V (.cells #[.string ⟨#[112, 97, 105, 114, 115, 46, 111, 117, 116]⟩, .int .i64 8, .int .i64 0, .int .u32 0] 48)
  obtain ⟨X, hX⟩ : ∃ X, V.alloc (.cells #[.string ⟨#[112, 97, 105, 114, 115, 46, 111, 117, 116]⟩, .int .i64 8, .int .i64 0, .int .u32 0] 48) = X := ⟨_, rfl⟩
  rw [hX, hVz] at y1
  rw [hX] at g1
  have x0 := (Below.block g1 w.heap.size (by omega)).trans y0
  have SX := Lib.hid (show ∀ v, Gr X v → (Gr X v ∧ v.cell? ⟨w.heap.size, 0, none⟩ = some (.int .i64 s) ∧ v.cell? ⟨w.heap.size, 1, none⟩ = some (.int .i64 p) ∧ v.cell? ⟨w.heap.size + 1, 0, none⟩ = some (.string ⟨#[112, 97, 105, 114, 115, 46, 111, 117, 116]⟩) ∧ v.cell? ⟨w.heap.size + 1, 1, none⟩ = some (.int .i64 8) ∧ v.cell? ⟨w.heap.size + 1, 2, none⟩ = some (.int .i64 0) ∧ v.cell? ⟨w.heap.size + 1, 3, none⟩ = some (.int .u32 0)) from fun v g => by
    have e0 := (Below.block g _ (lt_of_block x0)).trans x0
    have e1 := (Below.block g _ (lt_of_block y1)).trans y1
    exact ⟨g, by rw [cells_at e0]; rfl, by rw [cells_at e0]; rfl, by rw [cells_at e1]; rfl, by rw [cells_at e1]; rfl, by rw [cells_at e1]; rfl, by rw [cells_at e1]; rfl⟩)
  have GX := Lib.hid (g0.trans g1)
  have XZ := Lib.hid (show w.heap.size + 1 + 1 = X.heap.size by rw [← hX, World.size_alloc, hVz])
  have GC := Lib.hid (fun v => rgraph21_c p hp.2 v)
  obtain ⟨L, hL⟩ : ∃ L, filesP s p = L := ⟨_, rfl⟩
  rw [hL]
  unfold filesP at hL
  rw [if_neg (by omega)] at hL
  have q1 : ¬ p < 0 := by omega
  have q2 : ¬ 1000 < p := by omega
  have HV := Lib.hid hV
  have HX := Lib.hid hX
  obtain ⟨gp, hgp⟩ : ∃ gp, gnB p = gp := ⟨_, rfl⟩
  have hg0 : gnB 0 = ⟨#[103, 114, 97, 112, 104, 46, 48]⟩ := by
    unfold gnB
    rw [if_neg (by decide), show (0 : Int).toNat = 0 from rfl, digB_small (n := 0) (by decide)]
    rfl
  rw [hgp, hg0] at hL
  rw [hgp] at GC
  obtain ⟨_, a0, a1, a2, a3, a4, a5⟩ := SX.out X (Gr.refl _)
  clear y0 g0 hV hVz y1 g1 hX x0 hgp hg0
  have hcase : s = 1 ∨ s = 2 ∨ s = 3 ∨ s = 6 ∨ s = 7 ∨ s = 4 ∨ s = 5 := by omega
  clear hs
  rcases hcase with rfl | rfl | rfl | rfl | rfl | rfl | rfl
  · obtain rfl : L = [⟨⟨#[99, 101, 108, 108, 115]⟩, 12, 0, 0⟩] := by rw [← hL]; rfl
    go_enter Tryz.func17, Tryz.ntmps17
    go_wp2_with fail
    rw [HV.out, HX.out]
    go_ret
    exact kf_one (w.heap.size + 1 + 1) XZ.out GX.out ⟨⟨#[99, 101, 108, 108, 115]⟩, 12, 0, 0⟩
  · obtain rfl : L = [pairsO] := by rw [← hL]; rfl
    go_enter Tryz.func17, Tryz.ntmps17
    go_wp2_with fail
    rw [HV.out, HX.out]
    go_ret
    exact kf_one (w.heap.size + 1 + 1) XZ.out GX.out pairsO
  · obtain rfl : L = [pairsO, ⟨⟨#[103, 114, 97, 112, 104, 46, 48]⟩, 17, 0, 0⟩] := by rw [← hL]; rfl
    go_enter Tryz.func17, Tryz.ntmps17
    go_wp2_with fail
    rw [HV.out, HX.out]
    go_ret
    exact kf_two (w.heap.size + 1 + 1) XZ.out GX.out pairsO ⟨⟨#[103, 114, 97, 112, 104, 46, 48]⟩, 17, 0, 0⟩
  · obtain rfl : L = [pairsO, ⟨⟨#[103, 114, 97, 112, 104, 46, 111, 117, 116]⟩, 17, 0, 0⟩] := by rw [← hL]; rfl
    go_enter Tryz.func17, Tryz.ntmps17
    go_wp2_with fail
    rw [HV.out, HX.out]
    go_ret
    exact kf_two (w.heap.size + 1 + 1) XZ.out GX.out pairsO ⟨⟨#[103, 114, 97, 112, 104, 46, 111, 117, 116]⟩, 17, 0, 0⟩
  · obtain rfl : L = [⟨⟨#[112, 97, 105, 114, 115]⟩, 8, 0, 0⟩, ⟨⟨#[103, 114, 97, 112, 104]⟩, 17, 0, 0⟩] := by rw [← hL]; rfl
    go_enter Tryz.func17, Tryz.ntmps17
    go_wp2_with fail
    rw [HV.out, HX.out]
    go_ret
    exact kf_two (w.heap.size + 1 + 1) XZ.out GX.out ⟨⟨#[112, 97, 105, 114, 115]⟩, 8, 0, 0⟩ ⟨⟨#[103, 114, 97, 112, 104]⟩, 17, 0, 0⟩
  · obtain rfl : L = [pairsO, ⟨gp, 17, 0, 0⟩] := by rw [← hL]; rfl
    go_enter Tryz.func17, Tryz.ntmps17
    go_wp2_with fail
    rw [HV.out, HX.out]
    go_region_held3 (fun v => Gr X v ∧ v.cell? ⟨w.heap.size, 0, none⟩ = some (.int .i64 4) ∧ v.cell? ⟨w.heap.size, 1, none⟩ = some (.int .i64 p) ∧ v.cell? ⟨w.heap.size + 1, 0, none⟩ = some (.string ⟨#[112, 97, 105, 114, 115, 46, 111, 117, 116]⟩) ∧ v.cell? ⟨w.heap.size + 1, 1, none⟩ = some (.int .i64 8) ∧ v.cell? ⟨w.heap.size + 1, 2, none⟩ = some (.int .i64 0) ∧ v.cell? ⟨w.heap.size + 1, 3, none⟩ = some (.int .u32 0))
      (first | exact SX.out _ (grd2k (by assumption)) | exact SX.out _ (by assumption) | exact SX.out _ (Gr.trans (by assumption) (grst _ _)) | exact SX.out _ (grd2k (Gr.trans (by assumption) (grst _ _))) | go_keep)
      ((go_at_call 48; (with_reducible refine (GC.out _).mono ?_); rintro e t4 ⟨rfl, g4⟩; have q4 : Gr X t4 := Gr.trans (by first | exact grd2k (by assumption) | assumption) g4))
    go_wp2_with fail
    go_ret
    exact kf_two _ rfl (GX.out.trans q4) pairsO ⟨gp, 17, 0, 0⟩
  · obtain rfl : L = [pairsO, ⟨gp, 17, 0, 0⟩] := by rw [← hL]; rfl
    go_enter Tryz.func17, Tryz.ntmps17
    go_wp2_with fail
    rw [HV.out, HX.out]
    go_region_held3 (fun v => Gr X v ∧ v.cell? ⟨w.heap.size, 0, none⟩ = some (.int .i64 5) ∧ v.cell? ⟨w.heap.size, 1, none⟩ = some (.int .i64 p) ∧ v.cell? ⟨w.heap.size + 1, 0, none⟩ = some (.string ⟨#[112, 97, 105, 114, 115, 46, 111, 117, 116]⟩) ∧ v.cell? ⟨w.heap.size + 1, 1, none⟩ = some (.int .i64 8) ∧ v.cell? ⟨w.heap.size + 1, 2, none⟩ = some (.int .i64 0) ∧ v.cell? ⟨w.heap.size + 1, 3, none⟩ = some (.int .u32 0))
      (first | exact SX.out _ (grd2k (by assumption)) | exact SX.out _ (by assumption) | exact SX.out _ (Gr.trans (by assumption) (grst _ _)) | exact SX.out _ (grd2k (Gr.trans (by assumption) (grst _ _))) | go_keep)
      ((go_at_call 48; (with_reducible refine (GC.out _).mono ?_); rintro e t4 ⟨rfl, g4⟩; have q4 : Gr X t4 := Gr.trans (by first | exact grd2k (by assumption) | assumption) g4))
    go_wp2_with fail
    go_ret
    exact kf_two _ rfl (GX.out.trans q4) pairsO ⟨gp, 17, 0, 0⟩
end Go.Proofs.YtignfbdgpgidpaaGreatDoor
/- The document's file of records, that is there. -/
namespace Go.Proofs.YtignfbdgpgidpaaGreatDoor
open Go.RowKit CrcPlain OctPlain FramePlain RecPlain
set_option linter.unusedVariables false
set_option linter.unusedSimpArgs false
set_option maxRecDepth 20000
theorem must6_c {w : World} {v : Value} {L : List ByteArray} (h : Lies w v L) (size : Int) (hk : I64 size) (hl : L.length ≤ 3000) (hz : ∀ s ∈ L, s.size ≤ 1000) :
    Calls Tryz.prog 21 #[.int .i64 size, v] w fun e w' => e = .returned (.string (layR size L)) ∧ Gr w w' := by
  have C := Lib.hid (rlay_c h size hk hl hz)
  clear h
  go_enter Tryz.func21, Tryz.ntmps21
  go_wp2_with fail
  refine C.out.mono ?_; rintro e u ⟨rfl, g⟩
  go_wp2_with fail
  go_ret
  exact ⟨rfl, g⟩
end Go.Proofs.YtignfbdgpgidpaaGreatDoor

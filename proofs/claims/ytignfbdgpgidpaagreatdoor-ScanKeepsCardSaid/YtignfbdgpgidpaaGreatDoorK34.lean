/- In one text: ScWr, Dig. -/
import Derived.Test.YtignfbdgpgidpaaGreatDoorK32
import Derived.Test.YtignfbdgpgidpaaGreatDoorK19
import Derived.Test.YtignfbdgpgidpaaGreatDoorK15
import Derived.Test.YtignfbdgpgidpaaGreatDoorK23
import Derived.Test.YtignfbdgpgidpaaGreatDoorK00
import Derived.Lib.ItoaNum
/- The program's Where and Keeps, of files that are there under their names. -/
namespace Go.Proofs.YtignfbdgpgidpaaGreatDoor
open Go.RowKit FsPlain MnPlain ScPlain Go.Maps
set_option linter.unusedVariables false
set_option linter.unusedSimpArgs false
set_option maxRecDepth 20000
theorem newFl_own {w u : World} {v : Value} {n : Nat} {xs : List Value} (h : u.ownsRow w.heap.size 48 4 v n xs) : NewFl w v := fun b k c e => (h.lt b.block (by rw [e]; rfl)).1
set_option maxHeartbeats 8000000 in
theorem where22_c (m : Mn) {a : Option Addr} {n c : Nat} (tv : Value) (there : List ByteArray) (w : World) (h : LiesFl w (.slice a n c) m.files) (ht : Lies w tv there) (htl : there.length ≤ 1000000) (hts : ∀ x ∈ there, x.size ≤ maxLen) (hl : m.files.length ≤ 1000000) (hN : ∀ f ∈ m.files, f.name.size ≤ 1000) (hin : ∀ f ∈ m.files, hasB there f.name = true) :
    Calls Tryz.prog 76 #[.agg #[.int .i64 m.stage, .int .i64 m.pass, .slice a n c], tv] w fun e w' => ∃ v, e = .returned v ∧ LiesFl w' v m.files ∧ NewFl w v ∧ Gr w w' := by
  have hn := lies_len h
  subst hn
  obtain ⟨i0, hi, hz0, hz1, hz2⟩ := info_parts infoFl
  obtain ⟨V, hV⟩ : ∃ V, V = w.alloc (.cells #[.int .i64 m.stage, .int .i64 m.pass, .slice a m.files.length c] 27) := ⟨_, rfl⟩
  have gV : Gr w V := by rw [hV]; exact gr19 w _
  have y0 : V.heap[w.heap.size]? = some (.cells #[.int .i64 m.stage, .int .i64 m.pass, .slice a m.files.length c] 27 (0, 0)) := by rw [hV]; exact heap_alloc_new w _
  have hVz : w.heap.size < V.heap.size := by rw [hV]; simp
  have SC := Lib.hid (set22_c tv there V (ht.gr gV) htl hts)
  have A2 := Lib.hid (fun u (g : Gr V u) => (by rw [cells_at ((Below.block g _ hVz).trans y0)]; rfl : u.cell? ⟨w.heap.size, 2, none⟩ = some (.slice a m.files.length c)))
  have KH := Lib.hid (show ∀ u, Gr w u → LiesFl u (.slice a m.files.length c) m.files from fun u q => h.gr q)
  have HN := Lib.hid hN
  have HIN := Lib.hid hin
  have HV := Lib.hid hV
  have GV0 := Lib.hid gV
  have hbI : ∀ k, k ≤ m.files.length → (k + 1) * 40 ≤ 140737488355328 ∧ k + 1 ≤ maxLen := fun k hk => ⟨by omega, by unfold maxLen; omega⟩
  clear h ht y0 hVz hV gV hN hin hts htl
  go_enter Tryz.func76, Tryz.ntmps76
  go_wp2_with fail
  rw [← HV.out]
  refine SC.out.mono ?_; rintro e W ⟨Y, rfl, hY, hYn, g2⟩
  have GW := Lib.hid (GV0.out.trans g2)
  have SY := Lib.hid (fun u (g : Gr W u) => hY.gr g)
  have a2 := A2.out W g2
  have ST := Lib.hid (show WpAt m W (.slice none 0 0) (.int .i64 0) W from ⟨0, Nat.zero_le _, rfl, World.ownsRow_nil _ _ _ _, Gr.refl _⟩)
  clear hY hYn g2 SC A2
  go_wp2_with fail
  go_loopw [6, 16] (fun vf vi wr => WpAt m W vf vi wr) (fun _ vi _ => m.files.length - (intOf vi).toNat)
  case atStart => exact ST.out
  case round =>
    clear ST a2
    obtain ⟨i, hi1, rfl, hown, gr⟩ := hrel
    by_cases hlt : i < m.files.length
    · have q1 : (i : Int) < (m.files.length : Int) := by omega
      obtain ⟨_, hc, b, o, rfl, hbl, ⟨k0, k1, k2, k3⟩⟩ := fl_get (KH.out wr (GW.out.trans gr)) hlt
      have htk : m.files.take (i + 1) = m.files.take i ++ [m.files[i]] := by rw [List.take_add_one, List.getElem?_eq_getElem hlt]; rfl
      have hfn := HN.out _ (List.getElem_mem hlt)
      have hfi := HIN.out _ (List.getElem_mem hlt)
      obtain ⟨f, hf⟩ : ∃ f, m.files[i] = f := ⟨_, rfl⟩
      rw [hf] at k0 k1 k2 k3 htk hfn hfi
      have HT := Lib.hid htk
      obtain ⟨L, hL⟩ : ∃ L, m.files.take i = L := ⟨_, rfl⟩
      rw [hL] at hown
      have HL := Lib.hid hL
      have hbI := hbI i (by omega)
      have hmx : (m.files.length : Int) ≤ 9223372036854775807 := by omega
      -- the file's own block
      have z1 := heap_alloc_new wr (.cells #[.string f.name, .int .i64 f.size, .int .i64 f.count, .int .u32 f.sum] 48)
      have gV := gr19 wr (.cells #[.string f.name, .int .i64 f.size, .int .i64 f.count, .int .u32 f.sum] 48)
      obtain ⟨Z, hZ⟩ : ∃ Z, wr.alloc (.cells #[.string f.name, .int .i64 f.size, .int .i64 f.count, .int .u32 f.sum] 48) = Z := ⟨_, rfl⟩
      have hZz : Z.heap.size = wr.heap.size + 1 := by rw [← hZ]; simp
      rw [hZ] at z1 gV
      obtain ⟨z, hz⟩ : ∃ z, wr.heap.size = z := ⟨_, rfl⟩
      have HZ := Lib.hid hZ
      have HZ2 := Lib.hid hz
      rw [hz] at z1 hZz
      have gX := gr19 Z (.cells #[] 90)
      obtain ⟨X, hX⟩ : ∃ X, Z.alloc (.cells #[] 90) = X := ⟨_, rfl⟩
      rw [hX] at gX
      have HX := Lib.hid hX
      have ZB := Lib.hid (fun u (g : Gr Z u) => (Below.block g z (by omega)).trans z1)
      have GZ := Lib.hid gV
      have GX := Lib.hid gX
      obtain ⟨n8, D, hownM, hD, hhas⟩ := SY.out Z (gr.trans gV)
      have hhx := (hhas f.name).trans hfi
      have HO := Lib.hid hownM
      have hkey := WideMaps.keyOf_string_mk (P := Tryz.prog) (k := 9) Tryz.underlying9 (s := f.name) (by unfold maxLen; omega)
      have c0 : Z.cell? ⟨z, 0, none⟩ = some (.string f.name) := by rw [cells_at z1]; rfl
      have CL := Lib.hid (clone_c f.name X hfn)
      have c0x : X.cell? ⟨z, 0, none⟩ = some (.string f.name) := by rw [cells_at (ZB.out X GX.out)]; rfl
      have GR := Lib.hid gr
      have hwz := gr.size
      have hwz2 : W.heap.size ≤ z := by rw [← hz]; exact hwz
      have hown' := Lib.hid hown
      clear htk hf hL hZ hX hownM hD hhas z1 gX hfi gV gr
      go_wp2_with (at_lookup; refine wpList_lookup_own_unit _ rfl _ _ 88 rfl 9 90 lawS Tryz.underlying88 (zeroU22 _) Y n8 D rfl (by rw [HZ.out]; exact HO.out) _ _ rfl hkey ?_; rw [hhx])
      rw [HZ.out, HX.out]
      try rw [HZ2.out]
      refine CL.out.mono ?_; rintro e u ⟨rfl, g3⟩
      have x0 := ZB.out u (GX.out.trans g3)
      have d0 : u.cell? ⟨z, 0, none⟩ = some (.string f.name) := by rw [cells_at x0]; rfl
      have f0 := cells_free x0 0
      obtain ⟨U, hU⟩ : ∃ U, U = u.setCell ⟨z, 0, none⟩ (.string f.name) := ⟨_, rfl⟩
      have u0 : U.heap[z]? = some (.cells #[.string f.name, .int .i64 f.size, .int .i64 f.count, .int .u32 f.sum] 48 (0, 0)) := by rw [hU, cells_set x0 0]; rfl
      have gU : Gr wr U := by
        rw [hU]
        exact Below.setCell (((GZ.out.trans GX.out).trans g3)) (by rw [hz]; exact Nat.le_refl _) _
      have b0 : U.cell? ⟨z, 0, none⟩ = some (.string f.name) := by rw [cells_at u0]; rfl
      have b1 : U.cell? ⟨z, 1, none⟩ = some (.int .i64 f.size) := by rw [cells_at u0]; rfl
      have b2 : U.cell? ⟨z, 2, none⟩ = some (.int .i64 f.count) := by rw [cells_at u0]; rfl
      have b3 : U.cell? ⟨z, 3, none⟩ = some (.int .u32 f.sum) := by rw [cells_at u0]; rfl
      have hownU := ownsRow_gr hown'.out gU
      have hsz := gU.size
      have hU2 := hU.symm
      clear x0 u0 hU g3 CL c0 c0x
      go_wp2_with (first
        | (at_builtin; refine wpList_append_own_at _ rfl _ _ 25 rfl W.heap.size 48 i0 (.agg #[.string ⟨#[]⟩, .int .i64 0, .int .i64 0, .int .u32 0]) 4 40 Tryz.underlying25 hi hz0 hz1 hz2 rfl (by decide) _ _ _ rfl (hownU.alloc _) ⟨U.heap.size, 0, none⟩ 1 1 (flc f) rfl ?c0 ?c1 ?c2 ?c3 ?c4 ?c5 ?_)
        | go_in)
      case c0 => rfl
      case c1 =>
        intro jj y hjz
        rw [add_lit19, World.cell?_alloc_new, List.getElem?_toArray, Nat.zero_add]
        exact hjz
      case c2 => exact flc_one f
      case c3 => exact hbI.2
      case c4 => exact hbI.1
      case c5 => simp only [World.size_alloc]; omega
      intro v' w2 hown2 hgrow _ hat
      have hgW : Gr W w2 := Below.grown (Below.alloc (Below.trans (show Below W.heap.size W wr from GR.out) (Below.mono gU hwz)) (by omega) _) hgrow (by simp only [World.size_alloc]; omega) (fun q hq => (hown'.out.lt q hq).1)
      have NX := Lib.hid (show WpAt m W v' (.int .i64 ((i : Int) + 1)) w2 from ⟨i + 1, by omega, rfl, by rw [HT.out, HL.out, fls_snoc]; exact hown2, hgW⟩)
      clear hown hown2 hownU hgrow hat hgW gU hsz
      go_wp2_with fail
      go_roundw
      case rel => exact NX.out
      case measure => simp [intOf]; omega
    · have hie : i = m.files.length := by omega
      have q1 : ¬ (i : Int) < (m.files.length : Int) := by omega
      rw [hie, List.take_length] at hown
      have HO := Lib.hid hown
      have GR := Lib.hid gr
      clear hown gr
      go_wp2_with fail
      go_ret
      exact ⟨_, rfl, liesFl_own HO.out, (newFl_own HO.out).low GW.out, GW.out.trans GR.out⟩
namespace ScPlain
def inB22 : ByteArray := ⟨#[105, 110, 112, 117, 116]⟩
def cfB22 : ByteArray := ⟨#[99, 111, 110, 102]⟩
def mfB22 : ByteArray := ⟨#[109, 97, 110, 105, 102, 101, 115, 116]⟩
def keepL (l : List Fl) : List ByteArray := [inB22, cfB22, mfB22] ++ l.map fun f => f.name
end ScPlain
theorem keepL_snoc (l : List Fl) (f : Fl) : strs (keepL (l ++ [f])) = strs (keepL l) ++ [.string f.name] := by simp [strs, keepL]
def KpAt (l : List Fl) (V W : World) (vs vi : Value) (wr : World) : Prop := ∃ i : Nat, i ≤ l.length ∧ vi = .int .i64 (i : Int) ∧ wr.ownsRow V.heap.size 9 1 vs (i + 3) (strs (keepL (l.take i))) ∧ (∀ k, vs.ownBlock = some k → k = V.heap.size ∨ W.heap.size ≤ k) ∧ Only (fun k => k = V.heap.size) W wr ∧ Gr V wr
set_option maxHeartbeats 8000000 in
theorem keeps22_c (m : Mn) {a : Option Addr} {n c : Nat} (tv : Value) (there : List ByteArray) (w : World) (h : LiesFl w (.slice a n c) m.files) (ht : Lies w tv there) (htl : there.length ≤ 1000000) (hts : ∀ x ∈ there, x.size ≤ maxLen) (hl : m.files.length ≤ 1000000) (hN : ∀ f ∈ m.files, f.name.size ≤ 1000) (hin : ∀ f ∈ m.files, hasB there f.name = true) :
    Calls Tryz.prog 40 #[.agg #[.int .i64 m.stage, .int .i64 m.pass, .slice a n c], tv] w fun e w' => ∃ v, e = .returned v ∧ Lies w' v (keepL m.files) ∧ (∀ x, v.ownBlock = some x → w.heap.size ≤ x) ∧ Gr w w' := by
  have hn := lies_len h
  subst hn
  obtain ⟨i0, hi, hz0, hz1, hz2⟩ := info_parts infoS
  have y0 := heap_alloc_new w (.cells #[.int .i64 m.stage, .int .i64 m.pass, .slice a m.files.length c] 27)
  have gV := gr19 w (.cells #[.int .i64 m.stage, .int .i64 m.pass, .slice a m.files.length c] 27)
  obtain ⟨V, hV⟩ : ∃ V, w.alloc (.cells #[.int .i64 m.stage, .int .i64 m.pass, .slice a m.files.length c] 27) = V := ⟨_, rfl⟩
  rw [hV] at y0 gV
  have hVz : V.heap.size = w.heap.size + 1 := by rw [← hV]; simp
  have hrow : (V.alloc (.cells #[.string inB22, .string cfB22, .string mfB22] 9)).ownsRow V.heap.size 9 1 (.slice (some ⟨V.heap.size, 0, none⟩) 3 3) 3 (strs (keepL [])) := World.ownsRow_lit V #[.string inB22, .string cfB22, .string mfB22] 3 (Nat.le_refl _) (by decide) rfl
  have gX := gr19 V (.cells #[.string inB22, .string cfB22, .string mfB22] 9)
  obtain ⟨X, hX⟩ : ∃ X, V.alloc (.cells #[.string inB22, .string cfB22, .string mfB22] 9) = X := ⟨_, rfl⟩
  rw [hX] at hrow gX
  have kb : X.heap[w.heap.size]? = some (.cells #[.int .i64 m.stage, .int .i64 m.pass, .slice a m.files.length c] 27 (0, 0)) := (Below.block gX _ (by omega)).trans y0
  have a0 : X.cell? ⟨w.heap.size, 0, none⟩ = some (.int .i64 m.stage) := by rw [cells_at kb]; rfl
  have a1 : X.cell? ⟨w.heap.size, 1, none⟩ = some (.int .i64 m.pass) := by rw [cells_at kb]; rfl
  have a2 : X.cell? ⟨w.heap.size, 2, none⟩ = some (.slice a m.files.length c) := by rw [cells_at kb]; rfl
  have WC := Lib.hid (where22_c m tv there X (h.gr (gV.trans gX)) (ht.gr (gV.trans gX)) htl hts hl hN hin)
  have HV := Lib.hid hV
  have HX := Lib.hid (show V.alloc (.cells #[.string ⟨#[105, 110, 112, 117, 116]⟩, .string ⟨#[99, 111, 110, 102]⟩, .string ⟨#[109, 97, 110, 105, 102, 101, 115, 116]⟩] 9) = X from hX)
  have GV := Lib.hid gV
  have GX := Lib.hid gX
  have HR := Lib.hid hrow
  have hVX : V.heap.size < X.heap.size := by rw [← hX]; simp
  have HVZ := Lib.hid hVz
  clear h ht y0 hVz hV gV hN hin hts htl hrow gX kb hX
  go_enter Tryz.func40, Tryz.ntmps40
  go_wp2_with fail
  rw [HV.out, HX.out]
  rw [← HVZ.out]
  refine WC.out.mono ?_; rintro e W ⟨v, rfl, hlv, hnw, g2⟩
  obtain ⟨va, vc, rfl, _⟩ := id hlv
  obtain ⟨B, hfl, hB⟩ := fl_new hlv hnw
  have KH := Lib.hid (show ∀ u, Only (fun k => k = V.heap.size) W u → LiesFl u (.slice va m.files.length vc) m.files from fun u q => fl_lies ((fr_fl _ _).fr hfl q fun b hb e => by have := hB b hb; omega))
  have GW := Lib.hid g2
  have hVW : V.heap.size ≤ W.heap.size := by have := g2.size; omega
  have ST := Lib.hid (show KpAt m.files V W (.slice (some ⟨V.heap.size, 0, none⟩) 3 3) (.int .i64 0) W from ⟨0, Nat.zero_le _, rfl, ownsRow_gr HR.out g2, fun k hk => by cases hk; exact .inl rfl, Only.refl _ _, GX.out.trans g2⟩)
  have hbI : ∀ k, k ≤ m.files.length → (k + 3 + 1) * 16 ≤ 140737488355328 ∧ k + 3 + 1 ≤ maxLen := fun k hk => ⟨by omega, by unfold maxLen; omega⟩
  clear hlv hnw g2 WC a0 a1 a2 hfl hB
  go_wp2_with fail
  go_loopw [5, 13] (fun vs vi wr => KpAt m.files V W vs vi wr) (fun _ vi _ => m.files.length - (intOf vi).toNat)
  case atStart => exact ST.out
  case round =>
    clear ST
    obtain ⟨i, hi1, rfl, hown, hblk, ho, gr⟩ := hrel
    by_cases hlt : i < m.files.length
    · have q1 : (i : Int) < (m.files.length : Int) := by omega
      obtain ⟨_, hc, b, o, rfl, hbl, ⟨k0, k1, k2, k3⟩⟩ := fl_get (KH.out wr ho) hlt
      have htk : m.files.take (i + 1) = m.files.take i ++ [m.files[i]] := by rw [List.take_add_one, List.getElem?_eq_getElem hlt]; rfl
      obtain ⟨f, hf⟩ : ∃ f, m.files[i] = f := ⟨_, rfl⟩
      rw [hf] at k0 k1 k2 k3 htk
      have HT := Lib.hid htk
      obtain ⟨L, hL⟩ : ∃ L, m.files.take i = L := ⟨_, rfl⟩
      rw [hL] at hown
      have HL := Lib.hid hL
      have hbI := hbI i (by omega)
      have hmx : (m.files.length : Int) ≤ 1000000 := by omega
      have HO := Lib.hid hown
      have HBK := Lib.hid hblk
      have HON := Lib.hid ho
      have GR := Lib.hid gr
      have hwz := gr.size
      have how := ho.size
      clear htk hf hL ho hblk gr
      go_wp2_with (first
        | (at_builtin; refine wpList_append_own_at _ rfl _ _ 23 rfl V.heap.size 9 i0 (.string ⟨#[]⟩) 1 16 Tryz.underlying23 hi hz0 hz1 hz2 rfl (by decide) _ _ _ rfl ((hown.alloc _).alloc _) ⟨wr.heap.size + 1, 0, none⟩ 1 1 [.string f.name] rfl rfl ?c1 ?c2 ?c3 ?c4 ?c5 ?_)
        | go_in)
      try case c1 =>
        intro jj y hjz
        match jj, hjz with
        | 0, hjz => simp at hjz; subst hjz; simp [Addr.add]
      case c2 => first | rfl | (intro y hy; simp at hy; subst hy; rfl)
      try case c3 => exact hbI.2
      try case c4 => exact hbI.1
      case c5 => (try simp only [World.size_alloc]); omega
      intro v' w2 hown2 hgrow _ hat
      have hV2 : V.heap.size ≤ ((wr.alloc (.cells #[.string f.name, .int .i64 f.size, .int .i64 f.count, .int .u32 f.sum] 48)).alloc (.cells #[.string f.name] 9)).heap.size := by simp only [World.size_alloc]; omega
      have gV2 : Gr V w2 := Below.grown ((Below.alloc GR.out hwz _).alloc (by simp only [World.size_alloc]; omega) _) hgrow hV2 (fun q hq => (HO.out.lt q hq).1)
      have oA : Only (fun k => k = V.heap.size) W ((wr.alloc (.cells #[.string f.name, .int .i64 f.size, .int .i64 f.count, .int .u32 f.sum] 48)).alloc (.cells #[.string f.name] 9)) := (HON.out.trans (Only.alloc _ _ _)).trans (Only.alloc _ _ _)
      have oW : Only (fun k => k = V.heap.size) W w2 := oA.andThen (Only.grown (B := fun k => u5.ownBlock = some k) hgrow (fun k e => e)) fun k e => HBK.out k e
      have hat2 : ∀ k, v'.ownBlock = some k → k = V.heap.size ∨ W.heap.size ≤ k := by
        intro k e
        rcases hat with h | h
        · exact HBK.out k (by rw [← h]; exact e)
        · rw [h] at e
          cases e
          exact .inr (by (try simp only [World.size_alloc]); omega)
      have NX := Lib.hid (show KpAt m.files V W v' (.int .i64 ((i : Int) + 1)) w2 from ⟨i + 1, by omega, rfl, by rw [HT.out, HL.out, keepL_snoc, show i + 1 + 3 = i + 3 + 1 by omega]; exact hown2, hat2, oW, gV2⟩)
      clear hown hown2 hgrow hat gV2 oA oW hat2 hV2
      go_wp2_with fail
      go_roundw
      case rel => exact NX.out
      case measure => simp [intOf]; omega
    · have hie : i = m.files.length := by omega
      have q1 : ¬ (i : Int) < (m.files.length : Int) := by omega
      rw [hie, List.take_length] at hown
      have HO := Lib.hid hown
      have GR := Lib.hid gr
      clear hown gr
      go_wp2_with fail
      go_ret
      refine ⟨_, rfl, lies_own (B := V.heap.size) ?_, fun x hx => Nat.le_trans GV.out.size (HO.out.lt x hx).1, GV.out.trans GR.out⟩
      have e : (keepL m.files).length = m.files.length + 3 := by simp [keepL]
      rw [e]
      exact HO.out
end Go.Proofs.YtignfbdgpgidpaaGreatDoor
/- A number's digits. -/
namespace Go.Proofs.YtignfbdgpgidpaaGreatDoor
open Go.RowKit FsPlain
set_option linter.unusedVariables false
set_option linter.unusedSimpArgs false
set_option maxRecDepth 20000
namespace RnPlain
def digB (n : Nat) : List UInt8 := if n < 10 then [UInt8.ofNat (48 + n)] else digB (n / 10) ++ [UInt8.ofNat (48 + n % 10)]
termination_by n
decreasing_by omega
theorem digB_small {n : Nat} (h : n < 10) : digB n = [UInt8.ofNat (48 + n)] := by rw [digB, if_pos h]
theorem digB_big {n : Nat} (h : ¬ n < 10) : digB n = digB (n / 10) ++ [UInt8.ofNat (48 + n % 10)] := by rw [digB, if_neg h]
theorem digB_le : ∀ f n, n < f → (digB n).length ≤ n + 1
  | f + 1, n, h => by
    by_cases h10 : n < 10
    · rw [digB_small h10]; simp
    · rw [digB_big h10, List.length_append]
      have := digB_le f (n / 10) (by omega)
      simp only [List.length_singleton]
      omega
end RnPlain
open RnPlain
theorem dig_right : ∀ f n : Nat, n < f → (digB n).all letterB = true
  | f + 1, n, h => by
    have d : ∀ k : Nat, k < 10 → letterB (UInt8.ofNat (48 + k)) = true := by
      intro k hk
      have : (UInt8.ofNat (48 + k)).toNat = 48 + k := by simp; omega
      unfold letterB
      rw [this]
      simp only [decide_eq_true_eq]
      omega
    by_cases h10 : n < 10
    · rw [digB_small h10, List.all_cons, List.all_nil, d n h10]; rfl
    · rw [digB_big h10, List.all_append, dig_right f (n / 10) (by omega), List.all_cons, List.all_nil, d (n % 10) (by omega)]; rfl
theorem dig_few : ∀ n : Nat, n < 10000 → 1 ≤ (digB n).length ∧ (digB n).length ≤ 4 := by
  intro n hn
  by_cases h1 : n < 10
  · rw [digB_small h1]; simp
  · rw [digB_big h1]
    by_cases h2 : n / 10 < 10
    · rw [digB_small h2]; simp
    · rw [digB_big h2]
      by_cases h3 : n / 10 / 10 < 10
      · rw [digB_small h3]; simp
      · rw [digB_big h3, digB_small (n := n / 10 / 10 / 10) (by omega)]; simp
theorem dec_digB : ∀ (f n : Nat), n < f → Lib.decDigits n = digB n
  | f + 1, n, h => by
    by_cases h10 : n < 10
    · rw [digB_small h10, Lib.decDigits, dif_pos h10]
    · rw [digB_big h10, Lib.decDigits, dif_neg h10, dec_digB f (n / 10) (by omega)]
theorem itoa_digB {i : Int} (h : 0 ≤ i) : Lib.itoa i = digB i.toNat := by
  unfold Lib.itoa
  rw [if_neg (by omega)]
  exact dec_digB (i.toNat + 1) _ (by omega)
end Go.Proofs.YtignfbdgpgidpaaGreatDoor

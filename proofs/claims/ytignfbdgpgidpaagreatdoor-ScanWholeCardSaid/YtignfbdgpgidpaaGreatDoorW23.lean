/- In one text: RfsAppend, RfsNew, RfsRead, RfsSync, RfsRemove, RfsRename, RfsRise, RfsRisen, RfsA, MnPlain, MnFact, MnCut, MnStep. -/
import Derived.Test.YtignfbdgpgidpaaGreatDoorW04
import Derived.Deep.RegionLaw
import Derived.Deep.RegionHeld3
import Derived.Deep.RegionWith
import Derived.Deep.QuietTactic
import Derived.Test.YtignfbdgpgidpaaGreatDoorW20
import Derived.Test.YtignfbdgpgidpaaGreatDoorW05
import Derived.Test.YtignfbdgpgidpaaGreatDoorW00
import Derived.Test.YtignfbdgpgidpaaGreatDoorW09
import Derived.Test.YtignfbdgpgidpaaGreatDoorW07
/- The document's disk: Append. -/
namespace Go.Proofs.YtignfbdgpgidpaaGreatDoor
open Go.RowKit FsPlain
set_option linter.unusedVariables false
set_option linter.unusedSimpArgs false
set_option maxRecDepth 20000
theorem rappend_bad (d : Nat) (nm : List UInt8) (t : ByteArray) (w : World) (hn : rightB nm = false) (hl : nm.length ≤ 1000000) :
    Calls Tryz.prog 32 #[.pointer (some ⟨d, 0, none⟩), .string (bs nm), .string t] w fun e w' => e = .returned (.int .i64 1) ∧ w = w' := by
  have C1 := rright_c (bs nm) (by rw [bs_size]; unfold maxLen; omega) w
  rw [rbs_list, hn] at C1
  have C2 := rcall_no d w
  go_enter Tryz.func32, Tryz.ntmps32
  go_wp2_with fail
  refine (C1).mono ?_; rintro e w2 ⟨rfl, rfl⟩
  go_wp2_with fail
  refine (C2).mono ?_; rintro e w2 ⟨rfl, rfl⟩
  go_wp2_with fail
  go_ret
  exact ⟨rfl, rfl⟩
set_option maxRecDepth 20000 in
set_option maxHeartbeats 4000000 in
theorem rappend_c (d : Nat) (s : St) (nm t : List UInt8) (w : World) {B : Nat → Prop} (hd : RDisk w d s B) (hn : rightB nm = true) (hl : nm.length ≤ 24) (ht : t.length ≤ 1000000000) (hc : s.calls ≤ 1000000000000) :
    Calls Tryz.prog 32 #[.pointer (some ⟨d, 0, none⟩), .string (bs nm), .string (bs t)] w (RDone d B w (appendR s nm t).1 (appendR s nm t).2) := by
  obtain ⟨hok, hsort, v, h, hB⟩ := hd
  have HBB := Lib.hid hB
  clear hB
  have C1 := rright_c (bs nm) (by rw [bs_size]; unfold maxLen; omega) w
  rw [rbs_list, hn] at C1
  have C2 := rcall_yes d s v w h.1 hok.c0 hc hok.a0 hok.a1
  have hokc := ok_call hok
  have hm := hok.m
  have hr0 := hok.r0
  have hr1 := hok.r1
  have hu := hok.u
  have hts : (bs t).size = t.length := bs_size t
  have HOK := Lib.hid hok
  have HOKC := Lib.hid hokc
  have HS := Lib.hid hsort
  have H := Lib.hid h
  clear hok hokc hsort h
  unfold appendR
  cases hdn : s.call.down
  · rw [show s.call.code = 0 by unfold St.code; rw [hdn]; rfl] at C2
    have HDN := Lib.hid hdn
    clear hdn
    cases hg : s.get nm with
    | none =>
      have hp := place_of_none hg
      have HG := Lib.hid hg
      simp only [Bool.false_eq_true, if_false]
      clear hg
      go_enter Tryz.func32, Tryz.ntmps32
      go_wp2_with fail
      refine (C1).mono ?_; rintro e w2 ⟨rfl, rfl⟩
      go_wp2_with fail
      refine (C2).mono ?_; rintro e w2 ⟨rfl, hcd⟩
      have HA := Lib.hid (H.out.called hcd)
      have HO := Lib.hid hcd.2
      clear hcd
      go_wp2_with fail
      refine (rat_c d s.call nm v w2 (show s.fs.length ≤ 300 by omega) HA.out).mono ?_; rintro e w3 ⟨rfl, g3⟩
      rw [show placeF nm s.call.fs = -1 from hp]
      have HA3 := Lib.hid (HA.out.gr g3)
      have HO3 := Lib.hid (HO.out.trans (Only.ofGr g3))
      clear g3 hp
      go_wp2_with fail
      go_ret
      exact ⟨rfl, rd_keep HBB.out HOKC.out HS.out (HA3.out) (HO3.out)⟩
    | some f =>
      obtain ⟨k, hp, hat, hfn⟩ := place_of_some hg
      have hkl := (List.getElem?_eq_some_iff.1 hat).1
      have HG := Lib.hid hg
      simp only [Bool.false_eq_true, if_false]
      obtain ⟨R, hR⟩ : ∃ R, (if s.room < used s.fs + t.length then (s.call, (4 : Int)) else (s.call.upd nm (fun f => { f with data := f.data ++ t }), 0)) = R := ⟨_, rfl⟩
      rw [hR]
      have HRR := Lib.hid hR
      have HAT := Lib.hid hat
      clear hg hR hat
      go_enter Tryz.func32, Tryz.ntmps32
      go_wp2_with fail
      refine (C1).mono ?_; rintro e w2 ⟨rfl, rfl⟩
      go_wp2_with fail
      refine (C2).mono ?_; rintro e w2 ⟨rfl, hcd⟩
      have HA := Lib.hid (H.out.called hcd)
      have HO := Lib.hid hcd.2
      clear hcd
      go_wp2_with fail
      refine (rat_c d s.call nm v w2 (show s.fs.length ≤ 300 by omega) HA.out).mono ?_; rintro e w3 ⟨rfl, g3⟩
      rw [show placeF nm s.call.fs = (k : Int) from hp]
      have HA3 := Lib.hid (HA.out.gr g3)
      have HO3 := Lib.hid (HO.out.trans (Only.ofGr g3))
      clear g3 hp
      have c0 : w3.cell? ⟨d, 0, none⟩ = some (.int .i64 s.room) := by rw [cells_at HA3.out.1]; rfl
      go_wp2_with fail
      have CU := rused_c d s.call v w3.drew HOKC.out HA3.out
      rw [show used s.call.fs = used s.fs from rfl] at CU
      have hlt := blk_lt2 HA3.out.1
      go_region_held3 (fun w' => w'.cell? ⟨d, 0, none⟩ = some (.int .i64 s.room)) (first | go_keep | (rw [Below.cell g (p := ⟨d, 0, none⟩) hlt]; go_keep)) ((go_at_call 14; ((with_reducible refine (CU).mono ?_); rintro e w4 ⟨rfl, g⟩)))
      have g4 : Gr w3 w4 := Gr.ofDrew g
      clear g
      have HA4 := Lib.hid (HA3.out.gr g4)
      have HO4 := Lib.hid (HO3.out.trans (Only.ofGr g4))
      clear g4 c0 CU
      have hwr : IntKind.i64.wrap (s.room - (used s.fs : Int)) = s.room - (used s.fs : Int) := IntWalk.i64_in _ (by omega)
      have hfs : (bs f.data).size = f.data.length := bs_size _
      have hfu := used_le (List.mem_of_getElem? HAT.out)
      by_cases hroom : s.room < used s.fs + t.length
      · have hR := HRR.out
        rw [if_pos hroom] at hR
        subst hR
        go_wp2_with fail
        go_ret
        exact ⟨rfl, rd_keep HBB.out HOKC.out HS.out HA4.out HO4.out⟩
      · have hR := HRR.out
        rw [if_neg hroom] at hR
        subst hR
        obtain ⟨hh, ⟨h1, _⟩ | ⟨b, off, cc, rfl, hcc, hcell⟩⟩ := HA4.out
        · exfalso; rw [show s.call.fs = s.fs from rfl] at h1; rw [h1] at hkl; exact absurd hkl (by simp)
        have c1 : w4.cell? ⟨d, 1, none⟩ = some (.slice (some ⟨b, off, none⟩) s.fs.length cc) := by rw [cells_at hh]; rfl
        obtain ⟨q0, q1, q2⟩ := fall3_at s.fs k f HAT.out
        rw [Nat.mul_comm 3 k] at q0 q1 q2
        have y0 := hcell.2 _ _ q0
        have y1 := hcell.2 _ _ q1
        have y2 := hcell.2 _ _ q2
        rw [← Nat.add_assoc] at y1 y2
        have HCC := Lib.hid hcell
        clear hcell q0 q1 q2
        have CPUT : ∀ (l : List F) (u : Value) (x : World), l.length ≤ 300 → FLies x u l → Calls Tryz.prog 63 #[u, .agg #[.string (bs nm), .string (bs f.data ++ bs t), .int .i64 (f.kept : Int)]] x fun e w' => ∃ v, e = .returned v ∧ FLies w' v (putF { f with data := f.data ++ t } l) ∧ Gr x w' ∧ NewV x v := by
          intro l u x h1 h2
          rw [bs_app, ← hfn]
          exact put4_c { f with data := f.data ++ t } l u x h1 h2
        have HP := Lib.hid CPUT
        have HHH := Lib.hid hh
        have hlo : (outF nm s.fs).length ≤ 300 := Nat.le_trans (List.length_filter_le _ _) (by omega)
        have hdl := blk_lt2 hh
        clear hh CPUT
        go_wp2_with fail
        obtain ⟨W, hW⟩ : ∃ W, W = w4.alloc (.cells #[.string (bs nm), .string (bs f.data ++ bs t), .int .i64 (f.kept : Int)] 56 (0, 0)) := ⟨_, rfl⟩
        rw [← hW]
        have gW : Gr w4 W := by rw [hW]; exact Below.alloc (Below.refl _ _) (Nat.le_refl _) _
        have hx : W.heap[w4.heap.size]? = some (.cells #[.string (bs nm), .string (bs f.data ++ bs t), .int .i64 (f.kept : Int)] 56 (0, 0)) := by rw [hW]; exact heap_alloc_new w4 _
        have x0 : W.cell? ⟨w4.heap.size, 0, none⟩ = some (.string (bs nm)) := by rw [heap_cell hx]; rfl
        have x1 : W.cell? ⟨w4.heap.size, 1, none⟩ = some (.string (bs f.data ++ bs t)) := by rw [heap_cell hx]; rfl
        have x2 : W.cell? ⟨w4.heap.size, 2, none⟩ = some (.int .i64 (f.kept : Int)) := by rw [heap_cell hx]; rfl
        have hxl := blk_lt2 hx
        have HAW := Lib.hid ((show RAt w4 d s.call _ from ⟨HHH.out, .inr ⟨b, off, cc, rfl, hcc, HCC.out⟩⟩).gr gW)
        have HOW := Lib.hid (HO4.out.trans (Only.ofGr gW))
        have d1 : W.cell? ⟨d, 1, none⟩ = some (.slice (some ⟨b, off, none⟩) s.fs.length cc) := by rw [cells_at HAW.out.1]; rfl
        have hdW := blk_lt2 HAW.out.1
        have COUT := out_c nm s.fs (.slice (some ⟨b, off, none⟩) s.fs.length cc) W.drew (by omega) (show FLies W.drew _ s.fs from HAW.out.2)
        clear hW gW hx c1 y0 y1 y2
        go_region_with (first
          | (go_at_call 65; refine (COUT).mono ?_; rintro e w6 ⟨v6, rfl, hL6, g6, _⟩
             have z0 : w6.cell? ⟨w4.heap.size, 0, none⟩ = some (.string (bs nm)) := by rw [Below.cell g6 (p := ⟨w4.heap.size, 0, none⟩) hxl]; exact x0
             have z1 : w6.cell? ⟨w4.heap.size, 1, none⟩ = some (.string (bs f.data ++ bs t)) := by rw [Below.cell g6 (p := ⟨w4.heap.size, 1, none⟩) hxl]; exact x1
             have z2 : w6.cell? ⟨w4.heap.size, 2, none⟩ = some (.int .i64 (f.kept : Int)) := by rw [Below.cell g6 (p := ⟨w4.heap.size, 2, none⟩) hxl]; exact x2
             have HL6 := Lib.hid hL6
             have HG6 := Lib.hid g6
             clear hL6 g6)
          | (go_at_call 63; refine (HP.out _ _ _ hlo HL6.out).mono ?_; rintro e w7 ⟨v7, rfl, hL7, g7, hNV⟩
             obtain ⟨a7, k7, rfl⟩ := hL7.slice
             obtain ⟨n7, hn7⟩ : ∃ n7, (putF { f with data := f.data ++ t } (outF nm s.fs)).length = n7 := ⟨_, rfl⟩
             rw [hn7] at hL7 ⊢
             have G7 : Gr W w7 := (Gr.ofDrew HG6.out).trans g7
             have HA7 := Lib.hid (HAW.out.gr G7)
             have HO7 := Lib.hid (HOW.out.trans (Only.ofGr G7))
             have HL7 := Lib.hid hL7
             have e1 := cells_free HA7.out.1 1
             have e2 : w7.cell? ⟨d, 1, none⟩ = some (.slice (some ⟨b, off, none⟩) s.fs.length cc) := by rw [cells_at HA7.out.1]; rfl
             have HNV := Lib.hid hNV
             clear hL7 g7 G7 hNV))
        all_goals
          go_wp2_with fail
          go_ret
          have g8 : Only (fun i => i = d) w7 (w7.setCell ⟨d, 1, none⟩ (.slice a7 n7 k7)) := Only.cell1 _ _ _ _
          have hup := upd_put (s := s.call) HOKC.out HS.out (n := nm) (f := f) HG.out (fun f => { f with data := f.data ++ t }) rfl
          have hkk := HOK.out.k f (List.mem_of_getElem? HAT.out)
          have hoku := ok_upd (s := s.call) HOKC.out (n := nm) (f := f) HG.out (g := fun f => { f with data := f.data ++ t }) rfl (by show f.kept ≤ (f.data ++ t).length; rw [List.length_append]; omega) (by show (used s.fs : Int) + ((f.data ++ t).length : Int) ≤ s.room + f.data.length; rw [List.length_append]; omega)
          refine ⟨rfl, rd_new (v' := .slice a7 n7 k7) HBB.out hoku hup.2 ?_ (HO7.out.trans g8) (fun x hx => Nat.le_trans (Nat.le_trans HOW.out.size HG6.out.size) (HNV.out x ((own_len _ _ _ _).trans hx)))⟩
          refine HA7.out.put (s' := s.call.upd nm (fun f => { f with data := f.data ++ t })) (by rw [← hup.1]; exact HL7.out) g8 ?_
          rw [cells_set HA7.out.1]; rfl
  · rw [show s.call.code = 5 by unfold St.code; rw [hdn]; rfl] at C2
    have HDN := Lib.hid hdn
    simp only [if_true]
    clear hdn
    go_enter Tryz.func32, Tryz.ntmps32
    go_wp2_with fail
    refine (C1).mono ?_; rintro e w2 ⟨rfl, rfl⟩
    go_wp2_with fail
    refine (C2).mono ?_; rintro e w2 ⟨rfl, hcd⟩
    have HC := Lib.hid hcd
    clear hcd
    go_wp2_with fail
    go_ret
    exact ⟨rfl, rd_keep HBB.out HOKC.out HS.out (H.out.called HC.out) (HC.out.2)⟩
end Go.Proofs.YtignfbdgpgidpaaGreatDoor
/- The document's disk: New, Arm, Whole. -/
namespace Go.Proofs.YtignfbdgpgidpaaGreatDoor
open Go.RowKit FsPlain
set_option linter.unusedVariables false
set_option linter.unusedSimpArgs false
set_option maxRecDepth 20000
theorem rnew_c (room : Int) (w : World) (h0 : 0 ≤ room) (h1 : room ≤ 16777216) :
    Calls Tryz.prog 29 #[.int .i64 room] w fun e w' => e = .returned (.pointer (some ⟨w.heap.size, 0, none⟩)) ∧ RDisk w' w.heap.size ⟨room, 0, -1, false, []⟩ (fun x => x = w.heap.size) ∧ Gr w w' := by
  go_enter Tryz.func29, Tryz.ntmps29
  go_wp2_with fail
  go_ret
  refine ⟨rfl, ⟨⟨h0, h1, by simp, by simp, by simp, by simpa [used] using h0, by simp, by simp, by simp, List.Pairwise.nil⟩, List.Pairwise.nil, .slice none 0 0, ⟨heap_alloc_new w _, .inl ⟨rfl, rfl⟩⟩, (fun x hx => by rw [hx]; simp), rfl, fun x hx => by cases hx⟩, Below.alloc (Below.refl _ _) (Nat.le_refl _) _⟩
end Go.Proofs.YtignfbdgpgidpaaGreatDoor
/- The document's disk: Size, Read. -/
namespace Go.Proofs.YtignfbdgpgidpaaGreatDoor
open Go.RowKit FsPlain
set_option linter.unusedVariables false
set_option linter.unusedSimpArgs false
set_option maxRecDepth 20000
end Go.Proofs.YtignfbdgpgidpaaGreatDoor
/- The document's disk: Sync. -/
namespace Go.Proofs.YtignfbdgpgidpaaGreatDoor
open Go.RowKit FsPlain
set_option linter.unusedVariables false
set_option linter.unusedSimpArgs false
set_option maxRecDepth 20000
end Go.Proofs.YtignfbdgpgidpaaGreatDoor
/- The document's disk: Remove. -/
namespace Go.Proofs.YtignfbdgpgidpaaGreatDoor
open Go.RowKit FsPlain
set_option linter.unusedVariables false
set_option linter.unusedSimpArgs false
set_option maxRecDepth 20000
end Go.Proofs.YtignfbdgpgidpaaGreatDoor
/- The document's disk: Rename. -/
namespace Go.Proofs.YtignfbdgpgidpaaGreatDoor
open Go.RowKit FsPlain
set_option linter.unusedVariables false
set_option linter.unusedSimpArgs false
set_option maxRecDepth 20000
end Go.Proofs.YtignfbdgpgidpaaGreatDoor
/- The document's disk: Rise. -/
namespace Go.Proofs.YtignfbdgpgidpaaGreatDoor
open Go.RowKit FsPlain
set_option linter.unusedVariables false
set_option linter.unusedSimpArgs false
set_option maxRecDepth 20000
end Go.Proofs.YtignfbdgpgidpaaGreatDoor
/- The document's disk: Rise, its contract. -/
namespace Go.Proofs.YtignfbdgpgidpaaGreatDoor
open Go.RowKit FsPlain
set_option linter.unusedVariables false
set_option linter.unusedSimpArgs false
set_option maxRecDepth 20000
end Go.Proofs.YtignfbdgpgidpaaGreatDoor
/- The document's disk as a part of a world: what its calls leave. -/
namespace Go.Proofs.YtignfbdgpgidpaaGreatDoor
open Go.RowKit FsPlain
set_option linter.unusedVariables false
set_option linter.unusedSimpArgs false
set_option maxRecDepth 20000
theorem r_create (d : Nat) (s : St) (n : ByteArray) (hn : n.size ≤ 24) (hm : rightB n.data.toList = true) (h1 : s.calls ≤ 1000000000000) (w : World) (B : Nat → Prop) (h : RDiskA d s w B) :
    Calls Tryz.prog 31 #[.pointer (some ⟨d, 0, none⟩), .string n] w (Does w B (RDiskA d (createR s n.data.toList).1) (.int .i64 (createR s n.data.toList).2)) := by
  have C := rcreate_c d s n.data.toList w h hm (by rw [show n.data.toList.length = n.size from Array.length_toList]; exact hn) h1
  rwa [bs_toList] at C
theorem r_append (d : Nat) (s : St) (n t : ByteArray) (hn : n.size ≤ 24) (hm : rightB n.data.toList = true) (h1 : s.calls ≤ 1000000000000) (ht : t.size ≤ 1000000000) (w : World) (B : Nat → Prop) (h : RDiskA d s w B) :
    Calls Tryz.prog 32 #[.pointer (some ⟨d, 0, none⟩), .string n, .string t] w (Does w B (RDiskA d (appendR s n.data.toList t.data.toList).1) (.int .i64 (appendR s n.data.toList t.data.toList).2)) := by
  have C := rappend_c d s n.data.toList t.data.toList w h hm (by rw [show n.data.toList.length = n.size from Array.length_toList]; exact hn) (by rw [show t.data.toList.length = t.size from Array.length_toList]; exact ht) h1
  rwa [bs_toList, bs_toList] at C
end Go.Proofs.YtignfbdgpgidpaaGreatDoor
/- Plain facts of a manifest: what may be, its bytes; two of the same bytes are one. -/
namespace Go.Proofs.YtignfbdgpgidpaaGreatDoor
open Go.RowKit FsPlain CrcPlain OctPlain
set_option linter.unusedVariables false
set_option linter.unusedSimpArgs false
namespace MnPlain
structure Fl where
  name : ByteArray
  size : Int
  count : Int
  sum : Int
structure Mn where
  stage : Int
  pass : Int
  files : List Fl
def flB (f : Fl) : Bool := rightB f.name.data.toList && decide ((1 ≤ f.size ∧ f.size ≤ 64) ∧ 0 ≤ f.count ∧ f.count ≤ 4611686018427387904)
def newB : List Fl → List Fl → Bool
  | _, [] => true
  | l, f :: t => flB f && (l.all fun g => decide (g.name ≠ f.name)) && newB (l ++ [f]) t
def mnB (m : Mn) : Bool := decide ((1 ≤ m.stage ∧ m.stage ≤ 7) ∧ (0 ≤ m.pass ∧ m.pass ≤ 1000) ∧ m.files.length ≤ 16) && newB [] m.files
def flL (f : Fl) : List UInt8 := beL 1 f.name.size ++ (f.name.data.toList ++ (beL 1 f.size.toNat ++ (beL 8 f.count.toNat ++ beL 4 f.sum.toNat)))
def mnL (m : Mn) : List UInt8 := [77, 65, 78, 49] ++ (beL 2 m.stage.toNat ++ (beL 2 m.pass.toNat ++ (beL 1 m.files.length ++ (m.files.map flL).flatten)))
theorem be_inj {k a b : Nat} (ha : a < 256 ^ k) (hb : b < 256 ^ k) (h : beL k a = beL k b) : a = b := by
  rw [← num_beL k a ha, ← num_beL k b hb, h]
theorem app_len {a b c d : List UInt8} (hl : a.length = b.length) (h : a ++ c = b ++ d) : a = b ∧ c = d := List.append_inj h hl
theorem be_app {k a b : Nat} {c d : List UInt8} (ha : a < 256 ^ k) (hb : b < 256 ^ k) (h : beL k a ++ c = beL k b ++ d) : a = b ∧ c = d := by
  obtain ⟨h1, h2⟩ := app_len (by rw [beL_length, beL_length]) h
  exact ⟨be_inj ha hb h1, h2⟩
def flI (f : Fl) : Prop := f.name.size < 256 ∧ (0 ≤ f.size ∧ f.size < 256) ∧ (0 ≤ f.count ∧ f.count < 18446744073709551616) ∧ 0 ≤ f.sum ∧ f.sum < 4294967296
theorem fl_app {f g : Fl} {c d : List UInt8} (hf : flI f) (hg : flI g) (h : flL f ++ c = flL g ++ d) : f = g ∧ c = d := by
  obtain ⟨f1, ⟨f2, f3⟩, ⟨f4, f5⟩, f6, f7⟩ := hf
  obtain ⟨g1, ⟨g2, g3⟩, ⟨g4, g5⟩, g6, g7⟩ := hg
  unfold flL at h
  simp only [List.append_assoc] at h
  obtain ⟨h1, h⟩ := be_app (by rw [Nat.pow_one]; exact f1) (by rw [Nat.pow_one]; exact g1) h
  obtain ⟨h2, h⟩ := app_len (show f.name.data.toList.length = g.name.data.toList.length from h1) h
  obtain ⟨h3, h⟩ := be_app (by omega) (by omega) h
  obtain ⟨h4, h⟩ := be_app (by omega) (by omega) h
  obtain ⟨h5, h⟩ := be_app (by omega) (by omega) h
  refine ⟨?_, h⟩
  have q1 : f.name = g.name := ByteArray.ext (Array.toList_inj.1 h2)
  have q2 : f.size = g.size := by omega
  have q3 : f.count = g.count := by omega
  have q4 : f.sum = g.sum := by omega
  cases f; cases g
  simp only at q1 q2 q3 q4
  rw [q1, q2, q3, q4]
theorem fls_inj : ∀ {l m : List Fl} {c d : List UInt8}, l.length = m.length → (∀ f ∈ l, flI f) → (∀ f ∈ m, flI f) → (l.map flL).flatten ++ c = (m.map flL).flatten ++ d → l = m ∧ c = d
  | [], [], c, d, _, _, _, h => ⟨rfl, by simpa using h⟩
  | [], g :: m, c, d, hl, _, _, _ => by simp at hl
  | f :: l, [], c, d, hl, _, _, _ => by simp at hl
  | f :: l, g :: m, c, d, hl, hf, hg, h => by
    simp only [List.map_cons, List.flatten_cons, List.append_assoc] at h
    obtain ⟨e1, h2⟩ := fl_app (hf f (by simp)) (hg g (by simp)) h
    obtain ⟨e2, h3⟩ := fls_inj (by simpa using hl) (fun x hx => hf x (by simp [hx])) (fun x hx => hg x (by simp [hx])) h2
    exact ⟨by rw [e1, e2], h3⟩
theorem mnL_inj {a b : Mn} (ha : mnB a = true) (hb : mnB b = true) (ia : ∀ f ∈ a.files, flI f) (ib : ∀ f ∈ b.files, flI f) (h : mnL a = mnL b) : a = b := by
  unfold mnB at ha hb
  simp only [Bool.and_eq_true, decide_eq_true_eq] at ha hb
  obtain ⟨⟨⟨a1, a2⟩, ⟨a3, a4⟩, a5⟩, _⟩ := ha
  obtain ⟨⟨⟨b1, b2⟩, ⟨b3, b4⟩, b5⟩, _⟩ := hb
  unfold mnL at h
  have h := List.append_cancel_left h
  obtain ⟨h1, h⟩ := be_app (by omega) (by omega) h
  obtain ⟨h2, h⟩ := be_app (by omega) (by omega) h
  obtain ⟨h3, h⟩ := be_app (by omega) (by omega) h
  obtain ⟨h4, _⟩ := fls_inj (c := []) (d := []) h3 ia ib (by simpa using h)
  have q1 : a.stage = b.stage := by omega
  have q2 : a.pass = b.pass := by omega
  cases a; cases b
  simp only at q1 q2 h4
  rw [q1, q2, h4]
end MnPlain
end Go.Proofs.YtignfbdgpgidpaaGreatDoor
/- Plain facts of a manifest: a manifest comes back, a turned one does not; a file that was put is found. -/
namespace Go.Proofs.YtignfbdgpgidpaaGreatDoor
open Go.RowKit FsPlain CrcPlain OctPlain
set_option linter.unusedVariables false
set_option linter.unusedSimpArgs false
namespace MnPlain
def sumsB (l : List Fl) : Prop := ∀ f ∈ l, 0 ≤ f.sum ∧ f.sum < 4294967296
theorem flB_I {f : Fl} (h : flB f = true) (hs : 0 ≤ f.sum ∧ f.sum < 4294967296) : flI f := by
  unfold flB rightB at h
  simp only [Bool.and_eq_true, decide_eq_true_eq] at h
  obtain ⟨⟨_, _, h1⟩, ⟨h2, h3⟩, h4, h5⟩ := h
  have : f.name.data.toList.length = f.name.size := rfl
  exact ⟨by omega, ⟨by omega, by omega⟩, ⟨h4, by omega⟩, hs⟩
theorem newB_all : ∀ {l : List Fl} {a : List Fl}, newB a l = true → ∀ f ∈ l, flB f = true
  | [], _, _, f, hf => by simp at hf
  | g :: l, a, h, f, hf => by
    unfold newB at h
    simp only [Bool.and_eq_true] at h
    rcases List.mem_cons.1 hf with rfl | hf
    · exact h.1.1
    · exact newB_all h.2 f hf
def mnS (m : Mn) : ByteArray := cl (bs (mnL m))
theorem mnS_open (m : Mn) : opB (mnS m) = true := (op_cl _).1
theorem mnS_inj {a b : Mn} (ha : mnB a = true) (hb : mnB b = true) (sa : sumsB a.files) (sb : sumsB b.files) (h : mnS a = mnS b) : a = b := by
  have h1 : bs (mnL a) = bs (mnL b) := by
    have e1 := (op_cl (bs (mnL a))).2
    have e2 := (op_cl (bs (mnL b))).2
    unfold mnS at h
    rw [← e1, h, e2]
  have h2 : mnL a = mnL b := by
    have e := congrArg (fun s : ByteArray => s.data.toList) h1
    have k : ∀ l : List UInt8, (bs l).data.toList = l := fun l => by simp [bs]
    have e2 : (bs (mnL a)).data.toList = (bs (mnL b)).data.toList := e
    rw [k, k] at e2
    exact e2
  have na : newB [] a.files = true := by unfold mnB at ha; rw [Bool.and_eq_true] at ha; exact ha.2
  have nb : newB [] b.files = true := by unfold mnB at hb; rw [Bool.and_eq_true] at hb; exact hb.2
  exact mnL_inj ha hb (fun f hf => flB_I (newB_all na f hf) (sa f hf)) (fun f hf => flB_I (newB_all nb f hf) (sb f hf)) h2
def mnIs (s : ByteArray) (m : Mn) : Prop := mnB m = true ∧ sumsB m.files ∧ mnS m = s
theorem mnIs_one {s : ByteArray} {a b : Mn} (ha : mnIs s a) (hb : mnIs s b) : a = b := mnS_inj ha.1 hb.1 ha.2.1 hb.2.1 (ha.2.2.trans hb.2.2.symm)
theorem mnIs_shut {s : ByteArray} (h : opB s = false) (m : Mn) : ¬ mnIs s m := fun k => by
  have := mnS_open m
  rw [k.2.2, h] at this
  cases this
def findF (n : ByteArray) : List Fl → Option Fl
  | [] => none
  | f :: t => if f.name = n then some f else findF n t
theorem find_ahead {n : ByteArray} : ∀ {l m : List Fl}, (∀ f ∈ l, f.name ≠ n) → findF n (l ++ m) = findF n m
  | [], _, _ => rfl
  | f :: t, m, h => by
    show (if f.name = n then some f else findF n (t ++ m)) = findF n m
    rw [if_neg (h f (by simp))]
    exact find_ahead (l := t) fun x hx => h x (by simp [hx])
theorem flL_length (f : Fl) : (flL f).length = 14 + f.name.size := by
  unfold flL
  simp only [List.length_append, beL_length]
  have : f.name.data.toList.length = f.name.size := rfl
  omega
theorem mnL_length (m : Mn) : (mnL m).length = 9 + (m.files.map fun f => 14 + f.name.size).sum := by
  unfold mnL
  simp only [List.length_append, beL_length, List.length_flatten, List.map_map, List.length_cons, List.length_nil]
  have e : (m.files.map (List.length ∘ flL)) = m.files.map fun f => 14 + f.name.size := List.map_congr_left fun f _ => flL_length f
  rw [e]; omega
end MnPlain
end Go.Proofs.YtignfbdgpgidpaaGreatDoor
/- Plain facts of a manifest's bytes: where each field lies; steps of the loops that walk files. -/
namespace Go.Proofs.YtignfbdgpgidpaaGreatDoor
open Go.RowKit FsPlain CrcPlain OctPlain
set_option linter.unusedVariables false
set_option linter.unusedSimpArgs false
namespace MnPlain
theorem cut_app {s : ByteArray} {p x q : List UInt8} {a k : Nat} (h : s.data.toList = p ++ (x ++ q)) (ha : a = p.length) (hk : k = x.length) : cutL s a k = x := by
  subst ha hk
  unfold cutL
  rw [h, List.drop_left, List.take_left]
theorem get_app {s : ByteArray} {p q : List UInt8} {k n a : Nat} (hk : 1 ≤ k ∧ k ≤ 8) (hn : n < 256 ^ k) (hn2 : n < 9223372036854775808) (h : s.data.toList = p ++ (beL k n ++ q)) (ha : a = p.length) : getB s (a : Int) (k : Int) = true ∧ getN s (a : Int) (k : Int) = (n : Int) := by
  have hc := cut_app (k := k) h ha (by rw [beL_length])
  have hs : s.size = p.length + (k + q.length) := by
    have e : s.data.toList.length = s.size := rfl
    rw [← e, h, List.length_append, List.length_append, beL_length]
  have hb : getB s (a : Int) (k : Int) = true := getB_yes hk (by omega) (by rw [hc, num_beL k n hn]; exact hn2)
  exact ⟨hb, by rw [getN_yes hb, hc, num_beL k n hn]⟩
def posN (l : List Fl) : Nat := 9 + (l.map fun f => 14 + f.name.size).sum
theorem posN_snoc (l : List Fl) (f : Fl) : posN (l ++ [f]) = posN l + 14 + f.name.size := by
  unfold posN
  rw [List.map_append, List.sum_append]
  simp; omega
theorem flat_length (l : List Fl) : ((l.map flL).flatten).length = (l.map fun f => 14 + f.name.size).sum := by
  rw [List.length_flatten, List.map_map]
  congr 1
  exact List.map_congr_left fun f _ => flL_length f
end MnPlain
end Go.Proofs.YtignfbdgpgidpaaGreatDoor
/- Plain facts of a manifest: the loops that walk its files, step by step. -/
namespace Go.Proofs.YtignfbdgpgidpaaGreatDoor
open Go.RowKit FsPlain CrcPlain OctPlain
set_option linter.unusedVariables false
set_option linter.unusedSimpArgs false
namespace MnPlain
theorem find_at {n : ByteArray} {l : List Fl} {i : Nat} (hi : i < l.length) (h : ∀ j (hj : j < i), l[j].name ≠ n) : findF n l = if l[i].name = n then some l[i] else findF n (l.drop (i + 1)) := by
  have e : l = l.take i ++ (l[i] :: l.drop (i + 1)) := by rw [← List.drop_eq_getElem_cons hi, List.take_append_drop]
  have k : ∀ f ∈ l.take i, f.name ≠ n := fun f hf => by
    obtain ⟨j, hj, rfl⟩ := List.mem_iff_getElem.1 hf
    rw [List.getElem_take]
    rw [List.length_take] at hj
    exact h j (by omega)
  have e2 : findF n l = findF n (l.take i ++ (l[i] :: l.drop (i + 1))) := congrArg _ e
  rw [e2, find_ahead k]
  rfl
theorem new_step {l : List Fl} {i : Nat} (hi : i < l.length) : newB (l.take i) (l.drop i) = (flB l[i] && ((l.take i).all fun g => decide (g.name ≠ l[i].name)) && newB (l.take (i + 1)) (l.drop (i + 1))) := by
  rw [List.drop_eq_getElem_cons hi]
  show (flB l[i] && ((l.take i).all fun g => decide (g.name ≠ l[i].name)) && newB (l.take i ++ [l[i]]) (l.drop (i + 1))) = _
  rw [List.take_succ_eq_append_getElem hi]
theorem new_end (l : List Fl) : newB (l.take l.length) (l.drop l.length) = true := by rw [List.drop_length]; unfold newB; rfl
theorem all_ne {l : List Fl} {i : Nat} (hi : i < l.length) (n : ByteArray) : ((l.take i).all fun g => decide (g.name ≠ n)) = true ↔ ∀ j (hj : j < i), l[j].name ≠ n := by
  rw [List.all_eq_true]
  constructor
  · intro h j hj
    have := h l[j] (by rw [List.mem_iff_getElem]; exact ⟨j, by rw [List.length_take]; omega, by rw [List.getElem_take]⟩)
    simpa using this
  · intro h f hf
    obtain ⟨j, hj, rfl⟩ := List.mem_iff_getElem.1 hf
    rw [List.length_take] at hj
    have := h j (by omega)
    simpa [List.getElem_take] using this
theorem pos_step {l : List Fl} {i : Nat} (hi : i < l.length) : posN (l.take (i + 1)) = posN (l.take i) + 14 + l[i].name.size := by
  rw [List.take_succ_eq_append_getElem hi, posN_snoc]
end MnPlain
end Go.Proofs.YtignfbdgpgidpaaGreatDoor

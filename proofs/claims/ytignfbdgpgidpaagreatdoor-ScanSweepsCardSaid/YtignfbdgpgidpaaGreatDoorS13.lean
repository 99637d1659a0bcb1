/- In one text: RfsAppend, RfsNew, RfsRead. -/
import Derived.Test.YtignfbdgpgidpaaGreatDoorS11
import Derived.Deep.RegionLaw
import Derived.Deep.RegionHeld3
import Derived.Deep.RegionWith
import Derived.Deep.QuietTactic
/- The document's disk: Append. -/
namespace Go.Proofs.YtignfbdgpgidpaaGreatDoor
open Go.RowKit FsPlain
set_option linter.unusedVariables false
set_option linter.unusedSimpArgs false
set_option maxRecDepth 20000
theorem rappend_bad (d : Nat) (nm : List UInt8) (t : ByteArray) (w : World) (hn : rightB nm = false) (hl : nm.length ≤ 1000000) :
    Calls Tryz.prog 32 #[.pointer (some ⟨d, 0, none⟩), .string (bs nm), .string t] w fun e w' => e = .returned (.int .i64 1) ∧ w = w' := by
  have C1 := rright_c (bs nm) (by rw [bs_size]; unfold maxLen; omega) w
  rw [rbs_list, hn] at C1
  have C2 := rcall_no d w
  go_enter Tryz.func32, Tryz.ntmps32
  go_wp2_with fail
  refine (C1).mono ?_; rintro e w2 ⟨rfl, rfl⟩
  go_wp2_with fail
  refine (C2).mono ?_; rintro e w2 ⟨rfl, rfl⟩
  go_wp2_with fail
  go_ret
  exact ⟨rfl, rfl⟩
set_option maxRecDepth 20000 in
set_option maxHeartbeats 4000000 in
theorem rappend_c (d : Nat) (s : St) (nm t : List UInt8) (w : World) {B : Nat → Prop} (hd : RDisk w d s B) (hn : rightB nm = true) (hl : nm.length ≤ 24) (ht : t.length ≤ 1000000000) (hc : s.calls ≤ 1000000000000) :
    Calls Tryz.prog 32 #[.pointer (some ⟨d, 0, none⟩), .string (bs nm), .string (bs t)] w (RDone d B w (appendR s nm t).1 (appendR s nm t).2) := by
  obtain ⟨hok, hsort, v, h, hB⟩ := hd
  have HBB := Lib.hid hB
  clear hB
  have C1 := rright_c (bs nm) (by rw [bs_size]; unfold maxLen; omega) w
  rw [rbs_list, hn] at C1
  have C2 := rcall_yes d s v w h.1 hok.c0 hc hok.a0 hok.a1
  have hokc := ok_call hok
  have hm := hok.m
  have hr0 := hok.r0
  have hr1 := hok.r1
  have hu := hok.u
  have hts : (bs t).size = t.length := bs_size t
  have HOK := Lib.hid hok
  have HOKC := Lib.hid hokc
  have HS := Lib.hid hsort
  have H := Lib.hid h
  clear hok hokc hsort h
  unfold appendR
  cases hdn : s.call.down
  · rw [show s.call.code = 0 by unfold St.code; rw [hdn]; rfl] at C2
    have HDN := Lib.hid hdn
    clear hdn
    cases hg : s.get nm with
    | none =>
      have hp := place_of_none hg
      have HG := Lib.hid hg
      simp only [Bool.false_eq_true, if_false]
      clear hg
      go_enter Tryz.func32, Tryz.ntmps32
      go_wp2_with fail
      refine (C1).mono ?_; rintro e w2 ⟨rfl, rfl⟩
      go_wp2_with fail
      refine (C2).mono ?_; rintro e w2 ⟨rfl, hcd⟩
      have HA := Lib.hid (H.out.called hcd)
      have HO := Lib.hid hcd.2
      clear hcd
      go_wp2_with fail
      refine (rat_c d s.call nm v w2 (show s.fs.length ≤ 300 by omega) HA.out).mono ?_; rintro e w3 ⟨rfl, g3⟩
      rw [show placeF nm s.call.fs = -1 from hp]
      have HA3 := Lib.hid (HA.out.gr g3)
      have HO3 := Lib.hid (HO.out.trans (Only.ofGr g3))
      clear g3 hp
      go_wp2_with fail
      go_ret
      exact ⟨rfl, rd_keep HBB.out HOKC.out HS.out (HA3.out) (HO3.out)⟩
    | some f =>
      obtain ⟨k, hp, hat, hfn⟩ := place_of_some hg
      have hkl := (List.getElem?_eq_some_iff.1 hat).1
      have HG := Lib.hid hg
      simp only [Bool.false_eq_true, if_false]
      obtain ⟨R, hR⟩ : ∃ R, (if s.room < used s.fs + t.length then (s.call, (4 : Int)) else (s.call.upd nm (fun f => { f with data := f.data ++ t }), 0)) = R := ⟨_, rfl⟩
      rw [hR]
      have HRR := Lib.hid hR
      have HAT := Lib.hid hat
      clear hg hR hat
      go_enter Tryz.func32, Tryz.ntmps32
      go_wp2_with fail
      refine (C1).mono ?_; rintro e w2 ⟨rfl, rfl⟩
      go_wp2_with fail
      refine (C2).mono ?_; rintro e w2 ⟨rfl, hcd⟩
      have HA := Lib.hid (H.out.called hcd)
      have HO := Lib.hid hcd.2
      clear hcd
      go_wp2_with fail
      refine (rat_c d s.call nm v w2 (show s.fs.length ≤ 300 by omega) HA.out).mono ?_; rintro e w3 ⟨rfl, g3⟩
      rw [show placeF nm s.call.fs = (k : Int) from hp]
      have HA3 := Lib.hid (HA.out.gr g3)
      have HO3 := Lib.hid (HO.out.trans (Only.ofGr g3))
      clear g3 hp
      have c0 : w3.cell? ⟨d, 0, none⟩ = some (.int .i64 s.room) := by rw [cells_at HA3.out.1]; rfl
      go_wp2_with fail
      have CU := rused_c d s.call v w3.drew HOKC.out HA3.out
      rw [show used s.call.fs = used s.fs from rfl] at CU
      have hlt := blk_lt2 HA3.out.1
      go_region_held3 (fun w' => w'.cell? ⟨d, 0, none⟩ = some (.int .i64 s.room)) (first | go_keep | (rw [Below.cell g (p := ⟨d, 0, none⟩) hlt]; go_keep)) ((go_at_call 14; ((with_reducible refine (CU).mono ?_); rintro e w4 ⟨rfl, g⟩)))
      have g4 : Gr w3 w4 := Gr.ofDrew g
      clear g
      have HA4 := Lib.hid (HA3.out.gr g4)
      have HO4 := Lib.hid (HO3.out.trans (Only.ofGr g4))
      clear g4 c0 CU
      have hwr : IntKind.i64.wrap (s.room - (used s.fs : Int)) = s.room - (used s.fs : Int) := IntWalk.i64_in _ (by omega)
      have hfs : (bs f.data).size = f.data.length := bs_size _
      have hfu := used_le (List.mem_of_getElem? HAT.out)
      by_cases hroom : s.room < used s.fs + t.length
      · have hR := HRR.out
        rw [if_pos hroom] at hR
        subst hR
        go_wp2_with fail
        go_ret
        exact ⟨rfl, rd_keep HBB.out HOKC.out HS.out HA4.out HO4.out⟩
      · have hR := HRR.out
        rw [if_neg hroom] at hR
        subst hR
        obtain ⟨hh, ⟨h1, _⟩ | ⟨b, off, cc, rfl, hcc, hcell⟩⟩ := HA4.out
        · exfalso; rw [show s.call.fs = s.fs from rfl] at h1; rw [h1] at hkl; exact absurd hkl (by simp)
        have c1 : w4.cell? ⟨d, 1, none⟩ = some (.slice (some ⟨b, off, none⟩) s.fs.length cc) := by rw [cells_at hh]; rfl
        obtain ⟨q0, q1, q2⟩ := fall3_at s.fs k f HAT.out
        rw [Nat.mul_comm 3 k] at q0 q1 q2
        have y0 := hcell.2 _ _ q0
        have y1 := hcell.2 _ _ q1
        have y2 := hcell.2 _ _ q2
        rw [← Nat.add_assoc] at y1 y2
        have HCC := Lib.hid hcell
        clear hcell q0 q1 q2
        have CPUT : ∀ (l : List F) (u : Value) (x : World), l.length ≤ 300 → FLies x u l → Calls Tryz.prog 63 #[u, .agg #[.string (bs nm), .string (bs f.data ++ bs t), .int .i64 (f.kept : Int)]] x fun e w' => ∃ v, e = .returned v ∧ FLies w' v (putF { f with data := f.data ++ t } l) ∧ Gr x w' ∧ NewV x v := by
          intro l u x h1 h2
          rw [bs_app, ← hfn]
          exact put4_c { f with data := f.data ++ t } l u x h1 h2
        have HP := Lib.hid CPUT
        have HHH := Lib.hid hh
        have hlo : (outF nm s.fs).length ≤ 300 := Nat.le_trans (List.length_filter_le _ _) (by omega)
        have hdl := blk_lt2 hh
        clear hh CPUT
        go_wp2_with fail
        obtain ⟨W, hW⟩ : ∃ W, W = w4.alloc (.cells #[.string (bs nm), .string (bs f.data ++ bs t), .int .i64 (f.kept : Int)] 56 (0, 0)) := ⟨_, rfl⟩
        rw [← hW]
        have gW : Gr w4 W := by rw [hW]; exact Below.alloc (Below.refl _ _) (Nat.le_refl _) _
        have hx : W.heap[w4.heap.size]? = some (.cells #[.string (bs nm), .string (bs f.data ++ bs t), .int .i64 (f.kept : Int)] 56 (0, 0)) := by rw [hW]; exact heap_alloc_new w4 _
        have x0 : W.cell? ⟨w4.heap.size, 0, none⟩ = some (.string (bs nm)) := by rw [heap_cell hx]; rfl
        have x1 : W.cell? ⟨w4.heap.size, 1, none⟩ = some (.string (bs f.data ++ bs t)) := by rw [heap_cell hx]; rfl
        have x2 : W.cell? ⟨w4.heap.size, 2, none⟩ = some (.int .i64 (f.kept : Int)) := by rw [heap_cell hx]; rfl
        have hxl := blk_lt2 hx
        have HAW := Lib.hid ((show RAt w4 d s.call _ from ⟨HHH.out, .inr ⟨b, off, cc, rfl, hcc, HCC.out⟩⟩).gr gW)
        have HOW := Lib.hid (HO4.out.trans (Only.ofGr gW))
        have d1 : W.cell? ⟨d, 1, none⟩ = some (.slice (some ⟨b, off, none⟩) s.fs.length cc) := by rw [cells_at HAW.out.1]; rfl
        have hdW := blk_lt2 HAW.out.1
        have COUT := out_c nm s.fs (.slice (some ⟨b, off, none⟩) s.fs.length cc) W.drew (by omega) (show FLies W.drew _ s.fs from HAW.out.2)
        clear hW gW hx c1 y0 y1 y2
        go_region_with (first
          | (go_at_call 65; refine (COUT).mono ?_; rintro e w6 ⟨v6, rfl, hL6, g6, _⟩
             have z0 : w6.cell? ⟨w4.heap.size, 0, none⟩ = some (.string (bs nm)) := by rw [Below.cell g6 (p := ⟨w4.heap.size, 0, none⟩) hxl]; exact x0
             have z1 : w6.cell? ⟨w4.heap.size, 1, none⟩ = some (.string (bs f.data ++ bs t)) := by rw [Below.cell g6 (p := ⟨w4.heap.size, 1, none⟩) hxl]; exact x1
             have z2 : w6.cell? ⟨w4.heap.size, 2, none⟩ = some (.int .i64 (f.kept : Int)) := by rw [Below.cell g6 (p := ⟨w4.heap.size, 2, none⟩) hxl]; exact x2
             have HL6 := Lib.hid hL6
             have HG6 := Lib.hid g6
             clear hL6 g6)
          | (go_at_call 63; refine (HP.out _ _ _ hlo HL6.out).mono ?_; rintro e w7 ⟨v7, rfl, hL7, g7, hNV⟩
             obtain ⟨a7, k7, rfl⟩ := hL7.slice
             obtain ⟨n7, hn7⟩ : ∃ n7, (putF { f with data := f.data ++ t } (outF nm s.fs)).length = n7 := ⟨_, rfl⟩
             rw [hn7] at hL7 ⊢
             have G7 : Gr W w7 := (Gr.ofDrew HG6.out).trans g7
             have HA7 := Lib.hid (HAW.out.gr G7)
             have HO7 := Lib.hid (HOW.out.trans (Only.ofGr G7))
             have HL7 := Lib.hid hL7
             have e1 := cells_free HA7.out.1 1
             have e2 : w7.cell? ⟨d, 1, none⟩ = some (.slice (some ⟨b, off, none⟩) s.fs.length cc) := by rw [cells_at HA7.out.1]; rfl
             have HNV := Lib.hid hNV
             clear hL7 g7 G7 hNV))
        all_goals
          go_wp2_with fail
          go_ret
          have g8 : Only (fun i => i = d) w7 (w7.setCell ⟨d, 1, none⟩ (.slice a7 n7 k7)) := Only.cell1 _ _ _ _
          have hup := upd_put (s := s.call) HOKC.out HS.out (n := nm) (f := f) HG.out (fun f => { f with data := f.data ++ t }) rfl
          have hkk := HOK.out.k f (List.mem_of_getElem? HAT.out)
          have hoku := ok_upd (s := s.call) HOKC.out (n := nm) (f := f) HG.out (g := fun f => { f with data := f.data ++ t }) rfl (by show f.kept ≤ (f.data ++ t).length; rw [List.length_append]; omega) (by show (used s.fs : Int) + ((f.data ++ t).length : Int) ≤ s.room + f.data.length; rw [List.length_append]; omega)
          refine ⟨rfl, rd_new (v' := .slice a7 n7 k7) HBB.out hoku hup.2 ?_ (HO7.out.trans g8) (fun x hx => Nat.le_trans (Nat.le_trans HOW.out.size HG6.out.size) (HNV.out x ((own_len _ _ _ _).trans hx)))⟩
          refine HA7.out.put (s' := s.call.upd nm (fun f => { f with data := f.data ++ t })) (by rw [← hup.1]; exact HL7.out) g8 ?_
          rw [cells_set HA7.out.1]; rfl
  · rw [show s.call.code = 5 by unfold St.code; rw [hdn]; rfl] at C2
    have HDN := Lib.hid hdn
    simp only [if_true]
    clear hdn
    go_enter Tryz.func32, Tryz.ntmps32
    go_wp2_with fail
    refine (C1).mono ?_; rintro e w2 ⟨rfl, rfl⟩
    go_wp2_with fail
    refine (C2).mono ?_; rintro e w2 ⟨rfl, hcd⟩
    have HC := Lib.hid hcd
    clear hcd
    go_wp2_with fail
    go_ret
    exact ⟨rfl, rd_keep HBB.out HOKC.out HS.out (H.out.called HC.out) (HC.out.2)⟩
end Go.Proofs.YtignfbdgpgidpaaGreatDoor
/- The document's disk: New, Arm, Whole. -/
namespace Go.Proofs.YtignfbdgpgidpaaGreatDoor
open Go.RowKit FsPlain
set_option linter.unusedVariables false
set_option linter.unusedSimpArgs false
set_option maxRecDepth 20000
theorem rnew_no (room : Int) (w : World) (h : room < 0 ∨ 16777216 < room) :
    Calls Tryz.prog 29 #[.int .i64 room] w fun e w' => e = .returned (.pointer none) ∧ w = w' := by
  by_cases h0 : room < 0
  all_goals
    go_enter Tryz.func29, Tryz.ntmps29
    go_wp2_with fail
    go_ret
    exact ⟨rfl, rfl⟩
theorem rnew_c (room : Int) (w : World) (h0 : 0 ≤ room) (h1 : room ≤ 16777216) :
    Calls Tryz.prog 29 #[.int .i64 room] w fun e w' => e = .returned (.pointer (some ⟨w.heap.size, 0, none⟩)) ∧ RDisk w' w.heap.size ⟨room, 0, -1, false, []⟩ (fun x => x = w.heap.size) ∧ Gr w w' := by
  go_enter Tryz.func29, Tryz.ntmps29
  go_wp2_with fail
  go_ret
  refine ⟨rfl, ⟨⟨h0, h1, by simp, by simp, by simp, by simpa [used] using h0, by simp, by simp, by simp, List.Pairwise.nil⟩, List.Pairwise.nil, .slice none 0 0, ⟨heap_alloc_new w _, .inl ⟨rfl, rfl⟩⟩, (fun x hx => by rw [hx]; simp), rfl, fun x hx => by cases hx⟩, Below.alloc (Below.refl _ _) (Nat.le_refl _) _⟩
theorem rarm_c (d : Nat) (s : St) (k : Int) (w : World) {B : Nat → Prop} (hd : RDisk w d s B) (hk : -9223372036854775808 ≤ k ∧ k ≤ 9223372036854775807) :
    Calls Tryz.prog 10 #[.pointer (some ⟨d, 0, none⟩), .int .i64 k] w (Does w B (RDiskA d { s with ahead := max k (-1) }) (.tuple #[])) := by
  obtain ⟨hok, hsort, v, h, hB⟩ := hd
  have c2 : w.cell? ⟨d, 2, none⟩ = some (.int .i64 s.ahead) := by rw [cells_at h.1]; rfl
  have f2 := cells_free h.1 2
  have key : ∀ a, a = max k (-1) → ∃ B', RDiskA d { s with ahead := max k (-1) } (w.setCell ⟨d, 2, none⟩ (.int .i64 a)) B' ∧ Nx B w B' (w.setCell ⟨d, 2, none⟩ (.int .i64 a)) := by
    intro a ha
    subst ha
    have o := Only.cell1 w d 2 (.int .i64 (max k (-1)))
    refine rd_keep hB ⟨hok.r0, hok.r1, hok.c0, by show -1 ≤ max k (-1); omega, by show max k (-1) ≤ _; omega, hok.u, hok.k, hok.n, hok.m, hok.d⟩ hsort ?_ o
    exact h.put (s' := { s with ahead := max k (-1) }) h.2 o (by rw [cells_set h.1]; rfl)
  have HK := Lib.hid key
  clear hok hsort h key hB
  go_enter Tryz.func10, Tryz.ntmps10
  go_wp2_with fail
  all_goals
    go_end0
    exact ⟨rfl, HK.out _ (by omega)⟩
theorem rwhole_some (d : Nat) (s : St) (nm : List UInt8) (v : Value) (w : World) (hm : s.fs.length ≤ 300) (h : RAt w d s v) {f : F} (hg : s.get nm = some f) :
    Calls Tryz.prog 69 #[.pointer (some ⟨d, 0, none⟩), .string (bs nm)] w fun e w' => e = .returned (.string (bs f.data)) ∧ Gr w w' := by
  have C0 := rat_c d s nm v w hm h
  obtain ⟨k, hp, hat, hfn⟩ := place_of_some hg
  have hkl := (List.getElem?_eq_some_iff.1 hat).1
  rw [hp] at C0
  obtain ⟨hh, ⟨h1, _⟩ | ⟨b, off, cc, rfl, hcc, hcell⟩⟩ := h
  · exfalso; rw [h1] at hkl; exact absurd hkl (by simp)
  obtain ⟨q0, q1, q2⟩ := fall3_at s.fs k f hat
  rw [Nat.mul_comm 3 k] at q1
  have HH := Lib.hid hh
  have HCC := Lib.hid hcell
  have hdl := blk_lt2 hh
  clear hh hcell q0 q2 hat
  go_enter Tryz.func69, Tryz.ntmps69
  go_wp2_with fail
  refine (C0).mono ?_; rintro e w2 ⟨rfl, g⟩
  have c1 : w2.cell? ⟨d, 1, none⟩ = some (.slice (some ⟨b, off, none⟩) s.fs.length cc) := by rw [Below.cell g (p := ⟨d, 1, none⟩) hdl, cells_at HH.out]; rfl
  have y1 := (HCC.out.gr g).2 _ _ q1
  rw [← Nat.add_assoc] at y1
  have HG := Lib.hid g
  clear g C0
  go_wp2_with fail
  go_ret
  exact ⟨rfl, HG.out⟩
end Go.Proofs.YtignfbdgpgidpaaGreatDoor
/- The document's disk: Size, Read. -/
namespace Go.Proofs.YtignfbdgpgidpaaGreatDoor
open Go.RowKit FsPlain
set_option linter.unusedVariables false
set_option linter.unusedSimpArgs false
set_option maxRecDepth 20000
set_option maxHeartbeats 2000000 in
theorem rsize_c (d : Nat) (s : St) (nm : List UInt8) (w : World) {B : Nat → Prop} (hd : RDisk w d s B) (hn : rightB nm = true) (hl : nm.length ≤ 24) (hc : s.calls ≤ 1000000000000) :
    Calls Tryz.prog 78 #[.pointer (some ⟨d, 0, none⟩), .string (bs nm)] w (Does w B (RDiskA d s.call) (.tuple #[.int .i64 (sizeR s nm).1, .int .i64 (sizeR s nm).2])) := by
  obtain ⟨hok, hsort, v, h, hB⟩ := hd
  have HBB := Lib.hid hB
  clear hB
  have C1 := rright_c (bs nm) (by rw [bs_size]; unfold maxLen; omega) w
  rw [rbs_list, hn] at C1
  have C2 := rcall_yes d s v w h.1 hok.c0 hc hok.a0 hok.a1
  have hokc := ok_call hok
  have hm : s.call.fs.length ≤ 300 := by have := hok.m; show s.fs.length ≤ 300; omega
  have HOKC := Lib.hid hokc
  have HS := Lib.hid hsort
  have H := Lib.hid h
  clear hokc hok hsort h
  unfold sizeR
  cases hdn : s.call.down
  · rw [show s.call.code = 0 by unfold St.code; rw [hdn]; rfl] at C2
    clear hdn
    have HH := Lib.hid (fun w2 (h : RAt w2 d s.call v) => rhas_c d s.call nm v w2 hm h)
    cases hg : s.get nm with
    | none =>
      have e0 : (s.call.get nm).isSome = false := by rw [show s.call.get nm = s.get nm from rfl, hg]; rfl
      rw [e0] at HH
      simp only [Bool.false_eq_true, if_false]
      clear hg e0
      go_enter Tryz.func78, Tryz.ntmps78
      go_wp2_with fail
      refine (C1).mono ?_; rintro e w2 ⟨rfl, rfl⟩
      go_wp2_with fail
      refine (C2).mono ?_; rintro e w2 ⟨rfl, hcd⟩
      have HA := Lib.hid (H.out.called hcd)
      have HO := Lib.hid hcd.2
      clear hcd
      go_wp2_with fail
      refine (HH.out w2 HA.out).mono ?_; rintro e w3 ⟨rfl, g3⟩
      have HA3 := Lib.hid (HA.out.gr g3)
      have HO3 := Lib.hid (HO.out.trans (Only.ofGr g3))
      clear g3
      go_wp2_with fail
      go_ret2
      exact ⟨rfl, rd_keep HBB.out HOKC.out HS.out HA3.out HO3.out⟩
    | some f =>
      have e0 : (s.call.get nm).isSome = true := by rw [show s.call.get nm = s.get nm from rfl, hg]; rfl
      rw [e0] at HH
      have HW := Lib.hid (fun w2 (h : RAt w2 d s.call v) => rwhole_some d s.call nm v w2 hm h (f := f) hg)
      have hfs : (bs f.data).size = f.data.length := bs_size _
      simp only [Bool.false_eq_true, if_false]
      clear hg e0
      go_enter Tryz.func78, Tryz.ntmps78
      go_wp2_with fail
      refine (C1).mono ?_; rintro e w2 ⟨rfl, rfl⟩
      go_wp2_with fail
      refine (C2).mono ?_; rintro e w2 ⟨rfl, hcd⟩
      have HA := Lib.hid (H.out.called hcd)
      have HO := Lib.hid hcd.2
      clear hcd
      go_wp2_with fail
      refine (HH.out w2 HA.out).mono ?_; rintro e w3 ⟨rfl, g3⟩
      have HA3 := Lib.hid (HA.out.gr g3)
      have HO3 := Lib.hid (HO.out.trans (Only.ofGr g3))
      clear g3
      go_wp2_with fail
      refine (HW.out w3 HA3.out).mono ?_; rintro e w4 ⟨rfl, g4⟩
      have HA4 := Lib.hid (HA3.out.gr g4)
      have HO4 := Lib.hid (HO3.out.trans (Only.ofGr g4))
      clear g4
      go_wp2_with fail
      go_ret2
      refine ⟨by first | rfl | simp [hfs], rd_keep HBB.out HOKC.out HS.out HA4.out HO4.out⟩
  · rw [show s.call.code = 5 by unfold St.code; rw [hdn]; rfl] at C2
    simp only [if_true]
    clear hdn
    go_enter Tryz.func78, Tryz.ntmps78
    go_wp2_with fail
    refine (C1).mono ?_; rintro e w2 ⟨rfl, rfl⟩
    go_wp2_with fail
    refine (C2).mono ?_; rintro e w2 ⟨rfl, hcd⟩
    have HA := Lib.hid (H.out.called hcd)
    have HO := Lib.hid hcd.2
    clear hcd
    go_wp2_with fail
    go_ret2
    exact ⟨rfl, rd_keep HBB.out HOKC.out HS.out HA.out HO.out⟩
theorem r_size (d : Nat) (s : St) (n : ByteArray) (hn : n.size ≤ 24) (hm : rightB n.data.toList = true) (h1 : s.calls ≤ 1000000000000) (w : World) (B : Nat → Prop) (h : RDiskA d s w B) :
    Calls Tryz.prog 78 #[.pointer (some ⟨d, 0, none⟩), .string n] w (Does w B (RDiskA d s.call) (.tuple #[.int .i64 (sizeR s n.data.toList).1, .int .i64 (sizeR s n.data.toList).2])) := by
  have C := rsize_c d s n.data.toList w h hm (by rw [show n.data.toList.length = n.size from Array.length_toList]; exact hn) h1
  rwa [bs_toList] at C
end Go.Proofs.YtignfbdgpgidpaaGreatDoor

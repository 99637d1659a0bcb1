/- Rows.XsortFailsSaid holds: for every input the law returns true and leaves its arguments as they were. Conditions: none beside the row's own. -/
import Derived.Test.YtjplkmmhjfpdaaaGreatDoorRows
import Derived.WalkKit
import Derived.ProofKit
import Derived.OpenShut
import Derived.ShutString
import Derived.ChangeOld
import Derived.Below
import Derived.Test.YtjplkmmhjfpdaaaGreatDoorF00
import Derived.Test.YtjplkmmhjfpdaaaGreatDoorF44
import Derived.Test.YtjplkmmhjfpdaaaGreatDoorF19
import Derived.Test.YtjplkmmhjfpdaaaGreatDoorF17
import Derived.Test.YtjplkmmhjfpdaaaGreatDoorTie
import Derived.Test.YtjplkmmhjfpdaaaGreatDoorCards
import Derived.LaidMore
import Derived.SevenTiedAt
import Derived.Stop.Joined
import Derived.Lay
namespace Go.Proofs.YtjplkmmhjfpdaaaGreatDoor.xsortFails
open Go.ChangeShapes Go.WideShapes Go.ChangeAt Go.RowKit
open Go.ChangeMaps (open_string shut_string)
open FsPlain CrcPlain OctPlain FramePlain RdPlain RecPlain RnPlain WrPlain XsPlain
set_option linter.unusedVariables false
set_option linter.unusedSimpArgs false
theorem own : ownKnob Tryz.prog.godebug = none := by kernel_rfl
theorem laidOut : laidOutB Tryz.prog = true := by kernel_rfl
set_option maxRecDepth 100000 in
set_option maxHeartbeats 8000000 in
theorem walk (v0 v1 v2 v3 v4 : Value) (w : World) (w0 : Rd Tryz.prog w 9 v0) (w1 : Rd Tryz.prog w 3 v1) (w2 : Rd Tryz.prog w 3 v2) (w3 : Rd Tryz.prog w 51 v3) (w4 : Rd Tryz.prog w 3 v4) (wL : laidMetH Tryz.prog Rows.xsortFailsRow.laid w) :
    Calls Tryz.prog 4 #[v0, v1, v2, v3, v4] w fun e w' => e = .returned (.bool true) ∧ Gr w w' := by
  obtain ⟨S, rfl, hS⟩ := rd_string Tryz.underlying9 w0
  obtain ⟨size, rfl, h1⟩ := rd_int Tryz.underlying3 w1
  obtain ⟨most, rfl, h3⟩ := rd_int Tryz.underlying3 w2
  obtain ⟨room, rfl, h4⟩ := rd_int Tryz.underlying51 w3
  obtain ⟨fuse, rfl, h5⟩ := rd_int Tryz.underlying3 w4
  have k1 : I64 size := by
    have h := h1
    simp only [Lit.wf, Bool.and_eq_true, decide_eq_true_eq] at h
    exact h
  have k3 : -9223372036854775808 ≤ most ∧ most ≤ 9223372036854775807 := by
    have h := h3
    simp only [Lit.wf, Bool.and_eq_true, decide_eq_true_eq] at h
    exact h
  have k4 : 0 ≤ room ∧ room ≤ 65535 := by
    have h := h4
    simp only [Lit.wf, Bool.and_eq_true, decide_eq_true_eq] at h
    exact h
  have k5 : -9223372036854775808 ≤ fuse ∧ fuse ≤ 9223372036854775807 := by
    have h := h5
    simp only [Lit.wf, Bool.and_eq_true, decide_eq_true_eq] at h
    exact h
  clear w0 w1 w2 w3 w4 h1 h3 h4 h5
  unfold maxLen at hS
  have TW := Lib.hid (show Tab w from tab_of wL rfl (by kernel_rfl) (by kernel_rfl))
  clear wL
  have AW := Lib.hid (fun u (g : Gr w u) => (awake18_c u (TW.out.gr g)).mono (fun e v h => (⟨h.1, g.trans h.2⟩ : e = .returned (.bool true) ∧ Gr w v)))
  by_cases c1 : 700 < S.size
  · have c1' : (700 : Int) < (S.size : Int) := by omega
    clear c1 k1 k3 k4 k5
    go_enter Tryz.func4, Tryz.ntmps4
    go_wp2_with fail
    refine (AW.out _ (Gr.refl _)).mono ?_; rintro e v ⟨rfl, g⟩
    go_wp2_with fail
    go_ret
    exact ⟨rfl, g⟩
  · have c1' : ¬ (700 : Int) < (S.size : Int) := by omega
    have c1'' : (S.size : Int) ≤ 700 := by omega
    by_cases c2 : most < 0
    · clear c1 k1 k3 k4 k5
      go_enter Tryz.func4, Tryz.ntmps4
      go_wp2_with fail
      refine (AW.out _ (Gr.refl _)).mono ?_; rintro e v ⟨rfl, g⟩
      go_wp2_with fail
      go_ret
      exact ⟨rfl, g⟩
    · have c2' : 0 ≤ most := by omega
      obtain ⟨r, hr⟩ : ∃ r, (S.size : Int) + room = r := ⟨_, rfl⟩
      have hrS : (S.size : Int) ≤ r := by omega
      have hr1 : r ≤ 16777216 := by omega
      have C := Lib.hid (new_c r (by omega) hr1)
      have CC := Lib.hid (fun p (u : World) (B : Nat → Prop) (h : DiskA p (fresh r) u B) => d_create p (fresh r) nmA (by decide) nmA_right (by show (0 : Int) ≤ _; decide) u B h)
      have CA := Lib.hid (fun p (u : World) (B : Nat → Prop) (h : DiskA p (stC r) u B) => d_append p (stC r) nmA S (by decide) nmA_right (by show (1 : Int) ≤ _; decide) (by omega) u B h)
      rw [st_create] at CC
      rw [st_append r S hrS] at CA
      have BN := Lib.hid (fun (u : World) => bu_new most u c2' k3.2)
      have AR := Lib.hid (fun p (u : World) (B : Nat → Prop) h => d_arm p (stA r S) fuse k5.1 k5.2 u B h)
      have SO := Lib.hid (fun D P (u : World) (B : Nat → Prop) (tb : TabB u B) (h : stars ([DiskA D (armed (stA r S) fuse), BuA P ⟨most, 0, 0⟩] ++ []) u B) => sort18_c (s := armed (stA r S) fuse) (size := size) (inn := nmA) (out := nmB) (C := S) k1 false (st_stands r S).get (by omega) (names_armed r S fuse) (by show (2 : Int) ≤ _; decide) (M := []) trivial tb h)
      have PS := Lib.hid (fun (u : World) => rparse_c size k1 S (by omega) u)
      have FA := Lib.hid (fun (er : Int) (u : World) => rfailed16_c er u)
      have IA := Lib.hid (fun (x : ByteArray) (hx : x.size ≤ 1000) (u : World) => is18_c x ⟨#[98]⟩ hx (by decide) u)
      have XL := Lib.hid (fun s' b' k c er => @xs_left r S fuse ⟨most, 0, 0⟩ size false s' b' k c er)
      have t1 : decide ((700 : Int) < (S.size : Int)) = false := by simpa using c1'
      unfold nmA nmB at SO
      unfold nmA at CC CA
      clear hrS hr1 k1 hS c1 k5
      go_enter Tryz.func4, Tryz.ntmps4
      go_wp2_with fail
      refine (C.out w).mono ?_; rintro e u ⟨p, B, rfl, hd, g, hn⟩
      have H := Lib.hid hd
      have N0 := Lib.hid (show Nx (fun _ => False) w B u from ⟨Only.ofGr g, fun b hb => .inr (hn b hb)⟩)
      clear hd g hn C
      go_wp2_with fail
      refine (CC.out p _ _ H.out).mono ?_; rintro e u1 ⟨rfl, B1, h1, n1⟩
      have K1 := Lib.hid h1
      have N1 := Lib.hid (N0.out.trans n1)
      clear h1 n1
      go_wp2_with fail
      refine (CA.out p _ _ K1.out).mono ?_; rintro e u3 ⟨rfl, B3, h3, n3⟩
      have K3 := Lib.hid h3
      have N3 := Lib.hid (N1.out.trans n3)
      clear h3 n3
      go_wp2_with fail
      refine (BN.out _).mono ?_; rintro e u4 ⟨rfl, hb, g4⟩
      have DB := Lib.hid (dm_made0 K3.out N3.out hb (fun x hx => by omega) g4)
      clear hb g4
      obtain ⟨P, hP⟩ : ∃ P, u3.heap.size = P := ⟨_, rfl⟩
      rw [hP] at DB ⊢
      clear hP
      go_wp2_with fail
      refine (DM.disk (M := []) trivial DB.out (AR.out p _)).mono ?_; rintro e u5 ⟨rfl, db⟩
      have DB5 := Lib.hid db
      clear db
      go_wp2_with fail
      refine (DB5.out.sort TW.out (fun B tb h => SO.out p P _ B tb h)).mono ?_; rintro e u6 ⟨s', b', k, c, er, rfl, hR, db⟩
      have D6 := Lib.hid (DM.blk_new (M := []) trivial db #[.int .i64 k, .int .u32 c] 37 rfl)
      obtain ⟨I, hI⟩ : ∃ I, u6.heap.size = I := ⟨_, rfl⟩
      have HI := Lib.hid hI
      rw [hI] at D6
      obtain ⟨u7, hu7⟩ : ∃ u7, u6.alloc (.cells #[.int .i64 k, .int .u32 c] 37) = u7 := ⟨_, rfl⟩
      rw [hu7] at D6
      have HU7 := Lib.hid hu7
      have HR := Lib.hid hR
      have FR := Lib.hid (show Frs [Blk I #[.int .i64 k, .int .u32 c] 37] from ⟨fr_blk _ _ _, trivial⟩)
      have hcs : s'.calls ≤ 2000000000 := by have h1 := hR.calls; have h2 : (armed (stA r S) fuse).calls = 2 := rfl; omega
      have HCS := Lib.hid hcs
      clear hR db hI hu7 hcs
      go_wp2_with fail
      rw [HU7.out]
      refine (D6.out.disk FR.out (fun B hB => d_rise p s' _ B hB)).mono ?_; rintro e u8 ⟨rfl, d8⟩
      have D8 := Lib.hid d8
      clear d8 D6
      go_wp2_with fail
      refine (D8.out.listN FR.out rfl rfl (by rw [WrPlain.rise_calls]; have := HCS.out; omega)).mono ?_; rintro e u9 ⟨x, rfl, ho, d9⟩
      obtain ⟨na, nc, rfl⟩ := own_shape16 ho
      obtain ⟨nl, hnl⟩ : ∃ nl, (riseR s' []).fs.length = nl := ⟨_, rfl⟩
      have hll : (listN (riseR s' [])).length = nl := by rw [listN_length, hnl]
      have D9 := Lib.hid d9
      have LI := Lib.hid (fun v (g : Gr u9 v) => (lies_own ((by rw [hll, ← hnl]; exact ho : u9.ownsRow u8.heap.size 9 1 (.slice na (riseR s' []).fs.length nc) (listN (riseR s' [])).length (strs (listN (riseR s' []))))) |>.gr g : Lies v (.slice na (riseR s' []).fs.length nc) (listN (riseR s' []))))
      have XN := Lib.hid (XL.out _ _ _ _ _ HR.out)
      have hnl2 : nl ≤ 200 := by rw [← hnl, rise_len]; exact HR.out.ok.m
      generalize listN (riseR s' []) = NL at LI XN hll
      rw [hnl] at LI ⊢
      have HNL := Lib.hid hll
      have hnow : b'.now = 0 := HR.out.now
      have hhigh : b'.high ≤ most := by have h1 := d9.bud.1.h1; have h2 : b'.m = most := HR.out.bm; omega
      have NW := Lib.hid (fun u (h : BAt u P b') => bnow_c P b' u h)
      have HH := Lib.hid (fun u (h : BAt u P b') => bhigh_c P b' u h)
      rw [hnow] at NW
      have th : decide (most < b'.high) = false := by simp; omega
      generalize b'.high = hg at HH hhigh th
      clear ho d9 hll hnl hnow D8 XL
      have hyes := HR.out.yes
      have hcode := HR.out.code
      have hless := HR.out.less
      clear HR
      go_wp2_with fail
      refine (PS.out _).mono ?_; rintro e u10 hp
      have LOOP : True := trivial
      rcases hp with ⟨L, vl, hL, rfl, _, g10⟩ | ⟨hno, rfl, g10⟩
      · have hco : 16 ≤ most → er = 0 ∨ er = 4 ∨ er = 5 := fun h => hcode L hL (by show 16 ≤ most - 0; omega)
        have hl9 : most < 16 → er = 9 := fun h => hless (by show most - 0 < 16; omega)
        have D10 := Lib.hid (DM.gr FR.out (DM.gr FR.out D9.out g10) (gral17 _ (.cells #[.int .i64 L.length, .int .u32 (sumN L : Nat)] 37)))
        have G10 := Lib.hid (g10.trans (gral17 u10 (.cells #[.int .i64 L.length, .int .u32 (sumN L : Nat)] 37)))
        have BA := Lib.hid D10.out.bud
        have HCO := Lib.hid hco
        have HL9 := Lib.hid hl9
        clear hyes hcode hless hL g10 hco hl9 D9
        go_wp2_with fail
        refine (NW.out _ BA.out).mono ?_; rintro e u11 ⟨rfl, rfl⟩
        go_wp2_with fail
        refine (HH.out _ BA.out).mono ?_; rintro e u11 ⟨rfl, rfl⟩
        have REL0 := Lib.hid (And.intro D10.out.end G10.out)
        clear BA D10 G10 NW HH
        go_wp2_with fail
        go_loopw [21] (fun i wr => ∃ j : Nat, j ≤ nl ∧ i = .int .i64 (j : Int) ∧ Gr w wr ∧ Gr u9 wr) (fun i _ => nl - (intOf i).toNat)
        case atStart => exact ⟨0, Nat.zero_le _, rfl, REL0.out⟩
        case round =>
          obtain ⟨j, hj, rfl, hg1, hg2⟩ := hrel
          have RELJ := Lib.hid (show Gr w wr ∧ Gr u9 wr from ⟨hg1, hg2⟩)
          have LJ := LI.out wr hg2
          clear hg1 hg2
          by_cases hlt : j < nl
          · have hltI : (j : Int) < (nl : Int) := by omega
            obtain ⟨x, hx⟩ : ∃ x, NL[j]? = some x := ⟨NL[j]'(by have := HNL.out; omega), List.getElem?_eq_getElem _⟩
            obtain ⟨bq, off, rfl, hbq, hcell⟩ := lies_cell17 LJ hx
            obtain ⟨hxx, hx24⟩ := XN.out x (List.mem_of_getElem? hx)
            clear LJ hx
            have ta : ((⟨#[98]⟩ : ByteArray).toList != (⟨#[97]⟩ : ByteArray).toList) = true := by rw [Lib.toList_data, Lib.toList_data]; decide
            by_cases xa : x = nmA
            · subst xa
              unfold nmA at hcell
              clear hxx
              go_wp2_with fail
              refine ⟨⟨j + 1, by omega, rfl, RELJ.out⟩, ?_⟩
              simp [intOf]; omega
            · have xa0 : x.toList ≠ [97] := fun e => xa (toList_inj (e.trans (show [97] = (⟨#[97]⟩ : ByteArray).toList by rw [Lib.toList_data])))
              have xa1 : (x.toList != [97]) = true := bne_iff_ne.2 xa0
              have xa2 : (x.toList == [97]) = false := by simpa using xa0
              by_cases xb : x = nmB
              · subst xb
                unfold nmB at hcell
                clear hxx xa xa0 xa1 xa2
                go_wp2_with fail
                refine ⟨⟨j + 1, by omega, rfl, RELJ.out⟩, ?_⟩
                simp [intOf]; omega
              · have xb0 : x.toList ≠ [98] := fun e => xb (toList_inj (e.trans (show [98] = (⟨#[98]⟩ : ByteArray).toList by rw [Lib.toList_data])))
                have xb1 : (x.toList != [98]) = true := bne_iff_ne.2 xb0
                have xb2 : (x.toList == [98]) = false := by simpa using xb0
                have IX := IA.out x (by omega)
                have hib : isB x.data.toList (⟨#[98]⟩ : ByteArray).data.toList = true := by
                  rcases hxx with q | q | q
                  · exact absurd q xa
                  · exact absurd q xb
                  · exact q
                rw [hib] at IX
                clear hxx xa xb hib xa0 xb0
                go_wp2_with fail
                refine (IX _).mono ?_; rintro e u12 ⟨rfl, g12⟩
                have RELK := Lib.hid (show Gr w u12 ∧ Gr u9 u12 from ⟨RELJ.out.1.trans g12, RELJ.out.2.trans g12⟩)
                clear g12
                go_wp2_with fail
                refine ⟨⟨j + 1, by omega, rfl, RELK.out⟩, ?_⟩
                simp [intOf]; omega
          · have hltI : ¬ (j : Int) < (nl : Int) := by omega
            by_cases hm16 : most < 16
            · have e9 := HL9.out hm16
              subst e9
              go_wp2_with fail
              refine (AW.out _ RELJ.out.1).mono ?_; rintro e v9 ⟨rfl, g⟩
              go_wp2_with fail
              go_ret
              exact ⟨rfl, g⟩
            · rcases HCO.out (by omega) with h | h | h
              · subst h
                have F := FA.out 0
                go_wp2_with fail
                refine (F _).mono ?_; rintro e u8 ⟨rfl, rfl⟩
                go_wp2_with fail
                refine (AW.out _ RELJ.out.1).mono ?_; rintro e v9 ⟨rfl, g⟩
                go_wp2_with fail
                go_ret
                exact ⟨rfl, g⟩
              · subst h
                have F := FA.out 4
                go_wp2_with fail
                refine (F _).mono ?_; rintro e u8 ⟨rfl, rfl⟩
                go_wp2_with fail
                refine (AW.out _ RELJ.out.1).mono ?_; rintro e v9 ⟨rfl, g⟩
                go_wp2_with fail
                go_ret
                exact ⟨rfl, g⟩
              · subst h
                have F := FA.out 5
                go_wp2_with fail
                refine (F _).mono ?_; rintro e u8 ⟨rfl, rfl⟩
                go_wp2_with fail
                refine (AW.out _ RELJ.out.1).mono ?_; rintro e v9 ⟨rfl, g⟩
                go_wp2_with fail
                go_ret
                exact ⟨rfl, g⟩
      · have he0 : er ≠ 0 := fun h => by obtain ⟨L, hL, _⟩ := hyes h; exact hno L hL
        have hl9 : most < 16 → er = 9 := fun h => hless (by show most - 0 < 16; omega)
        have D10 := Lib.hid (DM.gr FR.out (DM.gr FR.out D9.out g10) (gral17 _ (.cells #[.int .i64 0, .int .u32 0] 37)))
        have G10 := Lib.hid (g10.trans (gral17 u10 (.cells #[.int .i64 0, .int .u32 0] 37)))
        have BA := Lib.hid D10.out.bud
        have HL9 := Lib.hid hl9
        have he2 : (er == 0) = false := by simpa using he0
        have he3 : (er != 0) = true := by simpa using he0
        clear hyes hcode hless hno g10 hl9 D9
        go_wp2_with fail
        refine (NW.out _ BA.out).mono ?_; rintro e u11 ⟨rfl, rfl⟩
        go_wp2_with fail
        refine (HH.out _ BA.out).mono ?_; rintro e u11 ⟨rfl, rfl⟩
        have REL0 := Lib.hid (And.intro D10.out.end G10.out)
        clear BA D10 G10 NW HH
        go_wp2_with fail
        go_loopw [21] (fun i wr => ∃ j : Nat, j ≤ nl ∧ i = .int .i64 (j : Int) ∧ Gr w wr ∧ Gr u9 wr) (fun i _ => nl - (intOf i).toNat)
        case atStart => exact ⟨0, Nat.zero_le _, rfl, REL0.out⟩
        case round =>
          obtain ⟨j, hj, rfl, hg1, hg2⟩ := hrel
          have RELJ := Lib.hid (show Gr w wr ∧ Gr u9 wr from ⟨hg1, hg2⟩)
          have LJ := LI.out wr hg2
          clear hg1 hg2
          by_cases hlt : j < nl
          · have hltI : (j : Int) < (nl : Int) := by omega
            obtain ⟨x, hx⟩ : ∃ x, NL[j]? = some x := ⟨NL[j]'(by have := HNL.out; omega), List.getElem?_eq_getElem _⟩
            obtain ⟨bq, off, rfl, hbq, hcell⟩ := lies_cell17 LJ hx
            obtain ⟨hxx, hx24⟩ := XN.out x (List.mem_of_getElem? hx)
            clear LJ hx
            have ta : ((⟨#[98]⟩ : ByteArray).toList != (⟨#[97]⟩ : ByteArray).toList) = true := by rw [Lib.toList_data, Lib.toList_data]; decide
            by_cases xa : x = nmA
            · subst xa
              unfold nmA at hcell
              clear hxx
              go_wp2_with fail
              refine ⟨⟨j + 1, by omega, rfl, RELJ.out⟩, ?_⟩
              simp [intOf]; omega
            · have xa0 : x.toList ≠ [97] := fun e => xa (toList_inj (e.trans (show [97] = (⟨#[97]⟩ : ByteArray).toList by rw [Lib.toList_data])))
              have xa1 : (x.toList != [97]) = true := bne_iff_ne.2 xa0
              have xa2 : (x.toList == [97]) = false := by simpa using xa0
              by_cases xb : x = nmB
              · subst xb
                unfold nmB at hcell
                clear hxx xa xa0 xa1 xa2
                go_wp2_with fail
                refine ⟨⟨j + 1, by omega, rfl, RELJ.out⟩, ?_⟩
                simp [intOf]; omega
              · have xb0 : x.toList ≠ [98] := fun e => xb (toList_inj (e.trans (show [98] = (⟨#[98]⟩ : ByteArray).toList by rw [Lib.toList_data])))
                have xb1 : (x.toList != [98]) = true := bne_iff_ne.2 xb0
                have xb2 : (x.toList == [98]) = false := by simpa using xb0
                have IX := IA.out x (by omega)
                have hib : isB x.data.toList (⟨#[98]⟩ : ByteArray).data.toList = true := by
                  rcases hxx with q | q | q
                  · exact absurd q xa
                  · exact absurd q xb
                  · exact q
                rw [hib] at IX
                clear hxx xa xb hib xa0 xb0
                go_wp2_with fail
                refine (IX _).mono ?_; rintro e u12 ⟨rfl, g12⟩
                have RELK := Lib.hid (show Gr w u12 ∧ Gr u9 u12 from ⟨RELJ.out.1.trans g12, RELJ.out.2.trans g12⟩)
                clear g12
                go_wp2_with fail
                refine ⟨⟨j + 1, by omega, rfl, RELK.out⟩, ?_⟩
                simp [intOf]; omega
          · have hltI : ¬ (j : Int) < (nl : Int) := by omega
            by_cases hm16 : most < 16
            · have e9 := HL9.out hm16
              subst e9
              go_wp2_with fail
              refine (AW.out _ RELJ.out.1).mono ?_; rintro e v9 ⟨rfl, g⟩
              go_wp2_with fail
              go_ret
              exact ⟨rfl, g⟩
            · go_wp2_with fail
              refine (AW.out _ RELJ.out.1).mono ?_; rintro e v9 ⟨rfl, g⟩
              go_wp2_with fail
              go_ret
              exact ⟨rfl, g⟩
set_option maxRecDepth 100000 in
theorem lifted (os : Os) (started : os.Started) (H : Type) (enc : TypeId × Value → H) :
    ReturnsInHanded {} Tryz.checked os 4 .any (fun w args => (Rows.xsortFailsSpec.pre enc Tryz.prog Tryz.f4 [] false w args ∧ laidMetH Tryz.prog Rows.xsortFailsRow.laid w) ∧ sizedMet enc Tryz.prog Tryz.f4 (OpenSpec.ofChange Rows.xsortFailsSpec) false w args) (Rows.xsortFailsSpec.post enc Tryz.prog Tryz.f4 false true false false) := by
  refine returnsInHanded_of_change_and (C := Tryz.checked) (X := fun w _ => laidMetH Tryz.prog Rows.xsortFailsRow.laid w) (fun _ _ _ hh h => h.of_heap hh) own started (by kernel_rfl) Tryz.func4
    (ChangeSpec.witness_shaped (enc := enc) (C := Tryz.checked) (os := os) (X := fun w _ => laidMetH Tryz.prog Rows.xsortFailsRow.laid w) false (World.laidAll Tryz.prog os Rows.xsortFailsRow.laid) #[.string ByteArray.empty, .int .i64 0, .int .i64 0, .int .u16 0, .int .i64 0] 8 (World.laidAll_os _ _ _) (World.shaped_of_ZipB (by kernel_rfl) (by kernel_rfl)) (by kernel_rfl) (by kernel_rfl) (by kernel_rfl) (by rw [MakeChecks.laidMetH_plain _ _ _ (by kernel_rfl)]; exact laidMet_laidAll _ (by kernel_rfl) (by kernel_rfl))) ?_
  intro W base args ds gs before hval0 hW _ _ hL _
  have hval : ∀ (j : Nat) t v, Tryz.f4.params[j]? = some t → args[j]? = some v → Value.okWide Tryz.prog W .any base t v := hval0
  have hW' := hW
  obtain ⟨p, q, hA0, hV, rfl, hfz, hnd⟩ := hW
  have hA : DataW.TrodAll enc Tryz.prog W 0 (fun _ => true) true Tryz.f4.params.toList args.toList ds p := hA0
  rw [Tryz.params4] at hA hval
  obtain ⟨v0, vs0, d0, ds0, p0, q0, hargs, rfl, rfl, h0, r0⟩ := trodAll_cons hA
  obtain ⟨v1, vs1, d1, ds1, p1, q1, rfl, rfl, rfl, h1, r1⟩ := trodAll_cons r0
  obtain ⟨v2, vs2, d2, ds2, p2, q2, rfl, rfl, rfl, h2, r2⟩ := trodAll_cons r1
  obtain ⟨v3, vs3, d3, ds3, p3, q3, rfl, rfl, rfl, h3, r3⟩ := trodAll_cons r2
  obtain ⟨v4, vs4, d4, ds4, p4, q4, rfl, rfl, rfl, h4, r4⟩ := trodAll_cons r3
  obtain ⟨rfl, rfl, rfl⟩ := trodAll_nil r4
  obtain rfl : args = #[v0, v1, v2, v3, v4] := by cases args; simp_all
  obtain ⟨rfl, rfl⟩ := trodVars_none hV
  have k0 := h0
  have lt0 : ∀ x ∈ p0, x.block < W.heap.size := by obtain ⟨m, hm⟩ := k0; exact DataW.trod_lt m _ _ _ hm
  obtain ⟨n0, e0⟩ := okWide_string Tryz.underlying9 (hval 0 9 v0 rfl rfl)
  have w0 : Rd Tryz.prog W 9 v0 := by
    obtain ⟨fuel, hf⟩ := h0
    subst e0
    exact ⟨H, enc, fuel, _, by simpa [Value.cells] using hf⟩
  have k1 := h1
  have lt1 : ∀ x ∈ p1, x.block < W.heap.size := by obtain ⟨m, hm⟩ := k1; exact DataW.trod_lt m _ _ _ hm
  obtain ⟨n1, e1⟩ := okWide_int Tryz.underlying3 (hval 1 3 v1 rfl rfl)
  have w1 : Rd Tryz.prog W 3 v1 := by
    obtain ⟨fuel, hf⟩ := h1
    subst e1
    exact ⟨H, enc, fuel, _, by simpa [Value.cells] using hf⟩
  have k2 := h2
  have lt2 : ∀ x ∈ p2, x.block < W.heap.size := by obtain ⟨m, hm⟩ := k2; exact DataW.trod_lt m _ _ _ hm
  obtain ⟨n2, e2⟩ := okWide_int Tryz.underlying3 (hval 2 3 v2 rfl rfl)
  have w2 : Rd Tryz.prog W 3 v2 := by
    obtain ⟨fuel, hf⟩ := h2
    subst e2
    exact ⟨H, enc, fuel, _, by simpa [Value.cells] using hf⟩
  have k3 := h3
  have lt3 : ∀ x ∈ p3, x.block < W.heap.size := by obtain ⟨m, hm⟩ := k3; exact DataW.trod_lt m _ _ _ hm
  obtain ⟨n3, e3⟩ := okWide_int Tryz.underlying51 (hval 3 51 v3 rfl rfl)
  have w3 : Rd Tryz.prog W 51 v3 := by
    obtain ⟨fuel, hf⟩ := h3
    subst e3
    exact ⟨H, enc, fuel, _, by simpa [Value.cells] using hf⟩
  have k4 := h4
  have lt4 : ∀ x ∈ p4, x.block < W.heap.size := by obtain ⟨m, hm⟩ := k4; exact DataW.trod_lt m _ _ _ hm
  obtain ⟨n4, e4⟩ := okWide_int Tryz.underlying3 (hval 4 3 v4 rfl rfl)
  have w4 : Rd Tryz.prog W 3 v4 := by
    obtain ⟨fuel, hf⟩ := h4
    subst e4
    exact ⟨H, enc, fuel, _, by simpa [Value.cells] using hf⟩
  clear hA0 hval0
  refine (walk v0 v1 v2 v3 v4 W w0 w1 w2 w3 w4 hL).mono fun e W' ⟨he, bel⟩ => ?_
  subst he
  exact ⟨_, rfl, _, _, _, [], _, [], hW', trodAll_mk1 (shut_bool Tryz.underlying4 _), (trodAll_cons_mk (Below.trod laidOut (by kernel_rfl) (of_decide_eq_true (by kernel_rfl)) k0 bel lt0) (trodAll_cons_mk (Below.trod laidOut (by kernel_rfl) (of_decide_eq_true (by kernel_rfl)) k1 bel lt1) (trodAll_cons_mk (Below.trod laidOut (by kernel_rfl) (of_decide_eq_true (by kernel_rfl)) k2 bel lt2) (trodAll_cons_mk (Below.trod laidOut (by kernel_rfl) (of_decide_eq_true (by kernel_rfl)) k3 bel lt3) (trodAll_cons_mk (Below.trod laidOut (by kernel_rfl) (of_decide_eq_true (by kernel_rfl)) k4 bel lt4) trodAll_mk0))))), rfl, bel.frame _, fun h => by cases h⟩
theorem over : Rows.xsortFailsRow.holds Tryz.pinned (OpenSpec.ofChange Rows.xsortFailsSpec) :=
  OpenClaim.holds_of_wide 4 Tryz.f4 rfl rfl rfl rfl rfl rfl rfl ⟨rfl, rfl, rfl, rfl, rfl⟩ rfl rfl rfl rfl rfl (by kernel_rfl) Tryz.func4 (by kernel_rfl)
    (of_decide_eq_true (by kernel_rfl)) (by unfold Func.isWrapper; first | (rw [if_pos (by decide +kernel)]; kernel_rfl) | (rw [if_neg (by decide +kernel)]; exact ⟨rfl, rfl⟩))
    (fun os started H enc _ => lifted os started H enc)
theorem proved : Rows.XsortFailsCardSaid :=
  Claim7.holds_tied_plain_at .later [] [.data, .data, .data, .data, .pinned] true (true, "1f854b5b918df0a6d6d6530d34e0e6afbc13c03b9428d5998497edc4627eac0c") false
    over (fun _ h => by cases h) (by kernel_rfl) (fun _ h => by cases h) xsortFails_row_tie rfl ⟨rfl, rfl⟩ (by kernel_rfl) rfl
    (fun f fn hf hfn => by
      obtain rfl : f = 4 := Option.some.inj ((show Tryz.prog.funcNamed Rows.xsortFailsRow.func = some 4 by kernel_rfl).symm.trans hf) |>.symm
      obtain rfl : fn = Tryz.f4 := (Option.some.inj (Tryz.func4.symm.trans hfn)).symm
      exact ⟨by kernel_rfl, fun j t ht => by
        rw [Tryz.params4] at ht
        have hm : t ∈ [9, 3, 3, 51, 3] := by simpa using Array.mem_of_getElem? ht
        have hall : ([9, 3, 3, 51, 3].all fun u => !Tryz.prog.wantsStandIn u) = true := by kernel_rfl
        exact (show Tryz.prog.wantsStandIn t = false by simpa using List.all_eq_true.1 hall t hm)⟩)
    (by kernel_rfl)
#print axioms proved
end Go.Proofs.YtjplkmmhjfpdaaaGreatDoor.xsortFails

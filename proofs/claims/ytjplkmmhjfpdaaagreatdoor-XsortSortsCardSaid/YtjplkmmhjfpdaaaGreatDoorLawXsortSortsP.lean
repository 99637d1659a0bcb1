/- Rows.XsortSortsSaid holds: for every input the law returns true and leaves its arguments as they were. Conditions: none beside the row's own. -/
import Derived.Test.YtjplkmmhjfpdaaaGreatDoorRows
import Derived.WalkKit
import Derived.ProofKit
import Derived.OpenShut
import Derived.ShutString
import Derived.ChangeOld
import Derived.Below
import Derived.Test.YtjplkmmhjfpdaaaGreatDoorS00
import Derived.Test.YtjplkmmhjfpdaaaGreatDoorS43
import Derived.Test.YtjplkmmhjfpdaaaGreatDoorS15
import Derived.Test.YtjplkmmhjfpdaaaGreatDoorTie
import Derived.Test.YtjplkmmhjfpdaaaGreatDoorCards
import Derived.LaidMore
import Derived.SevenTiedAt
import Derived.Stop.Joined
import Derived.Lay
namespace Go.Proofs.YtjplkmmhjfpdaaaGreatDoor.xsortSorts
open Go.ChangeShapes Go.WideShapes Go.ChangeAt Go.RowKit
open Go.ChangeMaps (open_string shut_string)
open FsPlain CrcPlain OctPlain FramePlain RdPlain RecPlain RnPlain WrPlain XsPlain
set_option linter.unusedVariables false
set_option linter.unusedSimpArgs false
theorem own : ownKnob Tryz.prog.godebug = none := by kernel_rfl
theorem laidOut : laidOutB Tryz.prog = true := by kernel_rfl
set_option maxRecDepth 100000 in
set_option maxHeartbeats 8000000 in
theorem walk (v0 v1 v2 v3 v4 : Value) (w : World) (w0 : Rd Tryz.prog w 5 v0) (w1 : Rd Tryz.prog w 22 v1) (w2 : Rd Tryz.prog w 5 v2) (w3 : Rd Tryz.prog w 4 v3) (w4 : Rd Tryz.prog w 4 v4) (wL : laidMetH Tryz.prog Rows.xsortSortsRow.laid w) :
    Calls Tryz.prog 3 #[v0, v1, v2, v3, v4] w fun e w' => e = .returned (.bool true) ∧ Gr w w' := by
  obtain ⟨z0, rfl, hw0⟩ := rd_int Tryz.underlying5 w0
  obtain ⟨l, hl, hlm, hls⟩ := lies_in Tryz.underlying22 w1
  obtain ⟨z2, rfl, hw2⟩ := rd_int Tryz.underlying5 w2
  obtain ⟨uq, rfl⟩ := rd_bool Tryz.underlying4 w3
  obtain ⟨th, rfl⟩ := rd_bool Tryz.underlying4 w4
  have hk : 0 ≤ z0 ∧ z0 ≤ 255 := by
    have h := hw0
    simp only [Lit.wf, Bool.and_eq_true, decide_eq_true_eq] at h
    exact h
  have hk2 : 0 ≤ z2 ∧ z2 ≤ 255 := by
    have h := hw2
    simp only [Lit.wf, Bool.and_eq_true, decide_eq_true_eq] at h
    exact h
  clear w0 w1 w2 w3 w4 hw0 hw2 hls
  unfold maxLen at hlm
  have TW := Lib.hid (show Tab w from tab_of wL rfl (by kernel_rfl) (by kernel_rfl))
  clear wL
  have AW := Lib.hid (fun u (g : Gr w u) => (awake18_c u (TW.out.gr g)).mono (fun e v h => (⟨h.1, g.trans h.2⟩ : e = .returned (.bool true) ∧ Gr w v)))
  have F := few6_c hl 60 (by omega) (by omega)
  have HL := Lib.hid (fun u (g : Gr w u) => hl.gr g)
  obtain ⟨la, lc, rfl, hlc, hrow⟩ := hl
  have HF := Lib.hid F
  obtain ⟨nn, hnn⟩ : ∃ nn : Int, nn = 1 + z0 % 64 := ⟨_, rfl⟩
  have hn1 : 1 ≤ nn := by omega
  have hn2 : nn ≤ 64 := by omega
  obtain ⟨mo, hmo⟩ : ∃ mo : Int, mo = 16 + z2 % 56 := ⟨_, rfl⟩
  have hm1 : 16 ≤ mo := by omega
  have hm2 : mo ≤ 71 := by omega
  clear hrow F
  cases hf : few6 l 60
  · have F := HF.out
    rw [hf] at F
    go_enter Tryz.func3, Tryz.ntmps3
    go_wp2_with fail
    refine F.mono ?_; rintro e u ⟨rfl, rfl⟩
    go_wp2_with fail
    refine (AW.out _ (Gr.refl _)).mono ?_; rintro e v ⟨rfl, g⟩
    go_wp2_with fail
    go_ret
    exact ⟨rfl, g⟩
  · have F := HF.out
    rw [hf] at F
    obtain ⟨hl60, hl80⟩ := few6_yes hf
    have HL80 := Lib.hid hl80
    clear hf HF hl80
    have HKN := Lib.hid (show I64 nn by unfold I64; omega)
    have CL := Lib.hid (fun u (g : Gr w u) => rlay_c (HL.out u g) nn HKN.out (by omega) (fun s hs => by have := HL80.out s hs; omega))
    obtain ⟨n, hn⟩ : ∃ n, l.length = n := ⟨_, rfl⟩
    have HN := Lib.hid hn
    have HL60 := Lib.hid hl60
    obtain ⟨lb, hlb⟩ : ∃ lb, lb = layB nn l := ⟨_, rfl⟩
    obtain ⟨LR, hLR⟩ : ∃ LR, LR = layR nn l := ⟨_, rfl⟩
    rw [← hLR, ← hlb] at CL
    have HLB := Lib.hid hlb
    have HLR := Lib.hid hLR
    rw [hn] at hlm hlc hl60 F
    simp only [hn]
    have C := Lib.hid (new_c 1048576 (by decide) (by decide))
    clear hn hlb hLR
    cases lb
    · go_enter Tryz.func3, Tryz.ntmps3
      go_wp2_with fail
      rw [← hnn, ← hmo]
      clear hnn hmo hk hk2
      refine F.mono ?_; rintro e u ⟨rfl, rfl⟩
      clear F
      go_wp2_with fail
      have CL0 := CL.out w (Gr.refl _)
      rw [HN.out] at CL0
      refine CL0.mono ?_; rintro e u1 ⟨rfl, g1⟩
      go_wp2_with fail
      refine (C.out u1).mono ?_; rintro e u2 ⟨p, B, rfl, hd, g2, hn⟩
      clear hd hn
      go_wp2_with fail
      refine (AW.out _ (g1.trans g2)).mono ?_; rintro e v ⟨rfl, g⟩
      go_wp2_with fail
      go_ret
      exact ⟨rfl, g⟩
    · have hLB : layB nn l = true := HLB.out.symm
      have hFile : IsFile nn LR l := by rw [HLR.out]; exact lay_file hLB
      have hz : LR.size ≤ 5000 := by
        rw [HLR.out]
        have h1 := lay_size hLB
        have h3 : (l.length : Int) * nn ≤ 60 * nn := Int.mul_le_mul_of_nonneg_right (by have := HL60.out; omega) (by omega)
        have h4 := HL60.out
        omega
      have CC := Lib.hid (fun p (u : World) (B : Nat → Prop) (h : DiskA p (fresh 1048576) u B) => d_create p (fresh 1048576) nmA (by decide) nmA_right (by show (0 : Int) ≤ _; decide) u B h)
      have CA := Lib.hid (fun p (u : World) (B : Nat → Prop) (h : DiskA p (stC 1048576) u B) => d_append p (stC 1048576) nmA LR (by decide) nmA_right (by show (1 : Int) ≤ _; decide) (by omega) u B h)
      have CB := Lib.hid (fun p (u : World) (B : Nat → Prop) (h : DiskA p (stA 1048576 LR) u B) => d_create p (stA 1048576 LR) nmB (by decide) (by decide) (by show (2 : Int) ≤ _; decide) u B h)
      rw [st_create] at CC
      rw [st_append 1048576 LR (by omega)] at CA
      rw [st_createB] at CB
      have BN := Lib.hid (fun (u : World) => bu_new mo u (by omega) (by omega))
      have SO := Lib.hid (fun D P (u : World) (B : Nat → Prop) (tb : TabB u B) (h : stars ([DiskA D (stT th 1048576 LR), BuA P ⟨mo, 0, 0⟩] ++ []) u B) => sort18_c (s := stT th 1048576 LR) (size := nn) (inn := nmA) (out := nmB) (C := LR) HKN.out uq (stT_has th 1048576 LR) hz (names_stT th 1048576 LR) (by cases th; exact (show (2 : Int) ≤ 999999 by decide); exact (show (3 : Int) ≤ 999999 by decide)) (M := []) trivial tb h)
      have EX := Lib.hid (fun s' b' k c er => @xs_both th nn mo l uq LR s' b' k c er (by omega) hFile (by have := HL60.out; omega) (by omega))
      have RS := Lib.hid (fun u (g : Gr w u) => rsorted_c (HL.out u g) (by have := HL60.out; omega) uq)
      rw [HN.out] at RS
      obtain ⟨L9, hL9⟩ : ∃ L9, sortT l uq = L9 := ⟨_, rfl⟩
      have h9l : L9.length ≤ 60 := by rw [← hL9]; exact Nat.le_trans (sortT_le _ _) HL60.out
      have h9m : ∀ s ∈ L9, s ∈ l := fun s hs => by
        rw [← hL9] at hs
        cases uq
        · exact (sortT_perm l).mem_iff.1 hs
        · exact ((sortU l).2 s).1 hs
      have h9s : ∀ s ∈ L9, s.size ≤ 80 := fun s hs => HL80.out s (h9m s hs)
      have h9B : layB nn L9 = true := lay_mem hLB h9m
      have h9R := layR_yes h9B
      have h9z : (layR nn L9).size ≤ 5000 := by
        have h1 := lay_size h9B
        have h3 : (L9.length : Int) * nn ≤ 60 * nn := Int.mul_le_mul_of_nonneg_right (by omega) (by omega)
        omega
      rw [hL9] at RS EX
      have H9R := Lib.hid h9R
      unfold nmA nmB at SO
      unfold nmA at CC CA
      unfold nmB at CB
      have H9 := Lib.hid (show L9.length ≤ 60 ∧ ∀ s ∈ L9, s.size ≤ 80 from ⟨h9l, h9s⟩)
      clear hFile hLB hL9 h9l h9m h9s h9B h9R
      go_enter Tryz.func3, Tryz.ntmps3
      go_wp2_with fail
      rw [← hnn, ← hmo]
      clear hnn hmo hk hk2
      refine F.mono ?_; rintro e u ⟨rfl, rfl⟩
      clear F
      go_wp2_with fail
      have CL0 := CL.out w (Gr.refl _)
      rw [HN.out] at CL0
      refine CL0.mono ?_; rintro e u1 ⟨rfl, g1⟩
      have G1 := Lib.hid g1
      clear g1 CL0
      go_wp2_with fail
      refine (C.out u1).mono ?_; rintro e u2 ⟨p, B, rfl, hd, g2, hn⟩
      have H := Lib.hid hd
      have N0 := Lib.hid (show Nx (fun _ => False) w B u2 from ⟨Only.ofGr (G1.out.trans g2), fun b hb => .inr (Nat.le_trans G1.out.size (hn b hb))⟩)
      clear hd g2 hn C
      go_wp2_with fail
      refine (CC.out p _ _ H.out).mono ?_; rintro e u3 ⟨rfl, B3, h3, n3⟩
      have K3 := Lib.hid h3
      have N3 := Lib.hid (N0.out.trans n3)
      clear h3 n3
      go_wp2_with fail
      refine (CA.out p _ _ K3.out).mono ?_; rintro e u4 ⟨rfl, B4, h4, n4⟩
      have K4 := Lib.hid h4
      have N4 := Lib.hid (N3.out.trans n4)
      clear h4 n4
      cases th
      · clear CB
        go_wp2_with fail
        refine (BN.out _).mono ?_; rintro e u5 ⟨rfl, hb, g5⟩
        have DB := Lib.hid (dm_made0 (s := stT false 1048576 LR) K4.out N4.out hb (fun x hx => by omega) g5)
        clear hb g5 BN
        obtain ⟨P, hP⟩ : ∃ P, u4.heap.size = P := ⟨_, rfl⟩
        rw [hP] at DB ⊢
        clear hP
        go_wp2_with fail
        refine (DB.out.sort TW.out (fun B tb h => SO.out p P _ B tb h)).mono ?_; rintro e u6 ⟨s', b', k, c, er, rfl, hR, db⟩
        have OK := Lib.hid (EX.out _ _ _ _ _ hR)
        have he := OK.out.er
        subst he
        have D6 := Lib.hid (DM.blk_new (M := []) trivial db #[.int .i64 k, .int .u32 c] 37 rfl)
        obtain ⟨I, hI⟩ : ∃ I, u6.heap.size = I := ⟨_, rfl⟩
        have HI := Lib.hid hI
        rw [hI] at D6
        obtain ⟨u7, hu7⟩ : ∃ u7, u6.alloc (.cells #[.int .i64 k, .int .u32 c] 37) = u7 := ⟨_, rfl⟩
        rw [hu7] at D6
        have HU7 := Lib.hid hu7
        have FR := Lib.hid (show Frs [Blk I #[.int .i64 k, .int .u32 c] 37] from ⟨fr_blk _ _ _, trivial⟩)
        have hnow : b'.now = 0 := OK.out.now
        have hbm : b'.m = mo := OK.out.bm
        have hhigh : b'.high ≤ mo := by have h1 := db.bud.1.h1; omega
        clear hR db hI hu7 DB SO EX
        have hIz : u6.heap.size = I := HI.out
        go_wp2_with fail
        rw [HU7.out]
        clear hIz
        refine (RS.out _ D6.out.end).mono ?_; rintro e u8 ⟨⟨v8, rfl, ho8⟩, g8⟩
        obtain ⟨sa, sc, rfl⟩ := own_shape16 ho8
        have D8 := Lib.hid (DM.row_new FR.out D6.out g8 ho8)
        have FR3 := Lib.hid (show Frs [RowA (.slice sa L9.length sc) L9, Blk I #[.int .i64 k, .int .u32 c] 37] from ⟨fr_row _ _, FR.out⟩)
        clear ho8 g8 D6 RS FR
        obtain ⟨C9, hC9⟩ : ∃ C9, layR nn L9 = C9 := ⟨_, rfl⟩
        have hhas := OK.out.has
        rw [← H9R.out] at hhas
        have hz9 := h9z
        rw [hC9] at hhas hz9
        have hst : Stands s' nmB.data.toList C9 := ⟨hhas, OK.out.down, OK.out.ahead⟩
        have hst2 : Stands s'.call nmB.data.toList C9 := hst.call.1
        have hc1 := OK.out.calls
        have SZ := Lib.hid (fun u (h : DM p P s' b' [RowA (.slice sa L9.length sc) L9, Blk I #[.int .i64 k, .int .u32 c] 37] w u) => DM.disk FR3.out h (fun B hB => d_size p s' nmB (by decide) (by decide) (by omega) u B hB))
        have RE := Lib.hid (fun u (h : DM p P s'.call b' [RowA (.slice sa L9.length sc) L9, Blk I #[.int .i64 k, .int .u32 c] 37] w u) => DM.disk FR3.out h (fun B hB => d_read p s'.call nmB 0 C9.size (by decide) (by decide) (by show s'.calls + 1 ≤ _; omega) (by decide) (by omega) u B hB))
        rw [hst.size] at SZ
        rw [hst2.read C9.size (Nat.le_refl _)] at RE
        have ebs : bs (List.take C9.size C9.data.toList) = C9 := by rw [List.take_of_length_le (by rw [Array.length_toList]; exact Nat.le_refl _)]; exact bs_toList C9
        simp only [ebs] at RE
        have hlen := OK.out.len
        have hq2 : Quiet s' s'.call.call := (quiet_call s').trans (quiet_call _)
        have hcm := hq2.calm OK.out.down OK.out.ahead
        have LS := Lib.hid (fun u (h : DM p P s'.call.call b' [RowA (.slice sa L9.length sc) L9, Blk I #[.int .i64 k, .int .u32 c] 37] w u) => (DM.list FR3.out h hcm.1 hcm.2 (by show s'.calls + 1 + 1 ≤ _; omega)).mono (fun e w' h => by
          obtain ⟨a, cc, he, hd⟩ := h
          exact (⟨a, cc, by rw [he, show s'.call.call.fs.length = 2 from hlen], hd⟩ : ∃ a cc, e = .returned (.tuple #[.slice a 2 cc, .int .i64 0]) ∧ DM p P s'.call.call.call b' [RowA (.slice sa L9.length sc) L9, Blk I #[.int .i64 k, .int .u32 c] 37] w w')))
        have hk9 : k = (L9.length : Nat) := OK.out.k
        have hc9 : c = (sumN L9 : Nat) := OK.out.c
        have SM := Lib.hid (fun u (h : DM p P s'.call.call.call b' [RowA (.slice sa L9.length sc) L9, Blk I #[.int .i64 k, .int .u32 c] 37] w u) => (rsum_c (h.row 0 rfl) (by have := H9.out.1; omega) (fun s hs => by have := H9.out.2 s hs; omega)).mono (fun e u' (q : SumGot L9 u e u') => (⟨by rw [q.1, hk9, hc9], q.2⟩ : e = .returned (.agg #[.int .i64 k, .int .u32 c]) ∧ Gr u u')))
        have MU := Lib.hid (fun u (h : DM p P s'.call.call.call b' [RowA (.slice sa L9.length sc) L9, Blk I #[.int .i64 k, .int .u32 c] 37] w u) => must6_c (h.row 0 rfl) nn HKN.out (by have := H9.out.1; omega) (fun s hs => by have := H9.out.2 s hs; omega))
        rw [hC9] at MU
        have NW := Lib.hid (fun u (h : DM p P s'.call.call.call b' [RowA (.slice sa L9.length sc) L9, Blk I #[.int .i64 k, .int .u32 c] 37] w u) => bnow_c P b' u h.bud)
        have HH := Lib.hid (fun u (h : DM p P s'.call.call.call b' [RowA (.slice sa L9.length sc) L9, Blk I #[.int .i64 k, .int .u32 c] 37] w u) => bhigh_c P b' u h.bud)
        rw [hnow] at NW
        have th1 : decide (b'.high ≤ mo) = true := by simpa using hhigh
        have XC := Lib.hid (fun u (h : DM p P s'.call.call.call b' [RowA (.slice sa L9.length sc) L9, Blk I #[.int .i64 k, .int .u32 c] 37] w u) => (⟨h.blk 1 rfl 0, h.blk 1 rfl 1⟩ : u.cell? ⟨I, 0, none⟩ = some (.int .i64 k) ∧ u.cell? ⟨I, 1, none⟩ = some (.int .u32 c)))
        have IE := info_eq k c
        have AW2 := Lib.hid (fun u (D : DM p P s'.call.call.call b' [RowA (.slice sa L9.length sc) L9, Blk I #[.int .i64 k, .int .u32 c] 37] w u) => awake18_c u (TW.out.gr D.end))
        generalize b'.high = hg at HH hhigh th1
        obtain ⟨z9, hz9n⟩ : ∃ z9, C9.size = z9 := ⟨_, rfl⟩
        rw [hz9n] at SZ RE hz9
        unfold nmB at SZ RE
        clear hhas hst hst2 hc1 ebs hlen hq2 hcm hk9 hc9 hnow hbm hC9 hz9n
        go_wp2_with fail
        refine (SZ.out _ D8.out).mono ?_; rintro e u9 ⟨rfl, d9⟩
        have D9 := Lib.hid d9
        clear d9 D8 SZ
        go_wp2_with fail
        refine (RE.out _ D9.out).mono ?_; rintro e u10 ⟨rfl, d10⟩
        have D10 := Lib.hid d10
        clear d10 D9 RE
        go_wp2_with fail
        refine (LS.out _ D10.out).mono ?_; rintro e u11 ⟨la2, lc2, rfl, d11⟩
        have D11 := Lib.hid (DM.gr FR3.out d11 (Gr.ofDrew (Gr.refl _) : Gr u11 u11.drew))
        obtain ⟨x0, x1⟩ := XC.out _ d11
        obtain ⟨y0, y1⟩ := XC.out _ D11.out
        clear d11 LS D10
        go_wp2_with fail
        go_region_held3 (fun u => u.cell? ⟨I, 0, none⟩ = some (.int .i64 k) ∧ u.cell? ⟨I, 1, none⟩ = some (.int .u32 c)) (first | assumption | exact ⟨by assumption, by assumption⟩ | go_keep)
          (first
            | (go_at_call 18; (with_reducible refine (SM.out _ D11.out).mono ?_); rintro e t1 ⟨rfl, g12⟩; have D12 := Lib.hid (DM.gr FR3.out D11.out g12); have k12 := XC.out _ D12.out)
            | (go_at_call 19; (with_reducible refine (MU.out _ D12.out).mono ?_); rintro e t3 ⟨rfl, g13⟩; have D13 := Lib.hid (DM.gr FR3.out D12.out g13); have k13 := XC.out _ D13.out)
            | (go_at_call 20; (with_reducible refine (NW.out _ D13.out).mono ?_); rintro e t4 ⟨rfl, rfl⟩)
            | (go_at_call 21; (with_reducible refine (HH.out _ D13.out).mono ?_); rintro e t5 ⟨rfl, rfl⟩)
            | (go_at_call 7; (with_reducible refine (AW2.out _ D13.out).mono ?_); rintro e t7 ⟨rfl, g16⟩; have D16 := Lib.hid (DM.gr FR3.out D13.out g16); have k16 := XC.out _ D16.out))
        all_goals
          go_wp2_with fail
          go_ret
          exact ⟨rfl, D16.out.end⟩
      · go_wp2_with fail
        refine (CB.out p _ _ K4.out).mono ?_; rintro e u4b ⟨rfl, B4b, h4b, n4b⟩
        have K5 := Lib.hid h4b
        have N5 := Lib.hid (N4.out.trans n4b)
        clear h4b n4b K4 N4
        obtain ⟨K4, N4⟩ : ∃ _ : Hid (DiskA p (stT true 1048576 LR) u4b B4b), Hid (Nx (fun _ => False) w B4b u4b) := ⟨K5, N5⟩
        clear K5 N5 CB
        go_wp2_with fail
        refine (BN.out _).mono ?_; rintro e u5 ⟨rfl, hb, g5⟩
        have DB := Lib.hid (dm_made0 (s := stT true 1048576 LR) K4.out N4.out hb (fun x hx => by omega) g5)
        clear hb g5 BN
        obtain ⟨P, hP⟩ : ∃ P, u4b.heap.size = P := ⟨_, rfl⟩
        rw [hP] at DB ⊢
        clear hP
        go_wp2_with fail
        refine (DB.out.sort TW.out (fun B tb h => SO.out p P _ B tb h)).mono ?_; rintro e u6 ⟨s', b', k, c, er, rfl, hR, db⟩
        have OK := Lib.hid (EX.out _ _ _ _ _ hR)
        have he := OK.out.er
        subst he
        have D6 := Lib.hid (DM.blk_new (M := []) trivial db #[.int .i64 k, .int .u32 c] 37 rfl)
        obtain ⟨I, hI⟩ : ∃ I, u6.heap.size = I := ⟨_, rfl⟩
        have HI := Lib.hid hI
        rw [hI] at D6
        obtain ⟨u7, hu7⟩ : ∃ u7, u6.alloc (.cells #[.int .i64 k, .int .u32 c] 37) = u7 := ⟨_, rfl⟩
        rw [hu7] at D6
        have HU7 := Lib.hid hu7
        have FR := Lib.hid (show Frs [Blk I #[.int .i64 k, .int .u32 c] 37] from ⟨fr_blk _ _ _, trivial⟩)
        have hnow : b'.now = 0 := OK.out.now
        have hbm : b'.m = mo := OK.out.bm
        have hhigh : b'.high ≤ mo := by have h1 := db.bud.1.h1; omega
        clear hR db hI hu7 DB SO EX
        have hIz : u6.heap.size = I := HI.out
        go_wp2_with fail
        rw [HU7.out]
        clear hIz
        refine (RS.out _ D6.out.end).mono ?_; rintro e u8 ⟨⟨v8, rfl, ho8⟩, g8⟩
        obtain ⟨sa, sc, rfl⟩ := own_shape16 ho8
        have D8 := Lib.hid (DM.row_new FR.out D6.out g8 ho8)
        have FR3 := Lib.hid (show Frs [RowA (.slice sa L9.length sc) L9, Blk I #[.int .i64 k, .int .u32 c] 37] from ⟨fr_row _ _, FR.out⟩)
        clear ho8 g8 D6 RS FR
        obtain ⟨C9, hC9⟩ : ∃ C9, layR nn L9 = C9 := ⟨_, rfl⟩
        have hhas := OK.out.has
        rw [← H9R.out] at hhas
        have hz9 := h9z
        rw [hC9] at hhas hz9
        have hst : Stands s' nmB.data.toList C9 := ⟨hhas, OK.out.down, OK.out.ahead⟩
        have hst2 : Stands s'.call nmB.data.toList C9 := hst.call.1
        have hc1 := OK.out.calls
        have SZ := Lib.hid (fun u (h : DM p P s' b' [RowA (.slice sa L9.length sc) L9, Blk I #[.int .i64 k, .int .u32 c] 37] w u) => DM.disk FR3.out h (fun B hB => d_size p s' nmB (by decide) (by decide) (by omega) u B hB))
        have RE := Lib.hid (fun u (h : DM p P s'.call b' [RowA (.slice sa L9.length sc) L9, Blk I #[.int .i64 k, .int .u32 c] 37] w u) => DM.disk FR3.out h (fun B hB => d_read p s'.call nmB 0 C9.size (by decide) (by decide) (by show s'.calls + 1 ≤ _; omega) (by decide) (by omega) u B hB))
        rw [hst.size] at SZ
        rw [hst2.read C9.size (Nat.le_refl _)] at RE
        have ebs : bs (List.take C9.size C9.data.toList) = C9 := by rw [List.take_of_length_le (by rw [Array.length_toList]; exact Nat.le_refl _)]; exact bs_toList C9
        simp only [ebs] at RE
        have hlen := OK.out.len
        have hq2 : Quiet s' s'.call.call := (quiet_call s').trans (quiet_call _)
        have hcm := hq2.calm OK.out.down OK.out.ahead
        have LS := Lib.hid (fun u (h : DM p P s'.call.call b' [RowA (.slice sa L9.length sc) L9, Blk I #[.int .i64 k, .int .u32 c] 37] w u) => (DM.list FR3.out h hcm.1 hcm.2 (by show s'.calls + 1 + 1 ≤ _; omega)).mono (fun e w' h => by
          obtain ⟨a, cc, he, hd⟩ := h
          exact (⟨a, cc, by rw [he, show s'.call.call.fs.length = 2 from hlen], hd⟩ : ∃ a cc, e = .returned (.tuple #[.slice a 2 cc, .int .i64 0]) ∧ DM p P s'.call.call.call b' [RowA (.slice sa L9.length sc) L9, Blk I #[.int .i64 k, .int .u32 c] 37] w w')))
        have hk9 : k = (L9.length : Nat) := OK.out.k
        have hc9 : c = (sumN L9 : Nat) := OK.out.c
        have SM := Lib.hid (fun u (h : DM p P s'.call.call.call b' [RowA (.slice sa L9.length sc) L9, Blk I #[.int .i64 k, .int .u32 c] 37] w u) => (rsum_c (h.row 0 rfl) (by have := H9.out.1; omega) (fun s hs => by have := H9.out.2 s hs; omega)).mono (fun e u' (q : SumGot L9 u e u') => (⟨by rw [q.1, hk9, hc9], q.2⟩ : e = .returned (.agg #[.int .i64 k, .int .u32 c]) ∧ Gr u u')))
        have MU := Lib.hid (fun u (h : DM p P s'.call.call.call b' [RowA (.slice sa L9.length sc) L9, Blk I #[.int .i64 k, .int .u32 c] 37] w u) => must6_c (h.row 0 rfl) nn HKN.out (by have := H9.out.1; omega) (fun s hs => by have := H9.out.2 s hs; omega))
        rw [hC9] at MU
        have NW := Lib.hid (fun u (h : DM p P s'.call.call.call b' [RowA (.slice sa L9.length sc) L9, Blk I #[.int .i64 k, .int .u32 c] 37] w u) => bnow_c P b' u h.bud)
        have HH := Lib.hid (fun u (h : DM p P s'.call.call.call b' [RowA (.slice sa L9.length sc) L9, Blk I #[.int .i64 k, .int .u32 c] 37] w u) => bhigh_c P b' u h.bud)
        rw [hnow] at NW
        have th1 : decide (b'.high ≤ mo) = true := by simpa using hhigh
        have XC := Lib.hid (fun u (h : DM p P s'.call.call.call b' [RowA (.slice sa L9.length sc) L9, Blk I #[.int .i64 k, .int .u32 c] 37] w u) => (⟨h.blk 1 rfl 0, h.blk 1 rfl 1⟩ : u.cell? ⟨I, 0, none⟩ = some (.int .i64 k) ∧ u.cell? ⟨I, 1, none⟩ = some (.int .u32 c)))
        have IE := info_eq k c
        have AW2 := Lib.hid (fun u (D : DM p P s'.call.call.call b' [RowA (.slice sa L9.length sc) L9, Blk I #[.int .i64 k, .int .u32 c] 37] w u) => awake18_c u (TW.out.gr D.end))
        generalize b'.high = hg at HH hhigh th1
        obtain ⟨z9, hz9n⟩ : ∃ z9, C9.size = z9 := ⟨_, rfl⟩
        rw [hz9n] at SZ RE hz9
        unfold nmB at SZ RE
        clear hhas hst hst2 hc1 ebs hlen hq2 hcm hk9 hc9 hnow hbm hC9 hz9n
        go_wp2_with fail
        refine (SZ.out _ D8.out).mono ?_; rintro e u9 ⟨rfl, d9⟩
        have D9 := Lib.hid d9
        clear d9 D8 SZ
        go_wp2_with fail
        refine (RE.out _ D9.out).mono ?_; rintro e u10 ⟨rfl, d10⟩
        have D10 := Lib.hid d10
        clear d10 D9 RE
        go_wp2_with fail
        refine (LS.out _ D10.out).mono ?_; rintro e u11 ⟨la2, lc2, rfl, d11⟩
        have D11 := Lib.hid (DM.gr FR3.out d11 (Gr.ofDrew (Gr.refl _) : Gr u11 u11.drew))
        obtain ⟨x0, x1⟩ := XC.out _ d11
        obtain ⟨y0, y1⟩ := XC.out _ D11.out
        clear d11 LS D10
        go_wp2_with fail
        go_region_held3 (fun u => u.cell? ⟨I, 0, none⟩ = some (.int .i64 k) ∧ u.cell? ⟨I, 1, none⟩ = some (.int .u32 c)) (first | assumption | exact ⟨by assumption, by assumption⟩ | go_keep)
          (first
            | (go_at_call 18; (with_reducible refine (SM.out _ D11.out).mono ?_); rintro e t1 ⟨rfl, g12⟩; have D12 := Lib.hid (DM.gr FR3.out D11.out g12); have k12 := XC.out _ D12.out)
            | (go_at_call 19; (with_reducible refine (MU.out _ D12.out).mono ?_); rintro e t3 ⟨rfl, g13⟩; have D13 := Lib.hid (DM.gr FR3.out D12.out g13); have k13 := XC.out _ D13.out)
            | (go_at_call 20; (with_reducible refine (NW.out _ D13.out).mono ?_); rintro e t4 ⟨rfl, rfl⟩)
            | (go_at_call 21; (with_reducible refine (HH.out _ D13.out).mono ?_); rintro e t5 ⟨rfl, rfl⟩)
            | (go_at_call 7; (with_reducible refine (AW2.out _ D13.out).mono ?_); rintro e t7 ⟨rfl, g16⟩; have D16 := Lib.hid (DM.gr FR3.out D13.out g16); have k16 := XC.out _ D16.out))
        all_goals
          go_wp2_with fail
          go_ret
          exact ⟨rfl, D16.out.end⟩
set_option maxRecDepth 100000 in
theorem lifted (os : Os) (started : os.Started) (H : Type) (enc : TypeId × Value → H) :
    ReturnsInHanded {} Tryz.checked os 3 .any (fun w args => (Rows.xsortSortsSpec.pre enc Tryz.prog Tryz.f3 [] false w args ∧ laidMetH Tryz.prog Rows.xsortSortsRow.laid w) ∧ sizedMet enc Tryz.prog Tryz.f3 (OpenSpec.ofChange Rows.xsortSortsSpec) false w args) (Rows.xsortSortsSpec.post enc Tryz.prog Tryz.f3 false true false false) := by
  refine returnsInHanded_of_change_and (C := Tryz.checked) (X := fun w _ => laidMetH Tryz.prog Rows.xsortSortsRow.laid w) (fun _ _ _ hh h => h.of_heap hh) own started (by kernel_rfl) Tryz.func3
    (ChangeSpec.witness_shaped (enc := enc) (C := Tryz.checked) (os := os) (X := fun w _ => laidMetH Tryz.prog Rows.xsortSortsRow.laid w) false (World.laidAll Tryz.prog os Rows.xsortSortsRow.laid) #[.int .u8 0, .slice none 0 0, .int .u8 0, .bool false, .bool false] 8 (World.laidAll_os _ _ _) (World.shaped_of_ZipB (by kernel_rfl) (by kernel_rfl)) (by kernel_rfl) (by kernel_rfl) (by kernel_rfl) (by rw [MakeChecks.laidMetH_plain _ _ _ (by kernel_rfl)]; exact laidMet_laidAll _ (by kernel_rfl) (by kernel_rfl))) ?_
  intro W base args ds gs before hval0 hW _ _ hL _
  have hval : ∀ (j : Nat) t v, Tryz.f3.params[j]? = some t → args[j]? = some v → Value.okWide Tryz.prog W .any base t v := hval0
  have hW' := hW
  obtain ⟨p, q, hA0, hV, rfl, hfz, hnd⟩ := hW
  have hA : DataW.TrodAll enc Tryz.prog W 0 (fun _ => true) true Tryz.f3.params.toList args.toList ds p := hA0
  rw [Tryz.params3] at hA hval
  obtain ⟨v0, vs0, d0, ds0, p0, q0, hargs, rfl, rfl, h0, r0⟩ := trodAll_cons hA
  obtain ⟨v1, vs1, d1, ds1, p1, q1, rfl, rfl, rfl, h1, r1⟩ := trodAll_cons r0
  obtain ⟨v2, vs2, d2, ds2, p2, q2, rfl, rfl, rfl, h2, r2⟩ := trodAll_cons r1
  obtain ⟨v3, vs3, d3, ds3, p3, q3, rfl, rfl, rfl, h3, r3⟩ := trodAll_cons r2
  obtain ⟨v4, vs4, d4, ds4, p4, q4, rfl, rfl, rfl, h4, r4⟩ := trodAll_cons r3
  obtain ⟨rfl, rfl, rfl⟩ := trodAll_nil r4
  obtain rfl : args = #[v0, v1, v2, v3, v4] := by cases args; simp_all
  obtain ⟨rfl, rfl⟩ := trodVars_none hV
  have k0 := h0
  have lt0 : ∀ x ∈ p0, x.block < W.heap.size := by obtain ⟨m, hm⟩ := k0; exact DataW.trod_lt m _ _ _ hm
  obtain ⟨n0, e0⟩ := okWide_int Tryz.underlying5 (hval 0 5 v0 rfl rfl)
  have w0 : Rd Tryz.prog W 5 v0 := by
    obtain ⟨fuel, hf⟩ := h0
    subst e0
    exact ⟨H, enc, fuel, _, by simpa [Value.cells] using hf⟩
  have k1 := h1
  have lt1 : ∀ x ∈ p1, x.block < W.heap.size := by obtain ⟨m, hm⟩ := k1; exact DataW.trod_lt m _ _ _ hm
  obtain ⟨a1, l1, c1, e1⟩ := okWide_slice Tryz.underlying22 (hval 1 22 v1 rfl rfl)
  have w1 : Rd Tryz.prog W 22 v1 := by
    obtain ⟨fuel, hf⟩ := h1
    subst e1
    exact ⟨H, enc, fuel, _, by simpa [Value.cells] using hf⟩
  have k2 := h2
  have lt2 : ∀ x ∈ p2, x.block < W.heap.size := by obtain ⟨m, hm⟩ := k2; exact DataW.trod_lt m _ _ _ hm
  obtain ⟨n2, e2⟩ := okWide_int Tryz.underlying5 (hval 2 5 v2 rfl rfl)
  have w2 : Rd Tryz.prog W 5 v2 := by
    obtain ⟨fuel, hf⟩ := h2
    subst e2
    exact ⟨H, enc, fuel, _, by simpa [Value.cells] using hf⟩
  have k3 := h3
  have lt3 : ∀ x ∈ p3, x.block < W.heap.size := by obtain ⟨m, hm⟩ := k3; exact DataW.trod_lt m _ _ _ hm
  obtain ⟨n3, e3⟩ := okWide_bool Tryz.underlying4 (hval 3 4 v3 rfl rfl)
  have w3 : Rd Tryz.prog W 4 v3 := by
    obtain ⟨fuel, hf⟩ := h3
    subst e3
    exact ⟨H, enc, fuel, _, by simpa [Value.cells] using hf⟩
  have k4 := h4
  have lt4 : ∀ x ∈ p4, x.block < W.heap.size := by obtain ⟨m, hm⟩ := k4; exact DataW.trod_lt m _ _ _ hm
  obtain ⟨n4, e4⟩ := okWide_bool Tryz.underlying4 (hval 4 4 v4 rfl rfl)
  have w4 : Rd Tryz.prog W 4 v4 := by
    obtain ⟨fuel, hf⟩ := h4
    subst e4
    exact ⟨H, enc, fuel, _, by simpa [Value.cells] using hf⟩
  clear hA0 hval0
  refine (walk v0 v1 v2 v3 v4 W w0 w1 w2 w3 w4 hL).mono fun e W' ⟨he, bel⟩ => ?_
  subst he
  exact ⟨_, rfl, _, _, _, [], _, [], hW', trodAll_mk1 (shut_bool Tryz.underlying4 _), (trodAll_cons_mk (Below.trod laidOut (by kernel_rfl) (of_decide_eq_true (by kernel_rfl)) k0 bel lt0) (trodAll_cons_mk (Below.trod laidOut (by kernel_rfl) (of_decide_eq_true (by kernel_rfl)) k1 bel lt1) (trodAll_cons_mk (Below.trod laidOut (by kernel_rfl) (of_decide_eq_true (by kernel_rfl)) k2 bel lt2) (trodAll_cons_mk (Below.trod laidOut (by kernel_rfl) (of_decide_eq_true (by kernel_rfl)) k3 bel lt3) (trodAll_cons_mk (Below.trod laidOut (by kernel_rfl) (of_decide_eq_true (by kernel_rfl)) k4 bel lt4) trodAll_mk0))))), rfl, bel.frame _, fun h => by cases h⟩
theorem over : Rows.xsortSortsRow.holds Tryz.pinned (OpenSpec.ofChange Rows.xsortSortsSpec) :=
  OpenClaim.holds_of_wide 3 Tryz.f3 rfl rfl rfl rfl rfl rfl rfl ⟨rfl, rfl, rfl, rfl, rfl⟩ rfl rfl rfl rfl rfl (by kernel_rfl) Tryz.func3 (by kernel_rfl)
    (of_decide_eq_true (by kernel_rfl)) (by unfold Func.isWrapper; first | (rw [if_pos (by decide +kernel)]; kernel_rfl) | (rw [if_neg (by decide +kernel)]; exact ⟨rfl, rfl⟩))
    (fun os started H enc _ => lifted os started H enc)
theorem proved : Rows.XsortSortsCardSaid :=
  Claim7.holds_tied_plain_at .later [] [.data, .data, .data, .data, .pinned] true (true, "1f854b5b918df0a6d6d6530d34e0e6afbc13c03b9428d5998497edc4627eac0c") false
    over (fun _ h => by cases h) (by kernel_rfl) (fun _ h => by cases h) xsortSorts_row_tie rfl ⟨rfl, rfl⟩ (by kernel_rfl) rfl
    (fun f fn hf hfn => by
      obtain rfl : f = 3 := Option.some.inj ((show Tryz.prog.funcNamed Rows.xsortSortsRow.func = some 3 by kernel_rfl).symm.trans hf) |>.symm
      obtain rfl : fn = Tryz.f3 := (Option.some.inj (Tryz.func3.symm.trans hfn)).symm
      exact ⟨by kernel_rfl, fun j t ht => by
        rw [Tryz.params3] at ht
        have hm : t ∈ [5, 22, 5, 4, 4] := by simpa using Array.mem_of_getElem? ht
        have hall : ([5, 22, 5, 4, 4].all fun u => !Tryz.prog.wantsStandIn u) = true := by kernel_rfl
        exact (show Tryz.prog.wantsStandIn t = false by simpa using List.all_eq_true.1 hall t hm)⟩)
    (by kernel_rfl)
#print axioms proved
end Go.Proofs.YtjplkmmhjfpdaaaGreatDoor.xsortSorts

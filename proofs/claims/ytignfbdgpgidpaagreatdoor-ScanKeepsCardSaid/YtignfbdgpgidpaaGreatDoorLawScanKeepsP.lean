/- Rows.ScanKeepsSaid holds: for every input the law returns true and leaves its arguments as they were. Conditions: none beside the row's own. -/
import Derived.Test.YtignfbdgpgidpaaGreatDoorRows
import Derived.WalkKit
import Derived.ProofKit
import Derived.OpenShut
import Derived.ShutString
import Derived.ChangeOld
import Derived.Below
import Derived.Test.YtignfbdgpgidpaaGreatDoorK00
import Derived.Test.YtignfbdgpgidpaaGreatDoorK40
import Derived.Test.YtignfbdgpgidpaaGreatDoorK41
import Derived.Test.YtignfbdgpgidpaaGreatDoorTie
import Derived.Test.YtignfbdgpgidpaaGreatDoorCards
import Derived.LaidMore
import Derived.SevenTiedAt
import Derived.Stop.Joined
namespace Go.Proofs.YtignfbdgpgidpaaGreatDoor.scanKeeps
open Go.ChangeShapes Go.WideShapes Go.ChangeAt Go.RowKit
open Go.ChangeMaps (open_string shut_string)
open FsPlain CrcPlain OctPlain MnPlain CmPlain FramePlain RecPlain RnPlain StPlain RdPlain ScPlain
set_option linter.unusedVariables false
set_option linter.unusedSimpArgs false
theorem own : ownKnob Tryz.prog.godebug = none := by kernel_rfl
theorem laidOut : laidOutB Tryz.prog = true := by kernel_rfl
set_option maxRecDepth 100000 in
set_option maxHeartbeats 8000000 in
theorem walk (v0 v1 v2 : Value) (w : World) (w0 : Rd Tryz.prog w 22 v0) (w1 : RdAgg Tryz.prog w 41 v1) (w2 : Rd Tryz.prog w 3 v2) (wL : laidMetH Tryz.prog Rows.scanKeepsRow.laid w) :
    Calls Tryz.prog 4 #[v0, v1, v2] w fun e w' => e = .returned (.bool true) ∧ Gr w w' := by
  obtain ⟨l, hl, hlm, hlK⟩ := liesFy_in Tryz.underlying22 w0
  obtain ⟨st, ps, rfl, hst, hps⟩ := step_in w1
  obtain ⟨r, rfl, hr0⟩ := rd_int Tryz.underlying3 w2
  have TW := Lib.hid (show Tab w from tab_of wL rfl (by kernel_rfl) (by kernel_rfl))
  have hr := bounds_i64 hr0
  obtain ⟨la, lc, rfl, _⟩ := id hl
  have AW := Lib.hid (fun u => awake22_c u)
  clear w0 w1 w2 hr0 hlK
  have yb := heap_alloc_new w (.cells #[.int .i64 st, .int .i64 ps] 41)
  have gW := gr22 w (.cells #[.int .i64 st, .int .i64 ps] 41)
  obtain ⟨W, hW⟩ : ∃ W, w.alloc (.cells #[.int .i64 st, .int .i64 ps] 41) = W := ⟨_, rfl⟩
  rw [hW] at yb gW
  obtain ⟨zb, hzb⟩ : ∃ z, w.heap.size = z := ⟨_, rfl⟩
  rw [hzb] at yb
  have HW := Lib.hid hW
  have HZB := Lib.hid hzb
  have GW := Lib.hid gW
  have F := Lib.hid (few22_c (n := l.length) W (hl.gr gW) hlm)
  have HL := Lib.hid (fun u (g : Gr W u) => hl.gr (gW.trans g))
  have KB := Lib.hid (show ∀ u, Gr W u → u.cell? ⟨zb, 0, none⟩ = some (.int .i64 st) ∧ u.cell? ⟨zb, 1, none⟩ = some (.int .i64 ps) from fun u g => by
    have e := (Below.block g zb (lt_of_block yb)).trans yb
    exact ⟨by rw [cells_at e]; rfl, by rw [cells_at e]; rfl⟩)
  have RC := Lib.hid (fun u => rright21_c st ps r u)
  have TW2 := Lib.hid (TW.out.gr gW)
  clear hl hW hzb gW yb TW
  cases hf : fewFy l with
  | false =>
    rw [hf] at F
    clear hf hlm hst hps hr
    go_enter Tryz.func4, Tryz.ntmps4
    go_wp2_with fail
    rw [HZB.out, HW.out]
    refine F.out.mono ?_; rintro e u1 ⟨rfl, g1⟩
    have G1 := Lib.hid (GW.out.trans g1)
    clear g1
    go_wp2_with fail
    refine (AW.out u1).mono ?_; rintro e u ⟨rfl, g⟩
    have G := Lib.hid (G1.out.trans g)
    clear g
    go_wp2_with fail
    go_ret
    exact ⟨rfl, G.out⟩
  | true =>
  obtain ⟨h12, hsm⟩ := few_fy hf
  rw [hf] at F
  have HSM := Lib.hid hsm
  clear hf hsm hlm
  cases hR : rightP st ps r with
  | false =>
    rw [hR] at RC
    obtain ⟨k0, k1⟩ := KB.out W (Gr.refl _)
    clear hR hst hps hr h12 k0 k1
    go_enter Tryz.func4, Tryz.ntmps4
    go_wp2_with fail
    rw [HZB.out, HW.out]
    refine F.out.mono ?_; rintro e u1 ⟨rfl, g1⟩
    obtain ⟨k0, k1⟩ := KB.out u1 g1
    have G1 := Lib.hid (GW.out.trans g1)
    clear g1
    go_wp2_with fail
    refine (RC.out u1).mono ?_; rintro e u2 ⟨rfl, g2⟩
    have G2 := Lib.hid (G1.out.trans g2)
    clear g2 k0 k1
    go_wp2_with fail
    refine (AW.out u2).mono ?_; rintro e u ⟨rfl, g⟩
    have G := Lib.hid (G2.out.trans g)
    clear g
    go_wp2_with fail
    go_ret
    exact ⟨rfl, G.out⟩
  | true =>
  rw [hR] at RC
  have hrp := rightP_iff.1 hR
  have HRP := Lib.hid hrp
  by_cases h0 : st = 0
  · subst h0
    clear hR hrp hst hps hr h12
    go_enter Tryz.func4, Tryz.ntmps4
    go_wp2_with fail
    rw [HZB.out, HW.out]
    refine F.out.mono ?_; rintro e u1 ⟨rfl, g1⟩
    obtain ⟨k0, k1⟩ := KB.out u1 g1
    have G1 := Lib.hid g1
    clear g1
    go_wp2_with fail
    refine (RC.out u1).mono ?_; rintro e u2 ⟨rfl, g2⟩
    obtain ⟨j0, j1⟩ := KB.out u2 (G1.out.trans g2)
    have G2 := Lib.hid (GW.out.trans (G1.out.trans g2))
    clear g2 k0 k1
    go_wp2_with fail
    refine (AW.out u2).mono ?_; rintro e u ⟨rfl, g⟩
    have G := Lib.hid (G2.out.trans g)
    clear g
    go_wp2_with fail
    go_ret
    exact ⟨rfl, G.out⟩
  have hKF := kf_of hR h0 hst hps
  obtain ⟨FF, hFF⟩ : ∃ FF, filesP st ps = FF := ⟨_, rfl⟩
  rw [hFF] at hKF
  have KFH := Lib.hid hKF
  have hb0 : ((st : Int) == 0) = false := by simpa using h0
  have FC := Lib.hid (fun u => by
    have h := rfiles21_c st ps (by omega) (by omega) u
    rw [hFF] at h
    exact h)
  have HR64 := Lib.hid hr
  have H12 := Lib.hid h12
  clear hR hrp hKF hFF hst hps hr h12 h0
  go_enter Tryz.func4, Tryz.ntmps4
  go_wp2_with fail
  rw [HZB.out, HW.out]
  refine F.out.mono ?_; rintro e u1 ⟨rfl, g1⟩
  obtain ⟨k0, k1⟩ := KB.out u1 g1
  have G1 := Lib.hid g1
  clear g1 F
  go_wp2_with fail
  refine (RC.out u1).mono ?_; rintro e u2 ⟨rfl, g2⟩
  have G2 := Lib.hid (G1.out.trans g2)
  obtain ⟨j0, j1⟩ := KB.out u2 G2.out
  -- the manifest's block
  have dm := (Qs.blk_new (Qs.on (Qs.nil W) G2.out) #[.int .i64 st, .int .i64 ps, .slice none 0 0] 27 rfl)
  obtain ⟨X, hX⟩ : ∃ X, u2.alloc (.cells #[.int .i64 st, .int .i64 ps, .slice none 0 0] 27) = X := ⟨_, rfl⟩
  obtain ⟨zm, hzm⟩ : ∃ z, u2.heap.size = z := ⟨_, rfl⟩
  rw [hX, hzm] at dm
  have HX := Lib.hid hX
  have HZM := Lib.hid hzm
  have NC := Lib.hid (knew_c dm)
  clear g2 k0 k1 G1 RC dm hX hzm
  go_wp2_with fail
  rw [HX.out]
  try rw [HZM.out]
  refine NC.out.mono ?_; rintro e u3 ⟨p, rfl, d3⟩
  have D3 := Lib.hid d3
  obtain ⟨i0, i1⟩ := KB.out u3 d3.gr
  clear d3 NC j0 j1
  go_wp2_with fail
  refine (FC.out u3).mono ?_; rintro e u4 ⟨fa, fc, rfl, hfl, hfn, g4⟩
  obtain ⟨BF, hBF, hBFn⟩ := fl_new hfl hfn
  have d4 := Qs.new D3.out g4 (fr_fl _ _) hBF hBFn
  have d5 := Qs.new (v := u4) d4 (Gr.refl _) (fr_rowE 48 4 (.slice none 0 0) 0 []) (rowE_nil _ _ _) (fun b hb => hb.elim)
  have D5 := Lib.hid (show Ps (KL p (fresh 1048576) zm st ps (.slice none 0 0) [] (.slice fa FF.length fc) FF) W u4 from d5.perm (by
    classical
    exact List.perm_iff_count.2 fun x => by simp [KL, fls, List.count_cons]; omega))
  have ST1 := Lib.hid (show K1At p zm st ps FF (.slice fa FF.length fc) W (.int .i64 0) u4 from ⟨0, _, fresh 1048576, Nat.zero_le _, rfl, by rw [List.take_zero]; exact kst_new, (fun k hk => by cases hk), by rw [List.take_zero]; exact D5.out⟩)
  obtain ⟨n, hn⟩ : ∃ n, FF.length = n := ⟨_, rfl⟩
  have HN := Lib.hid hn
  rw [hn] at ST1
  rw [hn]
  clear hfl hfn g4 hBF hBFn d4 d5 D5 hn i0 i1 FC D3
  go_wp2_with fail
  go_loopw [11] (fun vi wr => K1At p zm st ps FF (.slice fa n fc) W vi wr) (fun vi _ => n - (intOf vi).toNat)
  case atStart => exact ST1.out
  case round =>
    clear ST1
    obtain ⟨i, v, t, hi, rfl, hK, hO, hQ⟩ := hrel
    by_cases hlt : i < n
    · have hlt2 : i < FF.length := by rw [HN.out]; exact hlt
      obtain ⟨t1, t2, e1, e2, k1, k2⟩ := k1_next KFH.out hlt2 hK hO
      obtain ⟨q1, q2, q3, q4, q5, _⟩ := KFH.out.one _ (List.getElem_mem hlt2)
      obtain ⟨_, hpf⟩ := hQ.part 3 rfl
      obtain ⟨-, hc, b, o, rfl, hbl, ⟨k0, k1', k2', k3⟩⟩ := fl_get (fl_lies hpf) hlt2
      have htk : FF.take (i + 1) = FF.take i ++ [FF[i]] := List.take_succ_eq_append_getElem hlt2
      obtain ⟨f, hf⟩ : ∃ f, FF[i] = f := ⟨_, rfl⟩
      rw [hf] at k0 k1' k2' k3 e1 e2 q1 q2 q3 q4 q5 htk
      have HT := Lib.hid htk
      obtain ⟨L, hL⟩ : ∃ L, FF.take i = L := ⟨_, rfl⟩
      rw [hL] at hQ
      have HLL := Lib.hid hL
      have hLn : L.length = i := by rw [← hL, List.length_take]; omega
      have HLN := Lib.hid hLn
      have hcalls := hK.calls
      have hfew := KFH.out.few
      have htc : t.calls ≤ 1000 := by omega
      have ht1c : t1.calls ≤ 2000 := by
        have := calls_create t f.name.data.toList
        rw [e1] at this
        have : t1.calls = t.calls + 1 := this
        omega
      have K1 := Lib.hid (And.intro k1 k2)
      -- the file's own block
      have dz := Qs.blk_new hQ (kcells f) 48 rfl
      have zb0 := heap_alloc_new wr (.cells (kcells f) 48)
      obtain ⟨Z, hZ⟩ : ∃ Z, wr.alloc (.cells (kcells f) 48) = Z := ⟨_, rfl⟩
      obtain ⟨z, hz⟩ : ∃ z, wr.heap.size = z := ⟨_, rfl⟩
      rw [hZ, hz] at dz zb0
      have DZ := Lib.hid dz
      have HZ := Lib.hid (show wr.alloc (.cells #[.string f.name, .int .i64 f.size, .int .i64 f.count, .int .u32 f.sum] 48) = Z from hZ)
      have HZ2 := Lib.hid hz
      have SC := Lib.hid (show ∀ u, Calls Tryz.prog 18 #[.slice none 0 0] u fun e w' => e = .returned (.agg #[.int .i64 0, .int .u32 f.sum]) ∧ Gr u w' from fun u => by
        have h := rsum_c (L := []) (v := .slice none 0 0) (w := u) ⟨none, 0, rfl, Nat.le_refl _, .inl rfl⟩ (by decide) (fun s hs => by cases hs)
        unfold SumGot at h
        rw [sumN_nil] at h
        rw [q5]
        exact h)
      have MU := Lib.hid (fun u => must6_c (w := u) (v := .slice none 0 0) (L := []) ⟨none, 0, rfl, Nat.le_refl _, .inl rfl⟩ f.size (by simp only [sizeB, decide_eq_true_eq] at q3; unfold I64; omega) (by decide) (fun s hs => by cases hs))
      have CC := Lib.hid (fun (M : List Asn) (u : World) (d : Ps (DiskA p t :: Blk z (kcells f) 48 :: M) W u) => kl_create d q2 q1 (by omega) e1)
      have AC := Lib.hid (fun (M : List Asn) (u : World) (d : Ps (DiskA p t1 :: Blk z (kcells f) 48 :: M) W u) => kl_append d q2 q1 (by omega) q3 e2)
      obtain ⟨i0, hi0, hz0, hz1, hz2⟩ := info_parts infoFl
      have hq1 : (i : Int) < (n : Int) := by omega
      have hn9 : (n : Int) ≤ 9223372036854775807 := by rw [← HN.out]; omega
      have hi8 : i ≤ 2 := by omega
      clear hK hO hQ e1 e2 k1 k2 q1 q2 q3 q4 q5 htk hL hcalls hfew htc ht1c dz zb0 hZ hz hf hpf
      go_wp2_with fail
      rw [HZ.out]
      try rw [HZ2.out]
      refine (SC.out Z).mono ?_; rintro e u5 ⟨rfl, g5⟩
      have d6 := (DZ.out.on g5).on (gr22 u5 (.cells #[.int .i64 0, .int .u32 f.sum] 50))
      have zc := d6.blk 0 rfl
      have c3 : (u5.alloc (.cells #[.int .i64 0, .int .u32 f.sum] 50)).cell? ⟨z, 3, none⟩ = some (.int .u32 f.sum) := by rw [cells_at zc]; rfl
      have f3 := cells_free zc 3
      have d7 : Ps (Blk z (kcells f) 48 :: KL p t zm st ps v L (.slice (some ⟨b, o, none⟩) n fc) FF) W ((u5.alloc (.cells #[.int .i64 0, .int .u32 f.sum] 50)).setCell ⟨z, 3, none⟩ (.int .u32 f.sum)) := d6.set 0 rfl 3 (.int .u32 f.sum)
      obtain ⟨U2, hU2⟩ : ∃ U, (u5.alloc (.cells #[.int .i64 0, .int .u32 f.sum] 50)).setCell ⟨z, 3, none⟩ (.int .u32 f.sum) = U := ⟨_, rfl⟩
      rw [hU2] at d7
      have D7 := Lib.hid d7
      have zc2 := d7.blk 0 rfl
      obtain ⟨x0, x1, x2, x3⟩ : U2.cell? ⟨z, 0, none⟩ = some (.string f.name) ∧ U2.cell? ⟨z, 1, none⟩ = some (.int .i64 f.size) ∧ U2.cell? ⟨z, 2, none⟩ = some (.int .i64 f.count) ∧ U2.cell? ⟨z, 3, none⟩ = some (.int .u32 f.sum) := ⟨by rw [cells_at zc2]; rfl, by rw [cells_at zc2]; rfl, by rw [cells_at zc2]; rfl, by rw [cells_at zc2]; rfl⟩
      have m2 : U2.cell? ⟨zm, 2, none⟩ = some v := by rw [cells_at (d7.blk 2 rfl)]; rfl
      obtain ⟨_, hrow⟩ := d7.part 3 rfl
      have RW := Lib.hid (show U2.ownsRow 0 48 4 v i (fls L) by have := hrow.1; rw [HLN.out] at this; exact this)
      clear d6 zc d7 zc2 hrow g5 SC DZ
      go_wp2_with (at_builtin; refine wpList_append_own_at _ rfl _ _ 25 rfl 0 48 i0 (.agg #[.string ⟨#[]⟩, .int .i64 0, .int .i64 0, .int .u32 0]) 4 40 Tryz.underlying25 hi0 hz0 hz1 hz2 rfl (by decide) _ _ _ rfl (RW.out.alloc _) ⟨U2.heap.size, 0, none⟩ 1 1 (flc f) rfl ?c0 ?c1 ?c2 ?c3 ?c4 ?c5 ?_)
      case c0 => rfl
      case c1 =>
        intro jj y hjz
        rw [add_lit19, World.cell?_alloc_new, List.getElem?_toArray, Nat.zero_add]
        exact hjz
      case c2 => exact flc_one f
      case c3 => unfold maxLen; omega
      case c4 => omega
      case c5 => exact Nat.zero_le _
      intro v' w2 hown2 hgrow _ hat
      obtain ⟨gb, cap, rfl, -, -⟩ := hown2.form (by omega)
      obtain ⟨m3, mf3, d8⟩ := kl_app D7.out (by rw [HLN.out]; exact hown2) hgrow (by rw [World.size_alloc]; exact hat)
      obtain ⟨W3, hW3⟩ : ∃ U, w2.setCell ⟨zm, 2, none⟩ (.slice (some ⟨gb, 0, none⟩) (i + 1) cap) = U := ⟨_, rfl⟩
      rw [hW3] at d8
      have D8 := Lib.hid (show Ps (DiskA p t :: Blk z (kcells f) 48 :: [Blk zm #[.int .i64 st, .int .i64 ps, .slice (some ⟨gb, 0, none⟩) (i + 1) cap] 27, RowE 48 4 (.slice (some ⟨gb, 0, none⟩) (i + 1) cap) (L ++ [f]).length (fls (L ++ [f])), FlA (.slice (some ⟨b, o, none⟩) n fc) FF]) W W3 from d8.perm (List.Perm.swap _ _ _))
      have D9 := Lib.hid (D8.out.on (show Gr W3 W3.drew from Below.drew (Gr.refl _)))
      have KZ := Lib.hid (fun (M : List Asn) (q : Asn) (u : World) (d : Ps (q :: Blk z (kcells f) 48 :: M) W u) => by
        have e := d.blk 1 rfl
        exact (⟨by rw [cells_at e]; rfl, by rw [cells_at e]; rfl⟩ : u.cell? ⟨z, 0, none⟩ = some (.string f.name) ∧ u.cell? ⟨z, 1, none⟩ = some (.int .i64 f.size)))
      obtain ⟨kd0, kd1⟩ := KZ.out _ _ _ D9.out
      have CC0 := Lib.hid (CC.out _ _ D9.out)
      have NX := Lib.hid (fun u (d : Ps (DiskA p t2 :: Blk z (kcells f) 48 :: [Blk zm #[.int .i64 st, .int .i64 ps, .slice (some ⟨gb, 0, none⟩) (i + 1) cap] 27, RowE 48 4 (.slice (some ⟨gb, 0, none⟩) (i + 1) cap) (L ++ [f]).length (fls (L ++ [f])), FlA (.slice (some ⟨b, o, none⟩) n fc) FF]) W u) => (show K1At p zm st ps FF (.slice (some ⟨b, o, none⟩) n fc) W (.int .i64 ((i : Int) + 1)) u from ⟨i + 1, _, t2, by rw [HN.out]; omega, by rw [Int.natCast_add]; rfl, K1.out.1, K1.out.2, by rw [HT.out, HLL.out]; exact (d.perm (List.Perm.swap _ _ _)).tail⟩))
      clear hown2 hgrow hat d8 CC x0 x1 x2 x3 m2 RW D7 hU2 c3 f3
      go_wp2_with fail
      go_region_held3 (fun u => u.cell? ⟨z, 0, none⟩ = some (.string f.name) ∧ u.cell? ⟨z, 1, none⟩ = some (.int .i64 f.size)) (first | assumption | exact ⟨by assumption, by assumption⟩ | go_keep)
        (first
          | (go_at_call 19; (with_reducible refine (CC0.out).mono ?_); rintro e t11 ⟨rfl, d13⟩; have D13 := Lib.hid d13; obtain ⟨ka0, ka1⟩ := KZ.out _ _ _ d13; clear d13)
          | (go_at_call 21; (with_reducible refine (MU.out _).mono ?_); rintro e t12 ⟨rfl, g14⟩; have D14 := Lib.hid (D13.out.on g14); obtain ⟨kb0, kb1⟩ := KZ.out _ _ _ D14.out; clear g14)
          | (go_at_call 20; (with_reducible refine (AC.out _ _ D14.out).mono ?_); rintro e t13 ⟨rfl, d15⟩; have D15 := Lib.hid d15; obtain ⟨kc0, kc1⟩ := KZ.out _ _ _ d15; clear d15))
      have N2 := Lib.hid (NX.out _ D15.out)
      clear NX D15 D14 D13 AC CC0 KZ D9 D8 kd0 kd1 ka0 ka1 kb0 kb1 kc0 kc1
      go_wp2_with fail
      refine ⟨N2.out, ?_⟩
      simp [intOf]; omega
    · obtain rfl : i = n := by have := HN.out; omega
      have hle : FF.length ≤ i := by rw [HN.out]; exact Nat.le_refl _
      rw [List.take_of_length_le hle] at hK hO hQ
      have ST2 := Lib.hid (show K2At p zm st ps FF (.slice fa i fc) v l.length W (.int .i64 0) wr from ⟨0, t, Nat.zero_le _, rfl, by rw [HN.out]; exact hK, hQ⟩)
      have q1 : ¬ (i : Int) < (i : Int) := by omega
      clear hK hO hQ hle hi hlt
      go_wp2_with fail
      rename World => wo
      go_loopw [14] (fun vj wr => K2At p zm st ps FF (.slice fa i fc) v l.length W vj wr) (fun vj _ => l.length - (intOf vj).toNat)
      case atStart => exact ST2.out
      case round =>
        clear ST2
        obtain ⟨j, t2, hj, rfl, hK2, hQ2⟩ := hrel
        by_cases hlt : j < l.length
        · obtain ⟨-, hc, b, o, rfl, hb, y0, y1⟩ := fy_get (HL.out wr (Qs.gr hQ2)) hlt
          have hxn := HSM.out _ (List.getElem_mem hlt)
          obtain ⟨x, hx⟩ : ∃ x, l[j] = x := ⟨_, rfl⟩
          rw [hx] at y0 y1 hxn
          have q2 : (j : Int) < (l.length : Int) := by omega
          have j12 : (j : Int) ≤ 12 := by have := H12.out; omega
          have hfew := KFH.out.few
          have hcl := hK2.calls
          have hnn := HN.out
          have s1 := str_lit22 (x := x.name) (l := [109, 97, 110, 105, 102, 101, 115, 116]) ⟨#[109, 97, 110, 105, 102, 101, 115, 116]⟩ rfl
          have s2 := str_lit22 (x := x.name) (l := [109, 97, 110, 105, 102, 101, 115, 116, 46, 110, 101, 119]) ⟨#[109, 97, 110, 105, 102, 101, 115, 116, 46, 110, 101, 119]⟩ rfl
          have SK := Lib.hid (show K2At p zm st ps FF (.slice fa i fc) v l.length W (.int .i64 ((j : Int) + 1)) wr from ⟨j + 1, t2, by omega, by rw [Int.natCast_add]; rfl, hK2.skip, hQ2⟩)
          by_cases e1 : x.name = ⟨#[109, 97, 110, 105, 102, 101, 115, 116]⟩
          · rw [decide_eq_true e1] at s1
            clear hx hxn y1 hK2 hQ2 hcl hfew hnn s2 e1 hb
            go_wp2_with fail
            refine ⟨SK.out, ?_⟩
            simp [intOf]; omega
          · rw [decide_eq_false e1] at s1
            by_cases e2 : x.name = ⟨#[109, 97, 110, 105, 102, 101, 115, 116, 46, 110, 101, 119]⟩
            · rw [decide_eq_true e2] at s2
              clear hx hxn y1 hK2 hQ2 hcl hfew hnn e1 e2 hb
              go_wp2_with fail
              refine ⟨SK.out, ?_⟩
              simp [intOf]; omega
            · rw [decide_eq_false e2] at s2
              have hne1 : x.name.data.toList ≠ CmPlain.nameL := fun e => e1 (ByteArray.ext (Array.toList_inj.1 e))
              have hne2 : x.name.data.toList ≠ wayL := fun e => e2 (ByteArray.ext (Array.toList_inj.1 e))
              have CA := Lib.hid (kl_any (show Ps (DiskA p t2 :: _) W wr from hQ2) x.name (by omega) (by omega))
              have NX := Lib.hid (fun u (d : Ps (KL p (createX t2 x.name.data.toList).1 zm st ps v FF (.slice fa i fc) FF) W u) => (show K2At p zm st ps FF (.slice fa i fc) v l.length W (.int .i64 ((j : Int) + 1)) u from ⟨j + 1, _, by omega, by rw [Int.natCast_add]; rfl, hK2.any x.name.data.toList hne1 hne2 (by omega), d⟩))
              clear hx hxn y1 hK2 hQ2 hcl hfew hnn e1 e2 hb hne1 hne2 SK
              go_wp2_with fail
              refine CA.out.mono ?_; rintro e w3 ⟨rfl, d3⟩
              have N3 := Lib.hid (NX.out w3 d3)
              clear d3 CA NX
              go_wp2_with fail
              refine ⟨N3.out, ?_⟩
              simp [intOf]; omega
        · obtain rfl : j = l.length := by omega
          obtain ⟨_, hrow⟩ := hQ2.part 2 rfl
          have hlv := liesFl_own hrow.1
          obtain ⟨va, vc, rfl, _⟩ := id hlv
          have H12' := H12.out
          have hfew := KFH.out.few
          obtain ⟨m0, m1, m2⟩ := mnv_at (hQ2.blk 1 rfl)
          have SV := Lib.hid (ksave_c (show Ps (DiskA p t2 :: _) W wr from hQ2) hK2 (by omega) KFH.out hlv)
          rw [HN.out] at SV m2
          have q2 : ¬ (l.length : Int) < (l.length : Int) := by omega
          clear hK2 hQ2 hrow hlv H12' hfew hlt hj
          go_wp2_with fail
          refine SV.out.mono ?_; rintro e w4 ⟨s1, rfl, hS1, hc1, d4⟩
          have ST := Lib.hid (kstart_c d4 hS1 (by omega) KFH.out TW2.out HR64.out)
          rw [HN.out] at ST
          have HC1 := Lib.hid hc1
          clear m0 m1 m2 SV d4 hS1 hc1
          go_wp2_with fail
          refine ST.out.mono ?_; rintro e w5 ⟨a1, c1, t1, rfl, hK1, hf1, hc2, d5⟩
          have hc2' : t1.calls ≤ 1400 := by have := HC1.out; omega
          have d6 := (Qs.blk_new d5 #[.int .i64 st, .int .i64 ps, .slice a1 i c1] 27 rfl).perm (List.Perm.swap _ _ _)
          obtain ⟨V1, hV1⟩ : ∃ V, w5.alloc (.cells #[.int .i64 st, .int .i64 ps, .slice a1 i c1] 27) = V := ⟨_, rfl⟩
          obtain ⟨y1, hy1⟩ : ∃ y, w5.heap.size = y := ⟨_, rfl⟩
          rw [hV1, hy1] at d6
          obtain ⟨N, hN⟩ : ∃ N, namesL t1 = N := ⟨_, rfl⟩
          obtain ⟨nN, hnN⟩ : ∃ k, N.length = k := ⟨_, rfl⟩
          have hleast := names_least hK1 KFH.out
          rw [HN.out, hN, hnN] at hleast
          have hkeep := names_kept hf1
          rw [hN] at hkeep
          have HKP := Lib.hid hkeep
          have HNN := Lib.hid hnN
          have LS1 := Lib.hid (klist_c d6 hK1.calm (by omega))
          rw [hN, hnN] at LS1
          have HV1 := Lib.hid hV1
          have HY1 := Lib.hid hy1
          have HK1 := Lib.hid (And.intro hK1 (And.intro hf1 hc2'))
          have HNM := Lib.hid hN
          clear d5 d6 ST hK1 hf1 hc2 hc2' hV1 hy1 hN hkeep HC1
          go_wp2_with fail
          rw [HV1.out]
          try rw [HY1.out]
          refine LS1.out.mono ?_; rintro e w7 ⟨la1, lc1, rfl, d7⟩
          have ST2 := Lib.hid (kstart_c d7 (HK1.out.1.quiet (quiet_call t1)) (by show t1.calls + 1 ≤ _; have := HK1.out.2.2; omega) KFH.out TW2.out HR64.out)
          rw [HN.out] at ST2
          clear d7 LS1
          go_wp2_with fail
          refine ST2.out.mono ?_; rintro e w8 ⟨a2, c2, t3, rfl, hK3, hf3, hc3, d8⟩
          have hn3 : namesL t3 = N := by
            have e1 : t3.fs = t1.fs := hf3.trans (kept_again HK1.out.2.1)
            rw [← HNM.out]
            unfold namesL
            rw [e1]
          have hN200 : nN ≤ 200 := by
            obtain ⟨_, h⟩ := d8.part 0 rfl
            have := h.1.m
            rw [← hnN, ← hn3]
            unfold namesL
            rw [List.length_map]
            exact this
          have d9 := (Qs.blk_new d8 #[.int .i64 st, .int .i64 ps, .slice a2 i c2] 27 rfl).perm (List.Perm.swap _ _ _)
          obtain ⟨V2, hV2⟩ : ∃ V, w8.alloc (.cells #[.int .i64 st, .int .i64 ps, .slice a2 i c2] 27) = V := ⟨_, rfl⟩
          obtain ⟨y2, hy2⟩ : ∃ y, w8.heap.size = y := ⟨_, rfl⟩
          rw [hV2, hy2] at d9
          have LS2 := Lib.hid (klist_c d9 hK3.calm (by
            have h1 : t1.call.calls = t1.calls + 1 := rfl
            have := HK1.out.2.2
            omega))
          rw [hn3, hnN] at LS2
          have HV2 := Lib.hid hV2
          have HY2 := Lib.hid hy2
          clear d8 d9 ST2 hK3 hf3 hc3 hn3 hV2 hy2 hnN
          go_wp2_with fail
          rw [HV2.out]
          try rw [HY2.out]
          refine LS2.out.mono ?_; rintro e X2 ⟨la2, lc2, rfl, d10⟩
          have D10 := Lib.hid d10
          have KZ := Lib.hid (fun u (g : Gr X2 u) => mnv_at ((D10.out.on g).blk 3 rfl))
          have KY1 := Lib.hid (fun u (g : Gr X2 u) => mnv_at ((D10.out.on g).blk 2 rfl))
          have KY2 := Lib.hid (fun u (g : Gr X2 u) => mnv_at ((D10.out.on g).blk 1 rfl))
          have KV := Lib.hid (fun u (g : Gr X2 u) => by
            obtain ⟨_, h⟩ := (D10.out.on g).part 4 rfl
            exact liesFl_own (B := 0) (by rw [HN.out]; exact h.1))
          have KA1 := Lib.hid (fun u (g : Gr X2 u) => by
            obtain ⟨_, h⟩ := (D10.out.on g).part 6 rfl
            exact fl_lies h)
          have KA2 := Lib.hid (fun u (g : Gr X2 u) => by
            obtain ⟨_, h⟩ := (D10.out.on g).part 8 rfl
            exact fl_lies h)
          have KS1 := Lib.hid (fun u (g : Gr X2 u) => by
            obtain ⟨_, h⟩ := (D10.out.on g).part 7 rfl
            exact h.1)
          have KS2 := Lib.hid (fun u (g : Gr X2 u) => by
            obtain ⟨_, h⟩ := (D10.out.on g).part 9 rfl
            exact h.1)
          have hfl : FF.length ≤ maxLen := by have := KFH.out.few; unfold maxLen; omega
          have HFL := Lib.hid hfl
          have MS1 := Lib.hid (fun u (g : Gr X2 u) => rsame_one ⟨st, ps, FF⟩ u (KA1.out u g) (KV.out u g) HFL.out)
          have MS2 := Lib.hid (fun u (g : Gr X2 u) => rsame_one ⟨st, ps, FF⟩ u (KA2.out u g) (KV.out u g) HFL.out)
          have SN := Lib.hid (fun u (g : Gr X2 u) => same_lies (by rw [HNN.out]; omega) (KS1.out u g) (KS2.out u g))
          have GX := Lib.hid (show Gr w X2 from GW.out.trans (Qs.gr d10))
          clear d10 hfl LS2 D10
          obtain ⟨o0, o1, o2⟩ := KY1.out X2 (Gr.refl _)
          obtain ⟨z0, z1, z2⟩ := KZ.out X2 (Gr.refl _)
          go_wp2_with fail
          refine (MS1.out X2 (Gr.refl _)).mono ?_; rintro e x1 ⟨rfl, g1⟩
          have G1 := Lib.hid g1
          clear o0 o1 o2 z0 z1 z2 g1
          obtain ⟨o0, o1, o2⟩ := KY2.out x1 G1.out
          obtain ⟨z0, z1, z2⟩ := KZ.out x1 G1.out
          go_wp2_with fail
          refine (MS2.out x1 G1.out).mono ?_; rintro e x2 ⟨rfl, g2⟩
          have G2 := Lib.hid (G1.out.trans g2)
          clear o0 o1 o2 z0 z1 z2 g2
          go_wp2_with fail
          refine (SN.out x2 G2.out).mono ?_; rintro e x3 ⟨rfl, g3⟩
          have G3 := Lib.hid (G2.out.trans g3)
          clear g3 MS1 MS2 SN KY1 KY2 KA1 KA2 KS2 G1 G2
          go_wp2_with fail
          go_loopw [23] (fun vk wr => ∃ k : Nat, k ≤ nN ∧ vk = .int .i64 (k : Int) ∧ Gr X2 wr) (fun vk _ => nN - (intOf vk).toNat)
          case atStart => exact ⟨0, Nat.zero_le _, rfl, G3.out⟩
          case round =>
            obtain ⟨k, hk, rfl, gr⟩ := hrel
            have GR := Lib.hid gr
            by_cases hlt : k < nN
            · have hlt2 : k < N.length := by rw [HNN.out]; exact hlt
              obtain ⟨a', c', ea, _, hor⟩ := KS1.out wr gr
              obtain ⟨b, off, e2, hrow⟩ := hor.resolve_left (fun e => by rw [e] at hlt2; cases hlt2)
              simp only [Value.slice.injEq] at ea
              obtain ⟨rfl, -, rfl⟩ := ea
              subst e2
              clear hor
              have kx := hrow.2 k _ (List.getElem?_eq_getElem hlt2)
              have hkc := HKP.out _ (List.getElem_mem hlt2)
              obtain ⟨x, hx⟩ : ∃ x, N[k] = x := ⟨_, rfl⟩
              rw [hx] at kx hkc
              have KX := Lib.hid (fun u (g : Gr wr u) => (Below.cell g (p := ⟨b, off + k, none⟩) hrow.1).trans kx)
              obtain ⟨fb, hfb⟩ : ∃ r, (findF x FF).isSome = r := ⟨_, rfl⟩
              have FI := Lib.hid (fun u (g : Gr wr u) => kfind_c st ps va i vc FF x u (KV.out u (GR.out.trans g)) HFL.out fb hfb)
              have KZr := Lib.hid (fun u (g : Gr wr u) => KZ.out u (GR.out.trans g))
              have hcase := keep_cases hkc
              rw [hfb] at hcase
              have HCS := Lib.hid hcase
              have SX := Lib.hid (show ∀ u, Gr wr u → (Gr wr u ∧ u.cell? ⟨zm, 0, none⟩ = some (.int .i64 st) ∧ u.cell? ⟨zm, 1, none⟩ = some (.int .i64 ps) ∧ u.cell? ⟨zm, 2, none⟩ = some (.slice va i vc) ∧ u.cell? ⟨b, off + k, none⟩ = some (.string x)) from fun u g => ⟨g, (KZr.out u g).1, (KZr.out u g).2.1, (KZr.out u g).2.2, KX.out u g⟩)
              obtain ⟨gg, z0, z1, z2, z3⟩ := SX.out wr (Gr.refl _)
              have q3 : (k : Int) < (nN : Int) := by omega
              have hk8 : (k : Int) ≤ 200 := by omega
              clear hrow hkc hx hfb hcase gr hlt2
              go_upto_region 33 with (fail)
              go_cut [24, 25] from 175 to 212 (fun vx vb wx => vb = .bool fb ∧ Gr wr wx)
              case first =>
                go_region_held3 (fun u => Gr wr u ∧ u.cell? ⟨zm, 0, none⟩ = some (.int .i64 st) ∧ u.cell? ⟨zm, 1, none⟩ = some (.int .i64 ps) ∧ u.cell? ⟨zm, 2, none⟩ = some (.slice va i vc) ∧ u.cell? ⟨b, off + k, none⟩ = some (.string x))
                  (first | assumption | exact SX.out _ (by repeat (first | assumption | exact Gr.refl _ | refine grd22 ?_ | refine gra22 ?_ | refine grs22 ?_ (by first | exact Nat.le_refl _ | exact q4.size))) | go_keep)
                  ((go_at_call 27; (with_reducible refine (FI.out _ (by repeat (first | assumption | exact Gr.refl _ | refine grd22 ?_ | refine gra22 ?_))).mono ?_); rintro e t5 ⟨fx, rfl, g5⟩; have q5 : Gr wr t5 := Gr.trans (by repeat (first | assumption | exact Gr.refl _ | refine grd22 ?_ | refine gra22 ?_)) g5; (first | (have zbx := fl_z22d g5; obtain ⟨⟨y0, y1x, y2x, y3⟩, zf0, zf1, zf2, zf3⟩ := fl_zs22 zbx) | (have zbx := fl_z22 g5; obtain ⟨⟨y0, y1x, y2x, y3⟩, zf0, zf1, zf2, zf3⟩ := fl_zs22 zbx) | skip)))
                all_goals
                  go_wp2_with fail
                  go_meet
                all_goals first
                  | exact ⟨rfl, gra22 q5⟩
                  | exact ⟨rfl, grs22 (grs22 (grs22 (grs22 q5 (Nat.le_refl _)) (Nat.le_refl _)) (Nat.le_refl _)) (Nat.le_refl _)⟩
              case rest =>
                obtain ⟨rfl, gx⟩ := hcut
                have GX3 := Lib.hid (GR.out.trans gx)
                have kxx := KX.out wc gx
                have NX := Lib.hid (show ∀ u, Gr wc u → ∃ k' : Nat, k' ≤ nN ∧ (Value.int .i64 ((k : Int) + 1)) = .int .i64 (k' : Int) ∧ Gr X2 u from fun u g => ⟨k + 1, by omega, by rw [Int.natCast_add]; rfl, GX3.out.trans g⟩)
                clear gx z0 z1 z2 z3 gg
                cases fb with
                | true =>
                  clear FI
                  go_wp2_with fail
                  refine ⟨NX.out _ (Gr.refl _), ?_⟩
                  simp [intOf]; omega
                | false =>
                  have s1 := str_lit22 (x := x) (l := [105, 110, 112, 117, 116]) ⟨#[105, 110, 112, 117, 116]⟩ rfl
                  have s2 := str_lit22 (x := x) (l := [99, 111, 110, 102]) ⟨#[99, 111, 110, 102]⟩ rfl
                  have s3 := str_lit22 (x := x) (l := [109, 97, 110, 105, 102, 101, 115, 116]) ⟨#[109, 97, 110, 105, 102, 101, 115, 116]⟩ rfl
                  by_cases e1 : x = ⟨#[105, 110, 112, 117, 116]⟩
                  · rw [decide_eq_true e1] at s1
                    clear FI s2 s3 e1
                    go_wp2_with fail
                    refine ⟨NX.out _ (Gr.refl _), ?_⟩
                    simp [intOf]; omega
                  · rw [decide_eq_false e1] at s1
                    by_cases e2 : x = ⟨#[99, 111, 110, 102]⟩
                    · rw [decide_eq_true e2] at s2
                      clear FI s3 e1 e2
                      go_wp2_with fail
                      refine ⟨NX.out _ (Gr.refl _), ?_⟩
                      simp [intOf]; omega
                    · rw [decide_eq_false e2] at s2
                      have e3 : x = ⟨#[109, 97, 110, 105, 102, 101, 115, 116]⟩ := by
                        rcases HCS.out with h | h | h | h
                        · cases h
                        · exact absurd h e1
                        · exact absurd h e2
                        · exact h
                      rw [decide_eq_true e3] at s3
                      clear FI e1 e2 e3
                      go_wp2_with fail
                      refine ⟨NX.out _ (Gr.refl _), ?_⟩
                      simp [intOf]; omega
            · obtain rfl : k = nN := by omega
              have q3 : ¬ (k : Int) < (k : Int) := by omega
              have q4 : (i : Int) + 1 ≤ (k : Int) := by omega
              obtain ⟨z0, z1, z2⟩ := KZ.out wr gr
              have hi9 : (i : Int) ≤ 2 := by
                have := KFH.out.few
                have := HN.out
                omega
              clear gr
              go_wp2_with fail
              refine (AW.out _).mono ?_; rintro e u9 ⟨rfl, g9⟩
              have G9 := Lib.hid ((GX.out.trans GR.out).trans g9)
              clear g9
              go_wp2_with fail
              go_ret
              exact ⟨rfl, G9.out⟩
theorem door_met (os : Os) (args : Array Value) : laidMetH Tryz.prog Rows.scanKeepsRow.laid ((World.doorLaid Tryz.prog 24 os).forCall (fun _ _ => 0) ⟨#[], args, []⟩).memory :=
  laidMetH_of_parts3 (fuel := 8) (laidMet_of_run' 8 (by kernel_rfl) (by kernel_rfl)) (by kernel_rfl) (by kernel_rfl)
set_option maxRecDepth 100000 in
theorem lifted (os : Os) (started : os.Started) (H : Type) (enc : TypeId × Value → H) :
    ReturnsInHanded {} Tryz.checked os 4 .any (fun w args => (Rows.scanKeepsSpec.pre enc Tryz.prog Tryz.f4 [] false w args ∧ laidMetH Tryz.prog Rows.scanKeepsRow.laid w) ∧ sizedMet enc Tryz.prog Tryz.f4 (OpenSpec.ofChange Rows.scanKeepsSpec) false w args) (Rows.scanKeepsSpec.post enc Tryz.prog Tryz.f4 false true false false) := by
  refine returnsInHanded_of_change_and (C := Tryz.checked) (X := fun w _ => laidMetH Tryz.prog Rows.scanKeepsRow.laid w) (fun _ _ _ hh h => h.of_heap hh) own started (by kernel_rfl) Tryz.func4
    (ChangeSpec.witness_shaped (enc := enc) (C := Tryz.checked) (os := os) (X := fun w _ => laidMetH Tryz.prog Rows.scanKeepsRow.laid w) false (World.doorLaid Tryz.prog 24 os) #[.slice none 0 0, .agg #[.int .i64 0, .int .i64 0], .int .i64 0] 8 rfl (World.shaped_of_RefB (by kernel_rfl) (by kernel_rfl)) (by kernel_rfl) (by kernel_rfl) (by kernel_rfl) (door_met os _)) ?_
  intro W base args ds gs before hval0 hW _ _ hL _
  have hval : ∀ (j : Nat) t v, Tryz.f4.params[j]? = some t → args[j]? = some v → Value.okWide Tryz.prog W .any base t v := hval0
  have hW' := hW
  obtain ⟨p, q, hA0, hV, rfl, hfz, hnd⟩ := hW
  have hA : DataW.TrodAll enc Tryz.prog W 0 (fun _ => true) true Tryz.f4.params.toList args.toList ds p := hA0
  rw [Tryz.params4] at hA hval
  obtain ⟨v0, vs0, d0, ds0, p0, q0, hargs, rfl, rfl, h0, r0⟩ := trodAll_cons hA
  obtain ⟨v1, vs1, d1, ds1, p1, q1, rfl, rfl, rfl, h1, r1⟩ := trodAll_cons r0
  obtain ⟨v2, vs2, d2, ds2, p2, q2, rfl, rfl, rfl, h2, r2⟩ := trodAll_cons r1
  obtain ⟨rfl, rfl, rfl⟩ := trodAll_nil r2
  obtain rfl : args = #[v0, v1, v2] := by cases args; simp_all
  obtain ⟨rfl, rfl⟩ := trodVars_none hV
  have k0 := h0
  have lt0 : ∀ x ∈ p0, x.block < W.heap.size := by obtain ⟨m, hm⟩ := k0; exact DataW.trod_lt m _ _ _ hm
  obtain ⟨a0, l0, c0, e0⟩ := okWide_slice Tryz.underlying22 (hval 0 22 v0 rfl rfl)
  have w0 : Rd Tryz.prog W 22 v0 := by
    obtain ⟨fuel, hf⟩ := h0
    subst e0
    exact ⟨H, enc, fuel, _, by simpa [Value.cells] using hf⟩
  have k1 := h1
  have lt1 : ∀ x ∈ p1, x.block < W.heap.size := by obtain ⟨m, hm⟩ := k1; exact DataW.trod_lt m _ _ _ hm
  have w1 : RdAgg Tryz.prog W 41 v1 := rd_agg Tryz.underlying41 (by kernel_rfl) (by kernel_rfl) (hval 1 41 v1 rfl rfl) h1
  have k2 := h2
  have lt2 : ∀ x ∈ p2, x.block < W.heap.size := by obtain ⟨m, hm⟩ := k2; exact DataW.trod_lt m _ _ _ hm
  obtain ⟨n2, e2⟩ := okWide_int Tryz.underlying3 (hval 2 3 v2 rfl rfl)
  have w2 : Rd Tryz.prog W 3 v2 := by
    obtain ⟨fuel, hf⟩ := h2
    subst e2
    exact ⟨H, enc, fuel, _, by simpa [Value.cells] using hf⟩
  clear hA0 hval0
  refine (walk v0 v1 v2 W w0 w1 w2 hL).mono fun e W' ⟨he, bel⟩ => ?_
  subst he
  exact ⟨_, rfl, _, _, _, [], _, [], hW', trodAll_mk1 (shut_bool Tryz.underlying4 _), (trodAll_cons_mk (Below.trod laidOut (by kernel_rfl) (of_decide_eq_true (by kernel_rfl)) k0 bel lt0) (trodAll_cons_mk (Below.trod laidOut (by kernel_rfl) (of_decide_eq_true (by kernel_rfl)) k1 bel lt1) (trodAll_cons_mk (Below.trod laidOut (by kernel_rfl) (of_decide_eq_true (by kernel_rfl)) k2 bel lt2) trodAll_mk0))), rfl, bel.frame _, fun h => by cases h⟩
theorem over : Rows.scanKeepsRow.holds Tryz.pinned (OpenSpec.ofChange Rows.scanKeepsSpec) :=
  OpenClaim.holds_of_wide 4 Tryz.f4 rfl rfl rfl rfl rfl rfl rfl ⟨rfl, rfl, rfl, rfl, rfl⟩ rfl rfl rfl rfl rfl (by kernel_rfl) Tryz.func4 (by kernel_rfl)
    (of_decide_eq_true (by kernel_rfl)) (by unfold Func.isWrapper; first | (rw [if_pos (by decide +kernel)]; kernel_rfl) | (rw [if_neg (by decide +kernel)]; exact ⟨rfl, rfl⟩))
    (fun os started H enc _ => lifted os started H enc)
theorem proved : Rows.ScanKeepsCardSaid :=
  Claim7.holds_tied_plain_at .later [] [.data, .data, .data] true (true, "5cd68afcb9ed6da0acd7bbebbf77a50a3cf06ce5e33d9c2beb645bca1aa7441b") false
    over (fun _ h => by cases h) (by kernel_rfl) (fun _ h => by cases h) scanKeeps_row_tie rfl ⟨rfl, rfl⟩ (by kernel_rfl) rfl
    (fun f fn hf hfn => by
      obtain rfl : f = 4 := Option.some.inj ((show Tryz.prog.funcNamed Rows.scanKeepsRow.func = some 4 by kernel_rfl).symm.trans hf) |>.symm
      obtain rfl : fn = Tryz.f4 := (Option.some.inj (Tryz.func4.symm.trans hfn)).symm
      exact ⟨by kernel_rfl, fun j t ht => by
        rw [Tryz.params4] at ht
        have hm : t ∈ [22, 41, 3] := by simpa using Array.mem_of_getElem? ht
        have hall : ([22, 41, 3].all fun u => !Tryz.prog.wantsStandIn u) = true := by kernel_rfl
        exact (show Tryz.prog.wantsStandIn t = false by simpa using List.all_eq_true.1 hall t hm)⟩)
    (by kernel_rfl)
#print axioms proved
end Go.Proofs.YtignfbdgpgidpaaGreatDoor.scanKeeps

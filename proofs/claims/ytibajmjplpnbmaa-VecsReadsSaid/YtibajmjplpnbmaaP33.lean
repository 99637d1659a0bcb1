/- In one text: VcGet2. -/
import Derived.Test.YtibajmjplpnbmaaP32
/- The program's store: Get, walked. -/
namespace Go.Proofs.Ytibajmjplpnbmaa
open Go.RowKit FsPlain OctPlain DsPlain
set_option linter.unusedVariables false
set_option linter.unusedSimpArgs false
set_option maxRecDepth 20000
theorem readN_length (s : St) (o : So) (k : Nat) (ho : o.ok) : (readN s o k).1.length ≤ 1000000 := by
  unfold readN
  split
  · split
    · rename_i h
      rw [vL_yes h, nums_length, Int.toNat_natCast]
      have := ho.d2
      show o.d ≤ 1000000
      omega
    · simp
  · simp
/-- The cells that Get reads. -/
def GeAt (p D b : Nat) (o : So) (vh : Value) (i : Int) (w : World) : Prop := w.cell? ⟨p, 0, none⟩ = some (.pointer (some ⟨D, 0, none⟩)) ∧ w.cell? ⟨p, 4, none⟩ = some (.int .i64 (o.n : Nat)) ∧ w.cell? ⟨p, 6, none⟩ = some vh ∧ w.cell? ⟨b, 0, none⟩ = some (.int .i64 i)
set_option maxHeartbeats 4000000 in
theorem vget_c (p D P : Nat) (o : So) (ho : o.ok) (hs : List (Int × List Int)) (hr : hs.length ≤ o.room) (hl : hs.length ≤ 1500000) (hz : ∀ x ∈ hs, x.2.length ≤ 1000000) (s : St) (hk : s.calls ≤ 1000000000000) (i : Int) (w : World) (B : Nat → Prop) (h : stars [StA p D P o hs, DiskA D s] w B) :
    Calls Try.prog 16 #[.pointer (some ⟨p, 0, none⟩), .int .i64 i] w (GetS p D P o hs s i w B) := by
  obtain ⟨vh, K, rfl, hh⟩ := st_sdv h
  clear h
  rw [abK_length] at hr hl
  have hn2 := ho.n2
  obtain ⟨W, hW⟩ : ∃ W, W = w.alloc (.cells #[.int .i64 i] 3) := ⟨_, rfl⟩
  have gW : Gr w W := by rw [hW]; exact Below.alloc (Below.refl _ _) (Nat.le_refl _) _
  have hWe : w.alloc (.cells #[.int .i64 i] 3) = W := hW.symm
  obtain ⟨b, hb⟩ : ∃ b, b = w.heap.size := ⟨_, rfl⟩
  have cb : W.cell? ⟨b, 0, none⟩ = some (.int .i64 i) := by rw [hW, hb, World.cell?_alloc_new]; rfl
  have h1 : ∀ u, Gr W u → stars (sdv p D P o vh K s) u B := fun u g => stars_gr (frs_sdv _ _ _ _ _ _ _) hh (gW.trans g)
  have K0 : ∀ u, Gr W u → GeAt p D b o vh i u := fun u g => by
    have hb1 := sdv_blk (h1 u g)
    exact ⟨by rw [cells_at hb1]; rfl, by rw [cells_at hb1]; rfl, by rw [cells_at hb1]; rfl, cell_grV g cb⟩
  have H1 := Lib.hid h1
  have KH := Lib.hid K0
  have GW := Lib.hid gW
  have gWr := Gr.refl W
  obtain ⟨k0, k4, k6, kb⟩ := K0 W gWr
  have OP := Lib.hid (fun u (g : Gr W u) => vopen_c p (some ⟨D, 0, none⟩) u (K0 u g).1)
  have hbe : w.heap.size = b := hb.symm
  have hpb : p < W.heap.size := World.block_lt_of_cell? W _ k0
  by_cases hi : i < 0 ∨ (o.n : Int) ≤ i
  · have HA := Lib.hid (AskS.range (s := s) (hs := abK K) hi)
    by_cases hi0 : i < 0
    · clear hh h1 K0 hW gW cb hb hi
      go_enter Try.func16, Try.ntmps16
      go_wp2_with fail
      refine (OP.out _ gWr).mono ?_; rintro e u1 ⟨rfl, rfl⟩
      go_wp2_with fail
      go_quiet (fail)
      go_wp2_with fail
      go_ret2
      exact getS_none HA.out (sdv_st (H1.out _ (grN _ _))) (Nx.gr (GW.out.trans (grN _ _)))
    · have hi1 : (o.n : Int) ≤ i := by omega
      clear hh h1 K0 hW gW cb hb hi
      go_enter Try.func16, Try.ntmps16
      go_wp2_with fail
      refine (OP.out _ gWr).mono ?_; rintro e u1 ⟨rfl, rfl⟩
      go_wp2_with fail
      go_quiet (fail)
      go_wp2_with fail
      go_ret2
      exact getS_none HA.out (sdv_st (H1.out _ (grN _ _))) (Nx.gr (GW.out.trans (grN _ _)))
  · obtain ⟨k, rfl⟩ : ∃ k : Nat, i = (k : Int) := ⟨i.toNat, by omega⟩
    have hkn : k < o.n := by omega
    have i1 : ¬ (k : Int) < 0 := by omega
    have i2 : ¬ (o.n : Int) ≤ (k : Int) := by omega
    have hKl2 : K.length ≤ 2000000 := by omega
    have IX := Lib.hid (fun u (g : Gr W u) => vidx_c (sdv_row (h1 u g)) hKl2 (k : Int) b (K0 u g).2.2.2)
    have hrow := sdv_row hh
    obtain ⟨ad, c, rfl, hc, hg⟩ := ownK_shape hrow
    rcases pos_case K (k : Int) with ⟨hp, hno⟩ | ⟨a, x, hp, hx, hxi⟩
    · have hno2 : ∀ x ∈ abK K, x.1 ≠ (k : Int) := fun y hy => by
        obtain ⟨z, hz, rfl⟩ := List.mem_map.1 hy
        exact hno z hz
      rw [hp] at IX
      obtain ⟨er, her⟩ : ∃ er, er = (readN s o k).2 := ⟨_, rfl⟩
      obtain ⟨l, hlq⟩ : ∃ l, l = (readN s o k).1 := ⟨_, rfl⟩
      have FE := Lib.hid (fun u (gu : Gr W u) => vfetch_c p D P o ho (.slice ad K.length c) K hr hl s k hkn hk u B (h1 u gu))
      unfold FetV at FE
      rw [← her, ← hlq] at FE
      have hll : l.length ≤ 1000000 := by
        rw [hlq]; exact readN_length s o k ho
      have HAr := fun (h0 : er = 0) => AskS.read (s := s) (hs := abK K) k rfl hkn hno2 (by rw [← her]; exact h0)
      have HAf := fun (h0 : er ≠ 0) => AskS.fail (s := s) (hs := abK K) k rfl hkn hno2 (by rw [← her]; exact h0)
      rw [← her] at HAf
      rw [← hlq] at HAr
      have HKL := Lib.hid hl
      by_cases h0 : er = 0
      · subst h0
        have HA := Lib.hid (HAr rfl)
        clear hn2 her hlq HAr HAf hh h1 H1 hrow K0 hp hno hno2 hg hW gW cb hb hi hc hr hz
        go_enter Try.func16, Try.ntmps16
        go_wp2_with fail
        refine (OP.out _ gWr).mono ?_; rintro e u1 ⟨rfl, rfl⟩
        go_wp2_with fail
        go_quiet (fail)
        go_wp2_with fail
        refine (IX.out _ (grN _ _)).mono ?_; rintro e u2 ⟨rfl, g2⟩
        have G2 := Lib.hid ((grN W _).trans g2)
        have d0 := (KH.out _ G2.out).2.2.2
        clear g2
        go_wp2_with fail
        refine (FE.out _ G2.out).mono ?_; rintro e u3 ⟨vh3, K3, B3, rfl, h3, n3, q3, _⟩
        obtain ⟨xa, xc, rfl⟩ := q3 (by simp)
        have f1 := sdv_st h3
        have f2 := sdv_blk h3
        have fr := sdv_row h3
        obtain ⟨ad3, c3, rfl, hc3, hg3⟩ := ownK_shape fr
        obtain ⟨g, rfl, _⟩ := hg3 (by simp)
        have f4 := (ownK_cells fr (show (⟨(k : Int), xa, xc, l⟩ :: cutK K o.room : List Kp)[0]? = some ⟨(k : Int), xa, xc, l⟩ from rfl)).2
        have f5 := sdv_vec h3 ⟨(k : Int), xa, xc, l⟩ (List.mem_cons_self ..)
        obtain ⟨n, hn⟩ : ∃ n, n = (⟨(k : Int), xa, xc, l⟩ :: cutK K o.room : List Kp).length := ⟨_, rfl⟩
        have hlz : (0 : Int) < (n : Int) := by rw [hn]; simp
        have d6 : u3.cell? ⟨p, 6, none⟩ = some (.slice (some ⟨g, 0, none⟩) n c3) := by rw [cells_at f2, hn]; rfl
        have d1 : u3.cell? ⟨g, 1, none⟩ = some (.slice xa l.length xc) := f4
        have CL := Lib.hid (cloneI_c f5 hll)
        unfold Kp.v at CL
        dsimp only at CL
        have hab : abK (⟨(k : Int), xa, xc, l⟩ :: cutK K o.room) = ((k : Int), l) :: cutS (abK K) o.room := by rw [← abK_cut]; rfl
        rw [hab] at f1
        have F1 := Lib.hid f1
        have N3 := Lib.hid ((Nx.gr (B := B) (GW.out.trans G2.out)).trans n3)
        clear h3 n3 f1 f2 f4 f5 fr hg3 hc3 hn d0 hab q3
        go_wp2_with fail
        refine (CL.out).mono ?_; rintro e u4 ⟨v4, rfl, o4, g4⟩
        obtain ⟨B5, h5, n5⟩ := ownI_new (P := [StA p D P o (((k : Int), l) :: cutS (abK K) o.room), DiskA D s.call]) ⟨fr_st _ _ _ _ _, fr_disk _ _, trivial⟩ F1.out o4 g4
        obtain ⟨va, vc, hve, _⟩ := own_row o4
        subst hve
        have H5 := Lib.hid h5
        have N5 := Lib.hid (N3.out.trans n5)
        clear h5 n5 o4 g4 CL
        go_wp2_with fail
        go_ret2
        exact ⟨_, _, _, _, _, B5, HA.out, rfl, H5.out, N5.out⟩
      · have HA := Lib.hid (HAf h0)
        have t0 : (er != 0) = true := by simpa using h0
        have H0 := Lib.hid h0
        clear hn2 her hlq HAr HAf hh h1 H1 hrow K0 hp hno hno2 hg hW gW cb hb hi hc hr hz h0
        go_enter Try.func16, Try.ntmps16
        go_wp2_with fail
        refine (OP.out _ gWr).mono ?_; rintro e u1 ⟨rfl, rfl⟩
        go_wp2_with fail
        go_quiet (fail)
        go_wp2_with fail
        refine (IX.out _ (grN _ _)).mono ?_; rintro e u2 ⟨rfl, g2⟩
        have G2 := Lib.hid ((grN W _).trans g2)
        have d0 := (KH.out _ G2.out).2.2.2
        clear g2
        go_wp2_with fail
        refine (FE.out _ G2.out).mono ?_; rintro e u3 ⟨vh3, K3, B3, rfl, h3, n3, _, q3⟩
        have q4 := q3 H0.out
        subst q4
        have F1 := Lib.hid (sdv_st h3)
        have N3 := Lib.hid ((Nx.gr (B := B) (GW.out.trans G2.out)).trans n3)
        clear h3 n3 q3
        go_wp2_with fail
        go_ret2
        exact getS_none HA.out F1.out N3.out
    · have hxl : x.l.length ≤ 1000000 := hz (x.id, x.l) (List.mem_map.2 ⟨x, List.mem_of_getElem? hx, rfl⟩)
      have hlt := (List.getElem?_eq_some_iff.1 hx).1
      obtain ⟨g, rfl, _⟩ := hg (by omega)
      rw [hp] at IX
      have tl := turn_length hx
      have TU := Lib.hid (fun u (gu : Gr W u) => does_pre (f := 39) (sol p D P o (.slice (some ⟨g, 0, none⟩) K.length c) K) (M := [DiskA D s]) ⟨fr_disk _ _, trivial⟩ (h1 u gu) fun B5 h5 => vturn_c p D P o (.slice (some ⟨g, 0, none⟩) K.length c) K a x hx hKl2 u B5 h5)
      have HA := Lib.hid (show AskS s o (abK K) (k : Int) x.l 0 (abK (x :: K.eraseIdx a)) s by
        have := AskS.held (s := s) (o := o) (hs := abK K) (i := (k : Int)) a x.l (by unfold abK; rw [List.getElem?_map, hx]; simp [hxi])
        rw [← abK_erase] at this
        simpa [abK, hxi] using this)
      have FI := Lib.hid (fun u2 (B2 : Nat → Prop) (h2 : stars (sol p D P o (.slice (some ⟨g, 0, none⟩) K.length c) (x :: K.eraseIdx a) ++ [DiskA D s]) u2 B2) => (show _ ∧ _ ∧ _ ∧ _ from ⟨sdv_st h2, sdv_blk h2, ownK_cells (by rw [tl]; exact sdv_row h2) (show (x :: K.eraseIdx a)[0]? = some x from rfl), sdv_vec h2 x (List.mem_cons_self ..)⟩))
      have hlz : (0 : Int) < (K.length : Int) := by omega
      have ha0 : (0 : Int) ≤ (a : Int) := by omega
      obtain ⟨n, hn⟩ : ∃ n, n = K.length := ⟨_, rfl⟩
      rw [← hn] at hlz
      have HLN := Lib.hid hn
      clear hn hh h1 H1 hrow K0 hp hx hxi tl hg hW gW cb hb hi hc hlt
      go_enter Try.func16, Try.ntmps16
      go_wp2_with fail
      refine (OP.out _ gWr).mono ?_; rintro e u1 ⟨rfl, rfl⟩
      go_wp2_with fail
      go_quiet (fail)
      go_wp2_with fail
      refine (IX.out _ (grN _ _)).mono ?_; rintro e u2 ⟨rfl, g2⟩
      have G2 := Lib.hid ((grN W _).trans g2)
      clear g2
      go_wp2_with fail
      refine (TU.out _ G2.out).mono ?_; rintro e u3 ⟨rfl, B3, h3, n3⟩
      obtain ⟨f1, f2, ⟨f3, f4⟩, f5⟩ := FI.out _ _ h3
      have d6 : u3.cell? ⟨p, 6, none⟩ = some (.slice (some ⟨g, 0, none⟩) n c) := by rw [cells_at f2, HLN.out]; rfl
      have d1 : u3.cell? ⟨g, 1, none⟩ = some (.slice x.ad x.l.length x.cap) := f4
      have CL := Lib.hid (cloneI_c f5 hxl)
      unfold Kp.v at CL
      have F1 := Lib.hid f1
      have N3 := Lib.hid ((Nx.gr (B := B) (GW.out.trans G2.out)).trans n3)
      clear h3 n3 f1 f2 f3 f4 f5
      go_wp2_with fail
      refine (CL.out).mono ?_; rintro e u4 ⟨v4, rfl, o4, g4⟩
      obtain ⟨B5, h5, n5⟩ := ownI_new (P := [StA p D P o (abK (x :: K.eraseIdx a)), DiskA D s]) ⟨fr_st _ _ _ _ _, fr_disk _ _, trivial⟩ F1.out o4 g4
      obtain ⟨va, vc, hve, _⟩ := own_row o4
      subst hve
      have H5 := Lib.hid h5
      have N5 := Lib.hid (N3.out.trans n5)
      clear h5 n5 o4 g4 CL
      go_wp2_with fail
      go_ret2
      exact ⟨_, _, _, _, _, B5, HA.out, rfl, H5.out, N5.out⟩
end Go.Proofs.Ytibajmjplpnbmaa

/- In one text: Rrd7, Rrd8, RdRead, RdRead2, SepMore. -/
import Derived.Test.YtojlceoeacebmaaGreatP18
import Derived.Test.YtojlceoeacebmaaGreatP19
import Derived.Test.YtojlceoeacebmaaGreatP07
import Derived.Test.YtojlceoeacebmaaGreatP00
/- The document's reader: Next, whole; Open. -/
namespace Go.Proofs.YtojlceoeacebmaaGreat
open Go.RowKit FsPlain CrcPlain OctPlain FramePlain RecPlain RdPlain
set_option linter.unusedVariables false
set_option linter.unusedSimpArgs false
set_option maxRecDepth 20000
theorem rr_next (x D P : Nat) (m : N3) (hok : m.ok) (ht : m.x.told ≤ 50000) (hc : m.s.calls ≤ 1000000000000) (w : World) (B : Nat → Prop) (h : RR3 x D P m w B) :
    Calls Tryz.prog 21 #[.pointer (some ⟨x, 0, none⟩)] w (Does w B (RR3 x D P (nextN m).1) (ansV (nextN m).2)) := by
  have hal : m.x.all.length ≤ 100000 := by have := hok.cnt; have := hok.ql; omega
  unfold nextN
  cases ho : m.x.opn
  · exact rr_closed x D P m ho w B h
  · rw [if_neg (by decide)]
    by_cases hq : m.x.queue = []
    · rw [if_pos hq]
      unfold fillN
      by_cases he : errN m = 0
      · rw [if_neg (by simpa using he)]
        cases hg : gB m.x.size (bytesN m)
        · by_cases hE : isEnd m.x (bytesN m)
          · rw [if_pos hE]
            obtain ⟨_, h2, h3, h4, h5⟩ := hE
            exact rr_fill_end x D P m hok ho hq hc hal he hg h2 h3 h4 h5 w B h
          · rw [if_neg hE, if_pos (.inl rfl)]
            cases h2 : eB (bytesN m)
            · exact rr_fill_none x D P m hok ho hq hc he hg h2 w B h
            · by_cases h3 : (bytesN m).size = m.x.left
              · exact rr_fill_odd x D P m hok ho hq hc hal he hg h2 h3 (fun h45 => hE ⟨hg, h2, h3, h45.1, h45.2⟩) w B h
              · exact rr_fill_part x D P m hok ho hq hc he hg h2 h3 w B h
        · have hE : ¬ isEnd m.x (bytesN m) := fun hE => by have := hE.1; rw [hg] at this; cases this
          rw [if_neg hE]
          cases hs : m.x.short
          · rw [if_neg (by simp)]
            exact rr_fill_block x D P m hok ho hq hc hal (by omega) he hg hs w B h
          · rw [if_pos (.inr rfl)]
            exact rr_fill_late x D P m hok ho hq hc he hg hs w B h
      · rw [if_pos he]
        exact rr_fill_err x D P m hok ho hq hc he w B h
    · rw [if_neg hq]
      exact rr_pop x D P m hok ho hq (by omega) w B h
end Go.Proofs.YtojlceoeacebmaaGreat
/- The document's reader: Open. -/
namespace Go.Proofs.YtojlceoeacebmaaGreat
open Go.RowKit FsPlain CrcPlain OctPlain FramePlain RecPlain RdPlain
set_option linter.unusedVariables false
set_option linter.unusedSimpArgs false
set_option maxRecDepth 20000
/-- What the document's Open leaves. -/
def RrMade (D P : Nat) (w : World) (B : Nat → Prop) (nm : ByteArray) (size : Int) (R : St × Bu × Int × Nat) (e : Ending) (w' : World) : Prop :=
  (R.2.2.1 = 0 ∧ ∃ x, Does w B (RR3 x D P ⟨R.1, R.2.1, newRs nm size R.2.2.2⟩) (.tuple #[.pointer (some ⟨x, 0, none⟩), .int .i64 0]) e w') ∨
  (R.2.2.1 ≠ 0 ∧ Does w B (stars [RDiskA D R.1, RBuA P R.2.1]) (.tuple #[.pointer none, .int .i64 R.2.2.1]) e w')
theorem frs_o2 (D P : Nat) (s : St) (b : Bu) : Frs [RDiskA D s, RBuA P b] := ⟨fr_rdisk _ _, fr_rbu _ _, trivial⟩
set_option maxHeartbeats 4000000 in
theorem rr_open (D P : Nat) (s : St) (b : Bu) (nm : ByteArray) (size : Int) (hsz : I64 size) (hs : s.ok) (hn : nm.size ≤ 24) (hm : rightB nm.data.toList = true) (hc : s.calls ≤ 100000000000) (w : World) (B : Nat → Prop) (h : stars [RDiskA D s, RBuA P b] w B) :
    Calls Tryz.prog 15 #[.pointer (some ⟨D, 0, none⟩), .pointer (some ⟨P, 0, none⟩), .string nm, .int .i64 size] w (RrMade D P w B nm size (openN s b nm size)) := by
  obtain ⟨R, hR⟩ : ∃ R, R = openN s b nm size := ⟨_, rfl⟩
  rw [← hR]
  unfold openN at hR
  have H := Lib.hid h
  clear h
  cases hz : sizeB size
  · rw [if_pos hz] at hR
    subst hR
    have hz' : size < 1 ∨ 64 < size := by simp [sizeB] at hz; omega
    clear hz
    by_cases h1 : size < 1
    · go_enter Tryz.func15, Tryz.ntmps15
      go_wp2_with fail
      go_ret2
      exact .inr ⟨by simp, rfl, B, H.out, Nx.refl _ _⟩
    · have h2 : 64 < size := by omega
      go_enter Tryz.func15, Tryz.ntmps15
      go_wp2_with fail
      go_ret2
      exact .inr ⟨by simp, rfl, B, H.out, Nx.refl _ _⟩
  · rw [if_neg (by rw [hz]; decide)] at hR
    have hzz : 1 ≤ size ∧ size ≤ 64 := by simpa [sizeB] using hz
    have h1 : ¬ size < 1 := by omega
    have h2 : ¬ 64 < size := by omega
    obtain ⟨c1, hc1⟩ : ∃ c1, c1 = b.takeE 4 := ⟨_, rfl⟩
    obtain ⟨⟨sn, e1⟩, hS1⟩ : ∃ X, X = sizeR s nm.data.toList := ⟨_, rfl⟩
    obtain ⟨⟨rd, e2⟩, hS2⟩ : ∃ X, X = readR s.call nm.data.toList 0 11 := ⟨_, rfl⟩
    obtain ⟨t, ht⟩ : ∃ t, t = bs rd := ⟨_, rfl⟩
    have hsl : sn ≤ 16777216 := by have := sizeR_le hs nm.data.toList; rw [← hS1] at this; exact this
    rw [← hc1, ← hS1, ← hS2] at hR
    simp only [← ht] at hR
    have CT := does_at (f := 44) 1 rfl (frs_o2 _ _ _ _) H.out fun B2 h2 => rbu_take P b 4 w B2 h2
    rw [← hc1] at CT
    have CZ0 : ∀ w2 B2, stars [RDiskA D s, RBuA P (b.take 4)] w2 B2 → Calls Tryz.prog 45 #[.pointer (some ⟨D, 0, none⟩), .string nm] w2 (Does w2 B2 (stars [RDiskA D s.call, RBuA P (b.take 4)]) (.tuple #[.int .i64 sn, .int .i64 e1])) := by
      intro w2 B2 h2
      have := does_at (f := 45) 0 rfl (frs_o2 _ _ _ _) h2 fun B3 h3 => r_size D s nm hn hm (by omega) w2 B3 h3
      rw [← hS1] at this
      exact this
    have CR0 : ∀ w2 B2, stars [RDiskA D s.call, RBuA P (b.take 4)] w2 B2 → Calls Tryz.prog 46 #[.pointer (some ⟨D, 0, none⟩), .string nm, .int .i64 0, .int .i64 11] w2 (Does w2 B2 (stars [RDiskA D s.call.call, RBuA P (b.take 4)]) (.tuple #[.string t, .int .i64 e2])) := by
      intro w2 B2 h2
      have := does_at (f := 46) 0 rfl (frs_o2 _ _ _ _) h2 fun B3 h3 => r_read D s.call nm 0 11 hn hm (by show s.calls + 1 ≤ _; omega) (by decide) (by decide) w2 B3 h3
      rw [← hS2] at this
      rw [ht]
      exact this
    have CG := Lib.hid (fun s2 w2 B2 (h2 : stars [RDiskA D s2, RBuA P (b.take 4)] w2 B2) => does_at (f := 48) (Q := RBuA P ((b.take 4).give 4)) 1 rfl (frs_o2 _ _ _ _) h2 fun B3 h3 => rbu_give P (b.take 4) 4 w2 B3 h3 (by decide))
    have CTH := Lib.hid CT
    have CZ := Lib.hid CZ0
    have CR := Lib.hid CR0
    have CHD := Lib.hid (fun (q : ByteArray) u => rgethead_c q u)
    have HR := Lib.hid hR
    clear CT CZ0 CR0 hc1 hS1 hS2 hR hz hzz hm hc hs hn ht
    by_cases hk1 : c1 = 0
    · subst hk1
      have hR := HR.out
      rw [if_neg (by simp)] at hR
      by_cases hk2 : e1 = 0
      · subst hk2
        rw [if_neg (by simp)] at hR
        by_cases hk3 : sn < 11
        · rw [if_pos hk3] at hR
          subst hR
          clear HR
          go_enter Tryz.func15, Tryz.ntmps15
          go_wp2_with fail
          refine CTH.out.mono ?_; rintro e w2 hd
          obtain ⟨rfl, B2, h2', n2⟩ := hd
          have CZ1 := Lib.hid (CZ.out _ _ h2')
          have N2 := Lib.hid n2
          clear h2' n2 CTH
          go_wp2_with fail
          refine CZ1.out.mono ?_; rintro e w3 hd
          obtain ⟨rfl, B3, h3, n3⟩ := hd
          have CR1 := Lib.hid (CR.out _ _ h3)
          have H3 := Lib.hid h3
          have N3 := Lib.hid (N2.out.trans n3)
          clear h3 n3 CZ1
          go_wp2_with fail
          refine (CHD.out _ _).mono ?_; rintro e w5 ⟨rfl, g5⟩
          have CG1 := Lib.hid (CG.out s.call _ _ (stars_gr (frs_o2 _ _ _ _) H3.out g5))
          have N5 := Lib.hid (N3.out.trans (Nx.gr g5))
          clear g5
          go_wp2_with fail
          refine CG1.out.mono ?_; rintro e w6 hd
          obtain ⟨rfl, B6, h6, n6⟩ := hd
          have H6 := Lib.hid h6
          have N6 := Lib.hid (N5.out.trans n6)
          clear h6 n6 CG1
          go_wp2_with fail
          go_ret2
          exact .inr ⟨by simp, rfl, B6, H6.out, N6.out⟩
        · rw [if_neg hk3] at hR
          by_cases hk4 : e2 = 0
          · subst hk4
            rw [if_neg (by simp)] at hR
            by_cases hk5 : ghB t = true
            · by_cases hk6 : ghN t = size
              · rw [if_neg (by simp [hk5, hk6])] at hR
                subst hR
                have CHT := Lib.hid (fun u => by have := rgethead_c t u; rw [hk5, hk6] at this; exact this)
                obtain ⟨lf, hlf⟩ : ∃ lf : Nat, lf = sn.toNat - 11 := ⟨_, rfl⟩
                have q1 : sn - 11 = (lf : Int) := by omega
                have q2 : (lf : Int) ≤ 16777216 := by omega
                have HLF := Lib.hid hlf
                clear HR hk5 hk6 hlf
                go_enter Tryz.func15, Tryz.ntmps15
                go_wp2_with fail
                refine CTH.out.mono ?_; rintro e w2 hd
                obtain ⟨rfl, B2, h2', n2⟩ := hd
                have CZ1 := Lib.hid (CZ.out _ _ h2')
                have N2 := Lib.hid n2
                clear h2' n2 CTH
                go_wp2_with fail
                refine CZ1.out.mono ?_; rintro e w3 hd
                obtain ⟨rfl, B3, h3, n3⟩ := hd
                have CR1 := Lib.hid (CR.out _ _ h3)
                have H3 := Lib.hid h3
                have N3 := Lib.hid (N2.out.trans n3)
                clear h3 n3 CZ1
                go_wp2_with fail
                refine CR1.out.mono ?_; rintro e w4 hd
                obtain ⟨rfl, B4, h4, n4⟩ := hd
                have H4 := Lib.hid h4
                have N4 := Lib.hid (N3.out.trans n4)
                clear h4 n4 CR1
                go_wp2_with fail
                refine (CHT.out _).mono ?_; rintro e w5 ⟨rfl, g5⟩
                have h5 := stars_gr (frs_o2 _ _ _ _) H4.out g5
                have H5 := Lib.hid h5
                have N5 := Lib.hid (N4.out.trans (Nx.gr g5))
                clear g5 h5
                go_wp2_with fail
                go_ret2
                have ga : Gr w5 (w5.alloc (.cells (rdcells D P (newRs nm size lf) (.slice none 0 0) (.slice none 0 0)) 56)) := (Gr.refl w5).alloc (Nat.le_refl _) _
                obtain ⟨D1, d1, m1⟩ := part_new (P := Blk w5.heap.size (rdcells D P (newRs nm size lf) (.slice none 0 0) (.slice none 0 0)) 56) (L := [RDiskA D s.call.call, RBuA P (b.take 4)]) (B' := fun b => b = w5.heap.size) (frs_o2 _ _ _ _) H5.out ga ⟨heap_alloc_new w5 _, fun _ => Iff.rfl⟩ (fun b hb => by omega)
                obtain ⟨D2, d2, m2⟩ := part_new (w' := w5.alloc (.cells (rdcells D P (newRs nm size lf) (.slice none 0 0) (.slice none 0 0)) 56)) (P := RowA (.slice none 0 0) []) (L := [Blk w5.heap.size (rdcells D P (newRs nm size lf) (.slice none 0 0) (.slice none 0 0)) 56, RDiskA D s.call.call, RBuA P (b.take 4)]) ⟨fr_blk _ _ _, frs_o2 _ _ _ _⟩ d1 (Gr.refl _) (row_nil _) (fun b hb => hb.elim)
                obtain ⟨D3, d3, m3⟩ := part_new (w' := w5.alloc (.cells (rdcells D P (newRs nm size lf) (.slice none 0 0) (.slice none 0 0)) 56)) (P := QueA (.slice none 0 0) []) (L := [RowA (.slice none 0 0) [], Blk w5.heap.size (rdcells D P (newRs nm size lf) (.slice none 0 0) (.slice none 0 0)) 56, RDiskA D s.call.call, RBuA P (b.take 4)]) ⟨fr_row _ _, fr_blk _ _ _, frs_o2 _ _ _ _⟩ d2 (Gr.refl _) (que_nil _) (fun b hb => hb.elim)
                have d4 : stars (rdl w5.heap.size D P s.call.call (b.take 4) (rdcells D P (newRs nm size lf) (.slice none 0 0) (.slice none 0 0)) (.slice none 0 0) (.slice none 0 0) [] []) _ D3 := stars_perm (by
                  refine List.Perm.trans ?_ (List.Perm.swap _ _ _)
                  exact (List.Perm.swap _ _ _).cons _) d3
                refine .inl ⟨rfl, w5.heap.size, rfl, D3, ?_, ((N5.out.trans m1).trans m2).trans m3⟩
                rw [← HLF.out]
                exact ⟨.slice none 0 0, .slice none 0 0, d4⟩
              · rw [if_pos (by simp [hk6])] at hR
                subst hR
                have CHT := Lib.hid (fun u => by have := rgethead_c t u; rw [hk5] at this; exact this)
                obtain ⟨kk, hkk⟩ : ∃ kk, kk = ghN t := ⟨_, rfl⟩
                rw [← hkk] at CHT hk6
                have t1 : (kk == size) = false := by simpa using hk6
                have t2 : (kk != size) = true := by simpa using hk6
                clear HR hk5 hk6 hkk
                go_enter Tryz.func15, Tryz.ntmps15
                go_wp2_with fail
                refine CTH.out.mono ?_; rintro e w2 hd
                obtain ⟨rfl, B2, h2', n2⟩ := hd
                have CZ1 := Lib.hid (CZ.out _ _ h2')
                have N2 := Lib.hid n2
                clear h2' n2 CTH
                go_wp2_with fail
                refine CZ1.out.mono ?_; rintro e w3 hd
                obtain ⟨rfl, B3, h3, n3⟩ := hd
                have CR1 := Lib.hid (CR.out _ _ h3)
                have H3 := Lib.hid h3
                have N3 := Lib.hid (N2.out.trans n3)
                clear h3 n3 CZ1
                go_wp2_with fail
                refine CR1.out.mono ?_; rintro e w4 hd
                obtain ⟨rfl, B4, h4, n4⟩ := hd
                have H4 := Lib.hid h4
                have N4 := Lib.hid (N3.out.trans n4)
                clear h4 n4 CR1
                go_wp2_with fail
                refine (CHT.out _).mono ?_; rintro e w5 ⟨rfl, g5⟩
                have CG1 := Lib.hid (CG.out s.call.call _ _ (stars_gr (frs_o2 _ _ _ _) H4.out g5))
                have N5 := Lib.hid (N4.out.trans (Nx.gr g5))
                clear g5
                go_wp2_with fail
                refine CG1.out.mono ?_; rintro e w6 hd
                obtain ⟨rfl, B6, h6, n6⟩ := hd
                have H6 := Lib.hid h6
                have N6 := Lib.hid (N5.out.trans n6)
                clear h6 n6 CG1
                go_wp2_with fail
                go_ret2
                exact .inr ⟨by simp, rfl, B6, H6.out, N6.out⟩
            · rw [if_pos (by simp [hk5])] at hR
              subst hR
              have hk5' : ghB t = false := by simpa using hk5
              have CHT := Lib.hid (fun u => by have := rgethead_c t u; rw [hk5'] at this; exact this)
              clear HR hk5 hk5'
              go_enter Tryz.func15, Tryz.ntmps15
              go_wp2_with fail
              refine CTH.out.mono ?_; rintro e w2 hd
              obtain ⟨rfl, B2, h2', n2⟩ := hd
              have CZ1 := Lib.hid (CZ.out _ _ h2')
              have N2 := Lib.hid n2
              clear h2' n2 CTH
              go_wp2_with fail
              refine CZ1.out.mono ?_; rintro e w3 hd
              obtain ⟨rfl, B3, h3, n3⟩ := hd
              have CR1 := Lib.hid (CR.out _ _ h3)
              have H3 := Lib.hid h3
              have N3 := Lib.hid (N2.out.trans n3)
              clear h3 n3 CZ1
              go_wp2_with fail
              refine CR1.out.mono ?_; rintro e w4 hd
              obtain ⟨rfl, B4, h4, n4⟩ := hd
              have H4 := Lib.hid h4
              have N4 := Lib.hid (N3.out.trans n4)
              clear h4 n4 CR1
              go_wp2_with fail
              refine (CHT.out _).mono ?_; rintro e w5 ⟨rfl, g5⟩
              have CG1 := Lib.hid (CG.out s.call.call _ _ (stars_gr (frs_o2 _ _ _ _) H4.out g5))
              have N5 := Lib.hid (N4.out.trans (Nx.gr g5))
              clear g5
              go_wp2_with fail
              refine CG1.out.mono ?_; rintro e w6 hd
              obtain ⟨rfl, B6, h6, n6⟩ := hd
              have H6 := Lib.hid h6
              have N6 := Lib.hid (N5.out.trans n6)
              clear h6 n6 CG1
              go_wp2_with fail
              go_ret2
              exact .inr ⟨by simp, rfl, B6, H6.out, N6.out⟩
          · rw [if_pos hk4] at hR
            subst hR
            have t1 : (e2 == 0) = false := by simpa using hk4
            have t2 : (e2 != 0) = true := by simpa using hk4
            have HE := Lib.hid hk4
            clear HR hk4
            go_enter Tryz.func15, Tryz.ntmps15
            go_wp2_with fail
            refine CTH.out.mono ?_; rintro e w2 hd
            obtain ⟨rfl, B2, h2', n2⟩ := hd
            have CZ1 := Lib.hid (CZ.out _ _ h2')
            have N2 := Lib.hid n2
            clear h2' n2 CTH
            go_wp2_with fail
            refine CZ1.out.mono ?_; rintro e w3 hd
            obtain ⟨rfl, B3, h3, n3⟩ := hd
            have CR1 := Lib.hid (CR.out _ _ h3)
            have H3 := Lib.hid h3
            have N3 := Lib.hid (N2.out.trans n3)
            clear h3 n3 CZ1
            go_wp2_with fail
            refine CR1.out.mono ?_; rintro e w4 hd
            obtain ⟨rfl, B4, h4, n4⟩ := hd
            have H4 := Lib.hid h4
            have N4 := Lib.hid (N3.out.trans n4)
            clear h4 n4 CR1
            go_wp2_with fail
            refine (CHD.out _ _).mono ?_; rintro e w5 ⟨rfl, g5⟩
            have CG1 := Lib.hid (CG.out s.call.call _ _ (stars_gr (frs_o2 _ _ _ _) H4.out g5))
            have N5 := Lib.hid (N4.out.trans (Nx.gr g5))
            clear g5
            go_wp2_with fail
            refine CG1.out.mono ?_; rintro e w6 hd
            obtain ⟨rfl, B6, h6, n6⟩ := hd
            have H6 := Lib.hid h6
            have N6 := Lib.hid (N5.out.trans n6)
            clear h6 n6 CG1
            go_wp2_with fail
            go_ret2
            exact .inr ⟨HE.out, rfl, B6, H6.out, N6.out⟩
      · rw [if_pos hk2] at hR
        subst hR
        have t1 : (e1 == 0) = false := by simpa using hk2
        have t2 : (e1 != 0) = true := by simpa using hk2
        have HE := Lib.hid hk2
        clear HR hk2
        go_enter Tryz.func15, Tryz.ntmps15
        go_wp2_with fail
        refine CTH.out.mono ?_; rintro e w2 hd
        obtain ⟨rfl, B2, h2', n2⟩ := hd
        have CZ1 := Lib.hid (CZ.out _ _ h2')
        have N2 := Lib.hid n2
        clear h2' n2 CTH
        go_wp2_with fail
        refine CZ1.out.mono ?_; rintro e w3 hd
        obtain ⟨rfl, B3, h3, n3⟩ := hd
        have CR1 := Lib.hid (CR.out _ _ h3)
        have H3 := Lib.hid h3
        have N3 := Lib.hid (N2.out.trans n3)
        clear h3 n3 CZ1
        go_wp2_with fail
        refine (CHD.out _ _).mono ?_; rintro e w5 ⟨rfl, g5⟩
        have CG1 := Lib.hid (CG.out s.call _ _ (stars_gr (frs_o2 _ _ _ _) H3.out g5))
        have N5 := Lib.hid (N3.out.trans (Nx.gr g5))
        clear g5
        go_wp2_with fail
        refine CG1.out.mono ?_; rintro e w6 hd
        obtain ⟨rfl, B6, h6, n6⟩ := hd
        have H6 := Lib.hid h6
        have N6 := Lib.hid (N5.out.trans n6)
        clear h6 n6 CG1
        go_wp2_with fail
        go_ret2
        exact .inr ⟨HE.out, rfl, B6, H6.out, N6.out⟩
    · have hR := HR.out
      rw [if_pos hk1] at hR
      subst hR
      have t1 : (c1 == 0) = false := by simpa using hk1
      have t2 : (c1 != 0) = true := by simpa using hk1
      have HE := Lib.hid hk1
      clear HR hk1
      go_enter Tryz.func15, Tryz.ntmps15
      go_wp2_with fail
      refine CTH.out.mono ?_; rintro e w2 hd
      obtain ⟨rfl, B2, h2', n2⟩ := hd
      have H2 := Lib.hid h2'
      have N2 := Lib.hid n2
      clear h2' n2 CTH
      go_wp2_with fail
      go_ret2
      exact .inr ⟨HE.out, rfl, B2, H2.out, N2.out⟩
end Go.Proofs.YtojlceoeacebmaaGreat
/- Plain facts: what a reader reads of a file, where no call fails. -/
namespace Go.Proofs.YtojlceoeacebmaaGreat
open Go.RowKit FsPlain CrcPlain OctPlain FramePlain RecPlain
set_option linter.unusedVariables false
set_option linter.unusedSimpArgs false
set_option maxRecDepth 20000
namespace RdPlain
theorem get_of {size : Int} {s : ByteArray} {l : List ByteArray} {more : List UInt8} (hb : blkB size l = true) (h : s.data.toList = (cl (blk l)).data.toList ++ more) : gB size s = true ∧ gL size s = l ∧ gN size s = (cl (blk l)).size := by
  have e : s = cl (blk l) ++ bs more := ext_toList (by rw [app_data, bs_data, h])
  rw [e]
  obtain ⟨h1, h2, h3⟩ := get_put hb (bs more)
  exact ⟨h1, h3, h2⟩
theorem get_head {size : Int} {s : ByteArray} (h : gB size s = true) : ∃ more, s.data.toList = (cl (blk (gL size s))).data.toList ++ more ∧ blkB size (gL size s) = true ∧ gN size s = (cl (blk (gL size s))).size := by
  obtain ⟨n, h1, h2, h3, h4⟩ := RecPlain.get_split h
  obtain ⟨hb, _⟩ := get_is h
  exact ⟨_, h4, hb, (get_of hb h4).2.2⟩
theorem blk_room {size : Int} {l : List ByteArray} (h : blkB size l = true) : (((cl (blk l)).size : Nat) : Int) ≤ roomN size := by
  obtain ⟨h1, ⟨h2, h3⟩, h4⟩ := blk_parts h
  obtain ⟨n, e1, _, _, e2, _⟩ := blk_cl h
  have hs : 1 ≤ size ∧ size ≤ 64 := by simpa [sizeB] using h1
  have hr : roomN size = 5 + 4 * size := by unfold roomN; rw [if_pos h1]
  rw [e1, hr, ← e2]
  have : (l.length : Int) * size ≤ 4 * size := Int.mul_le_mul_of_nonneg_right (by omega) (by omega)
  omega
/-- The first bytes tell of a block what all do, if they are enough. -/
theorem take_get {size : Int} {t r : ByteArray} {k : Nat} (hk : roomN size ≤ (k : Int)) (ht : t.data.toList = r.data.toList.take k) : gB size t = gB size r ∧ gL size t = gL size r ∧ gN size t = gN size r := by
  cases hg : gB size r
  · cases hg2 : gB size t
    · rw [gL_no hg, gL_no hg2, gN_no hg, gN_no hg2]; exact ⟨rfl, rfl, rfl⟩
    · obtain ⟨m1, e1, hb, _⟩ := get_head hg2
      have e : r.data.toList = (cl (blk (gL size t))).data.toList ++ (m1 ++ r.data.toList.drop k) := by
        conv => lhs; rw [← List.take_append_drop k r.data.toList]
        rw [← ht, e1, List.append_assoc]
      have := (get_of hb e).1
      rw [hg] at this; cases this
  · obtain ⟨m2, e2, hb, hn⟩ := get_head hg
    have hl := blk_room hb
    have hlen : (cl (blk (gL size r))).data.toList.length ≤ k := by rw [show (cl (blk (gL size r))).data.toList.length = (cl (blk (gL size r))).size from Array.length_toList]; omega
    have e : t.data.toList = (cl (blk (gL size r))).data.toList ++ m2.take (k - (cl (blk (gL size r))).data.toList.length) := by
      rw [ht, e2, List.take_append, List.take_of_length_le hlen]
    obtain ⟨a1, a2, a3⟩ := get_of hb e
    exact ⟨a1, a2, a3.trans hn.symm⟩
/-- What a reader knows of a file's bytes: the blocks that were read, and what is left. -/
structure At (m : N3) (D : ByteArray) (ps : List (List ByteArray)) (r : ByteArray) : Prop where
  get : ∃ f, m.s.get m.x.nm.data.toList = some f ∧ f.data = D.data.toList
  down : m.s.down = false
  ahead : m.s.ahead = -1
  sz : sizeB m.x.size = true
  all : D.data.toList = (headS m.x.size).data.toList ++ (blks ps ++ r.data.toList)
  pos : m.x.pos = 11 + (blks ps).length
  left : m.x.left = r.size
  bls : ∀ p ∈ ps, blkB m.x.size p = true
  full : Full ps
  short : m.x.short = true → ∃ p, ps.getLast? = some p ∧ p.length < 4
  long : m.x.short = false → ∀ p ∈ ps, p.length = 4
  flat : m.x.all = ps.flatten
theorem headS_len (size : Int) : (headS size).data.toList.length = 11 := by rw [show (headS size).data.toList.length = (headS size).size from Array.length_toList, headS_size]
theorem At.read {m : N3} {D : ByteArray} {ps : List (List ByteArray)} {r : ByteArray} (h : At m D ps r) : errN m = 0 ∧ (bytesN m).data.toList = r.data.toList.take (askN m.x) := by
  obtain ⟨f, hf, hd⟩ := h.get
  have hc : m.s.call.down = false := by unfold St.call; simp [h.down, h.ahead]
  have hlen : f.data.length = m.x.pos + m.x.left := by
    rw [hd, h.all, h.pos, h.left, List.length_append, List.length_append, headS_len, show r.data.toList.length = r.size from Array.length_toList]; omega
  have ha := ask_left m.x
  unfold errN bytesN
  unfold readR
  rw [if_neg (by rw [hc]; decide), hf]
  simp only []
  rw [if_neg (by omega)]
  refine ⟨rfl, ?_⟩
  rw [bs_data, hd, h.all, h.pos, List.drop_append, List.drop_of_length_le (by rw [headS_len]; omega), List.nil_append, headS_len]
  rw [show 11 + (blks ps).length - 11 = (blks ps).length by omega, List.drop_left]
theorem At.popped {m : N3} {D : ByteArray} {ps : List (List ByteArray)} {r : ByteArray} (h : At m D ps r) : At m.popped D ps r := ⟨h.get, h.down, h.ahead, h.sz, h.all, h.pos, h.left, h.bls, h.full, h.short, h.long, h.flat⟩
theorem At.ask {m : N3} {D : ByteArray} {ps : List (List ByteArray)} {r : ByteArray} (h : At m D ps r) : askN m.x = r.size ∨ roomN m.x.size ≤ (askN m.x : Nat) ∧ 17 ≤ askN m.x := by
  have hs : 1 ≤ m.x.size ∧ m.x.size ≤ 64 := by simpa [sizeB] using h.sz
  have hr : roomN m.x.size = 5 + 4 * m.x.size := by unfold roomN; rw [if_pos h.sz]
  have hl := h.left
  unfold askN
  rw [hr]
  omega
/-- What Get tells of what was read is what it tells of all that is left. -/
theorem At.got {m : N3} {D : ByteArray} {ps : List (List ByteArray)} {r : ByteArray} (h : At m D ps r) : gB m.x.size (bytesN m) = gB m.x.size r ∧ gL m.x.size (bytesN m) = gL m.x.size r ∧ gN m.x.size (bytesN m) = gN m.x.size r := by
  obtain ⟨_, hb⟩ := h.read
  rcases h.ask with ha | ha
  · have : bytesN m = r := ext_toList (by rw [hb, ha, List.take_of_length_le (by rw [data_length]; omega)])
    rw [this]; exact ⟨rfl, rfl, rfl⟩
  · exact take_get ha.1 hb
/-- It is the end of all just if the end of all is left. -/
theorem At.ends {m : N3} {D : ByteArray} {ps : List (List ByteArray)} {r : ByteArray} (h : At m D ps r) (hl : m.x.all.length ≤ 1000000) : isEnd m.x (bytesN m) ↔ tailB m.x.all r = true := by
  obtain ⟨_, hb⟩ := h.read
  have hg := h.got.1
  have hlen : (bytesN m).size = min (askN m.x) r.size := by rw [← data_length, hb, List.length_take, data_length]
  have hle : askN m.x ≤ r.size := by have := ask_left m.x; rw [h.left] at this; exact this
  constructor
  · rintro ⟨h1, h2, h3, h4, h5⟩
    have : bytesN m = r := ext_toList (by rw [hb, List.take_of_length_le (by rw [data_length]; have := h.left; omega)])
    rw [this] at h2 h4 h5
    unfold tailB
    simp [h2, h4, h5]
  · intro ht
    have he := (tail_iff hl r).1 ht
    have h17 : r.size = 17 := by rw [← data_length, he, endL_length]
    have hask : askN m.x = r.size := by
      rcases h.ask with ha | ha
      · exact ha
      · omega
    have hr : bytesN m = r := ext_toList (by rw [hb, hask, List.take_of_length_le (by rw [data_length]; omega)])
    have ht2 := ht
    unfold tailB at ht2
    simp only [Bool.and_eq_true, decide_eq_true_eq] at ht2
    obtain ⟨⟨e1, e2⟩, e3⟩ := ht2
    have hc : cntN r = 0 := by
      unfold eB at e1
      simp only [Bool.and_eq_true, decide_eq_true_eq] at e1
      exact e1.1.1.2
    have hgb : gB m.x.size r = false := by
      unfold gB
      rw [hc]; simp
    exact ⟨by rw [hr]; exact hgb, by rw [hr]; exact e1, by rw [hr, h.left], by rw [hr]; exact e2, by rw [hr]; exact e3⟩
theorem At.file {m : N3} {D : ByteArray} {ps : List (List ByteArray)} {r : ByteArray} (h : At m D ps r) (hl : m.x.all.length ≤ 1000000) (ht : tailB m.x.all r = true) : IsFile m.x.size D m.x.all := by
  rw [h.flat] at hl ht ⊢
  exact file_of h.sz h.bls h.full h.all hl ht
/-- Where no block is left, or one behind a short one, and no end of all, there is no file. -/
theorem At.none {m : N3} {D : ByteArray} {ps : List (List ByteArray)} {r : ByteArray} (h : At m D ps r) (hl : m.x.all.length ≤ 1000000) (hs : gB m.x.size r = false ∨ m.x.short = true) (ht : ¬ tailB m.x.all r = true) (L : List ByteArray) : ¬ IsFile m.x.size D L := by
  intro hi
  have hstop : gB m.x.size r = false ∨ ∃ p, ps.getLast? = some p ∧ p.length < 4 := hs.imp id h.short
  obtain ⟨e1, e2⟩ := file_not h.bls h.all hstop hi
  refine ht ((tail_iff hl r).2 ?_)
  rw [h.flat, e1]; exact e2
/-- Behind a block. -/
theorem At.block {m : N3} {D : ByteArray} {ps : List (List ByteArray)} {r : ByteArray} (h : At m D ps r) (hg : gB m.x.size r = true) (hsh : m.x.short = false) : ∃ r', At (m.asked.filled (bytesN m)) D (ps ++ [gL m.x.size r]) r' := by
  obtain ⟨g1, g2, g3⟩ := h.got
  obtain ⟨more, e1, hb, hn⟩ := get_head hg
  have hlong := h.long hsh
  have hc : m.s.call.down = false := by unfold St.call; simp [h.down, h.ahead]
  have hca : m.s.call.ahead = -1 := by show max (m.s.ahead - 1) (-1) = -1; rw [h.ahead]; decide
  have hk : blks (ps ++ [gL m.x.size r]) = blks ps ++ (cl (blk (gL m.x.size r))).data.toList := by rw [blks_app]; simp [blks]
  have hsz : (gN m.x.size r).toNat = (cl (blk (gL m.x.size r))).size := by rw [hn]; rfl
  have hp := blk_parts hb
  refine ⟨bs more, h.get, hc, hca, h.sz, ?_, ?_, ?_, ?_, ?_, ?_, ?_, ?_⟩
  · rw [h.all, hk, e1, bs_data]; simp only [List.append_assoc]; rfl
  · show m.x.pos + (gN m.x.size (bytesN m)).toNat = _
    rw [g3, hsz, hk, List.length_append, h.pos, data_length]; omega
  · show m.x.left - (gN m.x.size (bytesN m)).toNat = _
    have : r.size = (cl (blk (gL m.x.size r))).size + more.length := by rw [← data_length, e1, List.length_append, data_length]
    rw [g3, hsz, h.left, bs_size]; omega
  · intro p hpm
    rcases List.mem_append.1 hpm with hpm | hpm
    · exact h.bls p hpm
    · rw [List.mem_singleton.1 hpm]; exact hb
  · intro j p hj hj2
    rw [List.length_append, List.length_singleton] at hj2
    rw [List.getElem?_append_left (by omega)] at hj
    exact hlong p (List.mem_of_getElem? hj)
  · intro hs
    have hs' : decide ((gL m.x.size (bytesN m)).length < 4) = true := hs
    rw [g2, decide_eq_true_iff] at hs'
    exact ⟨_, by simp, hs'⟩
  · intro hs p hpm
    have hs' : decide ((gL m.x.size (bytesN m)).length < 4) = false := hs
    rw [g2, decide_eq_false_iff_not] at hs'
    rcases List.mem_append.1 hpm with hpm | hpm
    · exact hlong p hpm
    · rw [List.mem_singleton.1 hpm]; have := hp.2.1; omega
  · show m.x.all ++ gL m.x.size (bytesN m) = _
    rw [g2, h.flat]; simp
end RdPlain
end Go.Proofs.YtojlceoeacebmaaGreat
/- Plain facts: a reader that is opened over a file, where no call fails; how many records it can tell. -/
namespace Go.Proofs.YtojlceoeacebmaaGreat
open Go.RowKit FsPlain CrcPlain OctPlain FramePlain RecPlain
set_option linter.unusedVariables false
set_option linter.unusedSimpArgs false
set_option maxRecDepth 20000
namespace RdPlain
theorem heads_all : (List.range 65).all (fun n => decide (n = 0) || (ghB (headS (n : Int)) && decide (ghN (headS (n : Int)) = (n : Int)))) = true := by kernel_rfl
/-- GetHead tells the size of which the head is. -/
theorem head_told {size : Int} (h : sizeB size = true) : ghB (headS size) = true ∧ ghN (headS size) = size := by
  have hs : 1 ≤ size ∧ size ≤ 64 := by simpa [sizeB] using h
  obtain ⟨n, rfl⟩ : ∃ n : Nat, size = n := ⟨size.toNat, by omega⟩
  have := List.all_eq_true.1 heads_all n (List.mem_range.2 (by omega))
  simp only [Bool.or_eq_true, Bool.and_eq_true, decide_eq_true_eq] at this
  rcases this with h0 | h0
  · omega
  · exact h0
/-- Of what GetHead tells a size, that is the head. -/
theorem told_head {t : ByteArray} {size : Int} (h : sizeB size = true) (h1 : ghB t = true) (h2 : ghN t = size) : t = headS size := by
  have hk : ghK t = size := by unfold ghN at h2; rw [if_pos h1] at h2; exact h2
  unfold ghB at h1
  simp only [Bool.and_eq_true, decide_eq_true_eq] at h1
  rw [hk, headR_yes h] at h1
  exact h1.2.symm
theorem file_begins {size : Int} {D : ByteArray} {L : List ByteArray} (h : IsFile size D L) : D.data.toList = (headS size).data.toList ++ (blks (ups L (cnt4 L)) ++ endL L) := h.2
theorem file_len {size : Int} {D : ByteArray} {L : List ByteArray} (h : IsFile size D L) : 28 ≤ D.size := by
  have := congrArg List.length (file_begins h)
  rw [data_length, List.length_append, List.length_append, headS_len, endL_length] at this
  omega
/-- A disk that does not fail, with a file of these bytes. -/
structure Stands (s : St) (n : List UInt8) (D : ByteArray) : Prop where
  get : ∃ f, s.get n = some f ∧ f.data = D.data.toList
  down : s.down = false
  ahead : s.ahead = -1
theorem Stands.call {s : St} {n : List UInt8} {D : ByteArray} (h : Stands s n D) : Stands s.call n D ∧ s.call.down = false := by
  have hc : s.call.down = false := by unfold St.call; simp [h.down, h.ahead]
  exact ⟨⟨h.get, hc, by show max (s.ahead - 1) (-1) = -1; rw [h.ahead]; decide⟩, hc⟩
theorem Stands.size {s : St} {n : List UInt8} {D : ByteArray} (h : Stands s n D) : sizeR s n = ((D.size : Int), 0) := by
  obtain ⟨f, hf, hd⟩ := h.get
  unfold sizeR
  rw [if_neg (by rw [h.call.2]; decide), hf]
  simp only [hd, data_length]
theorem Stands.read {s : St} {n : List UInt8} {D : ByteArray} (h : Stands s n D) (k : Nat) (hk : k ≤ D.size) : readR s n 0 k = (D.data.toList.take k, 0) := by
  obtain ⟨f, hf, hd⟩ := h.get
  unfold readR
  rw [if_neg (by rw [h.call.2]; decide), hf]
  simp only [hd]
  rw [if_neg (by rw [data_length]; omega)]
  simp
/-- Open over such a file: it is open, or there is no file of records at all. -/
theorem open_at {s : St} {b : Bu} {nm : ByteArray} {size : Int} {D : ByteArray} (h : Stands s nm.data.toList D) (hz : sizeB size = true) (hb : b.takeE 4 = 0) :
    ((openN s b nm size).2.2.1 = 0 ∧ ∃ r, At ⟨(openN s b nm size).1, (openN s b nm size).2.1, newRs nm size (openN s b nm size).2.2.2⟩ D [] r) ∨
    ((openN s b nm size).2.2.1 = 6 ∧ (∀ L, ¬ IsFile size D L) ∧ (openN s b nm size).2.1 = (b.take 4).give 4) := by
  have e1 := h.size
  by_cases h11 : D.size < 11
  · right
    have e : openN s b nm size = (s.call, (b.take 4).give 4, 6, 0) := by
      unfold openN
      rw [if_neg (by rw [hz]; decide), if_neg (by rw [hb]; decide), e1, if_neg (by simp), if_pos (by simp only []; omega)]
    rw [e]
    refine ⟨rfl, fun L hi => ?_, rfl⟩
    have := (file_len hi); omega
  · have e2 := h.call.1.read 11 (by omega)
    have e : openN s b nm size = if ¬ (ghB (bs (D.data.toList.take 11)) = true ∧ ghN (bs (D.data.toList.take 11)) = size) then (s.call.call, (b.take 4).give 4, 6, 0) else (s.call.call, b.take 4, 0, D.size - 11) := by
      unfold openN
      rw [if_neg (by rw [hz]; decide), if_neg (by rw [hb]; decide), e1, if_neg (by simp), if_neg (by simp only []; omega), e2, if_neg (by simp)]
      simp only [Int.toNat_natCast]
    by_cases hh : ghB (bs (D.data.toList.take 11)) = true ∧ ghN (bs (D.data.toList.take 11)) = size
    · left
      rw [if_neg (by simpa using hh)] at e
      have ht := told_head hz hh.1 hh.2
      have hd : D.data.toList = (headS size).data.toList ++ D.data.toList.drop 11 := by
        rw [← ht, bs_data, List.take_append_drop]
      rw [e]
      refine ⟨rfl, bs (D.data.toList.drop 11), ?_⟩
      obtain ⟨c1, _⟩ := h.call.1.call
      refine ⟨c1.get, c1.down, c1.ahead, hz, by rw [bs_data]; exact hd, rfl, ?_, (fun p hp => by cases hp), (fun j p hj => by simp at hj), (fun hs => by cases hs), (fun _ p hp => by cases hp), rfl⟩
      show D.size - 11 = _
      rw [bs_size, List.length_drop, data_length]
    · right
      rw [if_pos hh] at e
      rw [e]
      refine ⟨rfl, fun L hi => hh ?_, rfl⟩
      have hd := file_begins hi
      have ht : bs (D.data.toList.take 11) = headS size := by
        rw [hd, List.take_append_of_le_length (by rw [headS_len]; omega), List.take_of_length_le (by rw [headS_len]; omega)]
        exact bs_toList _
      rw [ht]; exact head_told hz
/-- No more records are told than there are bytes. -/
theorem blks_len {size : Int} : ∀ {ps : List (List ByteArray)}, (∀ p ∈ ps, blkB size p = true) → ps.flatten.length ≤ (blks ps).length
  | [], _ => by simp [blks]
  | p :: ps, h => by
    have ih := blks_len (ps := ps) fun q hq => h q (List.mem_cons_of_mem _ hq)
    obtain ⟨n, e1, _, _, e2, _⟩ := blk_cl (h p (by simp))
    obtain ⟨h1, _, _⟩ := blk_parts (h p (by simp))
    have hs : 1 ≤ size ∧ size ≤ 64 := by simpa [sizeB] using h1
    rw [blks_cons, List.flatten_cons, List.length_append, List.length_append, data_length, e1]
    have : (p.length : Int) * 1 ≤ p.length * size := Int.mul_le_mul_of_nonneg_left (by omega) (by omega)
    omega
theorem At.few {m : N3} {D : ByteArray} {ps : List (List ByteArray)} {r : ByteArray} (h : At m D ps r) : m.x.all.length + 11 ≤ D.size := by
  have h1 := blks_len h.bls
  have h2 := congrArg List.length h.all
  rw [data_length, List.length_append, List.length_append, headS_len] at h2
  rw [h.flat]; omega
/-- Of a file, what was read is a beginning of its records. -/
theorem At.start {m : N3} {D : ByteArray} {ps : List (List ByteArray)} {r : ByteArray} {L : List ByteArray} (h : At m D ps r) (hi : IsFile m.x.size D L) : m.x.all.length ≤ L.length := by
  have h1 := h.all
  rw [file_begins hi] at h1
  have h2 := List.append_cancel_left h1
  obtain ⟨cs, c1, _⟩ := blks_pre _ _ _ _ h.bls (ups_blk hi.1) (endL_cons L) h2.symm
  have := congrArg List.length (congrArg List.flatten c1)
  rw [ups_all, List.flatten_append, List.length_append] at this
  rw [h.flat]; omega
end RdPlain
end Go.Proofs.YtojlceoeacebmaaGreat
/- A name; more on parts that lie apart. -/
namespace Go.Proofs.YtojlceoeacebmaaGreat
open Go.RowKit FsPlain
set_option linter.unusedVariables false
set_option linter.unusedSimpArgs false
set_option maxRecDepth 20000
def nmA : ByteArray := ⟨#[97]⟩
theorem nmA_right : rightB nmA.data.toList = true := by decide
theorem nmA_size : nmA.size ≤ 24 := by decide
theorem pre_nx {w : World} {B : Nat → Prop} (L : List Asn) {M : List Asn} (hM : Frs M) (h : stars (L ++ M) w B) : ∃ B1, stars L w B1 ∧ ∀ (L' : List Asn) (w' : World) (B' : Nat → Prop), stars L' w' B' → Nx B1 w B' w' → ∃ B3, stars (L' ++ M) w' B3 ∧ Nx B w B3 w' := by
  obtain ⟨B1, h1, k⟩ := pre_next L hM h
  exact ⟨B1, h1, fun _ _ _ => k⟩
theorem suf_nx {w : World} {B : Nat → Prop} (L : List Asn) {M : List Asn} (hL : Frs L) (h : stars (L ++ M) w B) : ∃ B1, stars M w B1 ∧ ∀ (M' : List Asn) (w' : World) (B' : Nat → Prop), stars M' w' B' → Nx B1 w B' w' → ∃ B3, stars (L ++ M') w' B3 ∧ Nx B w B3 w' := by
  obtain ⟨B1, h1, k⟩ := suf_next L hL h
  exact ⟨B1, h1, fun _ _ _ => k⟩
theorem stars_none (w : World) : stars [] w (fun _ => False) := fun _ h => h
theorem frs_app : ∀ {L M : List Asn}, Frs L → Frs M → Frs (L ++ M)
  | [], _, _, h => h
  | _ :: _, _, h, k => ⟨h.1, frs_app h.2 k⟩
end Go.Proofs.YtojlceoeacebmaaGreat

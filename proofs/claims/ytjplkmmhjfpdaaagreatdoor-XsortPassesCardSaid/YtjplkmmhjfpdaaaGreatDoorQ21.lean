/- In one text: Rd9, WrSink, Wr1, Wr2. -/
import Derived.Test.YtjplkmmhjfpdaaaGreatDoorQ20
import Derived.Test.YtjplkmmhjfpdaaaGreatDoorQ17
import Derived.Test.YtjplkmmhjfpdaaaGreatDoorQ05
import Derived.Test.YtjplkmmhjfpdaaaGreatDoorQ06
import Derived.Test.YtjplkmmhjfpdaaaGreatDoorQ16
import Derived.Test.YtjplkmmhjfpdaaaGreatDoorQ01
import Derived.Test.YtjplkmmhjfpdaaaGreatDoorQ12
import Derived.Test.YtjplkmmhjfpdaaaGreatDoorQ15
import Derived.Deep.RegionHeld3
import Derived.Deep.AppendLies
/- The program's reader: Open. -/
namespace Go.Proofs.YtjplkmmhjfpdaaaGreatDoor
open Go.RowKit FsPlain CrcPlain OctPlain FramePlain RecPlain RdPlain
set_option linter.unusedVariables false
set_option linter.unusedSimpArgs false
set_option maxRecDepth 20000
def RpMade (D P : Nat) (w : World) (B : Nat → Prop) (nm : ByteArray) (size : Int) (R : St × Bu × Int × Nat) (e : Ending) (w' : World) : Prop :=
  (R.2.2.1 = 0 ∧ ∃ x, Does w B (RP3 x D P ⟨R.1, R.2.1, newRs nm size R.2.2.2⟩) (.tuple #[.pointer (some ⟨x, 0, none⟩), .int .i64 0]) e w') ∨
  (R.2.2.1 ≠ 0 ∧ Does w B (stars [DiskA D R.1, BuA P R.2.1]) (.tuple #[.pointer none, .int .i64 R.2.2.1]) e w')
theorem frs_p2 (D P : Nat) (s : St) (b : Bu) : Frs [DiskA D s, BuA P b] := ⟨fr_disk _ _, fr_bu _ _, trivial⟩
def rdnew (D P : Nat) (nm : ByteArray) (size : Int) (left : Nat) : Array Value := #[.pointer (some ⟨D, 0, none⟩), .string nm, .int .i64 11, .int .i64 (left : Nat), .pointer (some ⟨P, 0, none⟩), .int .i64 size, .slice none 0 0, .bool false, .int .i64 0, .int .u32 0, .bool false]
theorem rdnew_eq (D P : Nat) (nm : ByteArray) (size : Int) (left : Nat) : rdnew D P nm size left = rdc D P (newRs nm size left) (.slice none 0 0) (sumN (newRs nm size left).all) false := by
  show _ = rdc D P (newRs nm size left) (.slice none 0 0) (sumN []) false
  rw [sumN_nil]; rfl
theorem rd_born {D P : Nat} {s : St} {b : Bu} {nm : ByteArray} {size : Int} {left : Nat} {w : World} {B : Nat → Prop} (h : stars [DiskA D s, BuA P b] w B) :
    ∃ B', RP3 w.heap.size D P ⟨s, b, newRs nm size left⟩ (w.alloc (.cells (rdnew D P nm size left) 146)) B' ∧ Nx B w B' (w.alloc (.cells (rdnew D P nm size left) 146)) := by
  have ga : Gr w (w.alloc (.cells (rdnew D P nm size left) 146)) := (Gr.refl w).alloc (Nat.le_refl _) _
  obtain ⟨B5, h5, n5⟩ := part_new (P := Blk w.heap.size (rdnew D P nm size left) 146) (L := [DiskA D s, BuA P b]) (B' := fun b => b = w.heap.size) (frs_p2 _ _ _ _) h ga ⟨heap_alloc_new w _, fun _ => Iff.rfl⟩ (fun b hb => by omega)
  obtain ⟨B6, h6, n6⟩ := part_new (w' := w.alloc (.cells (rdnew D P nm size left) 146)) (P := QueA (.slice none 0 0) []) (L := [Blk w.heap.size (rdnew D P nm size left) 146, DiskA D s, BuA P b]) ⟨fr_blk _ _ _, frs_p2 _ _ _ _⟩ h5 (Gr.refl _) (que_nil _) (fun b hb => hb.elim)
  rw [rdnew_eq] at h6 n5 n6 ⊢
  have h8 : stars (rol w.heap.size D P s b (rdc D P (newRs nm size left) (.slice none 0 0) (sumN (newRs nm size left).all) false) (.slice none 0 0) []) _ B6 := stars_perm ((List.Perm.swap _ _ _).trans (.cons _ (List.Perm.swap _ _ _))) h6
  exact ⟨B6, .inl ⟨rfl, _, h8⟩, n5.trans n6⟩
set_option maxHeartbeats 4000000 in
theorem rp_open (D P : Nat) (s : St) (b : Bu) (nm : ByteArray) (size : Int) (hsz : I64 size) (hs : s.ok) (hn : nm.size ≤ 24) (hm : rightB nm.data.toList = true) (hc : s.calls ≤ 100000000000) (w : World) (B : Nat → Prop) (h : stars [DiskA D s, BuA P b] w B) :
    Calls Tryz.prog 93 #[.pointer (some ⟨D, 0, none⟩), .pointer (some ⟨P, 0, none⟩), .string nm, .int .i64 size] w (RpMade D P w B nm size (openN s b nm size)) := by
  rw [begin_open]
  obtain ⟨R, hR⟩ : ∃ R, R = (if sizeB size = false then (s, b, 1, 0) else if ¬ b.takeE 4 = 0 then (s, b.take 4, b.takeE 4, 0) else if ¬ (beginN s nm size).2.1 = 0 then ((beginN s nm size).1, (b.take 4).give 4, (beginN s nm size).2.1, 0) else ((beginN s nm size).1, b.take 4, 0, (beginN s nm size).2.2) : St × Bu × Int × Nat) := ⟨_, rfl⟩
  rw [← hR]
  have CM := Lib.hid (room_c size hsz)
  have H := Lib.hid h
  clear h
  cases hz : sizeB size
  · have hr : roomN size = 0 := by unfold roomN; rw [if_neg (by rw [hz]; decide)]
    rw [if_pos hz] at hR
    subst hR
    rw [hr] at CM
    clear hz hr
    go_enter Tryz.func93, Tryz.ntmps93
    go_wp2_with fail
    refine (CM.out _).mono ?_; rintro e w1 ⟨rfl, rfl⟩
    go_wp2_with fail
    go_ret2
    exact .inr ⟨by simp, rfl, B, H.out, Nx.refl _ _⟩
  · have hzz : 1 ≤ size ∧ size ≤ 64 := by simpa [sizeB] using hz
    have hr : roomN size = 5 + 4 * size := by unfold roomN; rw [if_pos hz]
    obtain ⟨rm, hrm⟩ : ∃ rm, rm = roomN size := ⟨_, rfl⟩
    have hr0 : ¬ rm = 0 := by rw [hrm, hr]; omega
    rw [← hrm] at CM
    rw [if_neg (by rw [hz]; decide)] at hR
    obtain ⟨c1, hc1⟩ : ∃ c1, c1 = b.takeE 4 := ⟨_, rfl⟩
    obtain ⟨⟨s1, e1, lf⟩, hS1⟩ : ∃ X, X = beginN s nm size := ⟨_, rfl⟩
    rw [← hc1, ← hS1] at hR
    have CT := does_at (f := 91) 1 rfl (frs_p2 _ _ _ _) H.out fun B2 h2 => bu_take P b 4 w B2 h2
    rw [← hc1] at CT
    have CTH := Lib.hid CT
    have CLH := Lib.hid (fun u => clone_c nm u (by omega))
    have CG := Lib.hid (fun s2 w2 B2 (h2 : stars [DiskA D s2, BuA P (b.take 4)] w2 B2) => does_at (f := 92) (Q := BuA P ((b.take 4).give 4)) 1 rfl (frs_p2 _ _ _ _) h2 fun B3 h3 => bu_give P (b.take 4) 4 w2 B3 h3)
    have CB : ∀ q w2 B2, stars [Blk q (srcC D nm 0 0) 144, DiskA D s, BuA P (b.take 4)] w2 B2 → ∀ L', (e1 = 0 → L' = sdl q D nm 11 lf s1) → (¬ e1 = 0 → L' = [DiskA D s1]) → Calls Tryz.prog 111 #[.pointer (some ⟨q, 0, none⟩), .int .i64 size] w2 (Does w2 B2 (stars (L' ++ [BuA P (b.take 4)])) (.int .i64 e1)) := by
      intro q w2 B2 h2 L' k0 k1
      exact does_pre (sdl q D nm 0 0 s) (L' := L') (M := [BuA P (b.take 4)]) ⟨fr_bu _ _, trivial⟩ h2 fun B1 h1 => src_begin q D s nm size hs hn hm hc (s1, e1, lf) hS1 L' k0 k1 w2 B1 h1
    have CBH := Lib.hid CB
    have HR := Lib.hid hR
    clear CT CB hc1 hS1 hR hz hzz hr hrm hs hn hm hc hsz
    by_cases h1 : c1 = 0
    · subst h1
      by_cases h2 : e1 = 0
      · subst h2
        obtain rfl : R = (s1, b.take 4, 0, lf) := by have := HR.out; simpa using this
        clear HR
        go_enter Tryz.func93, Tryz.ntmps93
        go_wp2_with fail
        refine (CM.out _).mono ?_; rintro e w1 ⟨rfl, rfl⟩
        go_wp2_with fail
        refine CTH.out.mono ?_; rintro e w2 hd
        obtain ⟨rfl, B2, h2, n2⟩ := hd
        have H2 := Lib.hid h2
        have N2 := Lib.hid n2
        clear h2 n2 CTH
        go_wp2_with fail
        refine (CLH.out w2).mono ?_; rintro e u ⟨rfl, gu⟩
        have ga : Gr u (u.alloc (.cells (srcC D nm 0 0) 144)) := (Gr.refl u).alloc (Nat.le_refl _) _
        obtain ⟨B3, h3, n3⟩ := part_new (P := Blk u.heap.size (srcC D nm 0 0) 144) (L := [DiskA D s, BuA P (b.take 4)]) (B' := fun b => b = u.heap.size) (frs_p2 _ _ _ _) (stars_gr (frs_p2 _ _ _ _) H2.out gu) ga ⟨heap_alloc_new u _, fun _ => Iff.rfl⟩ (fun b hb => by omega)
        obtain ⟨V, hV⟩ : ∃ V, V = u.alloc (.cells (srcC D nm 0 0) 144) := ⟨_, rfl⟩
        rw [← hV] at h3 n3
        have CB1 := Lib.hid (CBH.out _ V B3 h3 (sdl u.heap.size D nm 11 lf s1) (fun _ => rfl) (fun k => (by simp at k)))
        have N3 := Lib.hid ((N2.out.trans (Nx.gr gu)).trans n3)
        have HV := Lib.hid (show V = u.alloc (.cells #[.pointer (some ⟨D, 0, none⟩), .string nm, .int .i64 0, .int .i64 0] 144) from hV)
        clear h3 n3 ga hV
        go_wp2_with fail
        rw [← HV.out]
        refine CB1.out.mono ?_; rintro e w4 hd
        obtain ⟨rfl, B4, h4, n4⟩ := hd
        obtain ⟨_, hbq, _⟩ := part_at 0 rfl h4
        have b0 : w4.cell? ⟨u.heap.size, 0, none⟩ = some (.pointer (some ⟨D, 0, none⟩)) := by rw [cells_at hbq.1]; rfl
        have b1 : w4.cell? ⟨u.heap.size, 1, none⟩ = some (.string nm) := by rw [cells_at hbq.1]; rfl
        have b2 : w4.cell? ⟨u.heap.size, 2, none⟩ = some (.int .i64 11) := by rw [cells_at hbq.1]; rfl
        have b3 : w4.cell? ⟨u.heap.size, 3, none⟩ = some (.int .i64 (lf : Nat)) := by rw [cells_at hbq.1]; rfl
        obtain ⟨B5, h5, n5⟩ := stars_drop (L := [DiskA D s1, BuA P (b.take 4)]) h4
        have H5 := Lib.hid h5
        have N5 := Lib.hid ((N3.out.trans n4).trans n5)
        clear h4 n4 h5 n5 hbq CB1
        go_wp2_with fail
        go_ret2
        obtain ⟨B6, h6, n6⟩ := rd_born (nm := nm) (size := size) (left := lf) H5.out
        exact .inl ⟨rfl, w4.heap.size, rfl, B6, h6, N5.out.trans n6⟩
      · have t1 : (e1 == 0) = false := by simpa using h2
        have t2 : (e1 != 0) = true := by simpa using h2
        have HE := Lib.hid h2
        obtain rfl : R = (s1, (b.take 4).give 4, e1, 0) := by have := HR.out; simpa [h2] using this
        clear h2 HR
        go_enter Tryz.func93, Tryz.ntmps93
        go_wp2_with fail
        refine (CM.out _).mono ?_; rintro e w1 ⟨rfl, rfl⟩
        go_wp2_with fail
        refine CTH.out.mono ?_; rintro e w2 hd
        obtain ⟨rfl, B2, h2, n2⟩ := hd
        have H2 := Lib.hid h2
        have N2 := Lib.hid n2
        clear h2 n2 CTH
        go_wp2_with fail
        refine (CLH.out w2).mono ?_; rintro e u ⟨rfl, gu⟩
        have ga : Gr u (u.alloc (.cells (srcC D nm 0 0) 144)) := (Gr.refl u).alloc (Nat.le_refl _) _
        obtain ⟨B3, h3, n3⟩ := part_new (P := Blk u.heap.size (srcC D nm 0 0) 144) (L := [DiskA D s, BuA P (b.take 4)]) (B' := fun b => b = u.heap.size) (frs_p2 _ _ _ _) (stars_gr (frs_p2 _ _ _ _) H2.out gu) ga ⟨heap_alloc_new u _, fun _ => Iff.rfl⟩ (fun b hb => by omega)
        obtain ⟨V, hV⟩ : ∃ V, V = u.alloc (.cells (srcC D nm 0 0) 144) := ⟨_, rfl⟩
        rw [← hV] at h3 n3
        have CB1 := Lib.hid (CBH.out _ V B3 h3 [DiskA D s1] (fun k => absurd k HE.out) (fun _ => rfl))
        have N3 := Lib.hid ((N2.out.trans (Nx.gr gu)).trans n3)
        have HV := Lib.hid (show V = u.alloc (.cells #[.pointer (some ⟨D, 0, none⟩), .string nm, .int .i64 0, .int .i64 0] 144) from hV)
        clear h3 n3 ga hV
        go_wp2_with fail
        rw [← HV.out]
        refine CB1.out.mono ?_; rintro e w4 hd
        obtain ⟨rfl, B4, h4, n4⟩ := hd
        have CG1 := Lib.hid (CG.out s1 w4 B4 h4)
        have N4 := Lib.hid (N3.out.trans n4)
        clear h4 n4 CB1
        go_wp2_with fail
        refine CG1.out.mono ?_; rintro e w5 hd
        obtain ⟨rfl, B5, h5, n5⟩ := hd
        have H5 := Lib.hid h5
        have N5 := Lib.hid (N4.out.trans n5)
        clear h5 n5 CG1
        go_wp2_with fail
        go_ret2
        exact .inr ⟨HE.out, rfl, B5, H5.out, N5.out⟩
    · have t1 : (c1 == 0) = false := by simpa using h1
      have t2 : (c1 != 0) = true := by simpa using h1
      have HE := Lib.hid h1
      obtain rfl : R = (s, b.take 4, c1, 0) := by have := HR.out; rwa [if_pos h1] at this
      clear h1 HR
      go_enter Tryz.func93, Tryz.ntmps93
      go_wp2_with fail
      refine (CM.out _).mono ?_; rintro e w1 ⟨rfl, rfl⟩
      go_wp2_with fail
      refine CTH.out.mono ?_; rintro e w2 hd
      obtain ⟨rfl, B2, h2, n2⟩ := hd
      have H2 := Lib.hid h2
      have N2 := Lib.hid n2
      clear h2 n2 CTH
      go_wp2_with fail
      go_ret2
      exact .inr ⟨HE.out, rfl, B2, H2.out, N2.out⟩
end Go.Proofs.YtjplkmmhjfpdaaaGreatDoor
/- The program's writer: where its bytes go (add, begin, end). -/
namespace Go.Proofs.YtjplkmmhjfpdaaaGreatDoor
open Go.RowKit FsPlain
set_option linter.unusedVariables false
set_option linter.unusedSimpArgs false
set_option maxRecDepth 20000
theorem snk_new (D : Nat) (nm : ByteArray) (w : World) : ∃ W, W = w.alloc (.cells #[.pointer (some ⟨D, 0, none⟩), .string nm] 171) ∧ Gr w W ∧ (∀ u, Gr W u → u.cell? ⟨w.heap.size, 0, none⟩ = some (.pointer (some ⟨D, 0, none⟩)) ∧ u.cell? ⟨w.heap.size, 1, none⟩ = some (.string nm)) ∧ w.heap.size < W.heap.size := by
  refine ⟨_, rfl, Below.alloc (Below.refl _ _) (Nat.le_refl _) _, fun u g => ?_, by rw [World.size_alloc]; omega⟩
  have hlt : w.heap.size < (w.alloc (.cells #[.pointer (some ⟨D, 0, none⟩), .string nm] 171)).heap.size := by rw [World.size_alloc]; omega
  constructor
  · rw [Below.cell g (p := ⟨w.heap.size, 0, none⟩) hlt, World.cell?_alloc_mark]; rfl
  · rw [Below.cell g (p := ⟨w.heap.size, 1, none⟩) hlt, World.cell?_alloc_mark]; rfl
theorem snk_add (D : Nat) (s : St) (nm t : ByteArray) (hn : nm.size ≤ 24) (hm : rightB nm.data.toList = true) (hc : s.calls ≤ 1000000000000) (ht : t.size ≤ 1000000000) (w : World) (B : Nat → Prop) (h : DiskA D s w B) :
    Calls Tryz.prog 172 #[.agg #[.pointer (some ⟨D, 0, none⟩), .string nm], .string t] w (Does w B (DiskA D (appendR s nm.data.toList t.data.toList).1) (.int .i64 (appendR s nm.data.toList t.data.toList).2)) := by
  obtain ⟨W, hW, g, k, hlt⟩ := snk_new D nm w
  obtain ⟨c0, c1⟩ := k _ (Gr.refl _)
  have C := Lib.hid (d_append D s nm t (by omega) hm hc ht W B (star_gr (fr_disk _ _) h g))
  have HW := Lib.hid hW
  have G := Lib.hid g
  clear hW h k g
  go_enter Tryz.func172, Tryz.ntmps172
  go_wp2_with fail
  rw [← HW.out]
  refine C.out.mono ?_; rintro e w2 hd
  obtain ⟨rfl, B2, h2, n2⟩ := hd
  have H2 := Lib.hid h2
  have N2 := Lib.hid ((Nx.gr (B := B) G.out).trans n2)
  clear h2 n2 C
  go_wp2_with fail
  go_ret
  exact ⟨rfl, B2, H2.out, N2.out⟩
def beginR (s : St) (n t : List UInt8) : St × Int := if (createR s n).2 = 0 then appendR (createR s n).1 n t else createR s n
theorem snk_begin (D : Nat) (s : St) (nm t : ByteArray) (hn : nm.size ≤ 24) (hm : rightB nm.data.toList = true) (hc : s.calls ≤ 1000000000000) (hcc : (createR s nm.data.toList).1.calls ≤ 1000000000000) (ht : t.size ≤ 1000000000) (w : World) (B : Nat → Prop) (h : DiskA D s w B) :
    Calls Tryz.prog 140 #[.agg #[.pointer (some ⟨D, 0, none⟩), .string nm], .string t] w (Does w B (DiskA D (beginR s nm.data.toList t.data.toList).1) (.int .i64 (beginR s nm.data.toList t.data.toList).2)) := by
  obtain ⟨W, hW, g, k, hlt⟩ := snk_new D nm w
  obtain ⟨c0, c1⟩ := k _ (Gr.refl _)
  have K := Lib.hid k
  have C := d_create D s nm (by omega) hm (by omega) W B (star_gr (fr_disk _ _) h g)
  obtain ⟨R, hR⟩ : ∃ R, R = beginR s nm.data.toList t.data.toList := ⟨_, rfl⟩
  rw [← hR]
  unfold beginR at hR
  obtain ⟨⟨s1, e1⟩, h1⟩ : ∃ X, X = createR s nm.data.toList := ⟨_, rfl⟩
  rw [← h1] at C hR hcc
  have CC := Lib.hid C
  have HW := Lib.hid hW
  have G := Lib.hid g
  have CA := Lib.hid (fun w2 B2 (h2 : DiskA D s1 w2 B2) => snk_add D s1 nm t hn hm hcc ht w2 B2 h2)
  have HR := Lib.hid hR
  have hnb : ¬ B w.heap.size := fun hb => by have := (fr_disk _ _).lo h _ hb; omega
  have HB := Lib.hid hnb
  clear hW h k g C h1 hR hnb
  by_cases h0 : e1 = 0
  · subst h0
    have hR := HR.out
    rw [if_pos rfl] at hR
    subst hR
    go_enter Tryz.func140, Tryz.ntmps140
    go_wp2_with fail
    rw [← HW.out]
    refine CC.out.mono ?_; rintro e w2 hd
    obtain ⟨rfl, B2, h2, n2⟩ := hd
    have C2 := Lib.hid (CA.out w2 B2 h2)
    have N2 := Lib.hid ((Nx.gr (B := B) G.out).trans n2)
    have d0 := (n2.only.cell (p := ⟨w.heap.size, 0, none⟩) hlt HB.out).trans c0
    have d1 := (n2.only.cell (p := ⟨w.heap.size, 1, none⟩) hlt HB.out).trans c1
    clear h2 n2 CC c0 c1
    go_wp2_with fail
    refine C2.out.mono ?_; rintro e w3 hd
    obtain ⟨rfl, B3, h3, n3⟩ := hd
    have H3 := Lib.hid h3
    have N3 := Lib.hid (N2.out.trans n3)
    clear h3 n3 C2
    go_wp2_with fail
    go_ret
    exact ⟨rfl, B3, H3.out, N3.out⟩
  · have t1 : (e1 == 0) = false := by simpa using h0
    have t2 : (e1 != 0) = true := by simpa using h0
    have hR := HR.out
    rw [if_neg h0] at hR
    subst hR
    clear h0
    go_enter Tryz.func140, Tryz.ntmps140
    go_wp2_with fail
    rw [← HW.out]
    refine CC.out.mono ?_; rintro e w2 hd
    obtain ⟨rfl, B2, h2, n2⟩ := hd
    have H2 := Lib.hid h2
    have N2 := Lib.hid ((Nx.gr (B := B) G.out).trans n2)
    clear h2 n2 CC
    go_wp2_with fail
    go_ret
    exact ⟨rfl, B2, H2.out, N2.out⟩
def endR (s : St) (n t : List UInt8) : St × Int := if (appendR s n t).2 = 0 then syncR (appendR s n t).1 n else appendR s n t
theorem snk_end (D : Nat) (s : St) (nm t : ByteArray) (hn : nm.size ≤ 24) (hm : rightB nm.data.toList = true) (hc : s.calls ≤ 1000000000000) (hcc : (appendR s nm.data.toList t.data.toList).1.calls ≤ 1000000000000) (ht : t.size ≤ 1000000000) (w : World) (B : Nat → Prop) (h : DiskA D s w B) :
    Calls Tryz.prog 175 #[.agg #[.pointer (some ⟨D, 0, none⟩), .string nm], .string t] w (Does w B (DiskA D (endR s nm.data.toList t.data.toList).1) (.int .i64 (endR s nm.data.toList t.data.toList).2)) := by
  obtain ⟨W, hW, g, k, hlt⟩ := snk_new D nm w
  obtain ⟨c0, c1⟩ := k _ (Gr.refl _)
  have C := snk_add D s nm t hn hm (by omega) ht W B (star_gr (fr_disk _ _) h g)
  obtain ⟨R, hR⟩ : ∃ R, R = endR s nm.data.toList t.data.toList := ⟨_, rfl⟩
  rw [← hR]
  unfold endR at hR
  obtain ⟨⟨s1, e1⟩, h1⟩ : ∃ X, X = appendR s nm.data.toList t.data.toList := ⟨_, rfl⟩
  rw [← h1] at C hR hcc
  have CC := Lib.hid C
  have HW := Lib.hid hW
  have G := Lib.hid g
  have CA := Lib.hid (fun w2 B2 (h2 : DiskA D s1 w2 B2) => d_sync D s1 nm (by omega) hm hcc w2 B2 h2)
  have HR := Lib.hid hR
  have hnb : ¬ B w.heap.size := fun hb => by have := (fr_disk _ _).lo h _ hb; omega
  have HB := Lib.hid hnb
  clear hW h k g C h1 hR hnb
  by_cases h0 : e1 = 0
  · subst h0
    have hR := HR.out
    rw [if_pos rfl] at hR
    subst hR
    go_enter Tryz.func175, Tryz.ntmps175
    go_wp2_with fail
    rw [← HW.out]
    refine CC.out.mono ?_; rintro e w2 hd
    obtain ⟨rfl, B2, h2, n2⟩ := hd
    have C2 := Lib.hid (CA.out w2 B2 h2)
    have N2 := Lib.hid ((Nx.gr (B := B) G.out).trans n2)
    have d0 := (n2.only.cell (p := ⟨w.heap.size, 0, none⟩) hlt HB.out).trans c0
    have d1 := (n2.only.cell (p := ⟨w.heap.size, 1, none⟩) hlt HB.out).trans c1
    clear h2 n2 CC c0 c1
    go_wp2_with fail
    refine C2.out.mono ?_; rintro e w3 hd
    obtain ⟨rfl, B3, h3, n3⟩ := hd
    have H3 := Lib.hid h3
    have N3 := Lib.hid (N2.out.trans n3)
    clear h3 n3 C2
    go_wp2_with fail
    go_ret
    exact ⟨rfl, B3, H3.out, N3.out⟩
  · have t1 : (e1 == 0) = false := by simpa using h0
    have t2 : (e1 != 0) = true := by simpa using h0
    have hR := HR.out
    rw [if_neg h0] at hR
    subst hR
    clear h0
    go_enter Tryz.func175, Tryz.ntmps175
    go_wp2_with fail
    rw [← HW.out]
    refine CC.out.mono ?_; rintro e w2 hd
    obtain ⟨rfl, B2, h2, n2⟩ := hd
    have H2 := Lib.hid h2
    have N2 := Lib.hid ((Nx.gr (B := B) G.out).trans n2)
    clear h2 n2 CC
    go_wp2_with fail
    go_ret
    exact ⟨rfl, B2, H2.out, N2.out⟩
end Go.Proofs.YtjplkmmhjfpdaaaGreatDoor
/- The program's writer: its parts, open, queue. -/
namespace Go.Proofs.YtjplkmmhjfpdaaaGreatDoor
open Go.RowKit FsPlain CrcPlain OctPlain FramePlain RecPlain WrPlain
set_option linter.unusedVariables false
set_option linter.unusedSimpArgs false
set_option maxRecDepth 20000
def wcells (D P : Nat) (y : Ws) (vw : Value) : Array Value := #[.pointer (some ⟨D, 0, none⟩), .string y.nm, .pointer (some ⟨P, 0, none⟩), .int .i64 y.size, vw, .int .i64 y.all.length, .int .u32 (sumN y.all : Nat)]
def wshut (n : Int) : Array Value := #[.pointer none, .string ⟨#[]⟩, .pointer none, .int .i64 0, .slice none 0 0, .int .i64 n, .int .u32 0]
def WrA (x D P : Nat) (y : Ws) : Asn := fun w B => (y.opn = true ∧ ∃ vw, stars [Blk x (wcells D P y vw) 173, RowA vw y.wait] w B) ∨ (y.opn = false ∧ Blk x (wshut y.all.length) 173 w B)
theorem frs_wi (x D P : Nat) (y : Ws) (vw : Value) : Frs [Blk x (wcells D P y vw) 173, RowA vw y.wait] := ⟨fr_blk _ _ _, fr_row _ _, trivial⟩
theorem fr_wr (x D P : Nat) (y : Ws) : Fr (WrA x D P y) where
  fr := fun h o d => by
    rcases h with ⟨h1, vw, h⟩ | ⟨h1, h⟩
    · exact .inl ⟨h1, vw, (fr_stars (frs_wi _ _ _ _ _)).fr h o d⟩
    · exact .inr ⟨h1, (fr_blk _ _ _).fr h o d⟩
  lo := fun h => by
    rcases h with ⟨h1, vw, h⟩ | ⟨h1, h⟩
    · exact (fr_stars (frs_wi _ _ _ _ _)).lo h
    · exact (fr_blk _ _ _).lo h
def W3 (x D P : Nat) (m : M3) : Asn := stars [WrA x D P m.x, DiskA D m.s, BuA P m.b]
theorem frs_w3 (x D P : Nat) (m : M3) : Frs [WrA x D P m.x, DiskA D m.s, BuA P m.b] := ⟨fr_wr _ _ _ _, fr_disk _ _, fr_bu _ _, trivial⟩
def wl (x D P : Nat) (s : St) (b : Bu) (c : Array Value) (vw : Value) (wait : List ByteArray) : List Asn := [Blk x c 173, RowA vw wait, DiskA D s, BuA P b]
theorem frs_wl (x D P : Nat) (s : St) (b : Bu) (c : Array Value) (vw : Value) (wait : List ByteArray) : Frs (wl x D P s b c vw wait) := ⟨fr_blk _ _ _, fr_row _ _, fr_disk _ _, fr_bu _ _, trivial⟩
def WO (x D P : Nat) (m : M3) : Asn := fun w B => ∃ vw, stars (wl x D P m.s m.b (wcells D P m.x vw) vw m.x.wait) w B
theorem w3_open {x D P : Nat} {m : M3} {w : World} {B : Nat → Prop} (ho : m.x.opn = true) (h : W3 x D P m w B) : WO x D P m w B := by
  obtain ⟨B1, B2, h1, h2, a, e⟩ := h
  rcases h1 with ⟨_, vw, h1⟩ | ⟨h1, _⟩
  · exact ⟨vw, stars_app.2 ⟨B1, B2, h1, h2, a, e⟩⟩
  · rw [ho] at h1; cases h1
theorem w3_close {x D P : Nat} {m : M3} {w : World} {B : Nat → Prop} (ho : m.x.opn = true) (h : WO x D P m w B) : W3 x D P m w B := by
  obtain ⟨vw, h⟩ := h
  obtain ⟨B1, B2, h1, h2, a, e⟩ := stars_app (L := [Blk x (wcells D P m.x vw) 173, RowA vw m.x.wait]).1 h
  exact ⟨B1, B2, .inl ⟨ho, vw, h1⟩, h2, a, e⟩
theorem w3_shut {x D P : Nat} {m : M3} {w : World} {B : Nat → Prop} (ho : m.x.opn = false) (h : W3 x D P m w B) : w.heap[x]? = some (.cells (wshut m.x.all.length) 173 (0, 0)) := by
  obtain ⟨B1, B2, h1, h2, a, e⟩ := h
  rcases h1 with ⟨h1, _⟩ | ⟨_, h1⟩
  · rw [ho] at h1; cases h1
  · exact h1.1
theorem wl_blk {x D P : Nat} {s : St} {b : Bu} {c : Array Value} {vw : Value} {wait : List ByteArray} {w : World} {B : Nat → Prop} (h : stars (wl x D P s b c vw wait) w B) : w.heap[x]? = some (.cells c 173 (0, 0)) := by
  obtain ⟨_, h, _⟩ := part_at 0 rfl h
  exact h.1
theorem fr_wo (x D P : Nat) (m : M3) : Fr (WO x D P m) := ⟨fun ⟨vw, h⟩ o d => ⟨vw, (fr_stars (frs_wl _ _ _ _ _ _ _ _)).fr h o d⟩, fun ⟨vw, h⟩ => (fr_stars (frs_wl _ _ _ _ _ _ _ _)).lo h⟩
theorem wl_set {x D P : Nat} {s : St} {b : Bu} {c c' : Array Value} {vw : Value} {wait : List ByteArray} {w : World} {B : Nat → Prop} (i : Nat) (u : Value) (h : stars (wl x D P s b c vw wait) w B) (hc : c.setIfInBounds i u = c') :
    ∃ B', stars (wl x D P s b c' vw wait) (w.setCell ⟨x, i, none⟩ u) B' ∧ Nx B w B' (w.setCell ⟨x, i, none⟩ u) :=
  step_at (Q := Blk x c' 173) 0 rfl (frs_wl _ _ _ _ _ _ _ _) h fun B1 h1 => by rw [← hc]; exact blk_next h1 u
theorem wl_wait {x D P : Nat} {s : St} {b : Bu} {c : Array Value} {vw v' : Value} {wait : List ByteArray} {r : ByteArray} {w w1 w' : World} {B : Nat → Prop} {n q : Nat} (h : stars (wl x D P s b c vw wait) w B) (hn : wait.length = n) (g : Gr w w1) (hq : q = w1.heap.size) (hown : w'.ownsRow 0 9 1 v' (n + 1) (strs wait ++ [.string r])) (hg : w1.grownBy w' vw.ownBlock) (hat : v'.ownBlock = vw.ownBlock ∨ v'.ownBlock = some q) :
    ∃ B', stars (wl x D P s b c v' (wait ++ [r])) w' B' ∧ Nx B w B' w' :=
  step_at (Q := RowA v' (wait ++ [r])) 1 rfl (frs_wl _ _ _ _ _ _ _ _) h fun B1 h1 => row_app h1 g (by rw [hn]; exact hown) hg (by rw [← hq]; exact hat)
theorem wl_none {x D P : Nat} {s : St} {b : Bu} {c : Array Value} {vw : Value} {wait : List ByteArray} {w : World} {B : Nat → Prop} (h : stars (wl x D P s b c vw wait) w B) :
    ∃ B', stars (wl x D P s b c (.slice none 0 0) []) w B' ∧ Nx B w B' w :=
  step_at (Q := RowA (.slice none 0 0) []) 1 rfl (frs_wl _ _ _ _ _ _ _ _) h fun B1 h1 => ⟨_, row_nil w, Only.refl _ _, fun b hb => hb.elim⟩
theorem wopen_yes (x : Nat) (v : Addr) (w : World) (c0 : w.cell? ⟨x, 0, none⟩ = some (.pointer (some v))) :
    Calls Tryz.prog 141 #[.pointer (some ⟨x, 0, none⟩)] w fun e w' => e = .returned (.bool true) ∧ w = w' := by
  go_enter Tryz.func141, Tryz.ntmps141
  go_wp2_with fail
  go_ret
  exact ⟨rfl, rfl⟩
theorem wopen_no (x : Nat) (w : World) (c0 : w.cell? ⟨x, 0, none⟩ = some (.pointer none)) :
    Calls Tryz.prog 141 #[.pointer (some ⟨x, 0, none⟩)] w fun e w' => e = .returned (.bool false) ∧ w = w' := by
  go_enter Tryz.func141, Tryz.ntmps141
  go_wp2_with fail
  go_ret
  exact ⟨rfl, rfl⟩
end Go.Proofs.YtjplkmmhjfpdaaaGreatDoor
/- The program's writer: queue. -/
namespace Go.Proofs.YtjplkmmhjfpdaaaGreatDoor
open Go.RowKit FsPlain CrcPlain OctPlain FramePlain RecPlain WrPlain
set_option linter.unusedVariables false
set_option linter.unusedSimpArgs false
set_option maxRecDepth 20000
set_option maxRecDepth 20000 in
set_option maxHeartbeats 2000000 in
theorem w_queue (x D P : Nat) (m : M3) (r : ByteArray) (hwl : m.x.wait.length ≤ 3) (hal : m.x.all.length ≤ 100000) (hz : r.size ≤ 64) (w : World) (B : Nat → Prop) (h : WO x D P m w B) :
    Calls Tryz.prog 142 #[.pointer (some ⟨x, 0, none⟩), .string r] w (Does w B (WO x D P ⟨m.s, m.b, m.x.put r⟩) (.tuple #[])) := by
  obtain ⟨vw, h⟩ := h
  obtain ⟨_, hrw, _⟩ := part_at 1 rfl h
  obtain ⟨i0, hi, hz0, hz1, hz2⟩ := info_parts infoS
  obtain ⟨aw, cw, rfl, _⟩ := rowE_shape hrw
  obtain ⟨n, hn⟩ : ∃ n, m.x.wait.length = n := ⟨_, rfl⟩
  obtain ⟨k, hk⟩ : ∃ k, m.x.all.length = k := ⟨_, rfl⟩
  have hb := wl_blk h
  have hxl := lt_of_block hb
  have c4 : w.cell? ⟨x, 4, none⟩ = some (.slice aw n cw) := by rw [cells_at hb, ← hn]; rfl
  have RWg : ∀ u, Gr w u → u.ownsRow 0 9 1 (.slice aw n cw) n (strs m.x.wait) := fun u g => by
    have := (star_gr (fr_row _ _) hrw g).1; rw [hn] at this; exact this
  have RW := Lib.hid RWg
  have HN := Lib.hid hn
  have HK := Lib.hid hk
  have H := Lib.hid h
  rw [hn] at hwl
  rw [hk] at hal
  have CLg : ∀ u, Gr w u → Calls Tryz.prog 62 #[.string r] u fun e w' => e = .returned (.string r) ∧ Gr w w' ∧ w'.cell? ⟨x, 4, none⟩ = some (.slice aw n cw) ∧ x < w'.heap.size := fun u g => (clone_c r u (by omega)).mono fun e w' ⟨he, g2⟩ => ⟨he, g.trans g2, ((g.trans g2).cell (p := ⟨x, 4, none⟩) hxl).trans c4, Nat.lt_of_lt_of_le hxl (g.trans g2).size⟩
  have CL := Lib.hid CLg
  have APg : ∀ u b1 cap1 w1, Gr w u → w1.ownsRow 0 9 1 (.slice (some ⟨b1, 0, none⟩) (n + 1) cap1) (n + 1) (strs m.x.wait ++ [.string r]) → (u.alloc (.cells #[.string r] 9)).grownBy w1 (Value.slice aw n cw).ownBlock → ((Value.slice aw n cw).ownBlock = some b1 ∨ b1 = (u.alloc (.cells #[.string r] 9)).heap.size) →
      ∃ B1, stars (wl x D P m.s m.b (wcells D P m.x (.slice aw m.x.wait.length cw)) (.slice (some ⟨b1, 0, none⟩) (n + 1) cap1) (m.x.wait ++ [r])) w1 B1 ∧ Nx B w B1 w1 := by
    intro u b1 cap1 w1 g o1 g1 a1
    refine wl_wait (H.out) HN.out (g.alloc g.size (.cells #[.string r] 9)) rfl o1 ?_ ?_
    · rw [HN.out]; exact g1
    · rw [HN.out]
      rcases a1 with a1 | a1
      · exact .inl a1.symm
      · exact .inr (by rw [← a1]; rfl)
  have AP := Lib.hid APg
  have FZg : ∀ u b1 cap1 w1, Gr w u → w1.ownsRow 0 9 1 (.slice (some ⟨b1, 0, none⟩) (n + 1) cap1) (n + 1) (strs m.x.wait ++ [.string r]) → (u.alloc (.cells #[.string r] 9)).grownBy w1 (Value.slice aw n cw).ownBlock → ((Value.slice aw n cw).ownBlock = some b1 ∨ b1 = (u.alloc (.cells #[.string r] 9)).heap.size) → w1.frozen? ⟨x, 4, none⟩ = false ∧ w1.cell? ⟨x, 4, none⟩ = some (.slice aw m.x.wait.length cw) := by
    intro u b1 cap1 w1 g o1 g1 a1
    obtain ⟨B1, h1, _⟩ := AP.out u b1 cap1 w1 g o1 g1 a1
    exact ⟨cells_free (wl_blk h1) 4, by rw [cells_at (wl_blk h1)]; rfl⟩
  have FZ := Lib.hid FZg
  have g0 : Gr w w.drew := (Gr.refl w).drew
  have hal' : (k : Int) ≤ 100000 := by omega
  clear h hrw hn hk RWg hb CLg APg FZg
  go_enter Tryz.func142, Tryz.ntmps142
  go_wp2_with fail
  go_region_law (first | (go_simp; go_at_call 62; ((with_reducible refine (CL.out _ (by assumption)).mono ?_); rintro e u ⟨rfl, gu, hu, hxu⟩)) | (refine step_append_lies _ rfl (.tmp 8) (.tmp 11) 22 rfl 0 9 i0 (.string ⟨#[]⟩) 1 16 Tryz.underlying22 hi hz0 hz1 hz2 rfl (by decide) (.slice aw n cw) n (strs m.x.wait) (by simp [Act.eval, Act.put]) (by have := RW.out _ (by assumption); exact this.alloc _) ⟨_, 0, none⟩ 1 1 [.string r] (by simp [Act.eval, Act.put]) rfl (cell_one_new _ _ _) (by simp [Value.oneCell']) (by omega) (by unfold maxLen; omega) (by omega) (Nat.zero_le _) _ rfl ?_; intro b1 cap1 w1 ho1 hg1 ha1 hl1; obtain ⟨hf1, hc1⟩ := FZ.out _ _ _ _ gu ho1 hg1 ha1))
  all_goals
    obtain ⟨B1, h1, n1⟩ := AP.out _ _ _ _ gu ho1 hg1 ha1
    obtain ⟨B2, h2, n2⟩ := wl_set (c' := wcells D P m.x (.slice (some ⟨b1, 0, none⟩) (n + 1) cap1)) 4 (.slice (some ⟨b1, 0, none⟩) (n + 1) cap1) h1 rfl
    obtain ⟨W, hW⟩ : ∃ W, W = w1.setCell ⟨x, 4, none⟩ (.slice (some ⟨b1, 0, none⟩) (n + 1) cap1) := ⟨_, rfl⟩
    rw [← hW] at h2 n2 ⊢
    have hb := wl_blk h2
    have c5 : W.cell? ⟨x, 5, none⟩ = some (.int .i64 k) := by rw [cells_at hb, ← HK.out]; rfl
    have f5 := cells_free hb 5
    obtain ⟨B3, h3, n3⟩ := wl_set (c' := (wcells D P m.x (.slice (some ⟨b1, 0, none⟩) (n + 1) cap1)).setIfInBounds 5 (.int .i64 ((k : Int) + 1))) 5 (.int .i64 ((k : Int) + 1)) h2 rfl
    obtain ⟨V, hV⟩ : ∃ V, V = W.setCell ⟨x, 5, none⟩ (.int .i64 ((k : Int) + 1)) := ⟨_, rfl⟩
    rw [← hV] at h3 n3
    have hb3 := wl_blk h3
    have d6 : W.cell? ⟨x, 6, none⟩ = some (.int .u32 (sumN m.x.all : Nat)) := by rw [cells_at hb]; rfl
    have CM := Lib.hid (more_c (sumN m.x.all) (sumN_lt _) r (by omega) V)
    have H3 := Lib.hid h3
    have N3 := Lib.hid ((n1.trans n2).trans n3)
    have HV := Lib.hid hV
    have hxV := lt_of_block hb3
    clear h1 h2 h3 n1 n2 n3 hb hb3 hW ho1 hg1 ha1 hl1 hf1 hc1 gu hu hxu hV
    go_wp2_with fail
    rw [← HV.out]
    refine CM.out.mono ?_; rintro e w3 ⟨rfl, g3⟩
    have h4 := stars_gr (frs_wl _ _ _ _ _ _ _ _) H3.out g3
    have hb4 := wl_blk h4
    have e6 : w3.cell? ⟨x, 6, none⟩ = some (.int .u32 (sumN m.x.all : Nat)) := by rw [cells_at hb4]; rfl
    have f6 := cells_free hb4 6
    have hs := sumN_snoc m.x.all r
    obtain ⟨z, hz⟩ : ∃ z, z = more (sumN m.x.all) r.data.toList := ⟨_, rfl⟩
    rw [← hz] at hs ⊢
    obtain ⟨B5, h5, n5⟩ := wl_set (c' := wcells D P (m.x.put r) (.slice (some ⟨b1, 0, none⟩) (n + 1) cap1)) 6 (.int .u32 (z : Nat)) h4 (by
      show #[_, _, _, _, _, _, _] = #[_, _, _, _, _, _, _]
      simp [Ws.put, HK.out, hs])
    have H5 := Lib.hid h5
    have N5 := Lib.hid ((N3.out.trans (Nx.gr g3)).trans n5)
    clear h4 h5 n5 hb4 g3 CM hz hs
    go_wp2_with fail
    go_end0
    exact ⟨rfl, B5, ⟨_, H5.out⟩, N5.out⟩
end Go.Proofs.YtjplkmmhjfpdaaaGreatDoor

/- In one text: Rd9, WrSink, WrPlain, WrPlain2. -/
import Derived.Test.YtpmglnghnelenaaGreatP18
import Derived.Test.YtpmglnghnelenaaGreatP13
import Derived.Test.YtpmglnghnelenaaGreatP08
import Derived.Test.YtpmglnghnelenaaGreatP00
import Derived.Test.YtpmglnghnelenaaGreatP07
import Derived.Test.YtpmglnghnelenaaGreatP04
/- The program's reader: Open. -/
namespace Go.Proofs.YtpmglnghnelenaaGreat
open Go.RowKit FsPlain CrcPlain OctPlain FramePlain RecPlain RdPlain
set_option linter.unusedVariables false
set_option linter.unusedSimpArgs false
set_option maxRecDepth 20000
/-- What the program's Open leaves. -/
def RpMade (D P : Nat) (w : World) (B : Nat → Prop) (nm : ByteArray) (size : Int) (R : St × Bu × Int × Nat) (e : Ending) (w' : World) : Prop :=
  (R.2.2.1 = 0 ∧ ∃ x, Does w B (RP3 x D P ⟨R.1, R.2.1, newRs nm size R.2.2.2⟩) (.tuple #[.pointer (some ⟨x, 0, none⟩), .int .i64 0]) e w') ∨
  (R.2.2.1 ≠ 0 ∧ Does w B (stars [DiskA D R.1, BuA P R.2.1]) (.tuple #[.pointer none, .int .i64 R.2.2.1]) e w')
theorem frs_p2 (D P : Nat) (s : St) (b : Bu) : Frs [DiskA D s, BuA P b] := ⟨fr_disk _ _, fr_bu _ _, trivial⟩
def rdnew (D P : Nat) (nm : ByteArray) (size : Int) (left : Nat) : Array Value := #[.pointer (some ⟨D, 0, none⟩), .string nm, .int .i64 11, .int .i64 (left : Nat), .pointer (some ⟨P, 0, none⟩), .int .i64 size, .slice none 0 0, .bool false, .int .i64 0, .int .u32 0, .bool false]
theorem rdnew_eq (D P : Nat) (nm : ByteArray) (size : Int) (left : Nat) : rdnew D P nm size left = rdc D P (newRs nm size left) (.slice none 0 0) (sumN (newRs nm size left).all) false := by
  show _ = rdc D P (newRs nm size left) (.slice none 0 0) (sumN []) false
  rw [sumN_nil]; rfl
/-- A new reader beside its disk and its budget. -/
theorem rd_born {D P : Nat} {s : St} {b : Bu} {nm : ByteArray} {size : Int} {left : Nat} {w : World} {B : Nat → Prop} (h : stars [DiskA D s, BuA P b] w B) :
    ∃ B', RP3 w.heap.size D P ⟨s, b, newRs nm size left⟩ (w.alloc (.cells (rdnew D P nm size left) 103)) B' ∧ Nx B w B' (w.alloc (.cells (rdnew D P nm size left) 103)) := by
  have ga : Gr w (w.alloc (.cells (rdnew D P nm size left) 103)) := (Gr.refl w).alloc (Nat.le_refl _) _
  obtain ⟨B5, h5, n5⟩ := part_new (P := Blk w.heap.size (rdnew D P nm size left) 103) (L := [DiskA D s, BuA P b]) (B' := fun b => b = w.heap.size) (frs_p2 _ _ _ _) h ga ⟨heap_alloc_new w _, fun _ => Iff.rfl⟩ (fun b hb => by omega)
  obtain ⟨B6, h6, n6⟩ := part_new (w' := w.alloc (.cells (rdnew D P nm size left) 103)) (P := QueA (.slice none 0 0) []) (L := [Blk w.heap.size (rdnew D P nm size left) 103, DiskA D s, BuA P b]) ⟨fr_blk _ _ _, frs_p2 _ _ _ _⟩ h5 (Gr.refl _) (que_nil _) (fun b hb => hb.elim)
  rw [rdnew_eq] at h6 n5 n6 ⊢
  have h8 : stars (rol w.heap.size D P s b (rdc D P (newRs nm size left) (.slice none 0 0) (sumN (newRs nm size left).all) false) (.slice none 0 0) []) _ B6 := stars_perm ((List.Perm.swap _ _ _).trans (.cons _ (List.Perm.swap _ _ _))) h6
  exact ⟨B6, .inl ⟨rfl, _, h8⟩, n5.trans n6⟩
set_option maxHeartbeats 4000000 in
theorem rp_open (D P : Nat) (s : St) (b : Bu) (nm : ByteArray) (size : Int) (hsz : I64 size) (hs : s.ok) (hn : nm.size ≤ 24) (hm : rightB nm.data.toList = true) (hc : s.calls ≤ 100000000000) (w : World) (B : Nat → Prop) (h : stars [DiskA D s, BuA P b] w B) :
    Calls Tryz.prog 28 #[.pointer (some ⟨D, 0, none⟩), .pointer (some ⟨P, 0, none⟩), .string nm, .int .i64 size] w (RpMade D P w B nm size (openN s b nm size)) := by
  rw [begin_open]
  obtain ⟨R, hR⟩ : ∃ R, R = (if sizeB size = false then (s, b, 1, 0) else if ¬ b.takeE 4 = 0 then (s, b.take 4, b.takeE 4, 0) else if ¬ (beginN s nm size).2.1 = 0 then ((beginN s nm size).1, (b.take 4).give 4, (beginN s nm size).2.1, 0) else ((beginN s nm size).1, b.take 4, 0, (beginN s nm size).2.2) : St × Bu × Int × Nat) := ⟨_, rfl⟩
  rw [← hR]
  have CM := Lib.hid (room_c size hsz)
  have H := Lib.hid h
  clear h
  cases hz : sizeB size
  · have hr : roomN size = 0 := by unfold roomN; rw [if_neg (by rw [hz]; decide)]
    rw [if_pos hz] at hR
    subst hR
    rw [hr] at CM
    clear hz hr
    go_enter Tryz.func28, Tryz.ntmps28
    go_wp2_with fail
    refine (CM.out _).mono ?_; rintro e w1 ⟨rfl, rfl⟩
    go_wp2_with fail
    go_ret2
    exact .inr ⟨by simp, rfl, B, H.out, Nx.refl _ _⟩
  · have hzz : 1 ≤ size ∧ size ≤ 64 := by simpa [sizeB] using hz
    have hr : roomN size = 5 + 4 * size := by unfold roomN; rw [if_pos hz]
    obtain ⟨rm, hrm⟩ : ∃ rm, rm = roomN size := ⟨_, rfl⟩
    have hr0 : ¬ rm = 0 := by rw [hrm, hr]; omega
    rw [← hrm] at CM
    rw [if_neg (by rw [hz]; decide)] at hR
    obtain ⟨c1, hc1⟩ : ∃ c1, c1 = b.takeE 4 := ⟨_, rfl⟩
    obtain ⟨⟨s1, e1, lf⟩, hS1⟩ : ∃ X, X = beginN s nm size := ⟨_, rfl⟩
    rw [← hc1, ← hS1] at hR
    have CT := does_at (f := 51) 1 rfl (frs_p2 _ _ _ _) H.out fun B2 h2 => bu_take P b 4 w B2 h2
    rw [← hc1] at CT
    have CTH := Lib.hid CT
    have CLH := Lib.hid (fun u => clone_c nm u (by omega))
    have CG := Lib.hid (fun s2 w2 B2 (h2 : stars [DiskA D s2, BuA P (b.take 4)] w2 B2) => does_at (f := 54) (Q := BuA P ((b.take 4).give 4)) 1 rfl (frs_p2 _ _ _ _) h2 fun B3 h3 => bu_give P (b.take 4) 4 w2 B3 h3)
    have CB : ∀ q w2 B2, stars [Blk q (srcC D nm 0 0) 101, DiskA D s, BuA P (b.take 4)] w2 B2 → ∀ L', (e1 = 0 → L' = sdl q D nm 11 lf s1) → (¬ e1 = 0 → L' = [DiskA D s1]) → Calls Tryz.prog 57 #[.pointer (some ⟨q, 0, none⟩), .int .i64 size] w2 (Does w2 B2 (stars (L' ++ [BuA P (b.take 4)])) (.int .i64 e1)) := by
      intro q w2 B2 h2 L' k0 k1
      exact does_pre (sdl q D nm 0 0 s) (L' := L') (M := [BuA P (b.take 4)]) ⟨fr_bu _ _, trivial⟩ h2 fun B1 h1 => src_begin q D s nm size hs hn hm hc (s1, e1, lf) hS1 L' k0 k1 w2 B1 h1
    have CBH := Lib.hid CB
    have HR := Lib.hid hR
    clear CT CB hc1 hS1 hR hz hzz hr hrm hs hn hm hc hsz
    by_cases h1 : c1 = 0
    · subst h1
      by_cases h2 : e1 = 0
      · subst h2
        obtain rfl : R = (s1, b.take 4, 0, lf) := by have := HR.out; simpa using this
        clear HR
        go_enter Tryz.func28, Tryz.ntmps28
        go_wp2_with fail
        refine (CM.out _).mono ?_; rintro e w1 ⟨rfl, rfl⟩
        go_wp2_with fail
        refine CTH.out.mono ?_; rintro e w2 hd
        obtain ⟨rfl, B2, h2, n2⟩ := hd
        have H2 := Lib.hid h2
        have N2 := Lib.hid n2
        clear h2 n2 CTH
        go_wp2_with fail
        refine (CLH.out w2).mono ?_; rintro e u ⟨rfl, gu⟩
        have ga : Gr u (u.alloc (.cells (srcC D nm 0 0) 101)) := (Gr.refl u).alloc (Nat.le_refl _) _
        obtain ⟨B3, h3, n3⟩ := part_new (P := Blk u.heap.size (srcC D nm 0 0) 101) (L := [DiskA D s, BuA P (b.take 4)]) (B' := fun b => b = u.heap.size) (frs_p2 _ _ _ _) (stars_gr (frs_p2 _ _ _ _) H2.out gu) ga ⟨heap_alloc_new u _, fun _ => Iff.rfl⟩ (fun b hb => by omega)
        obtain ⟨V, hV⟩ : ∃ V, V = u.alloc (.cells (srcC D nm 0 0) 101) := ⟨_, rfl⟩
        rw [← hV] at h3 n3
        have CB1 := Lib.hid (CBH.out _ V B3 h3 (sdl u.heap.size D nm 11 lf s1) (fun _ => rfl) (fun k => (by simp at k)))
        have N3 := Lib.hid ((N2.out.trans (Nx.gr gu)).trans n3)
        have HV := Lib.hid (show V = u.alloc (.cells #[.pointer (some ⟨D, 0, none⟩), .string nm, .int .i64 0, .int .i64 0] 101) from hV)
        clear h3 n3 ga hV
        go_wp2_with fail
        rw [← HV.out]
        refine CB1.out.mono ?_; rintro e w4 hd
        obtain ⟨rfl, B4, h4, n4⟩ := hd
        obtain ⟨_, hbq, _⟩ := part_at 0 rfl h4
        have b0 : w4.cell? ⟨u.heap.size, 0, none⟩ = some (.pointer (some ⟨D, 0, none⟩)) := by rw [cells_at hbq.1]; rfl
        have b1 : w4.cell? ⟨u.heap.size, 1, none⟩ = some (.string nm) := by rw [cells_at hbq.1]; rfl
        have b2 : w4.cell? ⟨u.heap.size, 2, none⟩ = some (.int .i64 11) := by rw [cells_at hbq.1]; rfl
        have b3 : w4.cell? ⟨u.heap.size, 3, none⟩ = some (.int .i64 (lf : Nat)) := by rw [cells_at hbq.1]; rfl
        obtain ⟨B5, h5, n5⟩ := stars_drop (L := [DiskA D s1, BuA P (b.take 4)]) h4
        have H5 := Lib.hid h5
        have N5 := Lib.hid ((N3.out.trans n4).trans n5)
        clear h4 n4 h5 n5 hbq CB1
        go_wp2_with fail
        go_ret2
        obtain ⟨B6, h6, n6⟩ := rd_born (nm := nm) (size := size) (left := lf) H5.out
        exact .inl ⟨rfl, w4.heap.size, rfl, B6, h6, N5.out.trans n6⟩
      · have t1 : (e1 == 0) = false := by simpa using h2
        have t2 : (e1 != 0) = true := by simpa using h2
        have HE := Lib.hid h2
        obtain rfl : R = (s1, (b.take 4).give 4, e1, 0) := by have := HR.out; simpa [h2] using this
        clear h2 HR
        go_enter Tryz.func28, Tryz.ntmps28
        go_wp2_with fail
        refine (CM.out _).mono ?_; rintro e w1 ⟨rfl, rfl⟩
        go_wp2_with fail
        refine CTH.out.mono ?_; rintro e w2 hd
        obtain ⟨rfl, B2, h2, n2⟩ := hd
        have H2 := Lib.hid h2
        have N2 := Lib.hid n2
        clear h2 n2 CTH
        go_wp2_with fail
        refine (CLH.out w2).mono ?_; rintro e u ⟨rfl, gu⟩
        have ga : Gr u (u.alloc (.cells (srcC D nm 0 0) 101)) := (Gr.refl u).alloc (Nat.le_refl _) _
        obtain ⟨B3, h3, n3⟩ := part_new (P := Blk u.heap.size (srcC D nm 0 0) 101) (L := [DiskA D s, BuA P (b.take 4)]) (B' := fun b => b = u.heap.size) (frs_p2 _ _ _ _) (stars_gr (frs_p2 _ _ _ _) H2.out gu) ga ⟨heap_alloc_new u _, fun _ => Iff.rfl⟩ (fun b hb => by omega)
        obtain ⟨V, hV⟩ : ∃ V, V = u.alloc (.cells (srcC D nm 0 0) 101) := ⟨_, rfl⟩
        rw [← hV] at h3 n3
        have CB1 := Lib.hid (CBH.out _ V B3 h3 [DiskA D s1] (fun k => absurd k HE.out) (fun _ => rfl))
        have N3 := Lib.hid ((N2.out.trans (Nx.gr gu)).trans n3)
        have HV := Lib.hid (show V = u.alloc (.cells #[.pointer (some ⟨D, 0, none⟩), .string nm, .int .i64 0, .int .i64 0] 101) from hV)
        clear h3 n3 ga hV
        go_wp2_with fail
        rw [← HV.out]
        refine CB1.out.mono ?_; rintro e w4 hd
        obtain ⟨rfl, B4, h4, n4⟩ := hd
        have CG1 := Lib.hid (CG.out s1 w4 B4 h4)
        have N4 := Lib.hid (N3.out.trans n4)
        clear h4 n4 CB1
        go_wp2_with fail
        refine CG1.out.mono ?_; rintro e w5 hd
        obtain ⟨rfl, B5, h5, n5⟩ := hd
        have H5 := Lib.hid h5
        have N5 := Lib.hid (N4.out.trans n5)
        clear h5 n5 CG1
        go_wp2_with fail
        go_ret2
        exact .inr ⟨HE.out, rfl, B5, H5.out, N5.out⟩
    · have t1 : (c1 == 0) = false := by simpa using h1
      have t2 : (c1 != 0) = true := by simpa using h1
      have HE := Lib.hid h1
      obtain rfl : R = (s, b.take 4, c1, 0) := by have := HR.out; rwa [if_pos h1] at this
      clear h1 HR
      go_enter Tryz.func28, Tryz.ntmps28
      go_wp2_with fail
      refine (CM.out _).mono ?_; rintro e w1 ⟨rfl, rfl⟩
      go_wp2_with fail
      refine CTH.out.mono ?_; rintro e w2 hd
      obtain ⟨rfl, B2, h2, n2⟩ := hd
      have H2 := Lib.hid h2
      have N2 := Lib.hid n2
      clear h2 n2 CTH
      go_wp2_with fail
      go_ret2
      exact .inr ⟨HE.out, rfl, B2, H2.out, N2.out⟩
end Go.Proofs.YtpmglnghnelenaaGreat
/- The program's writer: where its bytes go (add, begin, end). -/
namespace Go.Proofs.YtpmglnghnelenaaGreat
open Go.RowKit FsPlain
set_option linter.unusedVariables false
set_option linter.unusedSimpArgs false
set_option maxRecDepth 20000
def snk (D : Nat) (nm : ByteArray) : Value := .agg #[.pointer (some ⟨D, 0, none⟩), .string nm]
/-- A variable for it: a new block. -/
theorem snk_new (D : Nat) (nm : ByteArray) (w : World) : ∃ W, W = w.alloc (.cells #[.pointer (some ⟨D, 0, none⟩), .string nm] 95) ∧ Gr w W ∧ (∀ u, Gr W u → u.cell? ⟨w.heap.size, 0, none⟩ = some (.pointer (some ⟨D, 0, none⟩)) ∧ u.cell? ⟨w.heap.size, 1, none⟩ = some (.string nm)) ∧ w.heap.size < W.heap.size := by
  refine ⟨_, rfl, Below.alloc (Below.refl _ _) (Nat.le_refl _) _, fun u g => ?_, by rw [World.size_alloc]; omega⟩
  have hlt : w.heap.size < (w.alloc (.cells #[.pointer (some ⟨D, 0, none⟩), .string nm] 95)).heap.size := by rw [World.size_alloc]; omega
  constructor
  · rw [Below.cell g (p := ⟨w.heap.size, 0, none⟩) hlt, World.cell?_alloc_mark]; rfl
  · rw [Below.cell g (p := ⟨w.heap.size, 1, none⟩) hlt, World.cell?_alloc_mark]; rfl
theorem snk_add (D : Nat) (s : St) (nm t : ByteArray) (hn : nm.size ≤ 24) (hm : rightB nm.data.toList = true) (hc : s.calls ≤ 1000000000000) (ht : t.size ≤ 1000000000) (w : World) (B : Nat → Prop) (h : DiskA D s w B) :
    Calls Tryz.prog 78 #[.agg #[.pointer (some ⟨D, 0, none⟩), .string nm], .string t] w (Does w B (DiskA D (appendR s nm.data.toList t.data.toList).1) (.int .i64 (appendR s nm.data.toList t.data.toList).2)) := by
  obtain ⟨W, hW, g, k, hlt⟩ := snk_new D nm w
  obtain ⟨c0, c1⟩ := k _ (Gr.refl _)
  have C := Lib.hid (d_append D s nm t (by omega) hm hc ht W B (star_gr (fr_disk _ _) h g))
  have HW := Lib.hid hW
  have G := Lib.hid g
  clear hW h k g
  go_enter Tryz.func78, Tryz.ntmps78
  go_wp2_with fail
  rw [← HW.out]
  refine C.out.mono ?_; rintro e w2 hd
  obtain ⟨rfl, B2, h2, n2⟩ := hd
  have H2 := Lib.hid h2
  have N2 := Lib.hid ((Nx.gr (B := B) G.out).trans n2)
  clear h2 n2 C
  go_wp2_with fail
  go_ret
  exact ⟨rfl, B2, H2.out, N2.out⟩
/-- What begin makes of a disk. -/
def beginR (s : St) (n t : List UInt8) : St × Int := if (createR s n).2 = 0 then appendR (createR s n).1 n t else createR s n
theorem snk_begin (D : Nat) (s : St) (nm t : ByteArray) (hn : nm.size ≤ 24) (hm : rightB nm.data.toList = true) (hc : s.calls ≤ 1000000000000) (hcc : (createR s nm.data.toList).1.calls ≤ 1000000000000) (ht : t.size ≤ 1000000000) (w : World) (B : Nat → Prop) (h : DiskA D s w B) :
    Calls Tryz.prog 53 #[.agg #[.pointer (some ⟨D, 0, none⟩), .string nm], .string t] w (Does w B (DiskA D (beginR s nm.data.toList t.data.toList).1) (.int .i64 (beginR s nm.data.toList t.data.toList).2)) := by
  obtain ⟨W, hW, g, k, hlt⟩ := snk_new D nm w
  obtain ⟨c0, c1⟩ := k _ (Gr.refl _)
  have K := Lib.hid k
  have C := d_create D s nm (by omega) hm (by omega) W B (star_gr (fr_disk _ _) h g)
  obtain ⟨R, hR⟩ : ∃ R, R = beginR s nm.data.toList t.data.toList := ⟨_, rfl⟩
  rw [← hR]
  unfold beginR at hR
  obtain ⟨⟨s1, e1⟩, h1⟩ : ∃ X, X = createR s nm.data.toList := ⟨_, rfl⟩
  rw [← h1] at C hR hcc
  have CC := Lib.hid C
  have HW := Lib.hid hW
  have G := Lib.hid g
  have CA := Lib.hid (fun w2 B2 (h2 : DiskA D s1 w2 B2) => snk_add D s1 nm t hn hm hcc ht w2 B2 h2)
  have HR := Lib.hid hR
  have hnb : ¬ B w.heap.size := fun hb => by have := (fr_disk _ _).lo h _ hb; omega
  have HB := Lib.hid hnb
  clear hW h k g C h1 hR hnb
  by_cases h0 : e1 = 0
  · subst h0
    have hR := HR.out
    rw [if_pos rfl] at hR
    subst hR
    go_enter Tryz.func53, Tryz.ntmps53
    go_wp2_with fail
    rw [← HW.out]
    refine CC.out.mono ?_; rintro e w2 hd
    obtain ⟨rfl, B2, h2, n2⟩ := hd
    have C2 := Lib.hid (CA.out w2 B2 h2)
    have N2 := Lib.hid ((Nx.gr (B := B) G.out).trans n2)
    have d0 := (n2.only.cell (p := ⟨w.heap.size, 0, none⟩) hlt HB.out).trans c0
    have d1 := (n2.only.cell (p := ⟨w.heap.size, 1, none⟩) hlt HB.out).trans c1
    clear h2 n2 CC c0 c1
    go_wp2_with fail
    refine C2.out.mono ?_; rintro e w3 hd
    obtain ⟨rfl, B3, h3, n3⟩ := hd
    have H3 := Lib.hid h3
    have N3 := Lib.hid (N2.out.trans n3)
    clear h3 n3 C2
    go_wp2_with fail
    go_ret
    exact ⟨rfl, B3, H3.out, N3.out⟩
  · have t1 : (e1 == 0) = false := by simpa using h0
    have t2 : (e1 != 0) = true := by simpa using h0
    have hR := HR.out
    rw [if_neg h0] at hR
    subst hR
    clear h0
    go_enter Tryz.func53, Tryz.ntmps53
    go_wp2_with fail
    rw [← HW.out]
    refine CC.out.mono ?_; rintro e w2 hd
    obtain ⟨rfl, B2, h2, n2⟩ := hd
    have H2 := Lib.hid h2
    have N2 := Lib.hid ((Nx.gr (B := B) G.out).trans n2)
    clear h2 n2 CC
    go_wp2_with fail
    go_ret
    exact ⟨rfl, B2, H2.out, N2.out⟩
/-- What end makes of a disk. -/
def endR (s : St) (n t : List UInt8) : St × Int := if (appendR s n t).2 = 0 then syncR (appendR s n t).1 n else appendR s n t
theorem snk_end (D : Nat) (s : St) (nm t : ByteArray) (hn : nm.size ≤ 24) (hm : rightB nm.data.toList = true) (hc : s.calls ≤ 1000000000000) (hcc : (appendR s nm.data.toList t.data.toList).1.calls ≤ 1000000000000) (ht : t.size ≤ 1000000000) (w : World) (B : Nat → Prop) (h : DiskA D s w B) :
    Calls Tryz.prog 92 #[.agg #[.pointer (some ⟨D, 0, none⟩), .string nm], .string t] w (Does w B (DiskA D (endR s nm.data.toList t.data.toList).1) (.int .i64 (endR s nm.data.toList t.data.toList).2)) := by
  obtain ⟨W, hW, g, k, hlt⟩ := snk_new D nm w
  obtain ⟨c0, c1⟩ := k _ (Gr.refl _)
  have C := snk_add D s nm t hn hm (by omega) ht W B (star_gr (fr_disk _ _) h g)
  obtain ⟨R, hR⟩ : ∃ R, R = endR s nm.data.toList t.data.toList := ⟨_, rfl⟩
  rw [← hR]
  unfold endR at hR
  obtain ⟨⟨s1, e1⟩, h1⟩ : ∃ X, X = appendR s nm.data.toList t.data.toList := ⟨_, rfl⟩
  rw [← h1] at C hR hcc
  have CC := Lib.hid C
  have HW := Lib.hid hW
  have G := Lib.hid g
  have CA := Lib.hid (fun w2 B2 (h2 : DiskA D s1 w2 B2) => d_sync D s1 nm (by omega) hm hcc w2 B2 h2)
  have HR := Lib.hid hR
  have hnb : ¬ B w.heap.size := fun hb => by have := (fr_disk _ _).lo h _ hb; omega
  have HB := Lib.hid hnb
  clear hW h k g C h1 hR hnb
  by_cases h0 : e1 = 0
  · subst h0
    have hR := HR.out
    rw [if_pos rfl] at hR
    subst hR
    go_enter Tryz.func92, Tryz.ntmps92
    go_wp2_with fail
    rw [← HW.out]
    refine CC.out.mono ?_; rintro e w2 hd
    obtain ⟨rfl, B2, h2, n2⟩ := hd
    have C2 := Lib.hid (CA.out w2 B2 h2)
    have N2 := Lib.hid ((Nx.gr (B := B) G.out).trans n2)
    have d0 := (n2.only.cell (p := ⟨w.heap.size, 0, none⟩) hlt HB.out).trans c0
    have d1 := (n2.only.cell (p := ⟨w.heap.size, 1, none⟩) hlt HB.out).trans c1
    clear h2 n2 CC c0 c1
    go_wp2_with fail
    refine C2.out.mono ?_; rintro e w3 hd
    obtain ⟨rfl, B3, h3, n3⟩ := hd
    have H3 := Lib.hid h3
    have N3 := Lib.hid (N2.out.trans n3)
    clear h3 n3 C2
    go_wp2_with fail
    go_ret
    exact ⟨rfl, B3, H3.out, N3.out⟩
  · have t1 : (e1 == 0) = false := by simpa using h0
    have t2 : (e1 != 0) = true := by simpa using h0
    have hR := HR.out
    rw [if_neg h0] at hR
    subst hR
    clear h0
    go_enter Tryz.func92, Tryz.ntmps92
    go_wp2_with fail
    rw [← HW.out]
    refine CC.out.mono ?_; rintro e w2 hd
    obtain ⟨rfl, B2, h2, n2⟩ := hd
    have H2 := Lib.hid h2
    have N2 := Lib.hid ((Nx.gr (B := B) G.out).trans n2)
    clear h2 n2 CC
    go_wp2_with fail
    go_ret
    exact ⟨rfl, B2, H2.out, N2.out⟩
end Go.Proofs.YtpmglnghnelenaaGreat
/- Plain facts on a writer of records, without the model: what each call makes of the disk, the budget and the writer. -/
namespace Go.Proofs.YtpmglnghnelenaaGreat
open Go.RowKit FsPlain CrcPlain OctPlain FramePlain RecPlain
set_option linter.unusedVariables false
set_option linter.unusedSimpArgs false
set_option maxRecDepth 20000
namespace WrPlain
/-- A writer: its file's name, its records' size, those that wait, all that were put, whether it is open. -/
structure Ws where
  nm : ByteArray
  size : Int
  wait : List ByteArray
  all : List ByteArray
  opn : Bool
/-- A disk, a budget, a writer. -/
structure M3 where
  s : St
  b : Bu
  x : Ws
def dropM (m : M3) : M3 := if m.x.opn = true then ⟨m.s, m.b.give 4, { m.x with opn := false }⟩ else m
/-- An append, and what it tells; with an error the writer is not open any more. -/
def layM (m : M3) (t : ByteArray) : M3 × Int :=
  if (appendR m.s m.x.nm.data.toList t.data.toList).2 = 0 then (⟨(appendR m.s m.x.nm.data.toList t.data.toList).1, m.b, m.x⟩, 0)
  else (dropM ⟨(appendR m.s m.x.nm.data.toList t.data.toList).1, m.b, m.x⟩, (appendR m.s m.x.nm.data.toList t.data.toList).2)
/-- The writer behind a record that may be. -/
def Ws.put (x : Ws) (r : ByteArray) : Ws := { x with wait := x.wait ++ [r], all := x.all ++ [r] }
def Ws.none (x : Ws) : Ws := { x with wait := [] }
def putM (m : M3) (r : ByteArray) : M3 × Int :=
  if m.x.opn = false then (m, 14)
  else if ¬ (r.size : Int) = m.x.size then (m, 1)
  else if m.x.wait.length < 3 then (⟨m.s, m.b, m.x.put r⟩, 0)
  else layM ⟨m.s, m.b, (m.x.put r).none⟩ (blkS m.x.size (m.x.wait ++ [r]))
/-- The first step of a close: those that wait. -/
def flushM (m : M3) : M3 × Int := if m.x.wait.length = 0 then (m, 0) else layM m (blkS m.x.size m.x.wait)
def endM (m : M3) : M3 × Int := layM m (peS m.x.all.length (sumN m.x.all))
def syncM (m : M3) : M3 × Int := (⟨(syncR m.s m.x.nm.data.toList).1, m.b, m.x⟩, (syncR m.s m.x.nm.data.toList).2)
/-- What a close leaves, and its error. -/
def closeM (m : M3) : M3 × Int :=
  if m.x.opn = false then (m, 14)
  else if ¬ (flushM m).2 = 0 then flushM m
  else if ¬ (endM (flushM m).1).2 = 0 then (dropM (endM (flushM m).1).1, (endM (flushM m).1).2)
  else (dropM (syncM (endM (flushM m).1).1).1, (syncM (endM (flushM m).1).1).2)
/-- What holds of a writer on the way. -/
structure M3.ok (m : M3) : Prop where
  s : m.s.ok
  b : m.b.ok
  n1 : m.x.nm.size ≤ 24
  n2 : rightB m.x.nm.data.toList = true
  z : sizeB m.x.size = true
  wl : m.x.wait.length ≤ 3
  wz : ∀ r ∈ m.x.wait, (r.size : Int) = m.x.size
  az : ∀ r ∈ m.x.all, (r.size : Int) = m.x.size
theorem ok_append {s : St} (h : s.ok) (n t : List UInt8) : (appendR s n t).1.ok := by
  unfold appendR
  have hc := ok_call h
  split
  · exact hc
  · cases hg : s.get n with
    | none => exact hc
    | some f =>
      simp only []
      split
      · exact hc
      · rename_i hu
        have hk := h.k f (get_mem hg)
        refine ok_upd (s := s.call) hc (n := n) (f := f) hg (g := fun f => { f with data := f.data ++ t }) rfl ?_ ?_
        · show f.kept ≤ (f.data ++ t).length; rw [List.length_append]; omega
        · show (used s.fs : Int) + ((f.data ++ t).length : Int) ≤ s.room + f.data.length; rw [List.length_append]; omega
theorem ok_sync {s : St} (h : s.ok) (n : List UInt8) : (syncR s n).1.ok := by
  unfold syncR
  have hc := ok_call h
  split
  · exact hc
  · cases hg : s.get n with
    | none => exact hc
    | some f =>
      simp only []
      refine ok_upd (s := s.call) hc (n := n) (f := f) hg (g := fun f => { f with kept := f.data.length }) rfl (Nat.le_refl _) ?_
      show (used s.fs : Int) + (f.data.length : Int) ≤ s.room + f.data.length
      have := h.u; omega
theorem append_calls (s : St) (n t : List UInt8) : (appendR s n t).1.calls = s.calls + 1 := by
  unfold appendR
  split
  · rfl
  · cases s.get n with
    | none => rfl
    | some f => simp only []; split <;> rfl
theorem sync_calls (s : St) (n : List UInt8) : (syncR s n).1.calls = s.calls + 1 := by
  unfold syncR
  split
  · rfl
  · cases s.get n <;> rfl
theorem ok_dropM {m : M3} (h : m.ok) : (dropM m).ok := by
  unfold dropM
  split
  · exact ⟨h.s, Bu.give_ok h.b 4, h.n1, h.n2, h.z, h.wl, h.wz, h.az⟩
  · exact h
theorem dropM_calls (m : M3) : (dropM m).s.calls = m.s.calls := by unfold dropM; split <;> rfl
theorem ok_layM {m : M3} (h : m.ok) (t : ByteArray) : (layM m t).1.ok := by
  have hs := ok_append h.s m.x.nm.data.toList t.data.toList
  unfold layM
  split
  · exact ⟨hs, h.b, h.n1, h.n2, h.z, h.wl, h.wz, h.az⟩
  · exact ok_dropM ⟨hs, h.b, h.n1, h.n2, h.z, h.wl, h.wz, h.az⟩
theorem layM_calls (m : M3) (t : ByteArray) : (layM m t).1.s.calls = m.s.calls + 1 := by
  unfold layM
  split
  · exact append_calls _ _ _
  · rw [dropM_calls]; exact append_calls _ _ _
theorem ok_putM {m : M3} (h : m.ok) (r : ByteArray) : (putM m r).1.ok := by
  unfold putM
  split
  · exact h
  · split
    · exact h
    · rename_i hz
      have hz' : (r.size : Int) = m.x.size := by omega
      have az : ∀ q ∈ m.x.all ++ [r], (q.size : Int) = m.x.size := fun q hq => by
        rcases List.mem_append.1 hq with hq | hq
        · exact h.az q hq
        · rw [List.mem_singleton.1 hq]; exact hz'
      split
      · refine ⟨h.s, h.b, h.n1, h.n2, h.z, ?_, ?_, az⟩
        · show (m.x.wait ++ [r]).length ≤ 3; rw [List.length_append, List.length_singleton]; omega
        · intro q hq
          rcases List.mem_append.1 hq with hq | hq
          · exact h.wz q hq
          · rw [List.mem_singleton.1 hq]; exact hz'
      · exact ok_layM (m := ⟨m.s, m.b, (m.x.put r).none⟩) ⟨h.s, h.b, h.n1, h.n2, h.z, Nat.zero_le _, (fun q hq => by cases hq), az⟩ _
theorem putM_calls (m : M3) (r : ByteArray) : (putM m r).1.s.calls ≤ m.s.calls + 1 := by
  unfold putM
  split
  · show m.s.calls ≤ _; omega
  · split
    · show m.s.calls ≤ _; omega
    · split
      · show m.s.calls ≤ _; omega
      · rw [layM_calls]; exact Int.le_refl _
theorem putM_all (m : M3) (r : ByteArray) : (putM m r).1.x.all.length ≤ m.x.all.length + 1 := by
  unfold putM
  split
  · show m.x.all.length ≤ _; omega
  · split
    · show m.x.all.length ≤ _; omega
    · split
      · show (m.x.all ++ [r]).length ≤ _; simp
      · have : ∀ (m : M3) t, (layM m t).1.x.all = m.x.all := fun m t => by
          unfold layM dropM
          split
          · rfl
          · split <;> rfl
        rw [this]; show (m.x.all ++ [r]).length ≤ _; simp
end WrPlain
end Go.Proofs.YtpmglnghnelenaaGreat
/- Plain facts on a writer that is made. -/
namespace Go.Proofs.YtpmglnghnelenaaGreat
open Go.RowKit FsPlain CrcPlain OctPlain FramePlain RecPlain
set_option linter.unusedVariables false
set_option linter.unusedSimpArgs false
set_option maxRecDepth 20000
namespace WrPlain
def newWs (nm : ByteArray) (size : Int) : Ws := ⟨nm, size, [], [], true⟩
/-- What Create leaves of the disk and the budget, and its error. -/
def createM (s : St) (b : Bu) (nm : ByteArray) (size : Int) : St × Bu × Int :=
  if sizeB size = false then (s, b, 1)
  else if ¬ b.takeE 4 = 0 then (s, b.take 4, b.takeE 4)
  else if ¬ (createR s nm.data.toList).2 = 0 then ((createR s nm.data.toList).1, (b.take 4).give 4, (createR s nm.data.toList).2)
  else if ¬ (appendR (createR s nm.data.toList).1 nm.data.toList (headS size).data.toList).2 = 0 then ((appendR (createR s nm.data.toList).1 nm.data.toList (headS size).data.toList).1, (b.take 4).give 4, (appendR (createR s nm.data.toList).1 nm.data.toList (headS size).data.toList).2)
  else ((appendR (createR s nm.data.toList).1 nm.data.toList (headS size).data.toList).1, b.take 4, 0)
theorem create_calls (s : St) (n : List UInt8) : (createR s n).1.calls = s.calls + 1 := by
  unfold createR
  split
  · rfl
  · cases s.get n with
    | some f => rfl
    | none => simp only []; split <;> rfl
theorem ok_createR {s : St} (h : s.ok) {n : List UInt8} (hn : n.length ≤ 24) : (createR s n).1.ok := by
  unfold createR
  have hc := ok_call h
  split
  · exact hc
  · cases hg : s.get n with
    | some f => exact hc
    | none =>
      simp only []
      split
      · exact hc
      · exact ok_create (s := s.call) hc hg hn (show s.fs.length < 200 by omega)
theorem createM_calls (s : St) (b : Bu) (nm : ByteArray) (size : Int) : (createM s b nm size).1.calls ≤ s.calls + 2 := by
  unfold createM
  have h1 := create_calls s nm.data.toList
  have h2 := append_calls (createR s nm.data.toList).1 nm.data.toList (headS size).data.toList
  split
  · show s.calls ≤ _; omega
  · split
    · show s.calls ≤ _; omega
    · split
      · show (createR s nm.data.toList).1.calls ≤ _; omega
      · split
        · show (appendR _ _ _).1.calls ≤ _; omega
        · show (appendR _ _ _).1.calls ≤ _; omega
theorem createM_ok {s : St} {b : Bu} {nm : ByteArray} {size : Int} (hs : s.ok) (hb : b.ok) (hn : nm.size ≤ 24) (hm : rightB nm.data.toList = true) (h0 : (createM s b nm size).2.2 = 0) : (M3.mk (createM s b nm size).1 (createM s b nm size).2.1 (newWs nm size)).ok := by
  have hz : sizeB size = true := by
    cases h : sizeB size
    · unfold createM at h0; rw [if_pos h] at h0; exact absurd h0 (by simp)
    · rfl
  have hsok : (createM s b nm size).1.ok := by
    unfold createM
    have h1 := ok_createR hs (n := nm.data.toList) (by rw [show nm.data.toList.length = nm.size from Array.length_toList]; exact hn)
    have h2 := ok_append h1 nm.data.toList (headS size).data.toList
    split
    · exact hs
    · split
      · exact hs
      · split
        · exact h1
        · split
          · exact h2
          · exact h2
  have hbok : (createM s b nm size).2.1.ok := by
    unfold createM
    split
    · exact hb
    · split
      · exact Bu.take_ok hb 4
      · split
        · exact Bu.give_ok (Bu.take_ok hb 4) 4
        · split
          · exact Bu.give_ok (Bu.take_ok hb 4) 4
          · exact Bu.take_ok hb 4
  exact ⟨hsok, hbok, hn, hm, hz, Nat.zero_le _, (fun r h => by cases h), fun r h => by cases h⟩
end WrPlain
open WrPlain in
/-- What Close hands out. -/
def closeV (m : M3) (e : Int) : Value := .tuple #[.agg #[.int .i64 (if e = 0 then (m.x.all.length : Int) else 0), .int .u32 (if e = 0 then (sumN m.x.all : Int) else 0)], .int .i64 e]
end Go.Proofs.YtpmglnghnelenaaGreat

/- In one text: Rd9, ScRead. -/
import Derived.Test.YtignfbdgpgidpaaGreatDoorW34
import Derived.Test.YtignfbdgpgidpaaGreatDoorW22
import Derived.Test.YtignfbdgpgidpaaGreatDoorW15
/- The program's reader: Open. -/
namespace Go.Proofs.YtignfbdgpgidpaaGreatDoor
open Go.RowKit FsPlain CrcPlain OctPlain FramePlain RecPlain RdPlain
set_option linter.unusedVariables false
set_option linter.unusedSimpArgs false
set_option maxRecDepth 20000
def RpMade (D P : Nat) (w : World) (B : Nat → Prop) (nm : ByteArray) (size : Int) (R : St × Bu × Int × Nat) (e : Ending) (w' : World) : Prop :=
  (R.2.2.1 = 0 ∧ ∃ x, Does w B (RP3 x D P ⟨R.1, R.2.1, newRs nm size R.2.2.2⟩) (.tuple #[.pointer (some ⟨x, 0, none⟩), .int .i64 0]) e w') ∨
  (R.2.2.1 ≠ 0 ∧ Does w B (stars [DiskA D R.1, BuA P R.2.1]) (.tuple #[.pointer none, .int .i64 R.2.2.1]) e w')
theorem frs_p2 (D P : Nat) (s : St) (b : Bu) : Frs [DiskA D s, BuA P b] := ⟨fr_disk _ _, fr_bu _ _, trivial⟩
def rdnew (D P : Nat) (nm : ByteArray) (size : Int) (left : Nat) : Array Value := #[.pointer (some ⟨D, 0, none⟩), .string nm, .int .i64 11, .int .i64 (left : Nat), .pointer (some ⟨P, 0, none⟩), .int .i64 size, .slice none 0 0, .bool false, .int .i64 0, .int .u32 0, .bool false]
theorem rdnew_eq (D P : Nat) (nm : ByteArray) (size : Int) (left : Nat) : rdnew D P nm size left = rdc D P (newRs nm size left) (.slice none 0 0) (sumN (newRs nm size left).all) false := by
  show _ = rdc D P (newRs nm size left) (.slice none 0 0) (sumN []) false
  rw [sumN_nil]; rfl
theorem rd_born {D P : Nat} {s : St} {b : Bu} {nm : ByteArray} {size : Int} {left : Nat} {w : World} {B : Nat → Prop} (h : stars [DiskA D s, BuA P b] w B) :
    ∃ B', RP3 w.heap.size D P ⟨s, b, newRs nm size left⟩ (w.alloc (.cells (rdnew D P nm size left) 175)) B' ∧ Nx B w B' (w.alloc (.cells (rdnew D P nm size left) 175)) := by
  have ga : Gr w (w.alloc (.cells (rdnew D P nm size left) 175)) := (Gr.refl w).alloc (Nat.le_refl _) _
  obtain ⟨B5, h5, n5⟩ := part_new (P := Blk w.heap.size (rdnew D P nm size left) 175) (L := [DiskA D s, BuA P b]) (B' := fun b => b = w.heap.size) (frs_p2 _ _ _ _) h ga ⟨heap_alloc_new w _, fun _ => Iff.rfl⟩ (fun b hb => by omega)
  obtain ⟨B6, h6, n6⟩ := part_new (w' := w.alloc (.cells (rdnew D P nm size left) 175)) (P := QueA (.slice none 0 0) []) (L := [Blk w.heap.size (rdnew D P nm size left) 175, DiskA D s, BuA P b]) ⟨fr_blk _ _ _, frs_p2 _ _ _ _⟩ h5 (Gr.refl _) (que_nil _) (fun b hb => hb.elim)
  rw [rdnew_eq] at h6 n5 n6 ⊢
  have h8 : stars (rol w.heap.size D P s b (rdc D P (newRs nm size left) (.slice none 0 0) (sumN (newRs nm size left).all) false) (.slice none 0 0) []) _ B6 := stars_perm ((List.Perm.swap _ _ _).trans (.cons _ (List.Perm.swap _ _ _))) h6
  exact ⟨B6, .inl ⟨rfl, _, h8⟩, n5.trans n6⟩
set_option maxHeartbeats 4000000 in
theorem rp_open (D P : Nat) (s : St) (b : Bu) (nm : ByteArray) (size : Int) (hsz : I64 size) (hs : s.ok) (hn : nm.size ≤ 24) (hm : rightB nm.data.toList = true) (hc : s.calls ≤ 100000000000) (w : World) (B : Nat → Prop) (h : stars [DiskA D s, BuA P b] w B) :
    Calls Tryz.prog 102 #[.pointer (some ⟨D, 0, none⟩), .pointer (some ⟨P, 0, none⟩), .string nm, .int .i64 size] w (RpMade D P w B nm size (openN s b nm size)) := by
  rw [begin_open]
  obtain ⟨R, hR⟩ : ∃ R, R = (if sizeB size = false then (s, b, 1, 0) else if ¬ b.takeE 4 = 0 then (s, b.take 4, b.takeE 4, 0) else if ¬ (beginN s nm size).2.1 = 0 then ((beginN s nm size).1, (b.take 4).give 4, (beginN s nm size).2.1, 0) else ((beginN s nm size).1, b.take 4, 0, (beginN s nm size).2.2) : St × Bu × Int × Nat) := ⟨_, rfl⟩
  rw [← hR]
  have CM := Lib.hid (room_c size hsz)
  have H := Lib.hid h
  clear h
  cases hz : sizeB size
  · have hr : roomN size = 0 := by unfold roomN; rw [if_neg (by rw [hz]; decide)]
    rw [if_pos hz] at hR
    subst hR
    rw [hr] at CM
    clear hz hr
    go_enter Tryz.func102, Tryz.ntmps102
    go_wp2_with fail
    refine (CM.out _).mono ?_; rintro e w1 ⟨rfl, rfl⟩
    go_wp2_with fail
    go_ret2
    exact .inr ⟨by simp, rfl, B, H.out, Nx.refl _ _⟩
  · have hzz : 1 ≤ size ∧ size ≤ 64 := by simpa [sizeB] using hz
    have hr : roomN size = 5 + 4 * size := by unfold roomN; rw [if_pos hz]
    obtain ⟨rm, hrm⟩ : ∃ rm, rm = roomN size := ⟨_, rfl⟩
    have hr0 : ¬ rm = 0 := by rw [hrm, hr]; omega
    rw [← hrm] at CM
    rw [if_neg (by rw [hz]; decide)] at hR
    obtain ⟨c1, hc1⟩ : ∃ c1, c1 = b.takeE 4 := ⟨_, rfl⟩
    obtain ⟨⟨s1, e1, lf⟩, hS1⟩ : ∃ X, X = beginN s nm size := ⟨_, rfl⟩
    rw [← hc1, ← hS1] at hR
    have CT := does_at (f := 130) 1 rfl (frs_p2 _ _ _ _) H.out fun B2 h2 => bu_take P b 4 w B2 h2
    rw [← hc1] at CT
    have CTH := Lib.hid CT
    have CLH := Lib.hid (fun u => clone_c nm u (by omega))
    have CG := Lib.hid (fun s2 w2 B2 (h2 : stars [DiskA D s2, BuA P (b.take 4)] w2 B2) => does_at (f := 132) (Q := BuA P ((b.take 4).give 4)) 1 rfl (frs_p2 _ _ _ _) h2 fun B3 h3 => bu_give P (b.take 4) 4 w2 B3 h3)
    have CB : ∀ q w2 B2, stars [Blk q (srcC D nm 0 0) 173, DiskA D s, BuA P (b.take 4)] w2 B2 → ∀ L', (e1 = 0 → L' = sdl q D nm 11 lf s1) → (¬ e1 = 0 → L' = [DiskA D s1]) → Calls Tryz.prog 131 #[.pointer (some ⟨q, 0, none⟩), .int .i64 size] w2 (Does w2 B2 (stars (L' ++ [BuA P (b.take 4)])) (.int .i64 e1)) := by
      intro q w2 B2 h2 L' k0 k1
      exact does_pre (sdl q D nm 0 0 s) (L' := L') (M := [BuA P (b.take 4)]) ⟨fr_bu _ _, trivial⟩ h2 fun B1 h1 => src_begin q D s nm size hs hn hm hc (s1, e1, lf) hS1 L' k0 k1 w2 B1 h1
    have CBH := Lib.hid CB
    have HR := Lib.hid hR
    clear CT CB hc1 hS1 hR hz hzz hr hrm hs hn hm hc hsz
    by_cases h1 : c1 = 0
    · subst h1
      by_cases h2 : e1 = 0
      · subst h2
        obtain rfl : R = (s1, b.take 4, 0, lf) := by have := HR.out; simpa using this
        clear HR
        go_enter Tryz.func102, Tryz.ntmps102
        go_wp2_with fail
        refine (CM.out _).mono ?_; rintro e w1 ⟨rfl, rfl⟩
        go_wp2_with fail
        refine CTH.out.mono ?_; rintro e w2 hd
        obtain ⟨rfl, B2, h2, n2⟩ := hd
        have H2 := Lib.hid h2
        have N2 := Lib.hid n2
        clear h2 n2 CTH
        go_wp2_with fail
        refine (CLH.out w2).mono ?_; rintro e u ⟨rfl, gu⟩
        have ga : Gr u (u.alloc (.cells (srcC D nm 0 0) 173)) := (Gr.refl u).alloc (Nat.le_refl _) _
        obtain ⟨B3, h3, n3⟩ := part_new (P := Blk u.heap.size (srcC D nm 0 0) 173) (L := [DiskA D s, BuA P (b.take 4)]) (B' := fun b => b = u.heap.size) (frs_p2 _ _ _ _) (stars_gr (frs_p2 _ _ _ _) H2.out gu) ga ⟨heap_alloc_new u _, fun _ => Iff.rfl⟩ (fun b hb => by omega)
        obtain ⟨V, hV⟩ : ∃ V, V = u.alloc (.cells (srcC D nm 0 0) 173) := ⟨_, rfl⟩
        rw [← hV] at h3 n3
        have CB1 := Lib.hid (CBH.out _ V B3 h3 (sdl u.heap.size D nm 11 lf s1) (fun _ => rfl) (fun k => (by simp at k)))
        have N3 := Lib.hid ((N2.out.trans (Nx.gr gu)).trans n3)
        have HV := Lib.hid (show V = u.alloc (.cells #[.pointer (some ⟨D, 0, none⟩), .string nm, .int .i64 0, .int .i64 0] 173) from hV)
        clear h3 n3 ga hV
        go_wp2_with fail
        rw [← HV.out]
        refine CB1.out.mono ?_; rintro e w4 hd
        obtain ⟨rfl, B4, h4, n4⟩ := hd
        obtain ⟨_, hbq, _⟩ := part_at 0 rfl h4
        have b0 : w4.cell? ⟨u.heap.size, 0, none⟩ = some (.pointer (some ⟨D, 0, none⟩)) := by rw [cells_at hbq.1]; rfl
        have b1 : w4.cell? ⟨u.heap.size, 1, none⟩ = some (.string nm) := by rw [cells_at hbq.1]; rfl
        have b2 : w4.cell? ⟨u.heap.size, 2, none⟩ = some (.int .i64 11) := by rw [cells_at hbq.1]; rfl
        have b3 : w4.cell? ⟨u.heap.size, 3, none⟩ = some (.int .i64 (lf : Nat)) := by rw [cells_at hbq.1]; rfl
        obtain ⟨B5, h5, n5⟩ := stars_drop (L := [DiskA D s1, BuA P (b.take 4)]) h4
        have H5 := Lib.hid h5
        have N5 := Lib.hid ((N3.out.trans n4).trans n5)
        clear h4 n4 h5 n5 hbq CB1
        go_wp2_with fail
        go_ret2
        obtain ⟨B6, h6, n6⟩ := rd_born (nm := nm) (size := size) (left := lf) H5.out
        exact .inl ⟨rfl, w4.heap.size, rfl, B6, h6, N5.out.trans n6⟩
      · have t1 : (e1 == 0) = false := by simpa using h2
        have t2 : (e1 != 0) = true := by simpa using h2
        have HE := Lib.hid h2
        obtain rfl : R = (s1, (b.take 4).give 4, e1, 0) := by have := HR.out; simpa [h2] using this
        clear h2 HR
        go_enter Tryz.func102, Tryz.ntmps102
        go_wp2_with fail
        refine (CM.out _).mono ?_; rintro e w1 ⟨rfl, rfl⟩
        go_wp2_with fail
        refine CTH.out.mono ?_; rintro e w2 hd
        obtain ⟨rfl, B2, h2, n2⟩ := hd
        have H2 := Lib.hid h2
        have N2 := Lib.hid n2
        clear h2 n2 CTH
        go_wp2_with fail
        refine (CLH.out w2).mono ?_; rintro e u ⟨rfl, gu⟩
        have ga : Gr u (u.alloc (.cells (srcC D nm 0 0) 173)) := (Gr.refl u).alloc (Nat.le_refl _) _
        obtain ⟨B3, h3, n3⟩ := part_new (P := Blk u.heap.size (srcC D nm 0 0) 173) (L := [DiskA D s, BuA P (b.take 4)]) (B' := fun b => b = u.heap.size) (frs_p2 _ _ _ _) (stars_gr (frs_p2 _ _ _ _) H2.out gu) ga ⟨heap_alloc_new u _, fun _ => Iff.rfl⟩ (fun b hb => by omega)
        obtain ⟨V, hV⟩ : ∃ V, V = u.alloc (.cells (srcC D nm 0 0) 173) := ⟨_, rfl⟩
        rw [← hV] at h3 n3
        have CB1 := Lib.hid (CBH.out _ V B3 h3 [DiskA D s1] (fun k => absurd k HE.out) (fun _ => rfl))
        have N3 := Lib.hid ((N2.out.trans (Nx.gr gu)).trans n3)
        have HV := Lib.hid (show V = u.alloc (.cells #[.pointer (some ⟨D, 0, none⟩), .string nm, .int .i64 0, .int .i64 0] 173) from hV)
        clear h3 n3 ga hV
        go_wp2_with fail
        rw [← HV.out]
        refine CB1.out.mono ?_; rintro e w4 hd
        obtain ⟨rfl, B4, h4, n4⟩ := hd
        have CG1 := Lib.hid (CG.out s1 w4 B4 h4)
        have N4 := Lib.hid (N3.out.trans n4)
        clear h4 n4 CB1
        go_wp2_with fail
        refine CG1.out.mono ?_; rintro e w5 hd
        obtain ⟨rfl, B5, h5, n5⟩ := hd
        have H5 := Lib.hid h5
        have N5 := Lib.hid (N4.out.trans n5)
        clear h5 n5 CG1
        go_wp2_with fail
        go_ret2
        exact .inr ⟨HE.out, rfl, B5, H5.out, N5.out⟩
    · have t1 : (c1 == 0) = false := by simpa using h1
      have t2 : (c1 != 0) = true := by simpa using h1
      have HE := Lib.hid h1
      obtain rfl : R = (s, b.take 4, c1, 0) := by have := HR.out; rwa [if_pos h1] at this
      clear h1 HR
      go_enter Tryz.func102, Tryz.ntmps102
      go_wp2_with fail
      refine (CM.out _).mono ?_; rintro e w1 ⟨rfl, rfl⟩
      go_wp2_with fail
      refine CTH.out.mono ?_; rintro e w2 hd
      obtain ⟨rfl, B2, h2, n2⟩ := hd
      have H2 := Lib.hid h2
      have N2 := Lib.hid n2
      clear h2 n2 CTH
      go_wp2_with fail
      go_ret2
      exact .inr ⟨HE.out, rfl, B2, H2.out, N2.out⟩
end Go.Proofs.YtignfbdgpgidpaaGreatDoor
/- A file read through on a disk that does not fall: plain facts; the parts that a reader leaves. -/
namespace Go.Proofs.YtignfbdgpgidpaaGreatDoor
open Go.RowKit FsPlain CrcPlain OctPlain FramePlain RecPlain RdPlain
set_option linter.unusedVariables false
set_option linter.unusedSimpArgs false
set_option maxRecDepth 20000
theorem Qs.pre {A : Nat → Prop} {K M : List Asn} {w u : World} (h : Qs A (K ++ M) w u) : ∃ B, stars K u B ∧ ∀ (K' : List Asn) (u' : World) (B' : Nat → Prop), Frs K' → stars K' u' B' → Nx B u B' u' → Qs A (K' ++ M) w u' := by
  obtain ⟨hF, B, k, n⟩ := h
  have hM : Frs M := frs_iff.2 fun P hP => frs_iff.1 hF P (List.mem_append_right _ hP)
  obtain ⟨B1, h1, h2⟩ := pre_nx K hM k
  exact ⟨B1, h1, fun K' u' B' hK s n1 => by
    obtain ⟨B3, h3, n3⟩ := h2 K' u' B' s n1
    exact ⟨frs_app hK hM, B3, h3, n.trans n3⟩⟩
theorem rp_back {A : Nat → Prop} {x p q : Nat} {m : N3} {M : List Asn} {w u : World} (ho : m.x.opn = false) (h : Qs A (RP3 x p q m :: M) w u) : Qs A (DiskA p m.s :: BuA q m.b :: M) w u := by
  obtain ⟨hF, B, ⟨B1, B2, p1, r, a, e⟩, n⟩ := h
  have k : stars (rol x p q m.s m.b (rdshut m.x.told (sumN m.x.all) m.x.whole) (.slice none 0 0) []) u B1 := rp3_shut ho p1
  have h2 : Qs A (rol x p q m.s m.b (rdshut m.x.told (sumN m.x.all) m.x.whole) (.slice none 0 0) [] ++ M) w u := ⟨frs_app (frs_rol _ _ _ _ _ _ _ _) hF.2, B, stars_app.2 ⟨B1, B2, k, r, a, e⟩, n⟩
  have h3 := Qs.tail h2
  exact Qs.tail (Qs.perm h3 (List.Perm.swap _ _ _))
namespace ScPlain
theorem next_last {m : N3} (ho : m.x.opn = true) (h : (nextN m).2.2.1 = false) : (nextN m).1.x.told = m.x.told ∧ (nextN m).1.x.all = m.x.all ∧ m.x.queue = [] := by
  have hn0 : nextN m = if m.x.queue = [] then fillN m else popN m := by unfold nextN; rw [if_neg (by rw [ho]; decide)]
  rw [hn0] at h ⊢
  by_cases hq : m.x.queue = []
  · rw [if_pos hq] at h ⊢
    unfold fillN at h ⊢
    split
    · exact ⟨by rw [show wrongN m.asked = _ from shut_is (m := m.asked.isBad) ho]; rfl, by rw [show wrongN m.asked = _ from shut_is (m := m.asked.isBad) ho]; rfl, hq⟩
    · next h1 =>
      rw [if_neg h1] at h
      split
      · exact ⟨by rw [shut_is (m := m.asked.ended (RdPlain.bytesN m)) ho]; rfl, by rw [shut_is (m := m.asked.ended (RdPlain.bytesN m)) ho]; rfl, hq⟩
      · next h2 =>
        rw [if_neg h2] at h
        split
        · exact ⟨by rw [show wrongN m.asked = _ from shut_is (m := m.asked.isBad) ho]; rfl, by rw [show wrongN m.asked = _ from shut_is (m := m.asked.isBad) ho]; rfl, hq⟩
        · next h3 =>
          rw [if_neg h3] at h
          cases h
  · rw [if_neg hq] at h
    cases h
structure RtN (s : St) (b : Bu) (D : ByteArray) (size : Int) (m : N3) (got : List ByteArray) : Prop where
  rd : ReadF m D size got
  bud : m.b = b.take 4
  disk : Quiet s m.s
  calls : m.s.calls ≤ s.calls + 2 + (got.length : Int)
structure RtE (s : St) (b : Bu) (D : ByteArray) (size : Int) (m : N3) (code : Int) : Prop where
  opn : m.x.opn = false
  inv : m.inv
  bud : m.b = (b.take 4).give 4
  disk : Quiet s m.s
  calls : m.s.calls ≤ s.calls + 3 + (D.size : Int)
  how : (code = 0 ∧ ∃ L, IsFile size D L ∧ m.x.ec = (L.length : Int) ∧ m.x.em = ((sumN L : Nat) : Int)) ∨ (code = 6 ∧ ∀ L, ¬ IsFile size D L)
theorem rt_next {s : St} {b : Bu} {D : ByteArray} {size : Int} {m : N3} {got : List ByteArray} (h : RtN s b D size m got) (hd : s.down = false) (ha : s.ahead = -1) (hD : D.size ≤ 3000) :
    ((nextN m).2.2.1 = true ∧ (nextN m).2.2.2 = 0 ∧ RtN s b D size (nextN m).1 (got ++ [(nextN m).2.1])) ∨ ((nextN m).2.2.1 = false ∧ RtE s b D size (nextN m).1 (nextN m).2.2.2) := by
  have hc := (nextN_calls m).2.1
  have h0 := h.calls
  have hf := h.rd.few
  rcases readF_next h.rd (by omega) with ⟨h1, h2, h3⟩ | ⟨h1, _, h3⟩
  · refine .inl ⟨h1, h2, h3.rd, h3.bud.trans h.bud, h.disk.trans h3.disk, ?_⟩
    rw [List.length_append, List.length_singleton, Int.natCast_add]
    simp only [Int.natCast_one]
    omega
  · refine .inr ⟨h1, h3.opn, h3.inv, by rw [h3.bud, h.bud], h.disk.trans h3.disk, by omega, ?_⟩
    obtain ⟨l1, l2, l3⟩ := next_last h.rd.opn h1
    rcases h3.how with ⟨k1, k2, k3⟩ | k | ⟨k1, k2⟩
    · have hw : (nextN m).1.x.whole = true := by rw [h3.inv.c h3.opn, k3]; rfl
      obtain ⟨e1, e2⟩ := h3.inv.e1 hw
      have hal := h.rd.all
      rw [l3, List.append_nil] at hal
      refine .inl ⟨k1, got, k2, ?_, ?_⟩
      · rw [e1, l1, h.rd.told]
      · rw [e2, l2, ← hal]
    · exact .inr k
    · exact absurd (h.disk.calm hd ha) k2
theorem open_quiet (s : St) (b : Bu) (nm : ByteArray) (size : Int) : Quiet s (openN s b nm size).1 := by
  have h1 := quiet_call s
  have h2 := h1.trans (quiet_call s.call)
  unfold openN
  repeat' split
  all_goals first | exact Quiet.refl s | exact h1 | exact h2
theorem up_self {m : N3} (h1 : m.s.down = false) (h2 : m.s.ahead = -1) : m.up = m := by
  obtain ⟨⟨r, c, a, d, f⟩, b, x⟩ := m
  simp only at h1 h2
  subst h1 h2
  rfl
theorem rt_open {s : St} {b : Bu} {nm D : ByteArray} {size : Int} (hs : s.ok) (hb : b.ok) (hd : s.down = false) (ha : s.ahead = -1) (hf : HasD s nm.data.toList D) (hn : nm.size ≤ 24) (hm : rightB nm.data.toList = true) (hz : sizeB size = true) (h4 : b.now + 4 ≤ b.m) (R : St × Bu × Int × Nat) (hR : openN s b nm size = R) :
    Quiet s R.1 ∧ R.1.calls ≤ s.calls + 2 ∧ ((R.2.2.1 = 0 ∧ RtN s b D size ⟨R.1, R.2.1, newRs nm size R.2.2.2⟩ []) ∨ (R.2.2.1 = 6 ∧ (∀ L, ¬ IsFile size D L) ∧ R.2.1 = (b.take 4).give 4)) := by
  subst hR
  have hq := open_quiet s b nm size
  have hc := (openN_calls s b nm size).2
  have n0 := hb.n0
  have ht : b.takeE 4 = 0 := by unfold Bu.takeE; rw [if_neg (by decide), if_neg (by omega)]
  refine ⟨hq, hc, ?_⟩
  rcases open_at (s := s) (b := b) (nm := nm) ⟨hf, hd, ha⟩ hz ht with ⟨h0, r, h1⟩ | ⟨h6, h1, h2⟩
  · obtain ⟨_, _, _, _, _, _, _, e⟩ := openN_yes h0
    refine .inl ⟨h0, ⟨openN_ok hs hb hn hm h0, inv_new _ _ _ _ _, rfl, rfl, rfl, ⟨[], r, ?_⟩, rfl⟩, by rw [e], hq, ?_⟩
    · rw [up_self h1.down h1.ahead]; exact h1
    · show _ ≤ s.calls + 2 + ((0 : Nat) : Int)
      simp only [Int.natCast_zero]; omega
  · exact .inr ⟨h6, h1, h2⟩
theorem open_none {s : St} {b : Bu} {nm : ByteArray} {size : Int} (hd : s.down = false) (ha : s.ahead = -1) (hg : s.get nm.data.toList = none) (hz : sizeB size = true) (n0 : 0 ≤ b.now) (h4 : b.now + 4 ≤ b.m) : openN s b nm size = (s.call, (b.take 4).give 4, 2, 0) := by
  have ht : b.takeE 4 = 0 := by unfold Bu.takeE; rw [if_neg (by decide), if_neg (by omega)]
  have hcd : s.call.down = false := ((quiet_call s).calm hd ha).1
  have e : sizeR s nm.data.toList = (0, 2) := by unfold sizeR; rw [if_neg (by rw [hcd]; decide), hg]
  unfold openN
  rw [if_neg (by rw [hz]; decide), if_neg (by rw [ht]; decide), e, if_pos (by decide)]
theorem take_give {b : Bu} (n0 : 0 ≤ b.now) (h4 : b.now + 4 ≤ b.m) : ((b.take 4).give 4).m = b.m ∧ ((b.take 4).give 4).now = b.now ∧ ((b.take 4).give 4).high ≤ max b.high (b.now + 4) := by
  have e : b.take 4 = ⟨b.m, b.now + 4, max b.high (b.now + 4)⟩ := by unfold Bu.take; rw [if_neg (by omega)]
  rw [e]
  unfold Bu.give
  rw [if_neg (by decide)]
  refine ⟨rfl, ?_, Int.le_refl _⟩
  show b.now + 4 - min 4 (b.now + 4) = b.now
  omega
def RtSays (s : St) (nm : List UInt8) (size ec em code : Int) : Prop :=
  (sizeB size = false ∧ code = 1) ∨ (sizeB size = true ∧ s.get nm = none ∧ code = 2) ∨
  (sizeB size = true ∧ (s.get nm).isSome = true ∧ (∀ L, ¬ IsFile size (bs (bytes22 s nm)) L) ∧ code = 6) ∨
  (sizeB size = true ∧ (s.get nm).isSome = true ∧ (∃ L, IsFile size (bs (bytes22 s nm)) L ∧ ec = (L.length : Int) ∧ em = ((sumN L : Nat) : Int)) ∧ code = 0)
theorem rt_whole {s : St} {nm : List UInt8} {size ec em : Int} (h : RtSays s nm size ec em 0) (count sum : Int) : (ec = count ∧ em = sum) ↔ WholeIs s nm size count sum := by
  rcases h with ⟨_, h⟩ | ⟨_, _, h⟩ | ⟨_, _, _, h⟩ | ⟨_, h1, ⟨L, h2, rfl, rfl⟩, _⟩
  · cases h
  · cases h
  · cases h
  · refine ⟨fun ⟨a, b⟩ => ⟨h1, L, h2, a, b⟩, fun ⟨_, M, hM, a, b⟩ => ?_⟩
    have := file_one h2 hM
    subst this
    exact ⟨a, b⟩
theorem rt_not {s : St} {nm : List UInt8} {size ec em code : Int} (h : RtSays s nm size ec em code) (h0 : code ≠ 0) (count sum : Int) : ¬ WholeIs s nm size count sum := by
  rintro ⟨k1, L, k2, _⟩
  have hz : sizeB size = true := by
    have h1 := k2.1
    unfold layB at h1
    rw [Bool.and_eq_true] at h1
    exact h1.1
  rcases h with ⟨h, _⟩ | ⟨_, h, _⟩ | ⟨_, _, h, _⟩ | ⟨_, _, _, h⟩
  · rw [hz] at h; cases h
  · rw [h] at k1; cases k1
  · exact h L k2
  · exact h0 h
theorem rt_code {s : St} {nm : List UInt8} {size ec em code : Int} (h : RtSays s nm size ec em code) : (sizeB size = false ∧ code = 1) ∨ (sizeB size = true ∧ (code = 0 ∨ code = 2 ∨ code = 6)) := by
  rcases h with h | ⟨h, _, k⟩ | ⟨h, _, _, k⟩ | ⟨h, _, _, k⟩
  · exact .inl h
  · exact .inr ⟨h, .inr (.inl k)⟩
  · exact .inr ⟨h, .inr (.inr k)⟩
  · exact .inr ⟨h, .inl k⟩
end ScPlain
end Go.Proofs.YtignfbdgpgidpaaGreatDoor

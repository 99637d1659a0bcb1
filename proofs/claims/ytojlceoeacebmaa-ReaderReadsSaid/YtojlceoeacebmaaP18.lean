/- In one text: Rd9, RdRead, RdRead2, SepMore. -/
import Derived.Test.YtojlceoeacebmaaP17
import Derived.Test.YtojlceoeacebmaaP08
import Derived.Test.YtojlceoeacebmaaP09
import Derived.Test.YtojlceoeacebmaaP00
/- The program's reader: Open. -/
namespace Go.Proofs.Ytojlceoeacebmaa
open Go.RowKit FsPlain CrcPlain OctPlain FramePlain RecPlain RdPlain
set_option linter.unusedVariables false
set_option linter.unusedSimpArgs false
set_option maxRecDepth 20000
/-- What the program's Open leaves. -/
def RpMade (D P : Nat) (w : World) (B : Nat → Prop) (nm : ByteArray) (size : Int) (R : St × Bu × Int × Nat) (e : Ending) (w' : World) : Prop :=
  (R.2.2.1 = 0 ∧ ∃ x, Does w B (RP3 x D P ⟨R.1, R.2.1, newRs nm size R.2.2.2⟩) (.tuple #[.pointer (some ⟨x, 0, none⟩), .int .i64 0]) e w') ∨
  (R.2.2.1 ≠ 0 ∧ Does w B (stars [DiskA D R.1, BuA P R.2.1]) (.tuple #[.pointer none, .int .i64 R.2.2.1]) e w')
theorem frs_p2 (D P : Nat) (s : St) (b : Bu) : Frs [DiskA D s, BuA P b] := ⟨fr_disk _ _, fr_bu _ _, trivial⟩
def rdnew (D P : Nat) (nm : ByteArray) (size : Int) (left : Nat) : Array Value := #[.pointer (some ⟨D, 0, none⟩), .string nm, .int .i64 11, .int .i64 (left : Nat), .pointer (some ⟨P, 0, none⟩), .int .i64 size, .slice none 0 0, .bool false, .int .i64 0, .int .u32 0, .bool false]
theorem rdnew_eq (D P : Nat) (nm : ByteArray) (size : Int) (left : Nat) : rdnew D P nm size left = rdc D P (newRs nm size left) (.slice none 0 0) (sumN (newRs nm size left).all) false := by
  show _ = rdc D P (newRs nm size left) (.slice none 0 0) (sumN []) false
  rw [sumN_nil]; rfl
/-- A new reader beside its disk and its budget. -/
theorem rd_born {D P : Nat} {s : St} {b : Bu} {nm : ByteArray} {size : Int} {left : Nat} {w : World} {B : Nat → Prop} (h : stars [DiskA D s, BuA P b] w B) :
    ∃ B', RP3 w.heap.size D P ⟨s, b, newRs nm size left⟩ (w.alloc (.cells (rdnew D P nm size left) 54)) B' ∧ Nx B w B' (w.alloc (.cells (rdnew D P nm size left) 54)) := by
  have ga : Gr w (w.alloc (.cells (rdnew D P nm size left) 54)) := (Gr.refl w).alloc (Nat.le_refl _) _
  obtain ⟨B5, h5, n5⟩ := part_new (P := Blk w.heap.size (rdnew D P nm size left) 54) (L := [DiskA D s, BuA P b]) (B' := fun b => b = w.heap.size) (frs_p2 _ _ _ _) h ga ⟨heap_alloc_new w _, fun _ => Iff.rfl⟩ (fun b hb => by omega)
  obtain ⟨B6, h6, n6⟩ := part_new (w' := w.alloc (.cells (rdnew D P nm size left) 54)) (P := QueA (.slice none 0 0) []) (L := [Blk w.heap.size (rdnew D P nm size left) 54, DiskA D s, BuA P b]) ⟨fr_blk _ _ _, frs_p2 _ _ _ _⟩ h5 (Gr.refl _) (que_nil _) (fun b hb => hb.elim)
  rw [rdnew_eq] at h6 n5 n6 ⊢
  have h8 : stars (rol w.heap.size D P s b (rdc D P (newRs nm size left) (.slice none 0 0) (sumN (newRs nm size left).all) false) (.slice none 0 0) []) _ B6 := stars_perm ((List.Perm.swap _ _ _).trans (.cons _ (List.Perm.swap _ _ _))) h6
  exact ⟨B6, .inl ⟨rfl, _, h8⟩, n5.trans n6⟩
set_option maxHeartbeats 4000000 in
theorem rp_open (D P : Nat) (s : St) (b : Bu) (nm : ByteArray) (size : Int) (hsz : I64 size) (hs : s.ok) (hn : nm.size ≤ 24) (hm : rightB nm.data.toList = true) (hc : s.calls ≤ 100000000000) (w : World) (B : Nat → Prop) (h : stars [DiskA D s, BuA P b] w B) :
    Calls Try.prog 12 #[.pointer (some ⟨D, 0, none⟩), .pointer (some ⟨P, 0, none⟩), .string nm, .int .i64 size] w (RpMade D P w B nm size (openN s b nm size)) := by
  rw [begin_open]
  obtain ⟨R, hR⟩ : ∃ R, R = (if sizeB size = false then (s, b, 1, 0) else if ¬ b.takeE 4 = 0 then (s, b.take 4, b.takeE 4, 0) else if ¬ (beginN s nm size).2.1 = 0 then ((beginN s nm size).1, (b.take 4).give 4, (beginN s nm size).2.1, 0) else ((beginN s nm size).1, b.take 4, 0, (beginN s nm size).2.2) : St × Bu × Int × Nat) := ⟨_, rfl⟩
  rw [← hR]
  have CM := Lib.hid (room_c size hsz)
  have H := Lib.hid h
  clear h
  cases hz : sizeB size
  · have hr : roomN size = 0 := by unfold roomN; rw [if_neg (by rw [hz]; decide)]
    rw [if_pos hz] at hR
    subst hR
    rw [hr] at CM
    clear hz hr
    go_enter Try.func12, Try.ntmps12
    go_wp2_with fail
    refine (CM.out _).mono ?_; rintro e w1 ⟨rfl, rfl⟩
    go_wp2_with fail
    go_ret2
    exact .inr ⟨by simp, rfl, B, H.out, Nx.refl _ _⟩
  · have hzz : 1 ≤ size ∧ size ≤ 64 := by simpa [sizeB] using hz
    have hr : roomN size = 5 + 4 * size := by unfold roomN; rw [if_pos hz]
    obtain ⟨rm, hrm⟩ : ∃ rm, rm = roomN size := ⟨_, rfl⟩
    have hr0 : ¬ rm = 0 := by rw [hrm, hr]; omega
    rw [← hrm] at CM
    rw [if_neg (by rw [hz]; decide)] at hR
    obtain ⟨c1, hc1⟩ : ∃ c1, c1 = b.takeE 4 := ⟨_, rfl⟩
    obtain ⟨⟨s1, e1, lf⟩, hS1⟩ : ∃ X, X = beginN s nm size := ⟨_, rfl⟩
    rw [← hc1, ← hS1] at hR
    have CT := does_at (f := 33) 1 rfl (frs_p2 _ _ _ _) H.out fun B2 h2 => bu_take P b 4 w B2 h2
    rw [← hc1] at CT
    have CTH := Lib.hid CT
    have CLH := Lib.hid (fun u => clone_c nm u (by omega))
    have CG := Lib.hid (fun s2 w2 B2 (h2 : stars [DiskA D s2, BuA P (b.take 4)] w2 B2) => does_at (f := 36) (Q := BuA P ((b.take 4).give 4)) 1 rfl (frs_p2 _ _ _ _) h2 fun B3 h3 => bu_give P (b.take 4) 4 w2 B3 h3)
    have CB : ∀ q w2 B2, stars [Blk q (srcC D nm 0 0) 52, DiskA D s, BuA P (b.take 4)] w2 B2 → ∀ L', (e1 = 0 → L' = sdl q D nm 11 lf s1) → (¬ e1 = 0 → L' = [DiskA D s1]) → Calls Try.prog 35 #[.pointer (some ⟨q, 0, none⟩), .int .i64 size] w2 (Does w2 B2 (stars (L' ++ [BuA P (b.take 4)])) (.int .i64 e1)) := by
      intro q w2 B2 h2 L' k0 k1
      exact does_pre (sdl q D nm 0 0 s) (L' := L') (M := [BuA P (b.take 4)]) ⟨fr_bu _ _, trivial⟩ h2 fun B1 h1 => src_begin q D s nm size hs hn hm hc (s1, e1, lf) hS1 L' k0 k1 w2 B1 h1
    have CBH := Lib.hid CB
    have HR := Lib.hid hR
    clear CT CB hc1 hS1 hR hz hzz hr hrm hs hn hm hc hsz
    by_cases h1 : c1 = 0
    · subst h1
      by_cases h2 : e1 = 0
      · subst h2
        obtain rfl : R = (s1, b.take 4, 0, lf) := by have := HR.out; simpa using this
        clear HR
        go_enter Try.func12, Try.ntmps12
        go_wp2_with fail
        refine (CM.out _).mono ?_; rintro e w1 ⟨rfl, rfl⟩
        go_wp2_with fail
        refine CTH.out.mono ?_; rintro e w2 hd
        obtain ⟨rfl, B2, h2, n2⟩ := hd
        have H2 := Lib.hid h2
        have N2 := Lib.hid n2
        clear h2 n2 CTH
        go_wp2_with fail
        refine (CLH.out w2).mono ?_; rintro e u ⟨rfl, gu⟩
        have ga : Gr u (u.alloc (.cells (srcC D nm 0 0) 52)) := (Gr.refl u).alloc (Nat.le_refl _) _
        obtain ⟨B3, h3, n3⟩ := part_new (P := Blk u.heap.size (srcC D nm 0 0) 52) (L := [DiskA D s, BuA P (b.take 4)]) (B' := fun b => b = u.heap.size) (frs_p2 _ _ _ _) (stars_gr (frs_p2 _ _ _ _) H2.out gu) ga ⟨heap_alloc_new u _, fun _ => Iff.rfl⟩ (fun b hb => by omega)
        obtain ⟨V, hV⟩ : ∃ V, V = u.alloc (.cells (srcC D nm 0 0) 52) := ⟨_, rfl⟩
        rw [← hV] at h3 n3
        have CB1 := Lib.hid (CBH.out _ V B3 h3 (sdl u.heap.size D nm 11 lf s1) (fun _ => rfl) (fun k => (by simp at k)))
        have N3 := Lib.hid ((N2.out.trans (Nx.gr gu)).trans n3)
        have HV := Lib.hid (show V = u.alloc (.cells #[.pointer (some ⟨D, 0, none⟩), .string nm, .int .i64 0, .int .i64 0] 52) from hV)
        clear h3 n3 ga hV
        go_wp2_with fail
        rw [← HV.out]
        refine CB1.out.mono ?_; rintro e w4 hd
        obtain ⟨rfl, B4, h4, n4⟩ := hd
        obtain ⟨_, hbq, _⟩ := part_at 0 rfl h4
        have b0 : w4.cell? ⟨u.heap.size, 0, none⟩ = some (.pointer (some ⟨D, 0, none⟩)) := by rw [cells_at hbq.1]; rfl
        have b1 : w4.cell? ⟨u.heap.size, 1, none⟩ = some (.string nm) := by rw [cells_at hbq.1]; rfl
        have b2 : w4.cell? ⟨u.heap.size, 2, none⟩ = some (.int .i64 11) := by rw [cells_at hbq.1]; rfl
        have b3 : w4.cell? ⟨u.heap.size, 3, none⟩ = some (.int .i64 (lf : Nat)) := by rw [cells_at hbq.1]; rfl
        obtain ⟨B5, h5, n5⟩ := stars_drop (L := [DiskA D s1, BuA P (b.take 4)]) h4
        have H5 := Lib.hid h5
        have N5 := Lib.hid ((N3.out.trans n4).trans n5)
        clear h4 n4 h5 n5 hbq CB1
        go_wp2_with fail
        go_ret2
        obtain ⟨B6, h6, n6⟩ := rd_born (nm := nm) (size := size) (left := lf) H5.out
        exact .inl ⟨rfl, w4.heap.size, rfl, B6, h6, N5.out.trans n6⟩
      · have t1 : (e1 == 0) = false := by simpa using h2
        have t2 : (e1 != 0) = true := by simpa using h2
        have HE := Lib.hid h2
        obtain rfl : R = (s1, (b.take 4).give 4, e1, 0) := by have := HR.out; simpa [h2] using this
        clear h2 HR
        go_enter Try.func12, Try.ntmps12
        go_wp2_with fail
        refine (CM.out _).mono ?_; rintro e w1 ⟨rfl, rfl⟩
        go_wp2_with fail
        refine CTH.out.mono ?_; rintro e w2 hd
        obtain ⟨rfl, B2, h2, n2⟩ := hd
        have H2 := Lib.hid h2
        have N2 := Lib.hid n2
        clear h2 n2 CTH
        go_wp2_with fail
        refine (CLH.out w2).mono ?_; rintro e u ⟨rfl, gu⟩
        have ga : Gr u (u.alloc (.cells (srcC D nm 0 0) 52)) := (Gr.refl u).alloc (Nat.le_refl _) _
        obtain ⟨B3, h3, n3⟩ := part_new (P := Blk u.heap.size (srcC D nm 0 0) 52) (L := [DiskA D s, BuA P (b.take 4)]) (B' := fun b => b = u.heap.size) (frs_p2 _ _ _ _) (stars_gr (frs_p2 _ _ _ _) H2.out gu) ga ⟨heap_alloc_new u _, fun _ => Iff.rfl⟩ (fun b hb => by omega)
        obtain ⟨V, hV⟩ : ∃ V, V = u.alloc (.cells (srcC D nm 0 0) 52) := ⟨_, rfl⟩
        rw [← hV] at h3 n3
        have CB1 := Lib.hid (CBH.out _ V B3 h3 [DiskA D s1] (fun k => absurd k HE.out) (fun _ => rfl))
        have N3 := Lib.hid ((N2.out.trans (Nx.gr gu)).trans n3)
        have HV := Lib.hid (show V = u.alloc (.cells #[.pointer (some ⟨D, 0, none⟩), .string nm, .int .i64 0, .int .i64 0] 52) from hV)
        clear h3 n3 ga hV
        go_wp2_with fail
        rw [← HV.out]
        refine CB1.out.mono ?_; rintro e w4 hd
        obtain ⟨rfl, B4, h4, n4⟩ := hd
        have CG1 := Lib.hid (CG.out s1 w4 B4 h4)
        have N4 := Lib.hid (N3.out.trans n4)
        clear h4 n4 CB1
        go_wp2_with fail
        refine CG1.out.mono ?_; rintro e w5 hd
        obtain ⟨rfl, B5, h5, n5⟩ := hd
        have H5 := Lib.hid h5
        have N5 := Lib.hid (N4.out.trans n5)
        clear h5 n5 CG1
        go_wp2_with fail
        go_ret2
        exact .inr ⟨HE.out, rfl, B5, H5.out, N5.out⟩
    · have t1 : (c1 == 0) = false := by simpa using h1
      have t2 : (c1 != 0) = true := by simpa using h1
      have HE := Lib.hid h1
      obtain rfl : R = (s, b.take 4, c1, 0) := by have := HR.out; rwa [if_pos h1] at this
      clear h1 HR
      go_enter Try.func12, Try.ntmps12
      go_wp2_with fail
      refine (CM.out _).mono ?_; rintro e w1 ⟨rfl, rfl⟩
      go_wp2_with fail
      refine CTH.out.mono ?_; rintro e w2 hd
      obtain ⟨rfl, B2, h2, n2⟩ := hd
      have H2 := Lib.hid h2
      have N2 := Lib.hid n2
      clear h2 n2 CTH
      go_wp2_with fail
      go_ret2
      exact .inr ⟨HE.out, rfl, B2, H2.out, N2.out⟩
end Go.Proofs.Ytojlceoeacebmaa
/- Plain facts: what a reader reads of a file, where no call fails. -/
namespace Go.Proofs.Ytojlceoeacebmaa
open Go.RowKit FsPlain CrcPlain OctPlain FramePlain RecPlain
set_option linter.unusedVariables false
set_option linter.unusedSimpArgs false
set_option maxRecDepth 20000
namespace RdPlain
theorem get_of {size : Int} {s : ByteArray} {l : List ByteArray} {more : List UInt8} (hb : blkB size l = true) (h : s.data.toList = (cl (blk l)).data.toList ++ more) : gB size s = true ∧ gL size s = l ∧ gN size s = (cl (blk l)).size := by
  have e : s = cl (blk l) ++ bs more := ext_toList (by rw [app_data, bs_data, h])
  rw [e]
  obtain ⟨h1, h2, h3⟩ := get_put hb (bs more)
  exact ⟨h1, h3, h2⟩
theorem get_head {size : Int} {s : ByteArray} (h : gB size s = true) : ∃ more, s.data.toList = (cl (blk (gL size s))).data.toList ++ more ∧ blkB size (gL size s) = true ∧ gN size s = (cl (blk (gL size s))).size := by
  obtain ⟨n, h1, h2, h3, h4⟩ := RecPlain.get_split h
  obtain ⟨hb, _⟩ := get_is h
  exact ⟨_, h4, hb, (get_of hb h4).2.2⟩
theorem blk_room {size : Int} {l : List ByteArray} (h : blkB size l = true) : (((cl (blk l)).size : Nat) : Int) ≤ roomN size := by
  obtain ⟨h1, ⟨h2, h3⟩, h4⟩ := blk_parts h
  obtain ⟨n, e1, _, _, e2, _⟩ := blk_cl h
  have hs : 1 ≤ size ∧ size ≤ 64 := by simpa [sizeB] using h1
  have hr : roomN size = 5 + 4 * size := by unfold roomN; rw [if_pos h1]
  rw [e1, hr, ← e2]
  have : (l.length : Int) * size ≤ 4 * size := Int.mul_le_mul_of_nonneg_right (by omega) (by omega)
  omega
/-- The first bytes tell of a block what all do, if they are enough. -/
theorem take_get {size : Int} {t r : ByteArray} {k : Nat} (hk : roomN size ≤ (k : Int)) (ht : t.data.toList = r.data.toList.take k) : gB size t = gB size r ∧ gL size t = gL size r ∧ gN size t = gN size r := by
  cases hg : gB size r
  · cases hg2 : gB size t
    · rw [gL_no hg, gL_no hg2, gN_no hg, gN_no hg2]; exact ⟨rfl, rfl, rfl⟩
    · obtain ⟨m1, e1, hb, _⟩ := get_head hg2
      have e : r.data.toList = (cl (blk (gL size t))).data.toList ++ (m1 ++ r.data.toList.drop k) := by
        conv => lhs; rw [← List.take_append_drop k r.data.toList]
        rw [← ht, e1, List.append_assoc]
      have := (get_of hb e).1
      rw [hg] at this; cases this
  · obtain ⟨m2, e2, hb, hn⟩ := get_head hg
    have hl := blk_room hb
    have hlen : (cl (blk (gL size r))).data.toList.length ≤ k := by rw [show (cl (blk (gL size r))).data.toList.length = (cl (blk (gL size r))).size from Array.length_toList]; omega
    have e : t.data.toList = (cl (blk (gL size r))).data.toList ++ m2.take (k - (cl (blk (gL size r))).data.toList.length) := by
      rw [ht, e2, List.take_append, List.take_of_length_le hlen]
    obtain ⟨a1, a2, a3⟩ := get_of hb e
    exact ⟨a1, a2, a3.trans hn.symm⟩
/-- What a reader knows of a file's bytes: the blocks that were read, and what is left. -/
structure At (m : N3) (D : ByteArray) (ps : List (List ByteArray)) (r : ByteArray) : Prop where
  get : ∃ f, m.s.get m.x.nm.data.toList = some f ∧ f.data = D.data.toList
  down : m.s.down = false
  ahead : m.s.ahead = -1
  sz : sizeB m.x.size = true
  all : D.data.toList = (headS m.x.size).data.toList ++ (blks ps ++ r.data.toList)
  pos : m.x.pos = 11 + (blks ps).length
  left : m.x.left = r.size
  bls : ∀ p ∈ ps, blkB m.x.size p = true
  full : Full ps
  short : m.x.short = true → ∃ p, ps.getLast? = some p ∧ p.length < 4
  long : m.x.short = false → ∀ p ∈ ps, p.length = 4
  flat : m.x.all = ps.flatten
theorem headS_len (size : Int) : (headS size).data.toList.length = 11 := by rw [show (headS size).data.toList.length = (headS size).size from Array.length_toList, headS_size]
theorem At.read {m : N3} {D : ByteArray} {ps : List (List ByteArray)} {r : ByteArray} (h : At m D ps r) : errN m = 0 ∧ (bytesN m).data.toList = r.data.toList.take (askN m.x) := by
  obtain ⟨f, hf, hd⟩ := h.get
  have hc : m.s.call.down = false := by unfold St.call; simp [h.down, h.ahead]
  have hlen : f.data.length = m.x.pos + m.x.left := by
    rw [hd, h.all, h.pos, h.left, List.length_append, List.length_append, headS_len, show r.data.toList.length = r.size from Array.length_toList]; omega
  have ha := ask_left m.x
  unfold errN bytesN
  unfold readR
  rw [if_neg (by rw [hc]; decide), hf]
  simp only []
  rw [if_neg (by omega)]
  refine ⟨rfl, ?_⟩
  rw [bs_data, hd, h.all, h.pos, List.drop_append, List.drop_of_length_le (by rw [headS_len]; omega), List.nil_append, headS_len]
  rw [show 11 + (blks ps).length - 11 = (blks ps).length by omega, List.drop_left]
theorem At.popped {m : N3} {D : ByteArray} {ps : List (List ByteArray)} {r : ByteArray} (h : At m D ps r) : At m.popped D ps r := ⟨h.get, h.down, h.ahead, h.sz, h.all, h.pos, h.left, h.bls, h.full, h.short, h.long, h.flat⟩
theorem At.ask {m : N3} {D : ByteArray} {ps : List (List ByteArray)} {r : ByteArray} (h : At m D ps r) : askN m.x = r.size ∨ roomN m.x.size ≤ (askN m.x : Nat) ∧ 17 ≤ askN m.x := by
  have hs : 1 ≤ m.x.size ∧ m.x.size ≤ 64 := by simpa [sizeB] using h.sz
  have hr : roomN m.x.size = 5 + 4 * m.x.size := by unfold roomN; rw [if_pos h.sz]
  have hl := h.left
  unfold askN
  rw [hr]
  omega
/-- What Get tells of what was read is what it tells of all that is left. -/
theorem At.got {m : N3} {D : ByteArray} {ps : List (List ByteArray)} {r : ByteArray} (h : At m D ps r) : gB m.x.size (bytesN m) = gB m.x.size r ∧ gL m.x.size (bytesN m) = gL m.x.size r ∧ gN m.x.size (bytesN m) = gN m.x.size r := by
  obtain ⟨_, hb⟩ := h.read
  rcases h.ask with ha | ha
  · have : bytesN m = r := ext_toList (by rw [hb, ha, List.take_of_length_le (by rw [data_length]; omega)])
    rw [this]; exact ⟨rfl, rfl, rfl⟩
  · exact take_get ha.1 hb
/-- It is the end of all just if the end of all is left. -/
theorem At.ends {m : N3} {D : ByteArray} {ps : List (List ByteArray)} {r : ByteArray} (h : At m D ps r) (hl : m.x.all.length ≤ 1000000) : isEnd m.x (bytesN m) ↔ tailB m.x.all r = true := by
  obtain ⟨_, hb⟩ := h.read
  have hg := h.got.1
  have hlen : (bytesN m).size = min (askN m.x) r.size := by rw [← data_length, hb, List.length_take, data_length]
  have hle : askN m.x ≤ r.size := by have := ask_left m.x; rw [h.left] at this; exact this
  constructor
  · rintro ⟨h1, h2, h3, h4, h5⟩
    have : bytesN m = r := ext_toList (by rw [hb, List.take_of_length_le (by rw [data_length]; have := h.left; omega)])
    rw [this] at h2 h4 h5
    unfold tailB
    simp [h2, h4, h5]
  · intro ht
    have he := (tail_iff hl r).1 ht
    have h17 : r.size = 17 := by rw [← data_length, he, endL_length]
    have hask : askN m.x = r.size := by
      rcases h.ask with ha | ha
      · exact ha
      · omega
    have hr : bytesN m = r := ext_toList (by rw [hb, hask, List.take_of_length_le (by rw [data_length]; omega)])
    have ht2 := ht
    unfold tailB at ht2
    simp only [Bool.and_eq_true, decide_eq_true_eq] at ht2
    obtain ⟨⟨e1, e2⟩, e3⟩ := ht2
    have hc : cntN r = 0 := by
      unfold eB at e1
      simp only [Bool.and_eq_true, decide_eq_true_eq] at e1
      exact e1.1.1.2
    have hgb : gB m.x.size r = false := by
      unfold gB
      rw [hc]; simp
    exact ⟨by rw [hr]; exact hgb, by rw [hr]; exact e1, by rw [hr, h.left], by rw [hr]; exact e2, by rw [hr]; exact e3⟩
theorem At.file {m : N3} {D : ByteArray} {ps : List (List ByteArray)} {r : ByteArray} (h : At m D ps r) (hl : m.x.all.length ≤ 1000000) (ht : tailB m.x.all r = true) : IsFile m.x.size D m.x.all := by
  rw [h.flat] at hl ht ⊢
  exact file_of h.sz h.bls h.full h.all hl ht
/-- Where no block is left, or one behind a short one, and no end of all, there is no file. -/
theorem At.none {m : N3} {D : ByteArray} {ps : List (List ByteArray)} {r : ByteArray} (h : At m D ps r) (hl : m.x.all.length ≤ 1000000) (hs : gB m.x.size r = false ∨ m.x.short = true) (ht : ¬ tailB m.x.all r = true) (L : List ByteArray) : ¬ IsFile m.x.size D L := by
  intro hi
  have hstop : gB m.x.size r = false ∨ ∃ p, ps.getLast? = some p ∧ p.length < 4 := hs.imp id h.short
  obtain ⟨e1, e2⟩ := file_not h.bls h.all hstop hi
  refine ht ((tail_iff hl r).2 ?_)
  rw [h.flat, e1]; exact e2
/-- Behind a block. -/
theorem At.block {m : N3} {D : ByteArray} {ps : List (List ByteArray)} {r : ByteArray} (h : At m D ps r) (hg : gB m.x.size r = true) (hsh : m.x.short = false) : ∃ r', At (m.asked.filled (bytesN m)) D (ps ++ [gL m.x.size r]) r' := by
  obtain ⟨g1, g2, g3⟩ := h.got
  obtain ⟨more, e1, hb, hn⟩ := get_head hg
  have hlong := h.long hsh
  have hc : m.s.call.down = false := by unfold St.call; simp [h.down, h.ahead]
  have hca : m.s.call.ahead = -1 := by show max (m.s.ahead - 1) (-1) = -1; rw [h.ahead]; decide
  have hk : blks (ps ++ [gL m.x.size r]) = blks ps ++ (cl (blk (gL m.x.size r))).data.toList := by rw [blks_app]; simp [blks]
  have hsz : (gN m.x.size r).toNat = (cl (blk (gL m.x.size r))).size := by rw [hn]; rfl
  have hp := blk_parts hb
  refine ⟨bs more, h.get, hc, hca, h.sz, ?_, ?_, ?_, ?_, ?_, ?_, ?_, ?_⟩
  · rw [h.all, hk, e1, bs_data]; simp only [List.append_assoc]; rfl
  · show m.x.pos + (gN m.x.size (bytesN m)).toNat = _
    rw [g3, hsz, hk, List.length_append, h.pos, data_length]; omega
  · show m.x.left - (gN m.x.size (bytesN m)).toNat = _
    have : r.size = (cl (blk (gL m.x.size r))).size + more.length := by rw [← data_length, e1, List.length_append, data_length]
    rw [g3, hsz, h.left, bs_size]; omega
  · intro p hpm
    rcases List.mem_append.1 hpm with hpm | hpm
    · exact h.bls p hpm
    · rw [List.mem_singleton.1 hpm]; exact hb
  · intro j p hj hj2
    rw [List.length_append, List.length_singleton] at hj2
    rw [List.getElem?_append_left (by omega)] at hj
    exact hlong p (List.mem_of_getElem? hj)
  · intro hs
    have hs' : decide ((gL m.x.size (bytesN m)).length < 4) = true := hs
    rw [g2, decide_eq_true_iff] at hs'
    exact ⟨_, by simp, hs'⟩
  · intro hs p hpm
    have hs' : decide ((gL m.x.size (bytesN m)).length < 4) = false := hs
    rw [g2, decide_eq_false_iff_not] at hs'
    rcases List.mem_append.1 hpm with hpm | hpm
    · exact hlong p hpm
    · rw [List.mem_singleton.1 hpm]; have := hp.2.1; omega
  · show m.x.all ++ gL m.x.size (bytesN m) = _
    rw [g2, h.flat]; simp
end RdPlain
end Go.Proofs.Ytojlceoeacebmaa
/- Plain facts: a reader that is opened over a file, where no call fails; how many records it can tell. -/
namespace Go.Proofs.Ytojlceoeacebmaa
open Go.RowKit FsPlain CrcPlain OctPlain FramePlain RecPlain
set_option linter.unusedVariables false
set_option linter.unusedSimpArgs false
set_option maxRecDepth 20000
namespace RdPlain
theorem heads_all : (List.range 65).all (fun n => decide (n = 0) || (ghB (headS (n : Int)) && decide (ghN (headS (n : Int)) = (n : Int)))) = true := by kernel_rfl
/-- GetHead tells the size of which the head is. -/
theorem head_told {size : Int} (h : sizeB size = true) : ghB (headS size) = true ∧ ghN (headS size) = size := by
  have hs : 1 ≤ size ∧ size ≤ 64 := by simpa [sizeB] using h
  obtain ⟨n, rfl⟩ : ∃ n : Nat, size = n := ⟨size.toNat, by omega⟩
  have := List.all_eq_true.1 heads_all n (List.mem_range.2 (by omega))
  simp only [Bool.or_eq_true, Bool.and_eq_true, decide_eq_true_eq] at this
  rcases this with h0 | h0
  · omega
  · exact h0
/-- Of what GetHead tells a size, that is the head. -/
theorem told_head {t : ByteArray} {size : Int} (h : sizeB size = true) (h1 : ghB t = true) (h2 : ghN t = size) : t = headS size := by
  have hk : ghK t = size := by unfold ghN at h2; rw [if_pos h1] at h2; exact h2
  unfold ghB at h1
  simp only [Bool.and_eq_true, decide_eq_true_eq] at h1
  rw [hk, headR_yes h] at h1
  exact h1.2.symm
theorem file_begins {size : Int} {D : ByteArray} {L : List ByteArray} (h : IsFile size D L) : D.data.toList = (headS size).data.toList ++ (blks (ups L (cnt4 L)) ++ endL L) := h.2
theorem file_len {size : Int} {D : ByteArray} {L : List ByteArray} (h : IsFile size D L) : 28 ≤ D.size := by
  have := congrArg List.length (file_begins h)
  rw [data_length, List.length_append, List.length_append, headS_len, endL_length] at this
  omega
/-- A disk that does not fail, with a file of these bytes. -/
structure Stands (s : St) (n : List UInt8) (D : ByteArray) : Prop where
  get : ∃ f, s.get n = some f ∧ f.data = D.data.toList
  down : s.down = false
  ahead : s.ahead = -1
theorem Stands.call {s : St} {n : List UInt8} {D : ByteArray} (h : Stands s n D) : Stands s.call n D ∧ s.call.down = false := by
  have hc : s.call.down = false := by unfold St.call; simp [h.down, h.ahead]
  exact ⟨⟨h.get, hc, by show max (s.ahead - 1) (-1) = -1; rw [h.ahead]; decide⟩, hc⟩
theorem Stands.size {s : St} {n : List UInt8} {D : ByteArray} (h : Stands s n D) : sizeR s n = ((D.size : Int), 0) := by
  obtain ⟨f, hf, hd⟩ := h.get
  unfold sizeR
  rw [if_neg (by rw [h.call.2]; decide), hf]
  simp only [hd, data_length]
theorem Stands.read {s : St} {n : List UInt8} {D : ByteArray} (h : Stands s n D) (k : Nat) (hk : k ≤ D.size) : readR s n 0 k = (D.data.toList.take k, 0) := by
  obtain ⟨f, hf, hd⟩ := h.get
  unfold readR
  rw [if_neg (by rw [h.call.2]; decide), hf]
  simp only [hd]
  rw [if_neg (by rw [data_length]; omega)]
  simp
/-- Open over such a file: it is open, or there is no file of records at all. -/
theorem open_at {s : St} {b : Bu} {nm : ByteArray} {size : Int} {D : ByteArray} (h : Stands s nm.data.toList D) (hz : sizeB size = true) (hb : b.takeE 4 = 0) :
    ((openN s b nm size).2.2.1 = 0 ∧ ∃ r, At ⟨(openN s b nm size).1, (openN s b nm size).2.1, newRs nm size (openN s b nm size).2.2.2⟩ D [] r) ∨
    ((openN s b nm size).2.2.1 = 6 ∧ (∀ L, ¬ IsFile size D L) ∧ (openN s b nm size).2.1 = (b.take 4).give 4) := by
  have e1 := h.size
  by_cases h11 : D.size < 11
  · right
    have e : openN s b nm size = (s.call, (b.take 4).give 4, 6, 0) := by
      unfold openN
      rw [if_neg (by rw [hz]; decide), if_neg (by rw [hb]; decide), e1, if_neg (by simp), if_pos (by simp only []; omega)]
    rw [e]
    refine ⟨rfl, fun L hi => ?_, rfl⟩
    have := (file_len hi); omega
  · have e2 := h.call.1.read 11 (by omega)
    have e : openN s b nm size = if ¬ (ghB (bs (D.data.toList.take 11)) = true ∧ ghN (bs (D.data.toList.take 11)) = size) then (s.call.call, (b.take 4).give 4, 6, 0) else (s.call.call, b.take 4, 0, D.size - 11) := by
      unfold openN
      rw [if_neg (by rw [hz]; decide), if_neg (by rw [hb]; decide), e1, if_neg (by simp), if_neg (by simp only []; omega), e2, if_neg (by simp)]
      simp only [Int.toNat_natCast]
    by_cases hh : ghB (bs (D.data.toList.take 11)) = true ∧ ghN (bs (D.data.toList.take 11)) = size
    · left
      rw [if_neg (by simpa using hh)] at e
      have ht := told_head hz hh.1 hh.2
      have hd : D.data.toList = (headS size).data.toList ++ D.data.toList.drop 11 := by
        rw [← ht, bs_data, List.take_append_drop]
      rw [e]
      refine ⟨rfl, bs (D.data.toList.drop 11), ?_⟩
      obtain ⟨c1, _⟩ := h.call.1.call
      refine ⟨c1.get, c1.down, c1.ahead, hz, by rw [bs_data]; exact hd, rfl, ?_, (fun p hp => by cases hp), (fun j p hj => by simp at hj), (fun hs => by cases hs), (fun _ p hp => by cases hp), rfl⟩
      show D.size - 11 = _
      rw [bs_size, List.length_drop, data_length]
    · right
      rw [if_pos hh] at e
      rw [e]
      refine ⟨rfl, fun L hi => hh ?_, rfl⟩
      have hd := file_begins hi
      have ht : bs (D.data.toList.take 11) = headS size := by
        rw [hd, List.take_append_of_le_length (by rw [headS_len]; omega), List.take_of_length_le (by rw [headS_len]; omega)]
        exact bs_toList _
      rw [ht]; exact head_told hz
/-- No more records are told than there are bytes. -/
theorem blks_len {size : Int} : ∀ {ps : List (List ByteArray)}, (∀ p ∈ ps, blkB size p = true) → ps.flatten.length ≤ (blks ps).length
  | [], _ => by simp [blks]
  | p :: ps, h => by
    have ih := blks_len (ps := ps) fun q hq => h q (List.mem_cons_of_mem _ hq)
    obtain ⟨n, e1, _, _, e2, _⟩ := blk_cl (h p (by simp))
    obtain ⟨h1, _, _⟩ := blk_parts (h p (by simp))
    have hs : 1 ≤ size ∧ size ≤ 64 := by simpa [sizeB] using h1
    rw [blks_cons, List.flatten_cons, List.length_append, List.length_append, data_length, e1]
    have : (p.length : Int) * 1 ≤ p.length * size := Int.mul_le_mul_of_nonneg_left (by omega) (by omega)
    omega
theorem At.few {m : N3} {D : ByteArray} {ps : List (List ByteArray)} {r : ByteArray} (h : At m D ps r) : m.x.all.length + 11 ≤ D.size := by
  have h1 := blks_len h.bls
  have h2 := congrArg List.length h.all
  rw [data_length, List.length_append, List.length_append, headS_len] at h2
  rw [h.flat]; omega
/-- Of a file, what was read is a beginning of its records. -/
theorem At.start {m : N3} {D : ByteArray} {ps : List (List ByteArray)} {r : ByteArray} {L : List ByteArray} (h : At m D ps r) (hi : IsFile m.x.size D L) : m.x.all.length ≤ L.length := by
  have h1 := h.all
  rw [file_begins hi] at h1
  have h2 := List.append_cancel_left h1
  obtain ⟨cs, c1, _⟩ := blks_pre _ _ _ _ h.bls (ups_blk hi.1) (endL_cons L) h2.symm
  have := congrArg List.length (congrArg List.flatten c1)
  rw [ups_all, List.flatten_append, List.length_append] at this
  rw [h.flat]; omega
end RdPlain
end Go.Proofs.Ytojlceoeacebmaa
/- A name; more on parts that lie apart. -/
namespace Go.Proofs.Ytojlceoeacebmaa
open Go.RowKit FsPlain
set_option linter.unusedVariables false
set_option linter.unusedSimpArgs false
set_option maxRecDepth 20000
def nmA : ByteArray := ⟨#[97]⟩
theorem nmA_right : rightB nmA.data.toList = true := by decide
theorem nmA_size : nmA.size ≤ 24 := by decide
theorem pre_nx {w : World} {B : Nat → Prop} (L : List Asn) {M : List Asn} (hM : Frs M) (h : stars (L ++ M) w B) : ∃ B1, stars L w B1 ∧ ∀ (L' : List Asn) (w' : World) (B' : Nat → Prop), stars L' w' B' → Nx B1 w B' w' → ∃ B3, stars (L' ++ M) w' B3 ∧ Nx B w B3 w' := by
  obtain ⟨B1, h1, k⟩ := pre_next L hM h
  exact ⟨B1, h1, fun _ _ _ => k⟩
theorem suf_nx {w : World} {B : Nat → Prop} (L : List Asn) {M : List Asn} (hL : Frs L) (h : stars (L ++ M) w B) : ∃ B1, stars M w B1 ∧ ∀ (M' : List Asn) (w' : World) (B' : Nat → Prop), stars M' w' B' → Nx B1 w B' w' → ∃ B3, stars (L ++ M') w' B3 ∧ Nx B w B3 w' := by
  obtain ⟨B1, h1, k⟩ := suf_next L hL h
  exact ⟨B1, h1, fun _ _ _ => k⟩
theorem stars_none (w : World) : stars [] w (fun _ => False) := fun _ h => h
theorem frs_app : ∀ {L M : List Asn}, Frs L → Frs M → Frs (L ++ M)
  | [], _, _, h => h
  | _ :: _, _, h, k => ⟨h.1, frs_app h.2 k⟩
theorem stars_one {P : Asn} {w : World} {B : Nat → Prop} (h : P w B) : stars [P] w B := ⟨B, fun _ => False, h, (fun _ h => h), (fun _ _ h => h), fun b => (or_false _).symm ▸ Iff.rfl⟩
end Go.Proofs.Ytojlceoeacebmaa

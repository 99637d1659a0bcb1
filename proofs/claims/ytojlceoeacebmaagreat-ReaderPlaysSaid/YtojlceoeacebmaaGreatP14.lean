/- In one text: Rd8, Rd9. -/
import Derived.Test.YtojlceoeacebmaaGreatP13
import Derived.Test.YtojlceoeacebmaaGreatP06
import Derived.Test.YtojlceoeacebmaaGreatP01
/- The program's reader: begin, Open. -/
namespace Go.Proofs.YtojlceoeacebmaaGreat
open Go.RowKit FsPlain CrcPlain OctPlain FramePlain RecPlain RdPlain
set_option linter.unusedVariables false
set_option linter.unusedSimpArgs false
set_option maxRecDepth 20000
/-- What begin leaves of a disk, its error, and how many bytes are left. -/
def RdPlain.beginN (s : St) (nm : ByteArray) (size : Int) : St × Int × Nat :=
  if ¬ (sizeR s nm.data.toList).2 = 0 then (s.call, (sizeR s nm.data.toList).2, 0)
  else if (sizeR s nm.data.toList).1 < 11 then (s.call, 6, 0)
  else if ¬ (readR s.call nm.data.toList 0 11).2 = 0 then (s.call.call, (readR s.call nm.data.toList 0 11).2, 0)
  else if ¬ (ghB (bs (readR s.call nm.data.toList 0 11).1) = true ∧ ghN (bs (readR s.call nm.data.toList 0 11).1) = size) then (s.call.call, 6, 0)
  else (s.call.call, 0, (sizeR s nm.data.toList).1.toNat - 11)
theorem begin_open (s : St) (b : Bu) (nm : ByteArray) (size : Int) : openN s b nm size = if sizeB size = false then (s, b, 1, 0) else if ¬ b.takeE 4 = 0 then (s, b.take 4, b.takeE 4, 0) else if ¬ (beginN s nm size).2.1 = 0 then ((beginN s nm size).1, (b.take 4).give 4, (beginN s nm size).2.1, 0) else ((beginN s nm size).1, b.take 4, 0, (beginN s nm size).2.2) := by
  unfold openN beginN
  by_cases h1 : sizeB size = false
  · rw [if_pos h1, if_pos h1]
  · rw [if_neg h1, if_neg h1]
    by_cases h2 : b.takeE 4 = 0
    · generalize sizeR s nm.data.toList = S
      generalize readR s.call nm.data.toList 0 11 = R
      by_cases h3 : S.2 = 0 <;> by_cases h4 : S.1 < 11 <;> by_cases h5 : R.2 = 0 <;> by_cases h6 : (ghB (bs R.1) = true ∧ ghN (bs R.1) = size) <;> simp [h2, h3, h4, h5, h6]
    · rw [if_pos h2, if_pos h2]
def srcC (D : Nat) (nm : ByteArray) (pos left : Nat) : Array Value := #[.pointer (some ⟨D, 0, none⟩), .string nm, .int .i64 (pos : Nat), .int .i64 (left : Nat)]
theorem src_srcC (D : Nat) (nm : ByteArray) (pos left : Nat) : IsSrc (srcC D nm pos left) D nm pos left := ⟨rfl, rfl, rfl, rfl⟩
/-- The bytes' place alone, the disk with it. -/
def sdl (q D : Nat) (nm : ByteArray) (pos left : Nat) (s : St) : List Asn := [Blk q (srcC D nm pos left) 60, DiskA D s]
theorem sdl_drop {q D : Nat} {nm : ByteArray} {pos left : Nat} {s : St} {w : World} {B : Nat → Prop} (h : stars (sdl q D nm pos left s) w B) : ∃ B', stars [DiskA D s] w B' ∧ Nx B w B' w := stars_drop h
set_option maxHeartbeats 4000000 in
theorem sb_err (q D : Nat) (s : St) (nm : ByteArray) (size : Int) (hs : s.ok) (hn : nm.size ≤ 24) (hm : rightB nm.data.toList = true) (hk : s.calls ≤ 100000000000) (he : ¬ (sizeR s nm.data.toList).2 = 0) (w : World) (B : Nat → Prop) (h : stars (sdl q D nm 0 0 s) w B) :
    Calls Tryz.prog 42 #[.pointer (some ⟨q, 0, none⟩), .int .i64 size] w (Does w B (stars [DiskA D s.call]) (.int .i64 (sizeR s nm.data.toList).2)) := by
  obtain ⟨sn, hsn⟩ : ∃ sn, sn = (sizeR s nm.data.toList).1 := ⟨_, rfl⟩
  obtain ⟨e1, he1⟩ : ∃ e1, e1 = (sizeR s nm.data.toList).2 := ⟨_, rfl⟩
  have hsl : sn ≤ 16777216 := by rw [hsn]; exact sizeR_le hs nm.data.toList
  have K0 : ∀ u, Gr w u → u.cell? ⟨q, 0, none⟩ = some (.pointer (some ⟨D, 0, none⟩)) ∧ u.cell? ⟨q, 1, none⟩ = some (.string nm) := fun u g => by
    have := src_at (src_srcC D nm 0 0) (sd_blk (stars_gr (frs_sd _ _ _ _ _) h g))
    exact ⟨this.1, this.2.1⟩
  have CZ : ∀ u, Gr w u → Calls Tryz.prog 68 #[.pointer (some ⟨D, 0, none⟩), .string nm] u fun e w' => e = .returned (.tuple #[.int .i64 sn, .int .i64 e1]) ∧ (∃ B', stars (sdl q D nm 0 0 s.call) w' B' ∧ Nx B w B' w') ∧ (w'.cell? ⟨q, 0, none⟩ = some (.pointer (some ⟨D, 0, none⟩)) ∧ w'.cell? ⟨q, 1, none⟩ = some (.string nm)) := fun u g => by
    rw [hsn, he1]
    have C := does_at (f := 68) (Q := DiskA D s.call) 1 rfl (frs_sd _ _ _ _ _) (stars_gr (frs_sd _ _ _ _ _) h g) fun B2 h2 => d_size D s nm (by omega) hm (by omega) u B2 h2
    refine C.mono ?_
    rintro e w' ⟨he, B', h', n'⟩
    have := src_at (src_srcC D nm 0 0) (sd_blk h')
    exact ⟨he, ⟨B', h', (Nx.gr g).trans n'⟩, this.1, this.2.1⟩
  have KS := Lib.hid K0
  have CZH := Lib.hid CZ
  have gU := Gr.refl w
  have gUd : Gr w w.drew := Below.drew gU
  have he0 : ¬ e1 = 0 := by rw [he1]; exact he
  have t1 : (e1 == 0) = false := by simpa using he0
  have t2' : (e1 != 0) = true := by simpa using he0
  rw [← he1]
  clear h K0 CZ hs hn hm hk hsn he1 he he0
  go_enter Tryz.func42, Tryz.ntmps42
  go_wp2_with fail
  go_region_held3 (fun w' => w'.cell? ⟨q, 0, none⟩ = some (.pointer (some ⟨D, 0, none⟩)) ∧ w'.cell? ⟨q, 1, none⟩ = some (.string nm)) (first | exact KS.out _ gUd | exact KS.out _ (by assumption) | assumption | go_keep)
    ((go_at_call 68; refine (CZH.out _ (by assumption)).mono ?_; rintro e t2 ⟨rfl, hst, hks⟩))
  obtain ⟨B2, h2, n2⟩ := hst
  obtain ⟨B3, h3, n3⟩ := sdl_drop h2
  have H3 := Lib.hid h3
  have N3 := Lib.hid (n2.trans n3)
  clear h2 n2 h3 n3 hks
  go_wp2_with fail
  go_ret
  exact ⟨rfl, B3, H3.out, N3.out⟩
set_option maxHeartbeats 4000000 in
theorem sb_few (q D : Nat) (s : St) (nm : ByteArray) (size : Int) (hs : s.ok) (hn : nm.size ≤ 24) (hm : rightB nm.data.toList = true) (hk : s.calls ≤ 100000000000) (he : (sizeR s nm.data.toList).2 = 0) (hf : (sizeR s nm.data.toList).1 < 11) (w : World) (B : Nat → Prop) (h : stars (sdl q D nm 0 0 s) w B) :
    Calls Tryz.prog 42 #[.pointer (some ⟨q, 0, none⟩), .int .i64 size] w (Does w B (stars [DiskA D s.call]) (.int .i64 6)) := by
  obtain ⟨sn, hsn⟩ : ∃ sn, sn = (sizeR s nm.data.toList).1 := ⟨_, rfl⟩
  obtain ⟨e1, he1⟩ : ∃ e1, e1 = (sizeR s nm.data.toList).2 := ⟨_, rfl⟩
  have hsl : sn ≤ 16777216 := by rw [hsn]; exact sizeR_le hs nm.data.toList
  have K0 : ∀ u, Gr w u → u.cell? ⟨q, 0, none⟩ = some (.pointer (some ⟨D, 0, none⟩)) ∧ u.cell? ⟨q, 1, none⟩ = some (.string nm) := fun u g => by
    have := src_at (src_srcC D nm 0 0) (sd_blk (stars_gr (frs_sd _ _ _ _ _) h g))
    exact ⟨this.1, this.2.1⟩
  have CZ : ∀ u, Gr w u → Calls Tryz.prog 68 #[.pointer (some ⟨D, 0, none⟩), .string nm] u fun e w' => e = .returned (.tuple #[.int .i64 sn, .int .i64 e1]) ∧ (∃ B', stars (sdl q D nm 0 0 s.call) w' B' ∧ Nx B w B' w') ∧ (w'.cell? ⟨q, 0, none⟩ = some (.pointer (some ⟨D, 0, none⟩)) ∧ w'.cell? ⟨q, 1, none⟩ = some (.string nm)) := fun u g => by
    rw [hsn, he1]
    have C := does_at (f := 68) (Q := DiskA D s.call) 1 rfl (frs_sd _ _ _ _ _) (stars_gr (frs_sd _ _ _ _ _) h g) fun B2 h2 => d_size D s nm (by omega) hm (by omega) u B2 h2
    refine C.mono ?_
    rintro e w' ⟨he, B', h', n'⟩
    have := src_at (src_srcC D nm 0 0) (sd_blk h')
    exact ⟨he, ⟨B', h', (Nx.gr g).trans n'⟩, this.1, this.2.1⟩
  have KS := Lib.hid K0
  have CZH := Lib.hid CZ
  have gU := Gr.refl w
  have gUd : Gr w w.drew := Below.drew gU
  have he0 : e1 = 0 := by rw [he1]; exact he
  subst he0
  have hf1 : sn < 11 := by rw [hsn]; exact hf
  clear h K0 CZ hs hn hm hk hsn he1 he hf
  go_enter Tryz.func42, Tryz.ntmps42
  go_wp2_with fail
  go_region_held3 (fun w' => w'.cell? ⟨q, 0, none⟩ = some (.pointer (some ⟨D, 0, none⟩)) ∧ w'.cell? ⟨q, 1, none⟩ = some (.string nm)) (first | exact KS.out _ gUd | exact KS.out _ (by assumption) | assumption | go_keep)
    ((go_at_call 68; refine (CZH.out _ (by assumption)).mono ?_; rintro e t2 ⟨rfl, hst, hks⟩))
  obtain ⟨B2, h2, n2⟩ := hst
  obtain ⟨B3, h3, n3⟩ := sdl_drop h2
  have H3 := Lib.hid h3
  have N3 := Lib.hid (n2.trans n3)
  clear h2 n2 h3 n3 hks
  go_wp2_with fail
  go_ret
  exact ⟨rfl, B3, H3.out, N3.out⟩
set_option maxHeartbeats 4000000 in
theorem sb_read (q D : Nat) (s : St) (nm : ByteArray) (size : Int) (hs : s.ok) (hn : nm.size ≤ 24) (hm : rightB nm.data.toList = true) (hk : s.calls ≤ 100000000000) (he : (sizeR s nm.data.toList).2 = 0) (hf : ¬ (sizeR s nm.data.toList).1 < 11) (hr : ¬ (readR s.call nm.data.toList 0 11).2 = 0) (w : World) (B : Nat → Prop) (h : stars (sdl q D nm 0 0 s) w B) :
    Calls Tryz.prog 42 #[.pointer (some ⟨q, 0, none⟩), .int .i64 size] w (Does w B (stars [DiskA D s.call.call]) (.int .i64 (readR s.call nm.data.toList 0 11).2)) := by
  obtain ⟨sn, hsn⟩ : ∃ sn, sn = (sizeR s nm.data.toList).1 := ⟨_, rfl⟩
  obtain ⟨e1, he1⟩ : ∃ e1, e1 = (sizeR s nm.data.toList).2 := ⟨_, rfl⟩
  have hsl : sn ≤ 16777216 := by rw [hsn]; exact sizeR_le hs nm.data.toList
  have K0 : ∀ u, Gr w u → u.cell? ⟨q, 0, none⟩ = some (.pointer (some ⟨D, 0, none⟩)) ∧ u.cell? ⟨q, 1, none⟩ = some (.string nm) := fun u g => by
    have := src_at (src_srcC D nm 0 0) (sd_blk (stars_gr (frs_sd _ _ _ _ _) h g))
    exact ⟨this.1, this.2.1⟩
  have CZ : ∀ u, Gr w u → Calls Tryz.prog 68 #[.pointer (some ⟨D, 0, none⟩), .string nm] u fun e w' => e = .returned (.tuple #[.int .i64 sn, .int .i64 e1]) ∧ (∃ B', stars (sdl q D nm 0 0 s.call) w' B' ∧ Nx B w B' w') ∧ (w'.cell? ⟨q, 0, none⟩ = some (.pointer (some ⟨D, 0, none⟩)) ∧ w'.cell? ⟨q, 1, none⟩ = some (.string nm)) := fun u g => by
    rw [hsn, he1]
    have C := does_at (f := 68) (Q := DiskA D s.call) 1 rfl (frs_sd _ _ _ _ _) (stars_gr (frs_sd _ _ _ _ _) h g) fun B2 h2 => d_size D s nm (by omega) hm (by omega) u B2 h2
    refine C.mono ?_
    rintro e w' ⟨he, B', h', n'⟩
    have := src_at (src_srcC D nm 0 0) (sd_blk h')
    exact ⟨he, ⟨B', h', (Nx.gr g).trans n'⟩, this.1, this.2.1⟩
  have KS := Lib.hid K0
  have CZH := Lib.hid CZ
  have gU := Gr.refl w
  have gUd : Gr w w.drew := Below.drew gU
  have he0 : e1 = 0 := by rw [he1]; exact he
  subst he0
  obtain ⟨L, hL⟩ : ∃ L : Nat, sn = (L : Nat) := ⟨sn.toNat, by rw [← hsn] at hf; omega⟩
  have hf1 : ¬ (L : Int) < 11 := by rw [← hL, hsn]; exact hf
  have hsl2 : (L : Int) ≤ 16777216 := by rw [← hL]; exact hsl
  subst hL
  have hmn : min 11 L = 11 := by omega
  obtain ⟨t, ht⟩ : ∃ t, t = bs (readR s.call nm.data.toList 0 11).1 := ⟨_, rfl⟩
  obtain ⟨e2, he2⟩ : ∃ e2, e2 = (readR s.call nm.data.toList 0 11).2 := ⟨_, rfl⟩
  have CL0 : ∀ u B1, stars (sdl q D nm 0 L s.call) u B1 → Calls Tryz.prog 69 #[.pointer (some ⟨q, 0, none⟩), .int .i64 11] u (Does u B1 (stars (sdl q D nm 0 L s.call.call)) (.tuple #[.string t, .int .i64 e2])) := fun u B1 h1 => by
    have C := src_look q D (srcC D nm 0 L) 60 s.call nm 0 L 11 (src_srcC _ _ _ _) hn hm (by show s.calls + 1 ≤ _; omega) (by omega) (by omega) u B1 h1
    rw [hmn, ← ht, ← he2] at C
    exact C
  have CL := Lib.hid CL0
  have CG := Lib.hid (fun u => gethead_c t u)
  have he0 : ¬ e2 = 0 := by rw [he2]; exact hr
  have t1 : (e2 == 0) = false := by simpa using he0
  have t2' : (e2 != 0) = true := by simpa using he0
  rw [← he2]
  clear h K0 CZ hs hn hm hk hsn he1 he hf CL0 ht he2 hr he0 hmn
  go_enter Tryz.func42, Tryz.ntmps42
  go_wp2_with fail
  go_region_held3 (fun w' => w'.cell? ⟨q, 0, none⟩ = some (.pointer (some ⟨D, 0, none⟩)) ∧ w'.cell? ⟨q, 1, none⟩ = some (.string nm)) (first | exact KS.out _ gUd | exact KS.out _ (by assumption) | assumption | go_keep)
    ((go_at_call 68; refine (CZH.out _ (by assumption)).mono ?_; rintro e t2 ⟨rfl, hst, hks⟩))
  obtain ⟨B2, h2, n2⟩ := hst
  have hb2 := sd_blk h2
  have d3 : t2.cell? ⟨q, 3, none⟩ = some (.int .i64 0) := by rw [cells_at hb2]; rfl
  have f3 := cells_free hb2 3
  obtain ⟨B3, h3, n3⟩ := step_at (w' := t2.setCell ⟨q, 3, none⟩ (.int .i64 (L : Nat))) (Q := Blk q (srcC D nm 0 L) 60) 0 rfl (frs_sd _ _ _ _ _) h2 fun B1 h1 => blk_next h1 (.int .i64 (L : Nat))
  obtain ⟨V, hV⟩ : ∃ V, V = t2.setCell ⟨q, 3, none⟩ (.int .i64 (L : Nat)) := ⟨_, rfl⟩
  rw [← hV] at h3 n3
  have CL1 := Lib.hid (CL.out V B3 h3)
  have N3 := Lib.hid (n2.trans n3)
  have HV := Lib.hid hV
  clear h2 n2 h3 n3 hb2 hks hV
  go_wp2_with fail
  rw [← HV.out]
  refine CL1.out.mono ?_; rintro e w4 hd
  obtain ⟨rfl, B4, h4, n4⟩ := hd
  have H4 := Lib.hid h4
  have N4 := Lib.hid (N3.out.trans n4)
  clear h4 n4 CL1
  go_wp2_with fail
  obtain ⟨B5, h5, n5⟩ := sdl_drop H4.out
  go_ret
  exact ⟨rfl, B5, h5, N4.out.trans n5⟩
set_option maxHeartbeats 4000000 in
theorem sb_nohead (q D : Nat) (s : St) (nm : ByteArray) (size : Int) (hs : s.ok) (hn : nm.size ≤ 24) (hm : rightB nm.data.toList = true) (hk : s.calls ≤ 100000000000) (he : (sizeR s nm.data.toList).2 = 0) (hf : ¬ (sizeR s nm.data.toList).1 < 11) (hr : (readR s.call nm.data.toList 0 11).2 = 0) (hg : ghB (bs (readR s.call nm.data.toList 0 11).1) = false) (w : World) (B : Nat → Prop) (h : stars (sdl q D nm 0 0 s) w B) :
    Calls Tryz.prog 42 #[.pointer (some ⟨q, 0, none⟩), .int .i64 size] w (Does w B (stars [DiskA D s.call.call]) (.int .i64 6)) := by
  obtain ⟨sn, hsn⟩ : ∃ sn, sn = (sizeR s nm.data.toList).1 := ⟨_, rfl⟩
  obtain ⟨e1, he1⟩ : ∃ e1, e1 = (sizeR s nm.data.toList).2 := ⟨_, rfl⟩
  have hsl : sn ≤ 16777216 := by rw [hsn]; exact sizeR_le hs nm.data.toList
  have K0 : ∀ u, Gr w u → u.cell? ⟨q, 0, none⟩ = some (.pointer (some ⟨D, 0, none⟩)) ∧ u.cell? ⟨q, 1, none⟩ = some (.string nm) := fun u g => by
    have := src_at (src_srcC D nm 0 0) (sd_blk (stars_gr (frs_sd _ _ _ _ _) h g))
    exact ⟨this.1, this.2.1⟩
  have CZ : ∀ u, Gr w u → Calls Tryz.prog 68 #[.pointer (some ⟨D, 0, none⟩), .string nm] u fun e w' => e = .returned (.tuple #[.int .i64 sn, .int .i64 e1]) ∧ (∃ B', stars (sdl q D nm 0 0 s.call) w' B' ∧ Nx B w B' w') ∧ (w'.cell? ⟨q, 0, none⟩ = some (.pointer (some ⟨D, 0, none⟩)) ∧ w'.cell? ⟨q, 1, none⟩ = some (.string nm)) := fun u g => by
    rw [hsn, he1]
    have C := does_at (f := 68) (Q := DiskA D s.call) 1 rfl (frs_sd _ _ _ _ _) (stars_gr (frs_sd _ _ _ _ _) h g) fun B2 h2 => d_size D s nm (by omega) hm (by omega) u B2 h2
    refine C.mono ?_
    rintro e w' ⟨he, B', h', n'⟩
    have := src_at (src_srcC D nm 0 0) (sd_blk h')
    exact ⟨he, ⟨B', h', (Nx.gr g).trans n'⟩, this.1, this.2.1⟩
  have KS := Lib.hid K0
  have CZH := Lib.hid CZ
  have gU := Gr.refl w
  have gUd : Gr w w.drew := Below.drew gU
  have he0 : e1 = 0 := by rw [he1]; exact he
  subst he0
  obtain ⟨L, hL⟩ : ∃ L : Nat, sn = (L : Nat) := ⟨sn.toNat, by rw [← hsn] at hf; omega⟩
  have hf1 : ¬ (L : Int) < 11 := by rw [← hL, hsn]; exact hf
  have hsl2 : (L : Int) ≤ 16777216 := by rw [← hL]; exact hsl
  subst hL
  have hmn : min 11 L = 11 := by omega
  obtain ⟨t, ht⟩ : ∃ t, t = bs (readR s.call nm.data.toList 0 11).1 := ⟨_, rfl⟩
  obtain ⟨e2, he2⟩ : ∃ e2, e2 = (readR s.call nm.data.toList 0 11).2 := ⟨_, rfl⟩
  have CL0 : ∀ u B1, stars (sdl q D nm 0 L s.call) u B1 → Calls Tryz.prog 69 #[.pointer (some ⟨q, 0, none⟩), .int .i64 11] u (Does u B1 (stars (sdl q D nm 0 L s.call.call)) (.tuple #[.string t, .int .i64 e2])) := fun u B1 h1 => by
    have C := src_look q D (srcC D nm 0 L) 60 s.call nm 0 L 11 (src_srcC _ _ _ _) hn hm (by show s.calls + 1 ≤ _; omega) (by omega) (by omega) u B1 h1
    rw [hmn, ← ht, ← he2] at C
    exact C
  have CL := Lib.hid CL0
  have CG := Lib.hid (fun u => gethead_c t u)
  have he0 : e2 = 0 := by rw [he2]; exact hr
  subst he0
  rw [← ht] at hg
  obtain ⟨gn, hgn⟩ : ∃ gn, gn = ghN t := ⟨_, rfl⟩
  rw [hg, ← hgn] at CG
  clear h K0 CZ hs hn hm hk hsn he1 he hf CL0 ht he2 hr hmn hg hgn
  go_enter Tryz.func42, Tryz.ntmps42
  go_wp2_with fail
  go_region_held3 (fun w' => w'.cell? ⟨q, 0, none⟩ = some (.pointer (some ⟨D, 0, none⟩)) ∧ w'.cell? ⟨q, 1, none⟩ = some (.string nm)) (first | exact KS.out _ gUd | exact KS.out _ (by assumption) | assumption | go_keep)
    ((go_at_call 68; refine (CZH.out _ (by assumption)).mono ?_; rintro e t2 ⟨rfl, hst, hks⟩))
  obtain ⟨B2, h2, n2⟩ := hst
  have hb2 := sd_blk h2
  have d3 : t2.cell? ⟨q, 3, none⟩ = some (.int .i64 0) := by rw [cells_at hb2]; rfl
  have f3 := cells_free hb2 3
  obtain ⟨B3, h3, n3⟩ := step_at (w' := t2.setCell ⟨q, 3, none⟩ (.int .i64 (L : Nat))) (Q := Blk q (srcC D nm 0 L) 60) 0 rfl (frs_sd _ _ _ _ _) h2 fun B1 h1 => blk_next h1 (.int .i64 (L : Nat))
  obtain ⟨V, hV⟩ : ∃ V, V = t2.setCell ⟨q, 3, none⟩ (.int .i64 (L : Nat)) := ⟨_, rfl⟩
  rw [← hV] at h3 n3
  have CL1 := Lib.hid (CL.out V B3 h3)
  have N3 := Lib.hid (n2.trans n3)
  have HV := Lib.hid hV
  clear h2 n2 h3 n3 hb2 hks hV
  go_wp2_with fail
  rw [← HV.out]
  refine CL1.out.mono ?_; rintro e w4 hd
  obtain ⟨rfl, B4, h4, n4⟩ := hd
  have H4 := Lib.hid h4
  have N4 := Lib.hid (N3.out.trans n4)
  clear h4 n4 CL1
  go_wp2_with fail
  refine (CG.out _).mono ?_; rintro e w5 ⟨rfl, g5⟩
  have h5 := stars_gr (frs_sd _ _ _ _ _) H4.out g5
  obtain ⟨B6, h6, n6⟩ := sdl_drop h5
  have H6 := Lib.hid h6
  have N6 := Lib.hid ((N4.out.trans (Nx.gr g5)).trans n6)
  clear g5 h5 h6 n6
  go_wp2_with fail
  go_ret
  exact ⟨rfl, B6, H6.out, N6.out⟩
set_option maxHeartbeats 4000000 in
theorem sb_other (q D : Nat) (s : St) (nm : ByteArray) (size : Int) (hs : s.ok) (hn : nm.size ≤ 24) (hm : rightB nm.data.toList = true) (hk : s.calls ≤ 100000000000) (he : (sizeR s nm.data.toList).2 = 0) (hf : ¬ (sizeR s nm.data.toList).1 < 11) (hr : (readR s.call nm.data.toList 0 11).2 = 0) (hg : ghB (bs (readR s.call nm.data.toList 0 11).1) = true) (hne : ¬ ghN (bs (readR s.call nm.data.toList 0 11).1) = size) (w : World) (B : Nat → Prop) (h : stars (sdl q D nm 0 0 s) w B) :
    Calls Tryz.prog 42 #[.pointer (some ⟨q, 0, none⟩), .int .i64 size] w (Does w B (stars [DiskA D s.call.call]) (.int .i64 6)) := by
  obtain ⟨sn, hsn⟩ : ∃ sn, sn = (sizeR s nm.data.toList).1 := ⟨_, rfl⟩
  obtain ⟨e1, he1⟩ : ∃ e1, e1 = (sizeR s nm.data.toList).2 := ⟨_, rfl⟩
  have hsl : sn ≤ 16777216 := by rw [hsn]; exact sizeR_le hs nm.data.toList
  have K0 : ∀ u, Gr w u → u.cell? ⟨q, 0, none⟩ = some (.pointer (some ⟨D, 0, none⟩)) ∧ u.cell? ⟨q, 1, none⟩ = some (.string nm) := fun u g => by
    have := src_at (src_srcC D nm 0 0) (sd_blk (stars_gr (frs_sd _ _ _ _ _) h g))
    exact ⟨this.1, this.2.1⟩
  have CZ : ∀ u, Gr w u → Calls Tryz.prog 68 #[.pointer (some ⟨D, 0, none⟩), .string nm] u fun e w' => e = .returned (.tuple #[.int .i64 sn, .int .i64 e1]) ∧ (∃ B', stars (sdl q D nm 0 0 s.call) w' B' ∧ Nx B w B' w') ∧ (w'.cell? ⟨q, 0, none⟩ = some (.pointer (some ⟨D, 0, none⟩)) ∧ w'.cell? ⟨q, 1, none⟩ = some (.string nm)) := fun u g => by
    rw [hsn, he1]
    have C := does_at (f := 68) (Q := DiskA D s.call) 1 rfl (frs_sd _ _ _ _ _) (stars_gr (frs_sd _ _ _ _ _) h g) fun B2 h2 => d_size D s nm (by omega) hm (by omega) u B2 h2
    refine C.mono ?_
    rintro e w' ⟨he, B', h', n'⟩
    have := src_at (src_srcC D nm 0 0) (sd_blk h')
    exact ⟨he, ⟨B', h', (Nx.gr g).trans n'⟩, this.1, this.2.1⟩
  have KS := Lib.hid K0
  have CZH := Lib.hid CZ
  have gU := Gr.refl w
  have gUd : Gr w w.drew := Below.drew gU
  have he0 : e1 = 0 := by rw [he1]; exact he
  subst he0
  obtain ⟨L, hL⟩ : ∃ L : Nat, sn = (L : Nat) := ⟨sn.toNat, by rw [← hsn] at hf; omega⟩
  have hf1 : ¬ (L : Int) < 11 := by rw [← hL, hsn]; exact hf
  have hsl2 : (L : Int) ≤ 16777216 := by rw [← hL]; exact hsl
  subst hL
  have hmn : min 11 L = 11 := by omega
  obtain ⟨t, ht⟩ : ∃ t, t = bs (readR s.call nm.data.toList 0 11).1 := ⟨_, rfl⟩
  obtain ⟨e2, he2⟩ : ∃ e2, e2 = (readR s.call nm.data.toList 0 11).2 := ⟨_, rfl⟩
  have CL0 : ∀ u B1, stars (sdl q D nm 0 L s.call) u B1 → Calls Tryz.prog 69 #[.pointer (some ⟨q, 0, none⟩), .int .i64 11] u (Does u B1 (stars (sdl q D nm 0 L s.call.call)) (.tuple #[.string t, .int .i64 e2])) := fun u B1 h1 => by
    have C := src_look q D (srcC D nm 0 L) 60 s.call nm 0 L 11 (src_srcC _ _ _ _) hn hm (by show s.calls + 1 ≤ _; omega) (by omega) (by omega) u B1 h1
    rw [hmn, ← ht, ← he2] at C
    exact C
  have CL := Lib.hid CL0
  have CG := Lib.hid (fun u => gethead_c t u)
  have he0 : e2 = 0 := by rw [he2]; exact hr
  subst he0
  rw [← ht] at hg hne
  obtain ⟨gn, hgn⟩ : ∃ gn, gn = ghN t := ⟨_, rfl⟩
  rw [hg, ← hgn] at CG
  rw [← hgn] at hne
  have t1 : (gn == size) = false := by simpa using hne
  have t2' : (gn != size) = true := by simpa using hne
  clear h K0 CZ hs hn hm hk hsn he1 he hf CL0 ht he2 hr hmn hg hgn hne
  go_enter Tryz.func42, Tryz.ntmps42
  go_wp2_with fail
  go_region_held3 (fun w' => w'.cell? ⟨q, 0, none⟩ = some (.pointer (some ⟨D, 0, none⟩)) ∧ w'.cell? ⟨q, 1, none⟩ = some (.string nm)) (first | exact KS.out _ gUd | exact KS.out _ (by assumption) | assumption | go_keep)
    ((go_at_call 68; refine (CZH.out _ (by assumption)).mono ?_; rintro e t2 ⟨rfl, hst, hks⟩))
  obtain ⟨B2, h2, n2⟩ := hst
  have hb2 := sd_blk h2
  have d3 : t2.cell? ⟨q, 3, none⟩ = some (.int .i64 0) := by rw [cells_at hb2]; rfl
  have f3 := cells_free hb2 3
  obtain ⟨B3, h3, n3⟩ := step_at (w' := t2.setCell ⟨q, 3, none⟩ (.int .i64 (L : Nat))) (Q := Blk q (srcC D nm 0 L) 60) 0 rfl (frs_sd _ _ _ _ _) h2 fun B1 h1 => blk_next h1 (.int .i64 (L : Nat))
  obtain ⟨V, hV⟩ : ∃ V, V = t2.setCell ⟨q, 3, none⟩ (.int .i64 (L : Nat)) := ⟨_, rfl⟩
  rw [← hV] at h3 n3
  have CL1 := Lib.hid (CL.out V B3 h3)
  have N3 := Lib.hid (n2.trans n3)
  have HV := Lib.hid hV
  clear h2 n2 h3 n3 hb2 hks hV
  go_wp2_with fail
  rw [← HV.out]
  refine CL1.out.mono ?_; rintro e w4 hd
  obtain ⟨rfl, B4, h4, n4⟩ := hd
  have H4 := Lib.hid h4
  have N4 := Lib.hid (N3.out.trans n4)
  clear h4 n4 CL1
  go_wp2_with fail
  refine (CG.out _).mono ?_; rintro e w5 ⟨rfl, g5⟩
  have h5 := stars_gr (frs_sd _ _ _ _ _) H4.out g5
  obtain ⟨B6, h6, n6⟩ := sdl_drop h5
  have H6 := Lib.hid h6
  have N6 := Lib.hid ((N4.out.trans (Nx.gr g5)).trans n6)
  clear g5 h5 h6 n6
  go_wp2_with fail
  go_ret
  exact ⟨rfl, B6, H6.out, N6.out⟩
set_option maxHeartbeats 4000000 in
theorem sb_whole (q D : Nat) (s : St) (nm : ByteArray) (size : Int) (hs : s.ok) (hn : nm.size ≤ 24) (hm : rightB nm.data.toList = true) (hk : s.calls ≤ 100000000000) (he : (sizeR s nm.data.toList).2 = 0) (hf : ¬ (sizeR s nm.data.toList).1 < 11) (hr : (readR s.call nm.data.toList 0 11).2 = 0) (hg : ghB (bs (readR s.call nm.data.toList 0 11).1) = true) (hne : ghN (bs (readR s.call nm.data.toList 0 11).1) = size) (w : World) (B : Nat → Prop) (h : stars (sdl q D nm 0 0 s) w B) :
    Calls Tryz.prog 42 #[.pointer (some ⟨q, 0, none⟩), .int .i64 size] w (Does w B (stars (sdl q D nm 11 ((sizeR s nm.data.toList).1.toNat - 11) s.call.call)) (.int .i64 0)) := by
  obtain ⟨sn, hsn⟩ : ∃ sn, sn = (sizeR s nm.data.toList).1 := ⟨_, rfl⟩
  obtain ⟨e1, he1⟩ : ∃ e1, e1 = (sizeR s nm.data.toList).2 := ⟨_, rfl⟩
  have hsl : sn ≤ 16777216 := by rw [hsn]; exact sizeR_le hs nm.data.toList
  have K0 : ∀ u, Gr w u → u.cell? ⟨q, 0, none⟩ = some (.pointer (some ⟨D, 0, none⟩)) ∧ u.cell? ⟨q, 1, none⟩ = some (.string nm) := fun u g => by
    have := src_at (src_srcC D nm 0 0) (sd_blk (stars_gr (frs_sd _ _ _ _ _) h g))
    exact ⟨this.1, this.2.1⟩
  have CZ : ∀ u, Gr w u → Calls Tryz.prog 68 #[.pointer (some ⟨D, 0, none⟩), .string nm] u fun e w' => e = .returned (.tuple #[.int .i64 sn, .int .i64 e1]) ∧ (∃ B', stars (sdl q D nm 0 0 s.call) w' B' ∧ Nx B w B' w') ∧ (w'.cell? ⟨q, 0, none⟩ = some (.pointer (some ⟨D, 0, none⟩)) ∧ w'.cell? ⟨q, 1, none⟩ = some (.string nm)) := fun u g => by
    rw [hsn, he1]
    have C := does_at (f := 68) (Q := DiskA D s.call) 1 rfl (frs_sd _ _ _ _ _) (stars_gr (frs_sd _ _ _ _ _) h g) fun B2 h2 => d_size D s nm (by omega) hm (by omega) u B2 h2
    refine C.mono ?_
    rintro e w' ⟨he, B', h', n'⟩
    have := src_at (src_srcC D nm 0 0) (sd_blk h')
    exact ⟨he, ⟨B', h', (Nx.gr g).trans n'⟩, this.1, this.2.1⟩
  have KS := Lib.hid K0
  have CZH := Lib.hid CZ
  have gU := Gr.refl w
  have gUd : Gr w w.drew := Below.drew gU
  obtain ⟨lf, hlf⟩ : ∃ lf, lf = (sizeR s nm.data.toList).1.toNat - 11 := ⟨_, rfl⟩
  rw [← hlf]
  have he0 : e1 = 0 := by rw [he1]; exact he
  subst he0
  obtain ⟨L, hL⟩ : ∃ L : Nat, sn = (L : Nat) := ⟨sn.toNat, by rw [← hsn] at hf; omega⟩
  have hf1 : ¬ (L : Int) < 11 := by rw [← hL, hsn]; exact hf
  have hsl2 : (L : Int) ≤ 16777216 := by rw [← hL]; exact hsl
  subst hL
  have hmn : min 11 L = 11 := by omega
  obtain ⟨t, ht⟩ : ∃ t, t = bs (readR s.call nm.data.toList 0 11).1 := ⟨_, rfl⟩
  obtain ⟨e2, he2⟩ : ∃ e2, e2 = (readR s.call nm.data.toList 0 11).2 := ⟨_, rfl⟩
  have CL0 : ∀ u B1, stars (sdl q D nm 0 L s.call) u B1 → Calls Tryz.prog 69 #[.pointer (some ⟨q, 0, none⟩), .int .i64 11] u (Does u B1 (stars (sdl q D nm 0 L s.call.call)) (.tuple #[.string t, .int .i64 e2])) := fun u B1 h1 => by
    have C := src_look q D (srcC D nm 0 L) 60 s.call nm 0 L 11 (src_srcC _ _ _ _) hn hm (by show s.calls + 1 ≤ _; omega) (by omega) (by omega) u B1 h1
    rw [hmn, ← ht, ← he2] at C
    exact C
  have CL := Lib.hid CL0
  have CG := Lib.hid (fun u => gethead_c t u)
  have he0 : e2 = 0 := by rw [he2]; exact hr
  subst he0
  rw [← ht] at hg hne
  rw [hg, hne] at CG
  have hL11 : L = lf + 11 := by rw [hlf, ← hsn]; simp only [Int.toNat_natCast]; omega
  have CP := Lib.hid (fun u B1 (h1 : stars (sdl q D nm 0 L s.call.call) u B1) => does_at (f := 71) (Q := Blk q (srcC D nm 11 lf) 60) 0 rfl (frs_sd _ _ _ _ _) h1 fun B2 h2 => src_pass q (srcC D nm 0 L) (srcC D nm 11 lf) 60 0 L 11 11 lf rfl rfl rfl hL11 (by omega) rfl u B2 h2)
  clear h K0 CZ hs hn hm hk hsn he1 he hf CL0 ht he2 hr hmn hg hne hlf hL11
  go_enter Tryz.func42, Tryz.ntmps42
  go_wp2_with fail
  go_region_held3 (fun w' => w'.cell? ⟨q, 0, none⟩ = some (.pointer (some ⟨D, 0, none⟩)) ∧ w'.cell? ⟨q, 1, none⟩ = some (.string nm)) (first | exact KS.out _ gUd | exact KS.out _ (by assumption) | assumption | go_keep)
    ((go_at_call 68; refine (CZH.out _ (by assumption)).mono ?_; rintro e t2 ⟨rfl, hst, hks⟩))
  obtain ⟨B2, h2, n2⟩ := hst
  have hb2 := sd_blk h2
  have d3 : t2.cell? ⟨q, 3, none⟩ = some (.int .i64 0) := by rw [cells_at hb2]; rfl
  have f3 := cells_free hb2 3
  obtain ⟨B3, h3, n3⟩ := step_at (w' := t2.setCell ⟨q, 3, none⟩ (.int .i64 (L : Nat))) (Q := Blk q (srcC D nm 0 L) 60) 0 rfl (frs_sd _ _ _ _ _) h2 fun B1 h1 => blk_next h1 (.int .i64 (L : Nat))
  obtain ⟨V, hV⟩ : ∃ V, V = t2.setCell ⟨q, 3, none⟩ (.int .i64 (L : Nat)) := ⟨_, rfl⟩
  rw [← hV] at h3 n3
  have CL1 := Lib.hid (CL.out V B3 h3)
  have N3 := Lib.hid (n2.trans n3)
  have HV := Lib.hid hV
  clear h2 n2 h3 n3 hb2 hks hV
  go_wp2_with fail
  rw [← HV.out]
  refine CL1.out.mono ?_; rintro e w4 hd
  obtain ⟨rfl, B4, h4, n4⟩ := hd
  have H4 := Lib.hid h4
  have N4 := Lib.hid (N3.out.trans n4)
  clear h4 n4 CL1
  go_wp2_with fail
  refine (CG.out _).mono ?_; rintro e w5 ⟨rfl, g5⟩
  have CP1 := Lib.hid (CP.out _ _ (stars_gr (frs_sd _ _ _ _ _) H4.out g5))
  have N5 := Lib.hid (N4.out.trans (Nx.gr g5))
  clear g5
  go_wp2_with fail
  refine CP1.out.mono ?_; rintro e w6 hd
  obtain ⟨rfl, B6, h6, n6⟩ := hd
  have H6 := Lib.hid h6
  have N6 := Lib.hid (N5.out.trans n6)
  clear h6 n6 CP1
  go_wp2_with fail
  go_ret
  exact ⟨rfl, B6, H6.out, N6.out⟩
theorem src_begin (q D : Nat) (s : St) (nm : ByteArray) (size : Int) (hs : s.ok) (hn : nm.size ≤ 24) (hm : rightB nm.data.toList = true) (hk : s.calls ≤ 100000000000) (R : St × Int × Nat) (hR : R = beginN s nm size) (L' : List Asn) (h0 : R.2.1 = 0 → L' = sdl q D nm 11 R.2.2 R.1) (h1 : ¬ R.2.1 = 0 → L' = [DiskA D R.1]) (w : World) (B : Nat → Prop) (h : stars (sdl q D nm 0 0 s) w B) :
    Calls Tryz.prog 42 #[.pointer (some ⟨q, 0, none⟩), .int .i64 size] w (Does w B (stars L') (.int .i64 R.2.1)) := by
  unfold beginN at hR
  by_cases k1 : (sizeR s nm.data.toList).2 = 0
  · rw [if_neg (fun h => h k1)] at hR
    by_cases k2 : (sizeR s nm.data.toList).1 < 11
    · rw [if_pos k2] at hR
      subst hR
      rw [h1 (by simp)]
      exact sb_few q D s nm size hs hn hm hk k1 k2 w B h
    · rw [if_neg k2] at hR
      by_cases k3 : (readR s.call nm.data.toList 0 11).2 = 0
      · rw [if_neg (fun h => h k3)] at hR
        cases k4 : ghB (bs (readR s.call nm.data.toList 0 11).1)
        · rw [if_pos (by rw [k4]; simp)] at hR
          subst hR
          rw [h1 (by simp)]
          exact sb_nohead q D s nm size hs hn hm hk k1 k2 k3 k4 w B h
        · by_cases k5 : ghN (bs (readR s.call nm.data.toList 0 11).1) = size
          · rw [if_neg (fun h => h ⟨k4, k5⟩)] at hR
            subst hR
            rw [h0 rfl]
            exact sb_whole q D s nm size hs hn hm hk k1 k2 k3 k4 k5 w B h
          · rw [if_pos (fun h => k5 h.2)] at hR
            subst hR
            rw [h1 (by simp)]
            exact sb_other q D s nm size hs hn hm hk k1 k2 k3 k4 k5 w B h
      · rw [if_pos k3] at hR
        subst hR
        rw [h1 k3]
        exact sb_read q D s nm size hs hn hm hk k1 k2 k3 w B h
  · rw [if_pos k1] at hR
    subst hR
    rw [h1 k1]
    exact sb_err q D s nm size hs hn hm hk k1 w B h
end Go.Proofs.YtojlceoeacebmaaGreat
/- The program's reader: Open. -/
namespace Go.Proofs.YtojlceoeacebmaaGreat
open Go.RowKit FsPlain CrcPlain OctPlain FramePlain RecPlain RdPlain
set_option linter.unusedVariables false
set_option linter.unusedSimpArgs false
set_option maxRecDepth 20000
/-- What the program's Open leaves. -/
def RpMade (D P : Nat) (w : World) (B : Nat → Prop) (nm : ByteArray) (size : Int) (R : St × Bu × Int × Nat) (e : Ending) (w' : World) : Prop :=
  (R.2.2.1 = 0 ∧ ∃ x, Does w B (RP3 x D P ⟨R.1, R.2.1, newRs nm size R.2.2.2⟩) (.tuple #[.pointer (some ⟨x, 0, none⟩), .int .i64 0]) e w') ∨
  (R.2.2.1 ≠ 0 ∧ Does w B (stars [DiskA D R.1, BuA P R.2.1]) (.tuple #[.pointer none, .int .i64 R.2.2.1]) e w')
theorem frs_p2 (D P : Nat) (s : St) (b : Bu) : Frs [DiskA D s, BuA P b] := ⟨fr_disk _ _, fr_bu _ _, trivial⟩
def rdnew (D P : Nat) (nm : ByteArray) (size : Int) (left : Nat) : Array Value := #[.pointer (some ⟨D, 0, none⟩), .string nm, .int .i64 11, .int .i64 (left : Nat), .pointer (some ⟨P, 0, none⟩), .int .i64 size, .slice none 0 0, .bool false, .int .i64 0, .int .u32 0, .bool false]
theorem rdnew_eq (D P : Nat) (nm : ByteArray) (size : Int) (left : Nat) : rdnew D P nm size left = rdc D P (newRs nm size left) (.slice none 0 0) (sumN (newRs nm size left).all) false := by
  show _ = rdc D P (newRs nm size left) (.slice none 0 0) (sumN []) false
  rw [sumN_nil]; rfl
/-- A new reader beside its disk and its budget. -/
theorem rd_born {D P : Nat} {s : St} {b : Bu} {nm : ByteArray} {size : Int} {left : Nat} {w : World} {B : Nat → Prop} (h : stars [DiskA D s, BuA P b] w B) :
    ∃ B', RP3 w.heap.size D P ⟨s, b, newRs nm size left⟩ (w.alloc (.cells (rdnew D P nm size left) 62)) B' ∧ Nx B w B' (w.alloc (.cells (rdnew D P nm size left) 62)) := by
  have ga : Gr w (w.alloc (.cells (rdnew D P nm size left) 62)) := (Gr.refl w).alloc (Nat.le_refl _) _
  obtain ⟨B5, h5, n5⟩ := part_new (P := Blk w.heap.size (rdnew D P nm size left) 62) (L := [DiskA D s, BuA P b]) (B' := fun b => b = w.heap.size) (frs_p2 _ _ _ _) h ga ⟨heap_alloc_new w _, fun _ => Iff.rfl⟩ (fun b hb => by omega)
  obtain ⟨B6, h6, n6⟩ := part_new (w' := w.alloc (.cells (rdnew D P nm size left) 62)) (P := QueA (.slice none 0 0) []) (L := [Blk w.heap.size (rdnew D P nm size left) 62, DiskA D s, BuA P b]) ⟨fr_blk _ _ _, frs_p2 _ _ _ _⟩ h5 (Gr.refl _) (que_nil _) (fun b hb => hb.elim)
  rw [rdnew_eq] at h6 n5 n6 ⊢
  have h8 : stars (rol w.heap.size D P s b (rdc D P (newRs nm size left) (.slice none 0 0) (sumN (newRs nm size left).all) false) (.slice none 0 0) []) _ B6 := stars_perm ((List.Perm.swap _ _ _).trans (.cons _ (List.Perm.swap _ _ _))) h6
  exact ⟨B6, .inl ⟨rfl, _, h8⟩, n5.trans n6⟩
set_option maxHeartbeats 4000000 in
theorem rp_open (D P : Nat) (s : St) (b : Bu) (nm : ByteArray) (size : Int) (hsz : I64 size) (hs : s.ok) (hn : nm.size ≤ 24) (hm : rightB nm.data.toList = true) (hc : s.calls ≤ 100000000000) (w : World) (B : Nat → Prop) (h : stars [DiskA D s, BuA P b] w B) :
    Calls Tryz.prog 14 #[.pointer (some ⟨D, 0, none⟩), .pointer (some ⟨P, 0, none⟩), .string nm, .int .i64 size] w (RpMade D P w B nm size (openN s b nm size)) := by
  rw [begin_open]
  obtain ⟨R, hR⟩ : ∃ R, R = (if sizeB size = false then (s, b, 1, 0) else if ¬ b.takeE 4 = 0 then (s, b.take 4, b.takeE 4, 0) else if ¬ (beginN s nm size).2.1 = 0 then ((beginN s nm size).1, (b.take 4).give 4, (beginN s nm size).2.1, 0) else ((beginN s nm size).1, b.take 4, 0, (beginN s nm size).2.2) : St × Bu × Int × Nat) := ⟨_, rfl⟩
  rw [← hR]
  have CM := Lib.hid (room_c size hsz)
  have H := Lib.hid h
  clear h
  cases hz : sizeB size
  · have hr : roomN size = 0 := by unfold roomN; rw [if_neg (by rw [hz]; decide)]
    rw [if_pos hz] at hR
    subst hR
    rw [hr] at CM
    clear hz hr
    go_enter Tryz.func14, Tryz.ntmps14
    go_wp2_with fail
    refine (CM.out _).mono ?_; rintro e w1 ⟨rfl, rfl⟩
    go_wp2_with fail
    go_ret2
    exact .inr ⟨by simp, rfl, B, H.out, Nx.refl _ _⟩
  · have hzz : 1 ≤ size ∧ size ≤ 64 := by simpa [sizeB] using hz
    have hr : roomN size = 5 + 4 * size := by unfold roomN; rw [if_pos hz]
    obtain ⟨rm, hrm⟩ : ∃ rm, rm = roomN size := ⟨_, rfl⟩
    have hr0 : ¬ rm = 0 := by rw [hrm, hr]; omega
    rw [← hrm] at CM
    rw [if_neg (by rw [hz]; decide)] at hR
    obtain ⟨c1, hc1⟩ : ∃ c1, c1 = b.takeE 4 := ⟨_, rfl⟩
    obtain ⟨⟨s1, e1, lf⟩, hS1⟩ : ∃ X, X = beginN s nm size := ⟨_, rfl⟩
    rw [← hc1, ← hS1] at hR
    have CT := does_at (f := 40) 1 rfl (frs_p2 _ _ _ _) H.out fun B2 h2 => bu_take P b 4 w B2 h2
    rw [← hc1] at CT
    have CTH := Lib.hid CT
    have CLH := Lib.hid (fun u => clone_c nm u (by omega))
    have CG := Lib.hid (fun s2 w2 B2 (h2 : stars [DiskA D s2, BuA P (b.take 4)] w2 B2) => does_at (f := 43) (Q := BuA P ((b.take 4).give 4)) 1 rfl (frs_p2 _ _ _ _) h2 fun B3 h3 => bu_give P (b.take 4) 4 w2 B3 h3)
    have CB : ∀ q w2 B2, stars [Blk q (srcC D nm 0 0) 60, DiskA D s, BuA P (b.take 4)] w2 B2 → ∀ L', (e1 = 0 → L' = sdl q D nm 11 lf s1) → (¬ e1 = 0 → L' = [DiskA D s1]) → Calls Tryz.prog 42 #[.pointer (some ⟨q, 0, none⟩), .int .i64 size] w2 (Does w2 B2 (stars (L' ++ [BuA P (b.take 4)])) (.int .i64 e1)) := by
      intro q w2 B2 h2 L' k0 k1
      exact does_pre (sdl q D nm 0 0 s) (L' := L') (M := [BuA P (b.take 4)]) ⟨fr_bu _ _, trivial⟩ h2 fun B1 h1 => src_begin q D s nm size hs hn hm hc (s1, e1, lf) hS1 L' k0 k1 w2 B1 h1
    have CBH := Lib.hid CB
    have HR := Lib.hid hR
    clear CT CB hc1 hS1 hR hz hzz hr hrm hs hn hm hc hsz
    by_cases h1 : c1 = 0
    · subst h1
      by_cases h2 : e1 = 0
      · subst h2
        obtain rfl : R = (s1, b.take 4, 0, lf) := by have := HR.out; simpa using this
        clear HR
        go_enter Tryz.func14, Tryz.ntmps14
        go_wp2_with fail
        refine (CM.out _).mono ?_; rintro e w1 ⟨rfl, rfl⟩
        go_wp2_with fail
        refine CTH.out.mono ?_; rintro e w2 hd
        obtain ⟨rfl, B2, h2, n2⟩ := hd
        have H2 := Lib.hid h2
        have N2 := Lib.hid n2
        clear h2 n2 CTH
        go_wp2_with fail
        refine (CLH.out w2).mono ?_; rintro e u ⟨rfl, gu⟩
        have ga : Gr u (u.alloc (.cells (srcC D nm 0 0) 60)) := (Gr.refl u).alloc (Nat.le_refl _) _
        obtain ⟨B3, h3, n3⟩ := part_new (P := Blk u.heap.size (srcC D nm 0 0) 60) (L := [DiskA D s, BuA P (b.take 4)]) (B' := fun b => b = u.heap.size) (frs_p2 _ _ _ _) (stars_gr (frs_p2 _ _ _ _) H2.out gu) ga ⟨heap_alloc_new u _, fun _ => Iff.rfl⟩ (fun b hb => by omega)
        obtain ⟨V, hV⟩ : ∃ V, V = u.alloc (.cells (srcC D nm 0 0) 60) := ⟨_, rfl⟩
        rw [← hV] at h3 n3
        have CB1 := Lib.hid (CBH.out _ V B3 h3 (sdl u.heap.size D nm 11 lf s1) (fun _ => rfl) (fun k => (by simp at k)))
        have N3 := Lib.hid ((N2.out.trans (Nx.gr gu)).trans n3)
        have HV := Lib.hid (show V = u.alloc (.cells #[.pointer (some ⟨D, 0, none⟩), .string nm, .int .i64 0, .int .i64 0] 60) from hV)
        clear h3 n3 ga hV
        go_wp2_with fail
        rw [← HV.out]
        refine CB1.out.mono ?_; rintro e w4 hd
        obtain ⟨rfl, B4, h4, n4⟩ := hd
        obtain ⟨_, hbq, _⟩ := part_at 0 rfl h4
        have b0 : w4.cell? ⟨u.heap.size, 0, none⟩ = some (.pointer (some ⟨D, 0, none⟩)) := by rw [cells_at hbq.1]; rfl
        have b1 : w4.cell? ⟨u.heap.size, 1, none⟩ = some (.string nm) := by rw [cells_at hbq.1]; rfl
        have b2 : w4.cell? ⟨u.heap.size, 2, none⟩ = some (.int .i64 11) := by rw [cells_at hbq.1]; rfl
        have b3 : w4.cell? ⟨u.heap.size, 3, none⟩ = some (.int .i64 (lf : Nat)) := by rw [cells_at hbq.1]; rfl
        obtain ⟨B5, h5, n5⟩ := stars_drop (L := [DiskA D s1, BuA P (b.take 4)]) h4
        have H5 := Lib.hid h5
        have N5 := Lib.hid ((N3.out.trans n4).trans n5)
        clear h4 n4 h5 n5 hbq CB1
        go_wp2_with fail
        go_ret2
        obtain ⟨B6, h6, n6⟩ := rd_born (nm := nm) (size := size) (left := lf) H5.out
        exact .inl ⟨rfl, w4.heap.size, rfl, B6, h6, N5.out.trans n6⟩
      · have t1 : (e1 == 0) = false := by simpa using h2
        have t2 : (e1 != 0) = true := by simpa using h2
        have HE := Lib.hid h2
        obtain rfl : R = (s1, (b.take 4).give 4, e1, 0) := by have := HR.out; simpa [h2] using this
        clear h2 HR
        go_enter Tryz.func14, Tryz.ntmps14
        go_wp2_with fail
        refine (CM.out _).mono ?_; rintro e w1 ⟨rfl, rfl⟩
        go_wp2_with fail
        refine CTH.out.mono ?_; rintro e w2 hd
        obtain ⟨rfl, B2, h2, n2⟩ := hd
        have H2 := Lib.hid h2
        have N2 := Lib.hid n2
        clear h2 n2 CTH
        go_wp2_with fail
        refine (CLH.out w2).mono ?_; rintro e u ⟨rfl, gu⟩
        have ga : Gr u (u.alloc (.cells (srcC D nm 0 0) 60)) := (Gr.refl u).alloc (Nat.le_refl _) _
        obtain ⟨B3, h3, n3⟩ := part_new (P := Blk u.heap.size (srcC D nm 0 0) 60) (L := [DiskA D s, BuA P (b.take 4)]) (B' := fun b => b = u.heap.size) (frs_p2 _ _ _ _) (stars_gr (frs_p2 _ _ _ _) H2.out gu) ga ⟨heap_alloc_new u _, fun _ => Iff.rfl⟩ (fun b hb => by omega)
        obtain ⟨V, hV⟩ : ∃ V, V = u.alloc (.cells (srcC D nm 0 0) 60) := ⟨_, rfl⟩
        rw [← hV] at h3 n3
        have CB1 := Lib.hid (CBH.out _ V B3 h3 [DiskA D s1] (fun k => absurd k HE.out) (fun _ => rfl))
        have N3 := Lib.hid ((N2.out.trans (Nx.gr gu)).trans n3)
        have HV := Lib.hid (show V = u.alloc (.cells #[.pointer (some ⟨D, 0, none⟩), .string nm, .int .i64 0, .int .i64 0] 60) from hV)
        clear h3 n3 ga hV
        go_wp2_with fail
        rw [← HV.out]
        refine CB1.out.mono ?_; rintro e w4 hd
        obtain ⟨rfl, B4, h4, n4⟩ := hd
        have CG1 := Lib.hid (CG.out s1 w4 B4 h4)
        have N4 := Lib.hid (N3.out.trans n4)
        clear h4 n4 CB1
        go_wp2_with fail
        refine CG1.out.mono ?_; rintro e w5 hd
        obtain ⟨rfl, B5, h5, n5⟩ := hd
        have H5 := Lib.hid h5
        have N5 := Lib.hid (N4.out.trans n5)
        clear h5 n5 CG1
        go_wp2_with fail
        go_ret2
        exact .inr ⟨HE.out, rfl, B5, H5.out, N5.out⟩
    · have t1 : (c1 == 0) = false := by simpa using h1
      have t2 : (c1 != 0) = true := by simpa using h1
      have HE := Lib.hid h1
      obtain rfl : R = (s, b.take 4, c1, 0) := by have := HR.out; rwa [if_pos h1] at this
      clear h1 HR
      go_enter Tryz.func14, Tryz.ntmps14
      go_wp2_with fail
      refine (CM.out _).mono ?_; rintro e w1 ⟨rfl, rfl⟩
      go_wp2_with fail
      refine CTH.out.mono ?_; rintro e w2 hd
      obtain ⟨rfl, B2, h2, n2⟩ := hd
      have H2 := Lib.hid h2
      have N2 := Lib.hid n2
      clear h2 n2 CTH
      go_wp2_with fail
      go_ret2
      exact .inr ⟨HE.out, rfl, B2, H2.out, N2.out⟩
end Go.Proofs.YtojlceoeacebmaaGreat

/- In one text: Rd8. -/
import Derived.Test.YtignfbdgpgidpaaGreatDoorW33
import Derived.Test.YtignfbdgpgidpaaGreatDoorW12
import Derived.Test.YtignfbdgpgidpaaGreatDoorW06
/- The program's reader: begin, Open. -/
namespace Go.Proofs.YtignfbdgpgidpaaGreatDoor
open Go.RowKit FsPlain CrcPlain OctPlain FramePlain RecPlain RdPlain
set_option linter.unusedVariables false
set_option linter.unusedSimpArgs false
set_option maxRecDepth 20000
def RdPlain.beginN (s : St) (nm : ByteArray) (size : Int) : St × Int × Nat :=
  if ¬ (sizeR s nm.data.toList).2 = 0 then (s.call, (sizeR s nm.data.toList).2, 0)
  else if (sizeR s nm.data.toList).1 < 11 then (s.call, 6, 0)
  else if ¬ (readR s.call nm.data.toList 0 11).2 = 0 then (s.call.call, (readR s.call nm.data.toList 0 11).2, 0)
  else if ¬ (ghB (bs (readR s.call nm.data.toList 0 11).1) = true ∧ ghN (bs (readR s.call nm.data.toList 0 11).1) = size) then (s.call.call, 6, 0)
  else (s.call.call, 0, (sizeR s nm.data.toList).1.toNat - 11)
theorem begin_open (s : St) (b : Bu) (nm : ByteArray) (size : Int) : openN s b nm size = if sizeB size = false then (s, b, 1, 0) else if ¬ b.takeE 4 = 0 then (s, b.take 4, b.takeE 4, 0) else if ¬ (beginN s nm size).2.1 = 0 then ((beginN s nm size).1, (b.take 4).give 4, (beginN s nm size).2.1, 0) else ((beginN s nm size).1, b.take 4, 0, (beginN s nm size).2.2) := by
  unfold openN beginN
  by_cases h1 : sizeB size = false
  · rw [if_pos h1, if_pos h1]
  · rw [if_neg h1, if_neg h1]
    by_cases h2 : b.takeE 4 = 0
    · generalize sizeR s nm.data.toList = S
      generalize readR s.call nm.data.toList 0 11 = R
      by_cases h3 : S.2 = 0 <;> by_cases h4 : S.1 < 11 <;> by_cases h5 : R.2 = 0 <;> by_cases h6 : (ghB (bs R.1) = true ∧ ghN (bs R.1) = size) <;> simp [h2, h3, h4, h5, h6]
    · rw [if_pos h2, if_pos h2]
def srcC (D : Nat) (nm : ByteArray) (pos left : Nat) : Array Value := #[.pointer (some ⟨D, 0, none⟩), .string nm, .int .i64 (pos : Nat), .int .i64 (left : Nat)]
theorem src_srcC (D : Nat) (nm : ByteArray) (pos left : Nat) : IsSrc (srcC D nm pos left) D nm pos left := ⟨rfl, rfl, rfl, rfl⟩
def sdl (q D : Nat) (nm : ByteArray) (pos left : Nat) (s : St) : List Asn := [Blk q (srcC D nm pos left) 173, DiskA D s]
theorem sdl_drop {q D : Nat} {nm : ByteArray} {pos left : Nat} {s : St} {w : World} {B : Nat → Prop} (h : stars (sdl q D nm pos left s) w B) : ∃ B', stars [DiskA D s] w B' ∧ Nx B w B' w := stars_drop h
set_option maxHeartbeats 4000000 in
theorem sb_err (q D : Nat) (s : St) (nm : ByteArray) (size : Int) (hs : s.ok) (hn : nm.size ≤ 24) (hm : rightB nm.data.toList = true) (hk : s.calls ≤ 100000000000) (he : ¬ (sizeR s nm.data.toList).2 = 0) (w : World) (B : Nat → Prop) (h : stars (sdl q D nm 0 0 s) w B) :
    Calls Tryz.prog 131 #[.pointer (some ⟨q, 0, none⟩), .int .i64 size] w (Does w B (stars [DiskA D s.call]) (.int .i64 (sizeR s nm.data.toList).2)) := by
  obtain ⟨sn, hsn⟩ : ∃ sn, sn = (sizeR s nm.data.toList).1 := ⟨_, rfl⟩
  obtain ⟨e1, he1⟩ : ∃ e1, e1 = (sizeR s nm.data.toList).2 := ⟨_, rfl⟩
  have hsl : sn ≤ 16777216 := by rw [hsn]; exact sizeR_le hs nm.data.toList
  have K0 : ∀ u, Gr w u → u.cell? ⟨q, 0, none⟩ = some (.pointer (some ⟨D, 0, none⟩)) ∧ u.cell? ⟨q, 1, none⟩ = some (.string nm) := fun u g => by
    have := src_at (src_srcC D nm 0 0) (sd_blk (stars_gr (frs_sd _ _ _ _ _) h g))
    exact ⟨this.1, this.2.1⟩
  have CZ : ∀ u, Gr w u → Calls Tryz.prog 117 #[.pointer (some ⟨D, 0, none⟩), .string nm] u fun e w' => e = .returned (.tuple #[.int .i64 sn, .int .i64 e1]) ∧ (∃ B', stars (sdl q D nm 0 0 s.call) w' B' ∧ Nx B w B' w') ∧ (w'.cell? ⟨q, 0, none⟩ = some (.pointer (some ⟨D, 0, none⟩)) ∧ w'.cell? ⟨q, 1, none⟩ = some (.string nm)) := fun u g => by
    rw [hsn, he1]
    have C := does_at (f := 117) (Q := DiskA D s.call) 1 rfl (frs_sd _ _ _ _ _) (stars_gr (frs_sd _ _ _ _ _) h g) fun B2 h2 => d_size D s nm (by omega) hm (by omega) u B2 h2
    refine C.mono ?_
    rintro e w' ⟨he, B', h', n'⟩
    have := src_at (src_srcC D nm 0 0) (sd_blk h')
    exact ⟨he, ⟨B', h', (Nx.gr g).trans n'⟩, this.1, this.2.1⟩
  have KS := Lib.hid K0
  have CZH := Lib.hid CZ
  have gU := Gr.refl w
  have gUd : Gr w w.drew := Below.drew gU
  have he0 : ¬ e1 = 0 := by rw [he1]; exact he
  have t1 : (e1 == 0) = false := by simpa using he0
  have t2' : (e1 != 0) = true := by simpa using he0
  rw [← he1]
  clear h K0 CZ hs hn hm hk hsn he1 he he0
  go_enter Tryz.func131, Tryz.ntmps131
  go_wp2_with fail
  go_region_held3 (fun w' => w'.cell? ⟨q, 0, none⟩ = some (.pointer (some ⟨D, 0, none⟩)) ∧ w'.cell? ⟨q, 1, none⟩ = some (.string nm)) (first | exact KS.out _ gUd | exact KS.out _ (by assumption) | assumption | go_keep)
    ((go_at_call 117; refine (CZH.out _ (by assumption)).mono ?_; rintro e t2 ⟨rfl, hst, hks⟩))
  obtain ⟨B2, h2, n2⟩ := hst
  obtain ⟨B3, h3, n3⟩ := sdl_drop h2
  have H3 := Lib.hid h3
  have N3 := Lib.hid (n2.trans n3)
  clear h2 n2 h3 n3 hks
  go_wp2_with fail
  go_ret
  exact ⟨rfl, B3, H3.out, N3.out⟩
set_option maxHeartbeats 4000000 in
theorem sb_few (q D : Nat) (s : St) (nm : ByteArray) (size : Int) (hs : s.ok) (hn : nm.size ≤ 24) (hm : rightB nm.data.toList = true) (hk : s.calls ≤ 100000000000) (he : (sizeR s nm.data.toList).2 = 0) (hf : (sizeR s nm.data.toList).1 < 11) (w : World) (B : Nat → Prop) (h : stars (sdl q D nm 0 0 s) w B) :
    Calls Tryz.prog 131 #[.pointer (some ⟨q, 0, none⟩), .int .i64 size] w (Does w B (stars [DiskA D s.call]) (.int .i64 6)) := by
  obtain ⟨sn, hsn⟩ : ∃ sn, sn = (sizeR s nm.data.toList).1 := ⟨_, rfl⟩
  obtain ⟨e1, he1⟩ : ∃ e1, e1 = (sizeR s nm.data.toList).2 := ⟨_, rfl⟩
  have hsl : sn ≤ 16777216 := by rw [hsn]; exact sizeR_le hs nm.data.toList
  have K0 : ∀ u, Gr w u → u.cell? ⟨q, 0, none⟩ = some (.pointer (some ⟨D, 0, none⟩)) ∧ u.cell? ⟨q, 1, none⟩ = some (.string nm) := fun u g => by
    have := src_at (src_srcC D nm 0 0) (sd_blk (stars_gr (frs_sd _ _ _ _ _) h g))
    exact ⟨this.1, this.2.1⟩
  have CZ : ∀ u, Gr w u → Calls Tryz.prog 117 #[.pointer (some ⟨D, 0, none⟩), .string nm] u fun e w' => e = .returned (.tuple #[.int .i64 sn, .int .i64 e1]) ∧ (∃ B', stars (sdl q D nm 0 0 s.call) w' B' ∧ Nx B w B' w') ∧ (w'.cell? ⟨q, 0, none⟩ = some (.pointer (some ⟨D, 0, none⟩)) ∧ w'.cell? ⟨q, 1, none⟩ = some (.string nm)) := fun u g => by
    rw [hsn, he1]
    have C := does_at (f := 117) (Q := DiskA D s.call) 1 rfl (frs_sd _ _ _ _ _) (stars_gr (frs_sd _ _ _ _ _) h g) fun B2 h2 => d_size D s nm (by omega) hm (by omega) u B2 h2
    refine C.mono ?_
    rintro e w' ⟨he, B', h', n'⟩
    have := src_at (src_srcC D nm 0 0) (sd_blk h')
    exact ⟨he, ⟨B', h', (Nx.gr g).trans n'⟩, this.1, this.2.1⟩
  have KS := Lib.hid K0
  have CZH := Lib.hid CZ
  have gU := Gr.refl w
  have gUd : Gr w w.drew := Below.drew gU
  have he0 : e1 = 0 := by rw [he1]; exact he
  subst he0
  have hf1 : sn < 11 := by rw [hsn]; exact hf
  clear h K0 CZ hs hn hm hk hsn he1 he hf
  go_enter Tryz.func131, Tryz.ntmps131
  go_wp2_with fail
  go_region_held3 (fun w' => w'.cell? ⟨q, 0, none⟩ = some (.pointer (some ⟨D, 0, none⟩)) ∧ w'.cell? ⟨q, 1, none⟩ = some (.string nm)) (first | exact KS.out _ gUd | exact KS.out _ (by assumption) | assumption | go_keep)
    ((go_at_call 117; refine (CZH.out _ (by assumption)).mono ?_; rintro e t2 ⟨rfl, hst, hks⟩))
  obtain ⟨B2, h2, n2⟩ := hst
  obtain ⟨B3, h3, n3⟩ := sdl_drop h2
  have H3 := Lib.hid h3
  have N3 := Lib.hid (n2.trans n3)
  clear h2 n2 h3 n3 hks
  go_wp2_with fail
  go_ret
  exact ⟨rfl, B3, H3.out, N3.out⟩
set_option maxHeartbeats 4000000 in
theorem sb_read (q D : Nat) (s : St) (nm : ByteArray) (size : Int) (hs : s.ok) (hn : nm.size ≤ 24) (hm : rightB nm.data.toList = true) (hk : s.calls ≤ 100000000000) (he : (sizeR s nm.data.toList).2 = 0) (hf : ¬ (sizeR s nm.data.toList).1 < 11) (hr : ¬ (readR s.call nm.data.toList 0 11).2 = 0) (w : World) (B : Nat → Prop) (h : stars (sdl q D nm 0 0 s) w B) :
    Calls Tryz.prog 131 #[.pointer (some ⟨q, 0, none⟩), .int .i64 size] w (Does w B (stars [DiskA D s.call.call]) (.int .i64 (readR s.call nm.data.toList 0 11).2)) := by
  obtain ⟨sn, hsn⟩ : ∃ sn, sn = (sizeR s nm.data.toList).1 := ⟨_, rfl⟩
  obtain ⟨e1, he1⟩ : ∃ e1, e1 = (sizeR s nm.data.toList).2 := ⟨_, rfl⟩
  have hsl : sn ≤ 16777216 := by rw [hsn]; exact sizeR_le hs nm.data.toList
  have K0 : ∀ u, Gr w u → u.cell? ⟨q, 0, none⟩ = some (.pointer (some ⟨D, 0, none⟩)) ∧ u.cell? ⟨q, 1, none⟩ = some (.string nm) := fun u g => by
    have := src_at (src_srcC D nm 0 0) (sd_blk (stars_gr (frs_sd _ _ _ _ _) h g))
    exact ⟨this.1, this.2.1⟩
  have CZ : ∀ u, Gr w u → Calls Tryz.prog 117 #[.pointer (some ⟨D, 0, none⟩), .string nm] u fun e w' => e = .returned (.tuple #[.int .i64 sn, .int .i64 e1]) ∧ (∃ B', stars (sdl q D nm 0 0 s.call) w' B' ∧ Nx B w B' w') ∧ (w'.cell? ⟨q, 0, none⟩ = some (.pointer (some ⟨D, 0, none⟩)) ∧ w'.cell? ⟨q, 1, none⟩ = some (.string nm)) := fun u g => by
    rw [hsn, he1]
    have C := does_at (f := 117) (Q := DiskA D s.call) 1 rfl (frs_sd _ _ _ _ _) (stars_gr (frs_sd _ _ _ _ _) h g) fun B2 h2 => d_size D s nm (by omega) hm (by omega) u B2 h2
    refine C.mono ?_
    rintro e w' ⟨he, B', h', n'⟩
    have := src_at (src_srcC D nm 0 0) (sd_blk h')
    exact ⟨he, ⟨B', h', (Nx.gr g).trans n'⟩, this.1, this.2.1⟩
  have KS := Lib.hid K0
  have CZH := Lib.hid CZ
  have gU := Gr.refl w
  have gUd : Gr w w.drew := Below.drew gU
  have he0 : e1 = 0 := by rw [he1]; exact he
  subst he0
  obtain ⟨L, hL⟩ : ∃ L : Nat, sn = (L : Nat) := ⟨sn.toNat, by rw [← hsn] at hf; omega⟩
  have hf1 : ¬ (L : Int) < 11 := by rw [← hL, hsn]; exact hf
  have hsl2 : (L : Int) ≤ 16777216 := by rw [← hL]; exact hsl
  subst hL
  have hmn : min 11 L = 11 := by omega
  obtain ⟨t, ht⟩ : ∃ t, t = bs (readR s.call nm.data.toList 0 11).1 := ⟨_, rfl⟩
  obtain ⟨e2, he2⟩ : ∃ e2, e2 = (readR s.call nm.data.toList 0 11).2 := ⟨_, rfl⟩
  have CL0 : ∀ u B1, stars (sdl q D nm 0 L s.call) u B1 → Calls Tryz.prog 162 #[.pointer (some ⟨q, 0, none⟩), .int .i64 11] u (Does u B1 (stars (sdl q D nm 0 L s.call.call)) (.tuple #[.string t, .int .i64 e2])) := fun u B1 h1 => by
    have C := src_look q D (srcC D nm 0 L) 173 s.call nm 0 L 11 (src_srcC _ _ _ _) hn hm (by show s.calls + 1 ≤ _; omega) (by omega) (by omega) u B1 h1
    rw [hmn, ← ht, ← he2] at C
    exact C
  have CL := Lib.hid CL0
  have CG := Lib.hid (fun u => gethead_c t u)
  have he0 : ¬ e2 = 0 := by rw [he2]; exact hr
  have t1 : (e2 == 0) = false := by simpa using he0
  have t2' : (e2 != 0) = true := by simpa using he0
  rw [← he2]
  clear h K0 CZ hs hn hm hk hsn he1 he hf CL0 ht he2 hr he0 hmn
  go_enter Tryz.func131, Tryz.ntmps131
  go_wp2_with fail
  go_region_held3 (fun w' => w'.cell? ⟨q, 0, none⟩ = some (.pointer (some ⟨D, 0, none⟩)) ∧ w'.cell? ⟨q, 1, none⟩ = some (.string nm)) (first | exact KS.out _ gUd | exact KS.out _ (by assumption) | assumption | go_keep)
    ((go_at_call 117; refine (CZH.out _ (by assumption)).mono ?_; rintro e t2 ⟨rfl, hst, hks⟩))
  obtain ⟨B2, h2, n2⟩ := hst
  have hb2 := sd_blk h2
  have d3 : t2.cell? ⟨q, 3, none⟩ = some (.int .i64 0) := by rw [cells_at hb2]; rfl
  have f3 := cells_free hb2 3
  obtain ⟨B3, h3, n3⟩ := step_at (w' := t2.setCell ⟨q, 3, none⟩ (.int .i64 (L : Nat))) (Q := Blk q (srcC D nm 0 L) 173) 0 rfl (frs_sd _ _ _ _ _) h2 fun B1 h1 => blk_next h1 (.int .i64 (L : Nat))
  obtain ⟨V, hV⟩ : ∃ V, V = t2.setCell ⟨q, 3, none⟩ (.int .i64 (L : Nat)) := ⟨_, rfl⟩
  rw [← hV] at h3 n3
  have CL1 := Lib.hid (CL.out V B3 h3)
  have N3 := Lib.hid (n2.trans n3)
  have HV := Lib.hid hV
  clear h2 n2 h3 n3 hb2 hks hV
  go_wp2_with fail
  rw [← HV.out]
  refine CL1.out.mono ?_; rintro e w4 hd
  obtain ⟨rfl, B4, h4, n4⟩ := hd
  have H4 := Lib.hid h4
  have N4 := Lib.hid (N3.out.trans n4)
  clear h4 n4 CL1
  go_wp2_with fail
  obtain ⟨B5, h5, n5⟩ := sdl_drop H4.out
  go_ret
  exact ⟨rfl, B5, h5, N4.out.trans n5⟩
set_option maxHeartbeats 4000000 in
theorem sb_nohead (q D : Nat) (s : St) (nm : ByteArray) (size : Int) (hs : s.ok) (hn : nm.size ≤ 24) (hm : rightB nm.data.toList = true) (hk : s.calls ≤ 100000000000) (he : (sizeR s nm.data.toList).2 = 0) (hf : ¬ (sizeR s nm.data.toList).1 < 11) (hr : (readR s.call nm.data.toList 0 11).2 = 0) (hg : ghB (bs (readR s.call nm.data.toList 0 11).1) = false) (w : World) (B : Nat → Prop) (h : stars (sdl q D nm 0 0 s) w B) :
    Calls Tryz.prog 131 #[.pointer (some ⟨q, 0, none⟩), .int .i64 size] w (Does w B (stars [DiskA D s.call.call]) (.int .i64 6)) := by
  obtain ⟨sn, hsn⟩ : ∃ sn, sn = (sizeR s nm.data.toList).1 := ⟨_, rfl⟩
  obtain ⟨e1, he1⟩ : ∃ e1, e1 = (sizeR s nm.data.toList).2 := ⟨_, rfl⟩
  have hsl : sn ≤ 16777216 := by rw [hsn]; exact sizeR_le hs nm.data.toList
  have K0 : ∀ u, Gr w u → u.cell? ⟨q, 0, none⟩ = some (.pointer (some ⟨D, 0, none⟩)) ∧ u.cell? ⟨q, 1, none⟩ = some (.string nm) := fun u g => by
    have := src_at (src_srcC D nm 0 0) (sd_blk (stars_gr (frs_sd _ _ _ _ _) h g))
    exact ⟨this.1, this.2.1⟩
  have CZ : ∀ u, Gr w u → Calls Tryz.prog 117 #[.pointer (some ⟨D, 0, none⟩), .string nm] u fun e w' => e = .returned (.tuple #[.int .i64 sn, .int .i64 e1]) ∧ (∃ B', stars (sdl q D nm 0 0 s.call) w' B' ∧ Nx B w B' w') ∧ (w'.cell? ⟨q, 0, none⟩ = some (.pointer (some ⟨D, 0, none⟩)) ∧ w'.cell? ⟨q, 1, none⟩ = some (.string nm)) := fun u g => by
    rw [hsn, he1]
    have C := does_at (f := 117) (Q := DiskA D s.call) 1 rfl (frs_sd _ _ _ _ _) (stars_gr (frs_sd _ _ _ _ _) h g) fun B2 h2 => d_size D s nm (by omega) hm (by omega) u B2 h2
    refine C.mono ?_
    rintro e w' ⟨he, B', h', n'⟩
    have := src_at (src_srcC D nm 0 0) (sd_blk h')
    exact ⟨he, ⟨B', h', (Nx.gr g).trans n'⟩, this.1, this.2.1⟩
  have KS := Lib.hid K0
  have CZH := Lib.hid CZ
  have gU := Gr.refl w
  have gUd : Gr w w.drew := Below.drew gU
  have he0 : e1 = 0 := by rw [he1]; exact he
  subst he0
  obtain ⟨L, hL⟩ : ∃ L : Nat, sn = (L : Nat) := ⟨sn.toNat, by rw [← hsn] at hf; omega⟩
  have hf1 : ¬ (L : Int) < 11 := by rw [← hL, hsn]; exact hf
  have hsl2 : (L : Int) ≤ 16777216 := by rw [← hL]; exact hsl
  subst hL
  have hmn : min 11 L = 11 := by omega
  obtain ⟨t, ht⟩ : ∃ t, t = bs (readR s.call nm.data.toList 0 11).1 := ⟨_, rfl⟩
  obtain ⟨e2, he2⟩ : ∃ e2, e2 = (readR s.call nm.data.toList 0 11).2 := ⟨_, rfl⟩
  have CL0 : ∀ u B1, stars (sdl q D nm 0 L s.call) u B1 → Calls Tryz.prog 162 #[.pointer (some ⟨q, 0, none⟩), .int .i64 11] u (Does u B1 (stars (sdl q D nm 0 L s.call.call)) (.tuple #[.string t, .int .i64 e2])) := fun u B1 h1 => by
    have C := src_look q D (srcC D nm 0 L) 173 s.call nm 0 L 11 (src_srcC _ _ _ _) hn hm (by show s.calls + 1 ≤ _; omega) (by omega) (by omega) u B1 h1
    rw [hmn, ← ht, ← he2] at C
    exact C
  have CL := Lib.hid CL0
  have CG := Lib.hid (fun u => gethead_c t u)
  have he0 : e2 = 0 := by rw [he2]; exact hr
  subst he0
  rw [← ht] at hg
  obtain ⟨gn, hgn⟩ : ∃ gn, gn = ghN t := ⟨_, rfl⟩
  rw [hg, ← hgn] at CG
  clear h K0 CZ hs hn hm hk hsn he1 he hf CL0 ht he2 hr hmn hg hgn
  go_enter Tryz.func131, Tryz.ntmps131
  go_wp2_with fail
  go_region_held3 (fun w' => w'.cell? ⟨q, 0, none⟩ = some (.pointer (some ⟨D, 0, none⟩)) ∧ w'.cell? ⟨q, 1, none⟩ = some (.string nm)) (first | exact KS.out _ gUd | exact KS.out _ (by assumption) | assumption | go_keep)
    ((go_at_call 117; refine (CZH.out _ (by assumption)).mono ?_; rintro e t2 ⟨rfl, hst, hks⟩))
  obtain ⟨B2, h2, n2⟩ := hst
  have hb2 := sd_blk h2
  have d3 : t2.cell? ⟨q, 3, none⟩ = some (.int .i64 0) := by rw [cells_at hb2]; rfl
  have f3 := cells_free hb2 3
  obtain ⟨B3, h3, n3⟩ := step_at (w' := t2.setCell ⟨q, 3, none⟩ (.int .i64 (L : Nat))) (Q := Blk q (srcC D nm 0 L) 173) 0 rfl (frs_sd _ _ _ _ _) h2 fun B1 h1 => blk_next h1 (.int .i64 (L : Nat))
  obtain ⟨V, hV⟩ : ∃ V, V = t2.setCell ⟨q, 3, none⟩ (.int .i64 (L : Nat)) := ⟨_, rfl⟩
  rw [← hV] at h3 n3
  have CL1 := Lib.hid (CL.out V B3 h3)
  have N3 := Lib.hid (n2.trans n3)
  have HV := Lib.hid hV
  clear h2 n2 h3 n3 hb2 hks hV
  go_wp2_with fail
  rw [← HV.out]
  refine CL1.out.mono ?_; rintro e w4 hd
  obtain ⟨rfl, B4, h4, n4⟩ := hd
  have H4 := Lib.hid h4
  have N4 := Lib.hid (N3.out.trans n4)
  clear h4 n4 CL1
  go_wp2_with fail
  refine (CG.out _).mono ?_; rintro e w5 ⟨rfl, g5⟩
  have h5 := stars_gr (frs_sd _ _ _ _ _) H4.out g5
  obtain ⟨B6, h6, n6⟩ := sdl_drop h5
  have H6 := Lib.hid h6
  have N6 := Lib.hid ((N4.out.trans (Nx.gr g5)).trans n6)
  clear g5 h5 h6 n6
  go_wp2_with fail
  go_ret
  exact ⟨rfl, B6, H6.out, N6.out⟩
set_option maxHeartbeats 4000000 in
theorem sb_other (q D : Nat) (s : St) (nm : ByteArray) (size : Int) (hs : s.ok) (hn : nm.size ≤ 24) (hm : rightB nm.data.toList = true) (hk : s.calls ≤ 100000000000) (he : (sizeR s nm.data.toList).2 = 0) (hf : ¬ (sizeR s nm.data.toList).1 < 11) (hr : (readR s.call nm.data.toList 0 11).2 = 0) (hg : ghB (bs (readR s.call nm.data.toList 0 11).1) = true) (hne : ¬ ghN (bs (readR s.call nm.data.toList 0 11).1) = size) (w : World) (B : Nat → Prop) (h : stars (sdl q D nm 0 0 s) w B) :
    Calls Tryz.prog 131 #[.pointer (some ⟨q, 0, none⟩), .int .i64 size] w (Does w B (stars [DiskA D s.call.call]) (.int .i64 6)) := by
  obtain ⟨sn, hsn⟩ : ∃ sn, sn = (sizeR s nm.data.toList).1 := ⟨_, rfl⟩
  obtain ⟨e1, he1⟩ : ∃ e1, e1 = (sizeR s nm.data.toList).2 := ⟨_, rfl⟩
  have hsl : sn ≤ 16777216 := by rw [hsn]; exact sizeR_le hs nm.data.toList
  have K0 : ∀ u, Gr w u → u.cell? ⟨q, 0, none⟩ = some (.pointer (some ⟨D, 0, none⟩)) ∧ u.cell? ⟨q, 1, none⟩ = some (.string nm) := fun u g => by
    have := src_at (src_srcC D nm 0 0) (sd_blk (stars_gr (frs_sd _ _ _ _ _) h g))
    exact ⟨this.1, this.2.1⟩
  have CZ : ∀ u, Gr w u → Calls Tryz.prog 117 #[.pointer (some ⟨D, 0, none⟩), .string nm] u fun e w' => e = .returned (.tuple #[.int .i64 sn, .int .i64 e1]) ∧ (∃ B', stars (sdl q D nm 0 0 s.call) w' B' ∧ Nx B w B' w') ∧ (w'.cell? ⟨q, 0, none⟩ = some (.pointer (some ⟨D, 0, none⟩)) ∧ w'.cell? ⟨q, 1, none⟩ = some (.string nm)) := fun u g => by
    rw [hsn, he1]
    have C := does_at (f := 117) (Q := DiskA D s.call) 1 rfl (frs_sd _ _ _ _ _) (stars_gr (frs_sd _ _ _ _ _) h g) fun B2 h2 => d_size D s nm (by omega) hm (by omega) u B2 h2
    refine C.mono ?_
    rintro e w' ⟨he, B', h', n'⟩
    have := src_at (src_srcC D nm 0 0) (sd_blk h')
    exact ⟨he, ⟨B', h', (Nx.gr g).trans n'⟩, this.1, this.2.1⟩
  have KS := Lib.hid K0
  have CZH := Lib.hid CZ
  have gU := Gr.refl w
  have gUd : Gr w w.drew := Below.drew gU
  have he0 : e1 = 0 := by rw [he1]; exact he
  subst he0
  obtain ⟨L, hL⟩ : ∃ L : Nat, sn = (L : Nat) := ⟨sn.toNat, by rw [← hsn] at hf; omega⟩
  have hf1 : ¬ (L : Int) < 11 := by rw [← hL, hsn]; exact hf
  have hsl2 : (L : Int) ≤ 16777216 := by rw [← hL]; exact hsl
  subst hL
  have hmn : min 11 L = 11 := by omega
  obtain ⟨t, ht⟩ : ∃ t, t = bs (readR s.call nm.data.toList 0 11).1 := ⟨_, rfl⟩
  obtain ⟨e2, he2⟩ : ∃ e2, e2 = (readR s.call nm.data.toList 0 11).2 := ⟨_, rfl⟩
  have CL0 : ∀ u B1, stars (sdl q D nm 0 L s.call) u B1 → Calls Tryz.prog 162 #[.pointer (some ⟨q, 0, none⟩), .int .i64 11] u (Does u B1 (stars (sdl q D nm 0 L s.call.call)) (.tuple #[.string t, .int .i64 e2])) := fun u B1 h1 => by
    have C := src_look q D (srcC D nm 0 L) 173 s.call nm 0 L 11 (src_srcC _ _ _ _) hn hm (by show s.calls + 1 ≤ _; omega) (by omega) (by omega) u B1 h1
    rw [hmn, ← ht, ← he2] at C
    exact C
  have CL := Lib.hid CL0
  have CG := Lib.hid (fun u => gethead_c t u)
  have he0 : e2 = 0 := by rw [he2]; exact hr
  subst he0
  rw [← ht] at hg hne
  obtain ⟨gn, hgn⟩ : ∃ gn, gn = ghN t := ⟨_, rfl⟩
  rw [hg, ← hgn] at CG
  rw [← hgn] at hne
  have t1 : (gn == size) = false := by simpa using hne
  have t2' : (gn != size) = true := by simpa using hne
  clear h K0 CZ hs hn hm hk hsn he1 he hf CL0 ht he2 hr hmn hg hgn hne
  go_enter Tryz.func131, Tryz.ntmps131
  go_wp2_with fail
  go_region_held3 (fun w' => w'.cell? ⟨q, 0, none⟩ = some (.pointer (some ⟨D, 0, none⟩)) ∧ w'.cell? ⟨q, 1, none⟩ = some (.string nm)) (first | exact KS.out _ gUd | exact KS.out _ (by assumption) | assumption | go_keep)
    ((go_at_call 117; refine (CZH.out _ (by assumption)).mono ?_; rintro e t2 ⟨rfl, hst, hks⟩))
  obtain ⟨B2, h2, n2⟩ := hst
  have hb2 := sd_blk h2
  have d3 : t2.cell? ⟨q, 3, none⟩ = some (.int .i64 0) := by rw [cells_at hb2]; rfl
  have f3 := cells_free hb2 3
  obtain ⟨B3, h3, n3⟩ := step_at (w' := t2.setCell ⟨q, 3, none⟩ (.int .i64 (L : Nat))) (Q := Blk q (srcC D nm 0 L) 173) 0 rfl (frs_sd _ _ _ _ _) h2 fun B1 h1 => blk_next h1 (.int .i64 (L : Nat))
  obtain ⟨V, hV⟩ : ∃ V, V = t2.setCell ⟨q, 3, none⟩ (.int .i64 (L : Nat)) := ⟨_, rfl⟩
  rw [← hV] at h3 n3
  have CL1 := Lib.hid (CL.out V B3 h3)
  have N3 := Lib.hid (n2.trans n3)
  have HV := Lib.hid hV
  clear h2 n2 h3 n3 hb2 hks hV
  go_wp2_with fail
  rw [← HV.out]
  refine CL1.out.mono ?_; rintro e w4 hd
  obtain ⟨rfl, B4, h4, n4⟩ := hd
  have H4 := Lib.hid h4
  have N4 := Lib.hid (N3.out.trans n4)
  clear h4 n4 CL1
  go_wp2_with fail
  refine (CG.out _).mono ?_; rintro e w5 ⟨rfl, g5⟩
  have h5 := stars_gr (frs_sd _ _ _ _ _) H4.out g5
  obtain ⟨B6, h6, n6⟩ := sdl_drop h5
  have H6 := Lib.hid h6
  have N6 := Lib.hid ((N4.out.trans (Nx.gr g5)).trans n6)
  clear g5 h5 h6 n6
  go_wp2_with fail
  go_ret
  exact ⟨rfl, B6, H6.out, N6.out⟩
set_option maxHeartbeats 4000000 in
theorem sb_whole (q D : Nat) (s : St) (nm : ByteArray) (size : Int) (hs : s.ok) (hn : nm.size ≤ 24) (hm : rightB nm.data.toList = true) (hk : s.calls ≤ 100000000000) (he : (sizeR s nm.data.toList).2 = 0) (hf : ¬ (sizeR s nm.data.toList).1 < 11) (hr : (readR s.call nm.data.toList 0 11).2 = 0) (hg : ghB (bs (readR s.call nm.data.toList 0 11).1) = true) (hne : ghN (bs (readR s.call nm.data.toList 0 11).1) = size) (w : World) (B : Nat → Prop) (h : stars (sdl q D nm 0 0 s) w B) :
    Calls Tryz.prog 131 #[.pointer (some ⟨q, 0, none⟩), .int .i64 size] w (Does w B (stars (sdl q D nm 11 ((sizeR s nm.data.toList).1.toNat - 11) s.call.call)) (.int .i64 0)) := by
  obtain ⟨sn, hsn⟩ : ∃ sn, sn = (sizeR s nm.data.toList).1 := ⟨_, rfl⟩
  obtain ⟨e1, he1⟩ : ∃ e1, e1 = (sizeR s nm.data.toList).2 := ⟨_, rfl⟩
  have hsl : sn ≤ 16777216 := by rw [hsn]; exact sizeR_le hs nm.data.toList
  have K0 : ∀ u, Gr w u → u.cell? ⟨q, 0, none⟩ = some (.pointer (some ⟨D, 0, none⟩)) ∧ u.cell? ⟨q, 1, none⟩ = some (.string nm) := fun u g => by
    have := src_at (src_srcC D nm 0 0) (sd_blk (stars_gr (frs_sd _ _ _ _ _) h g))
    exact ⟨this.1, this.2.1⟩
  have CZ : ∀ u, Gr w u → Calls Tryz.prog 117 #[.pointer (some ⟨D, 0, none⟩), .string nm] u fun e w' => e = .returned (.tuple #[.int .i64 sn, .int .i64 e1]) ∧ (∃ B', stars (sdl q D nm 0 0 s.call) w' B' ∧ Nx B w B' w') ∧ (w'.cell? ⟨q, 0, none⟩ = some (.pointer (some ⟨D, 0, none⟩)) ∧ w'.cell? ⟨q, 1, none⟩ = some (.string nm)) := fun u g => by
    rw [hsn, he1]
    have C := does_at (f := 117) (Q := DiskA D s.call) 1 rfl (frs_sd _ _ _ _ _) (stars_gr (frs_sd _ _ _ _ _) h g) fun B2 h2 => d_size D s nm (by omega) hm (by omega) u B2 h2
    refine C.mono ?_
    rintro e w' ⟨he, B', h', n'⟩
    have := src_at (src_srcC D nm 0 0) (sd_blk h')
    exact ⟨he, ⟨B', h', (Nx.gr g).trans n'⟩, this.1, this.2.1⟩
  have KS := Lib.hid K0
  have CZH := Lib.hid CZ
  have gU := Gr.refl w
  have gUd : Gr w w.drew := Below.drew gU
  obtain ⟨lf, hlf⟩ : ∃ lf, lf = (sizeR s nm.data.toList).1.toNat - 11 := ⟨_, rfl⟩
  rw [← hlf]
  have he0 : e1 = 0 := by rw [he1]; exact he
  subst he0
  obtain ⟨L, hL⟩ : ∃ L : Nat, sn = (L : Nat) := ⟨sn.toNat, by rw [← hsn] at hf; omega⟩
  have hf1 : ¬ (L : Int) < 11 := by rw [← hL, hsn]; exact hf
  have hsl2 : (L : Int) ≤ 16777216 := by rw [← hL]; exact hsl
  subst hL
  have hmn : min 11 L = 11 := by omega
  obtain ⟨t, ht⟩ : ∃ t, t = bs (readR s.call nm.data.toList 0 11).1 := ⟨_, rfl⟩
  obtain ⟨e2, he2⟩ : ∃ e2, e2 = (readR s.call nm.data.toList 0 11).2 := ⟨_, rfl⟩
  have CL0 : ∀ u B1, stars (sdl q D nm 0 L s.call) u B1 → Calls Tryz.prog 162 #[.pointer (some ⟨q, 0, none⟩), .int .i64 11] u (Does u B1 (stars (sdl q D nm 0 L s.call.call)) (.tuple #[.string t, .int .i64 e2])) := fun u B1 h1 => by
    have C := src_look q D (srcC D nm 0 L) 173 s.call nm 0 L 11 (src_srcC _ _ _ _) hn hm (by show s.calls + 1 ≤ _; omega) (by omega) (by omega) u B1 h1
    rw [hmn, ← ht, ← he2] at C
    exact C
  have CL := Lib.hid CL0
  have CG := Lib.hid (fun u => gethead_c t u)
  have he0 : e2 = 0 := by rw [he2]; exact hr
  subst he0
  rw [← ht] at hg hne
  rw [hg, hne] at CG
  have hL11 : L = lf + 11 := by rw [hlf, ← hsn]; simp only [Int.toNat_natCast]; omega
  have CP := Lib.hid (fun u B1 (h1 : stars (sdl q D nm 0 L s.call.call) u B1) => does_at (f := 164) (Q := Blk q (srcC D nm 11 lf) 173) 0 rfl (frs_sd _ _ _ _ _) h1 fun B2 h2 => src_pass q (srcC D nm 0 L) (srcC D nm 11 lf) 173 0 L 11 11 lf rfl rfl rfl hL11 (by omega) rfl u B2 h2)
  clear h K0 CZ hs hn hm hk hsn he1 he hf CL0 ht he2 hr hmn hg hne hlf hL11
  go_enter Tryz.func131, Tryz.ntmps131
  go_wp2_with fail
  go_region_held3 (fun w' => w'.cell? ⟨q, 0, none⟩ = some (.pointer (some ⟨D, 0, none⟩)) ∧ w'.cell? ⟨q, 1, none⟩ = some (.string nm)) (first | exact KS.out _ gUd | exact KS.out _ (by assumption) | assumption | go_keep)
    ((go_at_call 117; refine (CZH.out _ (by assumption)).mono ?_; rintro e t2 ⟨rfl, hst, hks⟩))
  obtain ⟨B2, h2, n2⟩ := hst
  have hb2 := sd_blk h2
  have d3 : t2.cell? ⟨q, 3, none⟩ = some (.int .i64 0) := by rw [cells_at hb2]; rfl
  have f3 := cells_free hb2 3
  obtain ⟨B3, h3, n3⟩ := step_at (w' := t2.setCell ⟨q, 3, none⟩ (.int .i64 (L : Nat))) (Q := Blk q (srcC D nm 0 L) 173) 0 rfl (frs_sd _ _ _ _ _) h2 fun B1 h1 => blk_next h1 (.int .i64 (L : Nat))
  obtain ⟨V, hV⟩ : ∃ V, V = t2.setCell ⟨q, 3, none⟩ (.int .i64 (L : Nat)) := ⟨_, rfl⟩
  rw [← hV] at h3 n3
  have CL1 := Lib.hid (CL.out V B3 h3)
  have N3 := Lib.hid (n2.trans n3)
  have HV := Lib.hid hV
  clear h2 n2 h3 n3 hb2 hks hV
  go_wp2_with fail
  rw [← HV.out]
  refine CL1.out.mono ?_; rintro e w4 hd
  obtain ⟨rfl, B4, h4, n4⟩ := hd
  have H4 := Lib.hid h4
  have N4 := Lib.hid (N3.out.trans n4)
  clear h4 n4 CL1
  go_wp2_with fail
  refine (CG.out _).mono ?_; rintro e w5 ⟨rfl, g5⟩
  have CP1 := Lib.hid (CP.out _ _ (stars_gr (frs_sd _ _ _ _ _) H4.out g5))
  have N5 := Lib.hid (N4.out.trans (Nx.gr g5))
  clear g5
  go_wp2_with fail
  refine CP1.out.mono ?_; rintro e w6 hd
  obtain ⟨rfl, B6, h6, n6⟩ := hd
  have H6 := Lib.hid h6
  have N6 := Lib.hid (N5.out.trans n6)
  clear h6 n6 CP1
  go_wp2_with fail
  go_ret
  exact ⟨rfl, B6, H6.out, N6.out⟩
theorem src_begin (q D : Nat) (s : St) (nm : ByteArray) (size : Int) (hs : s.ok) (hn : nm.size ≤ 24) (hm : rightB nm.data.toList = true) (hk : s.calls ≤ 100000000000) (R : St × Int × Nat) (hR : R = beginN s nm size) (L' : List Asn) (h0 : R.2.1 = 0 → L' = sdl q D nm 11 R.2.2 R.1) (h1 : ¬ R.2.1 = 0 → L' = [DiskA D R.1]) (w : World) (B : Nat → Prop) (h : stars (sdl q D nm 0 0 s) w B) :
    Calls Tryz.prog 131 #[.pointer (some ⟨q, 0, none⟩), .int .i64 size] w (Does w B (stars L') (.int .i64 R.2.1)) := by
  unfold beginN at hR
  by_cases k1 : (sizeR s nm.data.toList).2 = 0
  · rw [if_neg (fun h => h k1)] at hR
    by_cases k2 : (sizeR s nm.data.toList).1 < 11
    · rw [if_pos k2] at hR
      subst hR
      rw [h1 (by simp)]
      exact sb_few q D s nm size hs hn hm hk k1 k2 w B h
    · rw [if_neg k2] at hR
      by_cases k3 : (readR s.call nm.data.toList 0 11).2 = 0
      · rw [if_neg (fun h => h k3)] at hR
        cases k4 : ghB (bs (readR s.call nm.data.toList 0 11).1)
        · rw [if_pos (by rw [k4]; simp)] at hR
          subst hR
          rw [h1 (by simp)]
          exact sb_nohead q D s nm size hs hn hm hk k1 k2 k3 k4 w B h
        · by_cases k5 : ghN (bs (readR s.call nm.data.toList 0 11).1) = size
          · rw [if_neg (fun h => h ⟨k4, k5⟩)] at hR
            subst hR
            rw [h0 rfl]
            exact sb_whole q D s nm size hs hn hm hk k1 k2 k3 k4 k5 w B h
          · rw [if_pos (fun h => k5 h.2)] at hR
            subst hR
            rw [h1 (by simp)]
            exact sb_other q D s nm size hs hn hm hk k1 k2 k3 k4 k5 w B h
      · rw [if_pos k3] at hR
        subst hR
        rw [h1 k3]
        exact sb_read q D s nm size hs hn hm hk k1 k2 k3 w B h
  · rw [if_pos k1] at hR
    subst hR
    rw [h1 k1]
    exact sb_err q D s nm size hs hn hm hk k1 w B h
end Go.Proofs.YtignfbdgpgidpaaGreatDoor

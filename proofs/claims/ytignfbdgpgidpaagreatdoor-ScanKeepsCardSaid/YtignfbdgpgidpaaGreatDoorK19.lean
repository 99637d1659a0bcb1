/- In one text: MnPf, MnPc, MnPg, MnPe. -/
import Derived.Test.YtignfbdgpgidpaaGreatDoorK15
import Derived.Test.YtignfbdgpgidpaaGreatDoorK17
import Derived.Test.YtignfbdgpgidpaaGreatDoorK18
import Derived.BigQuiet
import Derived.Test.YtignfbdgpgidpaaGreatDoorK13
import Derived.Test.YtignfbdgpgidpaaGreatDoorK04
import Derived.Test.YtignfbdgpgidpaaGreatDoorK14
import Derived.Laws.OwnMore
/- The program's layer 19: the cursor's calls. -/
namespace Go.Proofs.YtignfbdgpgidpaaGreatDoor
open Go.RowKit FsPlain CrcPlain OctPlain MnPlain
set_option linter.unusedVariables false
set_option linter.unusedSimpArgs false
set_option maxRecDepth 20000
def cuc (b : ByteArray) (c : Cu) : Array Value := #[.string b, .int .i64 (c.p : Int), .bool c.x]
def CuAt (w : World) (p : Nat) (b : ByteArray) (c : Cu) : Prop := w.heap[p]? = some (.cells (cuc b c) 187 (0, 0))
def CuTo (p : Nat) (b : ByteArray) (c : Cu) (w w' : World) : Prop := CuAt w' p b c ∧ Only (fun i => i = p) w w'
theorem cu_gr {w w' : World} {p : Nat} {b : ByteArray} {c : Cu} (h : CuAt w p b c) (g : Gr w w') : CuAt w' p b c := (g.block p (lt_of_block h)).trans h
theorem cu_to {w u w' : World} {p : Nat} {b : ByteArray} {c : Cu} (h : Only (fun i => i = p) w u) (k : CuTo p b c u w') : CuTo p b c w w' := ⟨k.1, h.trans k.2⟩
theorem cu_set {w : World} {p : Nat} {b : ByteArray} {c : Cu} (h : CuAt w p b c) {q : Int} {x : Bool} {d : Cu} (hq : q = (d.p : Int)) (hx : x = d.x) : CuTo p b d w ((w.setCell ⟨p, 1, none⟩ (.int .i64 q)).setCell ⟨p, 2, none⟩ (.bool x)) := by
  subst hq hx
  refine ⟨?_, (Only.cell1 _ _ _ _).trans (Only.cell1 _ _ _ _)⟩
  unfold CuAt
  rw [cells_set (cells_set h 1 _) 2 _]
  rfl
theorem slice_midM (s : ByteArray) (a m : Nat) (h : a + m ≤ s.size) (w : World) :
    (Instr.slice 185 (.string s) (some (.int .i64 (a : Int))) (some (.int .i64 ((a : Int) + (m : Int)))) none).run Tryz.prog w = .ok (.string (s.extract a (a + m))) w := by
  have h1 := run_slice_string (P := Tryz.prog) w 185 s .i64 .i64 (a : Int) ((a : Int) + (m : Int)) Tryz.underlying185 (by omega) (by omega) (by omega)
  have e : ((a : Int) + (m : Int)).toNat = a + m := by omega
  rw [e, Int.toNat_natCast] at h1
  exact h1
theorem cpass_c (p k : Nat) (r : Bool) (b : ByteArray) (c d : Cu) (hd : d = ⟨c.p + k, c.x || !r⟩) (hb : c.p + k ≤ 1000000) (w : World) (h : CuAt w p b c) :
    Calls Tryz.prog 192 #[.pointer (some ⟨p, 0, none⟩), .int .i64 (k : Int), .bool r] w fun e w' => e = .returned (.tuple #[]) ∧ CuTo p b d w w' := by
  subst hd
  obtain ⟨cp, cx⟩ := c
  have hpl := lt_of_block h
  have c1 : w.cell? ⟨p, 1, none⟩ = some (.int .i64 (cp : Int)) := by rw [cells_at h]; rfl
  have f1 := cells_free h 1
  obtain ⟨_, h1, _⟩ := blk_next (i := 1) (show Blk p (cuc b ⟨cp, cx⟩) 187 w (fun i => i = p) from ⟨h, fun i => Iff.rfl⟩) (.int .i64 ((cp : Int) + (k : Int)))
  have c2 : (w.setCell ⟨p, 1, none⟩ (.int .i64 ((cp : Int) + (k : Int)))).cell? ⟨p, 2, none⟩ = some (.bool cx) := by rw [cells_at h1.1]; rfl
  have f2 := cells_free h1.1 2
  have CS := Lib.hid (fun x hx => cu_set (q := (cp : Int) + (k : Int)) (x := x) (d := ⟨cp + k, cx || !r⟩) h (by simp) hx)
  have hbI : (cp : Int) + (k : Int) ≤ 1000000 := by dsimp only at hb; omega
  clear h h1 hb
  cases cx <;> cases r
  all_goals
    go_enter Tryz.func192, Tryz.ntmps192
    go_wp2_with fail
    exact bodyPost_end (results_none rfl _ _ _) rfl ⟨rfl, CS.out _ rfl⟩
theorem cnumber_c (b : ByteArray) (p k : Nat) (hb : b.size ≤ 1000) (hp : p ≤ 1000000) (hk : k ≤ 8) (w : World) :
    Calls Tryz.prog 193 #[.string b, .int .i64 (p : Int), .int .i64 (k : Int)] w fun e w' => e = .returned (.tuple #[.int .i64 (getN b (p : Int) (k : Int)), .bool (getB b (p : Int) (k : Int))]) ∧ Gr w w' := by
  have C := Lib.hid (get_c b (p : Int) (k : Int) (by unfold I64; omega) (by unfold I64; omega) w (by omega))
  go_enter Tryz.func193, Tryz.ntmps193
  go_wp2_with fail
  refine C.out.mono ?_; rintro e u ⟨rfl, g⟩
  go_wp2_with fail
  go_ret2
  exact ⟨rfl, g⟩
theorem cletters_c (b : ByteArray) (n : Nat) (c : Cu) (hb : b.size ≤ 1000) (hp : c.p ≤ 1000000) (hn : n ≤ 300) (w : World) :
    Calls Tryz.prog 203 #[.string b, .int .i64 (c.p : Int), .int .i64 (n : Int)] w fun e w' => e = .returned (.tuple #[.string (textS b n c), .bool (textB b n c)]) ∧ w = w' := by
  obtain ⟨p, x⟩ := c
  dsimp only at hp
  have w1 : wrap64 ((b.size : Int) - (n : Int)) = (b.size : Int) - (n : Int) := by unfold wrap64; omega
  by_cases h : p + n ≤ b.size
  · have e1 : textB b n ⟨p, x⟩ = true := by unfold textB; exact decide_eq_true h
    have e2 : textS b n ⟨p, x⟩ = b.extract p (p + n) := by unfold textS; rw [if_pos e1]
    rw [e1, e2]
    have q1 : ¬ (b.size : Int) - (n : Int) < (p : Int) := by omega
    have SM := slice_midM b p n h
    have w2 : wrap64 ((p : Int) + (n : Int)) = (p : Int) + (n : Int) := by unfold wrap64; omega
    clear e1 e2 h hb hp
    go_enter Tryz.func203, Tryz.ntmps203
    go_wp2_with fail
    go_ret2
    exact ⟨rfl, rfl⟩
  · have e1 : textB b n ⟨p, x⟩ = false := by unfold textB; exact decide_eq_false h
    have e2 : textS b n ⟨p, x⟩ = ⟨#[]⟩ := by unfold textS; rw [e1]; rfl
    rw [e1, e2]
    have q1 : (b.size : Int) - (n : Int) < (p : Int) := by omega
    clear e1 e2 h hb hp
    go_enter Tryz.func203, Tryz.ntmps203
    go_wp2_with fail
    go_ret2
    exact ⟨rfl, rfl⟩
set_option maxHeartbeats 1000000 in
theorem cnext_c (p k : Nat) (b : ByteArray) (c : Cu) (hb : b.size ≤ 1000) (hp : c.p ≤ 900000) (hk : k ≤ 8) (w : World) (h : CuAt w p b c) :
    Calls Tryz.prog 172 #[.pointer (some ⟨p, 0, none⟩), .int .i64 (k : Int)] w fun e w' => e = .returned (.int .i64 (getC b k c)) ∧ CuTo p b (nextC b k c) w w' := by
  have hpl := lt_of_block h
  have gd : Gr w w.drew := (Gr.refl w).drew
  have S0 := Lib.hid (fun u (g : Gr w u) => (⟨g, by rw [cells_at (cu_gr h g)]; rfl, by rw [cells_at (cu_gr h g)]; rfl, cu_gr h g, Nat.lt_of_lt_of_le hpl g.size⟩ : Gr w u ∧ u.cell? ⟨p, 0, none⟩ = some (.string b) ∧ u.cell? ⟨p, 1, none⟩ = some (.int .i64 (c.p : Int)) ∧ CuAt u p b c ∧ p < u.heap.size))
  obtain ⟨n, hn⟩ : ∃ n, getN b (c.p : Int) (k : Int) = n := ⟨_, rfl⟩
  obtain ⟨r, hr⟩ : ∃ r, getB b (c.p : Int) (k : Int) = r := ⟨_, rfl⟩
  have hgc : getC b k c = n := hn
  rw [hgc]
  have NC0 := fun u => cnumber_c b c.p k hb (by omega) hk u
  rw [hn, hr] at NC0
  have NC := Lib.hid (fun u (g : Gr w u) => (NC0 u).mono fun e w' hh => (⟨hh.1, S0.out w' (g.trans hh.2)⟩ : e = .returned (.tuple #[.int .i64 n, .bool r]) ∧ _))
  have PS := Lib.hid (fun u (hu : CuAt u p b c) => cpass_c p k r b c (nextC b k c) (by unfold nextC; rw [hr]) (by omega) u hu)
  clear h hn hr hgc NC0 hp hk hb
  go_enter Tryz.func172, Tryz.ntmps172
  go_wp2_with fail
  go_region_held3 (fun u => Gr w u ∧ u.cell? ⟨p, 0, none⟩ = some (.string b) ∧ u.cell? ⟨p, 1, none⟩ = some (.int .i64 (c.p : Int)) ∧ CuAt u p b c ∧ p < u.heap.size) (first | exact S0.out _ gd | exact S0.out _ (by assumption) | assumption | go_keep)
    ((go_at_call 193; (with_reducible refine (NC.out _ (by assumption)).mono ?_); rintro e t2 ⟨rfl, hg, hst⟩))
  go_wp2_with fail
  refine (PS.out _ (S0.out _ hg).2.2.2.1).mono ?_; rintro e u2 ⟨rfl, hu⟩
  go_wp2_with fail
  go_ret
  exact ⟨rfl, cu_to (Only.ofGr hg) hu⟩
set_option maxHeartbeats 1000000 in
theorem ctext_c (p n : Nat) (b : ByteArray) (c : Cu) (hb : b.size ≤ 1000) (hp : c.p ≤ 900000) (hn : n ≤ 300) (w : World) (h : CuAt w p b c) :
    Calls Tryz.prog 191 #[.pointer (some ⟨p, 0, none⟩), .int .i64 (n : Int)] w fun e w' => e = .returned (.string (textS b n c)) ∧ CuTo p b (textC b n c) w w' := by
  have hpl := lt_of_block h
  have gd : Gr w w.drew := (Gr.refl w).drew
  have S0 := Lib.hid (fun u (g : Gr w u) => (⟨g, by rw [cells_at (cu_gr h g)]; rfl, by rw [cells_at (cu_gr h g)]; rfl, cu_gr h g, Nat.lt_of_lt_of_le hpl g.size⟩ : Gr w u ∧ u.cell? ⟨p, 0, none⟩ = some (.string b) ∧ u.cell? ⟨p, 1, none⟩ = some (.int .i64 (c.p : Int)) ∧ CuAt u p b c ∧ p < u.heap.size))
  obtain ⟨s, hs⟩ : ∃ s, textS b n c = s := ⟨_, rfl⟩
  obtain ⟨r, hr⟩ : ∃ r, textB b n c = r := ⟨_, rfl⟩
  rw [hs]
  have NC0 := fun u => cletters_c b n c hb (by omega) hn u
  rw [hs, hr] at NC0
  have NC := Lib.hid (fun u (g : Gr w u) => (NC0 u).mono fun e w' hh => (⟨hh.1, S0.out w' (g.trans (hh.2 ▸ Gr.refl u))⟩ : e = .returned (.tuple #[.string s, .bool r]) ∧ _))
  have PS := Lib.hid (fun u (hu : CuAt u p b c) => cpass_c p n r b c (textC b n c) (by unfold textC; rw [hr]) (by omega) u hu)
  clear h hs hr NC0 hp hn hb
  go_enter Tryz.func191, Tryz.ntmps191
  go_wp2_with fail
  go_region_held3 (fun u => Gr w u ∧ u.cell? ⟨p, 0, none⟩ = some (.string b) ∧ u.cell? ⟨p, 1, none⟩ = some (.int .i64 (c.p : Int)) ∧ CuAt u p b c ∧ p < u.heap.size) (first | exact S0.out _ gd | exact S0.out _ (by assumption) | assumption | go_keep)
    ((go_at_call 203; (with_reducible refine (NC.out _ (by assumption)).mono ?_); rintro e t2 ⟨rfl, hg, hst⟩))
  go_wp2_with fail
  refine (PS.out _ (S0.out _ hg).2.2.2.1).mono ?_; rintro e u2 ⟨rfl, hu⟩
  go_wp2_with fail
  go_ret
  exact ⟨rfl, cu_to (Only.ofGr hg) hu⟩
set_option maxHeartbeats 400000 in
theorem cexpect_c (p : Nat) (b : ByteArray) (hb : b.size ≤ 1000) (w : World) (h : CuAt w p b ⟨0, false⟩) :
    Calls Tryz.prog 171 #[.pointer (some ⟨p, 0, none⟩), .string ⟨#[77, 65, 78, 49]⟩] w fun e w' => e = .returned (.tuple #[]) ∧ CuTo p b (head1 b) w w' := by
  have TX := ctext_c p 4 b ⟨0, false⟩ hb (by dsimp only; omega) (by omega) w h
  rw [show ((4 : Nat) : Int) = 4 from rfl] at TX
  obtain ⟨s, hs⟩ : ∃ s, textS b 4 ⟨0, false⟩ = s := ⟨_, rfl⟩
  obtain ⟨r, hr⟩ : ∃ r, decide (s = markS) = r := ⟨_, rfl⟩
  rw [hs] at TX
  have TX := Lib.hid TX
  have hr2 : (s.toList == (⟨#[77, 65, 78, 49]⟩ : ByteArray).toList) = r := by rw [eq_list]; exact hr
  have hr3 : (s.toList == [77, 65, 78, 49]) = r := by rw [← hr2, Lib.toList_data ⟨#[77, 65, 78, 49]⟩]
  have PS := fun u (hu : CuAt u p b (textC b 4 ⟨0, false⟩)) => cpass_c p 0 r b (textC b 4 ⟨0, false⟩) (head1 b) (by unfold head1; rw [hs, hr]; rfl) (by unfold textC; dsimp only; omega) u hu
  simp only [show ((0 : Nat) : Int) = 0 from rfl] at PS
  have PS := Lib.hid PS
  clear h hs hr
  go_enter Tryz.func171, Tryz.ntmps171
  go_wp2_with fail
  refine TX.out.mono ?_; rintro e u ⟨rfl, hu⟩
  have PU := Lib.hid (PS.out u hu.1)
  have HU := Lib.hid hu
  clear hu
  go_wp2_with fail
  refine PU.out.mono ?_; rintro e u2 ⟨rfl, hu2⟩
  go_wp2_with fail
  exact bodyPost_end (results_none rfl _ _ _) rfl ⟨rfl, cu_to HU.out.2 hu2⟩
theorem cright_c (p : Nat) (b : ByteArray) (c : Cu) {r : Bool} (hr : (!c.x && decide (c.p = b.size)) = r) (w : World) (h : CuAt w p b c) :
    Calls Tryz.prog 149 #[.pointer (some ⟨p, 0, none⟩)] w fun e w' => e = .returned (.bool r) ∧ Gr w w' := by
  obtain ⟨cp, cx⟩ := c
  have hpl := lt_of_block h
  have c0 : w.cell? ⟨p, 0, none⟩ = some (.string b) := by rw [cells_at h]; rfl
  have c1 : w.cell? ⟨p, 1, none⟩ = some (.int .i64 (cp : Int)) := by rw [cells_at h]; rfl
  have c2 : w.cell? ⟨p, 2, none⟩ = some (.bool cx) := by rw [cells_at h]; rfl
  clear h
  dsimp only at hr
  cases cx
  · by_cases e : cp = b.size
    · obtain rfl : r = true := by rw [← hr, decide_eq_true e]; rfl
      have t : ((cp : Int) == (b.size : Int)) = true := by simp [e]
      clear hr e
      go_enter Tryz.func149, Tryz.ntmps149
      go_wp2_with fail
      go_quiet (fail)
      go_wp2_with fail
      go_ret
      exact ⟨rfl, grN _ _⟩
    · obtain rfl : r = false := by rw [← hr, decide_eq_false e]; rfl
      have t : ((cp : Int) == (b.size : Int)) = false := by simp; omega
      clear hr e
      go_enter Tryz.func149, Tryz.ntmps149
      go_wp2_with fail
      go_quiet (fail)
      go_wp2_with fail
      go_ret
      exact ⟨rfl, grN _ _⟩
  · obtain rfl : r = false := by rw [← hr]; rfl
    clear hr
    go_enter Tryz.func149, Tryz.ntmps149
    go_wp2_with fail
    go_quiet (fail)
    go_wp2_with fail
    go_ret
    exact ⟨rfl, grN _ _⟩
end Go.Proofs.YtignfbdgpgidpaaGreatDoor
/- The program's layer 19: Same (slices.Equal), own, Find. -/
namespace Go.Proofs.YtignfbdgpgidpaaGreatDoor
open Go.RowKit FsPlain MnPlain
set_option linter.unusedVariables false
set_option linter.unusedSimpArgs false
set_option maxRecDepth 20000
theorem fl_results1 {fn : Func} {p : Tmp} (hfn : fn.results = #[.cell p 48]) {tmps : Array Value} {o : Nat} {f : Fl} {w : World} (hp : tmps.getD p undef = .pointer (some ⟨o, 0, none⟩)) (hb : w.heap[o]? = some (.cells #[.string f.name, .int .i64 f.size, .int .i64 f.count, .int .u32 f.sum] 48 (0, 0))) :
    (results fn tmps).run Tryz.prog w = .ok (flV f) w := by
  have c0 : w.cell? ⟨o, 0, none⟩ = some (.string f.name) := by rw [cells_at hb]; rfl
  have c1 : w.cell? ⟨o, 1, none⟩ = some (.int .i64 f.size) := by rw [cells_at hb]; rfl
  have c2 : w.cell? ⟨o, 2, none⟩ = some (.int .i64 f.count) := by rw [cells_at hb]; rfl
  have c3 : w.cell? ⟨o, 3, none⟩ = some (.int .u32 f.sum) := by rw [cells_at hb]; rfl
  have hp2 := hp
  rw [Array.getD_eq_getD_getElem?] at hp2
  simp [results, hfn, hp2, go_sem, c0, c1, c2, c3, flV]
end Go.Proofs.YtignfbdgpgidpaaGreatDoor
/- The program's layer 19: a file and a manifest read by the cursor. -/
namespace Go.Proofs.YtignfbdgpgidpaaGreatDoor
open Go.RowKit FsPlain CrcPlain OctPlain MnPlain
set_option linter.unusedVariables false
set_option linter.unusedSimpArgs false
set_option maxRecDepth 20000
theorem fl_store2 {u : World} {q : Nat} {c : Array Value} (hc : u.heap[q]? = some (.cells c 48 (0, 0))) (h4 : c.size = 4) (f : Fl) :
    ((((u.setCell ⟨q, 0, none⟩ (.string f.name)).setCell ⟨q, 1, none⟩ (.int .i64 f.size)).setCell ⟨q, 2, none⟩ (.int .i64 f.count)).setCell ⟨q, 3, none⟩ (.int .u32 f.sum)).heap[q]? = some (.cells #[.string f.name, .int .i64 f.size, .int .i64 f.count, .int .u32 f.sum] 48 (0, 0)) ∧ Only (fun i => i = q) u ((((u.setCell ⟨q, 0, none⟩ (.string f.name)).setCell ⟨q, 1, none⟩ (.int .i64 f.size)).setCell ⟨q, 2, none⟩ (.int .i64 f.count)).setCell ⟨q, 3, none⟩ (.int .u32 f.sum)) := by
  refine ⟨?_, (((Only.cell1 u q 0 (.string f.name)).trans (Only.cell1 _ q 1 (.int .i64 f.size))).trans (Only.cell1 _ q 2 (.int .i64 f.count))).trans (Only.cell1 _ q 3 (.int .u32 f.sum))⟩
  rw [cells_set (cells_set (cells_set (cells_set hc 0 _) 1 _) 2 _) 3 _]
  match c, h4 with
  | ⟨[_, _, _, _]⟩, _ => rfl
set_option maxHeartbeats 2000000 in
theorem cfile_c (p : Nat) (b : ByteArray) (c : Cu) (hb : b.size ≤ 1000) (hp : c.p ≤ 800000) (w : World) (h : CuAt w p b c) :
    Calls Tryz.prog 173 #[.pointer (some ⟨p, 0, none⟩)] w fun e w' => e = .returned (.agg #[.string (fileF b c).name, .int .i64 (fileF b c).size, .int .i64 (fileF b c).count, .int .u32 (fileF b c).sum]) ∧ CuTo p b (fileE b c) w w' := by
  have hpl := lt_of_block h
  have hpn : p ≠ w.heap.size := by omega
  obtain ⟨W, hW⟩ : ∃ W, W = w.alloc (.cells #[.string ⟨#[]⟩, .int .i64 0, .int .i64 0, .int .u32 0] 48) := ⟨_, rfl⟩
  have gW : Gr w W := by rw [hW]; exact gr19 _ _
  have hz : W.heap.size = w.heap.size + 1 := by rw [hW]; simp
  have y0 : W.heap[w.heap.size]? = some (.cells #[.string ⟨#[]⟩, .int .i64 0, .int .i64 0, .int .u32 0] 48 (0, 0)) := by rw [hW]; exact heap_alloc_new w _
  have hN := fileN_lt b c
  have q1 : (nextC b 1 c).p = c.p + 1 := rfl
  have q2 : (file2 b c).p = c.p + 1 + fileN b c := rfl
  have q3 : (nextC b 1 (file2 b c)).p = c.p + 1 + fileN b c + 1 := rfl
  have q4 : (nextC b 8 (nextC b 1 (file2 b c))).p = c.p + 1 + fileN b c + 1 + 8 := rfl
  have n1 : getC b 1 c = ((fileN b c : Nat) : Int) := by unfold fileN; have := getC_nat (b := b) (k := 1) (c := c); omega
  have C1 := cnext_c p 1 b c hb (by omega) (by omega) W (cu_gr h gW)
  rw [n1] at C1
  have C1 := Lib.hid C1
  have C2 := Lib.hid (fun u (hu : CuAt u p b (nextC b 1 c)) => ctext_c p (fileN b c) b (nextC b 1 c) hb (by omega) (by omega) u hu)
  have C3 := Lib.hid (fun u (hu : CuAt u p b (file2 b c)) => cnext_c p 1 b (file2 b c) hb (by omega) (by omega) u hu)
  have C4 := Lib.hid (fun u (hu : CuAt u p b (nextC b 1 (file2 b c))) => cnext_c p 8 b (nextC b 1 (file2 b c)) hb (by omega) (by omega) u hu)
  have C5 := Lib.hid (fun u (hu : CuAt u p b (nextC b 8 (nextC b 1 (file2 b c)))) => cnext_c p 4 b (nextC b 8 (nextC b 1 (file2 b c))) hb (by omega) (by omega) u hu)
  obtain ⟨f, hf⟩ : ∃ f, fileF b c = f := ⟨_, rfl⟩
  have e1 : textS b (fileN b c) (nextC b 1 c) = f.name := by rw [← hf]; rfl
  have e2 : getC b 1 (file2 b c) = f.size := by rw [← hf]; rfl
  have e3 : getC b 8 (nextC b 1 (file2 b c)) = f.count := by rw [← hf]; rfl
  have e4 : getC b 4 (nextC b 8 (nextC b 1 (file2 b c))) = f.sum := by rw [← hf]; rfl
  have hs0 : 0 ≤ f.sum := by rw [← e4]; exact getC_nat
  have hs1 : f.sum < 4294967296 := by have := getC_lt (b := b) (k := 4) (c := nextC b 8 (nextC b 1 (file2 b c))) (by omega); rw [← e4]; simpa using this
  have hwr : IntKind.u32.wrap f.sum = f.sum := IntWalk.u32_in _ (by omega)
  rw [e1] at C2
  rw [e2] at C3
  rw [e3] at C4
  rw [e4] at C5
  rw [hf]
  have FE := Lib.hid (show fileE b c = nextC b 4 (nextC b 8 (nextC b 1 (file2 b c))) from rfl)
  have F2 := Lib.hid (show file2 b c = textC b (fileN b c) (nextC b 1 c) from rfl)
  obtain ⟨n, hn⟩ : ∃ n, fileN b c = n := ⟨_, rfl⟩
  rw [hn] at C1 C2 F2
  have K := Lib.hid (show ∀ u, Only (fun i => i = p) W u → u.heap[w.heap.size]? = some (.cells #[.string ⟨#[]⟩, .int .i64 0, .int .i64 0, .int .u32 0] 48 (0, 0)) ∧ W.heap.size = w.heap.size + 1 ∧ Only (fun i => i = p) w u from fun u g => ⟨(g.block _ (by omega) (by omega)).trans y0, hz, (Only.ofGr gW).trans g⟩)
  have HW := Lib.hid hW
  clear h gW hz y0 hN q1 q2 q3 q4 n1 hf e1 e2 e3 e4 hs0 hs1 hn hW hpn hp hb
  go_enter Tryz.func173, Tryz.ntmps173
  go_wp2_with fail
  rw [← HW.out]
  refine C1.out.mono ?_; rintro e u1 ⟨rfl, h1⟩
  have D2 := Lib.hid (C2.out u1 h1.1)
  have H1 := Lib.hid h1
  clear h1 C1 C2
  go_wp2_with fail
  refine D2.out.mono ?_; rintro e u2 ⟨rfl, h2⟩
  rw [← F2.out] at h2
  have H2 := Lib.hid (cu_to H1.out.2 h2)
  have D3 := Lib.hid (C3.out u2 h2.1)
  clear h2 C3 D2 H1
  go_wp2_with fail
  refine D3.out.mono ?_; rintro e u3 ⟨rfl, h3⟩
  have H3 := Lib.hid (cu_to H2.out.2 h3)
  have D4 := Lib.hid (C4.out u3 h3.1)
  clear h3 C4 D3 H2
  go_wp2_with fail
  refine D4.out.mono ?_; rintro e u4 ⟨rfl, h4⟩
  have H4 := Lib.hid (cu_to H3.out.2 h4)
  have D5 := Lib.hid (C5.out u4 h4.1)
  clear h4 C5 D4 H3
  go_wp2_with fail
  refine D5.out.mono ?_; rintro e u5 ⟨rfl, h5⟩
  rw [← FE.out] at h5
  obtain ⟨H5, o5⟩ := cu_to H4.out.2 h5
  obtain ⟨x1, hz, o6⟩ := K.out u5 o5
  have e0 : u5.cell? ⟨w.heap.size, 0, none⟩ = some (.string ⟨#[]⟩) := by rw [cells_at x1]; rfl
  have e1 : u5.cell? ⟨w.heap.size, 1, none⟩ = some (.int .i64 0) := by rw [cells_at x1]; rfl
  have e2 : u5.cell? ⟨w.heap.size, 2, none⟩ = some (.int .i64 0) := by rw [cells_at x1]; rfl
  have e3 : u5.cell? ⟨w.heap.size, 3, none⟩ = some (.int .u32 0) := by rw [cells_at x1]; rfl
  have g0 := cells_free x1 0
  have g1 := cells_free x1 1
  have g2 := cells_free x1 2
  have g3 := cells_free x1 3
  obtain ⟨r1, r2⟩ := fl_store2 x1 rfl f
  have FS := Lib.hid r1
  have FC := Lib.hid (show CuTo p b (fileE b c) w _ from ⟨(r2.block p (lt_of_block H5) (by omega)).trans H5, o6.andThen r2 fun i hi => .inr (by omega)⟩)
  clear x1 o5 H5 o6 r1 r2 h5 hz H4 D5
  go_wp2_with fail
  exact bodyPost_ret (fl_results1 (f := f) rfl rfl FS.out) rfl ⟨rfl, FC.out⟩
end Go.Proofs.YtignfbdgpgidpaaGreatDoor
/- The program's layer 19: With. -/
namespace Go.Proofs.YtignfbdgpgidpaaGreatDoor
open Go.RowKit FsPlain MnPlain
set_option linter.unusedVariables false
set_option linter.unusedSimpArgs false
set_option maxRecDepth 20000
namespace MnPlain
end MnPlain
def WpAt (m : Mn) (W : World) (vf vi : Value) (wr : World) : Prop := ∃ i : Nat, i ≤ m.files.length ∧ vi = .int .i64 (i : Int) ∧ wr.ownsRow W.heap.size 48 4 vf i (fls (m.files.take i)) ∧ Gr W wr
end Go.Proofs.YtignfbdgpgidpaaGreatDoor

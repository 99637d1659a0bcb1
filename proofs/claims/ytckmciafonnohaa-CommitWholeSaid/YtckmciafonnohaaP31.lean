/- In one text: OctGets, MnPf, MnPc. -/
import Derived.Test.YtckmciafonnohaaP30
import Derived.Test.YtckmciafonnohaaP25
import Derived.Test.YtckmciafonnohaaP26
import Derived.Test.YtckmciafonnohaaP29
import Derived.BigQuiet
import Derived.Test.YtckmciafonnohaaP20
import Derived.Test.YtckmciafonnohaaP06
/- Contracts of Get in every case, and of GetCoord on both sides. -/
namespace Go.Proofs.Ytckmciafonnohaa
open Go.RowKit OctPlain
set_option linter.unusedVariables false
set_option linter.unusedSimpArgs false
set_option maxRecDepth 20000
set_option maxHeartbeats 1000000 in
theorem get_no (s : ByteArray) (a k : Int) (ha : I64 a) (hk : I64 k) (w : World) (hs : s.size ≤ 100000) (h : ¬ ((1 ≤ k ∧ k ≤ 8) ∧ 0 ≤ a ∧ a + k ≤ s.size)) :
    Calls Try.prog 89 #[.string s, .int .i64 a, .int .i64 k] w fun e w' => e = .returned (.tuple #[.int .i64 (getN s a k), .bool (getB s a k)]) ∧ w = w' := by
  have hk' := hk
  unfold I64 at ha hk'
  have hb : getB s a k = false := getB_no h
  have hn : getN s a k = 0 := getN_no hb
  by_cases k1 : 1 ≤ k ∧ k ≤ 8
  · have hd : decide (1 ≤ k ∧ k ≤ 8) = true := by simpa using k1
    by_cases k3 : a < 0
    · go_enter Try.func89, Try.ntmps89
      go_wp2_with fail
      refine (sized_c _ hk _).mono ?_
      rintro e u ⟨rfl, rfl⟩
      go_wp2_with fail
      go_ret2
      first | exact ⟨rfl, rfl⟩ | exact ⟨ret_ib hn.symm hb.symm, rfl⟩
    · have k5 : (s.size : Int) - k < a := by omega
      go_enter Try.func89, Try.ntmps89
      go_wp2_with fail
      refine (sized_c _ hk _).mono ?_
      rintro e u ⟨rfl, rfl⟩
      go_wp2_with fail
      go_ret2
      first | exact ⟨rfl, rfl⟩ | exact ⟨ret_ib hn.symm hb.symm, rfl⟩
  · have hd : decide (1 ≤ k ∧ k ≤ 8) = false := by simpa using k1
    go_enter Try.func89, Try.ntmps89
    go_wp2_with fail
    refine (sized_c _ hk _).mono ?_
    rintro e u ⟨rfl, rfl⟩
    go_wp2_with fail
    go_ret2
    first | exact ⟨rfl, rfl⟩ | exact ⟨ret_ib hn.symm hb.symm, rfl⟩
theorem get_c (s : ByteArray) (a k : Int) (ha : I64 a) (hk : I64 k) (w : World) (hs : s.size ≤ 100000) :
    Calls Try.prog 89 #[.string s, .int .i64 a, .int .i64 k] w fun e w' => e = .returned (.tuple #[.int .i64 (getN s a k), .bool (getB s a k)]) ∧ Gr w w' := by
  by_cases h : (1 ≤ k ∧ k ≤ 8) ∧ 0 ≤ a ∧ a + k ≤ s.size
  · obtain ⟨p, rfl⟩ : ∃ p : Nat, a = p := ⟨a.toNat, by omega⟩
    obtain ⟨q, rfl⟩ : ∃ q : Nat, k = q := ⟨k.toNat, by omega⟩
    exact get_yes s p q ha (by omega) (by omega) w hs
  · exact (get_no s a k ha hk w hs h).mono (fun e w' hh => ⟨hh.1, hh.2 ▸ Gr.refl _⟩)

def gcN (s : ByteArray) (a : Int) : Int := if getB s a 4 = true then wrap64 (getN s a 4 - 2147483648) else 0
end Go.Proofs.Ytckmciafonnohaa
/- The program's layer 19: the cursor's calls. -/
namespace Go.Proofs.Ytckmciafonnohaa
open Go.RowKit FsPlain CrcPlain OctPlain MnPlain
set_option linter.unusedVariables false
set_option linter.unusedSimpArgs false
set_option maxRecDepth 20000
/-- The cursor's cells. -/
def cuc (b : ByteArray) (c : Cu) : Array Value := #[.string b, .int .i64 (c.p : Int), .bool c.x]
def CuAt (w : World) (p : Nat) (b : ByteArray) (c : Cu) : Prop := w.heap[p]? = some (.cells (cuc b c) 82 (0, 0))
/-- Behind a call on the cursor. -/
def CuTo (p : Nat) (b : ByteArray) (c : Cu) (w w' : World) : Prop := CuAt w' p b c ∧ Only (fun i => i = p) w w'
theorem cu_gr {w w' : World} {p : Nat} {b : ByteArray} {c : Cu} (h : CuAt w p b c) (g : Gr w w') : CuAt w' p b c := (g.block p (lt_of_block h)).trans h
theorem cu_to {w u w' : World} {p : Nat} {b : ByteArray} {c : Cu} (h : Only (fun i => i = p) w u) (k : CuTo p b c u w') : CuTo p b c w w' := ⟨k.1, h.trans k.2⟩
theorem cu_set {w : World} {p : Nat} {b : ByteArray} {c : Cu} (h : CuAt w p b c) {q : Int} {x : Bool} {d : Cu} (hq : q = (d.p : Int)) (hx : x = d.x) : CuTo p b d w ((w.setCell ⟨p, 1, none⟩ (.int .i64 q)).setCell ⟨p, 2, none⟩ (.bool x)) := by
  subst hq hx
  refine ⟨?_, (Only.cell1 _ _ _ _).trans (Only.cell1 _ _ _ _)⟩
  unfold CuAt
  rw [cells_set (cells_set h 1 _) 2 _]
  rfl
theorem cu_same {c d : Cu} (hp : c.p = d.p) (hx : c.x = d.x) : c = d := by
  cases c; cases d
  simp only at hp hx
  rw [hp, hx]
theorem slice_midM (s : ByteArray) (a m : Nat) (h : a + m ≤ s.size) (w : World) :
    (Instr.slice 80 (.string s) (some (.int .i64 (a : Int))) (some (.int .i64 ((a : Int) + (m : Int)))) none).run Try.prog w = .ok (.string (s.extract a (a + m))) w := by
  have h1 := run_slice_string (P := Try.prog) w 80 s .i64 .i64 (a : Int) ((a : Int) + (m : Int)) Try.underlying80 (by omega) (by omega) (by omega)
  have e : ((a : Int) + (m : Int)).toNat = a + m := by omega
  rw [e, Int.toNat_natCast] at h1
  exact h1
theorem cpass_c (p k : Nat) (r : Bool) (b : ByteArray) (c d : Cu) (hd : d = ⟨c.p + k, c.x || !r⟩) (hb : c.p + k ≤ 1000000) (w : World) (h : CuAt w p b c) :
    Calls Try.prog 72 #[.pointer (some ⟨p, 0, none⟩), .int .i64 (k : Int), .bool r] w fun e w' => e = .returned (.tuple #[]) ∧ CuTo p b d w w' := by
  subst hd
  obtain ⟨cp, cx⟩ := c
  have hpl := lt_of_block h
  have c1 : w.cell? ⟨p, 1, none⟩ = some (.int .i64 (cp : Int)) := by rw [cells_at h]; rfl
  have f1 := cells_free h 1
  obtain ⟨_, h1, _⟩ := blk_next (i := 1) (show Blk p (cuc b ⟨cp, cx⟩) 82 w (fun i => i = p) from ⟨h, fun i => Iff.rfl⟩) (.int .i64 ((cp : Int) + (k : Int)))
  have c2 : (w.setCell ⟨p, 1, none⟩ (.int .i64 ((cp : Int) + (k : Int)))).cell? ⟨p, 2, none⟩ = some (.bool cx) := by rw [cells_at h1.1]; rfl
  have f2 := cells_free h1.1 2
  have CS := Lib.hid (fun x hx => cu_set (q := (cp : Int) + (k : Int)) (x := x) (d := ⟨cp + k, cx || !r⟩) h (by simp) hx)
  have hbI : (cp : Int) + (k : Int) ≤ 1000000 := by dsimp only at hb; omega
  clear h h1 hb
  cases cx <;> cases r
  all_goals
    go_enter Try.func72, Try.ntmps72
    go_wp2_with fail
    exact bodyPost_end (results_none rfl _ _ _) rfl ⟨rfl, CS.out _ rfl⟩
theorem cnumber_c (b : ByteArray) (p k : Nat) (hb : b.size ≤ 1000) (hp : p ≤ 1000000) (hk : k ≤ 8) (w : World) :
    Calls Try.prog 73 #[.string b, .int .i64 (p : Int), .int .i64 (k : Int)] w fun e w' => e = .returned (.tuple #[.int .i64 (getN b (p : Int) (k : Int)), .bool (getB b (p : Int) (k : Int))]) ∧ Gr w w' := by
  have C := Lib.hid (get_c b (p : Int) (k : Int) (by unfold I64; omega) (by unfold I64; omega) w (by omega))
  go_enter Try.func73, Try.ntmps73
  go_wp2_with fail
  refine C.out.mono ?_; rintro e u ⟨rfl, g⟩
  go_wp2_with fail
  go_ret2
  exact ⟨rfl, g⟩
theorem cletters_c (b : ByteArray) (n : Nat) (c : Cu) (hb : b.size ≤ 1000) (hp : c.p ≤ 1000000) (hn : n ≤ 300) (w : World) :
    Calls Try.prog 88 #[.string b, .int .i64 (c.p : Int), .int .i64 (n : Int)] w fun e w' => e = .returned (.tuple #[.string (textS b n c), .bool (textB b n c)]) ∧ w = w' := by
  obtain ⟨p, x⟩ := c
  dsimp only at hp
  have w1 : wrap64 ((b.size : Int) - (n : Int)) = (b.size : Int) - (n : Int) := by unfold wrap64; omega
  by_cases h : p + n ≤ b.size
  · have e1 : textB b n ⟨p, x⟩ = true := by unfold textB; exact decide_eq_true h
    have e2 : textS b n ⟨p, x⟩ = b.extract p (p + n) := by unfold textS; rw [if_pos e1]
    rw [e1, e2]
    have q1 : ¬ (b.size : Int) - (n : Int) < (p : Int) := by omega
    have SM := slice_midM b p n h
    have w2 : wrap64 ((p : Int) + (n : Int)) = (p : Int) + (n : Int) := by unfold wrap64; omega
    clear e1 e2 h hb hp
    go_enter Try.func88, Try.ntmps88
    go_wp2_with fail
    go_ret2
    exact ⟨rfl, rfl⟩
  · have e1 : textB b n ⟨p, x⟩ = false := by unfold textB; exact decide_eq_false h
    have e2 : textS b n ⟨p, x⟩ = ⟨#[]⟩ := by unfold textS; rw [e1]; rfl
    rw [e1, e2]
    have q1 : (b.size : Int) - (n : Int) < (p : Int) := by omega
    clear e1 e2 h hb hp
    go_enter Try.func88, Try.ntmps88
    go_wp2_with fail
    go_ret2
    exact ⟨rfl, rfl⟩
set_option maxHeartbeats 1000000 in
theorem cnext_c (p k : Nat) (b : ByteArray) (c : Cu) (hb : b.size ≤ 1000) (hp : c.p ≤ 900000) (hk : k ≤ 8) (w : World) (h : CuAt w p b c) :
    Calls Try.prog 60 #[.pointer (some ⟨p, 0, none⟩), .int .i64 (k : Int)] w fun e w' => e = .returned (.int .i64 (getC b k c)) ∧ CuTo p b (nextC b k c) w w' := by
  have hpl := lt_of_block h
  have gd : Gr w w.drew := (Gr.refl w).drew
  have S0 := Lib.hid (fun u (g : Gr w u) => (⟨g, by rw [cells_at (cu_gr h g)]; rfl, by rw [cells_at (cu_gr h g)]; rfl, cu_gr h g, Nat.lt_of_lt_of_le hpl g.size⟩ : Gr w u ∧ u.cell? ⟨p, 0, none⟩ = some (.string b) ∧ u.cell? ⟨p, 1, none⟩ = some (.int .i64 (c.p : Int)) ∧ CuAt u p b c ∧ p < u.heap.size))
  obtain ⟨n, hn⟩ : ∃ n, getN b (c.p : Int) (k : Int) = n := ⟨_, rfl⟩
  obtain ⟨r, hr⟩ : ∃ r, getB b (c.p : Int) (k : Int) = r := ⟨_, rfl⟩
  have hgc : getC b k c = n := hn
  rw [hgc]
  have NC0 := fun u => cnumber_c b c.p k hb (by omega) hk u
  rw [hn, hr] at NC0
  have NC := Lib.hid (fun u (g : Gr w u) => (NC0 u).mono fun e w' hh => (⟨hh.1, S0.out w' (g.trans hh.2)⟩ : e = .returned (.tuple #[.int .i64 n, .bool r]) ∧ _))
  have PS := Lib.hid (fun u (hu : CuAt u p b c) => cpass_c p k r b c (nextC b k c) (by unfold nextC; rw [hr]) (by omega) u hu)
  clear h hn hr hgc NC0 hp hk hb
  go_enter Try.func60, Try.ntmps60
  go_wp2_with fail
  go_region_held3 (fun u => Gr w u ∧ u.cell? ⟨p, 0, none⟩ = some (.string b) ∧ u.cell? ⟨p, 1, none⟩ = some (.int .i64 (c.p : Int)) ∧ CuAt u p b c ∧ p < u.heap.size) (first | exact S0.out _ gd | exact S0.out _ (by assumption) | assumption | go_keep)
    ((go_at_call 73; (with_reducible refine (NC.out _ (by assumption)).mono ?_); rintro e t2 ⟨rfl, hg, hst⟩))
  go_wp2_with fail
  refine (PS.out _ (S0.out _ hg).2.2.2.1).mono ?_; rintro e u2 ⟨rfl, hu⟩
  go_wp2_with fail
  go_ret
  exact ⟨rfl, cu_to (Only.ofGr hg) hu⟩
set_option maxHeartbeats 1000000 in
theorem ctext_c (p n : Nat) (b : ByteArray) (c : Cu) (hb : b.size ≤ 1000) (hp : c.p ≤ 900000) (hn : n ≤ 300) (w : World) (h : CuAt w p b c) :
    Calls Try.prog 71 #[.pointer (some ⟨p, 0, none⟩), .int .i64 (n : Int)] w fun e w' => e = .returned (.string (textS b n c)) ∧ CuTo p b (textC b n c) w w' := by
  have hpl := lt_of_block h
  have gd : Gr w w.drew := (Gr.refl w).drew
  have S0 := Lib.hid (fun u (g : Gr w u) => (⟨g, by rw [cells_at (cu_gr h g)]; rfl, by rw [cells_at (cu_gr h g)]; rfl, cu_gr h g, Nat.lt_of_lt_of_le hpl g.size⟩ : Gr w u ∧ u.cell? ⟨p, 0, none⟩ = some (.string b) ∧ u.cell? ⟨p, 1, none⟩ = some (.int .i64 (c.p : Int)) ∧ CuAt u p b c ∧ p < u.heap.size))
  obtain ⟨s, hs⟩ : ∃ s, textS b n c = s := ⟨_, rfl⟩
  obtain ⟨r, hr⟩ : ∃ r, textB b n c = r := ⟨_, rfl⟩
  rw [hs]
  have NC0 := fun u => cletters_c b n c hb (by omega) hn u
  rw [hs, hr] at NC0
  have NC := Lib.hid (fun u (g : Gr w u) => (NC0 u).mono fun e w' hh => (⟨hh.1, S0.out w' (g.trans (hh.2 ▸ Gr.refl u))⟩ : e = .returned (.tuple #[.string s, .bool r]) ∧ _))
  have PS := Lib.hid (fun u (hu : CuAt u p b c) => cpass_c p n r b c (textC b n c) (by unfold textC; rw [hr]) (by omega) u hu)
  clear h hs hr NC0 hp hn hb
  go_enter Try.func71, Try.ntmps71
  go_wp2_with fail
  go_region_held3 (fun u => Gr w u ∧ u.cell? ⟨p, 0, none⟩ = some (.string b) ∧ u.cell? ⟨p, 1, none⟩ = some (.int .i64 (c.p : Int)) ∧ CuAt u p b c ∧ p < u.heap.size) (first | exact S0.out _ gd | exact S0.out _ (by assumption) | assumption | go_keep)
    ((go_at_call 88; (with_reducible refine (NC.out _ (by assumption)).mono ?_); rintro e t2 ⟨rfl, hg, hst⟩))
  go_wp2_with fail
  refine (PS.out _ (S0.out _ hg).2.2.2.1).mono ?_; rintro e u2 ⟨rfl, hu⟩
  go_wp2_with fail
  go_ret
  exact ⟨rfl, cu_to (Only.ofGr hg) hu⟩
set_option maxHeartbeats 400000 in
theorem cexpect_c (p : Nat) (b : ByteArray) (hb : b.size ≤ 1000) (w : World) (h : CuAt w p b ⟨0, false⟩) :
    Calls Try.prog 59 #[.pointer (some ⟨p, 0, none⟩), .string ⟨#[77, 65, 78, 49]⟩] w fun e w' => e = .returned (.tuple #[]) ∧ CuTo p b (head1 b) w w' := by
  have TX := ctext_c p 4 b ⟨0, false⟩ hb (by dsimp only; omega) (by omega) w h
  rw [show ((4 : Nat) : Int) = 4 from rfl] at TX
  obtain ⟨s, hs⟩ : ∃ s, textS b 4 ⟨0, false⟩ = s := ⟨_, rfl⟩
  obtain ⟨r, hr⟩ : ∃ r, decide (s = markS) = r := ⟨_, rfl⟩
  rw [hs] at TX
  have TX := Lib.hid TX
  have hr2 : (s.toList == (⟨#[77, 65, 78, 49]⟩ : ByteArray).toList) = r := by rw [eq_list]; exact hr
  have hr3 : (s.toList == [77, 65, 78, 49]) = r := by rw [← hr2, Lib.toList_data ⟨#[77, 65, 78, 49]⟩]
  have PS := fun u (hu : CuAt u p b (textC b 4 ⟨0, false⟩)) => cpass_c p 0 r b (textC b 4 ⟨0, false⟩) (head1 b) (by unfold head1; rw [hs, hr]; rfl) (by unfold textC; dsimp only; omega) u hu
  simp only [show ((0 : Nat) : Int) = 0 from rfl] at PS
  have PS := Lib.hid PS
  clear h hs hr
  go_enter Try.func59, Try.ntmps59
  go_wp2_with fail
  refine TX.out.mono ?_; rintro e u ⟨rfl, hu⟩
  have PU := Lib.hid (PS.out u hu.1)
  have HU := Lib.hid hu
  clear hu
  go_wp2_with fail
  refine PU.out.mono ?_; rintro e u2 ⟨rfl, hu2⟩
  go_wp2_with fail
  exact bodyPost_end (results_none rfl _ _ _) rfl ⟨rfl, cu_to HU.out.2 hu2⟩
theorem cright_c (p : Nat) (b : ByteArray) (c : Cu) {r : Bool} (hr : (!c.x && decide (c.p = b.size)) = r) (w : World) (h : CuAt w p b c) :
    Calls Try.prog 44 #[.pointer (some ⟨p, 0, none⟩)] w fun e w' => e = .returned (.bool r) ∧ Gr w w' := by
  obtain ⟨cp, cx⟩ := c
  have hpl := lt_of_block h
  have c0 : w.cell? ⟨p, 0, none⟩ = some (.string b) := by rw [cells_at h]; rfl
  have c1 : w.cell? ⟨p, 1, none⟩ = some (.int .i64 (cp : Int)) := by rw [cells_at h]; rfl
  have c2 : w.cell? ⟨p, 2, none⟩ = some (.bool cx) := by rw [cells_at h]; rfl
  clear h
  dsimp only at hr
  cases cx
  · by_cases e : cp = b.size
    · obtain rfl : r = true := by rw [← hr, decide_eq_true e]; rfl
      have t : ((cp : Int) == (b.size : Int)) = true := by simp [e]
      clear hr e
      go_enter Try.func44, Try.ntmps44
      go_wp2_with fail
      go_quiet (fail)
      go_wp2_with fail
      go_ret
      exact ⟨rfl, grN _ _⟩
    · obtain rfl : r = false := by rw [← hr, decide_eq_false e]; rfl
      have t : ((cp : Int) == (b.size : Int)) = false := by simp; omega
      clear hr e
      go_enter Try.func44, Try.ntmps44
      go_wp2_with fail
      go_quiet (fail)
      go_wp2_with fail
      go_ret
      exact ⟨rfl, grN _ _⟩
  · obtain rfl : r = false := by rw [← hr]; rfl
    clear hr
    go_enter Try.func44, Try.ntmps44
    go_wp2_with fail
    go_quiet (fail)
    go_wp2_with fail
    go_ret
    exact ⟨rfl, grN _ _⟩
end Go.Proofs.Ytckmciafonnohaa
/- The program's layer 19: Same (slices.Equal), own, Find. -/
namespace Go.Proofs.Ytckmciafonnohaa
open Go.RowKit FsPlain MnPlain
set_option linter.unusedVariables false
set_option linter.unusedSimpArgs false
set_option maxRecDepth 20000
theorem lies_len {w : World} {a : Option Addr} {n c : Nat} {l : List Fl} (h : LiesFl w (.slice a n c) l) : n = l.length := by
  obtain ⟨a', c', e, hc, _⟩ := h
  simp only [Value.slice.injEq] at e
  exact e.2.1
/-- At the head of a round. -/
def SqAt (l m : List Fl) (w : World) (v : Value) (wr : World) : Prop := ∃ i : Nat, i ≤ l.length ∧ v = .int .i64 (i : Int) ∧ flsEq l m = flsEq (l.drop i) (m.drop i) ∧ Gr w wr
theorem fl_results1 {fn : Func} {p : Tmp} (hfn : fn.results = #[.cell p 61]) {tmps : Array Value} {o : Nat} {f : Fl} {w : World} (hp : tmps.getD p undef = .pointer (some ⟨o, 0, none⟩)) (hb : w.heap[o]? = some (.cells #[.string f.name, .int .i64 f.size, .int .i64 f.count, .int .u32 f.sum] 61 (0, 0))) :
    (results fn tmps).run Try.prog w = .ok (flV f) w := by
  have c0 : w.cell? ⟨o, 0, none⟩ = some (.string f.name) := by rw [cells_at hb]; rfl
  have c1 : w.cell? ⟨o, 1, none⟩ = some (.int .i64 f.size) := by rw [cells_at hb]; rfl
  have c2 : w.cell? ⟨o, 2, none⟩ = some (.int .i64 f.count) := by rw [cells_at hb]; rfl
  have c3 : w.cell? ⟨o, 3, none⟩ = some (.int .u32 f.sum) := by rw [cells_at hb]; rfl
  have hp2 := hp
  rw [Array.getD_eq_getD_getElem?] at hp2
  simp [results, hfn, hp2, go_sem, c0, c1, c2, c3, flV]
/-- A file stored into a block of its own. -/
theorem fl_store {w u : World} {q : Nat} (hw : w.heap.size ≤ q) (g : Gr w u) {c : Array Value} (hc : u.heap[q]? = some (.cells c 61 (0, 0))) (h4 : c.size = 4) (f : Fl) :
    ((((u.setCell ⟨q, 0, none⟩ (.string f.name)).setCell ⟨q, 1, none⟩ (.int .i64 f.size)).setCell ⟨q, 2, none⟩ (.int .i64 f.count)).setCell ⟨q, 3, none⟩ (.int .u32 f.sum)).heap[q]? = some (.cells #[.string f.name, .int .i64 f.size, .int .i64 f.count, .int .u32 f.sum] 61 (0, 0)) ∧ Gr w ((((u.setCell ⟨q, 0, none⟩ (.string f.name)).setCell ⟨q, 1, none⟩ (.int .i64 f.size)).setCell ⟨q, 2, none⟩ (.int .i64 f.count)).setCell ⟨q, 3, none⟩ (.int .u32 f.sum)) := by
  have o := (((Only.cell1 u q 0 (.string f.name)).trans (Only.cell1 _ q 1 (.int .i64 f.size))).trans (Only.cell1 _ q 2 (.int .i64 f.count))).trans (Only.cell1 _ q 3 (.int .u32 f.sum))
  refine ⟨?_, Below.trans g (o.toBelow (n := w.heap.size) g.size fun b e => by omega)⟩
  rw [cells_set (cells_set (cells_set (cells_set hc 0 _) 1 _) 2 _) 3 _]
  match c, h4 with
  | ⟨[_, _, _, _]⟩, _ => rfl
end Go.Proofs.Ytckmciafonnohaa

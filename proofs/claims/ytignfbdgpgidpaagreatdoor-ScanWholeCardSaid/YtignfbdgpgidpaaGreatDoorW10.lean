/- In one text: FrameGetEnd, FrameRget, FrameRgetEnd, FrameArgs. -/
import Derived.Test.YtignfbdgpgidpaaGreatDoorW09
import Derived.Laws.ResultCell
import Derived.Test.YtignfbdgpgidpaaGreatDoorW08
/- The contract of GetEnd. -/
namespace Go.Proofs.YtignfbdgpgidpaaGreatDoor
open Go.RowKit CrcPlain OctPlain FramePlain
set_option linter.unusedVariables false
set_option linter.unusedSimpArgs false
set_option maxRecDepth 20000
theorem prefix_0 (s : ByteArray) (h : 0 < s.size) : ((s.extract 0 1).toList == [0]) = decide (cntN s = 0) := by
  have e0 : [0] = (ByteArray.mk #[0]).toList := by rw [Lib.toList_data]
  rw [e0]
  rw [eq_list]
  apply decide_eq_decide.2
  have l := cutL_length s 0 1 (by omega)
  have e : (s.extract 0 1).data.toList = cutL s 0 1 := by unfold cutL; simp [ByteArray.data_extract]
  have b := beL_num (cutL s 0 1)
  rw [l] at b
  have hlt := cntN_lt s
  constructor
  · intro hh
    have e2 := congrArg (fun x => x.data.toList) hh
    simp only [e] at e2
    unfold cntN; rw [e2]; rfl
  · intro hh
    unfold cntN at hh
    rw [hh] at b
    apply ByteArray.ext
    apply Array.toList_inj.1
    rw [e, ← b]; rfl
theorem prefix_c (s : ByteArray) (h : 0 < s.size) (w : World) :
    Calls Tryz.prog 154 #[.string s, .string (ByteArray.mk #[0])] w fun e w' => e = .returned (.bool (decide (cntN s = 0))) ∧ w = w' := by
  have hp := prefix_0 s h
  have hsl := slice_to s 1 (by omega)
  have h1 : (1 : Int) ≤ s.size := by omega
  have hz : (ByteArray.mk #[0]).size = 1 := rfl
  generalize decide (cntN s = 0) = b at hp
  go_enter Tryz.func154, Tryz.ntmps154
  go_wp2
  go_ret
  first | exact ⟨rfl, rfl⟩ | exact ⟨retb hp, rfl⟩
def EGot (s : ByteArray) (w : World) (e : Ending) (w' : World) : Prop :=
  e = .returned (.tuple #[.agg #[.int .i64 (eC s), .int .u32 (eM s)], .bool (eB s)]) ∧ Gr w w'
theorem egot_no {s : ByteArray} {w w' : World} (h : eB s = false) (g : Gr w w') : EGot s w (.returned (.tuple #[.agg #[.int .i64 0, .int .u32 0], .bool false])) w' := by
  refine ⟨?_, g⟩
  rw [eC_no h, eM_no h, h]
theorem egetend_short (s : ByteArray) (w : World) (h : ¬ s.size = 17) :
    Calls Tryz.prog 125 #[.string s] w (EGot s w) := by
  have hb : eB s = false := by unfold eB; rw [decide_eq_false h]; rfl
  have HB := Lib.hid hb
  clear hb
  have h1 : (((s.size : Int)) != 17) = true := by simpa using (by omega : ¬ (s.size : Int) = 17)
  go_enter Tryz.func125, Tryz.ntmps125
  go_wp2_with fail
  refine bodyPost_ret (v := .tuple #[.agg #[.int .i64 0, .int .u32 0], .bool false]) ?_ rfl (egot_no HB.out ?_)
  · rw [results_cell_tmp Tryz.results125]
    simp [go_sem]
  · exact Gr.of (by go_grown)
theorem egetend_head (s : ByteArray) (w : World) (h : s.size = 17) (h0 : ¬ cntN s = 0) :
    Calls Tryz.prog 125 #[.string s] w (EGot s w) := by
  have hb : eB s = false := by unfold eB; rw [decide_eq_false h0, Bool.and_false]; rfl
  have HB := Lib.hid hb
  have P := fun u => prefix_c s (by omega) u
  rw [decide_eq_false h0] at P
  clear hb h0
  have h1 : (((s.size : Int)) != 17) = false := by simpa using (by omega : (s.size : Int) = 17)
  clear h
  go_enter Tryz.func125, Tryz.ntmps125
  go_wp2_with fail
  refine (P _).mono ?_; rintro e u ⟨rfl, rfl⟩
  go_wp2_with fail
  refine bodyPost_ret (v := .tuple #[.agg #[.int .i64 0, .int .u32 0], .bool false]) ?_ rfl (egot_no HB.out ?_)
  · rw [results_cell_tmp Tryz.results125]
    simp [go_sem]
  · exact Gr.of (by go_grown)
structure Two (w : World) (B : Nat) (a b : Value) (u : World) : Prop where
  lt : B < u.heap.size
  c0 : u.cell? ⟨B, 0, none⟩ = some a
  c1 : u.cell? ⟨B, 1, none⟩ = some b
  f0 : u.frozen? ⟨B, 0, none⟩ = false
  f1 : u.frozen? ⟨B, 1, none⟩ = false
theorem two_new (w : World) (a b : Value) (T : TypeId) {u : World} (g : Gr (w.alloc (.cells #[a, b] T)) u) : Two w w.heap.size a b u := by
  have h := Below.block g w.heap.size (by rw [World.size_alloc]; omega)
  have hh : u.heap[w.heap.size]? = some (.cells #[a, b] T (0, 0)) := by rw [h]; exact heap_alloc_new w _
  have hs := g.size
  rw [World.size_alloc] at hs
  exact ⟨by omega, by simp [World.cell?, hh], by simp [World.cell?, hh], by simp [World.frozen?, hh], by simp [World.frozen?, hh]⟩
theorem two_set {w u : World} {B : Nat} {a b : Value} (h : Two w B a b u) (x y : Value) (g : Gr w u) (hB : w.heap.size ≤ B) :
    ∃ W, W = (u.setCell ⟨B, 0, none⟩ x).setCell ⟨B, 1, none⟩ y ∧ W.cell? ⟨B, 0, none⟩ = some x ∧ W.cell? ⟨B, 1, none⟩ = some y ∧ Gr w W := by
  have n1 : (⟨B, 1, none⟩ : Addr) ≠ ⟨B, 0, none⟩ := by simp
  have n0 : (⟨B, 0, none⟩ : Addr) ≠ ⟨B, 1, none⟩ := by simp
  have s0 := World.cell?_setCell_same u ⟨B, 0, none⟩ x h.c0
  have s1 : (u.setCell ⟨B, 0, none⟩ x).cell? ⟨B, 1, none⟩ = some b := (World.cell?_setCell_other u ⟨B, 0, none⟩ ⟨B, 1, none⟩ x n0).trans h.c1
  refine ⟨_, rfl, ?_, ?_, ?_⟩
  · exact (World.cell?_setCell_other _ ⟨B, 1, none⟩ ⟨B, 0, none⟩ y n1).trans s0
  · exact World.cell?_setCell_same _ _ _ s1
  · exact Below.setCell (Below.setCell g hB _) hB _
theorem two_ret {fn : Func} {p q : Tmp} (hr : fn.results = #[.cell p 50, .tmp q]) {tmps : Array Value} {B : Nat} {W : World} {x y : Int} {b : Bool} (hp : tmps.getD p undef = .pointer (some ⟨B, 0, none⟩)) (hq : tmps.getD q undef = .bool b)
    (c0 : W.cell? ⟨B, 0, none⟩ = some (.int .i64 x)) (c1 : W.cell? ⟨B, 1, none⟩ = some (.int .u32 y)) : (results fn tmps).run Tryz.prog W = .ok (.tuple #[.agg #[.int .i64 x, .int .u32 y], .bool b]) W := by
  rw [results_cell_tmp hr, hp, hq]
  simp [go_sem, c0, c1]
theorem egetend_shut (s : ByteArray) (w : World) (h : s.size = 17) (h0 : cntN s = 0) (hop : opB s = false) :
    Calls Tryz.prog 125 #[.string s] w (EGot s w) := by
  have hb : eB s = false := by unfold eB; rw [hop, Bool.and_false, Bool.false_and]
  have HB := Lib.hid hb
  have P := fun u => prefix_c s (by omega) u
  rw [decide_eq_true h0] at P
  have O := fun u => open_c s (by omega) u
  rw [hop, opS_no hop] at O
  clear hb h0 hop
  have h1 : (((s.size : Int)) != 17) = false := by simpa using (by omega : (s.size : Int) = 17)
  clear h
  go_enter Tryz.func125, Tryz.ntmps125
  go_wp2_with fail
  refine (P _).mono ?_; rintro e u ⟨rfl, rfl⟩
  go_wp2_with fail
  refine (O _).mono ?_; rintro e u ⟨rfl, g⟩
  have hw := two_new _ _ _ _ g
  obtain ⟨W, hW, d0, d1, gW⟩ := two_set hw (.int .i64 0) (.int .u32 0) (Gr.trans (Below.alloc (Below.refl _ _) (Nat.le_refl _) _) g) (Nat.le_refl _)
  have HW := Lib.hid hW
  obtain ⟨_, c0, c1, f0, f1⟩ := hw
  clear hW
  go_wp2_with fail
  rw [← HW.out]
  exact bodyPost_ret (two_ret Tryz.results125 rfl rfl d0 d1) rfl (egot_no HB.out gW)
theorem egetend_open (s : ByteArray) (w : World) (h : s.size = 17) (h0 : cntN s = 0) (hop : opB s = true) :
    Calls Tryz.prog 125 #[.string s] w (EGot s w) := by
  have hbe : eB s = (getB s 1 8 && decide (getN s 1 8 ≤ 4611686018427387904)) := by unfold eB; rw [decide_eq_true h, decide_eq_true h0, hop]; rfl
  have P := fun u => prefix_c s (by omega) u
  rw [decide_eq_true h0] at P
  have O := fun u => open_c s (by omega) u
  have ha := opS_yes hop
  rw [hop, ha] at O
  have haz := ahead_size s (by omega)
  have G8 := fun u => get_c (ahead s) 1 8 (by unfold I64; omega) (by unfold I64; omega) u (by omega)
  have G4 := fun u => get_c (ahead s) 9 4 (by unfold I64; omega) (by unfold I64; omega) u (by omega)
  obtain ⟨e1, e2⟩ := get_ahead s 1 8 (by omega) (by omega)
  obtain ⟨e3, e4⟩ := get_ahead s 9 4 (by omega) (by omega)
  obtain ⟨m, hm, q1, q2, q3⟩ := get4_lt s (by omega)
  have e1' : getB (ahead s) 1 8 = getB s 1 8 := e1
  have e2' : getN (ahead s) 1 8 = getN s 1 8 := e2
  have e3' : getB (ahead s) 9 4 = true := by rw [← q3]; exact e3
  have e4' : getN (ahead s) 9 4 = m := by rw [← q1]; exact e4
  rw [e1', e2'] at G8
  rw [e3', e4'] at G4
  clear e1 e2 e3 e4 e1' e2' e3' e4' q2 q3 ha
  have h1 : (((s.size : Int)) != 17) = false := by simpa using (by omega : (s.size : Int) = 17)
  have HQ := Lib.hid q1
  have hz : (ahead s).size = 13 := by omega
  generalize ahead s = t at O G8 G4 hz haz
  have hm32 : (m : Int) % 4294967296 = (m : Int) := by omega
  cases hg : getB s 1 8
  · have hb : eB s = false := by rw [hbe, hg]; rfl
    have HB := Lib.hid hb
    have hn0 := getN_no hg
    rw [hg, hn0] at G8
    clear hb h0 hop h hbe hg hn0 q1 haz hz
    go_enter Tryz.func125, Tryz.ntmps125
    go_wp2_with fail
    refine (P _).mono ?_; rintro e u ⟨rfl, rfl⟩
    go_wp2_with fail
    refine (O _).mono ?_; rintro e u ⟨rfl, g⟩
    go_wp2_with fail
    refine (G8 _).mono ?_; rintro e u2 ⟨rfl, g2⟩
    have g := Gr.trans g g2
    have hw := two_new _ _ _ _ g
    obtain ⟨W, hW, d0, d1, gW⟩ := two_set hw (.int .i64 0) (.int .u32 0) (Gr.trans (Below.alloc (Below.refl _ _) (Nat.le_refl _) _) g) (Nat.le_refl _)
    have HW := Lib.hid hW
    obtain ⟨_, c0, c1, f0, f1⟩ := hw
    clear hW
    go_wp2_with fail
    rw [← HW.out]
    exact bodyPost_ret (two_ret Tryz.results125 rfl rfl d0 d1) rfl (egot_no HB.out gW)
  · obtain ⟨n, p1, p2⟩ := get8_yes hg
    have hn63 : n < 9223372036854775808 := by
      have hh := hg
      unfold getB at hh
      rw [decide_eq_true_iff] at hh
      have := hh.2.2.2
      rw [p2]; exact this
    rw [hg, p1] at G8
    by_cases hbig : (4611686018427387904 : Int) < n
    · have hb : eB s = false := by rw [hbe, hg, p1]; rw [decide_eq_false (by omega)]; rfl
      have HB := Lib.hid hb
      clear hb h0 hop h hbe hg p1 p2 q1 haz hz
      go_enter Tryz.func125, Tryz.ntmps125
      go_wp2_with fail
      refine (P _).mono ?_; rintro e u ⟨rfl, rfl⟩
      go_wp2_with fail
      refine (O _).mono ?_; rintro e u ⟨rfl, g⟩
      go_wp2_with fail
      refine (G8 _).mono ?_; rintro e u2 ⟨rfl, g2⟩
      have g := Gr.trans g g2
      have hw := two_new _ _ _ _ g
      obtain ⟨W, hW, d0, d1, gW⟩ := two_set hw (.int .i64 0) (.int .u32 0) (Gr.trans (Below.alloc (Below.refl _ _) (Nat.le_refl _) _) g) (Nat.le_refl _)
      have HW := Lib.hid hW
      obtain ⟨_, c0, c1, f0, f1⟩ := hw
      clear hW
      go_wp2_with fail
      rw [← HW.out]
      exact bodyPost_ret (two_ret Tryz.results125 rfl rfl d0 d1) rfl (egot_no HB.out gW)
    · have hb : eB s = true := by rw [hbe, hg, p1]; rw [decide_eq_true (by omega)]; rfl
      have HB := Lib.hid hb
      have HP := Lib.hid p1
      clear hb h0 hop h hbe hg p1 p2 q1 haz hz
      go_enter Tryz.func125, Tryz.ntmps125
      go_wp2_with fail
      refine (P _).mono ?_; rintro e u ⟨rfl, rfl⟩
      go_wp2_with fail
      refine (O _).mono ?_; rintro e u ⟨rfl, g⟩
      go_wp2_with fail
      refine (G8 _).mono ?_; rintro e u2 ⟨rfl, g2⟩
      go_wp2_with fail
      refine (G4 _).mono ?_; rintro e u3 ⟨rfl, g3⟩
      have g := (Gr.trans g g2).trans g3
      have hw := two_new _ _ _ _ g
      obtain ⟨W, hW, d0, d1, gW⟩ := two_set hw (.int .i64 (n : Int)) (.int .u32 (m : Int)) (Gr.trans (Below.alloc (Below.refl _ _) (Nat.le_refl _) _) g) (Nat.le_refl _)
      have HW := Lib.hid hW
      obtain ⟨_, c0, c1, f0, f1⟩ := hw
      clear hW
      go_wp2_with fail
      rw [← HW.out]
      refine bodyPost_ret (two_ret Tryz.results125 rfl rfl d0 d1) rfl ⟨?_, gW⟩
      rw [eC_yes HB.out, eM_yes HB.out, HB.out, HP.out, HQ.out]
theorem getend_c (s : ByteArray) (w : World) :
    Calls Tryz.prog 125 #[.string s] w (EGot s w) := by
  by_cases h : s.size = 17
  · by_cases h0 : cntN s = 0
    · cases hop : opB s
      · exact egetend_shut s w h h0 hop
      · exact egetend_open s w h h0 hop
    · exact egetend_head s w h h0
  · exact egetend_short s w h
end Go.Proofs.YtignfbdgpgidpaaGreatDoor
/- The contract of the document's Get. -/
namespace Go.Proofs.YtignfbdgpgidpaaGreatDoor
open Go.RowKit CrcPlain OctPlain FramePlain
set_option linter.unusedVariables false
set_option linter.unusedSimpArgs false
set_option maxRecDepth 20000
theorem index_0 (s : ByteArray) (h : 0 < s.size) (w : World) :
    (Instr.index 9 (.string s) (.int .i64 0)).run Tryz.prog w = .ok (.int .u8 (cntN s : Int)) w := by
  rw [run_index_string w 9 s .i64 0 Tryz.underlying9]
  have e := cntN_at s h
  simp [h, ← e]
theorem rfget_none (s : ByteArray) (size : Int) (hk : I64 size) (w : World) (hs : s.size ≤ 100000) (h : sizeB size = false ∨ ¬ (1 ≤ cntN s ∧ cntN s ≤ 4)) :
    Calls Tryz.prog 105 #[.int .i64 size, .string s] w (FGot size s w) := by
  have hno : gB size s = false := by
    unfold gB
    rcases h with h | h
    · rw [h]; rfl
    · rw [decide_eq_false h, Bool.and_false, Bool.false_and, Bool.false_and]
  have HP := Lib.hid hno
  clear hno
  unfold I64 at hk
  by_cases h1 : size < 1
  · clear h
    go_enter Tryz.func105, Tryz.ntmps105
    go_wp2_with fail
    go_ret3
    exact fgot_no HP.out (Gr.refl _)
  · by_cases h2 : 64 < size
    · clear h
      go_enter Tryz.func105, Tryz.ntmps105
      go_wp2_with fail
      go_ret3
      exact fgot_no HP.out (Gr.refl _)
    · have h' : ¬ (1 ≤ cntN s ∧ cntN s ≤ 4) := by
        rcases h with h | h
        · unfold sizeB at h; rw [decide_eq_false_iff_not] at h; omega
        · exact h
      clear h
      by_cases h3 : s.size = 0
      · have h3' : (s.size : Int) < 1 := by omega
        clear h'
        go_enter Tryz.func105, Tryz.ntmps105
        go_wp2_with fail
        go_ret3
        exact fgot_no HP.out (Gr.refl _)
      · have h3' : ¬ (s.size : Int) < 1 := by omega
        have X := index_0 s (by omega)
        generalize cntN s = c at X h'
        by_cases h4 : (c : Int) < 1
        · clear h' h3
          go_enter Tryz.func105, Tryz.ntmps105
          go_wp2_with fail
          go_ret3
          exact fgot_no HP.out (Gr.refl _)
        · have h5 : (4 : Int) < c := by omega
          clear h' h3
          go_enter Tryz.func105, Tryz.ntmps105
          go_wp2_with fail
          go_ret3
          exact fgot_no HP.out (Gr.refl _)
set_option maxHeartbeats 1000000 in
theorem rfget_some (s : ByteArray) (size : Int) (hk : I64 size) (w : World) (hs : s.size ≤ 100000) (h1 : sizeB size = true) (h2 : 1 ≤ cntN s ∧ cntN s ≤ 4) :
    Calls Tryz.prog 105 #[.int .i64 size, .string s] w (FGot size s w) := by
  have h1' := h1
  simp only [sizeB, decide_eq_true_eq] at h1'
  obtain ⟨n, hn, hn6, hn261⟩ := gLen_nat h1' h2
  obtain ⟨k, rfl⟩ : ∃ k, n = 1 + k + 4 := ⟨n - 5, by omega⟩
  have hgB : gB size s = (decide (((1 + k + 4 : Nat) : Int) ≤ s.size) && opB (s.extract 0 (1 + k + 4))) := by
    unfold gB
    rw [h1, hn, decide_eq_true h2, Int.toNat_natCast]
    rfl
  have hpos : 0 < s.size := by
    rcases Nat.eq_zero_or_pos s.size with h | h
    · rw [cntN_none s h] at h2; omega
    · exact h
  have X := index_0 s hpos
  have hp1 : ¬ (s.size : Int) < 1 := by omega
  have e5 : 5 + (cntN s : Int) * size = ((1 + k + 4 : Nat) : Int) := hn
  have hm2 : (cntN s : Int) * size = (k : Int) := by omega
  have c1 : ¬ (cntN s : Int) < 1 := by omega
  have c2 : ¬ (4 : Int) < (cntN s : Int) := by omega
  have z1 : ¬ size < 1 := by omega
  have z2 : ¬ (64 : Int) < size := by omega
  by_cases hlen : (s.size : Int) < 1 + k + 4
  · have hno : gB size s = false := by rw [hgB]; rw [decide_eq_false (by omega)]; rfl
    have HP := Lib.hid hno
    generalize cntN s = c at X h2 hm2 c1 c2
    clear hno hgB hn e5 h1' h1 h2
    go_enter Tryz.func105, Tryz.ntmps105
    go_wp2_with fail
    go_ret3
    exact fgot_no HP.out (Gr.refl _)
  · have hle : 1 + k + 4 ≤ s.size := by omega
    have hxs : (s.extract 0 (1 + k + 4)).size = 1 + k + 4 := by rw [ByteArray.size_extract]; omega
    have hsl := slice_to s (1 + k + 4) hle
    have O := fun w => ropen_c (s.extract 0 (1 + k + 4)) (by omega) w
    cases hop : opB (s.extract 0 (1 + k + 4))
    · have hno : gB size s = false := by rw [hgB, hop, Bool.and_false]
      have HP := Lib.hid hno
      rw [hop, opS_no hop] at O
      generalize cntN s = c at X h2 hm2 c1 c2
      clear hno hgB hn e5 h1' h1 h2 hop hxs
      go_enter Tryz.func105, Tryz.ntmps105
      go_wp2_with fail
      refine (O _).mono ?_; rintro e u2 ⟨rfl, g2⟩
      go_wp2_with fail
      go_ret3
      exact fgot_no HP.out g2
    · have hyes : gB size s = true := by rw [hgB, hop, decide_eq_true (by omega)]; rfl
      have hN := gN_yes hyes
      rw [hn] at hN
      have hN' : gN size s = 1 + (k : Int) + 4 := by rw [hN]; omega
      have hbody : gBody size s = (opS (s.extract 0 (1 + k + 4))).extract 1 (opS (s.extract 0 (1 + k + 4))).size := by unfold gBody; rw [hn, Int.toNat_natCast]
      have hos : (opS (s.extract 0 (1 + k + 4))).size = 1 + k := by rw [opS_yes hop, ahead_size _ (by omega), hxs]; omega
      rw [hop] at O
      generalize opS (s.extract 0 (1 + k + 4)) = t at O hbody hos
      have hbz : (gBody size s).size ≤ 1000 := by rw [hbody, ByteArray.size_extract]; omega
      have C := fun w => rsplit_c (gBody size s) size hk w hbz
      rw [hbody] at C
      have hs1 := slice_1 t (by omega)
      have HP := Lib.hid hyes
      have HN := Lib.hid hN'
      have HB := Lib.hid hbody
      generalize cntN s = c at X h2 hm2 c1 c2
      clear hyes hgB hn e5 h1' h1 h2 hop hN hN' hbody hos hbz hxs
      go_enter Tryz.func105, Tryz.ntmps105
      go_wp2_with fail
      refine (O _).mono ?_; rintro e u2 ⟨rfl, g2⟩
      go_wp2_with fail
      refine (C _).mono ?_; rintro e u4 ⟨v, rfl, o, g4⟩
      have OO := Lib.hid o
      clear o
      go_wp2_with fail
      go_ret3
      have ow := OO.out
      rw [← HB.out] at ow
      exact fgot_yes HP.out HN.out ⟨_, g2.size, ow⟩ (g2.trans g4)
theorem rfget_c (s : ByteArray) (size : Int) (hk : I64 size) (w : World) (hs : s.size ≤ 100000) :
    Calls Tryz.prog 105 #[.int .i64 size, .string s] w (FGot size s w) := by
  by_cases h : sizeB size = true ∧ 1 ≤ cntN s ∧ cntN s ≤ 4
  · exact rfget_some s size hk w hs h.1 h.2
  · refine rfget_none s size hk w hs ?_
    cases hb : sizeB size
    · exact .inl rfl
    · exact .inr fun hc => h ⟨hb, hc⟩
end Go.Proofs.YtignfbdgpgidpaaGreatDoor
/- The contract of the document's GetEnd. -/
namespace Go.Proofs.YtignfbdgpgidpaaGreatDoor
open Go.RowKit CrcPlain OctPlain FramePlain
set_option linter.unusedVariables false
set_option linter.unusedSimpArgs false
set_option maxRecDepth 20000
end Go.Proofs.YtignfbdgpgidpaaGreatDoor
/- What an end's numbers are as an argument; its block. -/
namespace Go.Proofs.YtignfbdgpgidpaaGreatDoor
open Go.RowKit CrcPlain OctPlain FramePlain
set_option linter.unusedVariables false
set_option linter.unusedSimpArgs false
set_option maxRecDepth 20000
theorem gral (u : World) (o : Obj) : Gr u (u.alloc o) := Below.alloc (Below.refl _ _) (Nat.le_refl _) _
theorem Two.cells {w : World} {B : Nat} {a b : Value} {u : World} (h : Two w B a b u) : u.cell? ⟨B, 0, none⟩ = some a ∧ u.cell? ⟨B, 1, none⟩ = some b := ⟨h.c0, h.c1⟩
end Go.Proofs.YtignfbdgpgidpaaGreatDoor

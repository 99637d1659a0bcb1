/- In one text: FrameAwake, FrameEnd2, FrameGetEnd, FrameRget, FrameRgetEnd, FrameArgs. -/
import Derived.Test.YtignfbdgpgidpaaGreatDoorK24
import Derived.Test.YtignfbdgpgidpaaGreatDoorK25
import Derived.Test.YtignfbdgpgidpaaGreatDoorK12
import Derived.Laws.ResultCell
/- Put of whatever slice; the law's 'few'; the chapter's example. -/
namespace Go.Proofs.YtignfbdgpgidpaaGreatDoor
open Go.RowKit CrcPlain OctPlain FramePlain
set_option linter.unusedVariables false
set_option linter.unusedSimpArgs false
set_option maxRecDepth 20000
theorem rfput_c {w : World} {v : Value} {l : List ByteArray} (h : Lies w v l) (size : Int) (hk : I64 size) (hl : l.length ≤ 1000000) :
    Calls Tryz.prog 73 #[.int .i64 size, v] w fun e w' => e = .returned (.tuple #[.string (blkS size l), .bool (blkB size l)]) ∧ Gr w w' := by
  obtain ⟨a, c, rfl, hc, h⟩ := h
  by_cases hs : sizeB size = true ∧ 1 ≤ l.length ∧ l.length ≤ 4
  · rcases h with rfl | ⟨b, off, rfl, hr⟩
    · simp at hs
    · cases ha : allB size l
      · exact (rfput_mid b off c l.length l rfl size hk w hr hs.1 hs.2 ha).mono fun e w' ⟨h1, h2⟩ => ⟨h1, h2 ▸ Gr.refl _⟩
      · exact rfput_yes b off c l.length l rfl size hk w hr hs.1 hs.2 ha
  · refine (rfput_no a c l.length l rfl size hk w ?_).mono fun e w' ⟨h1, h2⟩ => ⟨h1, h2 ▸ Gr.refl _⟩
    cases hb : sizeB size
    · exact .inl rfl
    · exact .inr fun h4 => hs ⟨hb, h4⟩
def fewB (l : List ByteArray) : Bool := decide (l.length ≤ 10) && (l.take 10).all (fun s => decide (s.size ≤ 80))
end Go.Proofs.YtignfbdgpgidpaaGreatDoor
/- Plain facts on what the bytes of an end say. -/
namespace Go.Proofs.YtignfbdgpgidpaaGreatDoor
open Go.RowKit CrcPlain OctPlain FramePlain
set_option linter.unusedVariables false
set_option linter.unusedSimpArgs false
set_option maxRecDepth 20000
namespace FramePlain
def eB (s : ByteArray) : Bool := decide (s.size = 17) && decide (cntN s = 0) && opB s && (getB s 1 8 && decide (getN s 1 8 ≤ 4611686018427387904))
def eC (s : ByteArray) : Int := if eB s = true then getN s 1 8 else 0
def eM (s : ByteArray) : Int := if eB s = true then getN s 9 4 else 0
theorem eC_no {s : ByteArray} (h : eB s = false) : eC s = 0 := by simp [eC, h]
theorem eM_no {s : ByteArray} (h : eB s = false) : eM s = 0 := by simp [eM, h]
theorem eC_yes {s : ByteArray} (h : eB s = true) : eC s = getN s 1 8 := by simp [eC, h]
theorem eM_yes {s : ByteArray} (h : eB s = true) : eM s = getN s 9 4 := by simp [eM, h]
theorem ahead_data (s : ByteArray) : (ahead s).data.toList = s.data.toList.take (s.size - 4) := by
  unfold ahead
  simp [ByteArray.data_extract]
theorem cutL_ahead (s : ByteArray) (a k : Nat) (h : a + k ≤ s.size - 4) : cutL (ahead s) a k = cutL s a k := by
  unfold cutL
  rw [ahead_data, List.drop_take, List.take_take, Nat.min_eq_left (by omega)]
theorem get_ahead (s : ByteArray) (a k : Nat) (h : a + k ≤ s.size - 4) (h4 : 4 ≤ s.size) : getB (ahead s) a k = getB s a k ∧ getN (ahead s) a k = getN s a k := by
  have hc := cutL_ahead s a k h
  have hz := ahead_size s h4
  have hb : getB (ahead s) a k = getB s a k := by
    unfold getB
    rw [Int.toNat_natCast, Int.toNat_natCast, hc, hz]
    apply decide_eq_decide.2
    constructor <;> intro hh <;> refine ⟨hh.1, hh.2.1, by omega, hh.2.2.2⟩
  refine ⟨hb, ?_⟩
  unfold getN
  rw [hb, Int.toNat_natCast, Int.toNat_natCast, hc]
theorem beL_num : ∀ l : List UInt8, beL l.length (num l) = l := by
  intro l
  generalize hk : l.length = k
  induction k generalizing l with
  | zero => rw [List.eq_nil_of_length_eq_zero hk]; rfl
  | succ k ih =>
    obtain ⟨a, b, rfl⟩ : ∃ a b, l = a ++ [b] := ⟨l.dropLast, l.getLast (by intro h; rw [h] at hk; simp at hk), (List.dropLast_concat_getLast _).symm⟩
    rw [List.length_append, List.length_singleton] at hk
    have hb := b.toNat_lt
    have h1 : num (a ++ [b]) / 256 = num a := by rw [num_snoc]; omega
    have h2 : num (a ++ [b]) % 256 = b.toNat := by rw [num_snoc]; omega
    rw [beL, h1, h2, ih a (by omega)]
    simp
theorem get4_lt (s : ByteArray) (h : 13 ≤ s.size) : ∃ m : Nat, m < 4294967296 ∧ getN s 9 4 = m ∧ m = num (cutL s 9 4) ∧ getB s 9 4 = true := by
  have hl := cutL_length s 9 4 (by omega)
  have hlt := num_lt (cutL s 9 4)
  rw [hl] at hlt
  have hb : getB s (9 : Nat) (4 : Nat) = true := getB_yes (by omega) (by omega) (by omega)
  exact ⟨_, hlt, getN_yes hb, rfl, hb⟩
theorem get8_yes {s : ByteArray} (h : getB s 1 8 = true) : ∃ n : Nat, getN s 1 8 = n ∧ n = num (cutL s 1 8) := ⟨_, getN_yes (p := 1) (k := 8) h, rfl⟩
theorem ahead_end (s : ByteArray) (hz : s.size = 17) (h0 : cntN s = 0) : endS (num (cutL s 1 8)) (num (cutL s 9 4)) = ahead s := by
  have l0 := cutL_length s 0 1 (by omega)
  have l1 := cutL_length s 1 8 (by omega)
  have l2 := cutL_length s 9 4 (by omega)
  have b0 := beL_num (cutL s 0 1)
  have b1 := beL_num (cutL s 1 8)
  have b2 := beL_num (cutL s 9 4)
  rw [l0] at b0; rw [l1] at b1; rw [l2] at b2
  have hd := ahead_data s
  have e0 : cutL s 0 1 = [0] := by
    rw [← b0]
    unfold cntN at h0
    rw [h0]; rfl
  have hcat : cutL s 0 1 ++ (cutL s 1 8 ++ cutL s 9 4) = s.data.toList.take 13 := by
    unfold cutL
    rw [List.drop_zero]
    have q1 : s.data.toList.take 13 = s.data.toList.take 1 ++ (s.data.toList.drop 1).take 12 := by rw [← List.take_add]
    have q2 : (s.data.toList.drop 1).take 12 = (s.data.toList.drop 1).take 8 ++ ((s.data.toList.drop 1).drop 8).take 4 := by rw [← List.take_add]
    rw [q1, q2, List.drop_drop]
  unfold endS
  rw [b1, b2]
  apply ByteArray.ext
  apply Array.toList_inj.1
  rw [hd, hz, ← hcat, e0]
  rfl
theorem get_end {c m : Nat} (hc : c < 9223372036854775808) (hm : m < 4294967296) : cntN (cl (endS c m)) = 0 ∧ getB (cl (endS c m)) 1 8 = true ∧ getN (cl (endS c m)) 1 8 = c ∧ getN (cl (endS c m)) 9 4 = m := by
  have hd : (cl (endS c m)).data.toList = 0 :: (beL 8 c ++ (beL 4 m ++ tl (more 0 (endS c m).data.toList))) := by
    unfold cl endS
    rw [bs_app]
    simp [bs]
  have hz : (cl (endS c m)).size = 17 := by rw [cl_size, endS_size]
  generalize cl (endS c m) = s at hd hz
  have l8 := beL_length 8 c
  have l4 := beL_length 4 m
  have c0 : cutL s 0 1 = [0] := by unfold cutL; rw [hd]; rfl
  have c8 : cutL s 1 8 = beL 8 c := by
    unfold cutL; rw [hd, List.drop_succ_cons, List.drop_zero, List.take_append_of_le_length (by omega), List.take_of_length_le (by omega)]
  have c4 : cutL s 9 4 = beL 4 m := by
    unfold cutL
    rw [hd, List.drop_succ_cons, List.drop_append_of_le_length (by omega), List.drop_of_length_le (by omega), List.nil_append, List.take_append_of_le_length (by omega), List.take_of_length_le (by omega)]
  have n8 : num (cutL s 1 8) = c := by rw [c8]; exact num_beL 8 c (by omega)
  have n4 : num (cutL s 9 4) = m := by rw [c4]; exact num_beL 4 m (by omega)
  have g8 : getB s (1 : Nat) (8 : Nat) = true := getB_yes (by omega) (by omega) (by omega)
  have g4 : getB s (9 : Nat) (4 : Nat) = true := getB_yes (by omega) (by omega) (by omega)
  refine ⟨by unfold cntN; rw [c0]; rfl, g8, ?_, ?_⟩
  · have := getN_yes g8; rw [n8] at this; exact this
  · have := getN_yes g4; rw [n4] at this; exact this
end FramePlain
end Go.Proofs.YtignfbdgpgidpaaGreatDoor
/- The contract of GetEnd. -/
namespace Go.Proofs.YtignfbdgpgidpaaGreatDoor
open Go.RowKit CrcPlain OctPlain FramePlain
set_option linter.unusedVariables false
set_option linter.unusedSimpArgs false
set_option maxRecDepth 20000
theorem prefix_0 (s : ByteArray) (h : 0 < s.size) : ((s.extract 0 1).toList == [0]) = decide (cntN s = 0) := by
  have e0 : [0] = (ByteArray.mk #[0]).toList := by rw [Lib.toList_data]
  rw [e0]
  rw [eq_list]
  apply decide_eq_decide.2
  have l := cutL_length s 0 1 (by omega)
  have e : (s.extract 0 1).data.toList = cutL s 0 1 := by unfold cutL; simp [ByteArray.data_extract]
  have b := beL_num (cutL s 0 1)
  rw [l] at b
  have hlt := cntN_lt s
  constructor
  · intro hh
    have e2 := congrArg (fun x => x.data.toList) hh
    simp only [e] at e2
    unfold cntN; rw [e2]; rfl
  · intro hh
    unfold cntN at hh
    rw [hh] at b
    apply ByteArray.ext
    apply Array.toList_inj.1
    rw [e, ← b]; rfl
theorem prefix_c (s : ByteArray) (h : 0 < s.size) (w : World) :
    Calls Tryz.prog 154 #[.string s, .string (ByteArray.mk #[0])] w fun e w' => e = .returned (.bool (decide (cntN s = 0))) ∧ w = w' := by
  have hp := prefix_0 s h
  have hsl := slice_to s 1 (by omega)
  have h1 : (1 : Int) ≤ s.size := by omega
  have hz : (ByteArray.mk #[0]).size = 1 := rfl
  generalize decide (cntN s = 0) = b at hp
  go_enter Tryz.func154, Tryz.ntmps154
  go_wp2
  go_ret
  first | exact ⟨rfl, rfl⟩ | exact ⟨retb hp, rfl⟩
def EGot (s : ByteArray) (w : World) (e : Ending) (w' : World) : Prop :=
  e = .returned (.tuple #[.agg #[.int .i64 (eC s), .int .u32 (eM s)], .bool (eB s)]) ∧ Gr w w'
theorem egot_no {s : ByteArray} {w w' : World} (h : eB s = false) (g : Gr w w') : EGot s w (.returned (.tuple #[.agg #[.int .i64 0, .int .u32 0], .bool false])) w' := by
  refine ⟨?_, g⟩
  rw [eC_no h, eM_no h, h]
theorem egetend_short (s : ByteArray) (w : World) (h : ¬ s.size = 17) :
    Calls Tryz.prog 125 #[.string s] w (EGot s w) := by
  have hb : eB s = false := by unfold eB; rw [decide_eq_false h]; rfl
  have HB := Lib.hid hb
  clear hb
  have h1 : (((s.size : Int)) != 17) = true := by simpa using (by omega : ¬ (s.size : Int) = 17)
  go_enter Tryz.func125, Tryz.ntmps125
  go_wp2_with fail
  refine bodyPost_ret (v := .tuple #[.agg #[.int .i64 0, .int .u32 0], .bool false]) ?_ rfl (egot_no HB.out ?_)
  · rw [results_cell_tmp Tryz.results125]
    simp [go_sem]
  · exact Gr.of (by go_grown)
theorem egetend_head (s : ByteArray) (w : World) (h : s.size = 17) (h0 : ¬ cntN s = 0) :
    Calls Tryz.prog 125 #[.string s] w (EGot s w) := by
  have hb : eB s = false := by unfold eB; rw [decide_eq_false h0, Bool.and_false]; rfl
  have HB := Lib.hid hb
  have P := fun u => prefix_c s (by omega) u
  rw [decide_eq_false h0] at P
  clear hb h0
  have h1 : (((s.size : Int)) != 17) = false := by simpa using (by omega : (s.size : Int) = 17)
  clear h
  go_enter Tryz.func125, Tryz.ntmps125
  go_wp2_with fail
  refine (P _).mono ?_; rintro e u ⟨rfl, rfl⟩
  go_wp2_with fail
  refine bodyPost_ret (v := .tuple #[.agg #[.int .i64 0, .int .u32 0], .bool false]) ?_ rfl (egot_no HB.out ?_)
  · rw [results_cell_tmp Tryz.results125]
    simp [go_sem]
  · exact Gr.of (by go_grown)
structure Two (w : World) (B : Nat) (a b : Value) (u : World) : Prop where
  lt : B < u.heap.size
  c0 : u.cell? ⟨B, 0, none⟩ = some a
  c1 : u.cell? ⟨B, 1, none⟩ = some b
  f0 : u.frozen? ⟨B, 0, none⟩ = false
  f1 : u.frozen? ⟨B, 1, none⟩ = false
theorem two_new (w : World) (a b : Value) (T : TypeId) {u : World} (g : Gr (w.alloc (.cells #[a, b] T)) u) : Two w w.heap.size a b u := by
  have h := Below.block g w.heap.size (by rw [World.size_alloc]; omega)
  have hh : u.heap[w.heap.size]? = some (.cells #[a, b] T (0, 0)) := by rw [h]; exact heap_alloc_new w _
  have hs := g.size
  rw [World.size_alloc] at hs
  exact ⟨by omega, by simp [World.cell?, hh], by simp [World.cell?, hh], by simp [World.frozen?, hh], by simp [World.frozen?, hh]⟩
theorem two_set {w u : World} {B : Nat} {a b : Value} (h : Two w B a b u) (x y : Value) (g : Gr w u) (hB : w.heap.size ≤ B) :
    ∃ W, W = (u.setCell ⟨B, 0, none⟩ x).setCell ⟨B, 1, none⟩ y ∧ W.cell? ⟨B, 0, none⟩ = some x ∧ W.cell? ⟨B, 1, none⟩ = some y ∧ Gr w W := by
  have n1 : (⟨B, 1, none⟩ : Addr) ≠ ⟨B, 0, none⟩ := by simp
  have n0 : (⟨B, 0, none⟩ : Addr) ≠ ⟨B, 1, none⟩ := by simp
  have s0 := World.cell?_setCell_same u ⟨B, 0, none⟩ x h.c0
  have s1 : (u.setCell ⟨B, 0, none⟩ x).cell? ⟨B, 1, none⟩ = some b := (World.cell?_setCell_other u ⟨B, 0, none⟩ ⟨B, 1, none⟩ x n0).trans h.c1
  refine ⟨_, rfl, ?_, ?_, ?_⟩
  · exact (World.cell?_setCell_other _ ⟨B, 1, none⟩ ⟨B, 0, none⟩ y n1).trans s0
  · exact World.cell?_setCell_same _ _ _ s1
  · exact Below.setCell (Below.setCell g hB _) hB _
theorem two_ret {fn : Func} {p q : Tmp} (hr : fn.results = #[.cell p 50, .tmp q]) {tmps : Array Value} {B : Nat} {W : World} {x y : Int} {b : Bool} (hp : tmps.getD p undef = .pointer (some ⟨B, 0, none⟩)) (hq : tmps.getD q undef = .bool b)
    (c0 : W.cell? ⟨B, 0, none⟩ = some (.int .i64 x)) (c1 : W.cell? ⟨B, 1, none⟩ = some (.int .u32 y)) : (results fn tmps).run Tryz.prog W = .ok (.tuple #[.agg #[.int .i64 x, .int .u32 y], .bool b]) W := by
  rw [results_cell_tmp hr, hp, hq]
  simp [go_sem, c0, c1]
theorem egetend_shut (s : ByteArray) (w : World) (h : s.size = 17) (h0 : cntN s = 0) (hop : opB s = false) :
    Calls Tryz.prog 125 #[.string s] w (EGot s w) := by
  have hb : eB s = false := by unfold eB; rw [hop, Bool.and_false, Bool.false_and]
  have HB := Lib.hid hb
  have P := fun u => prefix_c s (by omega) u
  rw [decide_eq_true h0] at P
  have O := fun u => open_c s (by omega) u
  rw [hop, opS_no hop] at O
  clear hb h0 hop
  have h1 : (((s.size : Int)) != 17) = false := by simpa using (by omega : (s.size : Int) = 17)
  clear h
  go_enter Tryz.func125, Tryz.ntmps125
  go_wp2_with fail
  refine (P _).mono ?_; rintro e u ⟨rfl, rfl⟩
  go_wp2_with fail
  refine (O _).mono ?_; rintro e u ⟨rfl, g⟩
  have hw := two_new _ _ _ _ g
  obtain ⟨W, hW, d0, d1, gW⟩ := two_set hw (.int .i64 0) (.int .u32 0) (Gr.trans (Below.alloc (Below.refl _ _) (Nat.le_refl _) _) g) (Nat.le_refl _)
  have HW := Lib.hid hW
  obtain ⟨_, c0, c1, f0, f1⟩ := hw
  clear hW
  go_wp2_with fail
  rw [← HW.out]
  exact bodyPost_ret (two_ret Tryz.results125 rfl rfl d0 d1) rfl (egot_no HB.out gW)
theorem egetend_open (s : ByteArray) (w : World) (h : s.size = 17) (h0 : cntN s = 0) (hop : opB s = true) :
    Calls Tryz.prog 125 #[.string s] w (EGot s w) := by
  have hbe : eB s = (getB s 1 8 && decide (getN s 1 8 ≤ 4611686018427387904)) := by unfold eB; rw [decide_eq_true h, decide_eq_true h0, hop]; rfl
  have P := fun u => prefix_c s (by omega) u
  rw [decide_eq_true h0] at P
  have O := fun u => open_c s (by omega) u
  have ha := opS_yes hop
  rw [hop, ha] at O
  have haz := ahead_size s (by omega)
  have G8 := fun u => get_c (ahead s) 1 8 (by unfold I64; omega) (by unfold I64; omega) u (by omega)
  have G4 := fun u => get_c (ahead s) 9 4 (by unfold I64; omega) (by unfold I64; omega) u (by omega)
  obtain ⟨e1, e2⟩ := get_ahead s 1 8 (by omega) (by omega)
  obtain ⟨e3, e4⟩ := get_ahead s 9 4 (by omega) (by omega)
  obtain ⟨m, hm, q1, q2, q3⟩ := get4_lt s (by omega)
  have e1' : getB (ahead s) 1 8 = getB s 1 8 := e1
  have e2' : getN (ahead s) 1 8 = getN s 1 8 := e2
  have e3' : getB (ahead s) 9 4 = true := by rw [← q3]; exact e3
  have e4' : getN (ahead s) 9 4 = m := by rw [← q1]; exact e4
  rw [e1', e2'] at G8
  rw [e3', e4'] at G4
  clear e1 e2 e3 e4 e1' e2' e3' e4' q2 q3 ha
  have h1 : (((s.size : Int)) != 17) = false := by simpa using (by omega : (s.size : Int) = 17)
  have HQ := Lib.hid q1
  have hz : (ahead s).size = 13 := by omega
  generalize ahead s = t at O G8 G4 hz haz
  have hm32 : (m : Int) % 4294967296 = (m : Int) := by omega
  cases hg : getB s 1 8
  · have hb : eB s = false := by rw [hbe, hg]; rfl
    have HB := Lib.hid hb
    have hn0 := getN_no hg
    rw [hg, hn0] at G8
    clear hb h0 hop h hbe hg hn0 q1 haz hz
    go_enter Tryz.func125, Tryz.ntmps125
    go_wp2_with fail
    refine (P _).mono ?_; rintro e u ⟨rfl, rfl⟩
    go_wp2_with fail
    refine (O _).mono ?_; rintro e u ⟨rfl, g⟩
    go_wp2_with fail
    refine (G8 _).mono ?_; rintro e u2 ⟨rfl, g2⟩
    have g := Gr.trans g g2
    have hw := two_new _ _ _ _ g
    obtain ⟨W, hW, d0, d1, gW⟩ := two_set hw (.int .i64 0) (.int .u32 0) (Gr.trans (Below.alloc (Below.refl _ _) (Nat.le_refl _) _) g) (Nat.le_refl _)
    have HW := Lib.hid hW
    obtain ⟨_, c0, c1, f0, f1⟩ := hw
    clear hW
    go_wp2_with fail
    rw [← HW.out]
    exact bodyPost_ret (two_ret Tryz.results125 rfl rfl d0 d1) rfl (egot_no HB.out gW)
  · obtain ⟨n, p1, p2⟩ := get8_yes hg
    have hn63 : n < 9223372036854775808 := by
      have hh := hg
      unfold getB at hh
      rw [decide_eq_true_iff] at hh
      have := hh.2.2.2
      rw [p2]; exact this
    rw [hg, p1] at G8
    by_cases hbig : (4611686018427387904 : Int) < n
    · have hb : eB s = false := by rw [hbe, hg, p1]; rw [decide_eq_false (by omega)]; rfl
      have HB := Lib.hid hb
      clear hb h0 hop h hbe hg p1 p2 q1 haz hz
      go_enter Tryz.func125, Tryz.ntmps125
      go_wp2_with fail
      refine (P _).mono ?_; rintro e u ⟨rfl, rfl⟩
      go_wp2_with fail
      refine (O _).mono ?_; rintro e u ⟨rfl, g⟩
      go_wp2_with fail
      refine (G8 _).mono ?_; rintro e u2 ⟨rfl, g2⟩
      have g := Gr.trans g g2
      have hw := two_new _ _ _ _ g
      obtain ⟨W, hW, d0, d1, gW⟩ := two_set hw (.int .i64 0) (.int .u32 0) (Gr.trans (Below.alloc (Below.refl _ _) (Nat.le_refl _) _) g) (Nat.le_refl _)
      have HW := Lib.hid hW
      obtain ⟨_, c0, c1, f0, f1⟩ := hw
      clear hW
      go_wp2_with fail
      rw [← HW.out]
      exact bodyPost_ret (two_ret Tryz.results125 rfl rfl d0 d1) rfl (egot_no HB.out gW)
    · have hb : eB s = true := by rw [hbe, hg, p1]; rw [decide_eq_true (by omega)]; rfl
      have HB := Lib.hid hb
      have HP := Lib.hid p1
      clear hb h0 hop h hbe hg p1 p2 q1 haz hz
      go_enter Tryz.func125, Tryz.ntmps125
      go_wp2_with fail
      refine (P _).mono ?_; rintro e u ⟨rfl, rfl⟩
      go_wp2_with fail
      refine (O _).mono ?_; rintro e u ⟨rfl, g⟩
      go_wp2_with fail
      refine (G8 _).mono ?_; rintro e u2 ⟨rfl, g2⟩
      go_wp2_with fail
      refine (G4 _).mono ?_; rintro e u3 ⟨rfl, g3⟩
      have g := (Gr.trans g g2).trans g3
      have hw := two_new _ _ _ _ g
      obtain ⟨W, hW, d0, d1, gW⟩ := two_set hw (.int .i64 (n : Int)) (.int .u32 (m : Int)) (Gr.trans (Below.alloc (Below.refl _ _) (Nat.le_refl _) _) g) (Nat.le_refl _)
      have HW := Lib.hid hW
      obtain ⟨_, c0, c1, f0, f1⟩ := hw
      clear hW
      go_wp2_with fail
      rw [← HW.out]
      refine bodyPost_ret (two_ret Tryz.results125 rfl rfl d0 d1) rfl ⟨?_, gW⟩
      rw [eC_yes HB.out, eM_yes HB.out, HB.out, HP.out, HQ.out]
theorem getend_c (s : ByteArray) (w : World) :
    Calls Tryz.prog 125 #[.string s] w (EGot s w) := by
  by_cases h : s.size = 17
  · by_cases h0 : cntN s = 0
    · cases hop : opB s
      · exact egetend_shut s w h h0 hop
      · exact egetend_open s w h h0 hop
    · exact egetend_head s w h h0
  · exact egetend_short s w h
end Go.Proofs.YtignfbdgpgidpaaGreatDoor
/- The contract of the document's Get. -/
namespace Go.Proofs.YtignfbdgpgidpaaGreatDoor
open Go.RowKit CrcPlain OctPlain FramePlain
set_option linter.unusedVariables false
set_option linter.unusedSimpArgs false
set_option maxRecDepth 20000
end Go.Proofs.YtignfbdgpgidpaaGreatDoor
/- The contract of the document's GetEnd. -/
namespace Go.Proofs.YtignfbdgpgidpaaGreatDoor
open Go.RowKit CrcPlain OctPlain FramePlain
set_option linter.unusedVariables false
set_option linter.unusedSimpArgs false
set_option maxRecDepth 20000
end Go.Proofs.YtignfbdgpgidpaaGreatDoor
/- What an end's numbers are as an argument; its block. -/
namespace Go.Proofs.YtignfbdgpgidpaaGreatDoor
open Go.RowKit CrcPlain OctPlain FramePlain
set_option linter.unusedVariables false
set_option linter.unusedSimpArgs false
set_option maxRecDepth 20000
theorem Two.cells {w : World} {B : Nat} {a b : Value} {u : World} (h : Two w B a b u) : u.cell? ⟨B, 0, none⟩ = some a ∧ u.cell? ⟨B, 1, none⟩ = some b := ⟨h.c0, h.c1⟩
end Go.Proofs.YtignfbdgpgidpaaGreatDoor

/- In one text: DsVec. -/
import Derived.Test.YtibajmjplpnbmaaP27
/- Contracts of the walk over a vector's bytes, and of Vector on both sides. -/
namespace Go.Proofs.Ytibajmjplpnbmaa
open Go.RowKit OctPlain DsPlain
set_option linter.unusedVariables false
set_option linter.unusedSimpArgs false
set_option maxRecDepth 20000
theorem cut_mid (s : ByteArray) (a m : Nat) (h : a + m ≤ s.size) (w : World) :
    (Instr.slice 9 (.string s) (some (.int .i64 (a : Int))) (some (.int .i64 ((a : Int) + (m : Int)))) none).run Try.prog w = .ok (.string (s.extract a (a + m))) w := by
  have h1 := run_slice_string (P := Try.prog) w 9 s .i64 .i64 (a : Int) ((a : Int) + (m : Int)) Try.underlying9 (by omega) (by omega) (by omega)
  have e : ((a : Int) + (m : Int)).toNat = a + m := by omega
  rw [e, Int.toNat_natCast] at h1
  exact h1
theorem cut_four (s : ByteArray) (a : Nat) (h : a + 4 ≤ s.size) (w : World) :
    (Instr.slice 9 (.string s) (some (.int .i64 (a : Int))) (some (.int .i64 ((a : Int) + 4))) none).run Try.prog w = .ok (.string (s.extract a (a + 4))) w := cut_mid s a 4 h w
theorem ret_vb10 {a b : Value} {p q : Bool} (h : a = b) (k : p = q) : Ending.returned (.tuple #[a, .bool p]) = .returned (.tuple #[b, .bool q]) := by rw [h, k]
def gotI (s : ByteArray) (q : Nat) : List Int := if (nums s q).all fitI = true then nums s q else []
/-- What a call hands out that reads numbers. -/
def GotI (w : World) (l : List Int) (b : Bool) (e : Ending) (w' : World) : Prop := ∃ v, e = .returned (.tuple #[v, .bool b]) ∧ w'.ownsRow w.heap.size 3 1 v l.length (ints l) ∧ Gr w w'
def WalkIAt (s : ByteArray) (q : Nat) (w : World) (v i : Value) (wr : World) : Prop :=
  ∃ j a : Nat, j ≤ q ∧ a = 4 * j ∧ i = .int .i64 (a : Int) ∧ (nums s j).all fitI = true ∧ wr.ownsRow w.heap.size 3 1 v j (ints (nums s j)) ∧ Below w.heap.size w wr
set_option maxHeartbeats 2000000 in
theorem walkI_c (s : ByteArray) (q : Nat) (hs : s.size = 4 * q) (hq : q ≤ 4096) (w : World) :
    Calls Try.prog 59 #[.string s, .int .i64 4, .func (.func 60) #[] #[]] w (GotI w (gotI s q) ((nums s q).all fitI)) := by
  obtain ⟨i0, hi, hz0, hz1, hz2⟩ := info_parts infoI
  have hcap : (s.size : Int).tdiv 4 = (q : Int) := by rw [Int.tdiv_eq_ediv_of_nonneg (by omega)]; omega
  have HS := Lib.hid hs
  have hsi : (s.size : Int) = 4 * (q : Int) := by omega
  clear hs
  go_enter Try.func59, Try.ntmps59
  go_wp2_with (at_make; refine wpList_make_own _ rfl _ _ 41 rfl w.heap.size 3 i0 (.int .i64 0) 1 Try.underlying41 hi hz0 hz1 .i64 .i64 _ q rfl rfl (by first | exact hcap | omega) (by rw [hz2]; omega) (by unfold maxLen; omega) (Nat.le_refl _) ?_; intro w0 hown0 hgrow0)
  have g0 : Gr w w0 := Below.grown (Below.refl _ _) hgrow0 (Nat.le_refl _) (fun k e => by cases e)
  go_loopw [8, 9] (fun v i wr => WalkIAt s q w v i wr) (fun _ i _ => s.size - (intOf i).toNat)
  case atStart => exact ⟨0, 0, Nat.zero_le _, rfl, rfl, rfl, by simpa [nums, ints] using hown0, g0⟩
  case round =>
    obtain ⟨j, a, hj, ha, rfl, hall, hown, hbel⟩ := hrel
    have hsz := hbel.size
    by_cases hlt : j < q
    · have hroom : a + 4 ≤ s.size := by have := HS.out; omega
      have hp : (s.extract a (a + 4)).size = 4 := x_size hroom
      have hg : gcN (s.extract a (a + 4)) 0 = gcN s ((4 * j : Nat) : Int) := by
        have := gc_x (s := s) (a := a) (k := 4) (b := 0) (by omega) hroom
        rw [ha] at this ⊢
        exact this
      have N := fun w => number_c (s.extract a (a + 4)) hp w
      have hsl := cut_four s a hroom
      rw [hg] at N
      have hsn := nums_snoc s j
      obtain ⟨x, hx⟩ : ∃ x, x = gcN s ((4 * j : Nat) : Int) := ⟨_, rfl⟩
      rw [← hx] at N hsn
      have HA := Lib.hid ha
      have ha1 : a ≤ 16384 := by omega
      cases hf : fitI x
      · have hno : (nums s q).all fitI = false := nums_no hlt (by rw [← hx]; exact hf)
        have HN := Lib.hid hno
        rw [hf] at N
        have d1 : (a : Int) < (s.size : Int) := by omega
        clear hno hall hsn hx hf hg hown ha hown0 hgrow0
        go_wp2_with fail
        refine (N _).mono ?_; rintro e u ⟨rfl, g⟩
        go_wp2_with fail
        go_ret2
        refine ⟨_, ret_vb10 rfl HN.out.symm, ?_, Gr.of (Below.trans hbel (g.mono hsz))⟩
        unfold gotI; rw [HN.out]
        exact World.ownsRow_nil _ _ _ _
      · have hnx : numN (s.extract a (a + 4)) = x := by unfold numN; rw [hg, ← hx, if_pos hf]
        rw [hnx, hf] at N
        have HT := Lib.hid (show (nums s (j + 1)).all fitI = true by rw [hsn, List.all_append, hall]; simp [hf])
        have HSN := Lib.hid hsn
        have d1 : (a : Int) < (s.size : Int) := by omega
        generalize hnl : ints (nums s j) = nl at hown
        have HL := Lib.hid hnl
        clear hall hsn hx hf hg hnx hp ha hown0 hgrow0 hnl
        go_wp2_with fail
        refine (N _).mono ?_; rintro e u ⟨rfl, g⟩
        have hown2 := ownsRow_gr hown g
        go_wp2_with (first
          | (at_builtin; refine wpList_append_own _ rfl _ _ 41 rfl w.heap.size 3 i0 (.int .i64 0) 1 8 Try.underlying41 hi hz0 hz1 hz2 rfl (by decide) _ _ _ rfl (hown2.alloc _) ⟨u.heap.size, 0, none⟩ 1 1 [.int .i64 x] rfl ?c0 ?c1 ?c2 ?c3 ?c4 ?c5 ?_)
          | go_in)
        case c0 => rfl
        case c1 =>
          intro jj y hjy
          match jj, hjy with
          | 0, hjy => simp at hjy; subst hjy; simp [Addr.add]
        case c2 => intro y hy; simp at hy; subst hy; rfl
        case c3 => unfold maxLen; omega
        case c4 => omega
        case c5 => have := g.size; simp only [World.size_alloc]; omega
        · intro v' w2 hown' hgrow _
          have hb2 : Below w.heap.size w w2 := ((hbel.trans (g.mono hsz)).alloc (by have := g.size; omega) _).grown hgrow (by have := g.size; simp only [World.size_alloc]; omega) (fun q hq => (hown.lt q hq).1)
          clear hown hown2 hgrow
          have hown3 := Lib.hid hown'
          clear hown'
          go_wp2
          refine ⟨⟨j + 1, a + 4, by omega, by have := HA.out; omega, rfl, HT.out, ?_, hb2⟩, ?_⟩
          · rw [HSN.out, ints_snoc, HL.out]; exact hown3.out
          · simp [intOf]; omega
    · obtain rfl : j = q := by omega
      have hae : a = s.size := by have := HS.out; omega
      have HA := Lib.hid hall
      have HO := Lib.hid hown
      have d1 : ¬ (a : Int) < (s.size : Int) := by omega
      clear hown hall ha hown0 hgrow0 hae
      go_wp2_with fail
      go_ret2
      refine ⟨_, ret_vb10 rfl HA.out.symm, ?_, Gr.of hbel⟩
      unfold gotI; rw [if_pos HA.out, nums_length]
      exact HO.out
theorem got_none (w : World) (s : ByteArray) (d : Int) (h : vB s d = false) (w' : World) (g : Gr w w') : GotI w (vL s d) (vB s d) (.returned (.tuple #[.slice none 0 0, .bool false])) w' := by
  rw [vL_no h, h]
  exact ⟨_, rfl, World.ownsRow_nil _ _ _ _, g⟩
theorem vB_dB {s : ByteArray} {d : Int} (h : dB d = false) : vB s d = false := by unfold vB; rw [h]; rfl
theorem vB_size {s : ByteArray} {d : Int} (h : ¬ (s.size : Int) = 4 * d) : vB s d = false := by unfold vB; rw [decide_eq_false h, Bool.and_false, Bool.false_and]
theorem vB_yes {s : ByteArray} {q : Nat} (hd : dB q = true) (hs : s.size = 4 * q) : vB s q = (nums s q).all fitI := by
  unfold vB
  rw [hd, decide_eq_true (by omega), Int.toNat_natCast]; rfl
theorem vL_got {s : ByteArray} {q : Nat} (hd : dB q = true) (hs : s.size = 4 * q) : vL s q = gotI s q := by
  unfold vL gotI
  rw [vB_yes hd hs, Int.toNat_natCast]
theorem vector_c (s : ByteArray) (d : Int) (hd : I64 d) (w : World) :
    Calls Try.prog 50 #[.string s, .int .i64 d] w (GotI w (vL s d) (vB s d)) := by
  have D := fun w => dsized_c d hd w
  cases hb : dB d
  · have HN := Lib.hid (vB_dB (s := s) hb)
    rw [hb] at D
    clear hb
    go_enter Try.func50, Try.ntmps50
    go_wp2_with fail
    refine (D _).mono ?_; rintro e u ⟨rfl, rfl⟩
    go_wp2_with fail
    go_ret2
    exact got_none _ _ _ HN.out _ (Gr.refl _)
  · have hdd : 1 ≤ d ∧ d ≤ 4096 := by unfold dB at hb; rw [decide_eq_true_iff] at hb; exact hb
    obtain ⟨q, rfl⟩ : ∃ q : Nat, d = q := ⟨d.toNat, by omega⟩
    by_cases hz : s.size = 4 * q
    · have W := fun w => walkI_c s q hz (by omega) w
      rw [← vL_got hb hz, ← vB_yes hb hz] at W
      rw [hb] at D
      have e1 : ((s.size : Int) != (q : Int) * 4) = false := by simp; omega
      clear hb hz
      go_enter Try.func50, Try.ntmps50
      go_wp2_with fail
      refine (D _).mono ?_; rintro e u ⟨rfl, rfl⟩
      go_wp2_with fail
      refine (W _).mono ?_; rintro e u2 ⟨v, rfl, ho, g⟩
      have HO := Lib.hid ho
      clear ho
      go_wp2_with fail
      go_ret2
      exact ⟨v, rfl, HO.out, g⟩
    · have HN := Lib.hid (vB_size (s := s) (d := q) (by omega))
      rw [hb] at D
      have e1 : ((s.size : Int) != (q : Int) * 4) = true := by simp; omega
      clear hb hz
      go_enter Try.func50, Try.ntmps50
      go_wp2_with fail
      refine (D _).mono ?_; rintro e u ⟨rfl, rfl⟩
      go_wp2_with fail
      go_ret2
      exact got_none _ _ _ HN.out _ (Gr.refl _)
def RvAt (s : ByteArray) (q : Nat) (w : World) (v i : Value) (wr : World) : Prop :=
  ∃ j : Nat, j ≤ q ∧ i = .int .i64 (j : Int) ∧ (nums s j).all fitI = true ∧ wr.ownsRow w.heap.size 3 1 v j (ints (nums s j)) ∧ Below w.heap.size w wr
end Go.Proofs.Ytibajmjplpnbmaa

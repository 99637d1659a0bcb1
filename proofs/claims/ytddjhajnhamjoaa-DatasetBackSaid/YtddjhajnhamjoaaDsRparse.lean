/- The contract of the document's Parse. -/
import Derived.Test.YtddjhajnhamjoaaDsParse2
namespace Go.Proofs.Ytddjhajnhamjoaa
open Go.RowKit OctPlain DsPlain
set_option linter.unusedVariables false
set_option linter.unusedSimpArgs false
set_option maxRecDepth 20000
theorem pl_nat {d i : Nat} (hd : 1 ≤ d ∧ d ≤ 4096) (hi : i ≤ 1048576) : plN (d : Int) (i : Int) = ((10 + i * (d * 4) : Nat) : Int) := by
  rw [plN_yes ⟨by unfold dB; rw [decide_eq_true_iff]; omega, by omega, by omega⟩, Int.natCast_add, Int.natCast_mul, Int.natCast_mul, Int.mul_comm (i : Int), Int.mul_comm (d : Int)]
  rfl
theorem cut_row (s : ByteArray) (a d : Nat) (h : a + d * 4 ≤ s.size) (w : World) :
    (Instr.slice 9 (.string s) (some (.int .i64 (a : Int))) (some (.int .i64 ((a : Int) + 4 * (d : Int)))) none).run Try.prog w = .ok (.string (s.extract a (a + d * 4))) w := by
  have := cut_mid s a (d * 4) h w
  rwa [show ((d * 4 : Nat) : Int) = 4 * (d : Int) by omega] at this
def RpAt (s : ByteArray) (d n : Nat) (w : World) (v i : Value) (wr : World) : Prop :=
  ∃ j : Nat, j ≤ n ∧ i = .int .i64 (j : Int) ∧ (rows s d j).all (fun v => v.all fitI) = true ∧ OwnII w.heap.size wr v (rows s d j) ∧ Below w.heap.size w wr
theorem p_rows {s : ByteArray} {n d : Nat} (hb : shB (hd s) s.size = true) (hn : shN (hd s) = n) (hdd : shD (hd s) = d) : pB s = (rows s d n).all (fun v => v.all fitI) := by
  unfold pB
  rw [hb, hn, hdd, Int.toNat_natCast, Int.toNat_natCast]
  rfl
theorem pL_rows' {s : ByteArray} {n d : Nat} (hp : pB s = true) (hn : shN (hd s) = n) (hdd : shD (hd s) = d) : pL s = rows s d n := by
  rw [pL_yes hp, hn, hdd, Int.toNat_natCast, Int.toNat_natCast]
set_option maxHeartbeats 2000000 in
theorem rparse10_c (s : ByteArray) (hs : s.size ≤ 1000) (w : World) :
    Calls Try.prog 10 #[.string s] w (GotII w (pL s) (errV (pE s))) := by
  have SH := fun w => rshape_c (hd s) (s.size : Int) (by unfold I64; omega) w
  by_cases h10 : s.size < 10
  · obtain ⟨e1, e2⟩ := hd_small h10
    have hb := shB_size (size := (s.size : Int)) e2
    have HP := Lib.hid (pB_sh hb)
    have d1 : (s.size : Int) < 10 := by omega
    clear e1 e2 hb h10
    go_enter Try.func10, Try.ntmps10
    go_wp2_with fail
    go_ret2
    exact gotII_none w _ s HP.out (Gr.refl _)
  · obtain ⟨e1, e2⟩ := hd_ten (s := s) (by omega)
    have hsl := to_ten s (by omega)
    have d1 : ¬ (s.size : Int) < 10 := by omega
    cases hb : shB (hd s) s.size
    · rw [shV_no hb, e1] at SH
      have HP := Lib.hid (pB_sh hb)
      clear e1 e2 hb h10
      go_enter Try.func10, Try.ntmps10
      go_wp2_with fail
      refine (SH _).mono ?_; rintro e u ⟨rfl, rfl⟩
      go_wp2_with fail
      go_ret2
      exact gotII_none w _ s HP.out (Gr.refl _)
    · obtain ⟨n, d, hn, hd', hn1, hd1, hsz, _⟩ := sh_nat hb
      rw [shV_yes hb, hn, hd', e1] at SH
      have hdB : dB (d : Int) = true := by unfold dB; rw [decide_eq_true_iff]; omega
      have EP := Lib.hid (p_rows hb hn hd')
      have EL := Lib.hid (fun hp => pL_rows' (s := s) hp hn hd')
      have HZ := Lib.hid hsz
      have HB := Lib.hid hdB
      obtain ⟨i0, hi, hz0, hz1, hz2⟩ := info_parts infoII
      clear hb hn hd' hsz e1 e2 hdB h10
      generalize s.extract 0 10 = h at SH hsl
      go_enter Try.func10, Try.ntmps10
      go_wp2_with fail
      refine (SH _).mono ?_; rintro e u ⟨rfl, rfl⟩
      go_wp2_with fail
      go_loopw [7, 8] (fun v i wr => RpAt s d n w v i wr) (fun _ i _ => n - (intOf i).toNat)
      case atStart => exact ⟨0, Nat.zero_le _, rfl, rfl, ownII_nil _ _, Below.refl _ _⟩
      case round =>
        obtain ⟨j, hj, rfl, hall, ⟨vs, hown, hrows⟩, hbel⟩ := hrel
        have hszw := hbel.size
        rw [rows_length] at hown
        by_cases hlt : j < n
        · have hroom : 10 + j * (d * 4) + d * 4 ≤ s.size := by
            rw [HZ.out]
            have := Nat.mul_le_mul_right (d * 4) (show j + 1 ≤ n by omega)
            rw [Nat.add_mul, Nat.one_mul] at this; omega
          have hj1 : j ≤ 1000 := by
            have h1 := Nat.mul_le_mul_left j (show 1 ≤ d * 4 by omega)
            omega
          have PL := fun w => rplace_c (d : Int) (j : Int) (by unfold I64; omega) (by unfold I64; omega) w
          rw [pl_nat hd1 (by omega)] at PL
          have hps : (piece s d j).size = 4 * d := by unfold piece; rw [x_size hroom]; omega
          have N := fun w => rvector_c (piece s d j) (by omega) (d : Int) (by unfold I64; omega) w
          rw [vL_got HB.out hps, vB_yes HB.out hps] at N
          have hsn := rows_snoc s d j
          have hno : (nums (piece s d j) d).all fitI = false → (rows s d n).all (fun v => v.all fitI) = false := fun h => rows_no hlt h
          have hgi : (nums (piece s d j) d).all fitI = true → gotI (piece s d j) d = nums (piece s d j) d := fun h => by unfold gotI; rw [if_pos h]
          obtain ⟨a, ha⟩ : ∃ a, a = 10 + j * (d * 4) := ⟨_, rfl⟩
          rw [← ha] at hroom PL
          have hcr := cut_row s a d hroom
          have hpe : s.extract a (a + d * 4) = piece s d j := by rw [ha]; rfl
          rw [hpe] at hcr
          have ha1 : a ≤ 1000 := by omega
          generalize piece s d j = p at N hcr hsn hno hgi
          generalize nums p d = x at N hsn hno hgi
          generalize gotI p d = y at N hgi
          have d2 : (j : Int) < (n : Int) := by omega
          cases hf : x.all fitI
          · have HN := Lib.hid (hno hf)
            rw [hf] at N
            have NN := Lib.hid N
            clear hno hgi hall hsn hf ha hps N hown hrows hpe
            go_wp2_with fail
            refine (PL _).mono ?_; rintro e u ⟨rfl, rfl⟩
            go_wp2_with fail
            refine (NN.out _).mono ?_; rintro e u ⟨v, rfl, ho, g⟩
            clear ho
            go_wp2_with fail
            go_ret2
            exact gotII_none w _ s (by rw [EP.out]; exact HN.out) (Gr.of (Below.trans hbel (g.mono hszw)))
          · have hxy := hgi hf
            subst hxy
            rw [hf] at N
            have HT := Lib.hid (show (rows s d (j + 1)).all (fun v => v.all fitI) = true by rw [hsn, List.all_append, hall]; simpa using hf)
            have HSN := Lib.hid hsn
            generalize hnl : rows s d j = nl at hrows
            have HL := Lib.hid hnl
            have hnll : nl.length = j := by rw [← hnl, rows_length]
            have NN := Lib.hid N
            clear hall hsn hf ha hnl hno hgi hps N hpe
            have HR := Lib.hid hrows
            have HO := Lib.hid hown
            clear hrows
            go_wp2_with fail
            refine (PL _).mono ?_; rintro e u ⟨rfl, rfl⟩
            go_wp2_with fail
            refine (NN.out _).mono ?_; rintro e u ⟨v, rfl, ho, g⟩
            have hown2 := ownsRow_gr hown g
            obtain ⟨va, vc, hve, _⟩ := own_row ho
            subst hve
            have HX := Lib.hid ho
            clear ho
            go_wp2_with (first
              | (at_builtin; refine wpList_append_own_at _ rfl _ _ 22 rfl w.heap.size 32 i0 (.slice none 0 0) 1 24 Try.underlying22 hi hz0 hz1 hz2 rfl (by decide) _ _ _ rfl (hown2.alloc _) ⟨u.heap.size, 0, none⟩ 1 1 [.slice va y.length vc] rfl ?c0 ?c1 ?c2 ?c3 ?c4 ?c5 ?_)
              | go_in)
            case c0 => rfl
            case c1 =>
              intro jj z hjz
              match jj, hjz with
              | 0, hjz => simp at hjz; subst hjz; simp [Addr.add]
            case c2 => intro z hz; simp at hz; subst hz; rfl
            case c3 => unfold maxLen; omega
            case c4 => omega
            case c5 => have := g.size; simp only [World.size_alloc]; omega
            · intro v' w2 hown' hgrow _ hat
              have hb2 : Below w.heap.size w w2 := ((hbel.trans (g.mono hszw)).alloc (by have := g.size; omega) _).grown hgrow (by have := g.size; simp only [World.size_alloc]; omega) (fun q hq => (HO.out.lt q hq).1)
              have hfin : OwnII w.heap.size w2 v' (nl ++ [y]) := by
                refine ownII_snoc (vs := vs) (w := wr) (u := u) (x := .slice va y.length vc) (by rw [hnll]; exact HO.out) HR.out g HX.out (Below.alloc (Below.refl _ _) (Nat.le_refl _) _) (by rw [hnll]; exact hown') hgrow (by rw [World.size_alloc]; exact hat)
              have HF := Lib.hid hfin
              clear hown hown2 hgrow hown' hat hfin
              go_wp2
              refine ⟨⟨j + 1, by omega, rfl, HT.out, ?_, hb2⟩, ?_⟩
              · rw [HSN.out, HL.out]; exact HF.out
              · simp [intOf]; omega
        · obtain rfl : j = n := by omega
          have HA := Lib.hid hall
          have HO := Lib.hid hown
          have HR := Lib.hid hrows
          clear hown hall hrows
          go_wp2_with fail
          go_ret2
          have hp : pB s = true := by rw [EP.out]; exact HA.out
          refine ⟨_, ret_vi10 rfl (pE_yes hp).symm, ?_, Gr.of hbel⟩
          rw [EL.out hp]
          exact ⟨vs, by rw [rows_length]; exact HO.out, HR.out⟩
end Go.Proofs.Ytddjhajnhamjoaa

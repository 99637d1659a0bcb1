/- In one text: DsParse. -/
import Derived.Test.YtibajmjplpnbmaaP36
import Derived.Deep.RegionHeld3
/- Contracts of Parse on both sides, and of Valid. -/
namespace Go.Proofs.Ytibajmjplpnbmaa
open Go.RowKit OctPlain DsPlain
set_option linter.unusedVariables false
set_option linter.unusedSimpArgs false
set_option maxRecDepth 20000
namespace DsPlain
/-- The rows that the text b has, K bytes each. -/
def rowsB (b : ByteArray) (d K n : Nat) : List (List Int) := (List.range n).map (fun i => nums (b.extract (i * K) (i * K + K)) d)
theorem rowsB_length (b : ByteArray) (d K n : Nat) : (rowsB b d K n).length = n := by simp [rowsB]
theorem rowsB_snoc (b : ByteArray) (d K n : Nat) : rowsB b d K (n + 1) = rowsB b d K n ++ [nums (b.extract (n * K) (n * K + K)) d] := by simp [rowsB, List.range_succ]
theorem rowsB_no {b : ByteArray} {d K n i : Nat} (h : i < n) (hf : (nums (b.extract (i * K) (i * K + K)) d).all fitI = false) : (rowsB b d K n).all (fun v => v.all fitI) = false := by
  rw [List.all_eq_false]
  exact ⟨_, List.mem_map.2 ⟨i, List.mem_range.2 h, rfl⟩, by rw [hf]; simp⟩
theorem x_x {s : ByteArray} {a k : Nat} (h : 10 + a + k ≤ s.size) : (s.extract 10 s.size).extract a (a + k) = s.extract (10 + a) (10 + a + k) := by
  apply b_eq
  rw [x_data, x_data, x_data, ← d_length, List.take_of_length_le (Nat.le_refl _)]
  rw [List.drop_take, List.drop_take, List.drop_drop, show a + k - a = 10 + a + k - (10 + a) by omega]
end DsPlain
/-- What a call hands out that reads vectors. -/
def GotII (w : World) (L : List (List Int)) (e : Value → Ending) (e' : Ending) (w' : World) : Prop := ∃ v, e' = e v ∧ OwnII w.heap.size w' v L ∧ Gr w w'
abbrev okV (b : Bool) (v : Value) : Ending := .returned (.tuple #[v, .bool b])
abbrev errV (n : Int) (v : Value) : Ending := .returned (.tuple #[v, .int .i64 n])
theorem parse1_c (p : ByteArray) (D : Nat) (d : Int) (hd : I64 d) (w : World) (hD : w.cell? ⟨D, 0, none⟩ = some (.int .i64 d)) :
    Calls Try.prog 49 #[.string p, .pointer (some ⟨D, 0, none⟩)] w (GotI w (vL p d) (vB p d)) := by
  go_enter Try.func49, Try.ntmps49
  go_wp2_with fail
  refine (vector_c p d hd _).mono ?_; rintro e u2 ⟨v, rfl, ho, g⟩
  have HO := Lib.hid ho
  clear ho
  go_wp2_with fail
  go_ret2
  exact ⟨v, rfl, HO.out, g⟩
def gotII (b : ByteArray) (d K n : Nat) : List (List Int) := if (rowsB b d K n).all (fun v => v.all fitI) = true then rowsB b d K n else []
def WalkIIAt (b : ByteArray) (d K n : Nat) (w : World) (v i : Value) (wr : World) : Prop :=
  ∃ j a : Nat, j ≤ n ∧ a = j * K ∧ i = .int .i64 (a : Int) ∧ (rowsB b d K j).all (fun v => v.all fitI) = true ∧ OwnII w.heap.size wr v (rowsB b d K j) ∧ Below w.heap.size w wr
set_option maxHeartbeats 2000000 in
theorem walkII_c (b : ByteArray) (d K n : Nat) (hd : dB d = true) (hK : K = 4 * d) (hn : n ≤ 1048576) (hs : b.size = n * K) (hz : b.size ≤ 90000) (D : Nat) (w : World) (hD : w.cell? ⟨D, 0, none⟩ = some (.int .i64 (d : Int))) :
    Calls Try.prog 51 #[.string b, .int .i64 (K : Int), .func (.func 49) #[] #[.pointer (some ⟨D, 0, none⟩)]] w (GotII w (gotII b d K n) (okV ((rowsB b d K n).all (fun v => v.all fitI)))) := by
  obtain ⟨i0, hi, hz0, hz1, hz2⟩ := info_parts infoII
  have hDl := World.block_lt_of_cell? w _ hD
  have hdd : 1 ≤ d ∧ d ≤ 4096 := by unfold dB at hd; rw [decide_eq_true_iff] at hd; omega
  have hcap : (b.size : Int).tdiv (K : Int) = (n : Int) := by
    rw [Int.tdiv_eq_ediv_of_nonneg (by omega), hs, Int.natCast_mul, Int.mul_ediv_cancel _ (by omega)]
  have hk0 : ¬ (K : Int) = 0 := by omega
  have P1 := Lib.hid (fun (a : Nat) (u : World) (g : Below w.heap.size w u) => parse1_c (b.extract a (a + K)) D d (by unfold I64; omega) u (by rw [g.cell (p := ⟨D, 0, none⟩) hDl]; exact hD))
  have HS := Lib.hid hs
  have HK := Lib.hid hK
  have HD := Lib.hid hd
  have hK1 : 4 ≤ K ∧ K ≤ 16384 := by omega
  clear hs hK hd hD hdd
  go_enter Try.func51, Try.ntmps51
  go_wp2_with (at_make; refine wpList_make_own _ rfl _ _ 22 rfl w.heap.size 41 i0 (.slice none 0 0) 1 Try.underlying22 hi hz0 hz1 .i64 .i64 _ n rfl rfl (by first | exact hcap | omega) (by rw [hz2]; omega) (by unfold maxLen; omega) (Nat.le_refl _) ?_; intro w0 hown0 hgrow0)
  have g0 : Gr w w0 := Below.grown (Below.refl _ _) hgrow0 (Nat.le_refl _) (fun k e => by cases e)
  go_loopw [8, 9] (fun v i wr => WalkIIAt b d K n w v i wr) (fun _ i _ => b.size - (intOf i).toNat)
  case atStart => exact ⟨0, 0, Nat.zero_le _, by simp, rfl, rfl, ⟨[], hown0, rowsI_nil _ _ _⟩, g0⟩
  case round =>
    obtain ⟨j, a, hj, ha, rfl, hall, ⟨vs, hown, hrows⟩, hbel⟩ := hrel
    have hsz := hbel.size
    rw [rowsB_length] at hown
    by_cases hlt : j < n
    · have hroom : a + K ≤ b.size := by
        rw [HS.out, ha]
        have := Nat.mul_le_mul_right K (show j + 1 ≤ n by omega)
        rw [Nat.add_mul, Nat.one_mul] at this; exact this
      have N := fun u g => P1.out a u g
      have hsl := cut_mid b a K hroom
      have hps : (b.extract a (a + K)).size = 4 * d := by rw [x_size hroom]; exact HK.out
      rw [vL_got HD.out hps, vB_yes HD.out hps] at N
      have hsn := rowsB_snoc b d K j
      have hno : (nums (b.extract a (a + K)) d).all fitI = false → (rowsB b d K n).all (fun v => v.all fitI) = false := fun h => rowsB_no hlt (by rw [← ha]; exact h)
      have hgi : (nums (b.extract a (a + K)) d).all fitI = true → gotI (b.extract a (a + K)) d = nums (b.extract a (a + K)) d := fun h => by unfold gotI; rw [if_pos h]
      rw [← ha] at hsn
      have HA := Lib.hid ha
      have ha1 : a ≤ 90000 := by omega
      have hj1 : j ≤ 90000 := by
        have h1 := Nat.mul_le_mul_left j (show 1 ≤ K by omega)
        omega
      generalize b.extract a (a + K) = p at N hsl hsn hno hgi
      generalize nums p d = x at N hsn hno hgi
      generalize gotI p d = y at N hgi
      have d1 : (a : Int) < (b.size : Int) := by omega
      cases hf : x.all fitI
      · have HN := Lib.hid (hno hf)
        rw [hf] at N
        have NN := Lib.hid N
        clear hno hgi hall hsn hf ha hown0 hgrow0 hps N hown hrows
        go_wp2_with fail
        refine (NN.out _ hbel).mono ?_; rintro e u ⟨v, rfl, ho, g⟩
        clear ho
        go_wp2_with fail
        go_ret2
        refine ⟨_, ret_vb10 rfl HN.out.symm, ?_, Gr.of (Below.trans hbel (g.mono hsz))⟩
        unfold gotII; rw [HN.out]
        exact ownII_nil _ _
      · have hxy := hgi hf
        subst hxy
        rw [hf] at N
        have HT := Lib.hid (show (rowsB b d K (j + 1)).all (fun v => v.all fitI) = true by rw [hsn, List.all_append, hall]; simpa using hf)
        have HSN := Lib.hid hsn
        generalize hnl : rowsB b d K j = nl at hrows
        have HL := Lib.hid hnl
        have hnll : nl.length = j := by rw [← hnl, rowsB_length]
        have NN := Lib.hid N
        clear hall hsn hf ha hown0 hgrow0 hnl hno hgi hps N
        have HR := Lib.hid hrows
        have HO := Lib.hid hown
        clear hrows
        go_wp2_with fail
        refine (NN.out _ hbel).mono ?_; rintro e u ⟨v, rfl, ho, g⟩
        have hown2 := ownsRow_gr hown g
        obtain ⟨va, vc, hve, _⟩ := own_row ho
        subst hve
        have HX := Lib.hid ho
        clear ho
        go_wp2_with (first
          | (at_builtin; refine wpList_append_own_at _ rfl _ _ 22 rfl w.heap.size 41 i0 (.slice none 0 0) 1 24 Try.underlying22 hi hz0 hz1 hz2 rfl (by decide) _ _ _ rfl (hown2.alloc _) ⟨u.heap.size, 0, none⟩ 1 1 [.slice va y.length vc] rfl ?c0 ?c1 ?c2 ?c3 ?c4 ?c5 ?_)
          | go_in)
        case c0 => rfl
        case c1 =>
          intro jj z hjz
          match jj, hjz with
          | 0, hjz => simp at hjz; subst hjz; simp [Addr.add]
        case c2 =>
          intro z hz; simp at hz; subst hz; rfl
        case c3 => unfold maxLen; omega
        case c4 => omega
        case c5 => have := g.size; simp only [World.size_alloc]; omega
        · intro v' w2 hown' hgrow _ hat
          have hb2 : Below w.heap.size w w2 := ((hbel.trans (g.mono hsz)).alloc (by have := g.size; omega) _).grown hgrow (by have := g.size; simp only [World.size_alloc]; omega) (fun q hq => (HO.out.lt q hq).1)
          have hfin : OwnII w.heap.size w2 v' (nl ++ [y]) := by
            refine ownII_snoc (vs := vs) (w := wr) (u := u) (x := .slice va y.length vc) (by rw [hnll]; exact HO.out) HR.out g HX.out (Below.alloc (Below.refl _ _) (Nat.le_refl _) _) (by rw [hnll]; exact hown') hgrow (by rw [World.size_alloc]; exact hat)
          have HF := Lib.hid hfin
          clear hown hown2 hgrow hown' hat hfin
          go_wp2
          refine ⟨⟨j + 1, a + K, by omega, by rw [HA.out, Nat.add_mul, Nat.one_mul], rfl, HT.out, ?_, hb2⟩, ?_⟩
          · rw [HSN.out, HL.out]; exact HF.out
          · simp [intOf]; omega
    · obtain rfl : j = n := by omega
      have hae : a = b.size := by rw [ha]; exact HS.out.symm
      have HA := Lib.hid hall
      have HO := Lib.hid hown
      have HR := Lib.hid hrows
      have d1 : ¬ (a : Int) < (b.size : Int) := by omega
      clear hown hall ha hown0 hgrow0 hae hrows
      go_wp2_with fail
      go_ret2
      refine ⟨_, ret_vb10 rfl HA.out.symm, ?_, Gr.of hbel⟩
      unfold gotII; rw [if_pos HA.out]
      exact ⟨vs, by rw [rowsB_length]; exact HO.out, HR.out⟩
end Go.Proofs.Ytibajmjplpnbmaa

/- The contracts of what cuts bytes into records, and of Get. -/
import Derived.Test.YtckgdnaocmefjaaFramePlain2
import Derived.Test.YtckgdnaocmefjaaFramePut
import Derived.Test.YtckgdnaocmefjaaOctGets
namespace Go.Proofs.Ytckgdnaocmefjaa
open Go.RowKit CrcPlain OctPlain FramePlain
set_option linter.unusedVariables false
set_option linter.unusedSimpArgs false
theorem cutter_c (size : Int) (w : World) :
    Calls Try.prog 69 #[.int .i64 size] w fun e w' => e = .returned (.func (.func 74) #[] #[.pointer (some ⟨w.heap.size, 0, none⟩)]) ∧ w' = w.alloc (.cells #[.int .i64 size] 3) := by
  have hmf : ∀ (fn : Fn) (first cap : Array Value) (w : World), (Instr.makeFunc fn first cap).run Try.prog w = .ok (.func fn first cap) w := fun _ _ _ _ => rfl
  go_enter Try.func69, Try.ntmps69
  go_wp2
  go_ret
  exact ⟨rfl, rfl⟩
theorem cut1_c (s : ByteArray) (k : Int) (hk : I64 k) (B : Nat) (w : World) (hs : s.size ≤ 1000) (hp : w.cell? ⟨B, 0, none⟩ = some (.int .i64 k)) :
    Calls Try.prog 74 #[.string s, .pointer (some ⟨B, 0, none⟩)] w fun e w' => ∃ v, e = .returned (.tuple #[v, .bool (splB s k)]) ∧ w'.ownsRow w.heap.size 9 1 v (splL s k).length (strs (splL s k)) ∧ Gr w w' := by
  go_enter Try.func74, Try.ntmps74
  go_wp2_with fail
  refine (split_c s k hk _ hs).mono ?_; rintro e u ⟨v, rfl, o, g⟩
  have O := Lib.hid o
  clear o
  go_wp2_with fail
  go_ret2
  exact ⟨v, rfl, O.out, g⟩

theorem fget_none (s : ByteArray) (size : Int) (hk : I64 size) (w : World) (hs : s.size ≤ 100000) (h : sizeB size = false ∨ ¬ (1 ≤ cntN s ∧ cntN s ≤ 4)) :
    Calls Try.prog 51 #[.int .i64 size, .string s] w (FGot size s w) := by
  have hno : gB size s = false := by
    unfold gB
    rcases h with h | h
    · rw [h]; rfl
    · rw [decide_eq_false h, Bool.and_false, Bool.false_and, Bool.false_and]
  have HP := Lib.hid hno
  have G := fun w => get_c s 0 1 (by unfold I64; omega) (by unfold I64; omega) w hs
  rw [getN_cnt] at G
  have hlt := cntN_lt s
  generalize getB s 0 1 = bb at G
  generalize cntN s = c at G h hlt
  clear hno
  cases hsz : sizeB size
  · clear h
    go_enter Try.func51, Try.ntmps51
    go_wp2_with fail
    refine (G _).mono ?_; rintro e u ⟨rfl, g⟩
    go_wp2_with fail
    refine (fsized_c size hk _).mono ?_; rintro e u ⟨rfl, rfl⟩
    go_wp2_with fail
    go_ret3
    exact fgot_no HP.out g
  · rw [hsz] at h
    have h4 : decide (1 ≤ (c : Int) ∧ (c : Int) ≤ 4) = false := by rw [decide_eq_false_iff_not]; rcases h with h | h; cases h; omega
    clear h
    go_enter Try.func51, Try.ntmps51
    go_wp2_with fail
    refine (G _).mono ?_; rintro e u ⟨rfl, g⟩
    go_wp2_with fail
    refine (fsized_c size hk _).mono ?_; rintro e u ⟨rfl, rfl⟩
    go_wp2_with fail
    refine (fblock_c c (by unfold I64; omega) _).mono ?_; rintro e u ⟨rfl, rfl⟩
    go_wp2_with fail
    go_ret3
    exact fgot_no HP.out g

theorem slice_to (s : ByteArray) (n : Nat) (h : n ≤ s.size) (w : World) :
    (Instr.slice 9 (.string s) none (some (.int .i64 (n : Int))) none).run Try.prog w = .ok (.string (s.extract 0 n)) w := by
  rw [run_slice_string_to_if w 9 s .i64 (n : Int) Try.underlying9, if_pos ⟨by omega, by omega⟩, Int.toNat_natCast]
theorem slice_1 (s : ByteArray) (h : 1 ≤ s.size) (w : World) :
    (Instr.slice 9 (.string s) (some (.int .i64 1)) none none).run Try.prog w = .ok (.string (s.extract 1 s.size)) w := by
  rw [run_slice_string_from_if w 9 s .i64 1 Try.underlying9, if_pos ⟨by omega, by omega⟩]
  rfl

theorem gLen_nat {size : Int} {s : ByteArray} (hs : 1 ≤ size ∧ size ≤ 64) (hc : 1 ≤ cntN s ∧ cntN s ≤ 4) : ∃ n : Nat, gLen size s = n ∧ 6 ≤ n ∧ n ≤ 261 := by
  obtain ⟨m, rfl⟩ : ∃ m : Nat, size = m := ⟨size.toNat, by omega⟩
  unfold gLen
  refine ⟨5 + cntN s * m, by rw [Int.natCast_add, Int.natCast_mul]; rfl, ?_⟩
  generalize cntN s = c at hc
  have h1 : c = 1 ∨ c = 2 ∨ c = 3 ∨ c = 4 := by omega
  rcases h1 with rfl | rfl | rfl | rfl <;> omega

set_option maxHeartbeats 1000000 in
theorem fget_some (s : ByteArray) (size : Int) (hk : I64 size) (w : World) (hs : s.size ≤ 100000) (h1 : sizeB size = true) (h2 : 1 ≤ cntN s ∧ cntN s ≤ 4) :
    Calls Try.prog 51 #[.int .i64 size, .string s] w (FGot size s w) := by
  have h1' := h1
  simp only [sizeB, decide_eq_true_eq] at h1'
  obtain ⟨n, hn, hn6, hn261⟩ := gLen_nat h1' h2
  have G := fun w => get_c s 0 1 (by unfold I64; omega) (by unfold I64; omega) w hs
  rw [getN_cnt] at G
  have hgB : gB size s = (decide ((n : Int) ≤ s.size) && opB (s.extract 0 n)) := by
    unfold gB
    rw [h1, hn, decide_eq_true h2, Int.toNat_natCast]
    rfl
  have h4 : decide (1 ≤ (cntN s : Int) ∧ (cntN s : Int) ≤ 4) = true := by rw [decide_eq_true_iff]; omega
  have R := fun w => fsroom_c size (cntN s) (cntN s * size) h1' (by omega) rfl w
  have e5 : 5 + (cntN s : Int) * size = n := hn
  rw [e5] at R
  generalize getB s 0 1 = bb at G
  by_cases hlen : (s.size : Int) < n
  · have hno : gB size s = false := by rw [hgB]; rw [decide_eq_false (by omega)]; rfl
    have HP := Lib.hid hno
    generalize cntN s = c at G R h2 h4
    clear hno hgB hn e5 h1'
    go_enter Try.func51, Try.ntmps51
    go_wp2_with fail
    refine (G _).mono ?_; rintro e u ⟨rfl, g⟩
    go_wp2_with fail
    refine (fsized_c size hk _).mono ?_; rintro e u ⟨rfl, rfl⟩
    go_wp2_with fail
    refine (fblock_c c (by unfold I64; omega) _).mono ?_; rintro e u ⟨rfl, rfl⟩
    go_wp2_with fail
    refine (R _).mono ?_; rintro e u ⟨rfl, rfl⟩
    go_wp2_with fail
    go_ret3
    exact fgot_no HP.out g
  · have hle : n ≤ s.size := by omega
    have hxs : (s.extract 0 n).size = n := by rw [ByteArray.size_extract]; omega
    have hsl := slice_to s n hle
    have O := fun w => open_c (s.extract 0 n) (by omega) w
    cases hop : opB (s.extract 0 n)
    · have hno : gB size s = false := by rw [hgB, hop, Bool.and_false]
      have HP := Lib.hid hno
      rw [hop, opS_no hop] at O
      generalize cntN s = c at G R h2 h4
      clear hno hgB hn e5 h1' hop
      go_enter Try.func51, Try.ntmps51
      go_wp2_with fail
      refine (G _).mono ?_; rintro e u ⟨rfl, g⟩
      go_wp2_with fail
      refine (fsized_c size hk _).mono ?_; rintro e u ⟨rfl, rfl⟩
      go_wp2_with fail
      refine (fblock_c c (by unfold I64; omega) _).mono ?_; rintro e u ⟨rfl, rfl⟩
      go_wp2_with fail
      refine (R _).mono ?_; rintro e u ⟨rfl, rfl⟩
      go_wp2_with fail
      refine (O _).mono ?_; rintro e u2 ⟨rfl, g2⟩
      go_wp2_with fail
      go_ret3
      exact fgot_no HP.out (g.trans g2)
    · have hyes : gB size s = true := by rw [hgB, hop, decide_eq_true (by omega)]; rfl
      have hN := gN_yes hyes
      rw [hn] at hN
      have hbody : gBody size s = (opS (s.extract 0 n)).extract 1 (opS (s.extract 0 n)).size := by unfold gBody; rw [hn, Int.toNat_natCast]
      have hos : (opS (s.extract 0 n)).size = n - 4 := by rw [opS_yes hop, ahead_size _ (by omega), hxs]
      rw [hop] at O
      generalize opS (s.extract 0 n) = t at O hbody hos
      have hbz : (gBody size s).size ≤ 1000 := by rw [hbody, ByteArray.size_extract]; omega
      have C := fun B w hp => cut1_c (gBody size s) size hk B w hbz hp
      rw [hbody] at C
      have hs1 := slice_1 t (by omega)
      have HP := Lib.hid hyes
      have HN := Lib.hid hN
      have HB := Lib.hid hbody
      generalize cntN s = c at G R h2 h4
      clear hyes hgB hn e5 h1' hop hN hbody hos hbz hxs
      go_enter Try.func51, Try.ntmps51
      go_wp2_with fail
      refine (G _).mono ?_; rintro e u ⟨rfl, g⟩
      go_wp2_with fail
      refine (fsized_c size hk _).mono ?_; rintro e u ⟨rfl, rfl⟩
      go_wp2_with fail
      refine (fblock_c c (by unfold I64; omega) _).mono ?_; rintro e u ⟨rfl, rfl⟩
      go_wp2_with fail
      refine (R _).mono ?_; rintro e u ⟨rfl, rfl⟩
      go_wp2_with fail
      refine (O _).mono ?_; rintro e u2 ⟨rfl, g2⟩
      go_wp2_with fail
      refine (cutter_c size _).mono ?_; rintro e u3 ⟨rfl, rfl⟩
      obtain ⟨W, hW⟩ : ∃ W, W = u2.alloc (.cells #[.int .i64 size] 3) := ⟨_, rfl⟩
      have hg : Gr u2 W := by rw [hW]; exact Below.alloc (Below.refl _ _) (Nat.le_refl _) _
      have hcell : W.cell? ⟨u2.heap.size, 0, none⟩ = some (.int .i64 size) := by rw [hW, World.cell?_alloc_mark]; rfl
      rw [← hW]
      have CC := C _ W hcell
      clear hW hcell C
      go_wp2_with fail
      refine CC.mono ?_; rintro e u4 ⟨v, rfl, o, g4⟩
      have OO := Lib.hid o
      clear o
      go_wp2_with fail
      go_ret3
      have ow := OO.out
      rw [← HB.out] at ow
      have g3 := (g.trans g2).trans hg
      exact fgot_yes HP.out HN.out ⟨_, g3.size, ow⟩ (g3.trans g4)
theorem fget_c (s : ByteArray) (size : Int) (hk : I64 size) (w : World) (hs : s.size ≤ 100000) :
    Calls Try.prog 51 #[.int .i64 size, .string s] w (FGot size s w) := by
  by_cases h : sizeB size = true ∧ 1 ≤ cntN s ∧ cntN s ≤ 4
  · exact fget_some s size hk w hs h.1 h.2
  · refine fget_none s size hk w hs ?_
    cases hb : sizeB size
    · exact .inl rfl
    · exact .inr fun hc => h ⟨hb, hc⟩
end Go.Proofs.Ytckgdnaocmefjaa

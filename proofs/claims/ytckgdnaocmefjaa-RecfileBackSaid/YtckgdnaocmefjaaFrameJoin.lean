/- The contracts of what joins records, and of Put. -/
import Derived.Test.YtckgdnaocmefjaaJoin
import Derived.Test.YtckgdnaocmefjaaFramePut
namespace Go.Proofs.Ytckgdnaocmefjaa
open Go.RowKit CrcPlain OctPlain FramePlain
set_option linter.unusedVariables false
set_option linter.unusedSimpArgs false
theorem joiner_c (size : Int) (w : World) :
    Calls Try.prog 46 #[.int .i64 size] w fun e w' => e = .returned (.func (.func 63) #[] #[.pointer (some ⟨w.heap.size, 0, none⟩)]) ∧ w' = w.alloc (.cells #[.int .i64 size] 3) := by
  have hmf : ∀ (fn : Fn) (first cap : Array Value) (w : World), (Instr.makeFunc fn first cap).run Try.prog w = .ok (.func fn first cap) w := fun _ _ _ _ => rfl
  go_enter Try.func46, Try.ntmps46
  go_wp2
  go_ret
  exact ⟨rfl, rfl⟩
def joinS (size : Int) (l : List ByteArray) : ByteArray := if allB size l = true then bs (cat l) else ⟨#[]⟩
theorem joinS_no {size : Int} {l : List ByteArray} (h : allB size l = false) : joinS size l = ⟨#[]⟩ := by simp [joinS, h]
theorem joinS_yes {size : Int} {l : List ByteArray} (h : allB size l = true) : joinS size l = bs (cat l) := by simp [joinS, h]
set_option maxHeartbeats 1000000 in
theorem join1_c (b off cap B n : Nat) (l : List ByteArray) (hn : l.length = n) (size : Int) (hk : I64 size) (hl : n ≤ 4) (hcap : n ≤ cap) (hz : (cat l).length ≤ 1000000) (w : World) (hr : SRow w b off l)
    (hB : B < w.heap.size) (hp : w.cell? ⟨B, 0, none⟩ = some (.int .i64 size)) :
    Calls Try.prog 63 #[.slice (some ⟨b, off, none⟩) n cap, .pointer (some ⟨B, 0, none⟩)] w fun e w' => e = .returned (.tuple #[.string (joinS size l), .bool (allB size l)]) ∧ Gr w w' := by
  have HN := Lib.hid hn
  have C := fun w hr => join_c b off cap l w hr (by omega) (by omega) hz
  rw [hn] at C
  clear hn
  go_enter Try.func63, Try.ntmps63
  go_wp2_with fail
  go_loopw [9] (fun i wr => AllAt size l w i wr) (fun i _ => n - (intOf i).toNat)
  case atStart => exact ⟨0, Nat.zero_le _, rfl, rfl, rfl⟩
  case round =>
    obtain ⟨j, hj, rfl, rfl, hall⟩ := hrel
    have hln := HN.out
    rw [hln] at hj
    by_cases hlt : j < n
    · obtain ⟨x, hx, hstep, hmem⟩ := take_at (l := l) (j := j) (by omega)
      have hc := hr.2 j x hx
      by_cases he : (x.size : Int) = size
      · have hn := allB_snoc size (l.take j) x
        rw [← hstep, hall, he] at hn
        have HA := Lib.hid hn
        have ht : ((x.size : Int) != size) = false := by simpa using he
        clear hn hstep hall hx hmem hln C
        go_wp2_with fail
        refine ⟨⟨j + 1, by have := HN.out; omega, rfl, rfl, by rw [HA.out]; simp⟩, ?_⟩
        simp [intOf]; omega
      · have hf := allB_no hmem he
        have hno := Lib.hid hf
        have hj := Lib.hid (joinS_no hf)
        have ht : ((x.size : Int) != size) = true := by simpa using he
        clear hstep hall hx hmem hln hf C
        go_wp2_with fail
        go_ret2
        exact ⟨ret_sb hj.out.symm hno.out.symm, Gr.refl _⟩
    · obtain rfl : j = n := by omega
      have hf : allB size l = true := by rw [← hln, List.take_length] at hall; exact hall
      have HA := Lib.hid hf
      have HJ := Lib.hid (joinS_yes hf)
      clear hall hf
      go_wp2_with fail
      refine (C _ hr).mono ?_; rintro e u ⟨rfl, g⟩
      go_wp2_with fail
      go_ret2
      exact ⟨ret_sb HJ.out.symm HA.out.symm, g⟩

theorem put1_c (n : Nat) (h : 1 ≤ n ∧ n ≤ 4) (w : World) :
    Calls Try.prog 47 #[.int .i64 n, .int .i64 1] w fun e w' => e = .returned (.tuple #[.string (bs [UInt8.ofNat n]), .bool true]) ∧ Gr w w' := by
  have hf : fitsB n 1 = true := by unfold fitsB; rw [decide_eq_true_iff]; refine ⟨by omega, by omega, ?_⟩; show (n : Int) < 256 ^ 1; omega
  have hp : putS n 1 = bs [UInt8.ofNat n] := by
    unfold putS
    rw [if_pos hf]
    show bs ([] ++ [UInt8.ofNat ((n : Int).toNat % 256)]) = _
    rw [Int.toNat_natCast, Nat.mod_eq_of_lt (by omega), List.nil_append]
  have h := put_c n 1 (by unfold I64; omega) (by unfold I64; omega) w
  rw [hf, hp] at h
  exact h

theorem fput_no (a : Option Addr) (cap n : Nat) (l : List ByteArray) (hn : l.length = n) (size : Int) (hk : I64 size) (hn64 : I64 n) (w : World) (h : sizeB size = false ∨ ¬ (1 ≤ n ∧ n ≤ 4)) :
    Calls Try.prog 24 #[.int .i64 size, .slice a n cap] w fun e w' => e = .returned (.tuple #[.string (blkS size l), .bool (blkB size l)]) ∧ w = w' := by
  have hp : blkB size l = false := by
    unfold blkB
    rw [hn]
    rcases h with h | h
    · rw [h]; rfl
    · rw [decide_eq_false h, Bool.and_false, Bool.false_and]
  have HS := Lib.hid (blkS_no hp)
  have HP := Lib.hid hp
  clear hp hn
  cases hsz : sizeB size
  · clear h
    go_enter Try.func24, Try.ntmps24
    go_wp2_with fail
    refine (fsized_c size hk _).mono ?_; rintro e u ⟨rfl, rfl⟩
    go_wp2_with fail
    go_ret2
    exact ⟨ret_sb HS.out.symm HP.out.symm, rfl⟩
  · rw [hsz] at h
    have h4 : decide (1 ≤ (n : Int) ∧ (n : Int) ≤ 4) = false := by rw [decide_eq_false_iff_not]; rcases h with h | h; cases h; omega
    clear h
    go_enter Try.func24, Try.ntmps24
    go_wp2_with fail
    refine (fsized_c size hk _).mono ?_; rintro e u ⟨rfl, rfl⟩
    go_wp2_with fail
    refine (fblock_c n hn64 _).mono ?_; rintro e u ⟨rfl, rfl⟩
    go_wp2_with fail
    go_ret2
    exact ⟨ret_sb HS.out.symm HP.out.symm, rfl⟩

set_option maxHeartbeats 1000000 in
theorem fput_some (b off cap n : Nat) (l : List ByteArray) (hn : l.length = n) (size : Int) (hk : I64 size) (w : World) (hr : SRow w b off l) (hs : sizeB size = true) (h4 : 1 ≤ n ∧ n ≤ 4) (hcap : n ≤ cap) (hz : ∀ s ∈ l, s.size ≤ 1000) :
    Calls Try.prog 24 #[.int .i64 size, .slice (some ⟨b, off, none⟩) n cap] w fun e w' => e = .returned (.tuple #[.string (blkS size l), .bool (blkB size l)]) ∧ Gr w w' := by
  have hcat : (cat l).length ≤ 1000000 := by
    have := cat_le1000 hz
    omega
  have h4' : decide (1 ≤ (n : Int) ∧ (n : Int) ≤ 4) = true := by rw [decide_eq_true_iff]; omega
  have P := put1_c n h4
  obtain ⟨W, hW⟩ : ∃ W, W = w.alloc (.cells #[.int .i64 size] 3) := ⟨_, rfl⟩
  have hg : Gr w W := by rw [hW]; exact Below.alloc (Below.refl _ _) (Nat.le_refl _) _
  have hcell : W.cell? ⟨w.heap.size, 0, none⟩ = some (.int .i64 size) := by rw [hW, World.cell?_alloc_mark]; rfl
  have hlt : w.heap.size < W.heap.size := by rw [hW, World.size_alloc]; omega
  have J := join1_c b off cap w.heap.size n l hn size hk (by omega) hcap hcat W (hr.gr hg) hlt hcell
  have HW := Lib.hid hW
  clear hW hcell hlt
  cases ha : allB size l
  · have hp : blkB size l = false := by unfold blkB; rw [ha, Bool.and_false]
    have HS := Lib.hid (blkS_no hp)
    have HP := Lib.hid hp
    rw [ha] at J
    clear hp ha hn hz
    go_enter Try.func24, Try.ntmps24
    go_wp2_with fail
    refine (fsized_c size hk _).mono ?_; rintro e u ⟨rfl, rfl⟩
    go_wp2_with fail
    refine (fblock_c n (by unfold I64; omega) _).mono ?_; rintro e u ⟨rfl, rfl⟩
    go_wp2_with fail
    refine (joiner_c size _).mono ?_; rintro e u ⟨rfl, rfl⟩
    rw [← HW.out]
    go_wp2_with fail
    refine J.mono ?_; rintro e u2 ⟨rfl, g2⟩
    go_wp2_with fail
    go_ret2
    exact ⟨ret_sb HS.out.symm HP.out.symm, hg.trans g2⟩
  · have hp : blkB size l = true := by unfold blkB; rw [ha, hs, hn, decide_eq_true h4]; rfl
    have hj := joinS_yes ha
    have HS := Lib.hid (blkS_yes hp)
    have HP := Lib.hid hp
    rw [ha, hj] at J
    have hx64 : ∀ s ∈ l, s.size ≤ 64 := fun s hsl => by
      have := allB_iff.1 ha s hsl
      simp only [sizeB, decide_eq_true_eq] at hs
      omega
    have hcl := cat_le hx64
    have hbz : (blk l).size ≤ 1000 := by rw [blk_size]; omega
    have e1 : bs [UInt8.ofNat n] ++ bs (cat l) = blk l := by unfold blk; rw [bs_app, hn]; rfl
    have s1 : (bs [UInt8.ofNat n]).size = 1 := bs_size _
    have s2 : (bs (cat l)).size ≤ 1000 := by rw [bs_size]; omega
    have C := fun w => close_c (blk l) hbz w
    rw [← e1] at C
    have E := Lib.hid e1
    clear hp ha hn hz hj hx64 hcl hbz hcat e1
    go_enter Try.func24, Try.ntmps24
    go_wp2_with fail
    refine (fsized_c size hk _).mono ?_; rintro e u ⟨rfl, rfl⟩
    go_wp2_with fail
    refine (fblock_c n (by unfold I64; omega) _).mono ?_; rintro e u ⟨rfl, rfl⟩
    go_wp2_with fail
    refine (joiner_c size _).mono ?_; rintro e u ⟨rfl, rfl⟩
    rw [← HW.out]
    go_wp2_with fail
    refine J.mono ?_; rintro e u2 ⟨rfl, g2⟩
    go_wp2_with fail
    refine (P _).mono ?_; rintro e u3 ⟨rfl, g3⟩
    go_wp2_with fail
    refine (C _).mono ?_; rintro e u4 ⟨rfl, g4⟩
    go_wp2_with fail
    go_ret2
    exact ⟨ret_sb (by rw [E.out, HS.out]) HP.out.symm, ((hg.trans g2).trans g3).trans g4⟩
end Go.Proofs.Ytckgdnaocmefjaa

/- The contracts of Room and of what says which sizes and numbers of records may be; the document's All and Put. -/
import Derived.Test.YtckgdnaocmefjaaFramePlain
import Derived.Test.YtckgdnaocmefjaaOctRput
namespace Go.Proofs.Ytckgdnaocmefjaa
open Go.RowKit CrcPlain OctPlain FramePlain
set_option linter.unusedVariables false
set_option linter.unusedSimpArgs false
theorem fsized_c (k : Int) (hk : I64 k) (w : World) :
    Calls Try.prog 44 #[.int .i64 k] w fun e w' => e = .returned (.bool (sizeB k)) ∧ w = w' := by
  unfold sizeB
  by_cases h1 : 1 ≤ k <;> by_cases h2 : k ≤ 64
  all_goals
    go_enter Try.func44, Try.ntmps44
    go_wp2
    go_ret
    exact ⟨by simp [h1, h2], rfl⟩
theorem fblock_c (k : Int) (hk : I64 k) (w : World) :
    Calls Try.prog 45 #[.int .i64 k] w fun e w' => e = .returned (.bool (decide (1 ≤ k ∧ k ≤ 4))) ∧ w = w' := by
  by_cases h1 : 1 ≤ k <;> by_cases h2 : k ≤ 4
  all_goals
    go_enter Try.func45, Try.ntmps45
    go_wp2
    go_ret
    exact ⟨by simp [h1, h2], rfl⟩
theorem fsroom_c (size n m : Int) (h1 : 1 ≤ size ∧ size ≤ 64) (h2 : 1 ≤ n ∧ n ≤ 4) (hm : n * size = m) (w : World) :
    Calls Try.prog 60 #[.int .i64 size, .int .i64 n] w fun e w' => e = .returned (.int .i64 (5 + m)) ∧ w = w' := by
  have hb : 1 ≤ m ∧ m ≤ 256 := by
    have hn : n = 1 ∨ n = 2 ∨ n = 3 ∨ n = 4 := by omega
    rcases hn with rfl | rfl | rfl | rfl <;> omega
  go_enter Try.func60, Try.ntmps60
  go_wp2
  go_ret
  exact ⟨ret_i (by omega), rfl⟩
theorem room_c (k : Int) (hk : I64 k) (w : World) :
    Calls Try.prog 37 #[.int .i64 k] w fun e w' => e = .returned (.int .i64 (roomN k)) ∧ w = w' := by
  cases h : sizeB k
  · go_enter Try.func37, Try.ntmps37
    go_wp2_with fail
    refine (fsized_c k hk _).mono ?_; rintro e u ⟨rfl, rfl⟩
    go_wp2_with fail
    go_ret
    exact ⟨ret_i (by simp [roomN, h]), rfl⟩
  · have h' := h
    simp only [sizeB, decide_eq_true_eq] at h'
    go_enter Try.func37, Try.ntmps37
    go_wp2_with fail
    refine (fsized_c k hk _).mono ?_; rintro e u ⟨rfl, rfl⟩
    go_wp2_with fail
    refine (fsroom_c k 4 (4 * k) h' (by omega) rfl _).mono ?_; rintro e u ⟨rfl, rfl⟩
    go_wp2_with fail
    go_ret
    exact ⟨ret_i (by simp [roomN, h]), rfl⟩
theorem rroom_c (k : Int) (hk : I64 k) (w : World) :
    Calls Try.prog 38 #[.int .i64 k] w fun e w' => e = .returned (.int .i64 (roomN k)) ∧ w = w' := by
  unfold I64 at hk
  by_cases h1 : k < 1
  · have h : sizeB k = false := by unfold sizeB; rw [decide_eq_false_iff_not]; omega
    go_enter Try.func38, Try.ntmps38
    go_wp2
    go_ret
    exact ⟨ret_i (by simp [roomN, h]), rfl⟩
  · by_cases h2 : 64 < k
    · have h : sizeB k = false := by unfold sizeB; rw [decide_eq_false_iff_not]; omega
      go_enter Try.func38, Try.ntmps38
      go_wp2
      go_ret
      exact ⟨ret_i (by simp [roomN, h]), rfl⟩
    · have h : sizeB k = true := by unfold sizeB; rw [decide_eq_true_iff]; omega
      go_enter Try.func38, Try.ntmps38
      go_wp2
      go_ret
      exact ⟨ret_i (by simp [roomN, h]; omega), rfl⟩

def AllAt (size : Int) (l : List ByteArray) (w : World) (i : Value) (wr : World) : Prop := ∃ j : Nat, j ≤ l.length ∧ i = .int .i64 j ∧ wr = w ∧ allB size (l.take j) = true
theorem allB_snoc (size : Int) (l : List ByteArray) (x : ByteArray) : allB size (l ++ [x]) = (allB size l && decide ((x.size : Int) = size)) := by simp [allB]
theorem allB_no {size : Int} {l : List ByteArray} {x : ByteArray} (h : x ∈ l) (hx : ¬ (x.size : Int) = size) : allB size l = false := by
  unfold allB; rw [List.all_eq_false]; exact ⟨x, h, by simpa using hx⟩
theorem retb {a b : Bool} (h : a = b) : Ending.returned (.bool a) = .returned (.bool b) := by rw [h]
set_option maxHeartbeats 1000000 in
theorem all_c (b off cap : Nat) (l : List ByteArray) (size : Int) (hk : I64 size) (hl : l.length ≤ 1000) (w : World) (hr : SRow w b off l) :
    Calls Try.prog 27 #[.int .i64 size, .slice (some ⟨b, off, none⟩) l.length cap] w fun e w' => e = .returned (.bool (allB size l)) ∧ w = w' := by
  go_enter Try.func27, Try.ntmps27
  go_wp2_with fail
  go_loopw [5] (fun i wr => AllAt size l w i wr) (fun i _ => l.length - (intOf i).toNat)
  case atStart => exact ⟨0, Nat.zero_le _, rfl, rfl, rfl⟩
  case round =>
    obtain ⟨j, hj, rfl, rfl, hall⟩ := hrel
    by_cases hlt : j < l.length
    · obtain ⟨x, hx, hstep, hmem⟩ := take_at hlt
      have hc := hr.2 j x hx
      by_cases he : (x.size : Int) = size
      · have hn := allB_snoc size (l.take j) x
        rw [← hstep, hall, he] at hn
        have HN := Lib.hid hn
        have ht : ((x.size : Int) != size) = false := by simpa using he
        clear hn hstep hall hx hmem
        go_wp2
        refine ⟨⟨j + 1, by omega, rfl, rfl, by rw [HN.out]; simp⟩, ?_⟩
        simp [intOf]; omega
      · have hno := Lib.hid (allB_no hmem he)
        have ht : ((x.size : Int) != size) = true := by simpa using he
        clear hstep hall hx hmem
        go_wp2
        go_ret
        exact ⟨retb hno.out.symm, rfl⟩
    · obtain rfl : j = l.length := by omega
      have HA := Lib.hid (show allB size l = true by rw [List.take_length] at hall; exact hall)
      clear hall
      go_wp2
      go_ret
      exact ⟨retb HA.out.symm, rfl⟩

theorem rfput_no (a : Option Addr) (cap n : Nat) (l : List ByteArray) (hn : l.length = n) (size : Int) (hk : I64 size) (w : World) (h : sizeB size = false ∨ ¬ (1 ≤ n ∧ n ≤ 4)) :
    Calls Try.prog 28 #[.int .i64 size, .slice a n cap] w fun e w' => e = .returned (.tuple #[.string (blkS size l), .bool (blkB size l)]) ∧ w = w' := by
  have hp : blkB size l = false := by
    unfold blkB
    rw [hn]
    rcases h with h | h
    · rw [h]; rfl
    · rw [decide_eq_false h, Bool.and_false, Bool.false_and]
  have HS := Lib.hid (blkS_no hp)
  have HP := Lib.hid hp
  clear hp hn
  unfold I64 at hk
  by_cases h1 : size < 1
  · clear h
    go_enter Try.func28, Try.ntmps28
    go_wp2_with fail
    go_ret2
    exact ⟨ret_sb HS.out.symm HP.out.symm, rfl⟩
  · by_cases h2 : 64 < size
    · clear h
      go_enter Try.func28, Try.ntmps28
      go_wp2_with fail
      go_ret2
      exact ⟨ret_sb HS.out.symm HP.out.symm, rfl⟩
    · have h' : ¬ (1 ≤ n ∧ n ≤ 4) := by
        rcases h with h | h
        · unfold sizeB at h; rw [decide_eq_false_iff_not] at h; omega
        · exact h
      clear h
      by_cases h3 : (n : Int) < 1
      · clear h'
        go_enter Try.func28, Try.ntmps28
        go_wp2_with fail
        go_ret2
        exact ⟨ret_sb HS.out.symm HP.out.symm, rfl⟩
      · have h4 : (4 : Int) < n := by omega
        clear h'
        go_enter Try.func28, Try.ntmps28
        go_wp2_with fail
        go_ret2
        exact ⟨ret_sb HS.out.symm HP.out.symm, rfl⟩

theorem rfput_mid (b off cap n : Nat) (l : List ByteArray) (hn : l.length = n) (size : Int) (hk : I64 size) (w : World) (hr : SRow w b off l) (h : sizeB size = true) (h4 : 1 ≤ n ∧ n ≤ 4) (ha : allB size l = false) :
    Calls Try.prog 28 #[.int .i64 size, .slice (some ⟨b, off, none⟩) n cap] w fun e w' => e = .returned (.tuple #[.string (blkS size l), .bool (blkB size l)]) ∧ w = w' := by
  have hp : blkB size l = false := by unfold blkB; rw [ha, Bool.and_false]
  have HS := Lib.hid (blkS_no hp)
  have HP := Lib.hid hp
  have A := all_c b off cap l size hk (by omega) w hr
  rw [ha, hn] at A
  simp only [sizeB, decide_eq_true_eq] at h
  have k1 : ¬ (n : Int) < 1 := by omega
  have k2 : ¬ (4 : Int) < n := by omega
  clear hp hn
  go_enter Try.func28, Try.ntmps28
  go_wp2_with fail
  refine A.mono ?_; rintro e u ⟨rfl, rfl⟩
  go_wp2_with fail
  go_ret2
  exact ⟨ret_sb HS.out.symm HP.out.symm, rfl⟩

def RPutAt (l : List ByteArray) (n : Nat) (w : World) (s i : Value) (wr : World) : Prop := ∃ j : Nat, j ≤ n ∧ i = .int .i64 j ∧ s = .string (bs (UInt8.ofNat n :: cat (l.take j))) ∧ Below w.heap.size w wr
set_option maxHeartbeats 2000000 in
theorem rfput_yes (b off cap n : Nat) (l : List ByteArray) (hn : l.length = n) (size : Int) (hk : I64 size) (w : World) (hr : SRow w b off l) (h : sizeB size = true) (h4 : 1 ≤ n ∧ n ≤ 4) (ha : allB size l = true) :
    Calls Try.prog 28 #[.int .i64 size, .slice (some ⟨b, off, none⟩) n cap] w fun e w' => e = .returned (.tuple #[.string (blkS size l), .bool (blkB size l)]) ∧ Gr w w' := by
  have hp : blkB size l = true := by unfold blkB; rw [ha, h, hn, decide_eq_true h4]; rfl
  have HS := Lib.hid (blkS_yes hp)
  have HP := Lib.hid hp
  have A := all_c b off cap l size hk (by omega) w hr
  rw [ha, hn] at A
  simp only [sizeB, decide_eq_true_eq] at h
  have k1 : ¬ (n : Int) < 1 := by omega
  have k2 : ¬ (4 : Int) < n := by omega
  have hx64 : ∀ s ∈ l, s.size ≤ 64 := fun s hs => by have := allB_iff.1 ha s hs; omega
  have hc1 := fun u => conv1 u (n : Int) (by omega) (by omega)
  rw [Int.toNat_natCast] at hc1
  have HN := Lib.hid hn
  have HX := Lib.hid hx64
  clear hp hn ha hx64
  go_enter Try.func28, Try.ntmps28
  go_wp2_with fail
  refine A.mono ?_; rintro e u ⟨rfl, rfl⟩
  clear A
  go_wp2_with fail
  go_loopw [6, 7] (fun s i wr => RPutAt l n w s i wr) (fun _ i _ => n - (intOf i).toNat)
  case atStart => exact ⟨0, Nat.zero_le _, rfl, rfl, Below.alloc (Below.refl _ _) (Nat.le_refl _) _⟩
  case round =>
    obtain ⟨j, hj, rfl, rfl, hb⟩ := hrel
    have hln := HN.out
    by_cases hlt : j < n
    · obtain ⟨x, hx, hstep, hmem⟩ := take_at (l := l) (j := j) (by omega)
      have hc : wr.cell? ⟨b, off + j, none⟩ = some (.string x) := by rw [hb.cell hr.1]; exact hr.2 j x hx
      have hx64 := HX.out x hmem
      have hcl := cat_le (l := l.take j) (fun s hs => HX.out s (List.mem_of_mem_take hs))
      rw [List.length_take] at hcl
      have hs1 : (bs (UInt8.ofNat n :: cat (l.take j))).size ≤ 1000 := by rw [bs_size, List.length_cons]; omega
      have hnext : bs (UInt8.ofNat n :: cat (l.take j)) ++ x = bs (UInt8.ofNat n :: cat (l.take (j + 1))) := by
        have e0 : bs (UInt8.ofNat n :: cat (l.take j)) ++ x = bs (UInt8.ofNat n :: cat (l.take j)) ++ bs x.data.toList := by rw [bs_toList]
        rw [e0, bs_app, hstep, cat_snoc, List.cons_append]
      have HE := Lib.hid hnext
      generalize bs (UInt8.ofNat n :: cat (l.take j)) = S at hs1 HE ⊢
      clear hcl hnext hstep hmem hx hln
      go_wp2_with fail
      refine ⟨⟨j + 1, by omega, rfl, by rw [← HE.out], hb⟩, ?_⟩
      simp [intOf]; omega
    · obtain rfl : j = n := by omega
      have he : l.take j = l := List.take_of_length_le (by omega)
      have hblk : bs (UInt8.ofNat j :: cat l) = blk l := by unfold blk; rw [hln]
      have hcl := cat_le (l := l) HX.out
      rw [he, hblk]
      have hz : (blk l).size ≤ 1000 := by rw [blk_size]; omega
      clear he hblk hcl hln
      go_wp2_with fail
      refine (rclose_c (blk l) hz _).mono ?_; rintro e u2 ⟨rfl, g⟩
      go_wp2_with fail
      go_ret2
      exact ⟨ret_sb HS.out.symm HP.out.symm, (Gr.of hb).trans g⟩
end Go.Proofs.Ytckgdnaocmefjaa

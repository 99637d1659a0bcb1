/- In one text: OctRput, FramePut, FrameJoin, CrcOpen. -/
import Derived.Test.YtjplkmmhjfpdaaaGreatDoorQ01
import Derived.Lib.Hide
import Derived.Deep.RegionLaw
import Derived.RegionTactic
import Derived.BigRegion
import Derived.Deep.QuietTactic
import Derived.BigQuiet
import Derived.Lib.Strings
import Derived.Deep.RegionHeld3
/- Contracts of the document's Put, and of PutCoord on both sides. -/
namespace Go.Proofs.YtjplkmmhjfpdaaaGreatDoor
open Go.RowKit OctPlain
set_option linter.unusedVariables false
set_option linter.unusedSimpArgs false
set_option maxRecDepth 20000
def PutAt (n k : Int) (B : Nat) (w : World) (v s i : Value) (wr : World) : Prop :=
  ∃ j : Nat, (j : Int) ≤ k ∧ i = .int .i64 j ∧ v = .int .i64 (n / 256 ^ j) ∧ s = .string (bs (beL j n.toNat)) ∧ Below B w wr
set_option maxHeartbeats 1000000 in
theorem rput_c (n k : Int) (hn : I64 n) (hk : I64 k) (w : World) :
    Calls Tryz.prog 87 #[.int .i64 n, .int .i64 k] w fun e w' => e = .returned (.tuple #[.string (putS n k), .bool (fitsB n k)]) ∧ Gr w w' := by
  unfold I64 at hn hk
  by_cases h : (1 ≤ k ∧ k ≤ 8) ∧ 0 ≤ n
  · obtain ⟨hk8, hn0⟩ := h
    go_enter Tryz.func87, Tryz.ntmps87
    go_wp2_with fail
    go_loopw [0, 6, 7] (fun v s i wr => PutAt n k w.heap.size w v s i wr) (fun _ _ i _ => (k - intOf i).toNat)
    case atStart => exact ⟨0, by omega, by simp, by simp, by simp [beL, bs], Below.refl _ _⟩
    case round =>
      obtain ⟨j, hj, rfl, rfl, rfl, hb⟩ := hrel
      have hm0 : 0 ≤ n / 256 ^ j := Int.ediv_nonneg hn0 (Int.pow_nonneg (by omega))
      have hm1 : n / 256 ^ j ≤ n := Int.ediv_le_self _ hn0
      have hstep : n / 256 ^ (j + 1) = n / 256 ^ j / 256 := by rw [Int.pow_succ, Int.ediv_ediv_of_nonneg (Int.pow_nonneg (by omega))]
      by_cases hlt : (j : Int) < k
      · obtain ⟨m, hm⟩ : ∃ m, m = n / 256 ^ j := ⟨_, rfl⟩
        rw [← hm] at hm0 hm1 hstep ⊢
        have hc := fun u => conv1 u (m % 256) (by omega) (by omega)
        have s1 : (bs [UInt8.ofNat (m % 256).toNat]).size = 1 := bs_size _
        have s2 : (bs (beL j n.toNat)).size = j := by rw [bs_size, beL_length]
        have hnew : bs [UInt8.ofNat (m % 256).toNat] ++ bs (beL j n.toNat) = bs (beL (j + 1) n.toNat) := by
          rw [bs_app, beL_top, hm]
          rw [dig_cast n hn0]
          rfl
        have hnew' := Lib.hid hnew
        clear hm hnew
        go_wp2
        refine ⟨⟨j + 1, by omega, rfl, by rw [hstep], by rw [hnew'.out], Below.alloc hb hb.size _⟩, ?_⟩
        simp [intOf]; omega
      · obtain rfl : k = j := by omega
        have hfit : fitsB n j = decide (n / 256 ^ j = 0) := fits_at hk8 hn0
        by_cases hz : 0 < n / 256 ^ j
        · have hf : fitsB n j = false := by rw [hfit]; simp; omega
          have hp := put_no hf
          clear hfit
          go_wp2
          go_ret2
          first | exact ⟨rfl, Gr.of hb⟩ | exact ⟨ret_sb hp.symm hf.symm, Gr.of hb⟩
        · have hf : fitsB n j = true := by rw [hfit]; simp; omega
          have hp : putS n j = bs (beL j n.toNat) := by simp [putS, hf]
          clear hfit
          go_wp2
          go_ret2
          first | exact ⟨rfl, Gr.of hb⟩ | exact ⟨ret_sb hp.symm hf.symm, Gr.of hb⟩
  · have hf : fitsB n k = false := by
      simp only [fitsB, decide_eq_false_iff_not]
      intro hh; exact h ⟨hh.1, hh.2.1⟩
    have hp := put_no hf
    by_cases k1 : k < 1
    · go_enter Tryz.func87, Tryz.ntmps87
      go_wp2
      go_ret2
      first | exact ⟨rfl, Gr.refl _⟩ | exact ⟨ret_sb hp.symm hf.symm, Gr.refl _⟩
    · by_cases k2 : 8 < k
      · go_enter Tryz.func87, Tryz.ntmps87
        go_wp2
        go_ret2
        first | exact ⟨rfl, Gr.refl _⟩ | exact ⟨ret_sb hp.symm hf.symm, Gr.refl _⟩
      · have k3 : n < 0 := by omega
        go_enter Tryz.func87, Tryz.ntmps87
        go_wp2
        go_ret2
        first | exact ⟨rfl, Gr.refl _⟩ | exact ⟨ret_sb hp.symm hf.symm, Gr.refl _⟩
end Go.Proofs.YtjplkmmhjfpdaaaGreatDoor
/- The contracts of Room and of what says which sizes and numbers of records may be; the document's All and Put. -/
namespace Go.Proofs.YtjplkmmhjfpdaaaGreatDoor
open Go.RowKit CrcPlain OctPlain FramePlain
set_option linter.unusedVariables false
set_option linter.unusedSimpArgs false
set_option maxRecDepth 20000
theorem fsized_c (k : Int) (hk : I64 k) (w : World) :
    Calls Tryz.prog 131 #[.int .i64 k] w fun e w' => e = .returned (.bool (sizeB k)) ∧ w = w' := by
  unfold sizeB
  by_cases h1 : 1 ≤ k <;> by_cases h2 : k ≤ 64
  all_goals
    go_enter Tryz.func131, Tryz.ntmps131
    go_wp2
    go_ret
    exact ⟨by simp [h1, h2], rfl⟩
theorem fblock_c (k : Int) (hk : I64 k) (w : World) :
    Calls Tryz.prog 189 #[.int .i64 k] w fun e w' => e = .returned (.bool (decide (1 ≤ k ∧ k ≤ 4))) ∧ w = w' := by
  by_cases h1 : 1 ≤ k <;> by_cases h2 : k ≤ 4
  all_goals
    go_enter Tryz.func189, Tryz.ntmps189
    go_wp2
    go_ret
    exact ⟨by simp [h1, h2], rfl⟩
theorem fsroom_c (size n m : Int) (h1 : 1 ≤ size ∧ size ≤ 64) (h2 : 1 ≤ n ∧ n ≤ 4) (hm : n * size = m) (w : World) :
    Calls Tryz.prog 132 #[.int .i64 size, .int .i64 n] w fun e w' => e = .returned (.int .i64 (5 + m)) ∧ w = w' := by
  have hb : 1 ≤ m ∧ m ≤ 256 := by
    have hn : n = 1 ∨ n = 2 ∨ n = 3 ∨ n = 4 := by omega
    rcases hn with rfl | rfl | rfl | rfl <;> omega
  go_enter Tryz.func132, Tryz.ntmps132
  go_wp2
  go_ret
  exact ⟨ret_i (by omega), rfl⟩
theorem room_c (k : Int) (hk : I64 k) (w : World) :
    Calls Tryz.prog 110 #[.int .i64 k] w fun e w' => e = .returned (.int .i64 (roomN k)) ∧ w = w' := by
  cases h : sizeB k
  · go_enter Tryz.func110, Tryz.ntmps110
    go_wp2_with fail
    refine (fsized_c k hk _).mono ?_; rintro e u ⟨rfl, rfl⟩
    go_wp2_with fail
    go_ret
    exact ⟨ret_i (by simp [roomN, h]), rfl⟩
  · have h' := h
    simp only [sizeB, decide_eq_true_eq] at h'
    go_enter Tryz.func110, Tryz.ntmps110
    go_wp2_with fail
    refine (fsized_c k hk _).mono ?_; rintro e u ⟨rfl, rfl⟩
    go_wp2_with fail
    refine (fsroom_c k 4 (4 * k) h' (by omega) rfl _).mono ?_; rintro e u ⟨rfl, rfl⟩
    go_wp2_with fail
    go_ret
    exact ⟨ret_i (by simp [roomN, h]), rfl⟩
def AllAt (size : Int) (l : List ByteArray) (w : World) (i : Value) (wr : World) : Prop := ∃ j : Nat, j ≤ l.length ∧ i = .int .i64 j ∧ wr = w ∧ allB size (l.take j) = true
theorem allB_snoc (size : Int) (l : List ByteArray) (x : ByteArray) : allB size (l ++ [x]) = (allB size l && decide ((x.size : Int) = size)) := by simp [allB]
theorem allB_no {size : Int} {l : List ByteArray} {x : ByteArray} (h : x ∈ l) (hx : ¬ (x.size : Int) = size) : allB size l = false := by
  unfold allB; rw [List.all_eq_false]; exact ⟨x, h, by simpa using hx⟩
theorem retb {a b : Bool} (h : a = b) : Ending.returned (.bool a) = .returned (.bool b) := by rw [h]
set_option maxHeartbeats 1000000 in
theorem all_c (b off cap : Nat) (l : List ByteArray) (size : Int) (hk : I64 size) (hl : l.length ≤ 3000) (w : World) (hr : SRow w b off l) :
    Calls Tryz.prog 31 #[.int .i64 size, .slice (some ⟨b, off, none⟩) l.length cap] w fun e w' => e = .returned (.bool (allB size l)) ∧ w = w' := by
  go_enter Tryz.func31, Tryz.ntmps31
  go_wp2_with fail
  go_loopw [5] (fun i wr => AllAt size l w i wr) (fun i _ => l.length - (intOf i).toNat)
  case atStart => exact ⟨0, Nat.zero_le _, rfl, rfl, rfl⟩
  case round =>
    obtain ⟨j, hj, rfl, rfl, hall⟩ := hrel
    by_cases hlt : j < l.length
    · obtain ⟨x, hx, hstep, hmem⟩ := take_at hlt
      have hc := hr.2 j x hx
      by_cases he : (x.size : Int) = size
      · have hn := allB_snoc size (l.take j) x
        rw [← hstep, hall, he] at hn
        have HN := Lib.hid hn
        have ht : ((x.size : Int) != size) = false := by simpa using he
        clear hn hstep hall hx hmem
        go_wp2
        refine ⟨⟨j + 1, by omega, rfl, rfl, by rw [HN.out]; simp⟩, ?_⟩
        simp [intOf]; omega
      · have hno := Lib.hid (allB_no hmem he)
        have ht : ((x.size : Int) != size) = true := by simpa using he
        clear hstep hall hx hmem
        go_wp2
        go_ret
        exact ⟨retb hno.out.symm, rfl⟩
    · obtain rfl : j = l.length := by omega
      have HA := Lib.hid (show allB size l = true by rw [List.take_length] at hall; exact hall)
      clear hall
      go_wp2
      go_ret
      exact ⟨retb HA.out.symm, rfl⟩
theorem rfput_no (a : Option Addr) (cap n : Nat) (l : List ByteArray) (hn : l.length = n) (size : Int) (hk : I64 size) (w : World) (h : sizeB size = false ∨ ¬ (1 ≤ n ∧ n ≤ 4)) :
    Calls Tryz.prog 32 #[.int .i64 size, .slice a n cap] w fun e w' => e = .returned (.tuple #[.string (blkS size l), .bool (blkB size l)]) ∧ w = w' := by
  have hp : blkB size l = false := by
    unfold blkB
    rw [hn]
    rcases h with h | h
    · rw [h]; rfl
    · rw [decide_eq_false h, Bool.and_false, Bool.false_and]
  have HS := Lib.hid (blkS_no hp)
  have HP := Lib.hid hp
  clear hp hn
  unfold I64 at hk
  by_cases h1 : size < 1
  · clear h
    go_enter Tryz.func32, Tryz.ntmps32
    go_wp2_with fail
    go_ret2
    exact ⟨ret_sb HS.out.symm HP.out.symm, rfl⟩
  · by_cases h2 : 64 < size
    · clear h
      go_enter Tryz.func32, Tryz.ntmps32
      go_wp2_with fail
      go_ret2
      exact ⟨ret_sb HS.out.symm HP.out.symm, rfl⟩
    · have h' : ¬ (1 ≤ n ∧ n ≤ 4) := by
        rcases h with h | h
        · unfold sizeB at h; rw [decide_eq_false_iff_not] at h; omega
        · exact h
      clear h
      by_cases h3 : (n : Int) < 1
      · clear h'
        go_enter Tryz.func32, Tryz.ntmps32
        go_wp2_with fail
        go_ret2
        exact ⟨ret_sb HS.out.symm HP.out.symm, rfl⟩
      · have h4 : (4 : Int) < n := by omega
        clear h'
        go_enter Tryz.func32, Tryz.ntmps32
        go_wp2_with fail
        go_ret2
        exact ⟨ret_sb HS.out.symm HP.out.symm, rfl⟩
theorem rfput_mid (b off cap n : Nat) (l : List ByteArray) (hn : l.length = n) (size : Int) (hk : I64 size) (w : World) (hr : SRow w b off l) (h : sizeB size = true) (h4 : 1 ≤ n ∧ n ≤ 4) (ha : allB size l = false) :
    Calls Tryz.prog 32 #[.int .i64 size, .slice (some ⟨b, off, none⟩) n cap] w fun e w' => e = .returned (.tuple #[.string (blkS size l), .bool (blkB size l)]) ∧ w = w' := by
  have hp : blkB size l = false := by unfold blkB; rw [ha, Bool.and_false]
  have HS := Lib.hid (blkS_no hp)
  have HP := Lib.hid hp
  have A := all_c b off cap l size hk (by omega) w hr
  rw [ha, hn] at A
  simp only [sizeB, decide_eq_true_eq] at h
  have k1 : ¬ (n : Int) < 1 := by omega
  have k2 : ¬ (4 : Int) < n := by omega
  clear hp hn
  go_enter Tryz.func32, Tryz.ntmps32
  go_wp2_with fail
  refine A.mono ?_; rintro e u ⟨rfl, rfl⟩
  go_wp2_with fail
  go_ret2
  exact ⟨ret_sb HS.out.symm HP.out.symm, rfl⟩
def RPutAt (l : List ByteArray) (n : Nat) (w : World) (s i : Value) (wr : World) : Prop := ∃ j : Nat, j ≤ n ∧ i = .int .i64 j ∧ s = .string (bs (UInt8.ofNat n :: cat (l.take j))) ∧ Below w.heap.size w wr
set_option maxHeartbeats 2000000 in
theorem rfput_yes (b off cap n : Nat) (l : List ByteArray) (hn : l.length = n) (size : Int) (hk : I64 size) (w : World) (hr : SRow w b off l) (h : sizeB size = true) (h4 : 1 ≤ n ∧ n ≤ 4) (ha : allB size l = true) :
    Calls Tryz.prog 32 #[.int .i64 size, .slice (some ⟨b, off, none⟩) n cap] w fun e w' => e = .returned (.tuple #[.string (blkS size l), .bool (blkB size l)]) ∧ Gr w w' := by
  have hp : blkB size l = true := by unfold blkB; rw [ha, h, hn, decide_eq_true h4]; rfl
  have HS := Lib.hid (blkS_yes hp)
  have HP := Lib.hid hp
  have A := all_c b off cap l size hk (by omega) w hr
  rw [ha, hn] at A
  simp only [sizeB, decide_eq_true_eq] at h
  have k1 : ¬ (n : Int) < 1 := by omega
  have k2 : ¬ (4 : Int) < n := by omega
  have hx64 : ∀ s ∈ l, s.size ≤ 64 := fun s hs => by have := allB_iff.1 ha s hs; omega
  have hc1 := fun u => conv1 u (n : Int) (by omega) (by omega)
  rw [Int.toNat_natCast] at hc1
  have HN := Lib.hid hn
  have HX := Lib.hid hx64
  clear hp hn ha hx64
  go_enter Tryz.func32, Tryz.ntmps32
  go_wp2_with fail
  refine A.mono ?_; rintro e u ⟨rfl, rfl⟩
  clear A
  go_wp2_with fail
  go_loopw [6, 7] (fun s i wr => RPutAt l n w s i wr) (fun _ i _ => n - (intOf i).toNat)
  case atStart => exact ⟨0, Nat.zero_le _, rfl, rfl, Below.alloc (Below.refl _ _) (Nat.le_refl _) _⟩
  case round =>
    obtain ⟨j, hj, rfl, rfl, hb⟩ := hrel
    have hln := HN.out
    by_cases hlt : j < n
    · obtain ⟨x, hx, hstep, hmem⟩ := take_at (l := l) (j := j) (by omega)
      have hc : wr.cell? ⟨b, off + j, none⟩ = some (.string x) := by rw [hb.cell hr.1]; exact hr.2 j x hx
      have hx64 := HX.out x hmem
      have hcl := cat_le (l := l.take j) (fun s hs => HX.out s (List.mem_of_mem_take hs))
      rw [List.length_take] at hcl
      have hs1 : (bs (UInt8.ofNat n :: cat (l.take j))).size ≤ 1000 := by rw [bs_size, List.length_cons]; omega
      have hnext : bs (UInt8.ofNat n :: cat (l.take j)) ++ x = bs (UInt8.ofNat n :: cat (l.take (j + 1))) := by
        have e0 : bs (UInt8.ofNat n :: cat (l.take j)) ++ x = bs (UInt8.ofNat n :: cat (l.take j)) ++ bs x.data.toList := by rw [bs_toList]
        rw [e0, bs_app, hstep, cat_snoc, List.cons_append]
      have HE := Lib.hid hnext
      generalize bs (UInt8.ofNat n :: cat (l.take j)) = S at hs1 HE ⊢
      clear hcl hnext hstep hmem hx hln
      go_wp2_with fail
      refine ⟨⟨j + 1, by omega, rfl, by rw [← HE.out], hb⟩, ?_⟩
      simp [intOf]; omega
    · obtain rfl : j = n := by omega
      have he : l.take j = l := List.take_of_length_le (by omega)
      have hblk : bs (UInt8.ofNat j :: cat l) = blk l := by unfold blk; rw [hln]
      have hcl := cat_le (l := l) HX.out
      rw [he, hblk]
      have hz : (blk l).size ≤ 1000 := by rw [blk_size]; omega
      clear he hblk hcl hln
      go_wp2_with fail
      refine (rclose_c (blk l) hz _).mono ?_; rintro e u2 ⟨rfl, g⟩
      go_wp2_with fail
      go_ret2
      exact ⟨ret_sb HS.out.symm HP.out.symm, (Gr.of hb).trans g⟩
end Go.Proofs.YtjplkmmhjfpdaaaGreatDoor
/- The contracts of what joins records, and of Put. -/
namespace Go.Proofs.YtjplkmmhjfpdaaaGreatDoor
open Go.RowKit CrcPlain OctPlain FramePlain
set_option linter.unusedVariables false
set_option linter.unusedSimpArgs false
set_option maxRecDepth 20000
theorem joiner_c (size : Int) (w : World) :
    Calls Tryz.prog 192 #[.int .i64 size] w fun e w' => e = .returned (.func (.func 204) #[] #[.pointer (some ⟨w.heap.size, 0, none⟩)]) ∧ w' = w.alloc (.cells #[.int .i64 size] 3) := by
  have hmf : ∀ (fn : Fn) (first cap : Array Value) (w : World), (Instr.makeFunc fn first cap).run Tryz.prog w = .ok (.func fn first cap) w := fun _ _ _ _ => rfl
  go_enter Tryz.func192, Tryz.ntmps192
  go_wp2
  go_ret
  exact ⟨rfl, rfl⟩
def joinS (size : Int) (l : List ByteArray) : ByteArray := if allB size l = true then bs (cat l) else ⟨#[]⟩
theorem joinS_no {size : Int} {l : List ByteArray} (h : allB size l = false) : joinS size l = ⟨#[]⟩ := by simp [joinS, h]
theorem joinS_yes {size : Int} {l : List ByteArray} (h : allB size l = true) : joinS size l = bs (cat l) := by simp [joinS, h]
set_option maxHeartbeats 1000000 in
theorem join1_c (b off cap B n : Nat) (l : List ByteArray) (hn : l.length = n) (size : Int) (hk : I64 size) (hl : n ≤ 4) (hcap : n ≤ cap) (hz : (cat l).length ≤ 1000000) (w : World) (hr : SRow w b off l)
    (hB : B < w.heap.size) (hp : w.cell? ⟨B, 0, none⟩ = some (.int .i64 size)) :
    Calls Tryz.prog 204 #[.slice (some ⟨b, off, none⟩) n cap, .pointer (some ⟨B, 0, none⟩)] w fun e w' => e = .returned (.tuple #[.string (joinS size l), .bool (allB size l)]) ∧ Gr w w' := by
  have HN := Lib.hid hn
  have C := fun w hr => join_c b off cap l w hr (by omega) (by omega) hz
  rw [hn] at C
  clear hn
  go_enter Tryz.func204, Tryz.ntmps204
  go_wp2_with fail
  go_loopw [9] (fun i wr => AllAt size l w i wr) (fun i _ => n - (intOf i).toNat)
  case atStart => exact ⟨0, Nat.zero_le _, rfl, rfl, rfl⟩
  case round =>
    obtain ⟨j, hj, rfl, rfl, hall⟩ := hrel
    have hln := HN.out
    rw [hln] at hj
    by_cases hlt : j < n
    · obtain ⟨x, hx, hstep, hmem⟩ := take_at (l := l) (j := j) (by omega)
      have hc := hr.2 j x hx
      by_cases he : (x.size : Int) = size
      · have hn := allB_snoc size (l.take j) x
        rw [← hstep, hall, he] at hn
        have HA := Lib.hid hn
        have ht : ((x.size : Int) != size) = false := by simpa using he
        clear hn hstep hall hx hmem hln C
        go_wp2_with fail
        refine ⟨⟨j + 1, by have := HN.out; omega, rfl, rfl, by rw [HA.out]; simp⟩, ?_⟩
        simp [intOf]; omega
      · have hf := allB_no hmem he
        have hno := Lib.hid hf
        have hj := Lib.hid (joinS_no hf)
        have ht : ((x.size : Int) != size) = true := by simpa using he
        clear hstep hall hx hmem hln hf C
        go_wp2_with fail
        go_ret2
        exact ⟨ret_sb hj.out.symm hno.out.symm, Gr.refl _⟩
    · obtain rfl : j = n := by omega
      have hf : allB size l = true := by rw [← hln, List.take_length] at hall; exact hall
      have HA := Lib.hid hf
      have HJ := Lib.hid (joinS_yes hf)
      clear hall hf
      go_wp2_with fail
      refine (C _ hr).mono ?_; rintro e u ⟨rfl, g⟩
      go_wp2_with fail
      go_ret2
      exact ⟨ret_sb HJ.out.symm HA.out.symm, g⟩
theorem put1_c (n : Nat) (h : 1 ≤ n ∧ n ≤ 4) (w : World) :
    Calls Tryz.prog 193 #[.int .i64 n, .int .i64 1] w fun e w' => e = .returned (.tuple #[.string (bs [UInt8.ofNat n]), .bool true]) ∧ Gr w w' := by
  have hf : fitsB n 1 = true := by unfold fitsB; rw [decide_eq_true_iff]; refine ⟨by omega, by omega, ?_⟩; show (n : Int) < 256 ^ 1; omega
  have hp : putS n 1 = bs [UInt8.ofNat n] := by
    unfold putS
    rw [if_pos hf]
    show bs ([] ++ [UInt8.ofNat ((n : Int).toNat % 256)]) = _
    rw [Int.toNat_natCast, Nat.mod_eq_of_lt (by omega), List.nil_append]
  have h := put_c n 1 (by unfold I64; omega) (by unfold I64; omega) w
  rw [hf, hp] at h
  exact h
theorem fput_no (a : Option Addr) (cap n : Nat) (l : List ByteArray) (hn : l.length = n) (size : Int) (hk : I64 size) (hn64 : I64 n) (w : World) (h : sizeB size = false ∨ ¬ (1 ≤ n ∧ n ≤ 4)) :
    Calls Tryz.prog 173 #[.int .i64 size, .slice a n cap] w fun e w' => e = .returned (.tuple #[.string (blkS size l), .bool (blkB size l)]) ∧ w = w' := by
  have hp : blkB size l = false := by
    unfold blkB
    rw [hn]
    rcases h with h | h
    · rw [h]; rfl
    · rw [decide_eq_false h, Bool.and_false, Bool.false_and]
  have HS := Lib.hid (blkS_no hp)
  have HP := Lib.hid hp
  clear hp hn
  cases hsz : sizeB size
  · clear h
    go_enter Tryz.func173, Tryz.ntmps173
    go_wp2_with fail
    refine (fsized_c size hk _).mono ?_; rintro e u ⟨rfl, rfl⟩
    go_wp2_with fail
    go_ret2
    exact ⟨ret_sb HS.out.symm HP.out.symm, rfl⟩
  · rw [hsz] at h
    have h4 : decide (1 ≤ (n : Int) ∧ (n : Int) ≤ 4) = false := by rw [decide_eq_false_iff_not]; rcases h with h | h; cases h; omega
    clear h
    go_enter Tryz.func173, Tryz.ntmps173
    go_wp2_with fail
    refine (fsized_c size hk _).mono ?_; rintro e u ⟨rfl, rfl⟩
    go_wp2_with fail
    refine (fblock_c n hn64 _).mono ?_; rintro e u ⟨rfl, rfl⟩
    go_wp2_with fail
    go_ret2
    exact ⟨ret_sb HS.out.symm HP.out.symm, rfl⟩
set_option maxHeartbeats 1000000 in
theorem fput_some (b off cap n : Nat) (l : List ByteArray) (hn : l.length = n) (size : Int) (hk : I64 size) (w : World) (hr : SRow w b off l) (hs : sizeB size = true) (h4 : 1 ≤ n ∧ n ≤ 4) (hcap : n ≤ cap) (hz : ∀ s ∈ l, s.size ≤ 1000) :
    Calls Tryz.prog 173 #[.int .i64 size, .slice (some ⟨b, off, none⟩) n cap] w fun e w' => e = .returned (.tuple #[.string (blkS size l), .bool (blkB size l)]) ∧ Gr w w' := by
  have hcat : (cat l).length ≤ 1000000 := by
    have := cat_le1000 hz
    omega
  have h4' : decide (1 ≤ (n : Int) ∧ (n : Int) ≤ 4) = true := by rw [decide_eq_true_iff]; omega
  have P := put1_c n h4
  obtain ⟨W, hW⟩ : ∃ W, W = w.alloc (.cells #[.int .i64 size] 3) := ⟨_, rfl⟩
  have hg : Gr w W := by rw [hW]; exact Below.alloc (Below.refl _ _) (Nat.le_refl _) _
  have hcell : W.cell? ⟨w.heap.size, 0, none⟩ = some (.int .i64 size) := by rw [hW, World.cell?_alloc_mark]; rfl
  have hlt : w.heap.size < W.heap.size := by rw [hW, World.size_alloc]; omega
  have J := join1_c b off cap w.heap.size n l hn size hk (by omega) hcap hcat W (hr.gr hg) hlt hcell
  have HW := Lib.hid hW
  clear hW hcell hlt
  cases ha : allB size l
  · have hp : blkB size l = false := by unfold blkB; rw [ha, Bool.and_false]
    have HS := Lib.hid (blkS_no hp)
    have HP := Lib.hid hp
    rw [ha] at J
    clear hp ha hn hz
    go_enter Tryz.func173, Tryz.ntmps173
    go_wp2_with fail
    refine (fsized_c size hk _).mono ?_; rintro e u ⟨rfl, rfl⟩
    go_wp2_with fail
    refine (fblock_c n (by unfold I64; omega) _).mono ?_; rintro e u ⟨rfl, rfl⟩
    go_wp2_with fail
    refine (joiner_c size _).mono ?_; rintro e u ⟨rfl, rfl⟩
    rw [← HW.out]
    go_wp2_with fail
    refine J.mono ?_; rintro e u2 ⟨rfl, g2⟩
    go_wp2_with fail
    go_ret2
    exact ⟨ret_sb HS.out.symm HP.out.symm, hg.trans g2⟩
  · have hp : blkB size l = true := by unfold blkB; rw [ha, hs, hn, decide_eq_true h4]; rfl
    have hj := joinS_yes ha
    have HS := Lib.hid (blkS_yes hp)
    have HP := Lib.hid hp
    rw [ha, hj] at J
    have hx64 : ∀ s ∈ l, s.size ≤ 64 := fun s hsl => by
      have := allB_iff.1 ha s hsl
      simp only [sizeB, decide_eq_true_eq] at hs
      omega
    have hcl := cat_le hx64
    have hbz : (blk l).size ≤ 1000 := by rw [blk_size]; omega
    have e1 : bs [UInt8.ofNat n] ++ bs (cat l) = blk l := by unfold blk; rw [bs_app, hn]; rfl
    have s1 : (bs [UInt8.ofNat n]).size = 1 := bs_size _
    have s2 : (bs (cat l)).size ≤ 1000 := by rw [bs_size]; omega
    have C := fun w => close_c (blk l) hbz w
    rw [← e1] at C
    have E := Lib.hid e1
    clear hp ha hn hz hj hx64 hcl hbz hcat e1
    go_enter Tryz.func173, Tryz.ntmps173
    go_wp2_with fail
    refine (fsized_c size hk _).mono ?_; rintro e u ⟨rfl, rfl⟩
    go_wp2_with fail
    refine (fblock_c n (by unfold I64; omega) _).mono ?_; rintro e u ⟨rfl, rfl⟩
    go_wp2_with fail
    refine (joiner_c size _).mono ?_; rintro e u ⟨rfl, rfl⟩
    rw [← HW.out]
    go_wp2_with fail
    refine J.mono ?_; rintro e u2 ⟨rfl, g2⟩
    go_wp2_with fail
    refine (P _).mono ?_; rintro e u3 ⟨rfl, g3⟩
    go_wp2_with fail
    refine (C _).mono ?_; rintro e u4 ⟨rfl, g4⟩
    go_wp2_with fail
    go_ret2
    exact ⟨ret_sb (by rw [E.out, HS.out]) HP.out.symm, ((hg.trans g2).trans g3).trans g4⟩
end Go.Proofs.YtjplkmmhjfpdaaaGreatDoor
/- The contracts of Open and of the document's own Open: by walks of their texts. -/
namespace Go.Proofs.YtjplkmmhjfpdaaaGreatDoor
open Go.RowKit CrcPlain
set_option linter.unusedVariables false
set_option linter.unusedSimpArgs false
set_option maxRecDepth 20000
def ahead (s : ByteArray) : ByteArray := s.extract 0 (s.size - 4)
def opB (s : ByteArray) : Bool := decide (4 ≤ s.size ∧ s.extract (s.size - 4) s.size = bs (tl (more 0 (ahead s).data.toList)))
def opS (s : ByteArray) : ByteArray := if opB s = true then ahead s else ⟨#[]⟩
theorem opS_no {s : ByteArray} (h : opB s = false) : opS s = ⟨#[]⟩ := by simp [opS, h]
theorem opS_yes {s : ByteArray} (h : opB s = true) : opS s = ahead s := by simp [opS, h]
theorem eq_list {a b : ByteArray} : (a.toList == b.toList) = decide (a = b) := by
  apply Bool.eq_iff_iff.2
  simp only [beq_iff_eq, decide_eq_true_iff]
  constructor
  · intro h
    rw [Lib.toList_data, Lib.toList_data] at h
    apply ByteArray.ext; exact Array.toList_inj.1 h
  · intro h; rw [h]
theorem ahead_size (s : ByteArray) (h : 4 ≤ s.size) : (ahead s).size = s.size - 4 := by unfold ahead; rw [ByteArray.size_extract]; omega
set_option maxHeartbeats 1000000 in
theorem open_no (s : ByteArray) (h4 : s.size < 4) (w : World) :
    Calls Tryz.prog 101 #[.string s] w fun e w' => e = .returned (.tuple #[.string (opS s), .bool (opB s)]) ∧ Gr w w' := by
  have hb : opB s = false := by unfold opB; rw [decide_eq_false_iff_not]; omega
  have hs := opS_no hb
  have g1 : decide ((s.size : Int) - 4 < 0) = true := by rw [decide_eq_true_iff]; omega
  have g2 : decide ((s.size : Int) < 4) = true := by rw [decide_eq_true_iff]; omega
  go_enter Tryz.func101, Tryz.ntmps101
  go_wp2_with fail
  go_quiet (fail)
  go_wp2_with fail
  go_ret2
  exact ⟨ret_sb hs.symm hb.symm, grN w nq⟩
set_option maxHeartbeats 1000000 in
theorem open_any (s : ByteArray) (h4 : 4 ≤ s.size) (hz : s.size ≤ 1000) (w : World) :
    Calls Tryz.prog 101 #[.string s] w fun e w' => e = .returned (.tuple #[.string (opS s), .bool (opB s)]) ∧ Gr w w' := by
  have hlen := ahead_size s h4
  have hn := more_lt (sum := 0) (by decide) (ahead s).data.toList
  have C := fun w => of_c (ahead s) (by omega) w
  unfold ahead at C hn
  obtain ⟨k, hk⟩ : ∃ k, k = s.size - 4 := ⟨_, rfl⟩
  have e1 : (s.size : Int) - 4 = (k : Int) := by omega
  have e2 : k ≤ s.size := by omega
  have e3 : decide ((k : Int) < 0) = false := by rw [decide_eq_false_iff_not]; omega
  rw [← hk] at C hn
  obtain ⟨n, hn0⟩ : ∃ n, n = more 0 (s.extract 0 k).data.toList := ⟨_, rfl⟩
  rw [← hn0] at C hn
  have HN := Lib.hid hn0
  clear hn0
  have hs4 : (s.extract 0 k).size ≤ 1000 := by rw [ByteArray.size_extract]; omega
  cases hb : opB s
  · have hs := opS_no hb
    unfold opB ahead at hb
    rw [← hk, ← HN.out] at hb
    have ht : ((s.extract k s.size).toList == (bs (tl n)).toList) = false := by
      rw [eq_list, decide_eq_false_iff_not]; rw [decide_eq_false_iff_not] at hb; intro h; exact hb ⟨h4, h⟩
    have HS := Lib.hid hs
    have HL := Lib.hid hlen
    clear hb hs hlen hk
    go_enter Tryz.func101, Tryz.ntmps101
    go_wp2_with fail
    go_region_held3 (fun w' => True) (trivial) ((first | (go_at_call 123; ((with_reducible refine (C _).mono ?_); rintro e u ⟨rfl, g⟩)) | (go_at_call 122; ((with_reducible refine (tail_c _ hn _).mono ?_); rintro e u2 ⟨rfl, g2⟩))))
    go_wp2_with fail
    go_ret2
    exact ⟨ret_sb HS.out.symm rfl, (Gr.ofDrew g).trans g2⟩
  · have hs := opS_yes hb
    unfold opB ahead at hb
    unfold ahead at hs
    rw [← hk] at hs
    rw [← hk, ← HN.out] at hb
    have ht : ((s.extract k s.size).toList == (bs (tl n)).toList) = true := by
      rw [eq_list, decide_eq_true_iff]; rw [decide_eq_true_iff] at hb; exact hb.2
    have HS := Lib.hid hs
    have HL := Lib.hid hlen
    clear hb hs hlen hk
    go_enter Tryz.func101, Tryz.ntmps101
    go_wp2_with fail
    go_region_held3 (fun w' => True) (trivial) ((first | (go_at_call 123; ((with_reducible refine (C _).mono ?_); rintro e u ⟨rfl, g⟩)) | (go_at_call 122; ((with_reducible refine (tail_c _ hn _).mono ?_); rintro e u2 ⟨rfl, g2⟩))))
    go_wp2_with fail
    refine (clone_c _ _ hs4).mono ?_; rintro e u3 ⟨rfl, g3⟩
    go_wp2_with fail
    go_ret2
    exact ⟨ret_sb HS.out.symm rfl, ((Gr.ofDrew g).trans g2).trans g3⟩
theorem open_c (s : ByteArray) (hz : s.size ≤ 1000) (w : World) :
    Calls Tryz.prog 101 #[.string s] w fun e w' => e = .returned (.tuple #[.string (opS s), .bool (opB s)]) ∧ Gr w w' := by
  by_cases h : s.size < 4
  · exact open_no s h w
  · exact open_any s (by omega) hz w
theorem parts (s : ByteArray) (k : Nat) (h : k ≤ s.size) : s.extract 0 k ++ s.extract k s.size = s := by
  apply ByteArray.ext
  apply Array.toList_inj.1
  simp [ByteArray.data_append]
theorem cl_is (s : ByteArray) (h4 : 4 ≤ s.size) : (cl (ahead s) = s) ↔ opB s = true := by
  have hp := parts s (s.size - 4) (by omega)
  unfold opB cl
  rw [decide_eq_true_iff]
  have ha : ahead s = s.extract 0 (s.size - 4) := rfl
  constructor
  · intro h
    refine ⟨h4, ?_⟩
    have h2 : ahead s ++ bs (tl (more 0 (ahead s).data.toList)) = ahead s ++ s.extract (s.size - 4) s.size := by rw [h, ha, hp]
    have h3 := congrArg (fun x => x.data.toList) h2
    simp only [ByteArray.data_append, Array.toList_append] at h3
    apply ByteArray.ext
    exact (Array.toList_inj.1 (List.append_cancel_left h3)).symm
  · intro h
    rw [← h.2, ha]; exact hp
end Go.Proofs.YtjplkmmhjfpdaaaGreatDoor

/- In one text: Join, FramePut, FrameJoin, FrameEnd, FramePlain2, FrameGet. -/
import Derived.Shelf.Strings.OnBuilder
import Derived.Test.YtignfbdgpgidpaaGreatDoorK24
import Derived.Test.YtignfbdgpgidpaaGreatDoorK14
import Derived.Test.YtignfbdgpgidpaaGreatDoorK11
import Derived.Deep.RegionHeld3
import Derived.IntWalk
import Derived.Test.YtignfbdgpgidpaaGreatDoorK12
import Derived.Test.YtignfbdgpgidpaaGreatDoorK18
/- strings.Join with nothing between: by the library's contract, laid at this program's numbers. -/
namespace Go.Proofs.YtignfbdgpgidpaaGreatDoor
open Go.RowKit FramePlain
set_option linter.unusedVariables false
end Go.Proofs.YtignfbdgpgidpaaGreatDoor
/- The contracts of Room and of what says which sizes and numbers of records may be; the document's All and Put. -/
namespace Go.Proofs.YtignfbdgpgidpaaGreatDoor
open Go.RowKit CrcPlain OctPlain FramePlain
set_option linter.unusedVariables false
set_option linter.unusedSimpArgs false
set_option maxRecDepth 20000
theorem fsized_c (k : Int) (hk : I64 k) (w : World) :
    Calls Tryz.prog 159 #[.int .i64 k] w fun e w' => e = .returned (.bool (sizeB k)) ∧ w = w' := by
  unfold sizeB
  by_cases h1 : 1 ≤ k <;> by_cases h2 : k ≤ 64
  all_goals
    go_enter Tryz.func159, Tryz.ntmps159
    go_wp2
    go_ret
    exact ⟨by simp [h1, h2], rfl⟩
theorem fsroom_c (size n m : Int) (h1 : 1 ≤ size ∧ size ≤ 64) (h2 : 1 ≤ n ∧ n ≤ 4) (hm : n * size = m) (w : World) :
    Calls Tryz.prog 160 #[.int .i64 size, .int .i64 n] w fun e w' => e = .returned (.int .i64 (5 + m)) ∧ w = w' := by
  have hb : 1 ≤ m ∧ m ≤ 256 := by
    have hn : n = 1 ∨ n = 2 ∨ n = 3 ∨ n = 4 := by omega
    rcases hn with rfl | rfl | rfl | rfl <;> omega
  go_enter Tryz.func160, Tryz.ntmps160
  go_wp2
  go_ret
  exact ⟨ret_i (by omega), rfl⟩
theorem room_c (k : Int) (hk : I64 k) (w : World) :
    Calls Tryz.prog 129 #[.int .i64 k] w fun e w' => e = .returned (.int .i64 (roomN k)) ∧ w = w' := by
  cases h : sizeB k
  · go_enter Tryz.func129, Tryz.ntmps129
    go_wp2_with fail
    refine (fsized_c k hk _).mono ?_; rintro e u ⟨rfl, rfl⟩
    go_wp2_with fail
    go_ret
    exact ⟨ret_i (by simp [roomN, h]), rfl⟩
  · have h' := h
    simp only [sizeB, decide_eq_true_eq] at h'
    go_enter Tryz.func129, Tryz.ntmps129
    go_wp2_with fail
    refine (fsized_c k hk _).mono ?_; rintro e u ⟨rfl, rfl⟩
    go_wp2_with fail
    refine (fsroom_c k 4 (4 * k) h' (by omega) rfl _).mono ?_; rintro e u ⟨rfl, rfl⟩
    go_wp2_with fail
    go_ret
    exact ⟨ret_i (by simp [roomN, h]), rfl⟩
def AllAt (size : Int) (l : List ByteArray) (w : World) (i : Value) (wr : World) : Prop := ∃ j : Nat, j ≤ l.length ∧ i = .int .i64 j ∧ wr = w ∧ allB size (l.take j) = true
theorem allB_snoc (size : Int) (l : List ByteArray) (x : ByteArray) : allB size (l ++ [x]) = (allB size l && decide ((x.size : Int) = size)) := by simp [allB]
theorem allB_no {size : Int} {l : List ByteArray} {x : ByteArray} (h : x ∈ l) (hx : ¬ (x.size : Int) = size) : allB size l = false := by
  unfold allB; rw [List.all_eq_false]; exact ⟨x, h, by simpa using hx⟩
theorem retb {a b : Bool} (h : a = b) : Ending.returned (.bool a) = .returned (.bool b) := by rw [h]
set_option maxHeartbeats 1000000 in
theorem all_c (b off cap : Nat) (l : List ByteArray) (size : Int) (hk : I64 size) (hl : l.length ≤ 3000) (w : World) (hr : SRow w b off l) :
    Calls Tryz.prog 72 #[.int .i64 size, .slice (some ⟨b, off, none⟩) l.length cap] w fun e w' => e = .returned (.bool (allB size l)) ∧ w = w' := by
  go_enter Tryz.func72, Tryz.ntmps72
  go_wp2_with fail
  go_loopw [5] (fun i wr => AllAt size l w i wr) (fun i _ => l.length - (intOf i).toNat)
  case atStart => exact ⟨0, Nat.zero_le _, rfl, rfl, rfl⟩
  case round =>
    obtain ⟨j, hj, rfl, rfl, hall⟩ := hrel
    by_cases hlt : j < l.length
    · obtain ⟨x, hx, hstep, hmem⟩ := take_at hlt
      have hc := hr.2 j x hx
      by_cases he : (x.size : Int) = size
      · have hn := allB_snoc size (l.take j) x
        rw [← hstep, hall, he] at hn
        have HN := Lib.hid hn
        have ht : ((x.size : Int) != size) = false := by simpa using he
        clear hn hstep hall hx hmem
        go_wp2
        refine ⟨⟨j + 1, by omega, rfl, rfl, by rw [HN.out]; simp⟩, ?_⟩
        simp [intOf]; omega
      · have hno := Lib.hid (allB_no hmem he)
        have ht : ((x.size : Int) != size) = true := by simpa using he
        clear hstep hall hx hmem
        go_wp2
        go_ret
        exact ⟨retb hno.out.symm, rfl⟩
    · obtain rfl : j = l.length := by omega
      have HA := Lib.hid (show allB size l = true by rw [List.take_length] at hall; exact hall)
      clear hall
      go_wp2
      go_ret
      exact ⟨retb HA.out.symm, rfl⟩
theorem rfput_no (a : Option Addr) (cap n : Nat) (l : List ByteArray) (hn : l.length = n) (size : Int) (hk : I64 size) (w : World) (h : sizeB size = false ∨ ¬ (1 ≤ n ∧ n ≤ 4)) :
    Calls Tryz.prog 73 #[.int .i64 size, .slice a n cap] w fun e w' => e = .returned (.tuple #[.string (blkS size l), .bool (blkB size l)]) ∧ w = w' := by
  have hp : blkB size l = false := by
    unfold blkB
    rw [hn]
    rcases h with h | h
    · rw [h]; rfl
    · rw [decide_eq_false h, Bool.and_false, Bool.false_and]
  have HS := Lib.hid (blkS_no hp)
  have HP := Lib.hid hp
  clear hp hn
  unfold I64 at hk
  by_cases h1 : size < 1
  · clear h
    go_enter Tryz.func73, Tryz.ntmps73
    go_wp2_with fail
    go_ret2
    exact ⟨ret_sb HS.out.symm HP.out.symm, rfl⟩
  · by_cases h2 : 64 < size
    · clear h
      go_enter Tryz.func73, Tryz.ntmps73
      go_wp2_with fail
      go_ret2
      exact ⟨ret_sb HS.out.symm HP.out.symm, rfl⟩
    · have h' : ¬ (1 ≤ n ∧ n ≤ 4) := by
        rcases h with h | h
        · unfold sizeB at h; rw [decide_eq_false_iff_not] at h; omega
        · exact h
      clear h
      by_cases h3 : (n : Int) < 1
      · clear h'
        go_enter Tryz.func73, Tryz.ntmps73
        go_wp2_with fail
        go_ret2
        exact ⟨ret_sb HS.out.symm HP.out.symm, rfl⟩
      · have h4 : (4 : Int) < n := by omega
        clear h'
        go_enter Tryz.func73, Tryz.ntmps73
        go_wp2_with fail
        go_ret2
        exact ⟨ret_sb HS.out.symm HP.out.symm, rfl⟩
theorem rfput_mid (b off cap n : Nat) (l : List ByteArray) (hn : l.length = n) (size : Int) (hk : I64 size) (w : World) (hr : SRow w b off l) (h : sizeB size = true) (h4 : 1 ≤ n ∧ n ≤ 4) (ha : allB size l = false) :
    Calls Tryz.prog 73 #[.int .i64 size, .slice (some ⟨b, off, none⟩) n cap] w fun e w' => e = .returned (.tuple #[.string (blkS size l), .bool (blkB size l)]) ∧ w = w' := by
  have hp : blkB size l = false := by unfold blkB; rw [ha, Bool.and_false]
  have HS := Lib.hid (blkS_no hp)
  have HP := Lib.hid hp
  have A := all_c b off cap l size hk (by omega) w hr
  rw [ha, hn] at A
  simp only [sizeB, decide_eq_true_eq] at h
  have k1 : ¬ (n : Int) < 1 := by omega
  have k2 : ¬ (4 : Int) < n := by omega
  clear hp hn
  go_enter Tryz.func73, Tryz.ntmps73
  go_wp2_with fail
  refine A.mono ?_; rintro e u ⟨rfl, rfl⟩
  go_wp2_with fail
  go_ret2
  exact ⟨ret_sb HS.out.symm HP.out.symm, rfl⟩
def RPutAt (l : List ByteArray) (n : Nat) (w : World) (s i : Value) (wr : World) : Prop := ∃ j : Nat, j ≤ n ∧ i = .int .i64 j ∧ s = .string (bs (UInt8.ofNat n :: cat (l.take j))) ∧ Below w.heap.size w wr
set_option maxHeartbeats 2000000 in
theorem rfput_yes (b off cap n : Nat) (l : List ByteArray) (hn : l.length = n) (size : Int) (hk : I64 size) (w : World) (hr : SRow w b off l) (h : sizeB size = true) (h4 : 1 ≤ n ∧ n ≤ 4) (ha : allB size l = true) :
    Calls Tryz.prog 73 #[.int .i64 size, .slice (some ⟨b, off, none⟩) n cap] w fun e w' => e = .returned (.tuple #[.string (blkS size l), .bool (blkB size l)]) ∧ Gr w w' := by
  have hp : blkB size l = true := by unfold blkB; rw [ha, h, hn, decide_eq_true h4]; rfl
  have HS := Lib.hid (blkS_yes hp)
  have HP := Lib.hid hp
  have A := all_c b off cap l size hk (by omega) w hr
  rw [ha, hn] at A
  simp only [sizeB, decide_eq_true_eq] at h
  have k1 : ¬ (n : Int) < 1 := by omega
  have k2 : ¬ (4 : Int) < n := by omega
  have hx64 : ∀ s ∈ l, s.size ≤ 64 := fun s hs => by have := allB_iff.1 ha s hs; omega
  have hc1 := fun u => conv1 u (n : Int) (by omega) (by omega)
  rw [Int.toNat_natCast] at hc1
  have HN := Lib.hid hn
  have HX := Lib.hid hx64
  clear hp hn ha hx64
  go_enter Tryz.func73, Tryz.ntmps73
  go_wp2_with fail
  refine A.mono ?_; rintro e u ⟨rfl, rfl⟩
  clear A
  go_wp2_with fail
  go_loopw [6, 7] (fun s i wr => RPutAt l n w s i wr) (fun _ i _ => n - (intOf i).toNat)
  case atStart => exact ⟨0, Nat.zero_le _, rfl, rfl, Below.alloc (Below.refl _ _) (Nat.le_refl _) _⟩
  case round =>
    obtain ⟨j, hj, rfl, rfl, hb⟩ := hrel
    have hln := HN.out
    by_cases hlt : j < n
    · obtain ⟨x, hx, hstep, hmem⟩ := take_at (l := l) (j := j) (by omega)
      have hc : wr.cell? ⟨b, off + j, none⟩ = some (.string x) := by rw [hb.cell hr.1]; exact hr.2 j x hx
      have hx64 := HX.out x hmem
      have hcl := cat_le (l := l.take j) (fun s hs => HX.out s (List.mem_of_mem_take hs))
      rw [List.length_take] at hcl
      have hs1 : (bs (UInt8.ofNat n :: cat (l.take j))).size ≤ 1000 := by rw [bs_size, List.length_cons]; omega
      have hnext : bs (UInt8.ofNat n :: cat (l.take j)) ++ x = bs (UInt8.ofNat n :: cat (l.take (j + 1))) := by
        have e0 : bs (UInt8.ofNat n :: cat (l.take j)) ++ x = bs (UInt8.ofNat n :: cat (l.take j)) ++ bs x.data.toList := by rw [bs_toList]
        rw [e0, bs_app, hstep, cat_snoc, List.cons_append]
      have HE := Lib.hid hnext
      generalize bs (UInt8.ofNat n :: cat (l.take j)) = S at hs1 HE ⊢
      clear hcl hnext hstep hmem hx hln
      go_wp2_with fail
      refine ⟨⟨j + 1, by omega, rfl, by rw [← HE.out], hb⟩, ?_⟩
      simp [intOf]; omega
    · obtain rfl : j = n := by omega
      have he : l.take j = l := List.take_of_length_le (by omega)
      have hblk : bs (UInt8.ofNat j :: cat l) = blk l := by unfold blk; rw [hln]
      have hcl := cat_le (l := l) HX.out
      rw [he, hblk]
      have hz : (blk l).size ≤ 1000 := by rw [blk_size]; omega
      clear he hblk hcl hln
      go_wp2_with fail
      refine (rclose_c (blk l) hz _).mono ?_; rintro e u2 ⟨rfl, g⟩
      go_wp2_with fail
      go_ret2
      exact ⟨ret_sb HS.out.symm HP.out.symm, (Gr.of hb).trans g⟩
end Go.Proofs.YtignfbdgpgidpaaGreatDoor
/- The contracts of what joins records, and of Put. -/
namespace Go.Proofs.YtignfbdgpgidpaaGreatDoor
open Go.RowKit CrcPlain OctPlain FramePlain
set_option linter.unusedVariables false
set_option linter.unusedSimpArgs false
set_option maxRecDepth 20000
end Go.Proofs.YtignfbdgpgidpaaGreatDoor
/- The contracts of PutEnd, and of the document's. -/
namespace Go.Proofs.YtignfbdgpgidpaaGreatDoor
open Go.RowKit CrcPlain OctPlain FramePlain
set_option linter.unusedVariables false
set_option linter.unusedSimpArgs false
set_option maxRecDepth 20000
namespace FramePlain
def endS (c m : Nat) : ByteArray := bs (0 :: (beL 8 c ++ beL 4 m))
def peB (c : Int) : Bool := decide (0 ≤ c ∧ c ≤ 4611686018427387904)
def peS (c : Int) (m : Nat) : ByteArray := if peB c = true then cl (endS c.toNat m) else ⟨#[]⟩
theorem peS_no {c : Int} {m : Nat} (h : peB c = false) : peS c m = ⟨#[]⟩ := by simp [peS, h]
theorem peS_yes {c : Int} {m : Nat} (h : peB c = true) : peS c m = cl (endS c.toNat m) := by simp [peS, h]
theorem endS_size (c m : Nat) : (endS c m).size = 13 := by unfold endS; rw [bs_size, List.length_cons, List.length_append, beL_length, beL_length]
theorem fits8 {c : Int} (hc : I64 c) : fitsB c 8 = decide (0 ≤ c) := by
  unfold fitsB I64 at *
  apply decide_eq_decide.2
  constructor
  · intro h; omega
  · intro h; refine ⟨by omega, h, ?_⟩; show c < 256 ^ 8; omega
theorem fits4 {m : Nat} (hm : m < 4294967296) : fitsB (m : Int) 4 = true := by
  unfold fitsB
  rw [decide_eq_true_iff]
  refine ⟨by omega, by omega, ?_⟩; show (m : Int) < 256 ^ 4; omega
theorem put8 {c : Int} (hc : I64 c) (h : 0 ≤ c) : putS c 8 = bs (beL 8 c.toNat) := by
  unfold putS; rw [fits8 hc, if_pos (by simpa using h)]; rfl
theorem put4 {m : Nat} (hm : m < 4294967296) : putS (m : Int) 4 = bs (beL 4 m) := by
  unfold putS; rw [if_pos (fits4 hm), Int.toNat_natCast]; rfl
theorem end_app (c m : Nat) : ByteArray.mk #[0] ++ bs (beL 8 c) ++ bs (beL 4 m) = endS c m := by
  show bs [0] ++ _ ++ _ = _
  rw [bs_app, bs_app]; rfl
end FramePlain
theorem must_c (n k : Int) (hn : I64 n) (hk : I64 k) (w : World) :
    Calls Tryz.prog 107 #[.int .i64 n, .int .i64 k] w fun e w' => e = .returned (.string (putS n k)) ∧ Gr w w' := by
  go_enter Tryz.func107, Tryz.ntmps107
  go_wp2_with fail
  refine (rput_c n k hn hk _).mono ?_; rintro e u ⟨rfl, g⟩
  go_wp2_with fail
  go_ret
  exact ⟨rfl, g⟩
set_option maxHeartbeats 2000000 in
theorem rfputend_c (c : Int) (hc : I64 c) (m : Nat) (hm : m < 4294967296) (w : World) :
    Calls Tryz.prog 74 #[.agg #[.int .i64 c, .int .u32 (m : Int)]] w fun e w' => e = .returned (.tuple #[.string (peS c m), .bool (peB c)]) ∧ Gr w w' := by
  obtain ⟨W, hW⟩ : ∃ W, W = w.alloc (.cells #[.int .i64 c, .int .u32 (m : Int)] 50) := ⟨_, rfl⟩
  have hg : Gr w W := by rw [hW]; exact Below.alloc (Below.refl _ _) (Nat.le_refl _) _
  have hlt : w.heap.size < W.heap.size := by rw [hW, World.size_alloc]; omega
  have hS : ∀ u, Gr W u → Gr W u ∧ u.cell? ⟨w.heap.size, 0, none⟩ = some (.int .i64 c) ∧ u.cell? ⟨w.heap.size, 1, none⟩ = some (.int .u32 (m : Int)) := by
    intro u g
    refine ⟨g, ?_, ?_⟩
    · rw [Below.cell g (p := ⟨w.heap.size, 0, none⟩) hlt, hW, World.cell?_alloc_mark]; rfl
    · rw [Below.cell g (p := ⟨w.heap.size, 1, none⟩) hlt, hW, World.cell?_alloc_mark]; rfl
  have H := Lib.hid hS
  have HW := Lib.hid hW
  obtain ⟨_, c0, c1⟩ := hS _ (Gr.refl _)
  clear hS hW
  have hc' := hc
  unfold I64 at hc'
  by_cases h0 : c < 0
  · have hb : peB c = false := by unfold peB; rw [decide_eq_false_iff_not]; omega
    have HB := Lib.hid hb
    have HS := Lib.hid (peS_no (m := m) hb)
    clear hb
    go_enter Tryz.func74, Tryz.ntmps74
    go_wp2_with fail
    go_ret2
    exact ⟨ret_sb HS.out.symm HB.out.symm, by rw [← HW.out]; exact hg⟩
  · by_cases h2 : 4611686018427387904 < c
    · have hb : peB c = false := by unfold peB; rw [decide_eq_false_iff_not]; omega
      have HB := Lib.hid hb
      have HS := Lib.hid (peS_no (m := m) hb)
      clear hb
      go_enter Tryz.func74, Tryz.ntmps74
      go_wp2_with fail
      go_ret2
      exact ⟨ret_sb HS.out.symm HB.out.symm, by rw [← HW.out]; exact hg⟩
    · have hb : peB c = true := by unfold peB; rw [decide_eq_true_iff]; omega
      have HB := Lib.hid hb
      have HS := Lib.hid (peS_yes (m := m) hb)
      have e1 := end_app c.toNat m
      have hz := endS_size c.toNat m
      have s1 : (bs (beL 8 c.toNat)).size = 8 := by rw [bs_size, beL_length]
      have s2 : (bs (beL 4 m)).size = 4 := by rw [bs_size, beL_length]
      have M8 : ∀ u, Gr W u → Calls Tryz.prog 107 #[.int .i64 c, .int .i64 8] u fun e w' => e = .returned (.string (bs (beL 8 c.toNat))) ∧ Gr W w' ∧ w'.cell? ⟨w.heap.size, 0, none⟩ = some (.int .i64 c) ∧ w'.cell? ⟨w.heap.size, 1, none⟩ = some (.int .u32 (m : Int)) := by
        intro u g
        refine (must_c c 8 hc (by unfold I64; omega) u).mono ?_
        rintro e u2 ⟨rfl, g2⟩
        exact ⟨by rw [put8 hc (by omega)], H.out _ (g.trans g2)⟩
      have M4 : ∀ u, Gr W u → Calls Tryz.prog 107 #[.int .i64 (m : Int), .int .i64 4] u fun e w' => e = .returned (.string (bs (beL 4 m))) ∧ Gr W w' ∧ w'.cell? ⟨w.heap.size, 0, none⟩ = some (.int .i64 c) ∧ w'.cell? ⟨w.heap.size, 1, none⟩ = some (.int .u32 (m : Int)) := by
        intro u g
        refine (must_c m 4 (by unfold I64; omega) (by unfold I64; omega) u).mono ?_
        rintro e u2 ⟨rfl, g2⟩
        exact ⟨by rw [put4 hm], H.out _ (g.trans g2)⟩
      have C : ∀ u, Gr W u → Calls Tryz.prog 106 #[.string (ByteArray.mk #[0] ++ bs (beL 8 c.toNat) ++ bs (beL 4 m))] u fun e w' => e = .returned (.string (cl (endS c.toNat m))) ∧ Gr W w' ∧ w'.cell? ⟨w.heap.size, 0, none⟩ = some (.int .i64 c) ∧ w'.cell? ⟨w.heap.size, 1, none⟩ = some (.int .u32 (m : Int)) := by
        intro u g
        rw [e1]
        refine (rclose_c (endS c.toNat m) (by omega) u).mono ?_
        rintro e u2 ⟨rfl, g2⟩
        exact ⟨rfl, H.out _ (g.trans g2)⟩
      have hw1 : IntKind.i64.wrap (m : Int) = (m : Int) := IntWalk.i64_in _ (by omega)
      have hw2 : wrap64 (m : Int) = (m : Int) := IntWalk.wrap64_in _ (by omega)
      have gW := Gr.refl W
      have gWd : Gr W W.drew := Below.drew gW
      clear hb hz e1
      generalize bs (beL 8 c.toNat) = x8 at M8 C s1
      generalize bs (beL 4 m) = x4 at M4 C s2
      go_enter Tryz.func74, Tryz.ntmps74
      go_wp2_with fail
      rw [← HW.out]
      go_region_held3 (fun w' => Gr W w' ∧ w'.cell? ⟨w.heap.size, 0, none⟩ = some (.int .i64 c) ∧ w'.cell? ⟨w.heap.size, 1, none⟩ = some (.int .u32 (m : Int)))
        (first | exact H.out _ (Below.drew (by assumption)) | exact H.out _ (by assumption) | go_keep)
        ((first
          | (go_at_call 107; (with_reducible refine (M8 _ (by assumption)).mono ?_); rintro e u ⟨rfl, gu, cu0, cu1⟩)
          | (go_at_call 107; (with_reducible refine (M4 _ (by assumption)).mono ?_); rintro e u ⟨rfl, gu, cu0, cu1⟩)
          | (go_at_call 106; (with_reducible refine (C _ (by assumption)).mono ?_); rintro e u ⟨rfl, gu, cu0, cu1⟩)))
      go_wp2_with fail
      go_ret2
      exact ⟨ret_sb HS.out.symm HB.out.symm, hg.trans gu⟩
end Go.Proofs.YtignfbdgpgidpaaGreatDoor
/- Plain facts on what the bytes of a block say. -/
namespace Go.Proofs.YtignfbdgpgidpaaGreatDoor
open Go.RowKit CrcPlain OctPlain FramePlain
set_option linter.unusedVariables false
set_option linter.unusedSimpArgs false
set_option maxRecDepth 20000
namespace FramePlain
def cntN (s : ByteArray) : Nat := num (cutL s 0 1)
def gLen (size : Int) (s : ByteArray) : Int := 5 + cntN s * size
def gB (size : Int) (s : ByteArray) : Bool := sizeB size && decide (1 ≤ cntN s ∧ cntN s ≤ 4) && decide (gLen size s ≤ s.size) && opB (s.extract 0 (gLen size s).toNat)
def gN (size : Int) (s : ByteArray) : Int := if gB size s = true then gLen size s else 0
def gBody (size : Int) (s : ByteArray) : ByteArray := (opS (s.extract 0 (gLen size s).toNat)).extract 1 (opS (s.extract 0 (gLen size s).toNat)).size
def gL (size : Int) (s : ByteArray) : List ByteArray := if gB size s = true then splL (gBody size s) size else []
theorem gN_no {size : Int} {s : ByteArray} (h : gB size s = false) : gN size s = 0 := by simp [gN, h]
theorem gL_no {size : Int} {s : ByteArray} (h : gB size s = false) : gL size s = [] := by simp [gL, h]
theorem gN_yes {size : Int} {s : ByteArray} (h : gB size s = true) : gN size s = gLen size s := by simp [gN, h]
theorem gL_yes {size : Int} {s : ByteArray} (h : gB size s = true) : gL size s = splL (gBody size s) size := by simp [gL, h]
theorem cntN_lt (s : ByteArray) : cntN s < 256 := by
  have h := num_lt (cutL s 0 1)
  have hl : (cutL s 0 1).length ≤ 1 := by unfold cutL; rw [List.length_take]; omega
  have hp : 256 ^ (cutL s 0 1).length ≤ 256 ^ 1 := Nat.pow_le_pow_right (by omega) hl
  unfold cntN
  omega
theorem cntN_at (s : ByteArray) (h : 0 < s.size) : s[0].toNat = cntN s := by
  have e := cutL_take s 0 1 0 (by omega) (by omega)
  have hl := cutL_length s 0 1 (by omega)
  rw [List.take_of_length_le (by omega)] at e
  unfold cntN
  rw [e]
  simp [num]
end FramePlain
end Go.Proofs.YtignfbdgpgidpaaGreatDoor
/- The contracts of what cuts bytes into records, and of Get. -/
namespace Go.Proofs.YtignfbdgpgidpaaGreatDoor
open Go.RowKit CrcPlain OctPlain FramePlain
set_option linter.unusedVariables false
set_option linter.unusedSimpArgs false
set_option maxRecDepth 20000
theorem slice_to (s : ByteArray) (n : Nat) (h : n ≤ s.size) (w : World) :
    (Instr.slice 9 (.string s) none (some (.int .i64 (n : Int))) none).run Tryz.prog w = .ok (.string (s.extract 0 n)) w := by
  rw [run_slice_string_to_if w 9 s .i64 (n : Int) Tryz.underlying9, if_pos ⟨by omega, by omega⟩, Int.toNat_natCast]
theorem gLen_nat {size : Int} {s : ByteArray} (hs : 1 ≤ size ∧ size ≤ 64) (hc : 1 ≤ cntN s ∧ cntN s ≤ 4) : ∃ n : Nat, gLen size s = n ∧ 6 ≤ n ∧ n ≤ 261 := by
  obtain ⟨m, rfl⟩ : ∃ m : Nat, size = m := ⟨size.toNat, by omega⟩
  unfold gLen
  refine ⟨5 + cntN s * m, by rw [Int.natCast_add, Int.natCast_mul]; rfl, ?_⟩
  generalize cntN s = c at hc
  have h1 : c = 1 ∨ c = 2 ∨ c = 3 ∨ c = 4 := by omega
  rcases h1 with rfl | rfl | rfl | rfl <;> omega
end Go.Proofs.YtignfbdgpgidpaaGreatDoor

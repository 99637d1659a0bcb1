/- In one text: RecPlain2, RecHead, Bud, RdPlain. -/
import Derived.Test.YtignfbdgpgidpaaGreatDoorK27
import Derived.Test.YtignfbdgpgidpaaGreatDoorK01
import Derived.RegionTactic
import Derived.ChangeAlike
import Derived.Deep.QuietTactic
import Derived.BigQuiet
import Derived.Test.YtignfbdgpgidpaaGreatDoorK00
import Derived.Test.YtignfbdgpgidpaaGreatDoorK26
/- Plain facts: what Get reads is a block; what blocks and an end are of a file. -/
namespace Go.Proofs.YtignfbdgpgidpaaGreatDoor
open Go.RowKit CrcPlain OctPlain FramePlain RecPlain
set_option linter.unusedVariables false
set_option linter.unusedSimpArgs false
set_option maxRecDepth 20000
namespace RecPlain
theorem pieces_size {s : ByteArray} {m : Nat} : ∀ j, j * m ≤ s.size → ∀ x ∈ pieces s m j, x.size = m
  | 0, _, x, hx => by simp [pieces] at hx
  | j + 1, h, x, hx => by
    have hj : j * m + m ≤ s.size := by rw [Nat.add_mul, Nat.one_mul] at h; exact h
    rw [pieces, List.mem_append] at hx
    rcases hx with hx | hx
    · exact pieces_size j (by omega) x hx
    · simp at hx; subst hx; rw [ByteArray.size_extract]; omega
theorem cat_pieces {s : ByteArray} {m : Nat} : ∀ j, j * m ≤ s.size → cat (pieces s m j) = s.data.toList.take (j * m)
  | 0, _ => by simp [pieces, cat]
  | j + 1, h => by
    have hj : j * m + m ≤ s.size := by rw [Nat.add_mul, Nat.one_mul] at h; exact h
    rw [pieces, cat_snoc, cat_pieces j (by omega), extract_data, List.drop_take, Nat.add_mul, Nat.one_mul, List.take_add]
    congr 2
    omega
theorem cl_of {s : ByteArray} (h : opB s = true) : cl (ahead s) = s ∧ 4 ≤ s.size := by
  have h4 : 4 ≤ s.size := by unfold opB at h; rw [decide_eq_true_iff] at h; exact h.1
  exact ⟨(cl_is s h4).2 h, h4⟩
theorem get_is {size : Int} {s : ByteArray} (h : gB size s = true) :
    blkB size (gL size s) = true ∧ ∃ n : Nat, gN size s = n ∧ n ≤ s.size ∧ 6 ≤ n ∧ s.extract 0 n = cl (blk (gL size s)) := by
  have hN := gN_yes h
  have hL := gL_yes h
  have hh := h
  unfold gB at hh
  simp only [Bool.and_eq_true, decide_eq_true_eq] at hh
  obtain ⟨⟨⟨h1, h2⟩, h3⟩, h4⟩ := hh
  have h1' := h1
  simp only [sizeB, decide_eq_true_eq] at h1'
  obtain ⟨n, hn, hn6, hn261⟩ := gLen_nat h1' h2
  obtain ⟨m, hm⟩ : ∃ m : Nat, size = m := ⟨size.toNat, by omega⟩
  have hnm : 5 + cntN s * m = n := by
    unfold gLen at hn
    rw [hm] at hn
    have : ((5 + cntN s * m : Nat) : Int) = (n : Int) := by rw [Int.natCast_add, Int.natCast_mul]; exact hn
    omega
  have hbody : gBody size s = (opS (s.extract 0 n)).extract 1 (opS (s.extract 0 n)).size := by unfold gBody; rw [hn, Int.toNat_natCast]
  rw [hn, Int.toNat_natCast] at h4
  rw [hn] at h3
  have hxs : (s.extract 0 n).size = n := by rw [ByteArray.size_extract]; omega
  obtain ⟨hcl, _⟩ := cl_of h4
  rw [opS_yes h4] at hbody
  have has : (ahead (s.extract 0 n)).size = n - 4 := by rw [ahead_size _ (by omega), hxs]
  have hbs : (gBody size s).size = cntN s * m := by rw [hbody, ByteArray.size_extract, has]; omega
  have hsp : splB (gBody size s) size = true := by
    unfold splB
    rw [decide_eq_true_iff, hbs, hm, Int.natCast_mul]
    exact ⟨by omega, Int.mul_emod_left _ _⟩
  have hLL : gL size s = pieces (gBody size s) m (cntN s) := by
    rw [hL, splL_yes hsp, hbs, hm, Int.toNat_natCast, Nat.mul_div_cancel _ (by omega)]
  have hlen : (gL size s).length = cntN s := by rw [hLL, pieces_length]
  have hsz := pieces_size (s := gBody size s) (m := m) (cntN s) (by omega)
  have hcat := cat_pieces (s := gBody size s) (m := m) (cntN s) (by omega)
  rw [← hLL] at hsz hcat
  refine ⟨?_, n, by rw [hN, hn], by omega, hn6, ?_⟩
  · unfold blkB
    rw [h1, hlen, decide_eq_true h2, Bool.true_and, Bool.true_and]
    exact allB_iff.2 fun x hx => by rw [hsz x hx, hm]
  · have hb : blk (gL size s) = ahead (s.extract 0 n) := by
      apply ext_toList
      rw [blk_data, hlen, hcat, List.take_of_length_le (by rw [data_length]; omega), hbody, extract_data, List.take_of_length_le (by rw [data_length]; omega)]
      have h0 : 0 < s.size := by omega
      have hc := cntN_at s h0
      have hne : (ahead (s.extract 0 n)).data.toList = s.data.toList.take (n - 4) := by
        rw [ahead_data, extract_data, hxs, List.drop_zero, List.take_take, Nat.min_eq_left (by omega)]
      have hcons : s.data.toList = s[0] :: s.data.toList.drop 1 := by
        have := List.drop_eq_getElem_cons (l := s.data.toList) (i := 0) (by rw [data_length]; exact h0)
        rw [List.drop_zero] at this
        exact this
      rw [hne, hcons, show n - 4 = (n - 5) + 1 by omega, List.take_succ_cons, List.drop_succ_cons, List.drop_zero, ← hc]
      simp
    rw [hb, hcl]
theorem get_split {size : Int} {s : ByteArray} (h : gB size s = true) : ∃ n : Nat, gN size s = n ∧ n ≤ s.size ∧ 6 ≤ n ∧ s.data.toList = (cl (blk (gL size s))).data.toList ++ (s.extract n s.size).data.toList := by
  obtain ⟨_, n, h1, h2, h3, h4⟩ := get_is h
  refine ⟨n, h1, h2, h3, ?_⟩
  have e : s.data.toList.take s.size = s.data.toList := List.take_of_length_le (by rw [data_length]; omega)
  rw [← h4, extract_data, extract_data, e, List.drop_zero, List.take_append_drop]
theorem end_is {s : ByteArray} (h : eB s = true) : ∃ c m : Nat, eC s = c ∧ eM s = m ∧ m < 4294967296 ∧ s = cl (endS c m) := by
  have hC := eC_yes h
  have hM := eM_yes h
  unfold eB at h
  simp only [Bool.and_eq_true, decide_eq_true_eq] at h
  obtain ⟨⟨⟨h1, h2⟩, h3⟩, h4, h5⟩ := h
  obtain ⟨m, hm, hm2, hm3, _⟩ := get4_lt s (by omega)
  obtain ⟨c, hc, hc2⟩ := get8_yes h4
  refine ⟨c, m, by rw [hC, hc], by rw [hM, hm2], hm, ?_⟩
  rw [hc2, hm3, ahead_end s h1 h2]
  exact (cl_of h3).1.symm
def tailB (l : List ByteArray) (r : ByteArray) : Bool := eB r && decide (eC r = l.length) && decide (eM r = (sumN l : Nat))
theorem peB_ok {n : Nat} (h : n ≤ 1000000) : peB (n : Int) = true := by unfold peB; rw [decide_eq_true_iff]; omega
theorem tail_iff {l : List ByteArray} (hl : l.length ≤ 1000000) (r : ByteArray) : tailB l r = true ↔ r.data.toList = endL l := by
  have hp := peB_ok hl
  obtain ⟨b1, b2, b3⟩ := end_back (n := (l.length : Int)) (m := sumN l) hp (sumN_lt l)
  rw [Int.toNat_natCast] at b1 b2 b3
  unfold tailB endL
  constructor
  · intro h
    simp only [Bool.and_eq_true, decide_eq_true_eq] at h
    obtain ⟨⟨h1, h2⟩, h3⟩ := h
    obtain ⟨c, m, e1, e2, _, e4⟩ := end_is h1
    have : c = l.length := by omega
    have : m = sumN l := by omega
    subst c m
    rw [← e4]
  · intro h
    have := ext_toList h
    subst this
    rw [b1, b2, b3]
    simp
theorem file_of {size : Int} {s : ByteArray} {ps : List (List ByteArray)} {r : ByteArray} (hs : sizeB size = true) (hp : ∀ p ∈ ps, blkB size p = true) (hf : Full ps) (he : s.data.toList = (headS size).data.toList ++ (blks ps ++ r.data.toList)) (hl : ps.flatten.length ≤ 1000000)
    (ht : tailB ps.flatten r = true) : IsFile size s ps.flatten := by
  have hB : layB size ps.flatten = true := by
    unfold layB
    rw [hs, Bool.true_and]
    refine allB_iff.2 fun x hx => ?_
    obtain ⟨p, h1, h2⟩ := List.mem_flatten.1 hx
    exact (blk_parts (hp p h1)).2.2 x h2
  refine ⟨hB, ?_⟩
  rw [he, (tail_iff hl r).1 ht]
  unfold layL
  rw [full_ups hf (fun p h => (blk_parts (hp p h)).2.1)]
end RecPlain
end Go.Proofs.YtignfbdgpgidpaaGreatDoor
/- Contracts of a file's head: both PutHeads, both GetHeads. -/
namespace Go.Proofs.YtignfbdgpgidpaaGreatDoor
open Go.RowKit CrcPlain OctPlain FramePlain RecPlain
set_option linter.unusedVariables false
set_option linter.unusedSimpArgs false
set_option maxRecDepth 20000
theorem rsized_c (k : Int) (hk : I64 k) (w : World) :
    Calls Tryz.prog 153 #[.int .i64 k] w fun e w' => e = .returned (.bool (sizeB k)) ∧ w = w' := by
  have hr : 0 ≤ roomN k ∧ decide (0 < roomN k) = sizeB k := by
    unfold roomN
    cases hs : sizeB k
    · exact ⟨by simp, rfl⟩
    · have h := hs
      simp only [sizeB, decide_eq_true_eq] at h
      rw [if_pos rfl]
      exact ⟨by omega, decide_eq_true (by omega)⟩
  have R := fun w => room_c k hk w
  generalize roomN k = r at R hr
  obtain ⟨h0, hr⟩ := hr
  have HR := Lib.hid hr
  clear hr
  go_enter Tryz.func153, Tryz.ntmps153
  go_wp2_with fail
  refine (R _).mono ?_; rintro e u ⟨rfl, rfl⟩
  go_wp2_with fail
  go_ret
  exact ⟨retb HR.out, rfl⟩
theorem head_app (m : Int) : ByteArray.mk #[67, 72, 65, 73, 78, 49] ++ bs [UInt8.ofNat m.toNat] = bs (nameL ++ [UInt8.ofNat m.toNat]) := by
  have : ByteArray.mk #[67, 72, 65, 73, 78, 49] = bs nameL := rfl
  rw [this, bs_app]
set_option maxHeartbeats 1000000 in
theorem puthead_c (k : Int) (hk : I64 k) (w : World) :
    Calls Tryz.prog 188 #[.int .i64 k] w fun e w' => e = .returned (.tuple #[.string (headR k), .bool (sizeB k)]) ∧ Gr w w' := by
  have R := fun w => rsized_c k hk w
  cases hs : sizeB k
  · rw [hs] at R
    have HR := Lib.hid (headR_no hs)
    clear hs
    go_enter Tryz.func188, Tryz.ntmps188
    go_wp2_with fail
    refine (R _).mono ?_; rintro e u ⟨rfl, rfl⟩
    go_wp2_with fail
    go_ret2
    exact ⟨ret_sb HR.out.symm rfl, Gr.refl _⟩
  · rw [hs] at R
    have HR := Lib.hid (headR_yes hs)
    simp only [sizeB, decide_eq_true_eq] at hs
    have hc1 := fun u => conv1 u k (by omega) (by omega)
    have s1 : (bs [UInt8.ofNat k.toNat]).size = 1 := bs_size _
    have C := fun w => close_c (bs (nameL ++ [UInt8.ofNat k.toNat])) (by rw [bs_size]; simp [nameL]) w
    rw [← head_app] at C
    have E := Lib.hid (head_app k)
    go_enter Tryz.func188, Tryz.ntmps188
    go_wp2_with fail
    refine (R _).mono ?_; rintro e u ⟨rfl, rfl⟩
    go_wp2_with fail
    refine (C _).mono ?_; rintro e u2 ⟨rfl, g2⟩
    go_wp2_with fail
    go_ret2
    exact ⟨ret_sb (by rw [HR.out, E.out]; rfl) rfl, Gr.trans (Below.alloc (Below.refl _ _) (Nat.le_refl _) _) g2⟩
set_option maxHeartbeats 1000000 in
theorem rputhead_c (k : Int) (hk : I64 k) (w : World) :
    Calls Tryz.prog 71 #[.int .i64 k] w fun e w' => e = .returned (.tuple #[.string (headR k), .bool (sizeB k)]) ∧ Gr w w' := by
  cases hs : sizeB k
  · have HR := Lib.hid (headR_no hs)
    simp only [sizeB, decide_eq_false_iff_not] at hs
    by_cases h1 : k < 1
    · clear hs
      go_enter Tryz.func71, Tryz.ntmps71
      go_wp2_with fail
      go_ret2
      exact ⟨ret_sb HR.out.symm rfl, Gr.refl _⟩
    · have h2 : 64 < k := by omega
      clear hs
      go_enter Tryz.func71, Tryz.ntmps71
      go_wp2_with fail
      go_ret2
      exact ⟨ret_sb HR.out.symm rfl, Gr.refl _⟩
  · have HR := Lib.hid (headR_yes hs)
    simp only [sizeB, decide_eq_true_eq] at hs
    have h1 : ¬ k < 1 := by omega
    have h2 : ¬ 64 < k := by omega
    have hc1 := fun u => conv1 u k (by omega) (by omega)
    have s1 : (bs [UInt8.ofNat k.toNat]).size = 1 := bs_size _
    have C := fun w => rclose_c (bs (nameL ++ [UInt8.ofNat k.toNat])) (by rw [bs_size]; simp [nameL]) w
    rw [← head_app] at C
    have E := Lib.hid (head_app k)
    go_enter Tryz.func71, Tryz.ntmps71
    go_wp2_with fail
    refine (C _).mono ?_; rintro e u2 ⟨rfl, g2⟩
    go_wp2_with fail
    go_ret2
    exact ⟨ret_sb (by rw [HR.out, E.out]; rfl) rfl, Gr.trans (Below.alloc (Below.refl _ _) (Nat.le_refl _) _) g2⟩
end Go.Proofs.YtignfbdgpgidpaaGreatDoor
/- A budget: what it is, what its calls make of it, their contracts. -/
namespace Go.Proofs.YtignfbdgpgidpaaGreatDoor
open Go.RowKit
set_option linter.unusedVariables false
set_option linter.unusedSimpArgs false
set_option maxRecDepth 20000
structure Bu where
  m : Int
  now : Int
  high : Int
structure Bu.ok (b : Bu) : Prop where
  n0 : 0 ≤ b.now
  n1 : b.now ≤ b.high
  h1 : b.high ≤ b.m
  m1 : b.m ≤ 9223372036854775807
def Bu.take (b : Bu) (n : Int) : Bu := if n < 0 ∨ b.m - b.now < n then b else ⟨b.m, b.now + n, max b.high (b.now + n)⟩
def bcells (b : Bu) : Array Value := #[.bool true, .int .i64 b.m, .int .i64 b.now, .int .i64 b.high]
def BAt (w : World) (p : Nat) (b : Bu) : Prop := b.ok ∧ w.heap[p]? = some (.cells (bcells b) 113 (0, 0))
theorem BAt.only {w w' : World} {p : Nat} {b : Bu} {C : Nat → Prop} (h : BAt w p b) (g : Only C w w') (hC : ¬ C p) : BAt w' p b :=
  ⟨h.1, by rw [g.block p (lt_of_block h.2) hC]; exact h.2⟩
theorem BAt.lt {w : World} {p : Nat} {b : Bu} (h : BAt w p b) : p < w.heap.size := lt_of_block h.2
end Go.Proofs.YtignfbdgpgidpaaGreatDoor
/- Plain facts on a reader of records, without the model: what each call makes of the disk, the budget and the reader. -/
namespace Go.Proofs.YtignfbdgpgidpaaGreatDoor
open Go.RowKit FsPlain CrcPlain OctPlain FramePlain RecPlain
set_option linter.unusedVariables false
set_option linter.unusedSimpArgs false
set_option maxRecDepth 20000
namespace RdPlain
structure Rs where
  nm : ByteArray
  size : Int
  pos : Nat
  left : Nat
  queue : List ByteArray
  all : List ByteArray
  told : Nat
  opn : Bool
  bad : Bool
  whole : Bool
  short : Bool
  ec : Int
  em : Int
structure N3 where
  s : St
  b : Bu
  x : Rs
def askN (x : Rs) : Nat := min x.left (max 17 (roomN x.size).toNat)
def bytesN (m : N3) : ByteArray := bs (readR m.s m.x.nm.data.toList m.x.pos (askN m.x)).1
def errN (m : N3) : Int := (readR m.s m.x.nm.data.toList m.x.pos (askN m.x)).2
def N3.asked (m : N3) : N3 := ⟨m.s.call, m.b, m.x⟩
def N3.filled (m : N3) (t : ByteArray) : N3 := ⟨m.s, m.b, { m.x with short := decide ((gL m.x.size t).length < 4), queue := gL m.x.size t, all := m.x.all ++ gL m.x.size t, pos := m.x.pos + (gN m.x.size t).toNat, left := m.x.left - (gN m.x.size t).toNat }⟩
def isEnd (x : Rs) (t : ByteArray) : Prop := gB x.size t = false ∧ eB t = true ∧ t.size = x.left ∧ eC t = (x.all.length : Int) ∧ eM t = (sumN x.all : Nat)
instance (x : Rs) (t : ByteArray) : Decidable (isEnd x t) := by unfold isEnd; infer_instance
structure N3.ok (m : N3) : Prop where
  s : m.s.ok
  b : m.b.ok
  n1 : m.x.nm.size ≤ 24
  n2 : rightB m.x.nm.data.toList = true
  z : sizeB m.x.size = true
  az : ∀ r ∈ m.x.all, r.size ≤ 1000
  fit : m.x.pos + m.x.left ≤ 16777216
  cnt : m.x.all.length = m.x.told + m.x.queue.length
  ql : m.x.queue.length ≤ 4
theorem ask_left (x : Rs) : askN x ≤ x.left := Nat.min_le_left _ _
theorem sizeR_le {s : St} (hs : s.ok) (n : List UInt8) : (sizeR s n).1 ≤ 16777216 := by
  unfold sizeR
  split
  · simp
  · split
    · simp
    · rename_i f hf
      have h1 := used_le (get_mem hf)
      have h2 := hs.u
      have h3 := hs.r1
      simp only []; omega
end RdPlain
end Go.Proofs.YtignfbdgpgidpaaGreatDoor

/- In one text: RecHead, RdPlain, RdRead, Stands, RdRead2. -/
import Derived.Test.YtjplkmmhjfpdaaaGreatDoorQ05
import Derived.Test.YtjplkmmhjfpdaaaGreatDoorQ00
import Derived.Test.YtjplkmmhjfpdaaaGreatDoorQ06
import Derived.Test.YtjplkmmhjfpdaaaGreatDoorQ04
/- Contracts of a file's head: both PutHeads, both GetHeads. -/
namespace Go.Proofs.YtjplkmmhjfpdaaaGreatDoor
open Go.RowKit CrcPlain OctPlain FramePlain RecPlain
set_option linter.unusedVariables false
set_option linter.unusedSimpArgs false
set_option maxRecDepth 20000
theorem rsized_c (k : Int) (hk : I64 k) (w : World) :
    Calls Tryz.prog 170 #[.int .i64 k] w fun e w' => e = .returned (.bool (sizeB k)) ∧ w = w' := by
  have hr : 0 ≤ roomN k ∧ decide (0 < roomN k) = sizeB k := by
    unfold roomN
    cases hs : sizeB k
    · exact ⟨by simp, rfl⟩
    · have h := hs
      simp only [sizeB, decide_eq_true_eq] at h
      rw [if_pos rfl]
      exact ⟨by omega, decide_eq_true (by omega)⟩
  have R := fun w => room_c k hk w
  generalize roomN k = r at R hr
  obtain ⟨h0, hr⟩ := hr
  have HR := Lib.hid hr
  clear hr
  go_enter Tryz.func170, Tryz.ntmps170
  go_wp2_with fail
  refine (R _).mono ?_; rintro e u ⟨rfl, rfl⟩
  go_wp2_with fail
  go_ret
  exact ⟨retb HR.out, rfl⟩
theorem head_app (m : Int) : ByteArray.mk #[67, 72, 65, 73, 78, 49] ++ bs [UInt8.ofNat m.toNat] = bs (nameL ++ [UInt8.ofNat m.toNat]) := by
  have : ByteArray.mk #[67, 72, 65, 73, 78, 49] = bs nameL := rfl
  rw [this, bs_app]
set_option maxHeartbeats 1000000 in
theorem puthead_c (k : Int) (hk : I64 k) (w : World) :
    Calls Tryz.prog 139 #[.int .i64 k] w fun e w' => e = .returned (.tuple #[.string (headR k), .bool (sizeB k)]) ∧ Gr w w' := by
  have R := fun w => rsized_c k hk w
  cases hs : sizeB k
  · rw [hs] at R
    have HR := Lib.hid (headR_no hs)
    clear hs
    go_enter Tryz.func139, Tryz.ntmps139
    go_wp2_with fail
    refine (R _).mono ?_; rintro e u ⟨rfl, rfl⟩
    go_wp2_with fail
    go_ret2
    exact ⟨ret_sb HR.out.symm rfl, Gr.refl _⟩
  · rw [hs] at R
    have HR := Lib.hid (headR_yes hs)
    simp only [sizeB, decide_eq_true_eq] at hs
    have hc1 := fun u => conv1 u k (by omega) (by omega)
    have s1 : (bs [UInt8.ofNat k.toNat]).size = 1 := bs_size _
    have C := fun w => close_c (bs (nameL ++ [UInt8.ofNat k.toNat])) (by rw [bs_size]; simp [nameL]) w
    rw [← head_app] at C
    have E := Lib.hid (head_app k)
    go_enter Tryz.func139, Tryz.ntmps139
    go_wp2_with fail
    refine (R _).mono ?_; rintro e u ⟨rfl, rfl⟩
    go_wp2_with fail
    refine (C _).mono ?_; rintro e u2 ⟨rfl, g2⟩
    go_wp2_with fail
    go_ret2
    exact ⟨ret_sb (by rw [HR.out, E.out]; rfl) rfl, Gr.trans (Below.alloc (Below.refl _ _) (Nat.le_refl _) _) g2⟩
set_option maxHeartbeats 1000000 in
theorem rputhead_c (k : Int) (hk : I64 k) (w : World) :
    Calls Tryz.prog 30 #[.int .i64 k] w fun e w' => e = .returned (.tuple #[.string (headR k), .bool (sizeB k)]) ∧ Gr w w' := by
  cases hs : sizeB k
  · have HR := Lib.hid (headR_no hs)
    simp only [sizeB, decide_eq_false_iff_not] at hs
    by_cases h1 : k < 1
    · clear hs
      go_enter Tryz.func30, Tryz.ntmps30
      go_wp2_with fail
      go_ret2
      exact ⟨ret_sb HR.out.symm rfl, Gr.refl _⟩
    · have h2 : 64 < k := by omega
      clear hs
      go_enter Tryz.func30, Tryz.ntmps30
      go_wp2_with fail
      go_ret2
      exact ⟨ret_sb HR.out.symm rfl, Gr.refl _⟩
  · have HR := Lib.hid (headR_yes hs)
    simp only [sizeB, decide_eq_true_eq] at hs
    have h1 : ¬ k < 1 := by omega
    have h2 : ¬ 64 < k := by omega
    have hc1 := fun u => conv1 u k (by omega) (by omega)
    have s1 : (bs [UInt8.ofNat k.toNat]).size = 1 := bs_size _
    have C := fun w => rclose_c (bs (nameL ++ [UInt8.ofNat k.toNat])) (by rw [bs_size]; simp [nameL]) w
    rw [← head_app] at C
    have E := Lib.hid (head_app k)
    go_enter Tryz.func30, Tryz.ntmps30
    go_wp2_with fail
    refine (C _).mono ?_; rintro e u2 ⟨rfl, g2⟩
    go_wp2_with fail
    go_ret2
    exact ⟨ret_sb (by rw [HR.out, E.out]; rfl) rfl, Gr.trans (Below.alloc (Below.refl _ _) (Nat.le_refl _) _) g2⟩
def ghK (s : ByteArray) : Int := if h : 6 < s.size then (s[6].toNat : Int) else 0
def ghB (s : ByteArray) : Bool := decide (s.size = 11) && sizeB (ghK s) && decide (headR (ghK s) = s)
def ghN (s : ByteArray) : Int := if ghB s = true then ghK s else 0
theorem ret_nb {a b : Int} {p q : Bool} (h : a = b) (k : p = q) : Ending.returned (.tuple #[.int .i64 a, .bool p]) = .returned (.tuple #[.int .i64 b, .bool q]) := by rw [h, k]
theorem index_6 (s : ByteArray) (h : 6 < s.size) (w : World) : (Instr.index 9 (.string s) (.int .i64 6)).run Tryz.prog w = .ok (.int .u8 (s[6].toNat : Int)) w := by
  rw [run_index_string w 9 s .i64 6 Tryz.underlying9, dif_pos ⟨by omega, by omega⟩]
  rfl
set_option maxHeartbeats 1000000 in
theorem gethead_short (s : ByteArray) (h : ¬ s.size = 11) (w : World) :
    Calls Tryz.prog 134 #[.string s] w fun e w' => e = .returned (.tuple #[.int .i64 (ghN s), .bool (ghB s)]) ∧ Gr w w' := by
  have hb : ghB s = false := by unfold ghB; rw [decide_eq_false h]; rfl
  have hn : ghN s = 0 := by unfold ghN; rw [hb]; rfl
  have HB := Lib.hid hb
  have HN := Lib.hid hn
  have h1 : (((s.size : Int)) != 11) = true := by simp; omega
  clear h hb hn
  go_enter Tryz.func134, Tryz.ntmps134
  go_wp2_with fail
  go_ret2
  exact ⟨ret_nb HN.out.symm HB.out.symm, Gr.refl _⟩
set_option maxHeartbeats 1000000 in
theorem gethead_long (s : ByteArray) (h : s.size = 11) (w : World) :
    Calls Tryz.prog 134 #[.string s] w fun e w' => e = .returned (.tuple #[.int .i64 (ghN s), .bool (ghB s)]) ∧ Gr w w' := by
  have h6 : 6 < s.size := by omega
  have hk : ghK s = (s[6].toNat : Int) := by unfold ghK; rw [dif_pos h6]
  have hlt := s[6].toNat_lt
  have hi := index_6 s h6
  rw [← hk] at hi
  have P := fun w => puthead_c (ghK s) (by unfold I64; omega) w
  have hr : 0 ≤ ghK s ∧ ghK s < 256 := by omega
  have hgb : ghB s = (sizeB (ghK s) && decide (headR (ghK s) = s)) := by unfold ghB; rw [decide_eq_true h]; rfl
  have hgn : ghB s = true → ghN s = ghK s := fun hb => by unfold ghN; rw [if_pos hb]
  have hg0 : ghB s = false → ghN s = 0 := fun hb => by unfold ghN; rw [hb]; rfl
  have h1 : (((s.size : Int)) != 11) = false := by simp; omega
  generalize ghK s = k at hk hi P hr hgb hgn
  cases hs : sizeB k
  · have hb : ghB s = false := by rw [hgb, hs]; rfl
    rw [hs] at P
    have HB := Lib.hid hb
    have HN := Lib.hid (hg0 hb)
    clear hb hgb hgn hg0 hs hk h h6 hlt
    go_enter Tryz.func134, Tryz.ntmps134
    go_wp2_with fail
    refine (P _).mono ?_; rintro e u ⟨rfl, g⟩
    go_wp2_with fail
    go_ret2
    exact ⟨ret_nb HN.out.symm HB.out.symm, g⟩
  · rw [hs] at P
    by_cases he : headR k = s
    · have hb : ghB s = true := by rw [hgb, hs, decide_eq_true he]; rfl
      have HB := Lib.hid hb
      have HN := Lib.hid (hgn hb)
      have ht : ((headR k).toList == s.toList) = true := by rw [he]; simp
      have ht2 : ((headR k).toList != s.toList) = false := by rw [he]; simp
      clear hb hgb hgn hg0 hs hk h h6 hlt he
      generalize headR k = H at P ht ht2
      go_enter Tryz.func134, Tryz.ntmps134
      go_wp2_with fail
      refine (P _).mono ?_; rintro e u ⟨rfl, g⟩
      go_wp2_with fail
      go_ret2
      exact ⟨ret_nb HN.out.symm HB.out.symm, g⟩
    · have hb : ghB s = false := by rw [hgb, decide_eq_false he, Bool.and_false]
      have HB := Lib.hid hb
      have HN := Lib.hid (hg0 hb)
      have ht : ((headR k).toList == s.toList) = false := by
        have := eq_list (a := headR k) (b := s)
        rwa [decide_eq_false he] at this
      have ht2 : ((headR k).toList != s.toList) = true := by
        show (!((headR k).toList == s.toList)) = true
        rw [ht]; rfl
      clear hb hgb hgn hg0 hs hk h h6 hlt he
      generalize headR k = H at P ht ht2
      go_enter Tryz.func134, Tryz.ntmps134
      go_wp2_with fail
      refine (P _).mono ?_; rintro e u ⟨rfl, g⟩
      go_wp2_with fail
      go_ret2
      exact ⟨ret_nb HN.out.symm HB.out.symm, g⟩
theorem gethead_c (s : ByteArray) (w : World) :
    Calls Tryz.prog 134 #[.string s] w fun e w' => e = .returned (.tuple #[.int .i64 (ghN s), .bool (ghB s)]) ∧ Gr w w' := by
  by_cases h : s.size = 11
  · exact gethead_long s h w
  · exact gethead_short s h w
end Go.Proofs.YtjplkmmhjfpdaaaGreatDoor
/- Plain facts on a reader of records, without the model: what each call makes of the disk, the budget and the reader. -/
namespace Go.Proofs.YtjplkmmhjfpdaaaGreatDoor
open Go.RowKit FsPlain CrcPlain OctPlain FramePlain RecPlain
set_option linter.unusedVariables false
set_option linter.unusedSimpArgs false
set_option maxRecDepth 20000
namespace RdPlain
structure Rs where
  nm : ByteArray
  size : Int
  pos : Nat
  left : Nat
  queue : List ByteArray
  all : List ByteArray
  told : Nat
  opn : Bool
  bad : Bool
  whole : Bool
  short : Bool
  ec : Int
  em : Int
structure N3 where
  s : St
  b : Bu
  x : Rs
def shutN (m : N3) : N3 := if m.x.opn = true then ⟨m.s, m.b.give 4, { m.x with opn := false }⟩ else m
def N3.isBad (m : N3) : N3 := ⟨m.s, m.b, { m.x with bad := true }⟩
def wrongN (m : N3) : N3 := shutN m.isBad
def closeN (m : N3) : N3 := if m.x.opn = true then wrongN m else m
def askN (x : Rs) : Nat := min x.left (max 17 (roomN x.size).toNat)
def bytesN (m : N3) : ByteArray := bs (readR m.s m.x.nm.data.toList m.x.pos (askN m.x)).1
def errN (m : N3) : Int := (readR m.s m.x.nm.data.toList m.x.pos (askN m.x)).2
def N3.asked (m : N3) : N3 := ⟨m.s.call, m.b, m.x⟩
def N3.ended (m : N3) (t : ByteArray) : N3 := ⟨m.s, m.b, { m.x with whole := true, ec := eC t, em := eM t }⟩
def N3.filled (m : N3) (t : ByteArray) : N3 := ⟨m.s, m.b, { m.x with short := decide ((gL m.x.size t).length < 4), queue := gL m.x.size t, all := m.x.all ++ gL m.x.size t, pos := m.x.pos + (gN m.x.size t).toNat, left := m.x.left - (gN m.x.size t).toNat }⟩
def N3.popped (m : N3) : N3 := ⟨m.s, m.b, { m.x with queue := m.x.queue.tail, told := m.x.told + 1 }⟩
def isEnd (x : Rs) (t : ByteArray) : Prop := gB x.size t = false ∧ eB t = true ∧ t.size = x.left ∧ eC t = (x.all.length : Int) ∧ eM t = (sumN x.all : Nat)
instance (x : Rs) (t : ByteArray) : Decidable (isEnd x t) := by unfold isEnd; infer_instance
abbrev Ans := ByteArray × Bool × Int
def noneA (e : Int) : Ans := (⟨#[]⟩, false, e)
def popN (m : N3) : N3 × Ans := (m.popped, (m.x.queue.headD ⟨#[]⟩, true, 0))
def fillN (m : N3) : N3 × Ans :=
  if ¬ errN m = 0 then (wrongN m.asked, noneA (errN m))
  else if isEnd m.x (bytesN m) then (shutN (m.asked.ended (bytesN m)), noneA 0)
  else if gB m.x.size (bytesN m) = false ∨ m.x.short = true then (wrongN m.asked, noneA 6)
  else popN (m.asked.filled (bytesN m))
def nextN (m : N3) : N3 × Ans :=
  if m.x.opn = false then (m, noneA (if m.x.bad = true then 14 else 0))
  else if m.x.queue = [] then fillN m
  else popN m
def newRs (nm : ByteArray) (size : Int) (left : Nat) : Rs := ⟨nm, size, 11, left, [], [], 0, true, false, false, false, 0, 0⟩
def openN (s : St) (b : Bu) (nm : ByteArray) (size : Int) : St × Bu × Int × Nat :=
  if sizeB size = false then (s, b, 1, 0)
  else if ¬ b.takeE 4 = 0 then (s, b.take 4, b.takeE 4, 0)
  else if ¬ (sizeR s nm.data.toList).2 = 0 then (s.call, (b.take 4).give 4, (sizeR s nm.data.toList).2, 0)
  else if (sizeR s nm.data.toList).1 < 11 then (s.call, (b.take 4).give 4, 6, 0)
  else if ¬ (readR s.call nm.data.toList 0 11).2 = 0 then (s.call.call, (b.take 4).give 4, (readR s.call nm.data.toList 0 11).2, 0)
  else if ¬ (ghB (bs (readR s.call nm.data.toList 0 11).1) = true ∧ ghN (bs (readR s.call nm.data.toList 0 11).1) = size) then (s.call.call, (b.take 4).give 4, 6, 0)
  else (s.call.call, b.take 4, 0, (sizeR s nm.data.toList).1.toNat - 11)
structure N3.ok (m : N3) : Prop where
  s : m.s.ok
  b : m.b.ok
  n1 : m.x.nm.size ≤ 24
  n2 : rightB m.x.nm.data.toList = true
  z : sizeB m.x.size = true
  az : ∀ r ∈ m.x.all, r.size ≤ 1000
  fit : m.x.pos + m.x.left ≤ 16777216
  cnt : m.x.all.length = m.x.told + m.x.queue.length
  ql : m.x.queue.length ≤ 4
theorem ok_shutN {m : N3} (h : m.ok) : (shutN m).ok := by
  unfold shutN
  split
  · exact ⟨h.s, Bu.give_ok h.b 4, h.n1, h.n2, h.z, h.az, h.fit, h.cnt, h.ql⟩
  · exact h
theorem ok_isBad {m : N3} (h : m.ok) : m.isBad.ok := ⟨h.s, h.b, h.n1, h.n2, h.z, h.az, h.fit, h.cnt, h.ql⟩
theorem ok_wrongN {m : N3} (h : m.ok) : (wrongN m).ok := ok_shutN (ok_isBad h)
theorem ok_asked {m : N3} (h : m.ok) : m.asked.ok := ⟨ok_call h.s, h.b, h.n1, h.n2, h.z, h.az, h.fit, h.cnt, h.ql⟩
theorem ok_ended {m : N3} (h : m.ok) (t : ByteArray) : (m.ended t).ok := ⟨h.s, h.b, h.n1, h.n2, h.z, h.az, h.fit, h.cnt, h.ql⟩
theorem ok_popped {m : N3} (h : m.ok) (hq : m.x.queue ≠ []) : m.popped.ok := by
  obtain ⟨r, q, hr⟩ := List.exists_cons_of_ne_nil hq
  have h1 := h.cnt
  have h2 := h.ql
  refine ⟨h.s, h.b, h.n1, h.n2, h.z, h.az, h.fit, ?_, ?_⟩
  · show m.x.all.length = m.x.told + 1 + m.x.queue.tail.length; rw [hr] at h1 ⊢; simp at h1 ⊢; omega
  · show m.x.queue.tail.length ≤ 4; rw [hr] at h2 ⊢; simp at h2 ⊢; omega
theorem bytesN_size {m : N3} (h : errN m = 0) : (bytesN m).size = askN m.x := by
  unfold errN at h
  unfold bytesN
  rw [bs_size]
  unfold readR at h ⊢
  split at h
  · simp at h
  · rename_i h1
    rw [if_neg h1]
    split at h
    · simp at h
    · rename_i f hf
      split at h
      · simp at h
      · rename_i h2
        rw [if_neg h2]
        simp
        omega
theorem gL_size {size : Int} {t : ByteArray} (h : gB size t = true) : 1 ≤ (gL size t).length ∧ (gL size t).length ≤ 4 ∧ ∀ r ∈ gL size t, (r.size : Int) = size := by
  obtain ⟨h1, _⟩ := get_is h
  unfold blkB at h1
  simp only [Bool.and_eq_true, decide_eq_true_eq] at h1
  exact ⟨h1.1.2.1, h1.1.2.2, allB_iff.1 h1.2⟩
theorem ok_filled {m : N3} (h : m.ok) {t : ByteArray} (hb : gB m.x.size t = true) (ht : t.size ≤ m.x.left) (hq : m.x.queue = []) : (m.filled t).ok ∧ (m.filled t).x.queue ≠ [] := by
  obtain ⟨h1, h2, h3⟩ := gL_size hb
  obtain ⟨_, n, hn, hn2, _⟩ := get_is hb
  have hz : 1 ≤ m.x.size ∧ m.x.size ≤ 64 := by simpa [sizeB] using h.z
  have hf := h.fit
  have hc := h.cnt
  refine ⟨⟨h.s, h.b, h.n1, h.n2, h.z, ?_, ?_, ?_, h2⟩, fun e => ?_⟩
  · intro r hr
    rcases List.mem_append.1 hr with hr | hr
    · exact h.az r hr
    · have := h3 r hr; omega
  · show m.x.pos + (gN m.x.size t).toNat + (m.x.left - (gN m.x.size t).toNat) ≤ _
    rw [hn]; simp only [Int.toNat_natCast]; omega
  · show (m.x.all ++ gL m.x.size t).length = m.x.told + (gL m.x.size t).length
    rw [List.length_append, hc, hq]; simp
  · have e2 : gL m.x.size t = [] := e
    rw [e2] at h1; simp at h1
theorem ask_left (x : Rs) : askN x ≤ x.left := Nat.min_le_left _ _
theorem ok_fillN {m : N3} (h : m.ok) (hq : m.x.queue = []) : (fillN m).1.ok := by
  unfold fillN
  split
  · exact ok_wrongN (ok_asked h)
  · rename_i h0
    have hs := bytesN_size (m := m) (by simpa using h0)
    split
    · exact ok_shutN (ok_ended (ok_asked h) _)
    · split
      · exact ok_wrongN (ok_asked h)
      · rename_i h2
        have hb : gB m.x.size (bytesN m) = true := by
          cases hb : gB m.x.size (bytesN m)
          · exact absurd (.inl hb) h2
          · rfl
        obtain ⟨k1, k2⟩ := ok_filled (m := m.asked) (ok_asked h) hb (by rw [hs]; exact ask_left _) hq
        exact ok_popped k1 k2
theorem ok_nextN {m : N3} (h : m.ok) : (nextN m).1.ok := by
  unfold nextN
  split
  · exact h
  · split
    · rename_i hq; exact ok_fillN h hq
    · rename_i hq; exact ok_popped h hq
theorem shutN_calls (m : N3) : (shutN m).s.calls = m.s.calls ∧ (shutN m).x.told = m.x.told := by unfold shutN; split <;> exact ⟨rfl, rfl⟩
theorem nextN_calls (m : N3) : m.s.calls ≤ (nextN m).1.s.calls ∧ (nextN m).1.s.calls ≤ m.s.calls + 1 ∧ (nextN m).1.x.told ≤ m.x.told + 1 := by
  have h1 : (wrongN m.asked).s.calls = m.s.calls + 1 ∧ (wrongN m.asked).x.told = m.x.told := shutN_calls _
  unfold nextN
  split
  · simp only []; omega
  · split
    · unfold fillN
      split
      · simp only []; omega
      · split
        · have h2 : (shutN (m.asked.ended (bytesN m))).s.calls = m.s.calls + 1 ∧ (shutN (m.asked.ended (bytesN m))).x.told = m.x.told := shutN_calls _
          simp only []; omega
        · split
          · simp only []; omega
          · show m.s.calls ≤ m.s.calls + 1 ∧ m.s.calls + 1 ≤ m.s.calls + 1 ∧ m.x.told + 1 ≤ m.x.told + 1; omega
    · show m.s.calls ≤ m.s.calls ∧ m.s.calls ≤ m.s.calls + 1 ∧ m.x.told + 1 ≤ m.x.told + 1; omega
theorem openN_calls (s : St) (b : Bu) (nm : ByteArray) (size : Int) : s.calls ≤ (openN s b nm size).1.calls ∧ (openN s b nm size).1.calls ≤ s.calls + 2 := by
  have h1 : s.call.calls = s.calls + 1 := rfl
  have h2 : s.call.call.calls = s.calls + 2 := by show s.calls + 1 + 1 = _; omega
  unfold openN
  repeat' split
  all_goals simp only []; omega
theorem sizeR_le {s : St} (hs : s.ok) (n : List UInt8) : (sizeR s n).1 ≤ 16777216 := by
  unfold sizeR
  split
  · simp
  · split
    · simp
    · rename_i f hf
      have h1 := used_le (get_mem hf)
      have h2 := hs.u
      have h3 := hs.r1
      simp only []; omega
theorem openN_yes {s : St} {b : Bu} {nm : ByteArray} {size : Int} (h0 : (openN s b nm size).2.2.1 = 0) : sizeB size = true ∧ b.takeE 4 = 0 ∧ (sizeR s nm.data.toList).2 = 0 ∧ 11 ≤ (sizeR s nm.data.toList).1 ∧ (readR s.call nm.data.toList 0 11).2 = 0 ∧ ghB (bs (readR s.call nm.data.toList 0 11).1) = true ∧ ghN (bs (readR s.call nm.data.toList 0 11).1) = size ∧ openN s b nm size = (s.call.call, b.take 4, 0, (sizeR s nm.data.toList).1.toNat - 11) := by
  unfold openN at h0 ⊢
  split at h0
  · simp at h0
  · rename_i h1
    rw [if_neg h1]
    split at h0
    · rename_i h2; exact absurd h0 h2
    · rename_i h2
      rw [if_neg h2]
      split at h0
      · rename_i h3; exact absurd h0 h3
      · rename_i h3
        rw [if_neg h3]
        split at h0
        · simp at h0
        · rename_i h4
          rw [if_neg h4]
          split at h0
          · rename_i h5; exact absurd h0 h5
          · rename_i h5
            rw [if_neg h5]
            split at h0
            · simp at h0
            · rename_i h6
              rw [if_neg h6]
              have h6' := Decidable.not_not.1 h6
              exact ⟨by simpa using h1, Decidable.not_not.1 h2, Decidable.not_not.1 h3, by omega, Decidable.not_not.1 h5, h6'.1, h6'.2, rfl⟩
theorem openN_ok {s : St} {b : Bu} {nm : ByteArray} {size : Int} (hs : s.ok) (hb : b.ok) (hn : nm.size ≤ 24) (hm : rightB nm.data.toList = true) (h0 : (openN s b nm size).2.2.1 = 0) : (N3.mk (openN s b nm size).1 (openN s b nm size).2.1 (newRs nm size (openN s b nm size).2.2.2)).ok := by
  obtain ⟨h1, h2, h3, h4, h5, h6, h7, e⟩ := openN_yes h0
  have hl := sizeR_le hs nm.data.toList
  rw [e]
  refine ⟨ok_call (ok_call hs), Bu.take_ok hb 4, hn, hm, h1, (fun r hr => by cases hr), ?_, rfl, Nat.zero_le _⟩
  show 11 + ((sizeR s nm.data.toList).1.toNat - 11) ≤ 16777216
  omega
end RdPlain
end Go.Proofs.YtjplkmmhjfpdaaaGreatDoor
/- Plain facts: what a reader reads of a file, where no call fails. -/
namespace Go.Proofs.YtjplkmmhjfpdaaaGreatDoor
open Go.RowKit FsPlain CrcPlain OctPlain FramePlain RecPlain
set_option linter.unusedVariables false
set_option linter.unusedSimpArgs false
set_option maxRecDepth 20000
namespace RdPlain
theorem get_of {size : Int} {s : ByteArray} {l : List ByteArray} {more : List UInt8} (hb : blkB size l = true) (h : s.data.toList = (cl (blk l)).data.toList ++ more) : gB size s = true ∧ gL size s = l ∧ gN size s = (cl (blk l)).size := by
  have e : s = cl (blk l) ++ bs more := ext_toList (by rw [app_data, bs_data, h])
  rw [e]
  obtain ⟨h1, h2, h3⟩ := get_put hb (bs more)
  exact ⟨h1, h3, h2⟩
theorem get_head {size : Int} {s : ByteArray} (h : gB size s = true) : ∃ more, s.data.toList = (cl (blk (gL size s))).data.toList ++ more ∧ blkB size (gL size s) = true ∧ gN size s = (cl (blk (gL size s))).size := by
  obtain ⟨n, h1, h2, h3, h4⟩ := RecPlain.get_split h
  obtain ⟨hb, _⟩ := get_is h
  exact ⟨_, h4, hb, (get_of hb h4).2.2⟩
theorem blk_room {size : Int} {l : List ByteArray} (h : blkB size l = true) : (((cl (blk l)).size : Nat) : Int) ≤ roomN size := by
  obtain ⟨h1, ⟨h2, h3⟩, h4⟩ := blk_parts h
  obtain ⟨n, e1, _, _, e2, _⟩ := blk_cl h
  have hs : 1 ≤ size ∧ size ≤ 64 := by simpa [sizeB] using h1
  have hr : roomN size = 5 + 4 * size := by unfold roomN; rw [if_pos h1]
  rw [e1, hr, ← e2]
  have : (l.length : Int) * size ≤ 4 * size := Int.mul_le_mul_of_nonneg_right (by omega) (by omega)
  omega
theorem take_get {size : Int} {t r : ByteArray} {k : Nat} (hk : roomN size ≤ (k : Int)) (ht : t.data.toList = r.data.toList.take k) : gB size t = gB size r ∧ gL size t = gL size r ∧ gN size t = gN size r := by
  cases hg : gB size r
  · cases hg2 : gB size t
    · rw [gL_no hg, gL_no hg2, gN_no hg, gN_no hg2]; exact ⟨rfl, rfl, rfl⟩
    · obtain ⟨m1, e1, hb, _⟩ := get_head hg2
      have e : r.data.toList = (cl (blk (gL size t))).data.toList ++ (m1 ++ r.data.toList.drop k) := by
        conv => lhs; rw [← List.take_append_drop k r.data.toList]
        rw [← ht, e1, List.append_assoc]
      have := (get_of hb e).1
      rw [hg] at this; cases this
  · obtain ⟨m2, e2, hb, hn⟩ := get_head hg
    have hl := blk_room hb
    have hlen : (cl (blk (gL size r))).data.toList.length ≤ k := by rw [show (cl (blk (gL size r))).data.toList.length = (cl (blk (gL size r))).size from Array.length_toList]; omega
    have e : t.data.toList = (cl (blk (gL size r))).data.toList ++ m2.take (k - (cl (blk (gL size r))).data.toList.length) := by
      rw [ht, e2, List.take_append, List.take_of_length_le hlen]
    obtain ⟨a1, a2, a3⟩ := get_of hb e
    exact ⟨a1, a2, a3.trans hn.symm⟩
structure At (m : N3) (D : ByteArray) (ps : List (List ByteArray)) (r : ByteArray) : Prop where
  get : ∃ f, m.s.get m.x.nm.data.toList = some f ∧ f.data = D.data.toList
  down : m.s.down = false
  ahead : m.s.ahead = -1
  sz : sizeB m.x.size = true
  all : D.data.toList = (headS m.x.size).data.toList ++ (blks ps ++ r.data.toList)
  pos : m.x.pos = 11 + (blks ps).length
  left : m.x.left = r.size
  bls : ∀ p ∈ ps, blkB m.x.size p = true
  full : Full ps
  short : m.x.short = true → ∃ p, ps.getLast? = some p ∧ p.length < 4
  long : m.x.short = false → ∀ p ∈ ps, p.length = 4
  flat : m.x.all = ps.flatten
theorem headS_len (size : Int) : (headS size).data.toList.length = 11 := by rw [show (headS size).data.toList.length = (headS size).size from Array.length_toList, headS_size]
theorem At.read {m : N3} {D : ByteArray} {ps : List (List ByteArray)} {r : ByteArray} (h : At m D ps r) : errN m = 0 ∧ (bytesN m).data.toList = r.data.toList.take (askN m.x) := by
  obtain ⟨f, hf, hd⟩ := h.get
  have hc : m.s.call.down = false := by unfold St.call; simp [h.down, h.ahead]
  have hlen : f.data.length = m.x.pos + m.x.left := by
    rw [hd, h.all, h.pos, h.left, List.length_append, List.length_append, headS_len, show r.data.toList.length = r.size from Array.length_toList]; omega
  have ha := ask_left m.x
  unfold errN bytesN
  unfold readR
  rw [if_neg (by rw [hc]; decide), hf]
  simp only []
  rw [if_neg (by omega)]
  refine ⟨rfl, ?_⟩
  rw [bs_data, hd, h.all, h.pos, List.drop_append, List.drop_of_length_le (by rw [headS_len]; omega), List.nil_append, headS_len]
  rw [show 11 + (blks ps).length - 11 = (blks ps).length by omega, List.drop_left]
theorem At.popped {m : N3} {D : ByteArray} {ps : List (List ByteArray)} {r : ByteArray} (h : At m D ps r) : At m.popped D ps r := ⟨h.get, h.down, h.ahead, h.sz, h.all, h.pos, h.left, h.bls, h.full, h.short, h.long, h.flat⟩
theorem At.ask {m : N3} {D : ByteArray} {ps : List (List ByteArray)} {r : ByteArray} (h : At m D ps r) : askN m.x = r.size ∨ roomN m.x.size ≤ (askN m.x : Nat) ∧ 17 ≤ askN m.x := by
  have hs : 1 ≤ m.x.size ∧ m.x.size ≤ 64 := by simpa [sizeB] using h.sz
  have hr : roomN m.x.size = 5 + 4 * m.x.size := by unfold roomN; rw [if_pos h.sz]
  have hl := h.left
  unfold askN
  rw [hr]
  omega
theorem At.got {m : N3} {D : ByteArray} {ps : List (List ByteArray)} {r : ByteArray} (h : At m D ps r) : gB m.x.size (bytesN m) = gB m.x.size r ∧ gL m.x.size (bytesN m) = gL m.x.size r ∧ gN m.x.size (bytesN m) = gN m.x.size r := by
  obtain ⟨_, hb⟩ := h.read
  rcases h.ask with ha | ha
  · have : bytesN m = r := ext_toList (by rw [hb, ha, List.take_of_length_le (by rw [data_length]; omega)])
    rw [this]; exact ⟨rfl, rfl, rfl⟩
  · exact take_get ha.1 hb
theorem At.ends {m : N3} {D : ByteArray} {ps : List (List ByteArray)} {r : ByteArray} (h : At m D ps r) (hl : m.x.all.length ≤ 1000000) : isEnd m.x (bytesN m) ↔ tailB m.x.all r = true := by
  obtain ⟨_, hb⟩ := h.read
  have hg := h.got.1
  have hlen : (bytesN m).size = min (askN m.x) r.size := by rw [← data_length, hb, List.length_take, data_length]
  have hle : askN m.x ≤ r.size := by have := ask_left m.x; rw [h.left] at this; exact this
  constructor
  · rintro ⟨h1, h2, h3, h4, h5⟩
    have : bytesN m = r := ext_toList (by rw [hb, List.take_of_length_le (by rw [data_length]; have := h.left; omega)])
    rw [this] at h2 h4 h5
    unfold tailB
    simp [h2, h4, h5]
  · intro ht
    have he := (tail_iff hl r).1 ht
    have h17 : r.size = 17 := by rw [← data_length, he, endL_length]
    have hask : askN m.x = r.size := by
      rcases h.ask with ha | ha
      · exact ha
      · omega
    have hr : bytesN m = r := ext_toList (by rw [hb, hask, List.take_of_length_le (by rw [data_length]; omega)])
    have ht2 := ht
    unfold tailB at ht2
    simp only [Bool.and_eq_true, decide_eq_true_eq] at ht2
    obtain ⟨⟨e1, e2⟩, e3⟩ := ht2
    have hc : cntN r = 0 := by
      unfold eB at e1
      simp only [Bool.and_eq_true, decide_eq_true_eq] at e1
      exact e1.1.1.2
    have hgb : gB m.x.size r = false := by
      unfold gB
      rw [hc]; simp
    exact ⟨by rw [hr]; exact hgb, by rw [hr]; exact e1, by rw [hr, h.left], by rw [hr]; exact e2, by rw [hr]; exact e3⟩
theorem At.file {m : N3} {D : ByteArray} {ps : List (List ByteArray)} {r : ByteArray} (h : At m D ps r) (hl : m.x.all.length ≤ 1000000) (ht : tailB m.x.all r = true) : IsFile m.x.size D m.x.all := by
  rw [h.flat] at hl ht ⊢
  exact file_of h.sz h.bls h.full h.all hl ht
theorem At.none {m : N3} {D : ByteArray} {ps : List (List ByteArray)} {r : ByteArray} (h : At m D ps r) (hl : m.x.all.length ≤ 1000000) (hs : gB m.x.size r = false ∨ m.x.short = true) (ht : ¬ tailB m.x.all r = true) (L : List ByteArray) : ¬ IsFile m.x.size D L := by
  intro hi
  have hstop : gB m.x.size r = false ∨ ∃ p, ps.getLast? = some p ∧ p.length < 4 := hs.imp id h.short
  obtain ⟨e1, e2⟩ := file_not h.bls h.all hstop hi
  refine ht ((tail_iff hl r).2 ?_)
  rw [h.flat, e1]; exact e2
theorem At.block {m : N3} {D : ByteArray} {ps : List (List ByteArray)} {r : ByteArray} (h : At m D ps r) (hg : gB m.x.size r = true) (hsh : m.x.short = false) : ∃ r', At (m.asked.filled (bytesN m)) D (ps ++ [gL m.x.size r]) r' := by
  obtain ⟨g1, g2, g3⟩ := h.got
  obtain ⟨more, e1, hb, hn⟩ := get_head hg
  have hlong := h.long hsh
  have hc : m.s.call.down = false := by unfold St.call; simp [h.down, h.ahead]
  have hca : m.s.call.ahead = -1 := by show max (m.s.ahead - 1) (-1) = -1; rw [h.ahead]; decide
  have hk : blks (ps ++ [gL m.x.size r]) = blks ps ++ (cl (blk (gL m.x.size r))).data.toList := by rw [blks_app]; simp [blks]
  have hsz : (gN m.x.size r).toNat = (cl (blk (gL m.x.size r))).size := by rw [hn]; rfl
  have hp := blk_parts hb
  refine ⟨bs more, h.get, hc, hca, h.sz, ?_, ?_, ?_, ?_, ?_, ?_, ?_, ?_⟩
  · rw [h.all, hk, e1, bs_data]; simp only [List.append_assoc]; rfl
  · show m.x.pos + (gN m.x.size (bytesN m)).toNat = _
    rw [g3, hsz, hk, List.length_append, h.pos, data_length]; omega
  · show m.x.left - (gN m.x.size (bytesN m)).toNat = _
    have : r.size = (cl (blk (gL m.x.size r))).size + more.length := by rw [← data_length, e1, List.length_append, data_length]
    rw [g3, hsz, h.left, bs_size]; omega
  · intro p hpm
    rcases List.mem_append.1 hpm with hpm | hpm
    · exact h.bls p hpm
    · rw [List.mem_singleton.1 hpm]; exact hb
  · intro j p hj hj2
    rw [List.length_append, List.length_singleton] at hj2
    rw [List.getElem?_append_left (by omega)] at hj
    exact hlong p (List.mem_of_getElem? hj)
  · intro hs
    have hs' : decide ((gL m.x.size (bytesN m)).length < 4) = true := hs
    rw [g2, decide_eq_true_iff] at hs'
    exact ⟨_, by simp, hs'⟩
  · intro hs p hpm
    have hs' : decide ((gL m.x.size (bytesN m)).length < 4) = false := hs
    rw [g2, decide_eq_false_iff_not] at hs'
    rcases List.mem_append.1 hpm with hpm | hpm
    · exact hlong p hpm
    · rw [List.mem_singleton.1 hpm]; have := hp.2.1; omega
  · show m.x.all ++ gL m.x.size (bytesN m) = _
    rw [g2, h.flat]; simp
end RdPlain
end Go.Proofs.YtjplkmmhjfpdaaaGreatDoor
/- A disk that does not fail, with a file of these bytes: what its calls answer. -/
namespace Go.Proofs.YtjplkmmhjfpdaaaGreatDoor
set_option linter.unusedVariables false
namespace FsPlain
structure Stands (s : St) (n : List UInt8) (D : ByteArray) : Prop where
  get : ∃ f, s.get n = some f ∧ f.data = D.data.toList
  down : s.down = false
  ahead : s.ahead = -1
theorem Stands.call {s : St} {n : List UInt8} {D : ByteArray} (h : Stands s n D) : Stands s.call n D ∧ s.call.down = false := by
  have hc : s.call.down = false := by unfold St.call; simp [h.down, h.ahead]
  exact ⟨⟨h.get, hc, by show max (s.ahead - 1) (-1) = -1; rw [h.ahead]; decide⟩, hc⟩
theorem Stands.size {s : St} {n : List UInt8} {D : ByteArray} (h : Stands s n D) : sizeR s n = ((D.size : Int), 0) := by
  obtain ⟨f, hf, hd⟩ := h.get
  unfold sizeR
  rw [if_neg (by rw [h.call.2]; decide), hf]
  simp only [hd, Array.length_toList]
  rfl
theorem Stands.readAt {s : St} {n : List UInt8} {D : ByteArray} (h : Stands s n D) (i k : Nat) (hk : i + k ≤ D.size) : readR s n i k = ((D.data.toList.drop i).take k, 0) := by
  obtain ⟨f, hf, hd⟩ := h.get
  unfold readR
  rw [if_neg (by rw [h.call.2]; decide), hf]
  simp only [hd]
  rw [if_neg (by rw [Array.length_toList]; show ¬ D.size < _; omega)]
theorem Stands.read {s : St} {n : List UInt8} {D : ByteArray} (h : Stands s n D) (k : Nat) (hk : k ≤ D.size) : readR s n 0 k = (D.data.toList.take k, 0) := by
  rw [h.readAt 0 k (by omega)]
  simp
end FsPlain
end Go.Proofs.YtjplkmmhjfpdaaaGreatDoor
/- Plain facts: a reader that is opened over a file, where no call fails; how many records it can tell. -/
namespace Go.Proofs.YtjplkmmhjfpdaaaGreatDoor
open Go.RowKit FsPlain CrcPlain OctPlain FramePlain RecPlain
set_option linter.unusedVariables false
set_option linter.unusedSimpArgs false
set_option maxRecDepth 20000
namespace RdPlain
theorem heads_all : (List.range 65).all (fun n => decide (n = 0) || (ghB (headS (n : Int)) && decide (ghN (headS (n : Int)) = (n : Int)))) = true := by kernel_rfl
theorem head_told {size : Int} (h : sizeB size = true) : ghB (headS size) = true ∧ ghN (headS size) = size := by
  have hs : 1 ≤ size ∧ size ≤ 64 := by simpa [sizeB] using h
  obtain ⟨n, rfl⟩ : ∃ n : Nat, size = n := ⟨size.toNat, by omega⟩
  have := List.all_eq_true.1 heads_all n (List.mem_range.2 (by omega))
  simp only [Bool.or_eq_true, Bool.and_eq_true, decide_eq_true_eq] at this
  rcases this with h0 | h0
  · omega
  · exact h0
theorem told_head {t : ByteArray} {size : Int} (h : sizeB size = true) (h1 : ghB t = true) (h2 : ghN t = size) : t = headS size := by
  have hk : ghK t = size := by unfold ghN at h2; rw [if_pos h1] at h2; exact h2
  unfold ghB at h1
  simp only [Bool.and_eq_true, decide_eq_true_eq] at h1
  rw [hk, headR_yes h] at h1
  exact h1.2.symm
theorem file_begins {size : Int} {D : ByteArray} {L : List ByteArray} (h : IsFile size D L) : D.data.toList = (headS size).data.toList ++ (blks (ups L (cnt4 L)) ++ endL L) := h.2
theorem file_len {size : Int} {D : ByteArray} {L : List ByteArray} (h : IsFile size D L) : 28 ≤ D.size := by
  have := congrArg List.length (file_begins h)
  rw [data_length, List.length_append, List.length_append, headS_len, endL_length] at this
  omega
theorem blks_len {size : Int} : ∀ {ps : List (List ByteArray)}, (∀ p ∈ ps, blkB size p = true) → ps.flatten.length ≤ (blks ps).length
  | [], _ => by simp [blks]
  | p :: ps, h => by
    have ih := blks_len (ps := ps) fun q hq => h q (List.mem_cons_of_mem _ hq)
    obtain ⟨n, e1, _, _, e2, _⟩ := blk_cl (h p (by simp))
    obtain ⟨h1, _, _⟩ := blk_parts (h p (by simp))
    have hs : 1 ≤ size ∧ size ≤ 64 := by simpa [sizeB] using h1
    rw [blks_cons, List.flatten_cons, List.length_append, List.length_append, data_length, e1]
    have : (p.length : Int) * 1 ≤ p.length * size := Int.mul_le_mul_of_nonneg_left (by omega) (by omega)
    omega
theorem At.few {m : N3} {D : ByteArray} {ps : List (List ByteArray)} {r : ByteArray} (h : At m D ps r) : m.x.all.length + 11 ≤ D.size := by
  have h1 := blks_len h.bls
  have h2 := congrArg List.length h.all
  rw [data_length, List.length_append, List.length_append, headS_len] at h2
  rw [h.flat]; omega
theorem At.start {m : N3} {D : ByteArray} {ps : List (List ByteArray)} {r : ByteArray} {L : List ByteArray} (h : At m D ps r) (hi : IsFile m.x.size D L) : m.x.all.length ≤ L.length := by
  have h1 := h.all
  rw [file_begins hi] at h1
  have h2 := List.append_cancel_left h1
  obtain ⟨cs, c1, _⟩ := blks_pre _ _ _ _ h.bls (ups_blk hi.1) (endL_cons L) h2.symm
  have := congrArg List.length (congrArg List.flatten c1)
  rw [ups_all, List.flatten_append, List.length_append] at this
  rw [h.flat]; omega
end RdPlain
end Go.Proofs.YtjplkmmhjfpdaaaGreatDoor

/- In one text: RnCalm, RnPlain, LoPlain. -/
import Derived.Test.YtdlomcgkpiejgaaGreatDoorP15
import Derived.Test.YtdlomcgkpiejgaaGreatDoorP00
/- Plain facts: a reader that is opened beside others; where there is just room enough no call of a writer fails. -/
namespace Go.Proofs.YtdlomcgkpiejgaaGreatDoor
open Go.RowKit FsPlain CrcPlain OctPlain FramePlain RecPlain RdPlain
set_option linter.unusedVariables false
set_option linter.unusedSimpArgs false
set_option maxRecDepth 20000
namespace RdPlain
/-- What a failed Open leaves. -/
structure NoOpen (s : St) (b : Bu) (D : ByteArray) (size : Int) (R : St × Bu × Int × Nat) : Prop where
  ok : R.1.ok
  disk : Quiet s R.1
  how : (R.2.2.1 = 1 ∧ R.2.1 = b ∧ ∀ L, ¬ IsFile size D L) ∨ (R.2.2.1 = b.takeE 4 ∧ b.takeE 4 ≠ 0 ∧ R.2.1 = b.take 4) ∨ (b.takeE 4 = 0 ∧ R.2.1 = (b.take 4).give 4 ∧ ((R.2.2.1 = 6 ∧ ∀ L, ¬ IsFile size D L) ∨ (R.2.2.1 = 5 ∧ ¬ (s.down = false ∧ s.ahead = -1))))
theorem open_f {s : St} {b : Bu} {nm : ByteArray} {size : Int} {D : ByteArray} (h : HasD s nm.data.toList D) (hs : s.ok) (hb : b.ok) (hn : nm.size ≤ 24) (hm : rightB nm.data.toList = true) :
    ((openN s b nm size).2.2.1 = 0 ∧ b.takeE 4 = 0 ∧ (openN s b nm size).2.1 = b.take 4 ∧ Quiet s (openN s b nm size).1 ∧ ReadF ⟨(openN s b nm size).1, (openN s b nm size).2.1, newRs nm size (openN s b nm size).2.2.2⟩ D size []) ∨
    ((openN s b nm size).2.2.1 ≠ 0 ∧ NoOpen s b D size (openN s b nm size)) := by
  have q1 := quiet_call s
  have q2 := q1.trans (quiet_call s.call)
  have nocalm1 : s.call.down = true → ¬ (s.down = false ∧ s.ahead = -1) := fun hd k => by
    have := q1.calm k.1 k.2; rw [this.1] at hd; cases hd
  have nocalm2 : s.call.call.down = true → ¬ (s.down = false ∧ s.ahead = -1) := fun hd k => by
    have := q2.calm k.1 k.2; rw [this.1] at hd; cases hd
  cases hz : sizeB size
  · right
    have e : openN s b nm size = (s, b, 1, 0) := by unfold openN; rw [if_pos hz]
    rw [e]
    refine ⟨by simp, hs, Quiet.refl _, .inl ⟨rfl, rfl, fun L hL => ?_⟩⟩
    have := hL.1
    unfold layB at this
    rw [hz] at this; cases this
  · by_cases hb4 : b.takeE 4 = 0
    · have hsz := size_up s nm.data.toList
      rw [h.up.size] at hsz
      by_cases hd1 : s.call.down = true
      · right
        rw [if_pos hd1] at hsz
        have e : openN s b nm size = (s.call, (b.take 4).give 4, 5, 0) := by
          unfold openN; rw [if_neg (by rw [hz]; decide), if_neg (by rw [hb4]; decide), hsz, if_pos (by decide)]
        rw [e]
        exact ⟨by simp, ok_call hs, q1, .inr (.inr ⟨hb4, rfl, .inr ⟨rfl, nocalm1 hd1⟩⟩)⟩
      · rw [if_neg hd1] at hsz
        by_cases h11 : D.size < 11
        · right
          have e : openN s b nm size = (s.call, (b.take 4).give 4, 6, 0) := by
            unfold openN; rw [if_neg (by rw [hz]; decide), if_neg (by rw [hb4]; decide), hsz, if_neg (by simp), if_pos (by simp only []; omega)]
          rw [e]
          refine ⟨by simp, ok_call hs, q1, .inr (.inr ⟨hb4, rfl, .inl ⟨rfl, fun L hi => ?_⟩⟩)⟩
          have := file_len hi; omega
        · have hrd := read_up s.call nm.data.toList 0 11
          have hsu := (h.quiet q1).up
          rw [hsu.read 11 (by omega)] at hrd
          by_cases hd2 : s.call.call.down = true
          · right
            rw [if_pos hd2] at hrd
            have e : openN s b nm size = (s.call.call, (b.take 4).give 4, 5, 0) := by
              unfold openN; rw [if_neg (by rw [hz]; decide), if_neg (by rw [hb4]; decide), hsz, if_neg (by simp), if_neg (by simp only []; omega), hrd, if_pos (by decide)]
            rw [e]
            exact ⟨by simp, ok_call (ok_call hs), q2, .inr (.inr ⟨hb4, rfl, .inr ⟨rfl, nocalm2 hd2⟩⟩)⟩
          · rw [if_neg hd2] at hrd
            have e : openN s b nm size = if ¬ (ghB (bs (D.data.toList.take 11)) = true ∧ ghN (bs (D.data.toList.take 11)) = size) then (s.call.call, (b.take 4).give 4, 6, 0) else (s.call.call, b.take 4, 0, D.size - 11) := by
              unfold openN
              rw [if_neg (by rw [hz]; decide), if_neg (by rw [hb4]; decide), hsz, if_neg (by simp), if_neg (by simp only []; omega), hrd, if_neg (by simp)]
              simp only [Int.toNat_natCast]
            by_cases hh : ghB (bs (D.data.toList.take 11)) = true ∧ ghN (bs (D.data.toList.take 11)) = size
            · left
              have e2 := e
              rw [if_neg (by simpa using hh)] at e2
              have h0 : (openN s b nm size).2.2.1 = 0 := by rw [e2]
              have hok := openN_ok hs hb hn hm h0
              have ht := told_head hz hh.1 hh.2
              have hd : D.data.toList = (headS size).data.toList ++ D.data.toList.drop 11 := by
                rw [← ht, bs_data, List.take_append_drop]
              refine ⟨h0, hb4, by rw [e2], by rw [e2]; exact q2, hok, inv_new _ _ _ _ _, rfl, rfl, rfl, ?_, rfl⟩
              rw [e2]
              refine ⟨[], bs (D.data.toList.drop 11), (show HasD s.call.call nm.data.toList D from h.quiet q2), rfl, rfl, hz, by rw [bs_data]; exact hd, rfl, ?_, (fun p hp => by cases hp), (fun j p hj => by simp at hj), (fun hs => by cases hs), (fun _ p hp => by cases hp), rfl⟩
              show D.size - 11 = _
              rw [bs_size, List.length_drop, data_length]
            · right
              rw [if_pos hh] at e
              rw [e]
              refine ⟨by simp, ok_call (ok_call hs), q2, .inr (.inr ⟨hb4, rfl, .inl ⟨rfl, fun L hi => hh ?_⟩⟩)⟩
              have hd := file_begins hi
              have ht : bs (D.data.toList.take 11) = headS size := by
                rw [hd, List.take_append_of_le_length (by rw [headS_len]; omega), List.take_of_length_le (by rw [headS_len]; omega)]
                exact bs_toList _
              rw [ht]; exact head_told hz
    · right
      have e : openN s b nm size = (s, b.take 4, b.takeE 4, 0) := by
        unfold openN; rw [if_neg (by rw [hz]; decide), if_pos hb4]
      rw [e]
      exact ⟨hb4, hs, Quiet.refl _, .inr (.inl ⟨rfl, hb4, rfl⟩)⟩
end RdPlain
namespace WrPlain
/-- How much a writer's file takes. -/
def Fits (m : M3) (U : Nat) : Prop := used m.s.fs + 69 * m.x.wait.length ≤ U + 11 + 69 * m.x.all.length
theorem blkS_69 {m : M3} (hm : m.ok) {l : List ByteArray} (h1 : 1 ≤ l.length) (h4 : l.length ≤ 4) (hz : ∀ r ∈ l, (r.size : Int) = m.x.size) : (blkS m.x.size l).size ≤ 69 * l.length := by
  have hs : 1 ≤ m.x.size ∧ m.x.size ≤ 64 := by simpa [sizeB] using hm.z
  cases hb : blkB m.x.size l
  · rw [blkS_no hb]; show 0 ≤ _; omega
  · obtain ⟨n, e1, _, _, e2, _⟩ := blk_cl hb
    rw [blkS_yes hb, e1]
    have : (l.length : Int) * m.x.size ≤ l.length * 64 := Int.mul_le_mul_of_nonneg_left (by omega) (by omega)
    omega
theorem put_fits {m : M3} {nm : ByteArray} {nn : Int} {done : List ByteArray} {r : ByteArray} {U : Nat} (h : WrOn m nm nn done) (hc : Calm m.s) (hz : (r.size : Int) = nn) (hF : Fits m U) (hr : (U : Int) + 11 + 69 * ((done.length : Nat) + 1) ≤ m.s.room) :
    (putM m r).2 = 0 ∧ Calm (putM m r).1.s ∧ Fits (putM m r).1 U := by
  obtain ⟨hm, ho, hnm, hsz, hal, j, f, hL⟩ := h
  have hz' : (r.size : Int) = m.x.size := by omega
  have hlen : m.x.all.length = done.length := by rw [hal]
  have e : putM m r = if m.x.wait.length < 3 then (⟨m.s, m.b, m.x.put r⟩, 0) else layM ⟨m.s, m.b, (m.x.put r).none⟩ (blkS m.x.size (m.x.wait ++ [r])) := by
    unfold putM; rw [if_neg (by rw [ho]; decide), if_neg (by simpa using hz')]
  unfold Fits at hF ⊢
  by_cases hw : m.x.wait.length < 3
  · rw [if_pos hw] at e
    rw [e]
    refine ⟨rfl, hc, ?_⟩
    show used m.s.fs + 69 * (m.x.wait ++ [r]).length ≤ U + 11 + 69 * (m.x.all ++ [r]).length
    rw [List.length_append, List.length_append, List.length_singleton]; omega
  · rw [if_neg hw] at e
    have hall : ∀ q ∈ m.x.wait ++ [r], (q.size : Int) = m.x.size := fun q hq => by
      rcases List.mem_append.1 hq with hq | hq
      · exact hm.wz q hq
      · rw [List.mem_singleton.1 hq]; exact hz'
    have az : ∀ q ∈ m.x.all ++ [r], (q.size : Int) = m.x.size := fun q hq => by
      rcases List.mem_append.1 hq with hq | hq
      · exact hm.az q hq
      · rw [List.mem_singleton.1 hq]; exact hz'
    have hwl := hm.wl
    have hb := blkS_69 hm (l := m.x.wait ++ [r]) (by simp) (by simp; omega) hall
    rw [List.length_append, List.length_singleton] at hb
    obtain ⟨h1, h2, h3, h4⟩ := layM_calm (m := ⟨m.s, m.b, (m.x.put r).none⟩) (t := blkS m.x.size (m.x.wait ++ [r])) ⟨hm.s, hm.b, hm.n1, hm.n2, hm.z, Nat.zero_le _, (fun q hq => by cases hq), az⟩ hc hL.get (by show (used m.s.fs : Int) + _ ≤ m.s.room; omega)
    rw [e]
    obtain ⟨_, k2⟩ := layM_ok h1
    refine ⟨h1, h2, ?_⟩
    rw [h4, k2]
    show used m.s.fs + _ + 69 * 0 ≤ U + 11 + 69 * (m.x.all ++ [r]).length
    rw [List.length_append, List.length_singleton]; omega
theorem close_fits {m : M3} {nm : ByteArray} {nn : Int} {done : List ByteArray} {U : Nat} (h : WrOn m nm nn done) (hc : Calm m.s) (hF : Fits m U) (hr : (U : Int) + 28 + 69 * (done.length : Nat) ≤ m.s.room) :
    (closeM m).2 = 0 ∧ Calm (closeM m).1.s ∧ used (closeM m).1.s.fs ≤ U + 28 + 69 * done.length := by
  obtain ⟨hm, ho, hnm, hsz, hal, j, f, hL⟩ := h
  have hlen : m.x.all.length = done.length := by rw [hal]
  unfold Fits at hF
  have hfl : (flushM m).2 = 0 ∧ Calm (flushM m).1.s ∧ (flushM m).1.s.room = m.s.room ∧ used (flushM m).1.s.fs ≤ U + 11 + 69 * m.x.all.length ∧ (flushM m).1.ok := by
    unfold flushM
    split
    · exact ⟨rfl, hc, rfl, by show used m.s.fs ≤ _; omega, hm⟩
    · rename_i hw
      have hb := blkS_69 hm (l := m.x.wait) (by omega) (by have := hm.wl; omega) hm.wz
      obtain ⟨h1, h2, h3, h4⟩ := layM_calm hm hc hL.get (t := blkS m.x.size m.x.wait) (by omega)
      exact ⟨h1, h2, h3, by rw [h4]; omega, ok_layM hm _⟩
  obtain ⟨f1, f2, f3, f4, f5⟩ := hfl
  obtain ⟨f', g1, g2, g3, g4⟩ := laid_flush hm hL f1
  have hp : (peS (flushM m).1.x.all.length (sumN (flushM m).1.x.all)).size ≤ 17 := by
    cases hb : peB ((flushM m).1.x.all.length : Int)
    · rw [peS_no hb]; decide
    · rw [peS_yes hb, cl_size, endS_size]; decide
  obtain ⟨e1, e2, e3, e4⟩ := layM_calm f5 f2 (f := f') (by rw [g3]; exact g1) (t := peS (flushM m).1.x.all.length (sumN (flushM m).1.x.all)) (by omega)
  obtain ⟨k1, k2⟩ := layM_ok (m := (flushM m).1) e1
  have hx : (endM (flushM m).1).1.x = m.x := by
    show (layM (flushM m).1 _).1.x = _
    rw [k2, ← g3]
  have hg : ∃ q, (endM (flushM m).1).1.s.get m.x.nm.data.toList = some q := by
    show ∃ q, (layM (flushM m).1 _).1.s.get _ = some q
    rw [k2]
    have := append_get (s := (flushM m).1.s) (n := (flushM m).1.x.nm.data.toList) (by rw [g3]; exact g1) k1
    rw [g3] at this ⊢
    exact ⟨_, this⟩
  obtain ⟨q, hq⟩ := hg
  have e2' : Calm (endM (flushM m).1).1.s := e2
  have e4' : used (endM (flushM m).1).1.s.fs = _ := e4
  have hs0 := sync_calm e2' hq
  have e : closeM m = (dropM (syncM (endM (flushM m).1).1).1, (syncM (endM (flushM m).1).1).2) := by
    have e1' : (endM (flushM m).1).2 = 0 := e1
    unfold closeM
    rw [if_neg (by rw [ho]; decide), if_neg (by omega), if_neg (by omega)]
  have hsy : (syncM (endM (flushM m).1).1).1.s = (syncR (endM (flushM m).1).1.s m.x.nm.data.toList).1 ∧ (syncM (endM (flushM m).1).1).2 = (syncR (endM (flushM m).1).1.s m.x.nm.data.toList).2 := by
    unfold syncM; rw [hx]; exact ⟨rfl, rfl⟩
  have hdr : ∀ M : M3, (dropM M).s = M.s := fun M => by unfold dropM; split <;> rfl
  rw [e]
  refine ⟨by rw [hsy.2]; exact hs0, ?_, ?_⟩
  · rw [hdr, hsy.1]
    exact (oth_sync _ _).calm e2'.1 e2'.2
  · rw [hdr, hsy.1]
    have hu : used (syncR (endM (flushM m).1).1.s m.x.nm.data.toList).1.fs = used (endM (flushM m).1).1.s.fs := by
      unfold syncR
      split
      · rfl
      · rw [hq]
        simp only []
        have hok : (endM (flushM m).1).1.s.ok := by show (layM (flushM m).1 _).1.s.ok; exact (ok_layM f5 _).s
        obtain ⟨A, C, e1, _, _, _, hu⟩ := get_split (s := (endM (flushM m).1).1.s.call) (ok_call hok) (n := m.x.nm.data.toList) (f := q) hq
        rw [hu]
        have h2 := used_split A C q { q with kept := q.data.length }
        have h3 : (endM (flushM m).1).1.s.fs = A ++ q :: C := e1
        rw [h3]
        simp only [] at h2
        omega
    rw [hu, e4']
    omega
theorem create_fits {s : St} {b : Bu} {nm : ByteArray} {nn : Int} (hs : s.ok) (hb : b.takeE 4 = 0) (hc : Calm s) (hz : sizeB nn = true) (hg : s.get nm.data.toList = none) (hn : nm.size ≤ 24) (hl : s.fs.length < 200) (hr : (used s.fs : Int) + 11 ≤ s.room) :
    (createM s b nm nn).2.2 = 0 ∧ Calm (createM s b nm nn).1 ∧ used (createM s b nm nn).1.fs = used s.fs + 11 := by
  obtain ⟨hc1, hd1⟩ := calm_call hc
  have e1 : createR s nm.data.toList = ({ s.call with fs := insF ⟨nm.data.toList, [], 0⟩ s.fs }, 0) := by
    unfold createR
    rw [if_neg (by rw [hd1]; decide), hg]
    simp only []
    rw [if_neg (by omega)]
  have hok := ok_createR hs (n := nm.data.toList) (by rw [show nm.data.toList.length = nm.size from Array.length_toList]; exact hn)
  have hcr : Calm (createR s nm.data.toList).1 := by rw [e1]; exact hc1
  have hu : used (createR s nm.data.toList).1.fs = used s.fs := by
    rw [e1]
    have := used_perm (insF_perm ⟨nm.data.toList, [], 0⟩ s.fs)
    show used (insF _ _) = _
    rw [this]; unfold used; simp
  have hgt : (createR s nm.data.toList).1.get nm.data.toList = some ⟨nm.data.toList, [], 0⟩ := create_get (by rw [e1])
  have hh : (headS nn).data.toList.length = 11 := headS_length nn
  have hroom : (createR s nm.data.toList).1.room = s.room := by rw [e1]; rfl
  obtain ⟨a1, a2, a3, a4⟩ := append_calm hok hcr hgt (t := (headS nn).data.toList) (by rw [hu, hh, hroom]; omega)
  have e : createM s b nm nn = ((appendR (createR s nm.data.toList).1 nm.data.toList (headS nn).data.toList).1, b.take 4, 0) := by
    unfold createM
    rw [if_neg (by rw [hz]; decide), if_neg (by rw [hb]; decide), if_neg (by rw [e1]; simp), if_neg (by rw [a1]; simp)]
  rw [e]
  exact ⟨rfl, a2, by rw [a4, hu, hh]⟩
end WrPlain
end Go.Proofs.YtdlomcgkpiejgaaGreatDoor
/- Runs: texts in order, at most so many; plain. -/
namespace Go.Proofs.YtdlomcgkpiejgaaGreatDoor
open Go.RowKit
set_option linter.unusedVariables false
set_option linter.unusedSimpArgs false
set_option maxRecDepth 20000
namespace RnPlain
def ltT (a b : ByteArray) : Bool := Op.bytesLess a.toList b.toList
/-- a is no later than b. -/
def leT (a b : ByteArray) : Bool := ltT a b || (a.toList == b.toList)
def digB (n : Nat) : List UInt8 := if n < 10 then [UInt8.ofNat (48 + n)] else digB (n / 10) ++ [UInt8.ofNat (48 + n % 10)]
termination_by n
decreasing_by omega
def nameN (s : ByteArray) (i : Int) : ByteArray := if i < 0 then ⟨#[]⟩ else (s ++ bs [46]) ++ bs (digB i.toNat)
def insT (l : List ByteArray) (s : ByteArray) : List ByteArray := l.takeWhile (fun x => leT x s) ++ s :: l.dropWhile (fun x => leT x s)
def hasT (l : List ByteArray) (s : ByteArray) : Bool := l.any fun x => decide (x = s)
def putT (u : Bool) (l : List ByteArray) (s : ByteArray) : List ByteArray := if (!u || !hasT l s) = true then insT l s else l
def sortT (l : List ByteArray) (u : Bool) : List ByteArray := l.foldl (putT u) []
/-- Each m of them, from the front on. -/
def runsT (m : Nat) (u : Bool) : Nat → List ByteArray → List (List ByteArray)
  | 0, _ => []
  | f + 1, l => if l.isEmpty = true then [] else sortT (l.take m) u :: runsT m u f (l.drop m)
theorem digB_small {n : Nat} (h : n < 10) : digB n = [UInt8.ofNat (48 + n)] := by rw [digB, if_pos h]
theorem digB_big {n : Nat} (h : ¬ n < 10) : digB n = digB (n / 10) ++ [UInt8.ofNat (48 + n % 10)] := by rw [digB, if_neg h]
theorem digB_le : ∀ f n, n < f → (digB n).length ≤ n + 1
  | f + 1, n, h => by
    by_cases h10 : n < 10
    · rw [digB_small h10]; simp
    · rw [digB_big h10, List.length_append]
      have := digB_le f (n / 10) (by omega)
      simp only [List.length_singleton]
      omega
theorem insT_length (l : List ByteArray) (s : ByteArray) : (insT l s).length = l.length + 1 := by
  unfold insT
  have := congrArg List.length (List.takeWhile_append_dropWhile (p := fun x => leT x s) (l := l))
  rw [List.length_append] at this
  rw [List.length_append, List.length_cons]
  omega
theorem putT_le (u : Bool) (l : List ByteArray) (s : ByteArray) : (putT u l s).length ≤ l.length + 1 := by
  unfold putT
  split
  · rw [insT_length]; exact Nat.le_refl _
  · omega
theorem sortT_snoc (l : List ByteArray) (u : Bool) (s : ByteArray) : sortT (l ++ [s]) u = putT u (sortT l u) s := by unfold sortT; rw [List.foldl_append]; rfl
theorem sortT_le (l : List ByteArray) (u : Bool) : (sortT l u).length ≤ l.length := by
  have key : ∀ (l acc : List ByteArray), (l.foldl (putT u) acc).length ≤ acc.length + l.length := by
    intro l
    induction l with
    | nil => intro acc; simp
    | cons x r ih =>
      intro acc
      have h1 := ih (putT u acc x)
      have h2 := putT_le u acc x
      simp only [List.foldl_cons, List.length_cons]
      omega
  simpa [sortT] using key l []
/-- The first ones that are no later than s, one more of them. -/
theorem tw_step {l : List ByteArray} {s x : ByteArray} {j : Nat} (h : ∀ y ∈ l.take j, leT y s = true) (hx : l[j]? = some x) (hl : leT x s = true) : ∀ y ∈ l.take (j + 1), leT y s = true := by
  intro y hy
  rw [List.take_add_one, hx] at hy
  rcases List.mem_append.1 hy with hy | hy
  · exact h y hy
  · have : y = x := by simpa using hy
    rw [this]; exact hl
theorem tw_end : ∀ {l : List ByteArray} {s : ByteArray} {j : Nat}, (∀ y ∈ l.take j, leT y s = true) → (∀ x, l[j]? = some x → leT x s = false) → insT l s = l.take j ++ s :: l.drop j
  | [], s, j, _, _ => by simp [insT]
  | x :: r, s, 0, _, h => by
    have := h x rfl
    simp [insT, List.takeWhile, List.dropWhile, this]
  | x :: r, s, j + 1, h1, h2 => by
    have hx := h1 x (by simp)
    have ih := tw_end (l := r) (s := s) (j := j) (fun y hy => h1 y (by simp [hy])) (fun y hy => h2 y (by simpa using hy))
    unfold insT at ih ⊢
    simp only [List.takeWhile_cons, List.dropWhile_cons, hx, if_true, List.take_succ_cons, List.drop_succ_cons, List.cons_append]
    rw [ih]
end RnPlain
end Go.Proofs.YtdlomcgkpiejgaaGreatDoor
/- Heads of sources, and which is the least; plain. -/
namespace Go.Proofs.YtdlomcgkpiejgaaGreatDoor
open Go.RowKit
set_option linter.unusedVariables false
set_option linter.unusedSimpArgs false
set_option maxRecDepth 20000
namespace LoPlain
/-- A source's head, and whether it is over. -/
structure Hd where
  s : ByteArray
  o : Bool
def ltS (a b : ByteArray) : Bool := Op.bytesLess a.toList b.toList
def sAt (l : List Hd) (i : Nat) : ByteArray := ((l[i]?).map Hd.s).getD ⟨#[]⟩
def oAt (l : List Hd) (i : Nat) : Bool := ((l[i]?).map Hd.o).getD true
/-- The least of the first ones, -1 if there is none. -/
def bestN (l : List Hd) : Nat → Int
  | 0 => -1
  | j + 1 => if (!oAt l j && (decide (bestN l j < 0) || ltS (sAt l j) (sAt l (bestN l j).toNat))) = true then (j : Int) else bestN l j
def leastN (l : List Hd) : Int := bestN l l.length
def leastI (l : List Hd) : Int := max 0 (leastN l)
def leastB (l : List Hd) : Bool := decide (0 ≤ leastN l)
def headS (l : List Hd) : ByteArray := if leastB l = true then sAt l (leastN l).toNat else ⟨#[]⟩
def nextL (l : List Hd) (s : ByteArray) (o : Bool) : List Hd := if leastB l = true then l.set (leastN l).toNat ⟨s, o⟩ else l
def leftN (l : List Hd) : Nat := l.countP (fun x => !x.o)
def mkL : List ByteArray → List Bool → List Hd
  | [], _ => []
  | h :: r, [] => ⟨h, false⟩ :: mkL r []
  | h :: r, o :: os => ⟨h, o⟩ :: mkL r os
theorem bestN_range (l : List Hd) : ∀ j, -1 ≤ bestN l j ∧ bestN l j < (j : Int)
  | 0 => by simp [bestN]
  | j + 1 => by
    have h := bestN_range l j
    rw [bestN]
    split <;> omega
theorem leastN_range (l : List Hd) : -1 ≤ leastN l ∧ leastN l < (l.length : Int) := bestN_range l _
theorem oAt_none {l : List Hd} {i : Nat} (h : l.length ≤ i) : oAt l i = true := by
  unfold oAt; rw [List.getElem?_eq_none h]; rfl
theorem oAt_at {l : List Hd} {i : Nat} {x : Hd} (h : l[i]? = some x) : oAt l i = x.o := by unfold oAt; rw [h]; rfl
theorem sAt_at {l : List Hd} {i : Nat} {x : Hd} (h : l[i]? = some x) : sAt l i = x.s := by unfold sAt; rw [h]; rfl
theorem bestN_on (l : List Hd) : ∀ j, 0 ≤ bestN l j → oAt l (bestN l j).toNat = false
  | 0, h => by simp [bestN] at h
  | j + 1, h => by
    rw [bestN] at h ⊢
    split at h
    · rename_i hc
      rw [if_pos hc]
      simp only [Bool.and_eq_true, Bool.not_eq_true'] at hc
      exact hc.1
    · rename_i hc
      rw [if_neg hc]
      exact bestN_on l j h
theorem mkL_length : ∀ (h : List ByteArray) (o : List Bool), (mkL h o).length = h.length
  | [], _ => by simp [mkL]
  | h :: r, [] => by simp [mkL, mkL_length r []]
  | h :: r, o :: os => by simp [mkL, mkL_length r os]
theorem mkL_at : ∀ (h : List ByteArray) (o : List Bool) (i : Nat) (s : ByteArray), h[i]? = some s → (mkL h o)[i]? = some ⟨s, (o[i]?).getD false⟩
  | [], _, i, s, e => by simp at e
  | h :: r, [], 0, s, e => by simp at e; simp [mkL, e]
  | h :: r, [], i + 1, s, e => by
    have := mkL_at r [] i s (by simpa using e)
    simpa [mkL] using this
  | h :: r, o :: os, 0, s, e => by simp at e; simp [mkL, e]
  | h :: r, o :: os, i + 1, s, e => by
    have := mkL_at r os i s (by simpa using e)
    simpa [mkL] using this
theorem nextL_length (l : List Hd) (s : ByteArray) (o : Bool) : (nextL l s o).length = l.length := by unfold nextL; split <;> simp
theorem leftN_snoc (l : List Hd) (x : Hd) : leftN (l ++ [x]) = leftN l + (if x.o = true then 0 else 1) := by
  unfold leftN
  rw [List.countP_append]
  cases x with | mk s o => cases o <;> simp
theorem leftN_le (l : List Hd) : leftN l ≤ l.length := List.countP_le_length
end LoPlain
end Go.Proofs.YtdlomcgkpiejgaaGreatDoor

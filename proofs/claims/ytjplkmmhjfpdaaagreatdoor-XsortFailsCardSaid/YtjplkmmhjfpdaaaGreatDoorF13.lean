/- In one text: FsA0, RnForm, RnCalm, MgPlain. -/
import Derived.Test.YtjplkmmhjfpdaaaGreatDoorF12
import Derived.Test.YtjplkmmhjfpdaaaGreatDoorF10
import Derived.Test.YtjplkmmhjfpdaaaGreatDoorF09
/- The program's disk as a part of a world: what Create, Append, Sync, Size, Read leave. -/
namespace Go.Proofs.YtjplkmmhjfpdaaaGreatDoor
open Go.RowKit Go.Maps FsPlain
set_option linter.unusedVariables false
set_option linter.unusedSimpArgs false
set_option maxRecDepth 20000
def DiskA (p : Nat) (s : St) : Asn := fun w B => Disk w p s B
theorem fr_disk (p : Nat) (s : St) : Fr (DiskA p s) := ⟨fun h o d => Disk.only h o d, fun h => Disk.low h⟩
theorem tells_does {w w' : World} {p : Nat} {s : St} {B : Nat → Prop} {v : Value} {e : Ending} (h : Tells w p s B v e w') : Does w B (DiskA p s) v e w' := by
  obtain ⟨he, B', d, o, f⟩ := h
  exact ⟨he, B', d, o, f⟩
theorem d_create (p : Nat) (s : St) (n : ByteArray) (hn : n.size ≤ 1000) (hm : rightB n.data.toList = true) (h1 : s.calls ≤ 1000000000000) (w : World) (B : Nat → Prop) (h : DiskA p s w B) :
    Calls Tryz.prog 10 #[.pointer (some ⟨p, 0, none⟩), .string n] w (Does w B (DiskA p (createR s n.data.toList).1) (.int .i64 (createR s n.data.toList).2)) :=
  (create_c p s B n w h (by unfold maxLen; omega) hm h1).mono fun _ _ => tells_does
theorem d_append (p : Nat) (s : St) (n t : ByteArray) (hn : n.size ≤ 1000) (hm : rightB n.data.toList = true) (h1 : s.calls ≤ 1000000000000) (ht : t.size ≤ 1000000000) (w : World) (B : Nat → Prop) (h : DiskA p s w B) :
    Calls Tryz.prog 11 #[.pointer (some ⟨p, 0, none⟩), .string n, .string t] w (Does w B (DiskA p (appendR s n.data.toList t.data.toList).1) (.int .i64 (appendR s n.data.toList t.data.toList).2)) :=
  (append_c p s B n t w h (by unfold maxLen; omega) hm h1 (by omega)).mono fun _ _ => tells_does
theorem d_sync (p : Nat) (s : St) (n : ByteArray) (hn : n.size ≤ 1000) (hm : rightB n.data.toList = true) (h1 : s.calls ≤ 1000000000000) (w : World) (B : Nat → Prop) (h : DiskA p s w B) :
    Calls Tryz.prog 194 #[.pointer (some ⟨p, 0, none⟩), .string n] w (Does w B (DiskA p (syncR s n.data.toList).1) (.int .i64 (syncR s n.data.toList).2)) :=
  (sync_c p s B n w h (by unfold maxLen; omega) hm h1).mono fun _ _ => tells_does
theorem d_size (p : Nat) (s : St) (n : ByteArray) (hn : n.size ≤ 1000) (hm : rightB n.data.toList = true) (h1 : s.calls ≤ 1000000000000) (w : World) (B : Nat → Prop) (h : DiskA p s w B) :
    Calls Tryz.prog 15 #[.pointer (some ⟨p, 0, none⟩), .string n] w (Does w B (DiskA p s.call) (.tuple #[.int .i64 (sizeR s n.data.toList).1, .int .i64 (sizeR s n.data.toList).2])) :=
  (size_c p s B n w h (by unfold maxLen; omega) hm h1).mono fun _ _ => tells_does
theorem d_read (p : Nat) (s : St) (n : ByteArray) (i k : Nat) (hn : n.size ≤ 1000) (hm : rightB n.data.toList = true) (h1 : s.calls ≤ 1000000000000) (hi : i ≤ 1000000000) (hk : k ≤ 1000000000) (w : World) (B : Nat → Prop) (h : DiskA p s w B) :
    Calls Tryz.prog 16 #[.pointer (some ⟨p, 0, none⟩), .string n, .int .i64 (i : Int), .int .i64 (k : Int)] w (Does w B (DiskA p s.call) (.tuple #[.string (bs (readR s n.data.toList i k).1), .int .i64 (readR s n.data.toList i k).2])) :=
  (read_c p s B n i k w h (by unfold maxLen; omega) hm h1 (by omega) (by omega)).mono fun _ _ => tells_does
end Go.Proofs.YtjplkmmhjfpdaaaGreatDoor
/- What Form leaves of a disk and a budget: as the laws want it, whatever its text. -/
namespace Go.Proofs.YtjplkmmhjfpdaaaGreatDoor
open Go.RowKit FsPlain CrcPlain OctPlain FramePlain RecPlain RdPlain RnPlain
set_option linter.unusedVariables false
set_option linter.unusedSimpArgs false
set_option maxRecDepth 20000
def Names16 (s : St) (inn out : ByteArray) : Prop := ∀ i : Nat, i < 5000 → rightB (nameN out i).data.toList = true ∧ (nameN out i).size ≤ 24 ∧ nameN out i ≠ inn ∧ s.get (nameN out i).data.toList = none
structure RunsOf (s s' : St) (out : ByteArray) (size m : Int) (u : Bool) (L : List ByteArray) (k : Int) : Prop where
  k : k = ((runsT m.toNat u L.length L).length : Nat)
  file : ∀ (i : Nat) (l : List ByteArray), (runsT m.toNat u L.length L)[i]? = some l → HasD s' (nameN out i).data.toList (bs (layL size l))
  len : s'.fs.length = s.fs.length + (runsT m.toNat u L.length L).length
  oth : ∀ n, (∀ i : Nat, i < (runsT m.toNat u L.length L).length → n ≠ (nameN out (i : Int)).data.toList) → s'.get n = s.get n
structure FormO (s s' : St) (out : ByteArray) : Prop where
  oth : ∀ n, (∀ i : Nat, n ≠ (nameN out (i : Int)).data.toList) → s'.get n = s.get n
  room : s'.room = s.room
  cm : s.down = false → s.ahead = -1 → s'.down = false ∧ s'.ahead = -1
  len : s'.fs.length ≤ s.fs.length + 5001
theorem formO_refl (s : St) (out : ByteArray) : FormO s s out := ⟨fun _ _ => rfl, rfl, fun a b => ⟨a, b⟩, Nat.le_add_right _ _⟩
theorem formO_quiet {s s' : St} (out : ByteArray) (q : Quiet s s') : FormO s s' out := ⟨fun n _ => q.get n, q.room, q.calm, by rw [q.fs]; exact Nat.le_add_right _ _⟩
structure FormR (s : St) (b : Bu) (C inn out : ByteArray) (size m : Int) (u : Bool) (s' : St) (b' : Bu) (k er : Int) : Prop where
  k0 : er ≠ 0 → k = 0
  now : b'.now = b.now
  bm : b'.m = b.m
  calls : s'.calls ≤ s.calls + 1000000
  arg : m < 1 → er = 1
  yes : er = 0 → ∃ L, IsFile size C L ∧ RunsOf s s' out size m u L k
  code : ∀ L, IsFile size C L → 1 ≤ m → m + 8 ≤ b.m - b.now → er = 0 ∨ er = 4 ∨ er = 5
  calm : ∀ L, IsFile size C L → 1 ≤ m → m + 8 ≤ b.m - b.now → s.down = false → s.ahead = -1 → L.length ≤ 100 → s.fs.length ≤ 50 → (used s.fs : Int) + 100 * (L.length : Nat) ≤ s.room → er = 0 ∧ s'.down = false ∧ s'.ahead = -1
  rest : FormO s s' out
  usd : ∀ L, IsFile size C L → 1 ≤ m → m + 8 ≤ b.m - b.now → s.down = false → s.ahead = -1 → L.length ≤ 100 → s.fs.length ≤ 50 → (used s.fs : Int) + 100 * (L.length : Nat) ≤ s.room → used s'.fs ≤ used s.fs + 100 * L.length
def FormGot (D P : Nat) (s : St) (b : Bu) (C inn out : ByteArray) (size m : Int) (u : Bool) (w : World) (B : Nat → Prop) (e : Ending) (w' : World) : Prop :=
  ∃ s' b' k er, e = .returned (.tuple #[.int .i64 k, .int .i64 er]) ∧ FormR s b C inn out size m u s' b' k er ∧ ∃ B', stars [DiskA D s', BuA P b'] w' B' ∧ Nx B w B' w'
theorem dig_right : ∀ f n : Nat, n < f → (digB n).all letterB = true
  | f + 1, n, h => by
    have d : ∀ k : Nat, k < 10 → letterB (UInt8.ofNat (48 + k)) = true := by
      intro k hk
      have : (UInt8.ofNat (48 + k)).toNat = 48 + k := by simp; omega
      unfold letterB
      rw [this]
      simp only [decide_eq_true_eq]
      omega
    by_cases h10 : n < 10
    · rw [digB_small h10, List.all_cons, List.all_nil, d n h10]; rfl
    · rw [digB_big h10, List.all_append, dig_right f (n / 10) (by omega), List.all_cons, List.all_nil, d (n % 10) (by omega)]; rfl
theorem dig_few : ∀ n : Nat, n < 10000 → 1 ≤ (digB n).length ∧ (digB n).length ≤ 4 := by
  intro n hn
  by_cases h1 : n < 10
  · rw [digB_small h1]; simp
  · rw [digB_big h1]
    by_cases h2 : n / 10 < 10
    · rw [digB_small h2]; simp
    · rw [digB_big h2]
      by_cases h3 : n / 10 / 10 < 10
      · rw [digB_small h3]; simp
      · rw [digB_big h3, digB_small (n := n / 10 / 10 / 10) (by omega)]; simp
theorem dig_inj : ∀ (f a b : Nat), a < f → digB a = digB b → a = b
  | f + 1, a, b, h, e => by
    have d : ∀ x y : Nat, x < 10 → y < 10 → UInt8.ofNat (48 + x) = UInt8.ofNat (48 + y) → x = y := by
      intro x y hx hy h
      have := congrArg UInt8.toNat h
      simp at this
      omega
    have l1 : ∀ n : Nat, 1 ≤ (digB n).length := by
      intro n
      by_cases h : n < 10
      · rw [digB_small h]; simp
      · rw [digB_big h]; simp
    by_cases ha : a < 10
    · by_cases hb : b < 10
      · rw [digB_small ha, digB_small hb] at e
        exact d a b ha hb (by simpa using e)
      · rw [digB_small ha, digB_big hb] at e
        have h1 := congrArg List.length e
        have h2 := l1 (b / 10)
        rw [List.length_append, List.length_singleton, List.length_singleton] at h1
        omega
    · by_cases hb : b < 10
      · rw [digB_big ha, digB_small hb] at e
        have h1 := congrArg List.length e
        have h2 := l1 (a / 10)
        rw [List.length_append, List.length_singleton, List.length_singleton] at h1
        omega
      · rw [digB_big ha, digB_big hb] at e
        obtain ⟨e1, e2⟩ := List.append_inj' e rfl
        have h1 := dig_inj f (a / 10) (b / 10) (by omega) e1
        have h2 := d (a % 10) (b % 10) (by omega) (by omega) (by simpa using e2)
        omega
theorem name_inj {out : ByteArray} {i j : Nat} (h : (nameN out (i : Int)).data.toList = (nameN out (j : Int)).data.toList) : i = j := by
  unfold nameN at h
  rw [if_neg (by omega), if_neg (by omega), Int.toNat_natCast, Int.toNat_natCast] at h
  rw [app_data, app_data, bs_data, bs_data] at h
  have := List.append_cancel_left h
  exact dig_inj (i + 1) i j (by omega) this
def nmB : ByteArray := ⟨#[98]⟩
end Go.Proofs.YtjplkmmhjfpdaaaGreatDoor
/- Plain facts: a reader that is opened beside others; where there is just room enough no call of a writer fails. -/
namespace Go.Proofs.YtjplkmmhjfpdaaaGreatDoor
open Go.RowKit FsPlain CrcPlain OctPlain FramePlain RecPlain RdPlain
set_option linter.unusedVariables false
set_option linter.unusedSimpArgs false
set_option maxRecDepth 20000
namespace RdPlain
structure NoOpen (s : St) (b : Bu) (D : ByteArray) (size : Int) (R : St × Bu × Int × Nat) : Prop where
  ok : R.1.ok
  disk : Quiet s R.1
  how : (R.2.2.1 = 1 ∧ R.2.1 = b ∧ ∀ L, ¬ IsFile size D L) ∨ (R.2.2.1 = b.takeE 4 ∧ b.takeE 4 ≠ 0 ∧ R.2.1 = b.take 4) ∨ (b.takeE 4 = 0 ∧ R.2.1 = (b.take 4).give 4 ∧ ((R.2.2.1 = 6 ∧ ∀ L, ¬ IsFile size D L) ∨ (R.2.2.1 = 5 ∧ ¬ (s.down = false ∧ s.ahead = -1))))
theorem open_f {s : St} {b : Bu} {nm : ByteArray} {size : Int} {D : ByteArray} (h : HasD s nm.data.toList D) (hs : s.ok) (hb : b.ok) (hn : nm.size ≤ 24) (hm : rightB nm.data.toList = true) :
    ((openN s b nm size).2.2.1 = 0 ∧ b.takeE 4 = 0 ∧ (openN s b nm size).2.1 = b.take 4 ∧ Quiet s (openN s b nm size).1 ∧ ReadF ⟨(openN s b nm size).1, (openN s b nm size).2.1, newRs nm size (openN s b nm size).2.2.2⟩ D size []) ∨
    ((openN s b nm size).2.2.1 ≠ 0 ∧ NoOpen s b D size (openN s b nm size)) := by
  have q1 := quiet_call s
  have q2 := q1.trans (quiet_call s.call)
  have nocalm1 : s.call.down = true → ¬ (s.down = false ∧ s.ahead = -1) := fun hd k => by
    have := q1.calm k.1 k.2; rw [this.1] at hd; cases hd
  have nocalm2 : s.call.call.down = true → ¬ (s.down = false ∧ s.ahead = -1) := fun hd k => by
    have := q2.calm k.1 k.2; rw [this.1] at hd; cases hd
  cases hz : sizeB size
  · right
    have e : openN s b nm size = (s, b, 1, 0) := by unfold openN; rw [if_pos hz]
    rw [e]
    refine ⟨by simp, hs, Quiet.refl _, .inl ⟨rfl, rfl, fun L hL => ?_⟩⟩
    have := hL.1
    unfold layB at this
    rw [hz] at this; cases this
  · by_cases hb4 : b.takeE 4 = 0
    · have hsz := size_up s nm.data.toList
      rw [h.up.size] at hsz
      by_cases hd1 : s.call.down = true
      · right
        rw [if_pos hd1] at hsz
        have e : openN s b nm size = (s.call, (b.take 4).give 4, 5, 0) := by
          unfold openN; rw [if_neg (by rw [hz]; decide), if_neg (by rw [hb4]; decide), hsz, if_pos (by decide)]
        rw [e]
        exact ⟨by simp, ok_call hs, q1, .inr (.inr ⟨hb4, rfl, .inr ⟨rfl, nocalm1 hd1⟩⟩)⟩
      · rw [if_neg hd1] at hsz
        by_cases h11 : D.size < 11
        · right
          have e : openN s b nm size = (s.call, (b.take 4).give 4, 6, 0) := by
            unfold openN; rw [if_neg (by rw [hz]; decide), if_neg (by rw [hb4]; decide), hsz, if_neg (by simp), if_pos (by simp only []; omega)]
          rw [e]
          refine ⟨by simp, ok_call hs, q1, .inr (.inr ⟨hb4, rfl, .inl ⟨rfl, fun L hi => ?_⟩⟩)⟩
          have := file_len hi; omega
        · have hrd := read_up s.call nm.data.toList 0 11
          have hsu := (h.quiet q1).up
          rw [hsu.read 11 (by omega)] at hrd
          by_cases hd2 : s.call.call.down = true
          · right
            rw [if_pos hd2] at hrd
            have e : openN s b nm size = (s.call.call, (b.take 4).give 4, 5, 0) := by
              unfold openN; rw [if_neg (by rw [hz]; decide), if_neg (by rw [hb4]; decide), hsz, if_neg (by simp), if_neg (by simp only []; omega), hrd, if_pos (by decide)]
            rw [e]
            exact ⟨by simp, ok_call (ok_call hs), q2, .inr (.inr ⟨hb4, rfl, .inr ⟨rfl, nocalm2 hd2⟩⟩)⟩
          · rw [if_neg hd2] at hrd
            have e : openN s b nm size = if ¬ (ghB (bs (D.data.toList.take 11)) = true ∧ ghN (bs (D.data.toList.take 11)) = size) then (s.call.call, (b.take 4).give 4, 6, 0) else (s.call.call, b.take 4, 0, D.size - 11) := by
              unfold openN
              rw [if_neg (by rw [hz]; decide), if_neg (by rw [hb4]; decide), hsz, if_neg (by simp), if_neg (by simp only []; omega), hrd, if_neg (by simp)]
              simp only [Int.toNat_natCast]
            by_cases hh : ghB (bs (D.data.toList.take 11)) = true ∧ ghN (bs (D.data.toList.take 11)) = size
            · left
              have e2 := e
              rw [if_neg (by simpa using hh)] at e2
              have h0 : (openN s b nm size).2.2.1 = 0 := by rw [e2]
              have hok := openN_ok hs hb hn hm h0
              have ht := told_head hz hh.1 hh.2
              have hd : D.data.toList = (headS size).data.toList ++ D.data.toList.drop 11 := by
                rw [← ht, bs_data, List.take_append_drop]
              refine ⟨h0, hb4, by rw [e2], by rw [e2]; exact q2, hok, inv_new _ _ _ _ _, rfl, rfl, rfl, ?_, rfl⟩
              rw [e2]
              refine ⟨[], bs (D.data.toList.drop 11), (show HasD s.call.call nm.data.toList D from h.quiet q2), rfl, rfl, hz, by rw [bs_data]; exact hd, rfl, ?_, (fun p hp => by cases hp), (fun j p hj => by simp at hj), (fun hs => by cases hs), (fun _ p hp => by cases hp), rfl⟩
              show D.size - 11 = _
              rw [bs_size, List.length_drop, data_length]
            · right
              rw [if_pos hh] at e
              rw [e]
              refine ⟨by simp, ok_call (ok_call hs), q2, .inr (.inr ⟨hb4, rfl, .inl ⟨rfl, fun L hi => hh ?_⟩⟩)⟩
              have hd := file_begins hi
              have ht : bs (D.data.toList.take 11) = headS size := by
                rw [hd, List.take_append_of_le_length (by rw [headS_len]; omega), List.take_of_length_le (by rw [headS_len]; omega)]
                exact bs_toList _
              rw [ht]; exact head_told hz
    · right
      have e : openN s b nm size = (s, b.take 4, b.takeE 4, 0) := by
        unfold openN; rw [if_neg (by rw [hz]; decide), if_pos hb4]
      rw [e]
      exact ⟨hb4, hs, Quiet.refl _, .inr (.inl ⟨rfl, hb4, rfl⟩)⟩
end RdPlain
theorem give_now {b : Bu} {n : Int} (h : 0 ≤ n) : (b.give n).now = b.now - min n b.now ∧ (b.give n).m = b.m := by
  unfold Bu.give
  rw [if_neg (by omega)]
  exact ⟨rfl, rfl⟩
theorem take_yes {b : Bu} {n : Int} (h : b.takeE n = 0) (h0 : 0 ≤ n) : n ≤ b.m - b.now ∧ (b.take n).now = b.now + n ∧ (b.take n).m = b.m := by
  unfold Bu.takeE at h
  rw [if_neg (by omega)] at h
  split at h
  · cases h
  · unfold Bu.take
    rw [if_neg (by omega)]
    exact ⟨by omega, rfl, rfl⟩
theorem take_no {b : Bu} {n : Int} (h : b.takeE n ≠ 0) : b.take n = b ∧ (0 ≤ n → b.m - b.now < n ∧ b.takeE n = 9) := by
  unfold Bu.takeE at h ⊢
  unfold Bu.take
  split at h
  · rename_i h1
    exact ⟨by rw [if_pos (.inl h1)], fun k => absurd h1 (by omega)⟩
  · split at h
    · rename_i h1 h2
      refine ⟨by rw [if_pos (.inr h2)], fun k => ⟨h2, ?_⟩⟩
      rw [if_neg h1, if_pos h2]
    · exact absurd rfl h
namespace WrPlain
def Fits (m : M3) (U : Nat) : Prop := used m.s.fs + 69 * m.x.wait.length ≤ U + 11 + 69 * m.x.all.length
theorem blkS_69 {m : M3} (hm : m.ok) {l : List ByteArray} (h1 : 1 ≤ l.length) (h4 : l.length ≤ 4) (hz : ∀ r ∈ l, (r.size : Int) = m.x.size) : (blkS m.x.size l).size ≤ 69 * l.length := by
  have hs : 1 ≤ m.x.size ∧ m.x.size ≤ 64 := by simpa [sizeB] using hm.z
  cases hb : blkB m.x.size l
  · rw [blkS_no hb]; show 0 ≤ _; omega
  · obtain ⟨n, e1, _, _, e2, _⟩ := blk_cl hb
    rw [blkS_yes hb, e1]
    have : (l.length : Int) * m.x.size ≤ l.length * 64 := Int.mul_le_mul_of_nonneg_left (by omega) (by omega)
    omega
theorem put_fits {m : M3} {nm : ByteArray} {nn : Int} {done : List ByteArray} {r : ByteArray} {U : Nat} (h : WrOn m nm nn done) (hc : Calm m.s) (hz : (r.size : Int) = nn) (hF : Fits m U) (hr : (U : Int) + 11 + 69 * ((done.length : Nat) + 1) ≤ m.s.room) :
    (putM m r).2 = 0 ∧ Calm (putM m r).1.s ∧ Fits (putM m r).1 U := by
  obtain ⟨hm, ho, hnm, hsz, hal, j, f, hL⟩ := h
  have hz' : (r.size : Int) = m.x.size := by omega
  have hlen : m.x.all.length = done.length := by rw [hal]
  have e : putM m r = if m.x.wait.length < 3 then (⟨m.s, m.b, m.x.put r⟩, 0) else layM ⟨m.s, m.b, (m.x.put r).none⟩ (blkS m.x.size (m.x.wait ++ [r])) := by
    unfold putM; rw [if_neg (by rw [ho]; decide), if_neg (by simpa using hz')]
  unfold Fits at hF ⊢
  by_cases hw : m.x.wait.length < 3
  · rw [if_pos hw] at e
    rw [e]
    refine ⟨rfl, hc, ?_⟩
    show used m.s.fs + 69 * (m.x.wait ++ [r]).length ≤ U + 11 + 69 * (m.x.all ++ [r]).length
    rw [List.length_append, List.length_append, List.length_singleton]; omega
  · rw [if_neg hw] at e
    have hall : ∀ q ∈ m.x.wait ++ [r], (q.size : Int) = m.x.size := fun q hq => by
      rcases List.mem_append.1 hq with hq | hq
      · exact hm.wz q hq
      · rw [List.mem_singleton.1 hq]; exact hz'
    have az : ∀ q ∈ m.x.all ++ [r], (q.size : Int) = m.x.size := fun q hq => by
      rcases List.mem_append.1 hq with hq | hq
      · exact hm.az q hq
      · rw [List.mem_singleton.1 hq]; exact hz'
    have hwl := hm.wl
    have hb := blkS_69 hm (l := m.x.wait ++ [r]) (by simp) (by simp; omega) hall
    rw [List.length_append, List.length_singleton] at hb
    obtain ⟨h1, h2, h3, h4⟩ := layM_calm (m := ⟨m.s, m.b, (m.x.put r).none⟩) (t := blkS m.x.size (m.x.wait ++ [r])) ⟨hm.s, hm.b, hm.n1, hm.n2, hm.z, Nat.zero_le _, (fun q hq => by cases hq), az⟩ hc hL.get (by show (used m.s.fs : Int) + _ ≤ m.s.room; omega)
    rw [e]
    obtain ⟨_, k2⟩ := layM_ok h1
    refine ⟨h1, h2, ?_⟩
    rw [h4, k2]
    show used m.s.fs + _ + 69 * 0 ≤ U + 11 + 69 * (m.x.all ++ [r]).length
    rw [List.length_append, List.length_singleton]; omega
theorem close_fits {m : M3} {nm : ByteArray} {nn : Int} {done : List ByteArray} {U : Nat} (h : WrOn m nm nn done) (hc : Calm m.s) (hF : Fits m U) (hr : (U : Int) + 28 + 69 * (done.length : Nat) ≤ m.s.room) :
    (closeM m).2 = 0 ∧ Calm (closeM m).1.s ∧ used (closeM m).1.s.fs ≤ U + 28 + 69 * done.length := by
  obtain ⟨hm, ho, hnm, hsz, hal, j, f, hL⟩ := h
  have hlen : m.x.all.length = done.length := by rw [hal]
  unfold Fits at hF
  have hfl : (flushM m).2 = 0 ∧ Calm (flushM m).1.s ∧ (flushM m).1.s.room = m.s.room ∧ used (flushM m).1.s.fs ≤ U + 11 + 69 * m.x.all.length ∧ (flushM m).1.ok := by
    unfold flushM
    split
    · exact ⟨rfl, hc, rfl, by show used m.s.fs ≤ _; omega, hm⟩
    · rename_i hw
      have hb := blkS_69 hm (l := m.x.wait) (by omega) (by have := hm.wl; omega) hm.wz
      obtain ⟨h1, h2, h3, h4⟩ := layM_calm hm hc hL.get (t := blkS m.x.size m.x.wait) (by omega)
      exact ⟨h1, h2, h3, by rw [h4]; omega, ok_layM hm _⟩
  obtain ⟨f1, f2, f3, f4, f5⟩ := hfl
  obtain ⟨f', g1, g2, g3, g4⟩ := laid_flush hm hL f1
  have hp : (peS (flushM m).1.x.all.length (sumN (flushM m).1.x.all)).size ≤ 17 := by
    cases hb : peB ((flushM m).1.x.all.length : Int)
    · rw [peS_no hb]; decide
    · rw [peS_yes hb, cl_size, endS_size]; decide
  obtain ⟨e1, e2, e3, e4⟩ := layM_calm f5 f2 (f := f') (by rw [g3]; exact g1) (t := peS (flushM m).1.x.all.length (sumN (flushM m).1.x.all)) (by omega)
  obtain ⟨k1, k2⟩ := layM_ok (m := (flushM m).1) e1
  have hx : (endM (flushM m).1).1.x = m.x := by
    show (layM (flushM m).1 _).1.x = _
    rw [k2, ← g3]
  have hg : ∃ q, (endM (flushM m).1).1.s.get m.x.nm.data.toList = some q := by
    show ∃ q, (layM (flushM m).1 _).1.s.get _ = some q
    rw [k2]
    have := append_get (s := (flushM m).1.s) (n := (flushM m).1.x.nm.data.toList) (by rw [g3]; exact g1) k1
    rw [g3] at this ⊢
    exact ⟨_, this⟩
  obtain ⟨q, hq⟩ := hg
  have e2' : Calm (endM (flushM m).1).1.s := e2
  have e4' : used (endM (flushM m).1).1.s.fs = _ := e4
  have hs0 := sync_calm e2' hq
  have e : closeM m = (dropM (syncM (endM (flushM m).1).1).1, (syncM (endM (flushM m).1).1).2) := by
    have e1' : (endM (flushM m).1).2 = 0 := e1
    unfold closeM
    rw [if_neg (by rw [ho]; decide), if_neg (by omega), if_neg (by omega)]
  have hsy : (syncM (endM (flushM m).1).1).1.s = (syncR (endM (flushM m).1).1.s m.x.nm.data.toList).1 ∧ (syncM (endM (flushM m).1).1).2 = (syncR (endM (flushM m).1).1.s m.x.nm.data.toList).2 := by
    unfold syncM; rw [hx]; exact ⟨rfl, rfl⟩
  have hdr : ∀ M : M3, (dropM M).s = M.s := fun M => by unfold dropM; split <;> rfl
  rw [e]
  refine ⟨by rw [hsy.2]; exact hs0, ?_, ?_⟩
  · rw [hdr, hsy.1]
    exact (oth_sync _ _).calm e2'.1 e2'.2
  · rw [hdr, hsy.1]
    have hu : used (syncR (endM (flushM m).1).1.s m.x.nm.data.toList).1.fs = used (endM (flushM m).1).1.s.fs := by
      unfold syncR
      split
      · rfl
      · rw [hq]
        simp only []
        have hok : (endM (flushM m).1).1.s.ok := by show (layM (flushM m).1 _).1.s.ok; exact (ok_layM f5 _).s
        obtain ⟨A, C, e1, _, _, _, hu⟩ := get_split (s := (endM (flushM m).1).1.s.call) (ok_call hok) (n := m.x.nm.data.toList) (f := q) hq
        rw [hu]
        have h2 := used_split A C q { q with kept := q.data.length }
        have h3 : (endM (flushM m).1).1.s.fs = A ++ q :: C := e1
        rw [h3]
        simp only [] at h2
        omega
    rw [hu, e4']
    omega
theorem create_fits {s : St} {b : Bu} {nm : ByteArray} {nn : Int} (hs : s.ok) (hb : b.takeE 4 = 0) (hc : Calm s) (hz : sizeB nn = true) (hg : s.get nm.data.toList = none) (hn : nm.size ≤ 24) (hl : s.fs.length < 200) (hr : (used s.fs : Int) + 11 ≤ s.room) :
    (createM s b nm nn).2.2 = 0 ∧ Calm (createM s b nm nn).1 ∧ used (createM s b nm nn).1.fs = used s.fs + 11 := by
  obtain ⟨hc1, hd1⟩ := calm_call hc
  have e1 : createR s nm.data.toList = ({ s.call with fs := insF ⟨nm.data.toList, [], 0⟩ s.fs }, 0) := by
    unfold createR
    rw [if_neg (by rw [hd1]; decide), hg]
    simp only []
    rw [if_neg (by omega)]
  have hok := ok_createR hs (n := nm.data.toList) (by rw [show nm.data.toList.length = nm.size from Array.length_toList]; exact hn)
  have hcr : Calm (createR s nm.data.toList).1 := by rw [e1]; exact hc1
  have hu : used (createR s nm.data.toList).1.fs = used s.fs := by
    rw [e1]
    have := used_perm (insF_perm ⟨nm.data.toList, [], 0⟩ s.fs)
    show used (insF _ _) = _
    rw [this]; unfold used; simp
  have hgt : (createR s nm.data.toList).1.get nm.data.toList = some ⟨nm.data.toList, [], 0⟩ := create_get (by rw [e1])
  have hh : (headS nn).data.toList.length = 11 := headS_length nn
  have hroom : (createR s nm.data.toList).1.room = s.room := by rw [e1]; rfl
  obtain ⟨a1, a2, a3, a4⟩ := append_calm hok hcr hgt (t := (headS nn).data.toList) (by rw [hu, hh, hroom]; omega)
  have e : createM s b nm nn = ((appendR (createR s nm.data.toList).1 nm.data.toList (headS nn).data.toList).1, b.take 4, 0) := by
    unfold createM
    rw [if_neg (by rw [hz]; decide), if_neg (by rw [hb]; decide), if_neg (by rw [e1]; simp), if_neg (by rw [a1]; simp)]
  rw [e]
  exact ⟨rfl, a2, by rw [a4, hu, hh]⟩
end WrPlain
end Go.Proofs.YtjplkmmhjfpdaaaGreatDoor
/- A merge of texts that rise, step by step; plain. -/
namespace Go.Proofs.YtjplkmmhjfpdaaaGreatDoor
open Go.RowKit LoPlain
set_option linter.unusedVariables false
set_option linter.unusedSimpArgs false
set_option maxRecDepth 20000
namespace RnPlain
theorem sort_perm {a b : List ByteArray} (u : Bool) (h : a.Perm b) : sortT a u = sortT b u := by
  cases u
  · exact sortT_is (sortT_srt a false) ((sortT_perm a).trans h)
  · exact sortT_isU (sortT_srt a true) (sortU a).1 fun x => by rw [(sortU a).2 x]; exact h.mem_iff
theorem ins_last : ∀ {l : List ByteArray} {x : ByteArray}, (∀ y ∈ l, leT y x = true) → insT l x = l ++ [x]
  | [], x, _ => rfl
  | y :: l, x, h => by
    have h1 := h y (by simp)
    have h2 := ins_last (l := l) (x := x) fun z hz => h z (by simp [hz])
    have e : insT (y :: l) x = y :: insT l x := by simp [insT, List.takeWhile_cons, List.dropWhile_cons, h1]
    rw [e, h2]; rfl
def putEnd (u : Bool) (l : List ByteArray) (x : ByteArray) : List ByteArray := if u = true ∧ l.getLast? = some x then l else l ++ [x]
theorem put_last {u : Bool} {l : List ByteArray} {x : ByteArray} (hs : Srt l) (h : ∀ y ∈ l, leT y x = true) : putT u l x = putEnd u l x := by
  have key : hasT l x = true ↔ l.getLast? = some x := by
    rw [hasT_iff]
    constructor
    · intro hx
      have hne : l ≠ [] := fun e => by rw [e] at hx; cases hx
      rw [List.getLast?_eq_some_getLast hne]
      congr 1
      refine le_antisymm (h _ (List.getLast_mem hne)) ?_
      rcases List.mem_iff_getElem.1 hx with ⟨i, hi, rfl⟩
      rw [List.getLast_eq_getElem]
      by_cases e : i = l.length - 1
      · subst e; exact le_refl16 _
      · exact (List.pairwise_iff_getElem.1 hs) i (l.length - 1) hi (by omega) (by omega)
    · intro hx
      exact List.mem_of_getLast? hx
  unfold putT putEnd
  cases u
  · simp [ins_last h]
  · by_cases hx : l.getLast? = some x
    · rw [if_neg (by rw [key.2 hx]; decide), if_pos ⟨rfl, hx⟩]
    · rw [if_pos (by cases hh : hasT l x; rfl; exact absurd (key.1 hh) hx), if_neg (fun k => hx k.2), ins_last h]
structure Mid (u : Bool) (T : List (List ByteArray)) (H : List Hd) (done : List ByteArray) : Prop where
  len : H.length = T.length
  rise : ∀ (i : Nat) (t : List ByteArray) (z : Hd), T[i]? = some t → H[i]? = some z → Srt t ∧ (z.o = false → Srt (t ++ [z.s]))
  is : done = sortT T.flatten u
  up : ∀ x ∈ T.flatten, ∀ (i : Nat) (z : Hd), H[i]? = some z → z.o = false → leT x z.s = true
theorem flat_rep : ∀ n : Nat, (List.replicate n ([] : List ByteArray)).flatten = []
  | 0 => rfl
  | n + 1 => by rw [List.replicate_succ, List.flatten_cons, flat_rep n]; rfl
theorem mid_start (u : Bool) (H : List Hd) : Mid u (List.replicate H.length []) H [] := by
  refine ⟨by simp, fun i t z ht hz => ?_, by rw [flat_rep]; rfl, fun x hx => by rw [flat_rep] at hx; cases hx⟩
  rw [List.getElem?_replicate] at ht
  split at ht
  · cases ht
    exact ⟨by simp [Srt], fun _ => by simp [Srt]⟩
  · cases ht
structure PickM (T : List (List ByteArray)) (H : List Hd) (i : Nat) (t : List ByteArray) (x : ByteArray) : Prop where
  b : leastB H = true
  n : leastN H = (i : Int)
  t : T[i]? = some t
  h : H[i]? = some ⟨x, false⟩
  head : headS H = x
  least : ∀ (j : Nat) (z : Hd), H[j]? = some z → z.o = false → leT x z.s = true
theorem Mid.pick {u : Bool} {T : List (List ByteArray)} {H : List Hd} {done : List ByteArray} (m : Mid u T H done) (hb : leastB H = true) : ∃ i t x, PickM T H i t x := by
  have hr := leastN_range H
  have h0 : 0 ≤ leastN H := by unfold leastB at hb; rwa [decide_eq_true_iff] at hb
  obtain ⟨i, hi⟩ : ∃ i : Nat, leastN H = (i : Int) := ⟨(leastN H).toNat, by omega⟩
  have hil : i < H.length := by omega
  have hz : H[i]? = some H[i] := List.getElem?_eq_getElem hil
  have ht : T[i]? = some (T[i]'(by rw [← m.len]; exact hil)) := List.getElem?_eq_getElem _
  have hon := least_on hb
  rw [hi, Int.toNat_natCast, oAt_at hz] at hon
  have hs : sAt H i = H[i].s := sAt_at hz
  refine ⟨i, _, H[i].s, hb, hi, ht, ?_, ?_, fun j z hj ho => ?_⟩
  · rw [hz]
    congr 1
    show H[i] = ⟨H[i].s, false⟩
    rw [← hon]
  · unfold headS; rw [if_pos hb, hi, Int.toNat_natCast, hs]
  · have := least_min hb (i := j) (List.getElem?_eq_some_iff.1 hj).1 (by rw [oAt_at hj]; exact ho)
    rw [hi, Int.toNat_natCast, hs, sAt_at hj] at this
    exact le_iff.2 this
theorem flat_put : ∀ {T : List (List ByteArray)} {i : Nat} {t : List ByteArray} (x : ByteArray), T[i]? = some t → (T.set i (t ++ [x])).flatten.Perm (T.flatten ++ [x])
  | [], i, t, x, h => by simp at h
  | a :: T, 0, t, x, h => by
    simp only [List.getElem?_cons_zero, Option.some.injEq] at h
    subst h
    simp only [List.set_cons_zero, List.flatten_cons, List.append_assoc]
    exact (List.perm_append_comm).append_left a
  | a :: T, i + 1, t, x, h => by
    simp only [List.getElem?_cons_succ] at h
    simp only [List.set_cons_succ, List.flatten_cons, List.append_assoc]
    exact (flat_put x h).append_left a
theorem Mid.next {u : Bool} {T : List (List ByteArray)} {H : List Hd} {done t : List ByteArray} {i : Nat} {x : ByteArray} (m : Mid u T H done) (p : PickM T H i t x) (s : ByteArray) (o : Bool) (hr : o = false → leT x s = true) : Mid u (T.set i (t ++ [x])) (nextL H s o) (putEnd u done x) := by
  have hil : i < H.length := (List.getElem?_eq_some_iff.1 p.h).1
  have hN : nextL H s o = H.set i ⟨s, o⟩ := by unfold nextL; rw [if_pos p.b, p.n, Int.toNat_natCast]
  have hall : ∀ y ∈ T.flatten, leT y x = true := fun y hy => m.up y hy i _ p.h rfl
  have hst := (m.rise i t _ p.t p.h)
  refine ⟨by rw [nextL_length, List.length_set]; exact m.len, fun j r z hj hz => ?_, ?_, fun y hy j z hz ho => ?_⟩
  · rw [hN] at hz
    by_cases hji : j = i
    · subst hji
      rw [List.getElem?_set_self (by rw [← m.len]; exact hil)] at hj
      rw [List.getElem?_set_self hil] at hz
      cases hj; cases hz
      refine ⟨hst.2 rfl, fun ho => ?_⟩
      have h1 := hst.2 rfl
      unfold Srt at h1 ⊢
      rw [List.pairwise_append]
      refine ⟨h1, by simp, fun a ha b hb => ?_⟩
      rw [List.mem_singleton.1 hb]
      rcases List.mem_append.1 ha with ha | ha
      · exact le_trans ((List.pairwise_append.1 h1).2.2 a ha x (by simp)) (hr ho)
      · rw [List.mem_singleton.1 ha]; exact hr ho
    · rw [List.getElem?_set_ne (Ne.symm hji)] at hj hz
      exact m.rise j r z hj hz
  · rw [sort_perm u (flat_put x p.t), sortT_snoc, ← m.is]
    refine (put_last ?_ fun y hy => ?_).symm
    · rw [m.is]; exact sortT_srt _ _
    · rw [m.is] at hy
      refine hall y ?_
      cases u
      · exact (sortT_perm _).mem_iff.1 hy
      · exact ((sortU _).2 y).1 hy
  · have hy' := (flat_put x p.t).mem_iff.1 hy
    rw [List.mem_append, List.mem_singleton] at hy'
    rw [hN] at hz
    have hyx : leT y x = true := by
      rcases hy' with h | h
      · exact hall y h
      · rw [h]; exact le_refl16 _
    by_cases hji : j = i
    · subst hji
      rw [List.getElem?_set_self hil] at hz
      cases hz
      exact le_trans hyx (hr ho)
    · rw [List.getElem?_set_ne (Ne.symm hji)] at hz
      exact le_trans hyx (p.least j z hz ho)
theorem Mid.end {u : Bool} {T : List (List ByteArray)} {H : List Hd} {done : List ByteArray} (m : Mid u T H done) (hb : leastB H = false) : (∀ (i : Nat) (z : Hd), H[i]? = some z → z.o = true) ∧ (∀ t ∈ T, Srt t) ∧ done = sortT T.flatten u := by
  refine ⟨fun i z hz => ?_, fun t ht => ?_, m.is⟩
  · cases ho : z.o
    · have := least_some (List.getElem?_eq_some_iff.1 hz).1 (by rw [oAt_at hz]; exact ho)
      rw [hb] at this; cases this
    · rfl
  · obtain ⟨i, hi, rfl⟩ := List.mem_iff_getElem.1 ht
    exact (m.rise i T[i] _ (List.getElem?_eq_getElem hi) (List.getElem?_eq_getElem (by rw [m.len]; exact hi))).1
end RnPlain
end Go.Proofs.YtjplkmmhjfpdaaaGreatDoor

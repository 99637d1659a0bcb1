/- In one text: RnForm, FsRemove, MgDisk, MgClear. -/
import Derived.Test.YtpmglnghnelenaaGreatP25
import Derived.Test.YtpmglnghnelenaaGreatP27
import Derived.Test.YtpmglnghnelenaaGreatP10
import Derived.Test.YtpmglnghnelenaaGreatP13
import Derived.Test.YtpmglnghnelenaaGreatP12
import Derived.Test.YtpmglnghnelenaaGreatP28
import Derived.Test.YtpmglnghnelenaaGreatP09
/- What Form leaves of a disk and a budget: as the laws want it, whatever its text. -/
namespace Go.Proofs.YtpmglnghnelenaaGreat
open Go.RowKit FsPlain CrcPlain OctPlain FramePlain RecPlain RdPlain RnPlain
set_option linter.unusedVariables false
set_option linter.unusedSimpArgs false
set_option maxRecDepth 20000
/-- The runs' names may be made. -/
def Names16 (s : St) (inn out : ByteArray) : Prop := ∀ i : Nat, i < 3000 → rightB (nameN out i).data.toList = true ∧ (nameN out i).size ≤ 24 ∧ nameN out i ≠ inn ∧ s.get (nameN out i).data.toList = none
/-- The runs of L are there, and nothing else is new. -/
structure RunsOf (s s' : St) (out : ByteArray) (size m : Int) (u : Bool) (L : List ByteArray) (k : Int) : Prop where
  k : k = ((runsT m.toNat u L.length L).length : Nat)
  file : ∀ (i : Nat) (l : List ByteArray), (runsT m.toNat u L.length L)[i]? = some l → HasD s' (nameN out i).data.toList (bs (layL size l))
  len : s'.fs.length = s.fs.length + (runsT m.toNat u L.length L).length
structure FormR (s : St) (b : Bu) (C inn out : ByteArray) (size m : Int) (u : Bool) (s' : St) (b' : Bu) (k er : Int) : Prop where
  k0 : er ≠ 0 → k = 0
  now : b'.now = b.now
  bm : b'.m = b.m
  calls : s'.calls ≤ s.calls + 1000000
  arg : m < 1 → er = 1
  yes : er = 0 → ∃ L, IsFile size C L ∧ RunsOf s s' out size m u L k
  code : ∀ L, IsFile size C L → 1 ≤ m → m + 8 ≤ b.m - b.now → er = 0 ∨ er = 4 ∨ er = 5
  calm : ∀ L, IsFile size C L → 1 ≤ m → m + 8 ≤ b.m - b.now → s.down = false → s.ahead = -1 → L.length ≤ 100 → s.fs.length ≤ 50 → (used s.fs : Int) + 100 * (L.length : Nat) ≤ s.room → er = 0 ∧ s'.down = false ∧ s'.ahead = -1
def FormGot (D P : Nat) (s : St) (b : Bu) (C inn out : ByteArray) (size m : Int) (u : Bool) (w : World) (B : Nat → Prop) (e : Ending) (w' : World) : Prop :=
  ∃ s' b' k er, e = .returned (.tuple #[.int .i64 k, .int .i64 er]) ∧ FormR s b C inn out size m u s' b' k er ∧ ∃ B', stars [DiskA D s', BuA P b'] w' B' ∧ Nx B w B' w'
theorem dig_right : ∀ f n : Nat, n < f → (digB n).all letterB = true
  | f + 1, n, h => by
    have d : ∀ k : Nat, k < 10 → letterB (UInt8.ofNat (48 + k)) = true := by
      intro k hk
      have : (UInt8.ofNat (48 + k)).toNat = 48 + k := by simp; omega
      unfold letterB
      rw [this]
      simp only [decide_eq_true_eq]
      omega
    by_cases h10 : n < 10
    · rw [digB_small h10, List.all_cons, List.all_nil, d n h10]; rfl
    · rw [digB_big h10, List.all_append, dig_right f (n / 10) (by omega), List.all_cons, List.all_nil, d (n % 10) (by omega)]; rfl
theorem dig_few : ∀ n : Nat, n < 10000 → 1 ≤ (digB n).length ∧ (digB n).length ≤ 4 := by
  intro n hn
  by_cases h1 : n < 10
  · rw [digB_small h1]; simp
  · rw [digB_big h1]
    by_cases h2 : n / 10 < 10
    · rw [digB_small h2]; simp
    · rw [digB_big h2]
      by_cases h3 : n / 10 / 10 < 10
      · rw [digB_small h3]; simp
      · rw [digB_big h3, digB_small (n := n / 10 / 10 / 10) (by omega)]; simp
theorem dig_inj : ∀ (f a b : Nat), a < f → digB a = digB b → a = b
  | f + 1, a, b, h, e => by
    have d : ∀ x y : Nat, x < 10 → y < 10 → UInt8.ofNat (48 + x) = UInt8.ofNat (48 + y) → x = y := by
      intro x y hx hy h
      have := congrArg UInt8.toNat h
      simp at this
      omega
    have l1 : ∀ n : Nat, 1 ≤ (digB n).length := by
      intro n
      by_cases h : n < 10
      · rw [digB_small h]; simp
      · rw [digB_big h]; simp
    by_cases ha : a < 10
    · by_cases hb : b < 10
      · rw [digB_small ha, digB_small hb] at e
        exact d a b ha hb (by simpa using e)
      · rw [digB_small ha, digB_big hb] at e
        have h1 := congrArg List.length e
        have h2 := l1 (b / 10)
        rw [List.length_append, List.length_singleton, List.length_singleton] at h1
        omega
    · by_cases hb : b < 10
      · rw [digB_big ha, digB_small hb] at e
        have h1 := congrArg List.length e
        have h2 := l1 (a / 10)
        rw [List.length_append, List.length_singleton, List.length_singleton] at h1
        omega
      · rw [digB_big ha, digB_big hb] at e
        obtain ⟨e1, e2⟩ := List.append_inj' e rfl
        have h1 := dig_inj f (a / 10) (b / 10) (by omega) e1
        have h2 := d (a % 10) (b % 10) (by omega) (by omega) (by simpa using e2)
        omega
theorem name_inj {out : ByteArray} {i j : Nat} (h : (nameN out (i : Int)).data.toList = (nameN out (j : Int)).data.toList) : i = j := by
  unfold nameN at h
  rw [if_neg (by omega), if_neg (by omega), Int.toNat_natCast, Int.toNat_natCast] at h
  rw [app_data, app_data, bs_data, bs_data] at h
  have := List.append_cancel_left h
  exact dig_inj (i + 1) i j (by omega) this
/-- The name of the i-th run of b. -/
def nmB : ByteArray := ⟨#[98]⟩
theorem name_data (i : Nat) : (nameN nmB (i : Int)).data.toList = 98 :: 46 :: digB i := by
  unfold nameN
  rw [if_neg (by omega), Int.toNat_natCast]
  simp [ByteArray.data_append, nmB, bs]
theorem name_b {i : Nat} (h : i < 3000) : rightB (nameN nmB (i : Int)).data.toList = true ∧ (nameN nmB (i : Int)).size ≤ 24 ∧ nameN nmB (i : Int) ≠ nmA := by
  obtain ⟨h1, h2⟩ := dig_few i (by omega)
  have hd := name_data i
  refine ⟨?_, ?_, fun e => ?_⟩
  · rw [hd]
    unfold rightB
    simp only [List.all_cons, List.length_cons, Bool.and_eq_true, decide_eq_true_eq]
    exact ⟨⟨by decide, by decide, dig_right (i + 1) i (by omega)⟩, by omega, by omega⟩
  · have : (nameN nmB (i : Int)).size = (nameN nmB (i : Int)).data.toList.length := Array.length_toList.symm
    rw [this, hd]; simp; omega
  · have := congrArg (fun b : ByteArray => b.data.toList) e
    rw [hd] at this
    simp [nmA] at this
theorem names_a (r : Int) (S : ByteArray) (k : Int) : Names16 (armed (stA r S) k) nmA nmB := by
  intro i hi
  obtain ⟨h1, h2, h3⟩ := name_b hi
  refine ⟨h1, h2, h3, ?_⟩
  rw [name_data]
  rfl
end Go.Proofs.YtpmglnghnelenaaGreat
/- The contract of Remove. -/
namespace Go.Proofs.YtpmglnghnelenaaGreat
open Go.RowKit FsPlain Go.Maps
set_option linter.unusedVariables false
set_option linter.unusedSimpArgs false
set_option maxRecDepth 20000
namespace FsPlain
/-- The disk without a file. -/
def St.drop (s : St) (n : List UInt8) : St := { s with fs := s.fs.filter fun f => !(f.name == n) }
def removeR (s : St) (n : List UInt8) : St × Int := if s.call.down = true then (s.call, 5) else match s.get n with | none => (s.call, 2) | some _ => (s.call.drop n, 0)
theorem used_filter (p : F → Bool) : ∀ l : List F, used (l.filter p) ≤ used l
  | [] => Nat.le_refl _
  | x :: l => by
    have ih := used_filter p l
    unfold used at ih ⊢
    rw [List.filter_cons]
    split
    · simp only [List.map_cons, List.sum_cons]; omega
    · simp only [List.map_cons, List.sum_cons]; omega
theorem ok_drop {s : St} (h : s.ok) (n : List UInt8) : (s.drop n).ok :=
  ⟨h.r0, h.r1, h.c0, h.a0, h.a1, by
    have h1 := used_filter (fun f => !(f.name == n)) s.fs
    have h2 := h.u
    show ((used (s.fs.filter _) : Nat) : Int) ≤ s.room
    omega, fun f hf => h.k f (List.mem_filter.1 hf).1, fun f hf => h.n f (List.mem_filter.1 hf).1, Nat.le_trans (List.length_filter_le _ _) h.m, h.d.filter _⟩
theorem drop_get (s : St) (n : List UInt8) : (s.drop n).get n = none := by
  unfold St.get St.drop
  rw [List.find?_filter]
  refine List.find?_eq_none.2 fun f _ => ?_
  cases h : f.name == n <;> simp
theorem drop_get_ne (s : St) {n n' : List UInt8} (h : n' ≠ n) : (s.drop n).get n' = s.get n' := by
  unfold St.get St.drop
  rw [List.find?_filter]
  congr 1
  funext f
  cases h2 : f.name == n'
  · simp
  · have e : f.name = n' := by simpa using h2
    have : (f.name == n) = false := by simp [e, h]
    simp [this]
theorem ok_remove {s : St} (h : s.ok) (n : List UInt8) : (removeR s n).1.ok := by
  unfold removeR
  split
  · exact ok_call h
  · split
    · exact ok_call h
    · exact ok_drop (ok_call h) n
end FsPlain
theorem del_ents (L : List Pl) (n : List UInt8) : (ents L).del (.string n) = ents (L.filter fun x => !(x.f.name == n)) := by
  unfold ents DataW.del
  simp only [DataW.map.injEq]
  rw [List.filter_map]
  rfl
theorem turned_only {w w' : World} {b : Nat} (h : w.mapTurned w' b) : Only (fun i => i = b) w w' := by
  obtain ⟨es, clock, es', clock', hb, rfl⟩ := h
  refine ⟨rfl, rfl, rfl, by simp [ChangeMaps.setBlock], fun k hk hne => ?_⟩
  show (w.heap.setIfInBounds b _)[k]? = _
  rw [Array.getElem?_setIfInBounds, if_neg (fun e => hne e.symm)]
theorem blocks_sub (p : Pl → Bool) : ∀ L : List Pl, (blocks (L.filter p)).Sublist (blocks L)
  | [] => List.Sublist.refl _
  | x :: L => by
    have ih := blocks_sub p L
    rw [List.filter_cons]
    unfold blocks at ih ⊢
    split
    · simp only [List.flatMap_cons]
      exact (List.Sublist.refl _).append ih
    · simp only [List.flatMap_cons]
      exact ih.trans (List.sublist_append_right _ _)
theorem DiskAt.dropped {w w' : World} {p m : Nat} {s : St} {B : Nat → Prop} {L : List Pl} {k : Nat} (h : DiskAt w p s B m L) (n : List UInt8) (ho : w'.ownsMap Tryz.prog 9 ptrElem m k ((ents L).del (.string n))) (g : Only (fun i => i = m) w w') : DiskAt w' p (s.drop n) B m (L.filter fun x => !(x.f.name == n)) := by
  have hap := h.apart
  have hpm : p ≠ m := fun e => by
    simp only [List.nodup_cons, List.mem_cons, not_or] at hap; exact hap.1.1 e
  have hsub : (blocks (L.filter fun x => !(x.f.name == n))).Sublist (blocks L) := blocks_sub _ L
  refine ⟨?_, ?_, ?_, ?_, ?_, ?_, ?_⟩
  · rw [g.block p (lt_of_block h.heap) hpm]; exact h.heap
  · have := tight ho
    rw [del_ents, ents_size] at this
    exact this
  · show (L.filter _).map (·.f) = s.fs.filter _
    rw [← h.fs, List.filter_map]
    rfl
  · intro x hx
    have hx := (List.mem_filter.1 hx).1
    exact (h.file x hx).only g fun b hb e => by
      have e2 : b = m := e
      subst e2
      simp only [List.nodup_cons] at hap
      exact hap.2.1 (mem_blocks hx hb)
  · exact hap.sublist ((hsub.cons_cons m).cons_cons p)
  · intro b hb
    refine h.mine b ?_
    exact ((hsub.cons_cons m).cons_cons p).subset hb
  · exact fun b hb => Nat.lt_of_lt_of_le (h.low b hb) g.size
set_option maxRecDepth 20000 in
set_option maxHeartbeats 1000000 in
theorem remove_c (p : Nat) (s : St) (B : Nat → Prop) (n : ByteArray) (w : World) (h : Disk w p s B) (hn : n.size ≤ 1000) (hm : rightB n.data.toList = true) (h1 : s.calls ≤ 1000000000000) :
    Calls Tryz.prog 40 #[.pointer (some ⟨p, 0, none⟩), .string n] w (Tells w p (removeR s n.data.toList).1 B (.int .i64 (removeR s n.data.toList).2)) := by
  obtain ⟨hs, m, L, hD⟩ := h
  have C := find_yes p m s B L n w hs hD (by unfold maxLen; omega) hm h1
  have HS := Lib.hid hs
  have hkey := WideMaps.keyOf_string_mk (P := Tryz.prog) (k := 9) Tryz.underlying9 (show n.size ≤ maxLen by unfold maxLen; omega)
  clear hD hm hs
  go_enter Tryz.func40, Tryz.ntmps40
  go_wp2_with fail
  refine C.mono ?_; rintro e w2 ⟨hD, hO, hcase⟩
  have HN := Lib.hid (next_called HS.out hD hO)
  have HD := Lib.hid hD
  have HO := Lib.hid hO
  clear hD hO
  rcases hcase with ⟨hd, rfl⟩ | ⟨hd, hg, rfl⟩ | ⟨hd, x, hg, hf, rfl⟩
  · have HR : Hid (removeR s n.data.toList = (s.call, 5)) := Lib.hid (by simp [removeR, hd])
    clear hd hkey
    go_wp2_with fail
    go_ret
    exact ⟨by rw [HR.out] <;> rfl, by rw [HR.out]; exact HN.out⟩
  · have HR : Hid (removeR s n.data.toList = (s.call, 2)) := Lib.hid (by simp [removeR, hd, hg])
    clear hd hg hkey
    go_wp2_with fail
    go_ret
    exact ⟨by rw [HR.out] <;> rfl, by rw [HR.out]; exact HN.out⟩
  · have HR : Hid (removeR s n.data.toList = (s.call.drop n.data.toList, 0)) := Lib.hid (by simp [removeR, hd, hg])
    have c1 : w2.cell? ⟨p, 1, none⟩ = some (.map (some m)) := by rw [cells_at HD.out.heap]; rfl
    have hown := HD.out.own
    have HW := Lib.hid hown
    have HK := Lib.hid hkey
    clear hd hg hf hown hkey
    go_wp2_with (at_delete; refine wpList_delete_own _ rfl _ _ 78 9 rfl 81 lawS Tryz.underlying78 ptrElem m L.length (ents L) rfl HW.out _ _ rfl HK.out ?_; intro w3 ho3 ht3; have O3 := Lib.hid ho3; have T3 := Lib.hid ht3; clear ho3 ht3)
    go_ret
    refine ⟨by rw [HR.out] <;> rfl, ?_⟩
    rw [HR.out]
    have hD3 := HD.out.dropped n.data.toList O3.out (turned_only T3.out)
    refine ⟨B, ⟨ok_drop (ok_call HS.out) _, m, _, hD3⟩, ?_, fun b hb => .inl hb⟩
    exact (HO.out.mono (fun i e => by subst e; exact HD.out.mine _ (by simp))).trans ((turned_only T3.out).mono fun i e => by subst e; exact HD.out.mine _ (by simp))
theorem d_remove (p : Nat) (s : St) (n : ByteArray) (hn : n.size ≤ 1000) (hm : rightB n.data.toList = true) (h1 : s.calls ≤ 1000000000000) (w : World) (B : Nat → Prop) (h : DiskA p s w B) :
    Calls Tryz.prog 40 #[.pointer (some ⟨p, 0, none⟩), .string n] w (Does w B (DiskA p (removeR s n.data.toList).1) (.int .i64 (removeR s n.data.toList).2)) :=
  (remove_c p s B n w h hn hm h1).mono fun e w' k => tells_does k
end Go.Proofs.YtpmglnghnelenaaGreat
/- Plain facts: a disk with a file for each of some lists; files removed again. -/
namespace Go.Proofs.YtpmglnghnelenaaGreat
open Go.RowKit FsPlain CrcPlain OctPlain FramePlain RecPlain RdPlain RnPlain WrPlain
set_option linter.unusedVariables false
set_option linter.unusedSimpArgs false
set_option maxRecDepth 20000
theorem create_calm {s : St} {n : List UInt8} (hs : s.ok) (hc : WrPlain.Calm s) (hg : s.get n = none) (hn : n.length ≤ 24) (hl : s.fs.length < 200) :
    (createR s n).2 = 0 ∧ WrPlain.Calm (createR s n).1 ∧ used (createR s n).1.fs = used s.fs ∧ (createR s n).1.room = s.room ∧ (createR s n).1.get n = some ⟨n, [], 0⟩ ∧ (createR s n).1.ok ∧ (createR s n).1.fs.length = s.fs.length + 1 ∧ (createR s n).1.calls = s.calls + 1 ∧ ∀ n', n' ≠ n → (createR s n).1.get n' = s.get n' := by
  obtain ⟨hc1, hd1⟩ := calm_call hc
  have e1 : createR s n = ({ s.call with fs := insF ⟨n, [], 0⟩ s.fs }, 0) := by
    unfold createR
    rw [if_neg (by rw [hd1]; decide), hg]
    simp only []
    rw [if_neg (by omega)]
  obtain ⟨d, ho, hd, _⟩ := oth_create s n
  obtain rfl : d = 1 := hd (by rw [e1])
  refine ⟨by rw [e1], by rw [e1]; exact hc1, ?_, by rw [e1]; rfl, create_get (by rw [e1]), ok_createR hs hn, ho.len, by rw [e1]; rfl, ho.get⟩
  rw [e1]
  have := used_perm (insF_perm ⟨n, [], 0⟩ s.fs)
  show used (insF _ _) = _
  rw [this]; unfold used; simp
/-- A file of these bytes, made on a calm disk. -/
theorem file_made {s : St} {n : List UInt8} {C : ByteArray} (hs : s.ok) (hc : WrPlain.Calm s) (hg : s.get n = none) (hn : n.length ≤ 24) (hl : s.fs.length < 200) (hr : (used s.fs : Int) + (C.size : Nat) ≤ s.room) :
    (createR s n).2 = 0 ∧ (appendR (createR s n).1 n C.data.toList).2 = 0 ∧ WrPlain.Calm (appendR (createR s n).1 n C.data.toList).1 ∧ (appendR (createR s n).1 n C.data.toList).1.ok ∧ used (appendR (createR s n).1 n C.data.toList).1.fs = used s.fs + C.size ∧ (appendR (createR s n).1 n C.data.toList).1.room = s.room ∧ HasD (appendR (createR s n).1 n C.data.toList).1 n C ∧
    (appendR (createR s n).1 n C.data.toList).1.fs.length = s.fs.length + 1 ∧ (appendR (createR s n).1 n C.data.toList).1.calls = s.calls + 2 ∧ ∀ n', n' ≠ n → (appendR (createR s n).1 n C.data.toList).1.get n' = s.get n' := by
  obtain ⟨k1, k2, k3, k4, k5, k6, k7, k8, k9⟩ := create_calm hs hc hg hn hl
  have hz : C.data.toList.length = C.size := Array.length_toList
  obtain ⟨a1, a2, a3, a4⟩ := append_calm k6 k2 k5 (t := C.data.toList) (by rw [k3, k4, hz]; exact hr)
  have ho := oth_append (createR s n).1 n C.data.toList
  refine ⟨k1, a1, a2, ok_append k6 _ _, by rw [a4, k3, hz], by rw [ho.room, k4], ⟨_, append_get k5 a1, by simp⟩, by rw [ho.len, k7], ?_, fun n' h => (ho.get n' h).trans (k9 n' h)⟩
  have : (appendR (createR s n).1 n C.data.toList).1.calls = (createR s n).1.calls + 1 := by
    unfold appendR
    split
    · rfl
    · split
      · rfl
      · split <;> rfl
  rw [this, k8]; omega
theorem name_dataC (c : UInt8) (i : Nat) : (nameN ⟨#[c]⟩ (i : Int)).data.toList = c :: 46 :: digB i := by
  unfold nameN
  rw [if_neg (by omega), Int.toNat_natCast]
  simp [ByteArray.data_append, bs]
/-- The name of the i-th file of x. -/
def nmX : ByteArray := ⟨#[120]⟩
def nmY : ByteArray := ⟨#[121]⟩
theorem name_x {i : Nat} (h : i < 3000) : rightB (nameN nmX (i : Int)).data.toList = true ∧ (nameN nmX (i : Int)).size ≤ 24 ∧ (nameN nmX (i : Int)).data.toList ≠ nmY.data.toList := by
  obtain ⟨h1, h2⟩ := dig_few i (by omega)
  have hd := name_dataC 120 i
  unfold nmX
  refine ⟨?_, ?_, fun e => ?_⟩
  · rw [hd]
    unfold rightB
    simp only [List.all_cons, List.length_cons, Bool.and_eq_true, decide_eq_true_eq]
    exact ⟨⟨by decide, by decide, dig_right (i + 1) i (by omega)⟩, by omega, by omega⟩
  · have : (nameN ⟨#[120]⟩ (i : Int)).size = (nameN ⟨#[120]⟩ (i : Int)).data.toList.length := Array.length_toList.symm
    rw [this, hd]; simp; omega
  · rw [hd] at e
    simp [nmY] at e
/-- A disk with the files of the first j lists. -/
structure Dk (n : Int) (X : List (List ByteArray)) (j : Nat) (s : St) : Prop where
  ok : s.ok
  calm : WrPlain.Calm s
  room : s.room = 1048576
  len : s.fs.length = j
  calls : s.calls = 2 * (j : Int)
  used : used s.fs ≤ 1000 * j
  file : ∀ (i : Nat) (l : List ByteArray), i < j → X[i]? = some l → HasD s (nameN nmX (i : Int)).data.toList (layR n l)
  none : ∀ nm, (∀ i : Nat, i < j → nm ≠ (nameN nmX (i : Int)).data.toList) → s.get nm = none
theorem nameX_inj {i j : Nat} (h : (nameN nmX (i : Int)).data.toList = (nameN nmX (j : Int)).data.toList) : i = j := name_inj h
theorem Dk.step {n : Int} {X : List (List ByteArray)} {j : Nat} {s : St} (h : Dk n X j s) (hj : j < 100) {l : List ByteArray} (hl : X[j]? = some l) (hz : (layR n l).size ≤ 1000) :
    (createR s (nameN nmX (j : Int)).data.toList).2 = 0 ∧ (appendR (createR s (nameN nmX (j : Int)).data.toList).1 (nameN nmX (j : Int)).data.toList (layR n l).data.toList).2 = 0 ∧ Dk n X (j + 1) (appendR (createR s (nameN nmX (j : Int)).data.toList).1 (nameN nmX (j : Int)).data.toList (layR n l).data.toList).1 := by
  obtain ⟨n1, n2, _⟩ := name_x (i := j) (by omega)
  have hg : s.get (nameN nmX (j : Int)).data.toList = Option.none := h.none _ fun i hi e => by have := nameX_inj e; omega
  have hu := h.used
  have hlen := h.len
  obtain ⟨k1, k2, k3, k4, k5, k6, k7, k8, k9, k10⟩ := file_made (C := layR n l) h.ok h.calm hg (by rw [show (nameN nmX (j : Int)).data.toList.length = (nameN nmX (j : Int)).size from Array.length_toList]; exact n2) (by omega) (by rw [h.room]; omega)
  refine ⟨k1, k2, k4, k3, k6.trans h.room, by rw [k8, hlen], by rw [k9, h.calls]; omega, by rw [k5]; omega, fun i q hi hq => ?_, fun nm hne => ?_⟩
  · by_cases e : i = j
    · subst e
      rw [hl] at hq
      cases hq
      exact k7
    · obtain ⟨f, f1, f2⟩ := h.file i q (by omega) hq
      exact ⟨f, by rw [k10 _ (fun e2 => e (nameX_inj e2))]; exact f1, f2⟩
  · rw [k10 nm (hne j (by omega))]
    exact h.none nm fun i hi => hne i (by omega)
/-- Removed, one after another: the first error ends it. -/
def clearR : St → List (List UInt8) → St × Int
  | s, [] => (s, 0)
  | s, n :: r => if (removeR s n).2 = 0 then clearR (removeR s n).1 r else removeR s n
theorem ok_clear : ∀ (l : List (List UInt8)) {s : St}, s.ok → (clearR s l).1.ok
  | [], s, h => h
  | n :: r, s, h => by
    unfold clearR
    split
    · exact ok_clear r (ok_remove h n)
    · exact ok_remove h n
theorem drop_len {s : St} {n : List UInt8} (hs : s.ok) (hg : ∃ f, s.get n = some f) : (s.drop n).fs.length + 1 = s.fs.length := by
  obtain ⟨f, hf⟩ := hg
  have hd := hs.d
  unfold St.get at hf
  unfold St.drop
  simp only []
  generalize s.fs = l at hd hf
  induction l with
  | nil => simp at hf
  | cons x r ih =>
    rw [List.pairwise_cons] at hd
    rw [List.find?_cons] at hf
    rw [List.filter_cons]
    cases hx : x.name == n
    · rw [hx] at hf
      simp only [Bool.not_false, if_true, List.length_cons]
      have := ih hd.2 hf
      omega
    · have hxn : x.name = n := by simpa using hx
      have : r.filter (fun f => !(f.name == n)) = r := by
        rw [List.filter_eq_self]
        intro y hy
        have := hd.1 y hy
        rw [hxn] at this
        simp [Ne.symm this]
      simp only [Bool.not_true, Bool.false_eq_true, if_false, List.length_cons, this]
theorem remove_calm {s : St} {n : List UInt8} (hc : WrPlain.Calm s) (hg : ∃ f, s.get n = some f) : removeR s n = (s.call.drop n, 0) := by
  obtain ⟨_, hd⟩ := calm_call hc
  obtain ⟨f, hf⟩ := hg
  unfold removeR
  rw [if_neg (by rw [hd]; decide), hf]
/-- All of them were there: they are gone, and the others stand. -/
theorem clear_calm : ∀ (l : List (List UInt8)) {s : St}, s.ok → WrPlain.Calm s → l.Nodup → (∀ n ∈ l, ∃ f, s.get n = some f) → (clearR s l).2 = 0 ∧ WrPlain.Calm (clearR s l).1 ∧ (clearR s l).1.fs.length + l.length = s.fs.length ∧ (∀ n, n ∉ l → (clearR s l).1.get n = s.get n) ∧ (clearR s l).1.calls = s.calls + (l.length : Nat)
  | [], s, _, hc, _, _ => ⟨rfl, hc, rfl, fun _ _ => rfl, by show s.calls = s.calls + ((0 : Nat) : Int); omega⟩
  | n :: r, s, hs, hc, hn, hg => by
    have e := remove_calm hc (hg n (by simp))
    rw [List.nodup_cons] at hn
    have hc1 : WrPlain.Calm (s.call.drop n) := (calm_call hc).1
    have hok1 : (s.call.drop n).ok := ok_drop (ok_call hs) n
    have hl := drop_len (s := s.call) (ok_call hs) (hg n (by simp))
    obtain ⟨h1, h2, h3, h4, h5⟩ := clear_calm r (s := s.call.drop n) hok1 hc1 hn.2 fun n' h' => by
      rw [drop_get_ne _ (fun e2 : n' = n => hn.1 (by rw [← e2]; exact h'))]
      exact hg n' (by simp [h'])
    have hcl : clearR s (n :: r) = clearR (s.call.drop n) r := by
      show (if (removeR s n).2 = 0 then clearR (removeR s n).1 r else removeR s n) = _
      rw [e]; rfl
    rw [hcl]
    refine ⟨h1, h2, ?_, fun n' h' => ?_, ?_⟩
    · have : s.call.fs.length = s.fs.length := rfl
      simp only [List.length_cons]; omega
    · simp only [List.mem_cons, not_or] at h'
      rw [h4 n' h'.2, drop_get_ne _ h'.1]
      rfl
    · rw [h5]
      show s.calls + 1 + _ = _
      simp only [List.length_cons]; omega
/-- Just one file is left. -/
theorem used_one {s : St} {n : List UInt8} {C : ByteArray} (h : HasD s n C) (hl : s.fs.length = 1) : used s.fs = C.size := by
  obtain ⟨f, hf, hd⟩ := h
  unfold St.get at hf
  match hs : s.fs, hl with
  | [x], _ =>
    rw [hs] at hf
    rw [List.find?_cons] at hf
    cases hx : x.name == n
    · rw [hx] at hf; simp at hf
    · rw [hx] at hf
      simp only [Option.some.injEq] at hf
      subst hf
      show x.data.length + 0 = _
      rw [hd, Array.length_toList]; rfl
end Go.Proofs.YtpmglnghnelenaaGreat
/- The program's Clear: files removed, in order. -/
namespace Go.Proofs.YtpmglnghnelenaaGreat
open Go.RowKit FsPlain CrcPlain OctPlain FramePlain RecPlain RdPlain RnPlain WrPlain
set_option linter.unusedVariables false
set_option linter.unusedSimpArgs false
set_option maxRecDepth 20000
theorem clear_snoc : ∀ (l : List (List UInt8)) (s : St) (n : List UInt8), (clearR s l).2 = 0 → clearR s (l ++ [n]) = if (removeR (clearR s l).1 n).2 = 0 then ((removeR (clearR s l).1 n).1, 0) else removeR (clearR s l).1 n
  | [], s, n, _ => rfl
  | x :: r, s, n, h => by
    have e : ∀ t, clearR s (x :: t) = if (removeR s x).2 = 0 then clearR (removeR s x).1 t else removeR s x := fun _ => rfl
    rw [List.cons_append, e, e]
    rw [e] at h
    by_cases h0 : (removeR s x).2 = 0
    · rw [if_pos h0] at h
      simp only [if_pos h0]
      exact clear_snoc r _ n h
    · rw [if_neg h0] at h
      exact absurd h h0
theorem clear_stop : ∀ (l r : List (List UInt8)) (s : St), (clearR s l).2 ≠ 0 → clearR s (l ++ r) = clearR s l
  | [], r, s, h => absurd rfl h
  | x :: l, r, s, h => by
    have e : ∀ t, clearR s (x :: t) = if (removeR s x).2 = 0 then clearR (removeR s x).1 t else removeR s x := fun _ => rfl
    rw [List.cons_append, e, e]
    rw [e] at h
    by_cases h0 : (removeR s x).2 = 0
    · rw [if_pos h0] at h
      simp only [if_pos h0]
      exact clear_stop l r _ h
    · simp only [if_neg h0]
theorem remove_calls (s : St) (n : List UInt8) : (removeR s n).1.calls = s.calls + 1 := by
  unfold removeR
  split
  · rfl
  · split <;> rfl
theorem clear_calls : ∀ (l : List (List UInt8)) (s : St), (clearR s l).1.calls ≤ s.calls + (l.length : Nat)
  | [], s => by show s.calls ≤ s.calls + ((0 : Nat) : Int); omega
  | x :: l, s => by
    have h1 := remove_calls s x
    have h2 := clear_calls l (removeR s x).1
    unfold clearR
    simp only [List.length_cons]
    split
    · omega
    · omega
def raw8 (l : List ByteArray) : List (List UInt8) := l.map fun n => n.data.toList
/-- At the head of a round. -/
def ClAt (D : Nat) (s : St) (l : List ByteArray) (M : List Asn) (w : World) (B : Nat → Prop) (i : Value) (wr : World) : Prop :=
  ∃ (j : Nat) (B' : Nat → Prop), j ≤ l.length ∧ i = .int .i64 (j : Int) ∧ (clearR s (raw8 (l.take j))).2 = 0 ∧ stars ([DiskA D (clearR s (raw8 (l.take j))).1] ++ M) wr B' ∧ Nx B w B' wr
theorem lies_cell17 {w : World} {a : Option Addr} {n c : Nat} {l : List ByteArray} (h : Lies w (.slice a n c) l) {j : Nat} {r : ByteArray} (hr : l[j]? = some r) : ∃ b off, a = some ⟨b, off, none⟩ ∧ b < w.heap.size ∧ w.cell? ⟨b, off + j, none⟩ = some (.string r) := by
  obtain ⟨a', c', e, _, hrow⟩ := h
  simp only [Value.slice.injEq] at e
  obtain ⟨rfl, _, _⟩ := e
  rcases hrow with h0 | ⟨b, off, e, hrw⟩
  · rw [h0] at hr; simp at hr
  · exact ⟨b, off, e, hrw.1, hrw.2 j r hr⟩
set_option maxHeartbeats 4000000 in
theorem clear17_c {D : Nat} {s : St} {l : List ByteArray} {v : Value} (hl : l.length ≤ 1000) (hn : ∀ n ∈ l, rightB n.data.toList = true ∧ n.size ≤ 24) (hc : s.calls ≤ 1000000000) {w : World} {B : Nat → Prop} {M : List Asn} (hM : Frs M) (hv : ∀ (wr : World) (B' : Nat → Prop), stars M wr B' → Lies wr v l) (h : stars ([DiskA D s] ++ M) w B) :
    Calls Tryz.prog 17 #[.pointer (some ⟨D, 0, none⟩), v] w (Does w B (stars ([DiskA D (clearR s (l.map fun n => n.data.toList)).1] ++ M)) (.int .i64 (clearR s (l.map fun n => n.data.toList)).2)) := by
  have sh : ∃ a c, v = .slice a l.length c := by
    obtain ⟨B1, B2, _, h2, _⟩ := stars_app.1 h
    obtain ⟨a, c, e, _⟩ := hv w B2 h2
    exact ⟨a, c, e⟩
  obtain ⟨va, vc, rfl⟩ := sh
  have START := Lib.hid (show ClAt D s l M w B (.int .i64 0) w from ⟨0, B, Nat.zero_le _, rfl, rfl, h, Nx.refl _ _⟩)
  have HV := Lib.hid hv
  have HN := Lib.hid hn
  have HC := Lib.hid hc
  have HM := Lib.hid hM
  obtain ⟨m, hm⟩ : ∃ m, l.length = m := ⟨_, rfl⟩
  have HL := Lib.hid hm
  rw [hm] at hl HV ⊢
  have hl9 : (m : Int) ≤ 1000 := by omega
  clear hm hv hn hc hM h hl
  go_enter Tryz.func17, Tryz.ntmps17
  go_wp2_with fail
  go_loopw [10] (fun i wr => ClAt D s l M w B i wr) (fun i _ => m - (intOf i).toNat)
  case atStart => exact START.out
  case round =>
    obtain ⟨j, B', hj, rfl, h0, hst, nx⟩ := hrel
    have hjm := HL.out
    rw [hjm] at hj
    have ST := Lib.hid hst
    have NX := Lib.hid nx
    by_cases hlt : j < m
    · have hltI : (j : Int) < (m : Int) := by omega
      obtain ⟨r, hr⟩ : ∃ r, l[j]? = some r := ⟨l[j]'(by omega), List.getElem?_eq_getElem _⟩
      have hstep : l.take (j + 1) = l.take j ++ [r] := by rw [List.take_add_one, hr]; rfl
      obtain ⟨nr, nz⟩ := HN.out r (List.mem_of_getElem? hr)
      have hlies : Lies wr (.slice va m vc) l := by
        obtain ⟨_, B2, _, h2, _⟩ := stars_app.1 hst
        exact HV.out wr B2 h2
      obtain ⟨vb, off, rfl, hbl, cr⟩ := lies_cell17 hlies hr
      have hcc := clear_calls (raw8 (l.take j)) s
      have hlen : (raw8 (l.take j)).length ≤ 1000 := by unfold raw8; rw [List.length_map, List.length_take]; omega
      have CR := Lib.hid (does_pre (L' := [DiskA D (removeR (clearR s (raw8 (l.take j))).1 r.data.toList).1]) [DiskA D (clearR s (raw8 (l.take j))).1] HM.out hst fun B1 h1 => by
        obtain ⟨B2, B3, q, hnil, _, e⟩ := h1
        have hB : B2 = B1 := by funext x; rw [eq_iff_iff, e x]; exact ⟨.inl, fun k => k.resolve_right (hnil x)⟩
        subst hB
        exact (d_remove D _ r (by omega) nr (by have := HC.out; omega) wr B2 q).mono fun e w' hd => hd.imp fun B' q => stars_one q)
      have SN := clear_snoc (raw8 (l.take j)) s r.data.toList h0
      have hraw : raw8 (l.take (j + 1)) = raw8 (l.take j) ++ [r.data.toList] := by unfold raw8; rw [hstep, List.map_append]; rfl
      rw [← hraw] at SN
      have ALL := Lib.hid (show (clearR s (raw8 (l.take (j + 1)))).2 ≠ 0 → clearR s (l.map fun n => n.data.toList) = clearR s (raw8 (l.take (j + 1))) from fun hne => by
        have := clear_stop (raw8 (l.take (j + 1))) (raw8 (l.drop (j + 1))) s hne
        rw [show raw8 (l.take (j + 1)) ++ raw8 (l.drop (j + 1)) = l.map fun n => n.data.toList by unfold raw8; rw [← List.map_append, List.take_append_drop]] at this
        exact this)
      obtain ⟨Q, hQ⟩ : ∃ Q, removeR (clearR s (raw8 (l.take j))).1 r.data.toList = Q := ⟨_, rfl⟩
      rw [hQ] at CR SN
      have SNH := Lib.hid SN
      clear hst nx hlies hr hstep nr nz hcc hlen SN hraw hQ START hjm h0
      go_wp2_with fail
      refine CR.out.mono ?_; rintro e u ⟨rfl, B2, k2, n2⟩
      have K2 := Lib.hid k2
      have N2 := Lib.hid (NX.out.trans n2)
      clear k2 n2 CR
      by_cases hq : Q.2 = 0
      · have hq1 : (Q.2 != 0) = false := by simp [hq]
        have e1 : clearR s (raw8 (l.take (j + 1))) = (Q.1, 0) := by rw [SNH.out, if_pos hq]
        have REL := Lib.hid (show ClAt D s l M w B (.int .i64 ((j : Int) + 1)) u from ⟨j + 1, B2, by have := HL.out; omega, rfl, by rw [e1], by rw [e1]; exact K2.out, N2.out⟩)
        clear e1
        go_wp2_with fail
        refine ⟨REL.out, ?_⟩
        simp [intOf]; omega
      · have hq1 : (Q.2 != 0) = true := by simpa using hq
        have e1 : clearR s (raw8 (l.take (j + 1))) = Q := by rw [SNH.out, if_neg hq]
        have e2 := ALL.out (by rw [e1]; exact hq)
        rw [e1] at e2
        have E2 := Lib.hid e2
        clear e1 e2
        go_wp2_with fail
        go_ret
        rw [E2.out]
        exact ⟨rfl, B2, K2.out, N2.out⟩
    · obtain rfl : j = m := by omega
      have e1 : raw8 (l.take j) = l.map fun n => n.data.toList := by unfold raw8; rw [List.take_of_length_le (by omega)]
      rw [e1] at h0 hst
      have ST2 := Lib.hid hst
      have H0 := Lib.hid h0
      clear hst nx h0 e1 START ST hjm
      go_wp2_with fail
      go_ret
      rw [H0.out]
      exact ⟨rfl, B', ST2.out, NX.out⟩
end Go.Proofs.YtpmglnghnelenaaGreat

/- In one text: RfsRight, RfsCreate, RfsAppend, RfsNew, RfsRead, RfsSync, RfsRemove, RfsRename, RfsRise, RfsRisen, RfsA. -/
import Derived.Test.YtckmciafonnohaaP01
import Derived.Test.YtckmciafonnohaaP12
import Derived.Test.YtckmciafonnohaaP09
import Derived.Test.YtckmciafonnohaaP10
/- The document's disk: is it a name? By a walk of its loop. -/
namespace Go.Proofs.Ytckmciafonnohaa
open Go.RowKit FsPlain
set_option linter.unusedVariables false
set_option linter.unusedSimpArgs false
set_option maxRecDepth 20000
set_option maxRecDepth 20000 in
set_option maxHeartbeats 4000000 in
theorem rright_c (s : ByteArray) (hs : s.size ≤ maxLen) (w : World) :
    Calls Try.prog 22 #[.string s] w fun e w' => e = .returned (.bool (rightB s.data.toList)) ∧ w = w' := by
  have hsz : s.data.toList.length = s.size := rfl
  unfold maxLen at hs
  obtain ⟨r, hr⟩ : ∃ r, r = rightB s.data.toList := ⟨_, rfl⟩
  rw [← hr]
  have HR := Lib.hid hr
  have HSZ := Lib.hid hsz
  clear hr hsz
  go_enter Try.func22, Try.ntmps22
  go_wp2_with fail
  go_loop [3] (fun i => ∃ k : Nat, k ≤ s.size ∧ i = .int .i64 k ∧ (s.data.toList.take k).all letterB = true) (fun i => s.size - (intOf i).toNat)
  case atStart => exact ⟨0, Nat.zero_le _, rfl, rfl⟩
  case round =>
    obtain ⟨k, hk, rfl, hall⟩ := hrel
    have HALL := Lib.hid hall
    clear hall
    by_cases hlt : k < s.size
    · have hlt' : k < s.data.toList.length := by rw [HSZ.out]; exact hlt
      have hstep := all_take _ k hlt'
      have hno := all_no _ k hlt'
      have hsame : s.data.toList[k] = s[k] := by simp; rfl
      rw [hsame] at hstep hno
      rw [HALL.out] at hstep
      have hb : s[k].toNat < 256 := s[k].toNat_lt
      cases hl : letterB s[k]
      · have hrf := right_no _ (hno hl)
        rw [← HR.out] at hrf
        unfold letterB at hl
        rw [decide_eq_false_iff_not] at hl
        have HL := Lib.hid hl
        clear hl hstep hno hsame
        subst hrf
        by_cases h5 : (s[k].toNat : Int) = 46
        · exfalso; exact HL.out (.inr (.inr h5))
        · have t5 : ((s[k].toNat : Int) != 46) = true := by simp [h5]
          go_wp2_with fail
          all_goals first
            | (exfalso; have := HL.out; omega)
            | (go_ret; exact ⟨rfl, rfl⟩)
      · have HST := Lib.hid (show (s.data.toList.take (k + 1)).all letterB = true by rw [hstep, hl]; rfl)
        unfold letterB at hl
        rw [decide_eq_true_eq] at hl
        have HL := Lib.hid hl
        clear hl hstep hno hsame
        by_cases h5 : (s[k].toNat : Int) = 46
        · have t5 : ((s[k].toNat : Int) != 46) = false := by simp [h5]
          go_wp2_with fail
          all_goals exact ⟨⟨k + 1, by omega, by go_num, HST.out⟩, by simp [intOf]; omega⟩
        · have t5 : ((s[k].toNat : Int) != 46) = true := by simp [h5]
          go_wp2_with fail
          all_goals first
            | exact ⟨⟨k + 1, by omega, by go_num, HST.out⟩, by simp [intOf]; omega⟩
            | (exfalso; have := HL.out; omega)
    · have hke : k = s.size := by omega
      have hr2 := right_len s.data.toList (by have := HALL.out; rw [hke, ← HSZ.out, List.take_length] at this; exact this)
      rw [← HR.out, HSZ.out] at hr2
      have HR2 := Lib.hid hr2
      clear hr2 hke
      by_cases h1 : 1 ≤ s.size <;> by_cases h2 : s.size ≤ 24
      all_goals
        go_wp2_with fail
        all_goals
          go_ret
          exact ⟨ret_fb (by rw [HR2.out]; first | (rw [decide_eq_decide]; omega) | (rw [eq_comm, decide_eq_false_iff_not]; omega) | (rw [eq_comm, decide_eq_true_iff]; omega)), rfl⟩
end Go.Proofs.Ytckmciafonnohaa
/- The document's disk: Create. -/
namespace Go.Proofs.Ytckmciafonnohaa
open Go.RowKit FsPlain
set_option linter.unusedVariables false
set_option linter.unusedSimpArgs false
set_option maxRecDepth 20000
theorem rbs_list (l : List UInt8) : (bs l).data.toList = l := rfl
end Go.Proofs.Ytckmciafonnohaa
/- The document's disk: Append. -/
namespace Go.Proofs.Ytckmciafonnohaa
open Go.RowKit FsPlain
set_option linter.unusedVariables false
set_option linter.unusedSimpArgs false
set_option maxRecDepth 20000
end Go.Proofs.Ytckmciafonnohaa
/- The document's disk: New, Arm, Whole. -/
namespace Go.Proofs.Ytckmciafonnohaa
open Go.RowKit FsPlain
set_option linter.unusedVariables false
set_option linter.unusedSimpArgs false
set_option maxRecDepth 20000
end Go.Proofs.Ytckmciafonnohaa
/- The document's disk: Size, Read. -/
namespace Go.Proofs.Ytckmciafonnohaa
open Go.RowKit FsPlain
set_option linter.unusedVariables false
set_option linter.unusedSimpArgs false
set_option maxRecDepth 20000
theorem bs_cut (l : List UInt8) (i k : Nat) : (bs l).extract i (i + k) = bs ((l.drop i).take k) := by
  unfold bs
  apply ByteArray.ext
  simp [ByteArray.data_extract]
end Go.Proofs.Ytckmciafonnohaa
/- The document's disk: Sync. -/
namespace Go.Proofs.Ytckmciafonnohaa
open Go.RowKit FsPlain
set_option linter.unusedVariables false
set_option linter.unusedSimpArgs false
set_option maxRecDepth 20000
end Go.Proofs.Ytckmciafonnohaa
/- The document's disk: Remove. -/
namespace Go.Proofs.Ytckmciafonnohaa
open Go.RowKit FsPlain
set_option linter.unusedVariables false
set_option linter.unusedSimpArgs false
set_option maxRecDepth 20000
theorem drop_out (s : St) (n : List UInt8) : (s.drop n).fs = outF n s.fs := by
  show s.fs.filter (fun f => !(f.name == n)) = s.fs.filter fun y => decide (y.name ≠ n)
  congr 1
  funext y
  by_cases h : y.name = n <;> simp [h]
theorem sort_outF {l : List F} {n : List UInt8} (h : SortF l) : SortF (outF n l) := h.sublist List.filter_sublist
end Go.Proofs.Ytckmciafonnohaa
/- The document's disk: Rename. -/
namespace Go.Proofs.Ytckmciafonnohaa
open Go.RowKit FsPlain
set_option linter.unusedVariables false
set_option linter.unusedSimpArgs false
set_option maxRecDepth 20000
theorem move_put {s : St} {a b : List UInt8} {f : F} : (s.move a b f).fs = putF ⟨b, f.data, f.kept⟩ (outF b (outF a s.fs)) := by
  unfold St.move
  show insF _ ((s.drop a).drop b).fs = _
  rw [drop_out, drop_out]
  refine ins_put _ _ fun y hy => ?_
  have := (List.mem_filter.1 hy).2
  simpa using this
theorem sort_move {s : St} {a b : List UInt8} {f : F} (h : SortF s.fs) : SortF (s.move a b f).fs := by
  rw [move_put]
  refine sort_put (sort_outF (sort_outF h)) fun y hy => ?_
  have := (List.mem_filter.1 hy).2
  simpa using this
end Go.Proofs.Ytckmciafonnohaa
/- The document's disk: Rise. -/
namespace Go.Proofs.Ytckmciafonnohaa
open Go.RowKit FsPlain
set_option linter.unusedVariables false
set_option linter.unusedSimpArgs false
set_option maxRecDepth 20000
def riseL (ks : List Int) (l : List F) : List F := l.mapIdx fun i f => fall f (ks.getD i 0)
theorem riseL_snoc {ks : List Int} {l : List F} {k : Nat} {y : F} (h : l[k]? = some y) : riseL ks (l.take (k + 1)) = riseL ks (l.take k) ++ [fall y (ks.getD k 0)] := by
  have hk := (List.getElem?_eq_some_iff.1 h).1
  unfold riseL
  rw [List.take_add_one, h, Option.toList_some, List.mapIdx_append, List.length_take, Nat.min_eq_left (by omega)]
  simp
theorem riseL_len (ks : List Int) (l : List F) : (riseL ks l).length = l.length := by simp [riseL]
def KCells (w : World) (a : Option Addr) (ks : List Int) : Prop := ∀ j x, ks[j]? = some x → ∃ p, a = some p ∧ p.block < w.heap.size ∧ w.cell? (Addr.add p j) = some (.int .i64 x)
theorem fall0_cells (y : F) (k : Nat := 0) : fcells (fall y (([] : List Int).getD k 0)) = [Value.string (bs y.name), Value.string ((bs y.data).extract 0 y.kept), Value.int IntKind.i64 (y.kept : Int)] := by
  have h : (bs y.data).extract 0 y.kept = bs (y.data.take y.kept) := by
    apply ByteArray.ext
    simp [bs, ByteArray.data_extract]
  rw [h]
  simp [fcells, fall]
end Go.Proofs.Ytckmciafonnohaa
/- The document's disk: Rise, its contract. -/
namespace Go.Proofs.Ytckmciafonnohaa
open Go.RowKit FsPlain
set_option linter.unusedVariables false
set_option linter.unusedSimpArgs false
set_option maxRecDepth 20000
theorem riseL_names {ks : List Int} {l : List F} {z : F} (h : z ∈ riseL ks l) : ∃ y ∈ l, y.name = z.name := by
  unfold riseL at h
  obtain ⟨i, hi, e⟩ := List.mem_mapIdx.1 h
  exact ⟨l[i], List.getElem_mem hi, by rw [← e]; rfl⟩
theorem rise_fs {s : St} (ks : List Int) (hd : s.fs.Pairwise fun x y => x.name ≠ y.name) : ∀ j, j ≤ s.fs.length → (riseN s ks j).fs = riseL ks (s.fs.take j) ++ s.fs.drop j
  | 0, _ => by simp [riseN, riseL]
  | j + 1, h => by
    obtain ⟨y, hy⟩ : ∃ y, s.fs[j]? = some y := ⟨_, List.getElem?_eq_getElem (by omega)⟩
    have hdr : s.fs.drop j = y :: s.fs.drop (j + 1) := by
      rw [List.drop_eq_getElem_cons (by omega)]
      rw [(List.getElem?_eq_some_iff.1 hy).2]
    have hnm : nameAt s.fs j = y.name := by simp [nameAt, hy]
    have hp := hd
    rw [← List.take_append_drop j s.fs, hdr] at hp
    have hp2 := List.pairwise_append.1 hp
    have hA : ∀ z ∈ riseL ks (s.fs.take j), z.name ≠ y.name := fun z hz => by
      obtain ⟨x, hx, e⟩ := riseL_names hz
      rw [← e]; exact hp2.2.2 x hx y (List.mem_cons_self ..)
    have hC : ∀ z ∈ s.fs.drop (j + 1), z.name ≠ y.name := fun z hz => ((List.pairwise_cons.1 hp2.2.1).1 z hz).symm
    show ((riseN s ks j).fs.map fun f => if f.name = nameAt s.fs j then fall f (ks.getD j 0) else f) = _
    rw [rise_fs ks hd j (by omega), hdr, hnm, upd_list rfl hA hC, riseL_snoc hy, List.append_assoc]
    rfl
theorem risen_ok {s : St} (ks : List Int) (h : s.ok) : ∀ j, j ≤ s.fs.length → (riseN s ks j).ok
  | 0, _ => h
  | j + 1, hj => by
    have ih := risen_ok ks h j (by omega)
    obtain ⟨y, hy⟩ : ∃ y, s.fs[j]? = some y := ⟨_, List.getElem?_eq_getElem (by omega)⟩
    have hnm : nameAt s.fs j = y.name := by simp [nameAt, hy]
    obtain ⟨f, hf⟩ := get_name (s := riseN s ks j) (n := nameAt s.fs j) (by rw [rise_names, hnm]; exact List.mem_map_of_mem (List.mem_of_getElem? hy))
    exact ok_fall ih hf _
theorem sort_names {l m : List F} (h : l.map (·.name) = m.map (·.name)) (hs : SortF l) : SortF m := by
  have e : ∀ l : List F, SortF l ↔ (l.map (·.name)).Pairwise fun a b => Op.bytesLess a b = true := fun l => by
    rw [List.pairwise_map]; rfl
  rw [e, ← h, ← e]; exact hs
theorem riseN_keep (s : St) (ks : List Int) : ∀ j, (riseN s ks j).room = s.room ∧ (riseN s ks j).calls = s.calls
  | 0 => ⟨rfl, rfl⟩
  | j + 1 => riseN_keep s ks j
theorem riseR_is {s : St} (ks : List Int) (h : s.ok) : riseR s ks = { s with down := false, ahead := -1, fs := riseL ks s.fs } := by
  have e := rise_fs ks h.d s.fs.length (Nat.le_refl _)
  rw [List.take_length, List.drop_length, List.append_nil] at e
  obtain ⟨e1, e2⟩ := riseN_keep s ks s.fs.length
  unfold riseR
  simp only []
  rw [e, e1, e2]
theorem rise_ok {s : St} (ks : List Int) (h : s.ok) : (riseR s ks).ok := by
  have k := risen_ok ks h s.fs.length (Nat.le_refl _)
  exact ⟨k.r0, k.r1, k.c0, by show (-1 : Int) ≤ -1; omega, by show (-1 : Int) ≤ _; omega, k.u, k.k, k.n, k.m, k.d⟩
theorem rise_sort {s : St} (ks : List Int) (h : SortF s.fs) : SortF (riseR s ks).fs := sort_names (rise_names s ks s.fs.length).symm h
end Go.Proofs.Ytckmciafonnohaa
/- The document's disk as a part of a world: what its calls leave. -/
namespace Go.Proofs.Ytckmciafonnohaa
open Go.RowKit FsPlain
set_option linter.unusedVariables false
set_option linter.unusedSimpArgs false
set_option maxRecDepth 20000
end Go.Proofs.Ytckmciafonnohaa

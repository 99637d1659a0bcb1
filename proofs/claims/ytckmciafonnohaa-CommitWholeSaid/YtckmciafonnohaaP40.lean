/- In one text: FsNames, FsFall. -/
import Derived.Shelf.SlIter.Nil
import Derived.Shelf.SortM.Plain
import Derived.Shelf.SortM.SortNone
import Derived.Ground.GgzProg
import Derived.Ground.SlgmProg
import Derived.Sort.OwnSorted
import Derived.Test.YtckmciafonnohaaP07
import Derived.StillTailTactics
/- The names of a map of files, sorted: the library's contracts of slices.Sorted and maps.Keys, laid at this program's numbers; and the contract of names. -/
namespace Go.Proofs.Ytckmciafonnohaa
open Go.RowKit Go.Maps Go.Sort Go.Shelf FsPlain
set_option linter.unusedVariables false
set_option linter.unusedSimpArgs false
set_option maxRecDepth 20000
def keysLaid_ren : Go.Shelf.Ren := ⟨fun | 7 => 39 | 10 => 57 | n => n, fun | 23 => 42 | 26 => 9 | 3 => 52 | 28 => 70 | 0 => 0 | 27 => 69 | 33 => 62 | 4 => 4 | n => n, fun | n => n⟩
theorem keysLaid : Go.Proofs.SlLaysZ.n7 Try.prog keysLaid_ren := {
  mixed := by kernel_rfl
  f7 := ⟨Try.f39.name, by decide, Try.func39.trans (congrArg some (by kernel_rfl))⟩
  f10 := ⟨Try.f57.name, by decide, Try.func57.trans (congrArg some (by kernel_rfl))⟩
  t0 := Try.underlying0
  a0 := Try.isAgg0
  z0 := Try.sizeOf0
  v0 := Try.zeroValue0
  t4 := Try.underlying4
  a4 := Try.isAgg4
  z4 := Try.sizeOf4
  v4 := Try.zeroValue4
  t23 := Try.underlying42
  a23 := Try.isAgg42
  z23 := Try.sizeOf42
  v23 := Try.zeroValue42
  t26 := Try.underlying9
  a26 := Try.isAgg9
  z26 := Try.sizeOf9
  v26 := Try.zeroValue9
  t27 := Try.underlying69
  a27 := Try.isAgg69
  z27 := Try.sizeOf69
  v27 := Try.zeroValue69
  t28 := Try.underlying70
  a28 := Try.isAgg70
  z28 := Try.sizeOf70
  v28 := Try.zeroValue70
  t33 := Try.underlying62
  a33 := Try.isAgg62
  z33 := Try.sizeOf62
  v33 := Try.zeroValue62 }
def sortedLaid_ren : Go.Shelf.Ren := ⟨fun | 6 => 38 | 8 => 55 | 9 => 56 | 11 => 67 | 13 => 69 | 12 => 68 | 23 => 86 | 24 => 87 | 14 => 77 | 15 => 78 | 16 => 79 | 17 => 80 | 18 => 81 | 19 => 82 | 20 => 83 | 21 => 84 | 22 => 85 | 25 => 91 | 26 => 92 | 27 => 93 | 28 => 94 | 29 => 95 | 30 => 96 | 31 => 97 | n => n, fun | 26 => 9 | 28 => 70 | 24 => 50 | 0 => 0 | 3 => 3 | 37 => 106 | 48 => 59 | 50 => 126 | 4 => 4 | 40 => 118 | 39 => 117 | 45 => 109 | 5 => 5 | 9 => 9 | 51 => 130 | 55 => 134 | 57 => 136 | 58 => 137 | 33 => 62 | n => n, fun | n => n⟩
theorem sortedLaid : Go.Proofs.SlLaysZ.n6 Try.prog sortedLaid_ren := {
  mixed := by kernel_rfl
  f6 := ⟨Try.f38.name, by decide, Try.func38.trans (congrArg some (by kernel_rfl))⟩
  f8 := ⟨Try.f55.name, by decide, Try.func55.trans (congrArg some (by kernel_rfl))⟩
  f11 := ⟨Try.f67.name, by decide, Try.func67.trans (congrArg some (by kernel_rfl))⟩
  t0 := Try.underlying0
  a0 := Try.isAgg0
  z0 := Try.sizeOf0
  v0 := Try.zeroValue0
  t24 := Try.underlying50
  a24 := Try.isAgg50
  z24 := Try.sizeOf50
  v24 := Try.zeroValue50
  t26 := Try.underlying9
  a26 := Try.isAgg9
  z26 := Try.sizeOf9
  v26 := Try.zeroValue9
  t28 := Try.underlying70
  a28 := Try.isAgg70
  z28 := Try.sizeOf70
  v28 := Try.zeroValue70
  i26 := by kernel_rfl }
def sortLaid_ren : Go.Shelf.Ren := ⟨fun | 6 => 56 | 8 => 69 | 9 => 68 | 19 => 86 | 20 => 87 | 21 => 77 | 22 => 78 | 23 => 79 | 24 => 80 | 25 => 81 | 26 => 82 | 27 => 83 | 28 => 84 | 29 => 85 | 36 => 91 | 31 => 92 | 32 => 93 | 37 => 94 | 38 => 95 | 39 => 96 | 41 => 97 | n => n, fun | 27 => 50 | 29 => 9 | 3 => 3 | 32 => 106 | 26 => 50 | 0 => 0 | 44 => 59 | 46 => 126 | 4 => 4 | 36 => 118 | 35 => 117 | 41 => 109 | 5 => 5 | 9 => 9 | 53 => 130 | 57 => 134 | 63 => 136 | 64 => 137 | n => n, fun | n => n⟩
theorem sortLaid : Go.Proofs.SlLaysM.n6 Try.prog sortLaid_ren := {
  mixed := by kernel_rfl
  f6 := ⟨Try.f56.name, by decide, Try.func56.trans (congrArg some (by kernel_rfl))⟩
  f8 := Try.func69.trans (congrArg some (by kernel_rfl))
  f9 := ⟨Try.f68.name, by decide, Try.func68.trans (congrArg some (by kernel_rfl))⟩
  f19 := Try.func86.trans (congrArg some (by kernel_rfl))
  f20 := Try.func87.trans (congrArg some (by kernel_rfl))
  f21 := ⟨Try.f77.name, by decide, Try.func77.trans (congrArg some (by kernel_rfl))⟩
  f22 := ⟨Try.f78.name, by decide, Try.func78.trans (congrArg some (by kernel_rfl))⟩
  f23 := ⟨Try.f79.name, by decide, Try.func79.trans (congrArg some (by kernel_rfl))⟩
  f24 := ⟨Try.f80.name, by decide, Try.func80.trans (congrArg some (by kernel_rfl))⟩
  f25 := ⟨Try.f81.name, by decide, Try.func81.trans (congrArg some (by kernel_rfl))⟩
  f26 := ⟨Try.f82.name, by decide, Try.func82.trans (congrArg some (by kernel_rfl))⟩
  f27 := ⟨Try.f83.name, by decide, Try.func83.trans (congrArg some (by kernel_rfl))⟩
  f28 := ⟨Try.f84.name, by decide, Try.func84.trans (congrArg some (by kernel_rfl))⟩
  f29 := ⟨Try.f85.name, by decide, Try.func85.trans (congrArg some (by kernel_rfl))⟩
  f31 := Try.func92.trans (congrArg some (by kernel_rfl))
  f32 := Try.func93.trans (congrArg some (by kernel_rfl))
  f36 := ⟨Try.f91.name, by decide, Try.func91.trans (congrArg some (by kernel_rfl))⟩
  f37 := ⟨Try.f94.name, by decide, Try.func94.trans (congrArg some (by kernel_rfl))⟩
  f38 := ⟨Try.f95.name, by decide, Try.func95.trans (congrArg some (by kernel_rfl))⟩
  f39 := ⟨Try.f96.name, by decide, Try.func96.trans (congrArg some (by kernel_rfl))⟩
  f41 := ⟨Try.f97.name, by decide, Try.func97.trans (congrArg some (by kernel_rfl))⟩
  t0 := Try.underlying0
  a0 := Try.isAgg0
  z0 := Try.sizeOf0
  v0 := Try.zeroValue0
  t3 := Try.underlying3
  a3 := Try.isAgg3
  z3 := Try.sizeOf3
  v3 := Try.zeroValue3
  t4 := Try.underlying4
  a4 := Try.isAgg4
  z4 := Try.sizeOf4
  v4 := Try.zeroValue4
  t5 := Try.underlying5
  a5 := Try.isAgg5
  z5 := Try.sizeOf5
  v5 := Try.zeroValue5
  t9 := Try.underlying9
  a9 := Try.isAgg9
  z9 := Try.sizeOf9
  v9 := Try.zeroValue9
  t26 := Try.underlying50
  a26 := Try.isAgg50
  z26 := Try.sizeOf50
  v26 := Try.zeroValue50
  t27 := Try.underlying50
  a27 := Try.isAgg50
  z27 := Try.sizeOf50
  v27 := Try.zeroValue50
  t29 := Try.underlying9
  a29 := Try.isAgg9
  z29 := Try.sizeOf9
  v29 := Try.zeroValue9
  t32 := Try.underlying106
  a32 := Try.isAgg106
  z32 := Try.sizeOf106
  v32 := Try.zeroValue106
  t35 := Try.underlying117
  a35 := Try.isAgg117
  z35 := Try.sizeOf117
  v35 := Try.zeroValue117
  t36 := Try.underlying118
  a36 := Try.isAgg118
  z36 := Try.sizeOf118
  v36 := Try.zeroValue118
  t41 := Try.underlying109
  a41 := Try.isAgg109
  z41 := Try.sizeOf109
  v41 := Try.zeroValue109
  t44 := Try.underlying59
  a44 := Try.isAgg59
  z44 := Try.sizeOf59
  v44 := Try.zeroValue59
  t46 := Try.underlying126
  a46 := Try.isAgg126
  z46 := Try.sizeOf126
  v46 := Try.zeroValue126
  t53 := Try.underlying130
  a53 := Try.isAgg130
  z53 := Try.sizeOf130
  v53 := Try.zeroValue130
  t57 := Try.underlying134
  a57 := Try.isAgg134
  z57 := Try.sizeOf134
  v57 := Try.zeroValue134
  t63 := Try.underlying136
  a63 := Try.isAgg136
  z63 := Try.sizeOf136
  v63 := Try.zeroValue136
  t64 := Try.underlying137
  a64 := Try.isAgg137
  z64 := Try.sizeOf137
  v64 := Try.zeroValue137 }

theorem sorts_in (k : Nat) : AnyZ.SortsIn Try.prog sortedLaid_ren Fence.wide k :=
  ⟨fun blk off cap ss W hH hblk hsz => callsIn_wide.2 (AnyM.slices_Sort_string sortLaid blk off cap ss W hH hblk hsz),
   fun p cap W => callsIn_wide.2 (AnyM.slices_Sort_string_none sortLaid p cap W)⟩

theorem keys_in (mb : Option Nat) (W : World) : CallsIn Fence.wide 5 Try.prog 39 #[.map mb] W fun e w' => e = .returned (.func (.func 57) #[] #[.pointer (some ⟨W.heap.size, 0, none⟩)]) ∧ w' = W.alloc (.cells #[.map mb] 42) :=
  AnyZ.keys_in keysLaid Fence.wide 5 trivial rfl mb W

set_option maxRecDepth 20000 in
set_option maxHeartbeats 1000000 in
theorem sorted_in (b nn : Nat) (D0 : DataW Unit) (R : Value → Option (DataW Unit × List MemPlace)) (w : World) (hown : w.ownsMap Try.prog 9 R b nn D0) (hmax : Maps.size D0 ≤ maxLen) (hbytes : Maps.size D0 * 16 ≤ 140737488355328) :
    CallsIn Fence.wide 5 Try.prog 38 #[.func (.func 57) #[] #[.pointer (some ⟨w.heap.size, 0, none⟩)]] (w.alloc (.cells #[.map (some b)] 42)) fun e w' => ∃ (v : Value) (ss : List (List UInt8)), e = .returned v ∧ ss.Perm (strKeys D0) ∧
      w'.ownsRow (w.alloc (.cells #[.map (some b)] 42)).heap.size 9 1 v ss.length ((ss.mergeSort (fun x y => decide (x ≤ y))).map encStr) ∧ (v = .slice none 0 0 ↔ ss = []) ∧ Below (w.alloc (.cells #[.map (some b)] 42)).heap.size (w.alloc (.cells #[.map (some b)] 42)) w' := by
  have hbl := hown.lt
  have hseq : SeqGives Fence.wide 2 Try.prog 57 #[.pointer (some ⟨w.heap.size, 0, none⟩)] encStr (fun ss => ss.Perm (strKeys D0)) (Maps.size D0) (w.alloc (.cells #[.map (some b)] 42)) :=
    AnyZ.keys_gives (ρ := keysLaid_ren) { keysLaid with } Fence.wide _ trivial rfl (by omega) w.heap.size b nn D0 _ (by simp) (by simp) (by
      obtain ⟨es, clock, hb, Ft, hs, hD⟩ := hown
      exact ⟨es, clock, (Below.heap_alloc _ _ b hbl).trans hb, Ft, hs, hD⟩)
  exact AnyZ.sorted_in sortedLaid Fence.wide 5 trivial trivial trivial trivial rfl (by omega) (sorts_in _) (enters_of Try.func56 (by kernel_rfl) rfl) 57 #[.pointer (some ⟨w.heap.size, 0, none⟩)] trivial (enters_of Try.func57 (by kernel_rfl) rfl) _ _ hmax hbytes _ hseq

/-- The names of the files, in order, in a row of the call's own. -/
def Names (w : World) (l : List (List UInt8)) (e : Ending) (w' : World) : Prop :=
  ∃ v, e = .returned v ∧ w'.ownsRow w.heap.size 9 1 v l.length (l.map encStr) ∧ Gr w w'

theorem str_keys (L : List Pl) : strKeys (ents L) = L.map fun x => x.f.name := by
  unfold ents strKeys
  simp [Function.comp_def]
  intro a _; rfl

set_option maxRecDepth 20000 in
set_option maxHeartbeats 1000000 in
theorem names_c (p m : Nat) (s : St) (B : Nat → Prop) (L : List Pl) (w : World) (hs : s.ok) (h : DiskAt w p s B m L) :
    Calls Try.prog 17 #[.pointer (some ⟨p, 0, none⟩)] w (Names w ((L.map fun x => x.f.name).mergeSort (fun x y => decide (x ≤ y)))) := by
  have c1 : w.cell? ⟨p, 1, none⟩ = some (.map (some m)) := by rw [cells_at h.heap]; rfl
  have hLl : L.length = s.fs.length := by rw [← h.fs]; simp
  have hm200 := hs.m
  have CS := sorted_in m L.length (ents L) ptrElem w h.own (by rw [ents_size]; unfold maxLen; omega) (by rw [ents_size]; omega)
  have HS := Lib.hid (str_keys L)
  clear h hs hLl hm200
  refine (callsIn_wide (n := 6)).1 ?_
  have hfK : Fence.wide.fn 39 := trivial
  have hfS : Fence.wide.fn 38 := trivial
  refine callsIn_of_wp Try.func17 rfl trivial ?_ rfl
  simp only [Try.ntmps17, List.size_toArray, List.length_cons, List.length_nil, Nat.reduceAdd, Nat.reduceSub, Array.replicate_succ, Array.replicate_zero, List.push_toArray, List.append_toArray, List.nil_append, List.cons_append]
  gi_wp2_with (first
    | (gi_at_call 39; refine (keys_in _ _).mono ?_; rintro e w' ⟨rfl, rfl⟩)
    | (gi_at_call 38; refine CS.mono ?_; rintro e w' ⟨v, ss, rfl, hS, hrow, hnil, hb⟩))
  go_ret
  rw [HS.out] at hS
  have hm := mergeSort_of_perm hS
  have hlen : ss.length = (((L.map fun x => x.f.name).mergeSort (fun x y => decide (x ≤ y)))).length := by rw [List.length_mergeSort]; exact hS.length_eq
  refine ⟨v, rfl, ?_, ((Below.refl _ w).alloc (Nat.le_refl _) _).trans (hb.mono (by simp))⟩
  rw [← hlen, ← hm]
  exact ownsRow_base_a hrow (by simp)
end Go.Proofs.Ytckmciafonnohaa
/- The contract of a file's fall; the order of the names. -/
namespace Go.Proofs.Ytckmciafonnohaa
open Go.RowKit Go.Maps FsPlain
set_option linter.unusedVariables false
set_option linter.unusedSimpArgs false
set_option maxRecDepth 20000

theorem before_le : ∀ a b : List UInt8, bytesBefore a b = true → a ≤ b
  | [], b, _ => List.nil_le b
  | _ :: _, [], h => by simp [bytesBefore] at h
  | x :: r, y :: q, h => by
    simp only [bytesBefore, Bool.or_eq_true, Bool.and_eq_true, decide_eq_true_eq, beq_iff_eq] at h
    rw [List.cons_le_cons_iff]
    rcases h with h | ⟨h1, h2⟩
    · exact .inl h
    · exact .inr ⟨h1, before_le r q h2⟩

theorem DiskAt.sorted {w : World} {p m : Nat} {s : St} {B : Nat → Prop} {L : List Pl} (h : DiskAt w p s B m L) : (L.map fun x => x.f.name).mergeSort (fun x y => decide (x ≤ y)) = L.map fun x => x.f.name := by
  obtain ⟨es, clock, _, F, _, hD⟩ := h.own
  have hp := sorted_sorted lawS.one _ (fit_keys F) (fit_apart lawS F)
  unfold ents at hD
  simp only [DataW.map.injEq] at hD
  rw [← hD] at hp
  rw [List.pairwise_map] at hp
  refine List.mergeSort_of_pairwise ?_
  rw [List.pairwise_map]
  exact hp.imp fun h => by simpa using before_le _ _ h

theorem row_cut {w : World} {a : Option Addr} {n c : Nat} {l : List UInt8} (h : w.ownsRow 0 5 1 (.slice a n c) n (Lib.byteCells l)) (k : Nat) (hk : k ≤ n) : w.ownsRow 0 5 1 (.slice a k c) k (Lib.byteCells (l.take k)) := by
  have hl : l.length = n := by have := h.1; simpa [Lib.byteCells_length] using this
  refine ⟨by rw [Lib.byteCells_length, List.length_take]; omega, ?_⟩
  rcases h.2 with ⟨h1, h2⟩ | ⟨g, cap, cur, hv, hb, hg, hn, hc, hs, ht⟩
  · simp only [Value.slice.injEq] at h1
    obtain ⟨rfl, _, rfl⟩ := h1
    have : k = 0 := by omega
    subst this
    exact .inl ⟨rfl, rfl⟩
  · simp only [Value.slice.injEq] at hv
    obtain ⟨rfl, _, rfl⟩ := hv
    refine .inr ⟨g, _, cur, rfl, hb, hg, by omega, hc, hs, ?_⟩
    have : (Lib.byteCells l).take k = Lib.byteCells (l.take k) := by simp [Lib.byteCells, List.map_take]
    rw [← this, ← ht, List.take_take]
    congr 1
    omega

theorem own_blk (a : Option Addr) (n c n' c' : Nat) : (Value.slice a n c).ownBlock = (Value.slice a n' c').ownBlock := by cases a <;> rfl
def stays (f : F) (k : Int) : Nat := f.kept + min (max k 0).toNat (f.data.length - f.kept)

def Fell (w : World) (x : Pl) (k : Int) (e : Ending) (w' : World) : Prop :=
  e = .returned (.tuple #[]) ∧ Only (fun i => i = x.blk) w w' ∧ ∃ v', FileAt w' ⟨fall x.f k, x.blk, v'⟩ ∧ v'.ownBlock = x.v.ownBlock

set_option maxRecDepth 20000 in
set_option maxHeartbeats 2000000 in
theorem fall_c (x : Pl) (k : Int) (w : World) (hk0 : -9223372036854775808 ≤ k) (hk1 : k ≤ 9223372036854775807) (hF : FileAt w x) (hne : x.v.ownBlock ≠ some x.blk) (hkl : x.f.kept ≤ x.f.data.length) (hl : x.f.data.length ≤ 16777216) :
    Calls Try.prog 18 #[.pointer (some ⟨x.blk, 0, none⟩), .int .i64 k] w (Fell w x k) := by
  obtain ⟨a, c, hv, _⟩ := row_shape hF.2
  have hc : x.f.data.length ≤ c := by
    rcases hF.2.2 with ⟨h1, h2⟩ | ⟨g, cap, cur, h1, _, _, h2, _⟩
    · omega
    · rw [hv] at h1; simp only [Value.slice.injEq] at h1; omega
  have c0 : w.cell? ⟨x.blk, 0, none⟩ = some (.slice a x.f.data.length c) := by rw [cells_at hF.1, ← hv]; rfl
  have c1 : w.cell? ⟨x.blk, 1, none⟩ = some (.int .i64 (x.f.kept : Int)) := by rw [cells_at hF.1]; rfl
  have f0 := cells_free hF.1 0
  have f1 := cells_free hF.1 1
  obtain ⟨r, hr⟩ : ∃ r, r = stays x.f k := ⟨_, rfl⟩
  have hr2 : r ≤ x.f.data.length := by rw [hr]; unfold stays; omega
  have key : ∀ w1 : World, w1.heap = ((w.setCell ⟨x.blk, 1, none⟩ (.int .i64 (r : Int))).setCell ⟨x.blk, 0, none⟩ (.slice a r c)).heap → w1.os = w.os → w1.tape = w.tape → w1.output = w.output → Fell w x k (.returned (.tuple #[])) w1 := by
    intro w1 e eo et ep
    have o2 := (Only.cell1 w x.blk 1 (.int .i64 (r : Int))).trans (Only.cell1 _ x.blk 0 (.slice a r c))
    refine ⟨rfl, ⟨eo, et, ep, by rw [e]; exact o2.size, fun k hk hb => by rw [e]; exact o2.block k hk hb⟩, .slice a r c, ⟨?_, ?_⟩, by rw [hv]; exact own_blk _ _ _ _ _⟩
    · rw [e, cells_set (cells_set hF.1 1 _) 0 _]
      rw [hr]; rfl
    · have h1 := row_cut (hv ▸ hF.2) r hr2
      have hne' : (Value.slice a r c).ownBlock ≠ some x.blk := by rw [hv] at hne; rw [own_blk a r c x.f.data.length c]; exact hne
      have h2 := ownsRow_setCell_other (ownsRow_setCell_other h1 (a := ⟨x.blk, 1, none⟩) hne' (.int .i64 (r : Int))) (a := ⟨x.blk, 0, none⟩) hne' (.slice a r c)
      have h3 : (fall x.f k).data = x.f.data.take r := by rw [hr]; rfl
      have h4 : (x.f.data.take r).length = r := by rw [List.length_take]; omega
      show World.ownsRow _ 0 _ 1 (.slice a r c) (fall x.f k).data.length (Lib.byteCells (fall x.f k).data)
      rw [h3, h4]
      unfold World.ownsRow at h2 ⊢
      rw [e]
      exact h2
  have HK := Lib.hid key
  have HR := Lib.hid hr
  clear key hF hv hne hr
  unfold stays at HR
  generalize x.f.data.length = q at *
  generalize x.f.kept = t at *
  have hsl : ∀ w, (Instr.slice 72 (.slice a q c) none (some (.int .i64 (r : Int))) none).run Try.prog w = .ok (.slice a r c) w := by
    intro w
    have hsz : ∀ w, (sizeOf (Try.prog.elem 72)).run Try.prog w = .ok 1 w := fun w => by kernel_rfl
    rw [run_slice_h w _ _ _ _ (by kernel_rfl) .i64 _ (by omega) (by omega), hsz]
    simp only [Result.andThen, sliced, Int.toNat_natCast, Nat.sub_zero, Nat.zero_mul]
    congr 1
    by_cases hc0 : c = 0
    · rw [if_pos hc0]
    · rw [if_neg hc0]; cases a <;> simp [Addr.add]
  have e3 : (t : Int) + min (max k 0) ((q : Int) - (t : Int)) = (r : Int) := by have := HR.out; omega
  have e1 : IntKind.i64.wrap ((q : Int) - (t : Int)) = (q : Int) - (t : Int) := IntWalk.i64_in _ (by omega)
  have e2 : IntKind.i64.wrap (r : Int) = (r : Int) := IntWalk.i64_in _ (by omega)
  go_enter Try.func18, Try.ntmps18
  go_wp2_with fail
  go_still_tail 20, (by kernel_rfl)
  change wpList _ _ _ _ _ w.drew
  go_wp2_with fail
  obtain ⟨W, hW⟩ : ∃ W, W = (w.setCell ⟨x.blk, 1, none⟩ (.int .i64 (r : Int))).drew := ⟨_, rfl⟩
  have d0 : W.cell? ⟨x.blk, 0, none⟩ = some (.slice a q c) := by rw [hW]; simp [World.cell?_setCell_other, c0]
  have d1 : W.cell? ⟨x.blk, 1, none⟩ = some (.int .i64 (r : Int)) := by rw [hW]; simp [World.cell?_setCell_same _ _ _ c1]
  have g0 : W.frozen? ⟨x.blk, 0, none⟩ = false := by rw [hW]; simp [f0]
  rw [← hW]
  have HW := Lib.hid hW
  clear hW e1 e2 e3 c0 c1 f0 f1
  go_region
  all_goals
    go_wp2_with fail
    go_end0
    exact HK.out _ (by rw [HW.out]; rfl) (by rw [HW.out]; rfl) (by rw [HW.out]; rfl) (by rw [HW.out]; rfl)
end Go.Proofs.Ytckmciafonnohaa

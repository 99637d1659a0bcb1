/- In one text: FsNames, FsFall, FsRise, FsA0, FsA, Rd1. -/
import Derived.Shelf.SlIter.Nil
import Derived.Shelf.SortM.Plain
import Derived.Shelf.SortM.SortNone
import Derived.Ground.GgzProg
import Derived.Ground.SlgmProg
import Derived.Sort.OwnSorted
import Derived.Test.YtpmglnghnelenaaGreatP12
import Derived.StillTailTactics
import Derived.Test.YtpmglnghnelenaaGreatP09
import Derived.Test.YtpmglnghnelenaaGreatP10
import Derived.Deep.RegionHeld3
/- The names of a map of files, sorted: the library's contracts of slices.Sorted and maps.Keys, laid at this program's numbers; and the contract of names. -/
namespace Go.Proofs.YtpmglnghnelenaaGreat
open Go.RowKit Go.Maps Go.Sort Go.Shelf FsPlain
set_option linter.unusedVariables false
set_option linter.unusedSimpArgs false
set_option maxRecDepth 20000
def keysLaid_ren : Go.Shelf.Ren := ⟨fun | 7 => 70 | 10 => 95 | n => n, fun | 23 => 78 | 26 => 9 | 3 => 81 | 28 => 118 | 0 => 0 | 27 => 117 | 33 => 50 | 4 => 4 | n => n, fun | n => n⟩
theorem keysLaid : Go.Proofs.SlLaysZ.n7 Tryz.prog keysLaid_ren := {
  mixed := by kernel_rfl
  f7 := ⟨Tryz.f70.name, by decide, Tryz.func70.trans (congrArg some (by kernel_rfl))⟩
  f10 := ⟨Tryz.f95.name, by decide, Tryz.func95.trans (congrArg some (by kernel_rfl))⟩
  t0 := Tryz.underlying0
  a0 := Tryz.isAgg0
  z0 := Tryz.sizeOf0
  v0 := Tryz.zeroValue0
  t4 := Tryz.underlying4
  a4 := Tryz.isAgg4
  z4 := Tryz.sizeOf4
  v4 := Tryz.zeroValue4
  t23 := Tryz.underlying78
  a23 := Tryz.isAgg78
  z23 := Tryz.sizeOf78
  v23 := Tryz.zeroValue78
  t26 := Tryz.underlying9
  a26 := Tryz.isAgg9
  z26 := Tryz.sizeOf9
  v26 := Tryz.zeroValue9
  t27 := Tryz.underlying117
  a27 := Tryz.isAgg117
  z27 := Tryz.sizeOf117
  v27 := Tryz.zeroValue117
  t28 := Tryz.underlying118
  a28 := Tryz.isAgg118
  z28 := Tryz.sizeOf118
  v28 := Tryz.zeroValue118
  t33 := Tryz.underlying50
  a33 := Tryz.isAgg50
  z33 := Tryz.sizeOf50
  v33 := Tryz.zeroValue50 }
def sortedLaid_ren : Go.Shelf.Ren := ⟨fun | 6 => 69 | 8 => 93 | 9 => 94 | 11 => 108 | 13 => 110 | 12 => 109 | 23 => 131 | 24 => 132 | 14 => 122 | 15 => 123 | 16 => 124 | 17 => 125 | 18 => 126 | 19 => 127 | 20 => 128 | 21 => 129 | 22 => 130 | 25 => 143 | 26 => 144 | 27 => 145 | 28 => 146 | 29 => 147 | 30 => 148 | 31 => 156 | n => n, fun | 26 => 9 | 28 => 118 | 24 => 26 | 0 => 0 | 3 => 3 | 37 => 141 | 48 => 31 | 50 => 171 | 4 => 4 | 40 => 163 | 39 => 162 | 45 => 107 | 5 => 5 | 9 => 9 | 51 => 182 | 55 => 186 | 57 => 196 | 58 => 197 | 33 => 50 | n => n, fun | n => n⟩
theorem sortedLaid : Go.Proofs.SlLaysZ.n6 Tryz.prog sortedLaid_ren := {
  mixed := by kernel_rfl
  f6 := ⟨Tryz.f69.name, by decide, Tryz.func69.trans (congrArg some (by kernel_rfl))⟩
  f8 := ⟨Tryz.f93.name, by decide, Tryz.func93.trans (congrArg some (by kernel_rfl))⟩
  f11 := ⟨Tryz.f108.name, by decide, Tryz.func108.trans (congrArg some (by kernel_rfl))⟩
  t0 := Tryz.underlying0
  a0 := Tryz.isAgg0
  z0 := Tryz.sizeOf0
  v0 := Tryz.zeroValue0
  t24 := Tryz.underlying26
  a24 := Tryz.isAgg26
  z24 := Tryz.sizeOf26
  v24 := Tryz.zeroValue26
  t26 := Tryz.underlying9
  a26 := Tryz.isAgg9
  z26 := Tryz.sizeOf9
  v26 := Tryz.zeroValue9
  t28 := Tryz.underlying118
  a28 := Tryz.isAgg118
  z28 := Tryz.sizeOf118
  v28 := Tryz.zeroValue118
  i26 := by kernel_rfl }
def sortLaid_ren : Go.Shelf.Ren := ⟨fun | 6 => 94 | 8 => 110 | 9 => 109 | 19 => 131 | 20 => 132 | 21 => 122 | 22 => 123 | 23 => 124 | 24 => 125 | 25 => 126 | 26 => 127 | 27 => 128 | 28 => 129 | 29 => 130 | 36 => 143 | 31 => 144 | 32 => 145 | 37 => 146 | 38 => 147 | 39 => 148 | 41 => 156 | n => n, fun | 27 => 26 | 29 => 9 | 3 => 3 | 32 => 141 | 26 => 26 | 0 => 0 | 44 => 31 | 46 => 171 | 4 => 4 | 36 => 163 | 35 => 162 | 41 => 107 | 5 => 5 | 9 => 9 | 53 => 182 | 57 => 186 | 63 => 196 | 64 => 197 | n => n, fun | n => n⟩
theorem sortLaid : Go.Proofs.SlLaysM.n6 Tryz.prog sortLaid_ren := {
  mixed := by kernel_rfl
  f6 := ⟨Tryz.f94.name, by decide, Tryz.func94.trans (congrArg some (by kernel_rfl))⟩
  f8 := Tryz.func110.trans (congrArg some (by kernel_rfl))
  f9 := ⟨Tryz.f109.name, by decide, Tryz.func109.trans (congrArg some (by kernel_rfl))⟩
  f19 := Tryz.func131.trans (congrArg some (by kernel_rfl))
  f20 := Tryz.func132.trans (congrArg some (by kernel_rfl))
  f21 := ⟨Tryz.f122.name, by decide, Tryz.func122.trans (congrArg some (by kernel_rfl))⟩
  f22 := ⟨Tryz.f123.name, by decide, Tryz.func123.trans (congrArg some (by kernel_rfl))⟩
  f23 := ⟨Tryz.f124.name, by decide, Tryz.func124.trans (congrArg some (by kernel_rfl))⟩
  f24 := ⟨Tryz.f125.name, by decide, Tryz.func125.trans (congrArg some (by kernel_rfl))⟩
  f25 := ⟨Tryz.f126.name, by decide, Tryz.func126.trans (congrArg some (by kernel_rfl))⟩
  f26 := ⟨Tryz.f127.name, by decide, Tryz.func127.trans (congrArg some (by kernel_rfl))⟩
  f27 := ⟨Tryz.f128.name, by decide, Tryz.func128.trans (congrArg some (by kernel_rfl))⟩
  f28 := ⟨Tryz.f129.name, by decide, Tryz.func129.trans (congrArg some (by kernel_rfl))⟩
  f29 := ⟨Tryz.f130.name, by decide, Tryz.func130.trans (congrArg some (by kernel_rfl))⟩
  f31 := Tryz.func144.trans (congrArg some (by kernel_rfl))
  f32 := Tryz.func145.trans (congrArg some (by kernel_rfl))
  f36 := ⟨Tryz.f143.name, by decide, Tryz.func143.trans (congrArg some (by kernel_rfl))⟩
  f37 := ⟨Tryz.f146.name, by decide, Tryz.func146.trans (congrArg some (by kernel_rfl))⟩
  f38 := ⟨Tryz.f147.name, by decide, Tryz.func147.trans (congrArg some (by kernel_rfl))⟩
  f39 := ⟨Tryz.f148.name, by decide, Tryz.func148.trans (congrArg some (by kernel_rfl))⟩
  f41 := ⟨Tryz.f156.name, by decide, Tryz.func156.trans (congrArg some (by kernel_rfl))⟩
  t0 := Tryz.underlying0
  a0 := Tryz.isAgg0
  z0 := Tryz.sizeOf0
  v0 := Tryz.zeroValue0
  t3 := Tryz.underlying3
  a3 := Tryz.isAgg3
  z3 := Tryz.sizeOf3
  v3 := Tryz.zeroValue3
  t4 := Tryz.underlying4
  a4 := Tryz.isAgg4
  z4 := Tryz.sizeOf4
  v4 := Tryz.zeroValue4
  t5 := Tryz.underlying5
  a5 := Tryz.isAgg5
  z5 := Tryz.sizeOf5
  v5 := Tryz.zeroValue5
  t9 := Tryz.underlying9
  a9 := Tryz.isAgg9
  z9 := Tryz.sizeOf9
  v9 := Tryz.zeroValue9
  t26 := Tryz.underlying26
  a26 := Tryz.isAgg26
  z26 := Tryz.sizeOf26
  v26 := Tryz.zeroValue26
  t27 := Tryz.underlying26
  a27 := Tryz.isAgg26
  z27 := Tryz.sizeOf26
  v27 := Tryz.zeroValue26
  t29 := Tryz.underlying9
  a29 := Tryz.isAgg9
  z29 := Tryz.sizeOf9
  v29 := Tryz.zeroValue9
  t32 := Tryz.underlying141
  a32 := Tryz.isAgg141
  z32 := Tryz.sizeOf141
  v32 := Tryz.zeroValue141
  t35 := Tryz.underlying162
  a35 := Tryz.isAgg162
  z35 := Tryz.sizeOf162
  v35 := Tryz.zeroValue162
  t36 := Tryz.underlying163
  a36 := Tryz.isAgg163
  z36 := Tryz.sizeOf163
  v36 := Tryz.zeroValue163
  t41 := Tryz.underlying107
  a41 := Tryz.isAgg107
  z41 := Tryz.sizeOf107
  v41 := Tryz.zeroValue107
  t44 := Tryz.underlying31
  a44 := Tryz.isAgg31
  z44 := Tryz.sizeOf31
  v44 := Tryz.zeroValue31
  t46 := Tryz.underlying171
  a46 := Tryz.isAgg171
  z46 := Tryz.sizeOf171
  v46 := Tryz.zeroValue171
  t53 := Tryz.underlying182
  a53 := Tryz.isAgg182
  z53 := Tryz.sizeOf182
  v53 := Tryz.zeroValue182
  t57 := Tryz.underlying186
  a57 := Tryz.isAgg186
  z57 := Tryz.sizeOf186
  v57 := Tryz.zeroValue186
  t63 := Tryz.underlying196
  a63 := Tryz.isAgg196
  z63 := Tryz.sizeOf196
  v63 := Tryz.zeroValue196
  t64 := Tryz.underlying197
  a64 := Tryz.isAgg197
  z64 := Tryz.sizeOf197
  v64 := Tryz.zeroValue197 }

theorem sorts_in (k : Nat) : AnyZ.SortsIn Tryz.prog sortedLaid_ren Fence.wide k :=
  ⟨fun blk off cap ss W hH hblk hsz => callsIn_wide.2 (AnyM.slices_Sort_string sortLaid blk off cap ss W hH hblk hsz),
   fun p cap W => callsIn_wide.2 (AnyM.slices_Sort_string_none sortLaid p cap W)⟩

theorem keys_in (mb : Option Nat) (W : World) : CallsIn Fence.wide 5 Tryz.prog 70 #[.map mb] W fun e w' => e = .returned (.func (.func 95) #[] #[.pointer (some ⟨W.heap.size, 0, none⟩)]) ∧ w' = W.alloc (.cells #[.map mb] 78) :=
  AnyZ.keys_in keysLaid Fence.wide 5 trivial rfl mb W

set_option maxRecDepth 20000 in
set_option maxHeartbeats 1000000 in
theorem sorted_in (b nn : Nat) (D0 : DataW Unit) (R : Value → Option (DataW Unit × List MemPlace)) (w : World) (hown : w.ownsMap Tryz.prog 9 R b nn D0) (hmax : Maps.size D0 ≤ maxLen) (hbytes : Maps.size D0 * 16 ≤ 140737488355328) :
    CallsIn Fence.wide 5 Tryz.prog 69 #[.func (.func 95) #[] #[.pointer (some ⟨w.heap.size, 0, none⟩)]] (w.alloc (.cells #[.map (some b)] 78)) fun e w' => ∃ (v : Value) (ss : List (List UInt8)), e = .returned v ∧ ss.Perm (strKeys D0) ∧
      w'.ownsRow (w.alloc (.cells #[.map (some b)] 78)).heap.size 9 1 v ss.length ((ss.mergeSort (fun x y => decide (x ≤ y))).map encStr) ∧ (v = .slice none 0 0 ↔ ss = []) ∧ Below (w.alloc (.cells #[.map (some b)] 78)).heap.size (w.alloc (.cells #[.map (some b)] 78)) w' := by
  have hbl := hown.lt
  have hseq : SeqGives Fence.wide 2 Tryz.prog 95 #[.pointer (some ⟨w.heap.size, 0, none⟩)] encStr (fun ss => ss.Perm (strKeys D0)) (Maps.size D0) (w.alloc (.cells #[.map (some b)] 78)) :=
    AnyZ.keys_gives (ρ := keysLaid_ren) { keysLaid with } Fence.wide _ trivial rfl (by omega) w.heap.size b nn D0 _ (by simp) (by simp) (by
      obtain ⟨es, clock, hb, Ft, hs, hD⟩ := hown
      exact ⟨es, clock, (Below.heap_alloc _ _ b hbl).trans hb, Ft, hs, hD⟩)
  exact AnyZ.sorted_in sortedLaid Fence.wide 5 trivial trivial trivial trivial rfl (by omega) (sorts_in _) (enters_of Tryz.func94 (by kernel_rfl) rfl) 95 #[.pointer (some ⟨w.heap.size, 0, none⟩)] trivial (enters_of Tryz.func95 (by kernel_rfl) rfl) _ _ hmax hbytes _ hseq

/-- The names of the files, in order, in a row of the call's own. -/
def Names (w : World) (l : List (List UInt8)) (e : Ending) (w' : World) : Prop :=
  ∃ v, e = .returned v ∧ w'.ownsRow w.heap.size 9 1 v l.length (l.map encStr) ∧ Gr w w'

theorem str_keys (L : List Pl) : strKeys (ents L) = L.map fun x => x.f.name := by
  unfold ents strKeys
  simp [Function.comp_def]
  intro a _; rfl

set_option maxRecDepth 20000 in
set_option maxHeartbeats 1000000 in
theorem names_c (p m : Nat) (s : St) (B : Nat → Prop) (L : List Pl) (w : World) (hs : s.ok) (h : DiskAt w p s B m L) :
    Calls Tryz.prog 36 #[.pointer (some ⟨p, 0, none⟩)] w (Names w ((L.map fun x => x.f.name).mergeSort (fun x y => decide (x ≤ y)))) := by
  have c1 : w.cell? ⟨p, 1, none⟩ = some (.map (some m)) := by rw [cells_at h.heap]; rfl
  have hLl : L.length = s.fs.length := by rw [← h.fs]; simp
  have hm200 := hs.m
  have CS := sorted_in m L.length (ents L) ptrElem w h.own (by rw [ents_size]; unfold maxLen; omega) (by rw [ents_size]; omega)
  have HS := Lib.hid (str_keys L)
  clear h hs hLl hm200
  refine (callsIn_wide (n := 6)).1 ?_
  have hfK : Fence.wide.fn 70 := trivial
  have hfS : Fence.wide.fn 69 := trivial
  refine callsIn_of_wp Tryz.func36 rfl trivial ?_ rfl
  simp only [Tryz.ntmps36, List.size_toArray, List.length_cons, List.length_nil, Nat.reduceAdd, Nat.reduceSub, Array.replicate_succ, Array.replicate_zero, List.push_toArray, List.append_toArray, List.nil_append, List.cons_append]
  gi_wp2_with (first
    | (gi_at_call 70; refine (keys_in _ _).mono ?_; rintro e w' ⟨rfl, rfl⟩)
    | (gi_at_call 69; refine CS.mono ?_; rintro e w' ⟨v, ss, rfl, hS, hrow, hnil, hb⟩))
  go_ret
  rw [HS.out] at hS
  have hm := mergeSort_of_perm hS
  have hlen : ss.length = (((L.map fun x => x.f.name).mergeSort (fun x y => decide (x ≤ y)))).length := by rw [List.length_mergeSort]; exact hS.length_eq
  refine ⟨v, rfl, ?_, ((Below.refl _ w).alloc (Nat.le_refl _) _).trans (hb.mono (by simp))⟩
  rw [← hlen, ← hm]
  exact ownsRow_base_a hrow (by simp)
end Go.Proofs.YtpmglnghnelenaaGreat
/- The contract of a file's fall; the order of the names. -/
namespace Go.Proofs.YtpmglnghnelenaaGreat
open Go.RowKit Go.Maps FsPlain
set_option linter.unusedVariables false
set_option linter.unusedSimpArgs false
set_option maxRecDepth 20000

theorem before_le : ∀ a b : List UInt8, bytesBefore a b = true → a ≤ b
  | [], b, _ => List.nil_le b
  | _ :: _, [], h => by simp [bytesBefore] at h
  | x :: r, y :: q, h => by
    simp only [bytesBefore, Bool.or_eq_true, Bool.and_eq_true, decide_eq_true_eq, beq_iff_eq] at h
    rw [List.cons_le_cons_iff]
    rcases h with h | ⟨h1, h2⟩
    · exact .inl h
    · exact .inr ⟨h1, before_le r q h2⟩

theorem DiskAt.sorted {w : World} {p m : Nat} {s : St} {B : Nat → Prop} {L : List Pl} (h : DiskAt w p s B m L) : (L.map fun x => x.f.name).mergeSort (fun x y => decide (x ≤ y)) = L.map fun x => x.f.name := by
  obtain ⟨es, clock, _, F, _, hD⟩ := h.own
  have hp := sorted_sorted lawS.one _ (fit_keys F) (fit_apart lawS F)
  unfold ents at hD
  simp only [DataW.map.injEq] at hD
  rw [← hD] at hp
  rw [List.pairwise_map] at hp
  refine List.mergeSort_of_pairwise ?_
  rw [List.pairwise_map]
  exact hp.imp fun h => by simpa using before_le _ _ h

theorem row_cut {w : World} {a : Option Addr} {n c : Nat} {l : List UInt8} (h : w.ownsRow 0 5 1 (.slice a n c) n (Lib.byteCells l)) (k : Nat) (hk : k ≤ n) : w.ownsRow 0 5 1 (.slice a k c) k (Lib.byteCells (l.take k)) := by
  have hl : l.length = n := by have := h.1; simpa [Lib.byteCells_length] using this
  refine ⟨by rw [Lib.byteCells_length, List.length_take]; omega, ?_⟩
  rcases h.2 with ⟨h1, h2⟩ | ⟨g, cap, cur, hv, hb, hg, hn, hc, hs, ht⟩
  · simp only [Value.slice.injEq] at h1
    obtain ⟨rfl, _, rfl⟩ := h1
    have : k = 0 := by omega
    subst this
    exact .inl ⟨rfl, rfl⟩
  · simp only [Value.slice.injEq] at hv
    obtain ⟨rfl, _, rfl⟩ := hv
    refine .inr ⟨g, _, cur, rfl, hb, hg, by omega, hc, hs, ?_⟩
    have : (Lib.byteCells l).take k = Lib.byteCells (l.take k) := by simp [Lib.byteCells, List.map_take]
    rw [← this, ← ht, List.take_take]
    congr 1
    omega

theorem own_blk (a : Option Addr) (n c n' c' : Nat) : (Value.slice a n c).ownBlock = (Value.slice a n' c').ownBlock := by cases a <;> rfl
def stays (f : F) (k : Int) : Nat := f.kept + min (max k 0).toNat (f.data.length - f.kept)

def Fell (w : World) (x : Pl) (k : Int) (e : Ending) (w' : World) : Prop :=
  e = .returned (.tuple #[]) ∧ Only (fun i => i = x.blk) w w' ∧ ∃ v', FileAt w' ⟨fall x.f k, x.blk, v'⟩ ∧ v'.ownBlock = x.v.ownBlock

end Go.Proofs.YtpmglnghnelenaaGreat
/- The contract of Rise: by a walk of its loop over the names. -/
namespace Go.Proofs.YtpmglnghnelenaaGreat
open Go.RowKit Go.Maps FsPlain
set_option linter.unusedVariables false
set_option linter.unusedSimpArgs false
set_option maxRecDepth 20000

/-- A row of numbers that is only read. -/
def KeepAt (w : World) (B : Nat → Prop) (a : Option Addr) (ks : List Int) : Prop :=
  ks = [] ∨ ∃ kb ko, a = some ⟨kb, ko, none⟩ ∧ kb < w.heap.size ∧ ¬ B kb ∧ ∀ j k, ks[j]? = some k → w.cell? ⟨kb, ko + j, none⟩ = some (.int .i64 k)

structure RiseAt (p m : Nat) (s : St) (B : Nat → Prop) (ks : List Int) (w1 : World) (i : Value) (wr : World) (j : Nat) : Prop where
  ival : i = .int .i64 (j : Int)
  jle : j ≤ s.fs.length
  ok : (riseN s ks j).ok
  d : ∃ Bj L, DiskAt wr p (riseN s ks j) Bj m L ∧ ∀ b, Bj b → B b ∨ w1.heap.size ≤ b
  o : Only B w1 wr

def RiseIn (p m : Nat) (s : St) (B : Nat → Prop) (ks : List Int) (w1 : World) (i : Value) (wr : World) : Prop := ∃ j, RiseAt p m s B ks w1 i wr j

theorem bs_list (l : List UInt8) : (bs l).data.toList = l := rfl

theorem fell_next {p m : Nat} {s : St} {B : Nat → Prop} {L : List Pl} {x : Pl} {n : List UInt8} {k : Int} {w w' : World} {e : Ending} (h : DiskAt w p s B m L) (hf : L.find? (fun x => x.f.name == n) = some x) (k' : Fell w x k e w') :
    ∃ L', DiskAt w' p (s.upd n (fun f => fall f k)) (fun b => B b ∨ (w.heap.size ≤ b ∧ b < w'.heap.size)) m L' := by
  obtain ⟨_, o, v', hF, hv⟩ := k'
  exact h.put hf (x' := ⟨fall x.f k, x.blk, v'⟩) (g := fun f => fall f k) rfl rfl rfl hF (o.mono fun i e => by subst e; simp [plBlocks]) (fun i hi => .inl (by rw [← hv]; exact hi))

theorem rise_step {p m : Nat} {s : St} {B : Nat → Prop} {ks : List Int} {w1 wr w' : World} {i : Value} {j : Nat} {e : Ending} {Bj : Nat → Prop} {L : List Pl} {x : Pl} (h : RiseAt p m s B ks w1 i wr j) (hj : j < s.fs.length)
    (hD : DiskAt wr p (riseN s ks j) Bj m L) (hB : ∀ b, Bj b → B b ∨ w1.heap.size ≤ b) (hf : L.find? (fun x => x.f.name == nameAt s.fs j) = some x) (hk : Fell wr x (ks.getD j 0) e w') :
    RiseAt p m s B ks w1 (.int .i64 ((j : Int) + 1)) w' (j + 1) := by
  have hg : (riseN s ks j).get (nameAt s.fs j) = some x.f := by
    unfold St.get; rw [← hD.fs, List.find?_map]
    have : ((fun f : F => f.name == nameAt s.fs j) ∘ fun x : Pl => x.f) = fun x : Pl => x.f.name == nameAt s.fs j := rfl
    rw [this, hf]; rfl
  obtain ⟨L', hD'⟩ := fell_next hD hf hk
  refine ⟨rfl, hj, ok_fall h.ok hg _, ⟨_, L', hD', fun b hb => ?_⟩, ?_⟩
  · rcases hb with hb | hb
    · exact hB b hb
    · exact .inr (Nat.le_trans h.o.size hb.1)
  · exact h.o.andThen hk.2.1 fun b e => by
      subst e
      exact hB _ (plBlocks_B hD (List.mem_of_find?_eq_some hf) _ (by simp [plBlocks]))

end Go.Proofs.YtpmglnghnelenaaGreat
/- The program's disk as a part of a world: what Create, Append, Sync, Size, Read leave. -/
namespace Go.Proofs.YtpmglnghnelenaaGreat
open Go.RowKit Go.Maps FsPlain
set_option linter.unusedVariables false
set_option linter.unusedSimpArgs false
set_option maxRecDepth 20000
def DiskA (p : Nat) (s : St) : Asn := fun w B => Disk w p s B
theorem fr_disk (p : Nat) (s : St) : Fr (DiskA p s) := ⟨fun h o d => Disk.only h o d, fun h => Disk.low h⟩
theorem tells_does {w w' : World} {p : Nat} {s : St} {B : Nat → Prop} {v : Value} {e : Ending} (h : Tells w p s B v e w') : Does w B (DiskA p s) v e w' := by
  obtain ⟨he, B', d, o, f⟩ := h
  exact ⟨he, B', d, o, f⟩
theorem d_create (p : Nat) (s : St) (n : ByteArray) (hn : n.size ≤ 1000) (hm : rightB n.data.toList = true) (h1 : s.calls ≤ 1000000000000) (w : World) (B : Nat → Prop) (h : DiskA p s w B) :
    Calls Tryz.prog 24 #[.pointer (some ⟨p, 0, none⟩), .string n] w (Does w B (DiskA p (createR s n.data.toList).1) (.int .i64 (createR s n.data.toList).2)) :=
  (create_c p s B n w h (by unfold maxLen; omega) hm h1).mono fun _ _ => tells_does
theorem d_append (p : Nat) (s : St) (n t : ByteArray) (hn : n.size ≤ 1000) (hm : rightB n.data.toList = true) (h1 : s.calls ≤ 1000000000000) (ht : t.size ≤ 1000000000) (w : World) (B : Nat → Prop) (h : DiskA p s w B) :
    Calls Tryz.prog 25 #[.pointer (some ⟨p, 0, none⟩), .string n, .string t] w (Does w B (DiskA p (appendR s n.data.toList t.data.toList).1) (.int .i64 (appendR s n.data.toList t.data.toList).2)) :=
  (append_c p s B n t w h (by unfold maxLen; omega) hm h1 (by omega)).mono fun _ _ => tells_does
theorem d_sync (p : Nat) (s : St) (n : ByteArray) (hn : n.size ≤ 1000) (hm : rightB n.data.toList = true) (h1 : s.calls ≤ 1000000000000) (w : World) (B : Nat → Prop) (h : DiskA p s w B) :
    Calls Tryz.prog 107 #[.pointer (some ⟨p, 0, none⟩), .string n] w (Does w B (DiskA p (syncR s n.data.toList).1) (.int .i64 (syncR s n.data.toList).2)) :=
  (sync_c p s B n w h (by unfold maxLen; omega) hm h1).mono fun _ _ => tells_does
theorem d_size (p : Nat) (s : St) (n : ByteArray) (hn : n.size ≤ 1000) (hm : rightB n.data.toList = true) (h1 : s.calls ≤ 1000000000000) (w : World) (B : Nat → Prop) (h : DiskA p s w B) :
    Calls Tryz.prog 38 #[.pointer (some ⟨p, 0, none⟩), .string n] w (Does w B (DiskA p s.call) (.tuple #[.int .i64 (sizeR s n.data.toList).1, .int .i64 (sizeR s n.data.toList).2])) :=
  (size_c p s B n w h (by unfold maxLen; omega) hm h1).mono fun _ _ => tells_does
theorem d_read (p : Nat) (s : St) (n : ByteArray) (i k : Nat) (hn : n.size ≤ 1000) (hm : rightB n.data.toList = true) (h1 : s.calls ≤ 1000000000000) (hi : i ≤ 1000000000) (hk : k ≤ 1000000000) (w : World) (B : Nat → Prop) (h : DiskA p s w B) :
    Calls Tryz.prog 39 #[.pointer (some ⟨p, 0, none⟩), .string n, .int .i64 (i : Int), .int .i64 (k : Int)] w (Does w B (DiskA p s.call) (.tuple #[.string (bs (readR s n.data.toList i k).1), .int .i64 (readR s n.data.toList i k).2])) :=
  (read_c p s B n i k w h (by unfold maxLen; omega) hm h1 (by omega) (by omega)).mono fun _ _ => tells_does
end Go.Proofs.YtpmglnghnelenaaGreat
/- The program's disk as a part of a world: what its other calls leave. -/
namespace Go.Proofs.YtpmglnghnelenaaGreat
open Go.RowKit Go.Maps FsPlain
set_option linter.unusedVariables false
set_option linter.unusedSimpArgs false
set_option maxRecDepth 20000
end Go.Proofs.YtpmglnghnelenaaGreat
/- The program's reader: where its bytes come from (look, pass); its parts. -/
namespace Go.Proofs.YtpmglnghnelenaaGreat
open Go.RowKit FsPlain CrcPlain OctPlain FramePlain RecPlain RdPlain
set_option linter.unusedVariables false
set_option linter.unusedSimpArgs false
set_option maxRecDepth 20000
/-- The four cells of where bytes come from. -/
structure IsSrc (c : Array Value) (D : Nat) (nm : ByteArray) (pos left : Nat) : Prop where
  c0 : c[0]? = some (.pointer (some ⟨D, 0, none⟩))
  c1 : c[1]? = some (.string nm)
  c2 : c[2]? = some (.int .i64 (pos : Nat))
  c3 : c[3]? = some (.int .i64 (left : Nat))
theorem frs_sd (q D : Nat) (c : Array Value) (T : TypeId) (s : St) : Frs [Blk q c T, DiskA D s] := ⟨fr_blk _ _ _, fr_disk _ _, trivial⟩
theorem sd_blk {q D : Nat} {c : Array Value} {T : TypeId} {s : St} {w : World} {B : Nat → Prop} (h : stars [Blk q c T, DiskA D s] w B) : w.heap[q]? = some (.cells c T (0, 0)) := by
  obtain ⟨_, h, _⟩ := part_at 0 rfl h
  exact h.1
/-- The four cells as a world has them. -/
def SrcAt (q D : Nat) (nm : ByteArray) (pos left : Nat) (w : World) : Prop := w.cell? ⟨q, 0, none⟩ = some (.pointer (some ⟨D, 0, none⟩)) ∧ w.cell? ⟨q, 1, none⟩ = some (.string nm) ∧ w.cell? ⟨q, 2, none⟩ = some (.int .i64 (pos : Nat)) ∧ w.cell? ⟨q, 3, none⟩ = some (.int .i64 (left : Nat))
theorem src_at {q D : Nat} {c : Array Value} {T : TypeId} {nm : ByteArray} {pos left : Nat} {w : World} (hc : IsSrc c D nm pos left) (hb : w.heap[q]? = some (.cells c T (0, 0))) : SrcAt q D nm pos left w :=
  ⟨by rw [cells_at hb, hc.c0], by rw [cells_at hb, hc.c1], by rw [cells_at hb, hc.c2], by rw [cells_at hb, hc.c3]⟩
set_option maxHeartbeats 2000000 in
theorem src_look (q D : Nat) (c : Array Value) (T : TypeId) (s : St) (nm : ByteArray) (pos left n : Nat) (hc : IsSrc c D nm pos left) (hn : nm.size ≤ 24) (hm : rightB nm.data.toList = true) (hk : s.calls ≤ 1000000000000) (hp : pos + left ≤ 16777216) (hnn : n ≤ 1000000) (w : World) (B : Nat → Prop) (h : stars [Blk q c T, DiskA D s] w B) :
    Calls Tryz.prog 81 #[.pointer (some ⟨q, 0, none⟩), .int .i64 (n : Nat)] w (Does w B (stars [Blk q c T, DiskA D s.call]) (.tuple #[.string (bs (readR s nm.data.toList pos (min n left)).1), .int .i64 (readR s nm.data.toList pos (min n left)).2])) := by
  obtain ⟨t, ht⟩ : ∃ t, t = bs (readR s nm.data.toList pos (min n left)).1 := ⟨_, rfl⟩
  obtain ⟨er, her⟩ : ∃ er, er = (readR s nm.data.toList pos (min n left)).2 := ⟨_, rfl⟩
  obtain ⟨ak, hak⟩ : ∃ ak, ak = min n left := ⟨_, rfl⟩
  have K0 : ∀ u, Gr w u → SrcAt q D nm pos left u := fun u g => src_at hc (sd_blk (stars_gr (frs_sd _ _ _ _ _) h g))
  have CR : ∀ u, Gr w u → Calls Tryz.prog 39 #[.pointer (some ⟨D, 0, none⟩), .string nm, .int .i64 (pos : Nat), .int .i64 (ak : Nat)] u fun e w' => e = .returned (.tuple #[.string t, .int .i64 er]) ∧ (∃ B', stars [Blk q c T, DiskA D s.call] w' B' ∧ Nx B w B' w') ∧ SrcAt q D nm pos left w' := fun u g => by
    rw [ht, her, hak]
    have C := does_at (f := 39) (Q := DiskA D s.call) 1 rfl (frs_sd _ _ _ _ _) (stars_gr (frs_sd _ _ _ _ _) h g) fun B2 h2 => d_read D s nm pos (min n left) (by omega) hm hk (by omega) (by omega) u B2 h2
    refine C.mono ?_
    rintro e w' ⟨he, B', h', n'⟩
    exact ⟨he, ⟨B', h', (Nx.gr g).trans n'⟩, src_at hc (sd_blk h')⟩
  rw [← ht, ← her]
  have ai : min (n : Int) (left : Int) = (ak : Nat) := by omega
  have hmin : min (n : Int) (left : Int) = n ∨ min (n : Int) (left : Int) = left := by omega
  have hk2 : (ak : Int) ≤ 1000000000 := by omega
  have KS := Lib.hid K0
  have CRH := Lib.hid CR
  have gU := Gr.refl w
  have gUd : Gr w w.drew := Below.drew gU
  clear h K0 CR ht her hak hc hn hm hk
  go_enter Tryz.func81, Tryz.ntmps81
  go_wp2_with fail
  go_region_held3 (fun w' => w'.cell? ⟨q, 0, none⟩ = some (.pointer (some ⟨D, 0, none⟩)) ∧ w'.cell? ⟨q, 1, none⟩ = some (.string nm) ∧ w'.cell? ⟨q, 2, none⟩ = some (.int .i64 (pos : Nat)) ∧ w'.cell? ⟨q, 3, none⟩ = some (.int .i64 (left : Nat))) (first | exact KS.out _ gUd | exact KS.out _ (by assumption) | assumption | go_keep)
    ((go_at_call 39; refine (CRH.out _ (by assumption)).mono ?_; rintro e t2 ⟨rfl, hst, hks⟩))
  obtain ⟨B2, h2, n2⟩ := hst
  have H2 := Lib.hid h2
  have N2 := Lib.hid n2
  clear h2 n2 hks
  go_wp2_with fail
  go_ret2
  exact ⟨rfl, B2, H2.out, N2.out⟩
set_option maxHeartbeats 2000000 in
theorem src_pass (q : Nat) (c c' : Array Value) (T : TypeId) (pos left n pos' left' : Nat) (h2 : c[2]? = some (.int .i64 (pos : Nat))) (h3 : c[3]? = some (.int .i64 (left : Nat))) (hp : pos' = pos + n) (hl : left = left' + n) (hb : pos + left ≤ 16777216) (hc' : (c.setIfInBounds 2 (.int .i64 (pos' : Nat))).setIfInBounds 3 (.int .i64 (left' : Nat)) = c') (w : World) (B : Nat → Prop) (h : Blk q c T w B) :
    Calls Tryz.prog 83 #[.pointer (some ⟨q, 0, none⟩), .int .i64 (n : Nat)] w (Does w B (Blk q c' T) (.tuple #[])) := by
  have c2 : w.cell? ⟨q, 2, none⟩ = some (.int .i64 (pos : Nat)) := by rw [cells_at h.1, h2]
  have f2 := cells_free h.1 2
  have e1 : (pos : Int) + n = (pos' : Nat) := by omega
  have e2 : (left : Int) - n = (left' : Nat) := by omega
  have b1 : (pos' : Int) ≤ 16777216 := by omega
  have b2 : (left' : Int) ≤ 16777216 := by omega
  have c3 : w.cell? ⟨q, 3, none⟩ = some (.int .i64 (left : Nat)) := by rw [cells_at h.1, h3]
  have f3 := cells_free h.1 3
  obtain ⟨B1, k1, n1⟩ := blk_next (i := 2) h (.int .i64 (pos' : Nat))
  obtain ⟨B2, k2, n2⟩ := blk_next (i := 3) k1 (.int .i64 (left' : Nat))
  rw [hc'] at k2
  have K2 := Lib.hid k2
  have N2 := Lib.hid (n1.trans n2)
  clear h h2 h3 k1 k2 n1 n2 hp hl hb hc'
  go_enter Tryz.func83, Tryz.ntmps83
  go_wp2_with fail
  go_end0
  exact ⟨rfl, B2, K2.out, N2.out⟩
/-! The reader. -/
/-- An open one's cells: k is the sum so far, t whether the end was told. -/
def rdc (D P : Nat) (y : Rs) (vq : Value) (k : Nat) (t : Bool) : Array Value := #[.pointer (some ⟨D, 0, none⟩), .string y.nm, .int .i64 (y.pos : Nat), .int .i64 (y.left : Nat), .pointer (some ⟨P, 0, none⟩), .int .i64 y.size, vq, .bool y.short, .int .i64 (y.told : Nat), .int .u32 (k : Nat), .bool t]
/-- Those of one that is shut. -/
def rdshut (n k : Nat) (t : Bool) : Array Value := #[.pointer none, .string ⟨#[]⟩, .int .i64 0, .int .i64 0, .pointer none, .int .i64 0, .slice none 0 0, .bool false, .int .i64 (n : Nat), .int .u32 (k : Nat), .bool t]
/-- The four parts. -/
def rol (x D P : Nat) (s : St) (b : Bu) (c : Array Value) (vq : Value) (queue : List ByteArray) : List Asn := [Blk x c 103, DiskA D s, QueA vq queue, BuA P b]
theorem frs_rol (x D P : Nat) (s : St) (b : Bu) (c : Array Value) (vq : Value) (queue : List ByteArray) : Frs (rol x D P s b c vq queue) := ⟨fr_blk _ _ _, fr_disk _ _, fr_que _ _, fr_bu _ _, trivial⟩
theorem rol_blk {x D P : Nat} {s : St} {b : Bu} {c : Array Value} {vq : Value} {queue : List ByteArray} {w : World} {B : Nat → Prop} (h : stars (rol x D P s b c vq queue) w B) : w.heap[x]? = some (.cells c 103 (0, 0)) := by
  obtain ⟨_, h, _⟩ := part_at 0 rfl h
  exact h.1
theorem rol_set {x D P : Nat} {s : St} {b : Bu} {c c' : Array Value} {vq : Value} {queue : List ByteArray} {w : World} {B : Nat → Prop} (i : Nat) (u : Value) (h : stars (rol x D P s b c vq queue) w B) (hc : c.setIfInBounds i u = c') :
    ∃ B', stars (rol x D P s b c' vq queue) (w.setCell ⟨x, i, none⟩ u) B' ∧ Nx B w B' (w.setCell ⟨x, i, none⟩ u) :=
  step_at (Q := Blk x c' 103) 0 rfl (frs_rol _ _ _ _ _ _ _ _) h fun B1 h1 => by rw [← hc]; exact blk_next h1 u
/-- Without its queue. -/
theorem rol_none {x D P : Nat} {s : St} {b : Bu} {c : Array Value} {vq : Value} {queue : List ByteArray} {w : World} {B : Nat → Prop} (h : stars (rol x D P s b c vq queue) w B) :
    ∃ B', stars (rol x D P s b c (.slice none 0 0) []) w B' ∧ Nx B w B' w :=
  step_at (Q := QueA (.slice none 0 0) []) 2 rfl (frs_rol _ _ _ _ _ _ _ _) h fun B1 h1 => ⟨_, que_nil w, Only.refl _ _, fun b hb => hb.elim⟩
theorem src_rdc (D P : Nat) (y : Rs) (vq : Value) (k : Nat) (t : Bool) : IsSrc (rdc D P y vq k t) D y.nm y.pos y.left := ⟨rfl, rfl, rfl, rfl⟩
/-- An open reader, its disk, its budget: whether the end was told. -/
def RO (x D P : Nat) (m : N3) (t : Bool) : Asn := fun w B => ∃ vq, stars (rol x D P m.s m.b (rdc D P m.x vq (sumN m.x.all) t) vq m.x.queue) w B
theorem fr_ro (x D P : Nat) (m : N3) (t : Bool) : Fr (RO x D P m t) := ⟨fun ⟨vq, h⟩ o d => ⟨vq, (fr_stars (frs_rol _ _ _ _ _ _ _ _)).fr h o d⟩, fun ⟨vq, h⟩ => (fr_stars (frs_rol _ _ _ _ _ _ _ _)).lo h⟩
/-- One that is shut, beside them. -/
def RSh (x D P : Nat) (s : St) (b : Bu) (n k : Nat) (t : Bool) : Asn := stars (rol x D P s b (rdshut n k t) (.slice none 0 0) [])
/-- The program's reader, its disk, its budget. -/
def RP3 (x D P : Nat) (m : N3) : Asn := fun w B => (m.x.opn = true ∧ RO x D P m false w B) ∨ (m.x.opn = false ∧ RSh x D P m.s m.b m.x.told (sumN m.x.all) m.x.whole w B)
theorem fr_rp3 (x D P : Nat) (m : N3) : Fr (RP3 x D P m) where
  fr := fun h o d => h.imp (fun h => ⟨h.1, (fr_ro _ _ _ _ _).fr h.2 o d⟩) fun h => ⟨h.1, (fr_stars (frs_rol _ _ _ _ _ _ _ _)).fr h.2 o d⟩
  lo := fun h => h.elim (fun h => (fr_ro _ _ _ _ _).lo h.2) fun h => (fr_stars (frs_rol _ _ _ _ _ _ _ _)).lo h.2
theorem rp3_open {x D P : Nat} {m : N3} {w : World} {B : Nat → Prop} (ho : m.x.opn = true) (h : RP3 x D P m w B) : RO x D P m false w B := by
  rcases h with ⟨_, h⟩ | ⟨h1, _⟩
  · exact h
  · rw [ho] at h1; cases h1
theorem rp3_shut {x D P : Nat} {m : N3} {w : World} {B : Nat → Prop} (ho : m.x.opn = false) (h : RP3 x D P m w B) : RSh x D P m.s m.b m.x.told (sumN m.x.all) m.x.whole w B := by
  rcases h with ⟨h1, _⟩ | ⟨_, h⟩
  · rw [ho] at h1; cases h1
  · exact h
end Go.Proofs.YtpmglnghnelenaaGreat

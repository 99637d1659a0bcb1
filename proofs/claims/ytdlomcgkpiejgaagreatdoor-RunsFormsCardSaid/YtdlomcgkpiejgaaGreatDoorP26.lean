/- In one text: Que, FsNames, FsFall, FsRise, FsA. -/
import Derived.Test.YtdlomcgkpiejgaaGreatDoorP13
import Derived.Test.YtdlomcgkpiejgaaGreatDoorP25
import Derived.Test.YtdlomcgkpiejgaaGreatDoorP03
import Derived.Shelf.SlIter.Nil
import Derived.Shelf.SortM.Plain
import Derived.Shelf.SortM.SortNone
import Derived.Ground.GgzProg
import Derived.Ground.SlgmProg
import Derived.Sort.OwnSorted
import Derived.Test.YtdlomcgkpiejgaaGreatDoorP22
import Derived.StillTailTactics
/- A slice of strings that nobody writes any more, as a part of a world; what a reader's Next hands out. -/
namespace Go.Proofs.YtdlomcgkpiejgaaGreatDoor
open Go.RowKit FsPlain CrcPlain OctPlain FramePlain RecPlain RdPlain
set_option linter.unusedVariables false
set_option linter.unusedSimpArgs false
set_option maxRecDepth 20000
/-- A slice of these strings that nobody writes any more. -/
def QueA (v : Value) (l : List ByteArray) : Asn := fun w B => Lies w v l ∧ (∀ b off n c, v = .slice (some ⟨b, off, none⟩) n c → B b) ∧ ∀ b, B b → b < w.heap.size
theorem fr_que (v : Value) (l : List ByteArray) : Fr (QueA v l) where
  fr := fun {w w' B C} ⟨⟨a, c, e, hc, h⟩, hB, hl⟩ o d => by
    refine ⟨⟨a, c, e, hc, h.imp id ?_⟩, hB, fun b hb => Nat.lt_of_lt_of_le (hl b hb) o.size⟩
    rintro ⟨b, off, rfl, hr⟩
    have hb := hB b off _ _ e
    refine ⟨b, off, rfl, Nat.lt_of_lt_of_le hr.1 o.size, fun j x hj => ?_⟩
    rw [o.cell (p := ⟨b, off + j, none⟩) hr.1 (d b hb)]
    exact hr.2 j x hj
  lo := fun ⟨_, _, hl⟩ => hl
theorem que_nil (w : World) : QueA (.slice none 0 0) [] w (fun _ => False) := ⟨⟨none, 0, rfl, Nat.le_refl _, .inl rfl⟩, (fun b off n c e => by cases e), fun b hb => hb.elim⟩
/-- Of a row that is new. -/
theorem que_new {w w' : World} {v : Value} {l : List ByteArray} (h : w'.ownsRow w.heap.size 9 1 v l.length (strs l)) : QueA v l w' (fun b => v.ownBlock = some b) ∧ ∀ b, v.ownBlock = some b → w.heap.size ≤ b := by
  have hl := h.lt
  have L := lies_own h
  refine ⟨⟨L, fun b off n c e => ?_, fun b hb => (hl b hb).2⟩, fun b hb => (hl b hb).1⟩
  rw [e]; rfl
/-- What Next hands out. -/
def ansV (a : Ans) : Value := .tuple #[.string a.1, .bool a.2.1, .int .i64 a.2.2]
theorem que_open {v : Value} {l : List ByteArray} {w : World} {B : Nat → Prop} (h : QueA v l w B) (hl : l ≠ []) : ∃ b off c, v = .slice (some ⟨b, off, none⟩) l.length c ∧ l.length ≤ c ∧ SRow w b off l ∧ B b := by
  obtain ⟨⟨a, c, e, hc, hh⟩, hB, _⟩ := h
  rcases hh with h0 | ⟨b, off, rfl, hr⟩
  · exact absurd h0 hl
  · exact ⟨b, off, c, e, hc, hr, hB b off _ _ e⟩
/-- Without its first one. -/
theorem que_tail {b off n c : Nat} {r : ByteArray} {l : List ByteArray} {w : World} {B : Nat → Prop} (h : QueA (.slice (some ⟨b, off, none⟩) n c) (r :: l) w B) (a : Option Addr) (m k : Nat) (hm : m = l.length) (hk : m ≤ k) (ha : 1 ≤ l.length → a = some ⟨b, off + 1, none⟩) (hz : ∀ b' off', a = some ⟨b', off', none⟩ → b' = b) : QueA (.slice a m k) l w B := by
  have hnil : (r :: l) ≠ [] := by simp
  obtain ⟨b2, off2, c2, e, hc, hr, hb⟩ := que_open h hnil
  simp only [Value.slice.injEq, Option.some.injEq, Addr.mk.injEq, and_true] at e
  obtain ⟨⟨rfl, rfl⟩, _, _⟩ := e
  subst hm
  refine ⟨⟨a, k, rfl, hk, ?_⟩, fun b3 off3 n3 c3 e3 => ?_, h.2.2⟩
  · rcases Nat.eq_zero_or_pos l.length with h0 | h0
    · exact .inl (List.eq_nil_of_length_eq_zero h0)
    · refine .inr ⟨b, off + 1, ha h0, hr.1, fun j x hj => ?_⟩
      have := hr.2 (j + 1) x (by rw [List.getElem?_cons_succ]; exact hj)
      rw [Nat.add_right_comm, Nat.add_assoc]
      rwa [← Nat.add_assoc] at this ⊢
  · simp only [Value.slice.injEq] at e3
    rw [hz b3 off3 e3.1]; exact hb
end Go.Proofs.YtdlomcgkpiejgaaGreatDoor
/- The names of a map of files, sorted: the library's contracts of slices.Sorted and maps.Keys, laid at this program's numbers; and the contract of names. -/
namespace Go.Proofs.YtdlomcgkpiejgaaGreatDoor
open Go.RowKit Go.Maps Go.Sort Go.Shelf FsPlain
set_option linter.unusedVariables false
set_option linter.unusedSimpArgs false
set_option maxRecDepth 20000
def keysLaid_ren : Go.Shelf.Ren := ⟨fun | 7 => 71 | 10 => 96 | n => n, fun | 23 => 77 | 26 => 9 | 3 => 86 | 28 => 110 | 0 => 0 | 27 => 109 | 33 => 53 | 4 => 4 | n => n, fun | n => n⟩
theorem keysLaid : Go.Proofs.SlLaysZ.n7 Tryz.prog keysLaid_ren := {
  mixed := by kernel_rfl
  f7 := ⟨Tryz.f71.name, by decide, Tryz.func71.trans (congrArg some (by kernel_rfl))⟩
  f10 := ⟨Tryz.f96.name, by decide, Tryz.func96.trans (congrArg some (by kernel_rfl))⟩
  t0 := Tryz.underlying0
  a0 := Tryz.isAgg0
  z0 := Tryz.sizeOf0
  v0 := Tryz.zeroValue0
  t4 := Tryz.underlying4
  a4 := Tryz.isAgg4
  z4 := Tryz.sizeOf4
  v4 := Tryz.zeroValue4
  t23 := Tryz.underlying77
  a23 := Tryz.isAgg77
  z23 := Tryz.sizeOf77
  v23 := Tryz.zeroValue77
  t26 := Tryz.underlying9
  a26 := Tryz.isAgg9
  z26 := Tryz.sizeOf9
  v26 := Tryz.zeroValue9
  t27 := Tryz.underlying109
  a27 := Tryz.isAgg109
  z27 := Tryz.sizeOf109
  v27 := Tryz.zeroValue109
  t28 := Tryz.underlying110
  a28 := Tryz.isAgg110
  z28 := Tryz.sizeOf110
  v28 := Tryz.zeroValue110
  t33 := Tryz.underlying53
  a33 := Tryz.isAgg53
  z33 := Tryz.sizeOf53
  v33 := Tryz.zeroValue53 }
def sortedLaid_ren : Go.Shelf.Ren := ⟨fun | 6 => 70 | 8 => 95 | 9 => 66 | 11 => 119 | 13 => 94 | 12 => 93 | 23 => 117 | 24 => 118 | 14 => 108 | 15 => 109 | 16 => 110 | 17 => 111 | 18 => 112 | 19 => 113 | 20 => 114 | 21 => 115 | 22 => 116 | 25 => 136 | 26 => 137 | 27 => 138 | 28 => 139 | 29 => 140 | 30 => 141 | 31 => 154 | n => n, fun | 26 => 9 | 28 => 110 | 24 => 22 | 0 => 0 | 3 => 3 | 37 => 116 | 48 => 46 | 50 => 148 | 4 => 4 | 40 => 140 | 39 => 139 | 45 => 123 | 5 => 5 | 9 => 9 | 51 => 165 | 55 => 169 | 57 => 179 | 58 => 180 | 33 => 53 | n => n, fun | n => n⟩
theorem sortedLaid : Go.Proofs.SlLaysZ.n6 Tryz.prog sortedLaid_ren := {
  mixed := by kernel_rfl
  f6 := ⟨Tryz.f70.name, by decide, Tryz.func70.trans (congrArg some (by kernel_rfl))⟩
  f8 := ⟨Tryz.f95.name, by decide, Tryz.func95.trans (congrArg some (by kernel_rfl))⟩
  f11 := ⟨Tryz.f119.name, by decide, Tryz.func119.trans (congrArg some (by kernel_rfl))⟩
  t0 := Tryz.underlying0
  a0 := Tryz.isAgg0
  z0 := Tryz.sizeOf0
  v0 := Tryz.zeroValue0
  t24 := Tryz.underlying22
  a24 := Tryz.isAgg22
  z24 := Tryz.sizeOf22
  v24 := Tryz.zeroValue22
  t26 := Tryz.underlying9
  a26 := Tryz.isAgg9
  z26 := Tryz.sizeOf9
  v26 := Tryz.zeroValue9
  t28 := Tryz.underlying110
  a28 := Tryz.isAgg110
  z28 := Tryz.sizeOf110
  v28 := Tryz.zeroValue110
  i26 := by kernel_rfl }
def sortLaid_ren : Go.Shelf.Ren := ⟨fun | 6 => 66 | 8 => 94 | 9 => 93 | 19 => 117 | 20 => 118 | 21 => 108 | 22 => 109 | 23 => 110 | 24 => 111 | 25 => 112 | 26 => 113 | 27 => 114 | 28 => 115 | 29 => 116 | 36 => 136 | 31 => 137 | 32 => 138 | 37 => 139 | 38 => 140 | 39 => 141 | 41 => 154 | n => n, fun | 27 => 22 | 29 => 9 | 3 => 3 | 32 => 116 | 26 => 22 | 0 => 0 | 44 => 46 | 46 => 148 | 4 => 4 | 36 => 140 | 35 => 139 | 41 => 123 | 5 => 5 | 9 => 9 | 53 => 165 | 57 => 169 | 63 => 179 | 64 => 180 | n => n, fun | n => n⟩
theorem sortLaid : Go.Proofs.SlLaysM.n6 Tryz.prog sortLaid_ren := {
  mixed := by kernel_rfl
  f6 := ⟨Tryz.f66.name, by decide, Tryz.func66.trans (congrArg some (by kernel_rfl))⟩
  f8 := Tryz.func94.trans (congrArg some (by kernel_rfl))
  f9 := ⟨Tryz.f93.name, by decide, Tryz.func93.trans (congrArg some (by kernel_rfl))⟩
  f19 := Tryz.func117.trans (congrArg some (by kernel_rfl))
  f20 := Tryz.func118.trans (congrArg some (by kernel_rfl))
  f21 := ⟨Tryz.f108.name, by decide, Tryz.func108.trans (congrArg some (by kernel_rfl))⟩
  f22 := ⟨Tryz.f109.name, by decide, Tryz.func109.trans (congrArg some (by kernel_rfl))⟩
  f23 := ⟨Tryz.f110.name, by decide, Tryz.func110.trans (congrArg some (by kernel_rfl))⟩
  f24 := ⟨Tryz.f111.name, by decide, Tryz.func111.trans (congrArg some (by kernel_rfl))⟩
  f25 := ⟨Tryz.f112.name, by decide, Tryz.func112.trans (congrArg some (by kernel_rfl))⟩
  f26 := ⟨Tryz.f113.name, by decide, Tryz.func113.trans (congrArg some (by kernel_rfl))⟩
  f27 := ⟨Tryz.f114.name, by decide, Tryz.func114.trans (congrArg some (by kernel_rfl))⟩
  f28 := ⟨Tryz.f115.name, by decide, Tryz.func115.trans (congrArg some (by kernel_rfl))⟩
  f29 := ⟨Tryz.f116.name, by decide, Tryz.func116.trans (congrArg some (by kernel_rfl))⟩
  f31 := Tryz.func137.trans (congrArg some (by kernel_rfl))
  f32 := Tryz.func138.trans (congrArg some (by kernel_rfl))
  f36 := ⟨Tryz.f136.name, by decide, Tryz.func136.trans (congrArg some (by kernel_rfl))⟩
  f37 := ⟨Tryz.f139.name, by decide, Tryz.func139.trans (congrArg some (by kernel_rfl))⟩
  f38 := ⟨Tryz.f140.name, by decide, Tryz.func140.trans (congrArg some (by kernel_rfl))⟩
  f39 := ⟨Tryz.f141.name, by decide, Tryz.func141.trans (congrArg some (by kernel_rfl))⟩
  f41 := ⟨Tryz.f154.name, by decide, Tryz.func154.trans (congrArg some (by kernel_rfl))⟩
  t0 := Tryz.underlying0
  a0 := Tryz.isAgg0
  z0 := Tryz.sizeOf0
  v0 := Tryz.zeroValue0
  t3 := Tryz.underlying3
  a3 := Tryz.isAgg3
  z3 := Tryz.sizeOf3
  v3 := Tryz.zeroValue3
  t4 := Tryz.underlying4
  a4 := Tryz.isAgg4
  z4 := Tryz.sizeOf4
  v4 := Tryz.zeroValue4
  t5 := Tryz.underlying5
  a5 := Tryz.isAgg5
  z5 := Tryz.sizeOf5
  v5 := Tryz.zeroValue5
  t9 := Tryz.underlying9
  a9 := Tryz.isAgg9
  z9 := Tryz.sizeOf9
  v9 := Tryz.zeroValue9
  t26 := Tryz.underlying22
  a26 := Tryz.isAgg22
  z26 := Tryz.sizeOf22
  v26 := Tryz.zeroValue22
  t27 := Tryz.underlying22
  a27 := Tryz.isAgg22
  z27 := Tryz.sizeOf22
  v27 := Tryz.zeroValue22
  t29 := Tryz.underlying9
  a29 := Tryz.isAgg9
  z29 := Tryz.sizeOf9
  v29 := Tryz.zeroValue9
  t32 := Tryz.underlying116
  a32 := Tryz.isAgg116
  z32 := Tryz.sizeOf116
  v32 := Tryz.zeroValue116
  t35 := Tryz.underlying139
  a35 := Tryz.isAgg139
  z35 := Tryz.sizeOf139
  v35 := Tryz.zeroValue139
  t36 := Tryz.underlying140
  a36 := Tryz.isAgg140
  z36 := Tryz.sizeOf140
  v36 := Tryz.zeroValue140
  t41 := Tryz.underlying123
  a41 := Tryz.isAgg123
  z41 := Tryz.sizeOf123
  v41 := Tryz.zeroValue123
  t44 := Tryz.underlying46
  a44 := Tryz.isAgg46
  z44 := Tryz.sizeOf46
  v44 := Tryz.zeroValue46
  t46 := Tryz.underlying148
  a46 := Tryz.isAgg148
  z46 := Tryz.sizeOf148
  v46 := Tryz.zeroValue148
  t53 := Tryz.underlying165
  a53 := Tryz.isAgg165
  z53 := Tryz.sizeOf165
  v53 := Tryz.zeroValue165
  t57 := Tryz.underlying169
  a57 := Tryz.isAgg169
  z57 := Tryz.sizeOf169
  v57 := Tryz.zeroValue169
  t63 := Tryz.underlying179
  a63 := Tryz.isAgg179
  z63 := Tryz.sizeOf179
  v63 := Tryz.zeroValue179
  t64 := Tryz.underlying180
  a64 := Tryz.isAgg180
  z64 := Tryz.sizeOf180
  v64 := Tryz.zeroValue180 }

theorem sorts_in (k : Nat) : AnyZ.SortsIn Tryz.prog sortedLaid_ren Fence.wide k :=
  ⟨fun blk off cap ss W hH hblk hsz => callsIn_wide.2 (AnyM.slices_Sort_string sortLaid blk off cap ss W hH hblk hsz),
   fun p cap W => callsIn_wide.2 (AnyM.slices_Sort_string_none sortLaid p cap W)⟩

theorem keys_in (mb : Option Nat) (W : World) : CallsIn Fence.wide 5 Tryz.prog 71 #[.map mb] W fun e w' => e = .returned (.func (.func 96) #[] #[.pointer (some ⟨W.heap.size, 0, none⟩)]) ∧ w' = W.alloc (.cells #[.map mb] 77) :=
  AnyZ.keys_in keysLaid Fence.wide 5 trivial rfl mb W

set_option maxRecDepth 20000 in
set_option maxHeartbeats 1000000 in
theorem sorted_in (b nn : Nat) (D0 : DataW Unit) (R : Value → Option (DataW Unit × List MemPlace)) (w : World) (hown : w.ownsMap Tryz.prog 9 R b nn D0) (hmax : Maps.size D0 ≤ maxLen) (hbytes : Maps.size D0 * 16 ≤ 140737488355328) :
    CallsIn Fence.wide 5 Tryz.prog 70 #[.func (.func 96) #[] #[.pointer (some ⟨w.heap.size, 0, none⟩)]] (w.alloc (.cells #[.map (some b)] 77)) fun e w' => ∃ (v : Value) (ss : List (List UInt8)), e = .returned v ∧ ss.Perm (strKeys D0) ∧
      w'.ownsRow (w.alloc (.cells #[.map (some b)] 77)).heap.size 9 1 v ss.length ((ss.mergeSort (fun x y => decide (x ≤ y))).map encStr) ∧ (v = .slice none 0 0 ↔ ss = []) ∧ Below (w.alloc (.cells #[.map (some b)] 77)).heap.size (w.alloc (.cells #[.map (some b)] 77)) w' := by
  have hbl := hown.lt
  have hseq : SeqGives Fence.wide 2 Tryz.prog 96 #[.pointer (some ⟨w.heap.size, 0, none⟩)] encStr (fun ss => ss.Perm (strKeys D0)) (Maps.size D0) (w.alloc (.cells #[.map (some b)] 77)) :=
    AnyZ.keys_gives (ρ := keysLaid_ren) { keysLaid with } Fence.wide _ trivial rfl (by omega) w.heap.size b nn D0 _ (by simp) (by simp) (by
      obtain ⟨es, clock, hb, Ft, hs, hD⟩ := hown
      exact ⟨es, clock, (Below.heap_alloc _ _ b hbl).trans hb, Ft, hs, hD⟩)
  exact AnyZ.sorted_in sortedLaid Fence.wide 5 trivial trivial trivial trivial rfl (by omega) (sorts_in _) (enters_of Tryz.func66 (by kernel_rfl) rfl) 96 #[.pointer (some ⟨w.heap.size, 0, none⟩)] trivial (enters_of Tryz.func96 (by kernel_rfl) rfl) _ _ hmax hbytes _ hseq

/-- The names of the files, in order, in a row of the call's own. -/
def Names (w : World) (l : List (List UInt8)) (e : Ending) (w' : World) : Prop :=
  ∃ v, e = .returned v ∧ w'.ownsRow w.heap.size 9 1 v l.length (l.map encStr) ∧ Gr w w'

theorem str_keys (L : List Pl) : strKeys (ents L) = L.map fun x => x.f.name := by
  unfold ents strKeys
  simp [Function.comp_def]
  intro a _; rfl

set_option maxRecDepth 20000 in
set_option maxHeartbeats 1000000 in
theorem names_c (p m : Nat) (s : St) (B : Nat → Prop) (L : List Pl) (w : World) (hs : s.ok) (h : DiskAt w p s B m L) :
    Calls Tryz.prog 40 #[.pointer (some ⟨p, 0, none⟩)] w (Names w ((L.map fun x => x.f.name).mergeSort (fun x y => decide (x ≤ y)))) := by
  have c1 : w.cell? ⟨p, 1, none⟩ = some (.map (some m)) := by rw [cells_at h.heap]; rfl
  have hLl : L.length = s.fs.length := by rw [← h.fs]; simp
  have hm200 := hs.m
  have CS := sorted_in m L.length (ents L) ptrElem w h.own (by rw [ents_size]; unfold maxLen; omega) (by rw [ents_size]; omega)
  have HS := Lib.hid (str_keys L)
  clear h hs hLl hm200
  refine (callsIn_wide (n := 6)).1 ?_
  have hfK : Fence.wide.fn 71 := trivial
  have hfS : Fence.wide.fn 70 := trivial
  refine callsIn_of_wp Tryz.func40 rfl trivial ?_ rfl
  simp only [Tryz.ntmps40, List.size_toArray, List.length_cons, List.length_nil, Nat.reduceAdd, Nat.reduceSub, Array.replicate_succ, Array.replicate_zero, List.push_toArray, List.append_toArray, List.nil_append, List.cons_append]
  gi_wp2_with (first
    | (gi_at_call 71; refine (keys_in _ _).mono ?_; rintro e w' ⟨rfl, rfl⟩)
    | (gi_at_call 70; refine CS.mono ?_; rintro e w' ⟨v, ss, rfl, hS, hrow, hnil, hb⟩))
  go_ret
  rw [HS.out] at hS
  have hm := mergeSort_of_perm hS
  have hlen : ss.length = (((L.map fun x => x.f.name).mergeSort (fun x y => decide (x ≤ y)))).length := by rw [List.length_mergeSort]; exact hS.length_eq
  refine ⟨v, rfl, ?_, ((Below.refl _ w).alloc (Nat.le_refl _) _).trans (hb.mono (by simp))⟩
  rw [← hlen, ← hm]
  exact ownsRow_base_a hrow (by simp)
end Go.Proofs.YtdlomcgkpiejgaaGreatDoor
/- The contract of a file's fall; the order of the names. -/
namespace Go.Proofs.YtdlomcgkpiejgaaGreatDoor
open Go.RowKit Go.Maps FsPlain
set_option linter.unusedVariables false
set_option linter.unusedSimpArgs false
set_option maxRecDepth 20000

theorem before_le : ∀ a b : List UInt8, bytesBefore a b = true → a ≤ b
  | [], b, _ => List.nil_le b
  | _ :: _, [], h => by simp [bytesBefore] at h
  | x :: r, y :: q, h => by
    simp only [bytesBefore, Bool.or_eq_true, Bool.and_eq_true, decide_eq_true_eq, beq_iff_eq] at h
    rw [List.cons_le_cons_iff]
    rcases h with h | ⟨h1, h2⟩
    · exact .inl h
    · exact .inr ⟨h1, before_le r q h2⟩

theorem DiskAt.sorted {w : World} {p m : Nat} {s : St} {B : Nat → Prop} {L : List Pl} (h : DiskAt w p s B m L) : (L.map fun x => x.f.name).mergeSort (fun x y => decide (x ≤ y)) = L.map fun x => x.f.name := by
  obtain ⟨es, clock, _, F, _, hD⟩ := h.own
  have hp := sorted_sorted lawS.one _ (fit_keys F) (fit_apart lawS F)
  unfold ents at hD
  simp only [DataW.map.injEq] at hD
  rw [← hD] at hp
  rw [List.pairwise_map] at hp
  refine List.mergeSort_of_pairwise ?_
  rw [List.pairwise_map]
  exact hp.imp fun h => by simpa using before_le _ _ h

theorem row_cut {w : World} {a : Option Addr} {n c : Nat} {l : List UInt8} (h : w.ownsRow 0 5 1 (.slice a n c) n (Lib.byteCells l)) (k : Nat) (hk : k ≤ n) : w.ownsRow 0 5 1 (.slice a k c) k (Lib.byteCells (l.take k)) := by
  have hl : l.length = n := by have := h.1; simpa [Lib.byteCells_length] using this
  refine ⟨by rw [Lib.byteCells_length, List.length_take]; omega, ?_⟩
  rcases h.2 with ⟨h1, h2⟩ | ⟨g, cap, cur, hv, hb, hg, hn, hc, hs, ht⟩
  · simp only [Value.slice.injEq] at h1
    obtain ⟨rfl, _, rfl⟩ := h1
    have : k = 0 := by omega
    subst this
    exact .inl ⟨rfl, rfl⟩
  · simp only [Value.slice.injEq] at hv
    obtain ⟨rfl, _, rfl⟩ := hv
    refine .inr ⟨g, _, cur, rfl, hb, hg, by omega, hc, hs, ?_⟩
    have : (Lib.byteCells l).take k = Lib.byteCells (l.take k) := by simp [Lib.byteCells, List.map_take]
    rw [← this, ← ht, List.take_take]
    congr 1
    omega

theorem own_blk (a : Option Addr) (n c n' c' : Nat) : (Value.slice a n c).ownBlock = (Value.slice a n' c').ownBlock := by cases a <;> rfl
def stays (f : F) (k : Int) : Nat := f.kept + min (max k 0).toNat (f.data.length - f.kept)

def Fell (w : World) (x : Pl) (k : Int) (e : Ending) (w' : World) : Prop :=
  e = .returned (.tuple #[]) ∧ Only (fun i => i = x.blk) w w' ∧ ∃ v', FileAt w' ⟨fall x.f k, x.blk, v'⟩ ∧ v'.ownBlock = x.v.ownBlock

end Go.Proofs.YtdlomcgkpiejgaaGreatDoor
/- The contract of Rise: by a walk of its loop over the names. -/
namespace Go.Proofs.YtdlomcgkpiejgaaGreatDoor
open Go.RowKit Go.Maps FsPlain
set_option linter.unusedVariables false
set_option linter.unusedSimpArgs false
set_option maxRecDepth 20000

/-- A row of numbers that is only read. -/
def KeepAt (w : World) (B : Nat → Prop) (a : Option Addr) (ks : List Int) : Prop :=
  ks = [] ∨ ∃ kb ko, a = some ⟨kb, ko, none⟩ ∧ kb < w.heap.size ∧ ¬ B kb ∧ ∀ j k, ks[j]? = some k → w.cell? ⟨kb, ko + j, none⟩ = some (.int .i64 k)

structure RiseAt (p m : Nat) (s : St) (B : Nat → Prop) (ks : List Int) (w1 : World) (i : Value) (wr : World) (j : Nat) : Prop where
  ival : i = .int .i64 (j : Int)
  jle : j ≤ s.fs.length
  ok : (riseN s ks j).ok
  d : ∃ Bj L, DiskAt wr p (riseN s ks j) Bj m L ∧ ∀ b, Bj b → B b ∨ w1.heap.size ≤ b
  o : Only B w1 wr

def RiseIn (p m : Nat) (s : St) (B : Nat → Prop) (ks : List Int) (w1 : World) (i : Value) (wr : World) : Prop := ∃ j, RiseAt p m s B ks w1 i wr j

theorem bs_list (l : List UInt8) : (bs l).data.toList = l := rfl

theorem fell_next {p m : Nat} {s : St} {B : Nat → Prop} {L : List Pl} {x : Pl} {n : List UInt8} {k : Int} {w w' : World} {e : Ending} (h : DiskAt w p s B m L) (hf : L.find? (fun x => x.f.name == n) = some x) (k' : Fell w x k e w') :
    ∃ L', DiskAt w' p (s.upd n (fun f => fall f k)) (fun b => B b ∨ (w.heap.size ≤ b ∧ b < w'.heap.size)) m L' := by
  obtain ⟨_, o, v', hF, hv⟩ := k'
  exact h.put hf (x' := ⟨fall x.f k, x.blk, v'⟩) (g := fun f => fall f k) rfl rfl rfl hF (o.mono fun i e => by subst e; simp [plBlocks]) (fun i hi => .inl (by rw [← hv]; exact hi))

theorem rise_step {p m : Nat} {s : St} {B : Nat → Prop} {ks : List Int} {w1 wr w' : World} {i : Value} {j : Nat} {e : Ending} {Bj : Nat → Prop} {L : List Pl} {x : Pl} (h : RiseAt p m s B ks w1 i wr j) (hj : j < s.fs.length)
    (hD : DiskAt wr p (riseN s ks j) Bj m L) (hB : ∀ b, Bj b → B b ∨ w1.heap.size ≤ b) (hf : L.find? (fun x => x.f.name == nameAt s.fs j) = some x) (hk : Fell wr x (ks.getD j 0) e w') :
    RiseAt p m s B ks w1 (.int .i64 ((j : Int) + 1)) w' (j + 1) := by
  have hg : (riseN s ks j).get (nameAt s.fs j) = some x.f := by
    unfold St.get; rw [← hD.fs, List.find?_map]
    have : ((fun f : F => f.name == nameAt s.fs j) ∘ fun x : Pl => x.f) = fun x : Pl => x.f.name == nameAt s.fs j := rfl
    rw [this, hf]; rfl
  obtain ⟨L', hD'⟩ := fell_next hD hf hk
  refine ⟨rfl, hj, ok_fall h.ok hg _, ⟨_, L', hD', fun b hb => ?_⟩, ?_⟩
  · rcases hb with hb | hb
    · exact hB b hb
    · exact .inr (Nat.le_trans h.o.size hb.1)
  · exact h.o.andThen hk.2.1 fun b e => by
      subst e
      exact hB _ (plBlocks_B hD (List.mem_of_find?_eq_some hf) _ (by simp [plBlocks]))

end Go.Proofs.YtdlomcgkpiejgaaGreatDoor
/- The program's disk as a part of a world: what its other calls leave. -/
namespace Go.Proofs.YtdlomcgkpiejgaaGreatDoor
open Go.RowKit Go.Maps FsPlain
set_option linter.unusedVariables false
set_option linter.unusedSimpArgs false
set_option maxRecDepth 20000
theorem d_arm (p : Nat) (s : St) (n : Int) (h0 : -9223372036854775808 ≤ n) (h1 : n ≤ 9223372036854775807) (w : World) (B : Nat → Prop) (h : DiskA p s w B) :
    Calls Tryz.prog 19 #[.pointer (some ⟨p, 0, none⟩), .int .i64 n] w (Does w B (DiskA p (armed s n)) (.tuple #[])) :=
  (arm_c p s B n w h h0 h1).mono fun _ _ => tells_does
end Go.Proofs.YtdlomcgkpiejgaaGreatDoor

/- In one text: FsNames, FsList, MgGot, FsRename. -/
import Derived.Shelf.SlIter.Nil
import Derived.Shelf.SortM.Plain
import Derived.Shelf.SortM.SortNone
import Derived.Ground.GgzProg
import Derived.Ground.SlgmProg
import Derived.Sort.OwnSorted
import Derived.Test.YtjplkmmhjfpdaaaGreatDoorF12
import Derived.Test.YtjplkmmhjfpdaaaGreatDoorF11
import Derived.Test.YtjplkmmhjfpdaaaGreatDoorF13
import Derived.Test.YtjplkmmhjfpdaaaGreatDoorF00
import Derived.Test.YtjplkmmhjfpdaaaGreatDoorF17
import Derived.Test.YtjplkmmhjfpdaaaGreatDoorF14
/- The names of a map of files, sorted: the library's contracts of slices.Sorted and maps.Keys, laid at this program's numbers; and the contract of names. -/
namespace Go.Proofs.YtjplkmmhjfpdaaaGreatDoor
open Go.RowKit Go.Maps Go.Sort Go.Shelf FsPlain
set_option linter.unusedVariables false
set_option linter.unusedSimpArgs false
set_option maxRecDepth 20000
def keysLaid_ren : Go.Shelf.Ren := ⟨fun | 7 => 75 | 10 => 105 | n => n, fun | 23 => 64 | 26 => 9 | 3 => 69 | 28 => 111 | 0 => 0 | 27 => 110 | 33 => 68 | 4 => 4 | n => n, fun | n => n⟩
theorem keysLaid : Go.Proofs.SlLaysZ.n7 Tryz.prog keysLaid_ren := {
  mixed := by kernel_rfl
  f7 := ⟨Tryz.f75.name, by decide, Tryz.func75.trans (congrArg some (by kernel_rfl))⟩
  f10 := ⟨Tryz.f105.name, by decide, Tryz.func105.trans (congrArg some (by kernel_rfl))⟩
  t0 := Tryz.underlying0
  a0 := Tryz.isAgg0
  z0 := Tryz.sizeOf0
  v0 := Tryz.zeroValue0
  t4 := Tryz.underlying4
  a4 := Tryz.isAgg4
  z4 := Tryz.sizeOf4
  v4 := Tryz.zeroValue4
  t23 := Tryz.underlying64
  a23 := Tryz.isAgg64
  z23 := Tryz.sizeOf64
  v23 := Tryz.zeroValue64
  t26 := Tryz.underlying9
  a26 := Tryz.isAgg9
  z26 := Tryz.sizeOf9
  v26 := Tryz.zeroValue9
  t27 := Tryz.underlying110
  a27 := Tryz.isAgg110
  z27 := Tryz.sizeOf110
  v27 := Tryz.zeroValue110
  t28 := Tryz.underlying111
  a28 := Tryz.isAgg111
  z28 := Tryz.sizeOf111
  v28 := Tryz.zeroValue111
  t33 := Tryz.underlying68
  a33 := Tryz.isAgg68
  z33 := Tryz.sizeOf68
  v33 := Tryz.zeroValue68 }
def sortedLaid_ren : Go.Shelf.Ren := ⟨fun | 6 => 74 | 8 => 103 | 9 => 104 | 11 => 125 | 13 => 127 | 12 => 126 | 23 => 161 | 24 => 162 | 14 => 152 | 15 => 153 | 16 => 154 | 17 => 155 | 18 => 156 | 19 => 157 | 20 => 158 | 21 => 159 | 22 => 160 | 25 => 182 | 26 => 183 | 27 => 184 | 28 => 185 | 29 => 186 | 30 => 187 | 31 => 200 | n => n, fun | 26 => 9 | 28 => 111 | 24 => 22 | 0 => 0 | 3 => 3 | 37 => 124 | 48 => 35 | 50 => 192 | 4 => 4 | 40 => 185 | 39 => 184 | 45 => 136 | 5 => 5 | 9 => 9 | 51 => 213 | 55 => 217 | 57 => 229 | 58 => 230 | 33 => 68 | n => n, fun | n => n⟩
theorem sortedLaid : Go.Proofs.SlLaysZ.n6 Tryz.prog sortedLaid_ren := {
  mixed := by kernel_rfl
  f6 := ⟨Tryz.f74.name, by decide, Tryz.func74.trans (congrArg some (by kernel_rfl))⟩
  f8 := ⟨Tryz.f103.name, by decide, Tryz.func103.trans (congrArg some (by kernel_rfl))⟩
  f11 := ⟨Tryz.f125.name, by decide, Tryz.func125.trans (congrArg some (by kernel_rfl))⟩
  t0 := Tryz.underlying0
  a0 := Tryz.isAgg0
  z0 := Tryz.sizeOf0
  v0 := Tryz.zeroValue0
  t24 := Tryz.underlying22
  a24 := Tryz.isAgg22
  z24 := Tryz.sizeOf22
  v24 := Tryz.zeroValue22
  t26 := Tryz.underlying9
  a26 := Tryz.isAgg9
  z26 := Tryz.sizeOf9
  v26 := Tryz.zeroValue9
  t28 := Tryz.underlying111
  a28 := Tryz.isAgg111
  z28 := Tryz.sizeOf111
  v28 := Tryz.zeroValue111
  i26 := by kernel_rfl }
def sortLaid_ren : Go.Shelf.Ren := ⟨fun | 6 => 104 | 8 => 127 | 9 => 126 | 19 => 161 | 20 => 162 | 21 => 152 | 22 => 153 | 23 => 154 | 24 => 155 | 25 => 156 | 26 => 157 | 27 => 158 | 28 => 159 | 29 => 160 | 36 => 182 | 31 => 183 | 32 => 184 | 37 => 185 | 38 => 186 | 39 => 187 | 41 => 200 | n => n, fun | 27 => 22 | 29 => 9 | 3 => 3 | 32 => 124 | 26 => 22 | 0 => 0 | 44 => 35 | 46 => 192 | 4 => 4 | 36 => 185 | 35 => 184 | 41 => 136 | 5 => 5 | 9 => 9 | 53 => 213 | 57 => 217 | 63 => 229 | 64 => 230 | n => n, fun | n => n⟩
theorem sortLaid : Go.Proofs.SlLaysM.n6 Tryz.prog sortLaid_ren := {
  mixed := by kernel_rfl
  f6 := ⟨Tryz.f104.name, by decide, Tryz.func104.trans (congrArg some (by kernel_rfl))⟩
  f8 := Tryz.func127.trans (congrArg some (by kernel_rfl))
  f9 := ⟨Tryz.f126.name, by decide, Tryz.func126.trans (congrArg some (by kernel_rfl))⟩
  f19 := Tryz.func161.trans (congrArg some (by kernel_rfl))
  f20 := Tryz.func162.trans (congrArg some (by kernel_rfl))
  f21 := ⟨Tryz.f152.name, by decide, Tryz.func152.trans (congrArg some (by kernel_rfl))⟩
  f22 := ⟨Tryz.f153.name, by decide, Tryz.func153.trans (congrArg some (by kernel_rfl))⟩
  f23 := ⟨Tryz.f154.name, by decide, Tryz.func154.trans (congrArg some (by kernel_rfl))⟩
  f24 := ⟨Tryz.f155.name, by decide, Tryz.func155.trans (congrArg some (by kernel_rfl))⟩
  f25 := ⟨Tryz.f156.name, by decide, Tryz.func156.trans (congrArg some (by kernel_rfl))⟩
  f26 := ⟨Tryz.f157.name, by decide, Tryz.func157.trans (congrArg some (by kernel_rfl))⟩
  f27 := ⟨Tryz.f158.name, by decide, Tryz.func158.trans (congrArg some (by kernel_rfl))⟩
  f28 := ⟨Tryz.f159.name, by decide, Tryz.func159.trans (congrArg some (by kernel_rfl))⟩
  f29 := ⟨Tryz.f160.name, by decide, Tryz.func160.trans (congrArg some (by kernel_rfl))⟩
  f31 := Tryz.func183.trans (congrArg some (by kernel_rfl))
  f32 := Tryz.func184.trans (congrArg some (by kernel_rfl))
  f36 := ⟨Tryz.f182.name, by decide, Tryz.func182.trans (congrArg some (by kernel_rfl))⟩
  f37 := ⟨Tryz.f185.name, by decide, Tryz.func185.trans (congrArg some (by kernel_rfl))⟩
  f38 := ⟨Tryz.f186.name, by decide, Tryz.func186.trans (congrArg some (by kernel_rfl))⟩
  f39 := ⟨Tryz.f187.name, by decide, Tryz.func187.trans (congrArg some (by kernel_rfl))⟩
  f41 := ⟨Tryz.f200.name, by decide, Tryz.func200.trans (congrArg some (by kernel_rfl))⟩
  t0 := Tryz.underlying0
  a0 := Tryz.isAgg0
  z0 := Tryz.sizeOf0
  v0 := Tryz.zeroValue0
  t3 := Tryz.underlying3
  a3 := Tryz.isAgg3
  z3 := Tryz.sizeOf3
  v3 := Tryz.zeroValue3
  t4 := Tryz.underlying4
  a4 := Tryz.isAgg4
  z4 := Tryz.sizeOf4
  v4 := Tryz.zeroValue4
  t5 := Tryz.underlying5
  a5 := Tryz.isAgg5
  z5 := Tryz.sizeOf5
  v5 := Tryz.zeroValue5
  t9 := Tryz.underlying9
  a9 := Tryz.isAgg9
  z9 := Tryz.sizeOf9
  v9 := Tryz.zeroValue9
  t26 := Tryz.underlying22
  a26 := Tryz.isAgg22
  z26 := Tryz.sizeOf22
  v26 := Tryz.zeroValue22
  t27 := Tryz.underlying22
  a27 := Tryz.isAgg22
  z27 := Tryz.sizeOf22
  v27 := Tryz.zeroValue22
  t29 := Tryz.underlying9
  a29 := Tryz.isAgg9
  z29 := Tryz.sizeOf9
  v29 := Tryz.zeroValue9
  t32 := Tryz.underlying124
  a32 := Tryz.isAgg124
  z32 := Tryz.sizeOf124
  v32 := Tryz.zeroValue124
  t35 := Tryz.underlying184
  a35 := Tryz.isAgg184
  z35 := Tryz.sizeOf184
  v35 := Tryz.zeroValue184
  t36 := Tryz.underlying185
  a36 := Tryz.isAgg185
  z36 := Tryz.sizeOf185
  v36 := Tryz.zeroValue185
  t41 := Tryz.underlying136
  a41 := Tryz.isAgg136
  z41 := Tryz.sizeOf136
  v41 := Tryz.zeroValue136
  t44 := Tryz.underlying35
  a44 := Tryz.isAgg35
  z44 := Tryz.sizeOf35
  v44 := Tryz.zeroValue35
  t46 := Tryz.underlying192
  a46 := Tryz.isAgg192
  z46 := Tryz.sizeOf192
  v46 := Tryz.zeroValue192
  t53 := Tryz.underlying213
  a53 := Tryz.isAgg213
  z53 := Tryz.sizeOf213
  v53 := Tryz.zeroValue213
  t57 := Tryz.underlying217
  a57 := Tryz.isAgg217
  z57 := Tryz.sizeOf217
  v57 := Tryz.zeroValue217
  t63 := Tryz.underlying229
  a63 := Tryz.isAgg229
  z63 := Tryz.sizeOf229
  v63 := Tryz.zeroValue229
  t64 := Tryz.underlying230
  a64 := Tryz.isAgg230
  z64 := Tryz.sizeOf230
  v64 := Tryz.zeroValue230 }
theorem sorts_in (k : Nat) : AnyZ.SortsIn Tryz.prog sortedLaid_ren Fence.wide k :=
  ⟨fun blk off cap ss W hH hblk hsz => callsIn_wide.2 (AnyM.slices_Sort_string sortLaid blk off cap ss W hH hblk hsz),
   fun p cap W => callsIn_wide.2 (AnyM.slices_Sort_string_none sortLaid p cap W)⟩
theorem keys_in (mb : Option Nat) (W : World) : CallsIn Fence.wide 5 Tryz.prog 75 #[.map mb] W fun e w' => e = .returned (.func (.func 105) #[] #[.pointer (some ⟨W.heap.size, 0, none⟩)]) ∧ w' = W.alloc (.cells #[.map mb] 64) :=
  AnyZ.keys_in keysLaid Fence.wide 5 trivial rfl mb W
set_option maxRecDepth 20000 in
set_option maxHeartbeats 1000000 in
theorem sorted_in (b nn : Nat) (D0 : DataW Unit) (R : Value → Option (DataW Unit × List MemPlace)) (w : World) (hown : w.ownsMap Tryz.prog 9 R b nn D0) (hmax : Maps.size D0 ≤ maxLen) (hbytes : Maps.size D0 * 16 ≤ 140737488355328) :
    CallsIn Fence.wide 5 Tryz.prog 74 #[.func (.func 105) #[] #[.pointer (some ⟨w.heap.size, 0, none⟩)]] (w.alloc (.cells #[.map (some b)] 64)) fun e w' => ∃ (v : Value) (ss : List (List UInt8)), e = .returned v ∧ ss.Perm (strKeys D0) ∧
      w'.ownsRow (w.alloc (.cells #[.map (some b)] 64)).heap.size 9 1 v ss.length ((ss.mergeSort (fun x y => decide (x ≤ y))).map encStr) ∧ (v = .slice none 0 0 ↔ ss = []) ∧ Below (w.alloc (.cells #[.map (some b)] 64)).heap.size (w.alloc (.cells #[.map (some b)] 64)) w' := by
  have hbl := hown.lt
  have hseq : SeqGives Fence.wide 2 Tryz.prog 105 #[.pointer (some ⟨w.heap.size, 0, none⟩)] encStr (fun ss => ss.Perm (strKeys D0)) (Maps.size D0) (w.alloc (.cells #[.map (some b)] 64)) :=
    AnyZ.keys_gives (ρ := keysLaid_ren) { keysLaid with } Fence.wide _ trivial rfl (by omega) w.heap.size b nn D0 _ (by simp) (by simp) (by
      obtain ⟨es, clock, hb, Ft, hs, hD⟩ := hown
      exact ⟨es, clock, (Below.heap_alloc _ _ b hbl).trans hb, Ft, hs, hD⟩)
  exact AnyZ.sorted_in sortedLaid Fence.wide 5 trivial trivial trivial trivial rfl (by omega) (sorts_in _) (enters_of Tryz.func104 (by kernel_rfl) rfl) 105 #[.pointer (some ⟨w.heap.size, 0, none⟩)] trivial (enters_of Tryz.func105 (by kernel_rfl) rfl) _ _ hmax hbytes _ hseq
def Names (w : World) (l : List (List UInt8)) (e : Ending) (w' : World) : Prop :=
  ∃ v, e = .returned v ∧ w'.ownsRow w.heap.size 9 1 v l.length (l.map encStr) ∧ Gr w w'
theorem str_keys (L : List Pl) : strKeys (ents L) = L.map fun x => x.f.name := by
  unfold ents strKeys
  simp [Function.comp_def]
  intro a _; rfl
set_option maxRecDepth 20000 in
set_option maxHeartbeats 1000000 in
theorem names_c (p m : Nat) (s : St) (B : Nat → Prop) (L : List Pl) (w : World) (hs : s.ok) (h : DiskAt w p s B m L) :
    Calls Tryz.prog 50 #[.pointer (some ⟨p, 0, none⟩)] w (Names w ((L.map fun x => x.f.name).mergeSort (fun x y => decide (x ≤ y)))) := by
  have c1 : w.cell? ⟨p, 1, none⟩ = some (.map (some m)) := by rw [cells_at h.heap]; rfl
  have hLl : L.length = s.fs.length := by rw [← h.fs]; simp
  have hm200 := hs.m
  have CS := sorted_in m L.length (ents L) ptrElem w h.own (by rw [ents_size]; unfold maxLen; omega) (by rw [ents_size]; omega)
  have HS := Lib.hid (str_keys L)
  clear h hs hLl hm200
  refine (callsIn_wide (n := 6)).1 ?_
  have hfK : Fence.wide.fn 75 := trivial
  have hfS : Fence.wide.fn 74 := trivial
  refine callsIn_of_wp Tryz.func50 rfl trivial ?_ rfl
  simp only [Tryz.ntmps50, List.size_toArray, List.length_cons, List.length_nil, Nat.reduceAdd, Nat.reduceSub, Array.replicate_succ, Array.replicate_zero, List.push_toArray, List.append_toArray, List.nil_append, List.cons_append]
  gi_wp2_with (first
    | (gi_at_call 75; refine (keys_in _ _).mono ?_; rintro e w' ⟨rfl, rfl⟩)
    | (gi_at_call 74; refine CS.mono ?_; rintro e w' ⟨v, ss, rfl, hS, hrow, hnil, hb⟩))
  go_ret
  rw [HS.out] at hS
  have hm := mergeSort_of_perm hS
  have hlen : ss.length = (((L.map fun x => x.f.name).mergeSort (fun x y => decide (x ≤ y)))).length := by rw [List.length_mergeSort]; exact hS.length_eq
  refine ⟨v, rfl, ?_, ((Below.refl _ w).alloc (Nat.le_refl _) _).trans (hb.mono (by simp))⟩
  rw [← hlen, ← hm]
  exact ownsRow_base_a hrow (by simp)
end Go.Proofs.YtjplkmmhjfpdaaaGreatDoor
/- The program's disk: List. -/
namespace Go.Proofs.YtjplkmmhjfpdaaaGreatDoor
open Go.RowKit FsPlain
set_option linter.unusedVariables false
set_option linter.unusedSimpArgs false
set_option maxRecDepth 20000
def listN (s : St) : List ByteArray := ((s.fs.map fun f => f.name).mergeSort (fun x y => decide (x ≤ y))).map bs
theorem listN_length (s : St) : (listN s).length = s.fs.length := by unfold listN; rw [List.length_map, List.length_mergeSort, List.length_map]
def Listed (p : Nat) (s : St) (B : Nat → Prop) (w : World) (e : Ending) (w' : World) : Prop :=
  Next w p s.call B w' ∧ ((s.call.down = true ∧ e = .returned (.tuple #[.slice none 0 0, .int .i64 5])) ∨
    (s.call.down = false ∧ ∃ v, e = .returned (.tuple #[v, .int .i64 0]) ∧ w'.ownsRow w.heap.size 9 1 v (listN s).length (strs (listN s))))
set_option maxRecDepth 20000 in
set_option maxHeartbeats 1000000 in
theorem list_c (p : Nat) (s : St) (B : Nat → Prop) (w : World) (h : Disk w p s B) (h1 : s.calls ≤ 1000000000000) :
    Calls Tryz.prog 17 #[.pointer (some ⟨p, 0, none⟩)] w (Listed p s B w) := by
  obtain ⟨hs, m, L, hD⟩ := h
  have C := call_yes p m s w hD.heap (by have := hs.c0; omega) h1 (by have := hs.a0; omega) (by have := hs.a1; omega)
  have HS := Lib.hid hs
  have HD := Lib.hid hD
  clear hD hs
  have hc : s.call.code = if s.call.down = true then 5 else 0 := rfl
  cases hd : s.call.down
  · rw [hd] at hc
    rw [show s.call.code = 0 from hc] at C
    have HDN := Lib.hid hd
    clear hc hd
    go_enter Tryz.func17, Tryz.ntmps17
    go_wp2_with fail
    refine C.mono ?_; rintro e w2 ⟨rfl, k⟩
    have HK := Lib.hid k
    have D2 := Lib.hid (HD.out.called k)
    have N2 := Lib.hid (next_called HS.out D2.out k.2)
    have CN := Lib.hid (names_c p m s.call B L w2 (ok_call HS.out) D2.out)
    clear k C
    go_wp2_with fail
    refine (CN.out).mono ?_; rintro e w3 ⟨v, rfl, ho, g⟩
    have HO := Lib.hid ho
    have G := Lib.hid g
    have sh : ∃ a n c, v = .slice a n c := by
      rcases ho.2 with ⟨e, _⟩ | ⟨g, cap, cur, e, _⟩
      · exact ⟨none, 0, 0, e⟩
      · exact ⟨_, _, _, e⟩
    obtain ⟨a, n, c, rfl⟩ := sh
    clear ho g
    go_wp2_with fail
    go_ret2
    refine ⟨?_, .inr ⟨HDN.out, _, rfl, ?_⟩⟩
    · obtain ⟨B', hd, ho, hn⟩ := N2.out
      exact ⟨B', hd.only (Only.ofGr (B := fun _ => False) G.out) (fun _ _ e => e), ho.trans (Only.ofGr G.out), hn⟩
    · have hfs : (L.map fun x => x.f.name) = s.fs.map fun f => f.name := by
        have h := D2.out.fs
        have h2 := congrArg (List.map fun f : F => f.name) h
        rw [List.map_map] at h2
        exact h2
      have ho := HO.out
      rw [hfs] at ho
      have e1 : strs (listN s) = ((s.fs.map fun f => f.name).mergeSort (fun x y => decide (x ≤ y))).map encStr := by
        unfold strs listN
        rw [List.map_map]
        rfl
      have e2 : (listN s).length = ((s.fs.map fun f => f.name).mergeSort (fun x y => decide (x ≤ y))).length := by unfold listN; rw [List.length_map]
      rw [e1, e2]
      have hws : w.heap.size ≤ w2.heap.size := HK.out.2.size
      refine ⟨ho.1, ho.2.imp id ?_⟩
      rintro ⟨g, cap, cur, h1, h2, h3⟩
      exact ⟨g, cap, cur, h1, Nat.le_trans hws h2, h3⟩
  · rw [hd] at hc
    rw [show s.call.code = 5 from hc] at C
    have HDN := Lib.hid hd
    clear hc hd
    go_enter Tryz.func17, Tryz.ntmps17
    go_wp2_with fail
    refine C.mono ?_; rintro e w2 ⟨rfl, k⟩
    have N2 := Lib.hid (next_called HS.out (HD.out.called k) k.2)
    clear k C
    go_wp2_with fail
    go_ret2
    exact ⟨N2.out, .inl ⟨HDN.out, rfl⟩⟩
end Go.Proofs.YtjplkmmhjfpdaaaGreatDoor
/- What Merge leaves, as parts. -/
namespace Go.Proofs.YtjplkmmhjfpdaaaGreatDoor
open Go.RowKit FsPlain CrcPlain OctPlain FramePlain RecPlain RdPlain RnPlain WrPlain
set_option linter.unusedVariables false
set_option maxRecDepth 20000
def MergeGot (D P : Nat) (s : St) (b : Bu) (F : List (ByteArray × ByteArray)) (out : ByteArray) (size : Int) (u : Bool) (M : List Asn) (w : World) (B : Nat → Prop) (e : Ending) (w' : World) : Prop :=
  ∃ s' b' k c er, e = .returned (.tuple #[.agg #[.int .i64 k, .int .u32 c], .int .i64 er]) ∧ MergeR s b F out size u s' b' k c er ∧ ∃ B', stars ([DiskA D s', BuA P b'] ++ M) w' B' ∧ Nx B w B' w'
def DM (D P : Nat) (s : St) (b : Bu) (M : List Asn) (w wr : World) : Prop := ∃ B, stars ([DiskA D s, BuA P b] ++ M) wr B ∧ Nx (fun _ => False) w B wr
theorem frs_dm (D P : Nat) (s : St) (b : Bu) {M : List Asn} (hM : Frs M) : Frs ([DiskA D s, BuA P b] ++ M) := ⟨fr_disk _ _, fr_bu _ _, hM⟩
theorem DM.gr {D P : Nat} {s : St} {b : Bu} {M : List Asn} {w wr u : World} (hM : Frs M) (h : DM D P s b M w wr) (g : Gr wr u) : DM D P s b M w u := by
  obtain ⟨B, k, n⟩ := h
  exact ⟨B, stars_gr (frs_dm D P s b hM) k g, n.trans (Nx.gr g)⟩
theorem DM.end {D P : Nat} {s : St} {b : Bu} {M : List Asn} {w wr : World} (h : DM D P s b M w wr) : Gr w wr := by
  obtain ⟨B, _, n⟩ := h
  exact nx_gr n
theorem DM.bud {D P : Nat} {s : St} {b : Bu} {M : List Asn} {w wr : World} (h : DM D P s b M w wr) : BAt wr P b := by
  obtain ⟨B, k, _⟩ := h
  obtain ⟨_, hb, _⟩ := part_at 1 rfl k
  exact hb.at
theorem DM.part {D P : Nat} {s : St} {b : Bu} {M : List Asn} {w wr : World} (h : DM D P s b M w wr) (i : Nat) {Q : Asn} (hi : M[i]? = some Q) : ∃ B1, Q wr B1 := by
  obtain ⟨B, k, _⟩ := h
  obtain ⟨B1, hq, _⟩ := part_at (L := [DiskA D s, BuA P b] ++ M) (i + 2) hi k
  exact ⟨B1, hq⟩
theorem DM.row {D P : Nat} {s : St} {b : Bu} {M : List Asn} {w wr : World} (h : DM D P s b M w wr) (i : Nat) {v : Value} {l : List ByteArray} (hi : M[i]? = some (RowA v l)) : Lies wr v l := by
  obtain ⟨_, hr⟩ := h.part i hi
  exact row_lies hr
theorem DM.blk {D P : Nat} {s : St} {b : Bu} {M : List Asn} {w wr : World} (h : DM D P s b M w wr) (i : Nat) {X : Nat} {c : Array Value} {T : TypeId} (hi : M[i]? = some (Blk X c T)) (j : Nat) : wr.cell? ⟨X, j, none⟩ = c[j]? := by
  obtain ⟨_, hr⟩ := h.part i hi
  exact cells_at hr.1 j
theorem DM.new {D P : Nat} {s : St} {b : Bu} {M : List Asn} {w wr u : World} {Q : Asn} {B' : Nat → Prop} (hM : Frs M) (h : DM D P s b M w wr) (g : Gr wr u) (q : Q u B') (hn : ∀ x, B' x → wr.heap.size ≤ x) : DM D P s b (Q :: M) w u := by
  obtain ⟨B, k, n⟩ := h
  obtain ⟨B3, k3, n3⟩ := part_new (P := Q) (frs_dm D P s b hM) k g q hn
  exact ⟨B3, stars_perm (List.perm_middle (l₁ := [DiskA D s, BuA P b])).symm k3, n.trans n3⟩
theorem DM.blk_new {D P : Nat} {s : St} {b : Bu} {M : List Asn} {w wr u : World} (hM : Frs M) (h : DM D P s b M w wr) (c : Array Value) (T : TypeId) (hu : u = wr.alloc (.cells c T)) : DM D P s b (Blk wr.heap.size c T :: M) w u := by
  subst hu
  exact h.new (B' := fun b => b = wr.heap.size) hM (Below.alloc (Below.refl _ _) (Nat.le_refl _) _) ⟨heap_alloc_new wr _, fun _ => Iff.rfl⟩ (fun b hb => by rw [hb]; exact Nat.le_refl _)
theorem row_of_own {w u : World} {v : Value} {l : List ByteArray} (h : u.ownsRow w.heap.size 9 1 v l.length (strs l)) : ∃ B, RowA v l u B ∧ ∀ x, B x → w.heap.size ≤ x := by
  refine ⟨fun x => v.ownBlock = some x, ⟨⟨h.1, h.2.imp id fun ⟨g, cap, cur, h1, h2, h3⟩ => ⟨g, cap, cur, h1, Nat.zero_le _, h3⟩⟩, fun b hb => hb, fun b hb => (h.lt b hb).2⟩, fun x hx => (h.lt x hx).1⟩
theorem DM.disk {D P : Nat} {s s' : St} {b : Bu} {M : List Asn} {w wr : World} {f : FuncId} {args : Array Value} {x : Value} (hM : Frs M) (h : DM D P s b M w wr) (k : ∀ B, DiskA D s wr B → Calls Tryz.prog f args wr (Does wr B (DiskA D s') x)) :
    Calls Tryz.prog f args wr fun e w' => e = .returned x ∧ DM D P s' b M w w' := by
  obtain ⟨B, hs, n⟩ := h
  refine (does_at (L := [DiskA D s, BuA P b] ++ M) 0 rfl (frs_dm D P s b hM) hs k).mono ?_
  rintro e w' ⟨he, B', h', n'⟩
  exact ⟨he, B', h', n.trans n'⟩
theorem DM.clear {D P : Nat} {s s' : St} {b : Bu} {M : List Asn} {w wr : World} {f : FuncId} {args : Array Value} {x : Value} (h : DM D P s b M w wr) (j : ∀ B, stars ([DiskA D s] ++ (BuA P b :: M)) wr B → Calls Tryz.prog f args wr (Does wr B (stars ([DiskA D s'] ++ (BuA P b :: M))) x)) :
    Calls Tryz.prog f args wr fun e w' => e = .returned x ∧ DM D P s' b M w w' := by
  obtain ⟨B, hs, n⟩ := h
  refine (j B hs).mono ?_
  rintro e w' ⟨he, B', h', n'⟩
  exact ⟨he, B', h', n.trans n'⟩
theorem DM.used {D P : Nat} {s : St} {b : Bu} {M : List Asn} {w wr : World} (h : DM D P s b M w wr) : Calls Tryz.prog 38 #[.pointer (some ⟨D, 0, none⟩)] wr fun e w' => e = .returned (.int .i64 (used s.fs : Int)) ∧ Gr wr w' := by
  obtain ⟨B, hs, _⟩ := h
  obtain ⟨B1, ⟨hok, m, L, hD⟩, _⟩ := part_at 0 rfl hs
  exact used_c D m s B1 L wr hok hD
theorem DM.merge {D P : Nat} {s : St} {b : Bu} {F : List (ByteArray × ByteArray)} {out : ByteArray} {size : Int} {u : Bool} {M : List Asn} {w wr : World} {f : FuncId} {args : Array Value} (h : DM D P s b M w wr) (k : ∀ B, stars ([DiskA D s, BuA P b] ++ M) wr B → Calls Tryz.prog f args wr (MergeGot D P s b F out size u M wr B)) :
    Calls Tryz.prog f args wr fun e w' => ∃ s' b' k c er, e = .returned (.tuple #[.agg #[.int .i64 k, .int .u32 c], .int .i64 er]) ∧ MergeR s b F out size u s' b' k c er ∧ DM D P s' b' M w w' := by
  obtain ⟨B, hs, n⟩ := h
  refine (k B hs).mono ?_
  rintro e w' ⟨s', b', k1, c, er, he, hm, B', h', n'⟩
  exact ⟨s', b', k1, c, er, he, hm, B', h', n.trans n'⟩
end Go.Proofs.YtjplkmmhjfpdaaaGreatDoor
/- The contract of Rename. -/
namespace Go.Proofs.YtjplkmmhjfpdaaaGreatDoor
open Go.RowKit FsPlain Go.Maps
set_option linter.unusedVariables false
set_option linter.unusedSimpArgs false
set_option maxRecDepth 20000
namespace FsPlain
def St.move (s : St) (a b : List UInt8) (f : F) : St := { s with fs := insF ⟨b, f.data, f.kept⟩ ((s.drop a).drop b).fs }
def renameR (s : St) (a b : List UInt8) : St × Int := if s.call.down = true then (s.call, 5) else match s.get a with | none => (s.call, 2) | some f => (s.call.move a b f, 0)
theorem ins_find2 {x : F} {n' : List UInt8} (h : n' ≠ x.name) : ∀ l : List F, ((insF x l).find? fun f => f.name == n') = l.find? fun f => f.name == n'
  | [] => by
    unfold insF
    rw [List.find?_cons_of_neg (by simpa using fun e => h e.symm)]
  | y :: r => by
    unfold insF
    split
    · rw [List.find?_cons_of_neg (by simpa using fun e => h e.symm)]
    · rw [List.find?_cons, List.find?_cons, ins_find2 h r]
theorem get_ins2 {x : F} : ∀ {l : List F}, (l.find? fun f => f.name == x.name) = none → ((insF x l).find? fun f => f.name == x.name) = some x
  | [], _ => by unfold insF; simp
  | y :: r, h => by
    rw [List.find?_cons] at h
    split at h
    · cases h
    · rename_i hy
      unfold insF
      split
      · simp
      · rw [List.find?_cons, hy, get_ins2 h]
theorem move_get (s : St) (a b : List UInt8) (f : F) : (s.move a b f).get b = some ⟨b, f.data, f.kept⟩ := by
  have h := drop_get (s.drop a) b
  exact get_ins2 (x := ⟨b, f.data, f.kept⟩) h
theorem move_get_ne (s : St) {a b n : List UInt8} (f : F) (hb : n ≠ b) (ha : n ≠ a) : (s.move a b f).get n = s.get n := by
  have h1 : (s.move a b f).get n = ((s.drop a).drop b).get n := ins_find2 (x := ⟨b, f.data, f.kept⟩) hb _
  rw [h1, drop_get_ne _ hb, drop_get_ne _ ha]
theorem move_get_old (s : St) {a b : List UInt8} (f : F) (hab : a ≠ b) : (s.move a b f).get a = none := by
  have h1 : (s.move a b f).get a = ((s.drop a).drop b).get a := ins_find2 (x := ⟨b, f.data, f.kept⟩) hab _
  rw [h1, drop_get_ne _ hab, drop_get]
theorem used_move {s : St} (h : s.ok) {a b : List UInt8} {f : F} (hf : s.get a = some f) : used (s.move a b f).fs ≤ used s.fs ∧ (s.move a b f).fs.length ≤ s.fs.length := by
  obtain ⟨A, C, e, h1, hA, hC, _⟩ := get_split h hf
  have e2 : (s.drop a).fs = A ++ C := by
    show s.fs.filter _ = _
    rw [e, List.filter_append, List.filter_cons]
    have : (!(f.name == a)) = false := by simp [h1]
    rw [if_neg (by rw [this]; decide), List.filter_eq_self.2 fun y hy => by simpa using hA y hy, List.filter_eq_self.2 fun y hy => by simpa using hC y hy]
  have hp := insF_perm ⟨b, f.data, f.kept⟩ ((s.drop a).drop b).fs
  have h3 : used ((s.drop a).drop b).fs ≤ used (s.drop a).fs := used_filter _ _
  have h4 : ((s.drop a).drop b).fs.length ≤ (s.drop a).fs.length := List.length_filter_le _ _
  have h5 := used_perm hp
  have h6 := hp.length_eq
  have h7 := used_split A C f f
  have hs : used s.fs = used (A ++ C) + f.data.length := by
    rw [e]
    unfold used
    simp only [List.map_append, List.map_cons, List.sum_append, List.sum_cons]
    omega
  have hl : s.fs.length = (A ++ C).length + 1 := by rw [e]; simp; omega
  rw [e2] at h3 h4
  constructor
  · show used (insF _ _) ≤ _
    rw [h5, hs]
    unfold used at h3 ⊢
    simp only [List.map_cons, List.sum_cons]
    omega
  · show (insF _ _).length ≤ _
    rw [h6, hl, List.length_cons]
    omega
theorem ok_move {s : St} (h : s.ok) {a b : List UInt8} (hb : b.length ≤ 24) {f : F} (hf : s.get a = some f) : (s.move a b f).ok := by
  obtain ⟨u1, u2⟩ := used_move (b := b) h hf
  have h2 := ok_drop (ok_drop h a) b
  have hp := insF_perm ⟨b, f.data, f.kept⟩ ((s.drop a).drop b).fs
  have hg := drop_get (s.drop a) b
  have hne : ∀ y ∈ ((s.drop a).drop b).fs, y.name ≠ b := fun y hy e => by
    have := List.find?_eq_none.1 hg y hy
    simp [e] at this
  refine ⟨h.r0, h.r1, h.c0, h.a0, h.a1, ?_, ?_, ?_, ?_, ?_⟩
  · have := h.u
    show ((used (s.move a b f).fs : Nat) : Int) ≤ s.room
    omega
  · intro y hy
    rcases List.mem_cons.1 (hp.mem_iff.1 hy) with rfl | hy
    · exact h.k f (get_mem hf)
    · exact h2.k y hy
  · intro y hy
    rcases List.mem_cons.1 (hp.mem_iff.1 hy) with rfl | hy
    · exact hb
    · exact h2.n y hy
  · exact Nat.le_trans u2 h.m
  · show (insF _ _).Pairwise _
    rw [hp.pairwise_iff (fun {a b} (h : a.name ≠ b.name) => h.symm)]
    exact List.pairwise_cons.2 ⟨fun y hy e => hne y hy e.symm, h2.d⟩
theorem ok_rename {s : St} (h : s.ok) (a : List UInt8) {b : List UInt8} (hb : b.length ≤ 24) : (renameR s a b).1.ok := by
  unfold renameR
  split
  · exact ok_call h
  · split
    · exact ok_call h
    · rename_i f hf
      exact ok_move (ok_call h) hb (show s.call.get a = some f from hf)
end FsPlain
theorem put_filter (L : List Pl) (n : List UInt8) (v : DataW Unit) : (ents (L.filter fun x => !(x.f.name == n))).put (.string n) v = (ents L).put (.string n) v := by
  have key : ((L.filter fun x => !(x.f.name == n)).map fun x => ((.string x.f.name : Lit), (DataW.lit (.int .i64 (x.blk : Int)) : DataW Unit))).filter (fun p => !p.1.sameKey (.string n)) = (L.map fun x => ((.string x.f.name : Lit), (DataW.lit (.int .i64 (x.blk : Int)) : DataW Unit))).filter (fun p => !p.1.sameKey (.string n)) := by
    rw [List.filter_map, List.filter_map, List.filter_filter]
    congr 1
    refine List.filter_congr fun x _ => ?_
    simp only [Function.comp, Lit.sameKey]
    cases h : x.f.name == n
    · simp
    · have e : x.f.name = n := by simpa using h
      simp [e]
  unfold ents DataW.put
  dsimp only
  rw [key]
theorem DiskAt.moved {w w' : World} {p m k : Nat} {s : St} {B : Nat → Prop} {L : List Pl} {x : Pl} {a b : List UInt8} (h : DiskAt w p s B m L) (hf : L.find? (fun y => y.f.name == a) = some x) (ho : Own m k (((ents L).del (.string a)).put (.string b) (.lit (.int .i64 (x.blk : Int)))) w') (g : Only (fun i => i = m) w w') :
    DiskAt w' p (s.move a b x.f) B m (insL ⟨⟨b, x.f.data, x.f.kept⟩, x.blk, x.v⟩ ((L.filter fun y => !(y.f.name == a)).filter fun y => !(y.f.name == b))) := by
  obtain ⟨A, C, e, hx, hA⟩ := find_split hf
  have hap := h.apart
  have hpm : p ≠ m := fun e => by
    simp only [List.nodup_cons, List.mem_cons, not_or] at hap; exact hap.1.1 e
  have hperm := insL_perm ⟨⟨b, x.f.data, x.f.kept⟩, x.blk, x.v⟩ ((L.filter fun y => !(y.f.name == a)).filter fun y => !(y.f.name == b))
  have hfe : L.filter (fun y => !(y.f.name == a)) = A ++ C.filter fun y => !(y.f.name == a) := by
    rw [e, List.filter_append, List.filter_cons]
    have : (!(x.f.name == a)) = false := by simpa using hx
    rw [if_neg (by rw [this]; decide), List.filter_eq_self.2 fun y hy => by rw [hA y hy]; rfl]
  have hs1 : (blocks ((L.filter fun y => !(y.f.name == a)).filter fun y => !(y.f.name == b))).Sublist (blocks (A ++ C)) := by
    refine (blocks_sub _ _).trans ?_
    rw [hfe]
    unfold blocks
    rw [List.flatMap_append, List.flatMap_append]
    exact (List.Sublist.refl _).append (blocks_sub _ C)
  have hbl : (blocks L).Perm (plBlocks x ++ blocks (A ++ C)) := by
    rw [e]
    unfold blocks
    rw [List.flatMap_append, List.flatMap_append, List.flatMap_cons, ← List.append_assoc, ← List.append_assoc]
    exact List.perm_append_comm.append_right _
  have hbp : (blocks (insL ⟨⟨b, x.f.data, x.f.kept⟩, x.blk, x.v⟩ ((L.filter fun y => !(y.f.name == a)).filter fun y => !(y.f.name == b)))).Perm (plBlocks x ++ blocks ((L.filter fun y => !(y.f.name == a)).filter fun y => !(y.f.name == b))) := by
    refine (hperm.flatMap_right _).trans ?_
    show (List.flatMap plBlocks (_ :: _)).Perm _
    rw [List.flatMap_cons]
    exact List.Perm.refl _
  have hsub : (plBlocks x ++ blocks ((L.filter fun y => !(y.f.name == a)).filter fun y => !(y.f.name == b))).Sublist (plBlocks x ++ blocks (A ++ C)) := (List.Sublist.refl _).append hs1
  have hmem : x ∈ L := by rw [e]; simp
  have hin : ∀ i ∈ blocks (insL ⟨⟨b, x.f.data, x.f.kept⟩, x.blk, x.v⟩ ((L.filter fun y => !(y.f.name == a)).filter fun y => !(y.f.name == b))), i ∈ blocks L := fun i hi => hbl.mem_iff.2 (hsub.subset (hbp.mem_iff.1 hi))
  have hstay : ∀ y ∈ L, FileAt w' y := fun y hy => (h.file y hy).only g fun b hb e => by
    have e2 : b = m := e
    subst e2
    simp only [List.nodup_cons] at hap
    exact hap.2.1 (mem_blocks hy hb)
  refine ⟨?_, ?_, ?_, ?_, ?_, ?_, ?_⟩
  · rw [g.block p (lt_of_block h.heap) hpm]; exact h.heap
  · rw [del_ents] at ho
    have e1 := ents_put (x := ⟨⟨b, x.f.data, x.f.kept⟩, x.blk, x.v⟩) (L := (L.filter fun y => !(y.f.name == a)).filter fun y => !(y.f.name == b)) (List.find?_eq_none.2 fun y hy => by
      have := (List.mem_filter.1 hy).2
      simpa using this)
    rw [← put_filter, ← e1] at ho
    have := tight ho
    rwa [ents_size] at this
  · rw [insL_map]
    show insF _ _ = insF _ _
    congr 1
    show ((L.filter _).filter _).map (·.f) = (s.fs.filter _).filter _
    rw [← h.fs, List.filter_map, List.filter_map]
    rfl
  · intro y hy
    rcases List.mem_cons.1 (hperm.mem_iff.1 hy) with rfl | hy
    · exact hstay x hmem
    · exact hstay y (List.mem_filter.1 (List.mem_filter.1 hy).1).1
  · refine List.Perm.nodup (((hbp.cons m).cons p).symm) ?_
    refine List.Nodup.sublist ((hsub.cons_cons m).cons_cons p) ?_
    exact List.Perm.nodup ((hbl.cons m).cons p) hap
  · intro i hi
    refine h.mine i ?_
    simp only [List.mem_cons] at hi ⊢
    rcases hi with hi | hi | hi
    · exact .inl hi
    · exact .inr (.inl hi)
    · exact .inr (.inr (hin i hi))
  · exact fun i hi => Nat.lt_of_lt_of_le (h.low i hi) g.size
set_option maxRecDepth 20000 in
set_option maxHeartbeats 1000000 in
theorem rename_c (p : Nat) (s : St) (B : Nat → Prop) (a b : ByteArray) (w : World) (h : Disk w p s B) (ha : a.size ≤ 1000) (hma : rightB a.data.toList = true) (hb : b.size ≤ 1000) (hmb : rightB b.data.toList = true) (h1 : s.calls ≤ 1000000000000) :
    Calls Tryz.prog 72 #[.pointer (some ⟨p, 0, none⟩), .string a, .string b] w (Tells w p (renameR s a.data.toList b.data.toList).1 B (.int .i64 (renameR s a.data.toList b.data.toList).2)) := by
  obtain ⟨hs, m, L, hD⟩ := h
  have R := fun u => right_c b (by unfold maxLen; omega) u
  rw [hmb] at R
  have C := find_yes p m s B L a w hs hD (by unfold maxLen; omega) hma h1
  have HS := Lib.hid hs
  have hb24 : b.data.toList.length ≤ 24 := by
    unfold rightB at hmb; simp only [Bool.and_eq_true, decide_eq_true_eq] at hmb; exact hmb.2.2
  have HB24 := Lib.hid hb24
  have hkey := WideMaps.keyOf_string_mk (P := Tryz.prog) (k := 9) Tryz.underlying9 (show a.size ≤ maxLen by unfold maxLen; omega)
  clear hD hma hmb hs hb24
  go_enter Tryz.func72, Tryz.ntmps72
  go_wp2_with fail
  refine (R _).mono ?_; rintro e w1 ⟨rfl, rfl⟩
  go_wp2_with fail
  refine C.mono ?_; rintro e w2 ⟨hD, hO, hcase⟩
  have HN := Lib.hid (next_called HS.out hD hO)
  have HD := Lib.hid hD
  have HO := Lib.hid hO
  clear hD hO R
  rcases hcase with ⟨hd, rfl⟩ | ⟨hd, hg, rfl⟩ | ⟨hd, x, hg, hf, rfl⟩
  · have HR : Hid (renameR s a.data.toList b.data.toList = (s.call, 5)) := Lib.hid (by simp [renameR, hd])
    clear hd hkey
    go_wp2_with fail
    go_ret
    exact ⟨by rw [HR.out] <;> rfl, by rw [HR.out]; exact HN.out⟩
  · have HR : Hid (renameR s a.data.toList b.data.toList = (s.call, 2)) := Lib.hid (by simp [renameR, hd, hg])
    clear hd hg hkey
    go_wp2_with fail
    go_ret
    exact ⟨by rw [HR.out] <;> rfl, by rw [HR.out]; exact HN.out⟩
  · have HR : Hid (renameR s a.data.toList b.data.toList = (s.call.move a.data.toList b.data.toList x.f, 0)) := Lib.hid (by simp [renameR, hd, hg])
    have HG := Lib.hid (show s.call.get a.data.toList = some x.f from hg)
    have HF := Lib.hid hf
    have c1 : w2.cell? ⟨p, 1, none⟩ = some (.map (some m)) := by rw [cells_at HD.out.heap]; rfl
    have hown := HD.out.own
    have HW := Lib.hid hown
    have HK := Lib.hid hkey
    have hLl : L.length ≤ 200 := by
      have h3 : L.length = s.fs.length := by
        have h2 := congrArg List.length HD.out.fs
        rwa [List.length_map] at h2
      have h2 := HS.out.m
      omega
    have HLl := Lib.hid hLl
    clear hLl
    have hpm : p ≠ m := fun e => by
      have hap := HD.out.apart
      simp only [List.nodup_cons, List.mem_cons, not_or] at hap; exact hap.1.1 e
    have HP := Lib.hid hpm
    clear hd hg hf hown hkey hpm
    go_wp2_with (first
      | (at_delete; refine wpList_delete_own _ rfl _ _ 64 9 rfl 69 lawS Tryz.underlying64 ptrElem m L.length (ents L) rfl HW.out _ _ rfl HK.out ?_; intro w3 ho3 ht3; have O3 := Lib.hid ho3; have T3 := Lib.hid ht3; clear ho3 ht3)
      | fail)
    have CP := fun (k : Nat) (hk : k ≤ 1000000) (ho : Own m k ((ents L).del (.string a.data.toList)) w3) => place_c p m x.blk k s.call ((ents L).del (.string a.data.toList)) b w3 (by rw [(turned_only T3.out).block p (lt_of_block HD.out.heap) HP.out]; exact HD.out.heap) HP.out ho hb hk
    have CP1 := Lib.hid (CP _ (by have := HLl.out; omega) O3.out)
    clear CP
    go_wp2_with fail
    refine CP1.out.mono ?_; rintro e w4 ⟨rfl, ho4, g4⟩
    have O4 := Lib.hid ho4
    have G4 := Lib.hid ((turned_only T3.out).trans g4)
    clear ho4 g4 CP1
    go_wp2_with fail
    go_ret
    refine ⟨by rw [HR.out] <;> rfl, ?_⟩
    rw [HR.out]
    have hD4 := HD.out.moved HF.out O4.out G4.out
    refine ⟨B, ⟨ok_move (ok_call HS.out) HB24.out HG.out, m, _, hD4⟩, ?_, fun i hi => .inl hi⟩
    exact (HO.out.mono (fun i e => by subst e; exact HD.out.mine _ (by simp))).trans (G4.out.mono fun i e => by subst e; exact HD.out.mine _ (by simp))
theorem d_rename (p : Nat) (s : St) (a b : ByteArray) (ha : a.size ≤ 1000) (hma : rightB a.data.toList = true) (hb : b.size ≤ 1000) (hmb : rightB b.data.toList = true) (h1 : s.calls ≤ 1000000000000) (w : World) (B : Nat → Prop) (h : DiskA p s w B) :
    Calls Tryz.prog 72 #[.pointer (some ⟨p, 0, none⟩), .string a, .string b] w (Does w B (DiskA p (renameR s a.data.toList b.data.toList).1) (.int .i64 (renameR s a.data.toList b.data.toList).2)) :=
  (rename_c p s B a b w h ha hma hb hmb h1).mono fun e w' k => tells_does k
end Go.Proofs.YtjplkmmhjfpdaaaGreatDoor

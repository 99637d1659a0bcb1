/- In one text: FsNames, FsList, MgGot. -/
import Derived.Shelf.SlIter.Nil
import Derived.Shelf.SortM.Plain
import Derived.Shelf.SortM.SortNone
import Derived.Ground.GgzProg
import Derived.Ground.SlgmProg
import Derived.Sort.OwnSorted
import Derived.Test.YtjplkmmhjfpdaaaGreatDoorS11
import Derived.Test.YtjplkmmhjfpdaaaGreatDoorS10
import Derived.Test.YtjplkmmhjfpdaaaGreatDoorS12
import Derived.Test.YtjplkmmhjfpdaaaGreatDoorS00
import Derived.Test.YtjplkmmhjfpdaaaGreatDoorS16
/- The names of a map of files, sorted: the library's contracts of slices.Sorted and maps.Keys, laid at this program's numbers; and the contract of names. -/
namespace Go.Proofs.YtjplkmmhjfpdaaaGreatDoor
open Go.RowKit Go.Maps Go.Sort Go.Shelf FsPlain
set_option linter.unusedVariables false
set_option linter.unusedSimpArgs false
set_option maxRecDepth 20000
def keysLaid_ren : Go.Shelf.Ren := ⟨fun | 7 => 75 | 10 => 105 | n => n, fun | 23 => 64 | 26 => 9 | 3 => 69 | 28 => 111 | 0 => 0 | 27 => 110 | 33 => 68 | 4 => 4 | n => n, fun | n => n⟩
theorem keysLaid : Go.Proofs.SlLaysZ.n7 Tryz.prog keysLaid_ren := {
  mixed := by kernel_rfl
  f7 := ⟨Tryz.f75.name, by decide, Tryz.func75.trans (congrArg some (by kernel_rfl))⟩
  f10 := ⟨Tryz.f105.name, by decide, Tryz.func105.trans (congrArg some (by kernel_rfl))⟩
  t0 := Tryz.underlying0
  a0 := Tryz.isAgg0
  z0 := Tryz.sizeOf0
  v0 := Tryz.zeroValue0
  t4 := Tryz.underlying4
  a4 := Tryz.isAgg4
  z4 := Tryz.sizeOf4
  v4 := Tryz.zeroValue4
  t23 := Tryz.underlying64
  a23 := Tryz.isAgg64
  z23 := Tryz.sizeOf64
  v23 := Tryz.zeroValue64
  t26 := Tryz.underlying9
  a26 := Tryz.isAgg9
  z26 := Tryz.sizeOf9
  v26 := Tryz.zeroValue9
  t27 := Tryz.underlying110
  a27 := Tryz.isAgg110
  z27 := Tryz.sizeOf110
  v27 := Tryz.zeroValue110
  t28 := Tryz.underlying111
  a28 := Tryz.isAgg111
  z28 := Tryz.sizeOf111
  v28 := Tryz.zeroValue111
  t33 := Tryz.underlying68
  a33 := Tryz.isAgg68
  z33 := Tryz.sizeOf68
  v33 := Tryz.zeroValue68 }
def sortedLaid_ren : Go.Shelf.Ren := ⟨fun | 6 => 74 | 8 => 103 | 9 => 104 | 11 => 125 | 13 => 127 | 12 => 126 | 23 => 161 | 24 => 162 | 14 => 152 | 15 => 153 | 16 => 154 | 17 => 155 | 18 => 156 | 19 => 157 | 20 => 158 | 21 => 159 | 22 => 160 | 25 => 182 | 26 => 183 | 27 => 184 | 28 => 185 | 29 => 186 | 30 => 187 | 31 => 200 | n => n, fun | 26 => 9 | 28 => 111 | 24 => 22 | 0 => 0 | 3 => 3 | 37 => 124 | 48 => 35 | 50 => 192 | 4 => 4 | 40 => 185 | 39 => 184 | 45 => 136 | 5 => 5 | 9 => 9 | 51 => 213 | 55 => 217 | 57 => 229 | 58 => 230 | 33 => 68 | n => n, fun | n => n⟩
theorem sortedLaid : Go.Proofs.SlLaysZ.n6 Tryz.prog sortedLaid_ren := {
  mixed := by kernel_rfl
  f6 := ⟨Tryz.f74.name, by decide, Tryz.func74.trans (congrArg some (by kernel_rfl))⟩
  f8 := ⟨Tryz.f103.name, by decide, Tryz.func103.trans (congrArg some (by kernel_rfl))⟩
  f11 := ⟨Tryz.f125.name, by decide, Tryz.func125.trans (congrArg some (by kernel_rfl))⟩
  t0 := Tryz.underlying0
  a0 := Tryz.isAgg0
  z0 := Tryz.sizeOf0
  v0 := Tryz.zeroValue0
  t24 := Tryz.underlying22
  a24 := Tryz.isAgg22
  z24 := Tryz.sizeOf22
  v24 := Tryz.zeroValue22
  t26 := Tryz.underlying9
  a26 := Tryz.isAgg9
  z26 := Tryz.sizeOf9
  v26 := Tryz.zeroValue9
  t28 := Tryz.underlying111
  a28 := Tryz.isAgg111
  z28 := Tryz.sizeOf111
  v28 := Tryz.zeroValue111
  i26 := by kernel_rfl }
def sortLaid_ren : Go.Shelf.Ren := ⟨fun | 6 => 104 | 8 => 127 | 9 => 126 | 19 => 161 | 20 => 162 | 21 => 152 | 22 => 153 | 23 => 154 | 24 => 155 | 25 => 156 | 26 => 157 | 27 => 158 | 28 => 159 | 29 => 160 | 36 => 182 | 31 => 183 | 32 => 184 | 37 => 185 | 38 => 186 | 39 => 187 | 41 => 200 | n => n, fun | 27 => 22 | 29 => 9 | 3 => 3 | 32 => 124 | 26 => 22 | 0 => 0 | 44 => 35 | 46 => 192 | 4 => 4 | 36 => 185 | 35 => 184 | 41 => 136 | 5 => 5 | 9 => 9 | 53 => 213 | 57 => 217 | 63 => 229 | 64 => 230 | n => n, fun | n => n⟩
theorem sortLaid : Go.Proofs.SlLaysM.n6 Tryz.prog sortLaid_ren := {
  mixed := by kernel_rfl
  f6 := ⟨Tryz.f104.name, by decide, Tryz.func104.trans (congrArg some (by kernel_rfl))⟩
  f8 := Tryz.func127.trans (congrArg some (by kernel_rfl))
  f9 := ⟨Tryz.f126.name, by decide, Tryz.func126.trans (congrArg some (by kernel_rfl))⟩
  f19 := Tryz.func161.trans (congrArg some (by kernel_rfl))
  f20 := Tryz.func162.trans (congrArg some (by kernel_rfl))
  f21 := ⟨Tryz.f152.name, by decide, Tryz.func152.trans (congrArg some (by kernel_rfl))⟩
  f22 := ⟨Tryz.f153.name, by decide, Tryz.func153.trans (congrArg some (by kernel_rfl))⟩
  f23 := ⟨Tryz.f154.name, by decide, Tryz.func154.trans (congrArg some (by kernel_rfl))⟩
  f24 := ⟨Tryz.f155.name, by decide, Tryz.func155.trans (congrArg some (by kernel_rfl))⟩
  f25 := ⟨Tryz.f156.name, by decide, Tryz.func156.trans (congrArg some (by kernel_rfl))⟩
  f26 := ⟨Tryz.f157.name, by decide, Tryz.func157.trans (congrArg some (by kernel_rfl))⟩
  f27 := ⟨Tryz.f158.name, by decide, Tryz.func158.trans (congrArg some (by kernel_rfl))⟩
  f28 := ⟨Tryz.f159.name, by decide, Tryz.func159.trans (congrArg some (by kernel_rfl))⟩
  f29 := ⟨Tryz.f160.name, by decide, Tryz.func160.trans (congrArg some (by kernel_rfl))⟩
  f31 := Tryz.func183.trans (congrArg some (by kernel_rfl))
  f32 := Tryz.func184.trans (congrArg some (by kernel_rfl))
  f36 := ⟨Tryz.f182.name, by decide, Tryz.func182.trans (congrArg some (by kernel_rfl))⟩
  f37 := ⟨Tryz.f185.name, by decide, Tryz.func185.trans (congrArg some (by kernel_rfl))⟩
  f38 := ⟨Tryz.f186.name, by decide, Tryz.func186.trans (congrArg some (by kernel_rfl))⟩
  f39 := ⟨Tryz.f187.name, by decide, Tryz.func187.trans (congrArg some (by kernel_rfl))⟩
  f41 := ⟨Tryz.f200.name, by decide, Tryz.func200.trans (congrArg some (by kernel_rfl))⟩
  t0 := Tryz.underlying0
  a0 := Tryz.isAgg0
  z0 := Tryz.sizeOf0
  v0 := Tryz.zeroValue0
  t3 := Tryz.underlying3
  a3 := Tryz.isAgg3
  z3 := Tryz.sizeOf3
  v3 := Tryz.zeroValue3
  t4 := Tryz.underlying4
  a4 := Tryz.isAgg4
  z4 := Tryz.sizeOf4
  v4 := Tryz.zeroValue4
  t5 := Tryz.underlying5
  a5 := Tryz.isAgg5
  z5 := Tryz.sizeOf5
  v5 := Tryz.zeroValue5
  t9 := Tryz.underlying9
  a9 := Tryz.isAgg9
  z9 := Tryz.sizeOf9
  v9 := Tryz.zeroValue9
  t26 := Tryz.underlying22
  a26 := Tryz.isAgg22
  z26 := Tryz.sizeOf22
  v26 := Tryz.zeroValue22
  t27 := Tryz.underlying22
  a27 := Tryz.isAgg22
  z27 := Tryz.sizeOf22
  v27 := Tryz.zeroValue22
  t29 := Tryz.underlying9
  a29 := Tryz.isAgg9
  z29 := Tryz.sizeOf9
  v29 := Tryz.zeroValue9
  t32 := Tryz.underlying124
  a32 := Tryz.isAgg124
  z32 := Tryz.sizeOf124
  v32 := Tryz.zeroValue124
  t35 := Tryz.underlying184
  a35 := Tryz.isAgg184
  z35 := Tryz.sizeOf184
  v35 := Tryz.zeroValue184
  t36 := Tryz.underlying185
  a36 := Tryz.isAgg185
  z36 := Tryz.sizeOf185
  v36 := Tryz.zeroValue185
  t41 := Tryz.underlying136
  a41 := Tryz.isAgg136
  z41 := Tryz.sizeOf136
  v41 := Tryz.zeroValue136
  t44 := Tryz.underlying35
  a44 := Tryz.isAgg35
  z44 := Tryz.sizeOf35
  v44 := Tryz.zeroValue35
  t46 := Tryz.underlying192
  a46 := Tryz.isAgg192
  z46 := Tryz.sizeOf192
  v46 := Tryz.zeroValue192
  t53 := Tryz.underlying213
  a53 := Tryz.isAgg213
  z53 := Tryz.sizeOf213
  v53 := Tryz.zeroValue213
  t57 := Tryz.underlying217
  a57 := Tryz.isAgg217
  z57 := Tryz.sizeOf217
  v57 := Tryz.zeroValue217
  t63 := Tryz.underlying229
  a63 := Tryz.isAgg229
  z63 := Tryz.sizeOf229
  v63 := Tryz.zeroValue229
  t64 := Tryz.underlying230
  a64 := Tryz.isAgg230
  z64 := Tryz.sizeOf230
  v64 := Tryz.zeroValue230 }
theorem sorts_in (k : Nat) : AnyZ.SortsIn Tryz.prog sortedLaid_ren Fence.wide k :=
  ⟨fun blk off cap ss W hH hblk hsz => callsIn_wide.2 (AnyM.slices_Sort_string sortLaid blk off cap ss W hH hblk hsz),
   fun p cap W => callsIn_wide.2 (AnyM.slices_Sort_string_none sortLaid p cap W)⟩
theorem keys_in (mb : Option Nat) (W : World) : CallsIn Fence.wide 5 Tryz.prog 75 #[.map mb] W fun e w' => e = .returned (.func (.func 105) #[] #[.pointer (some ⟨W.heap.size, 0, none⟩)]) ∧ w' = W.alloc (.cells #[.map mb] 64) :=
  AnyZ.keys_in keysLaid Fence.wide 5 trivial rfl mb W
set_option maxRecDepth 20000 in
set_option maxHeartbeats 1000000 in
theorem sorted_in (b nn : Nat) (D0 : DataW Unit) (R : Value → Option (DataW Unit × List MemPlace)) (w : World) (hown : w.ownsMap Tryz.prog 9 R b nn D0) (hmax : Maps.size D0 ≤ maxLen) (hbytes : Maps.size D0 * 16 ≤ 140737488355328) :
    CallsIn Fence.wide 5 Tryz.prog 74 #[.func (.func 105) #[] #[.pointer (some ⟨w.heap.size, 0, none⟩)]] (w.alloc (.cells #[.map (some b)] 64)) fun e w' => ∃ (v : Value) (ss : List (List UInt8)), e = .returned v ∧ ss.Perm (strKeys D0) ∧
      w'.ownsRow (w.alloc (.cells #[.map (some b)] 64)).heap.size 9 1 v ss.length ((ss.mergeSort (fun x y => decide (x ≤ y))).map encStr) ∧ (v = .slice none 0 0 ↔ ss = []) ∧ Below (w.alloc (.cells #[.map (some b)] 64)).heap.size (w.alloc (.cells #[.map (some b)] 64)) w' := by
  have hbl := hown.lt
  have hseq : SeqGives Fence.wide 2 Tryz.prog 105 #[.pointer (some ⟨w.heap.size, 0, none⟩)] encStr (fun ss => ss.Perm (strKeys D0)) (Maps.size D0) (w.alloc (.cells #[.map (some b)] 64)) :=
    AnyZ.keys_gives (ρ := keysLaid_ren) { keysLaid with } Fence.wide _ trivial rfl (by omega) w.heap.size b nn D0 _ (by simp) (by simp) (by
      obtain ⟨es, clock, hb, Ft, hs, hD⟩ := hown
      exact ⟨es, clock, (Below.heap_alloc _ _ b hbl).trans hb, Ft, hs, hD⟩)
  exact AnyZ.sorted_in sortedLaid Fence.wide 5 trivial trivial trivial trivial rfl (by omega) (sorts_in _) (enters_of Tryz.func104 (by kernel_rfl) rfl) 105 #[.pointer (some ⟨w.heap.size, 0, none⟩)] trivial (enters_of Tryz.func105 (by kernel_rfl) rfl) _ _ hmax hbytes _ hseq
def Names (w : World) (l : List (List UInt8)) (e : Ending) (w' : World) : Prop :=
  ∃ v, e = .returned v ∧ w'.ownsRow w.heap.size 9 1 v l.length (l.map encStr) ∧ Gr w w'
theorem str_keys (L : List Pl) : strKeys (ents L) = L.map fun x => x.f.name := by
  unfold ents strKeys
  simp [Function.comp_def]
  intro a _; rfl
set_option maxRecDepth 20000 in
set_option maxHeartbeats 1000000 in
theorem names_c (p m : Nat) (s : St) (B : Nat → Prop) (L : List Pl) (w : World) (hs : s.ok) (h : DiskAt w p s B m L) :
    Calls Tryz.prog 50 #[.pointer (some ⟨p, 0, none⟩)] w (Names w ((L.map fun x => x.f.name).mergeSort (fun x y => decide (x ≤ y)))) := by
  have c1 : w.cell? ⟨p, 1, none⟩ = some (.map (some m)) := by rw [cells_at h.heap]; rfl
  have hLl : L.length = s.fs.length := by rw [← h.fs]; simp
  have hm200 := hs.m
  have CS := sorted_in m L.length (ents L) ptrElem w h.own (by rw [ents_size]; unfold maxLen; omega) (by rw [ents_size]; omega)
  have HS := Lib.hid (str_keys L)
  clear h hs hLl hm200
  refine (callsIn_wide (n := 6)).1 ?_
  have hfK : Fence.wide.fn 75 := trivial
  have hfS : Fence.wide.fn 74 := trivial
  refine callsIn_of_wp Tryz.func50 rfl trivial ?_ rfl
  simp only [Tryz.ntmps50, List.size_toArray, List.length_cons, List.length_nil, Nat.reduceAdd, Nat.reduceSub, Array.replicate_succ, Array.replicate_zero, List.push_toArray, List.append_toArray, List.nil_append, List.cons_append]
  gi_wp2_with (first
    | (gi_at_call 75; refine (keys_in _ _).mono ?_; rintro e w' ⟨rfl, rfl⟩)
    | (gi_at_call 74; refine CS.mono ?_; rintro e w' ⟨v, ss, rfl, hS, hrow, hnil, hb⟩))
  go_ret
  rw [HS.out] at hS
  have hm := mergeSort_of_perm hS
  have hlen : ss.length = (((L.map fun x => x.f.name).mergeSort (fun x y => decide (x ≤ y)))).length := by rw [List.length_mergeSort]; exact hS.length_eq
  refine ⟨v, rfl, ?_, ((Below.refl _ w).alloc (Nat.le_refl _) _).trans (hb.mono (by simp))⟩
  rw [← hlen, ← hm]
  exact ownsRow_base_a hrow (by simp)
end Go.Proofs.YtjplkmmhjfpdaaaGreatDoor
/- The program's disk: List. -/
namespace Go.Proofs.YtjplkmmhjfpdaaaGreatDoor
open Go.RowKit FsPlain
set_option linter.unusedVariables false
set_option linter.unusedSimpArgs false
set_option maxRecDepth 20000
def listN (s : St) : List ByteArray := ((s.fs.map fun f => f.name).mergeSort (fun x y => decide (x ≤ y))).map bs
theorem listN_length (s : St) : (listN s).length = s.fs.length := by unfold listN; rw [List.length_map, List.length_mergeSort, List.length_map]
def Listed (p : Nat) (s : St) (B : Nat → Prop) (w : World) (e : Ending) (w' : World) : Prop :=
  Next w p s.call B w' ∧ ((s.call.down = true ∧ e = .returned (.tuple #[.slice none 0 0, .int .i64 5])) ∨
    (s.call.down = false ∧ ∃ v, e = .returned (.tuple #[v, .int .i64 0]) ∧ w'.ownsRow w.heap.size 9 1 v (listN s).length (strs (listN s))))
set_option maxRecDepth 20000 in
set_option maxHeartbeats 1000000 in
theorem list_c (p : Nat) (s : St) (B : Nat → Prop) (w : World) (h : Disk w p s B) (h1 : s.calls ≤ 1000000000000) :
    Calls Tryz.prog 17 #[.pointer (some ⟨p, 0, none⟩)] w (Listed p s B w) := by
  obtain ⟨hs, m, L, hD⟩ := h
  have C := call_yes p m s w hD.heap (by have := hs.c0; omega) h1 (by have := hs.a0; omega) (by have := hs.a1; omega)
  have HS := Lib.hid hs
  have HD := Lib.hid hD
  clear hD hs
  have hc : s.call.code = if s.call.down = true then 5 else 0 := rfl
  cases hd : s.call.down
  · rw [hd] at hc
    rw [show s.call.code = 0 from hc] at C
    have HDN := Lib.hid hd
    clear hc hd
    go_enter Tryz.func17, Tryz.ntmps17
    go_wp2_with fail
    refine C.mono ?_; rintro e w2 ⟨rfl, k⟩
    have HK := Lib.hid k
    have D2 := Lib.hid (HD.out.called k)
    have N2 := Lib.hid (next_called HS.out D2.out k.2)
    have CN := Lib.hid (names_c p m s.call B L w2 (ok_call HS.out) D2.out)
    clear k C
    go_wp2_with fail
    refine (CN.out).mono ?_; rintro e w3 ⟨v, rfl, ho, g⟩
    have HO := Lib.hid ho
    have G := Lib.hid g
    have sh : ∃ a n c, v = .slice a n c := by
      rcases ho.2 with ⟨e, _⟩ | ⟨g, cap, cur, e, _⟩
      · exact ⟨none, 0, 0, e⟩
      · exact ⟨_, _, _, e⟩
    obtain ⟨a, n, c, rfl⟩ := sh
    clear ho g
    go_wp2_with fail
    go_ret2
    refine ⟨?_, .inr ⟨HDN.out, _, rfl, ?_⟩⟩
    · obtain ⟨B', hd, ho, hn⟩ := N2.out
      exact ⟨B', hd.only (Only.ofGr (B := fun _ => False) G.out) (fun _ _ e => e), ho.trans (Only.ofGr G.out), hn⟩
    · have hfs : (L.map fun x => x.f.name) = s.fs.map fun f => f.name := by
        have h := D2.out.fs
        have h2 := congrArg (List.map fun f : F => f.name) h
        rw [List.map_map] at h2
        exact h2
      have ho := HO.out
      rw [hfs] at ho
      have e1 : strs (listN s) = ((s.fs.map fun f => f.name).mergeSort (fun x y => decide (x ≤ y))).map encStr := by
        unfold strs listN
        rw [List.map_map]
        rfl
      have e2 : (listN s).length = ((s.fs.map fun f => f.name).mergeSort (fun x y => decide (x ≤ y))).length := by unfold listN; rw [List.length_map]
      rw [e1, e2]
      have hws : w.heap.size ≤ w2.heap.size := HK.out.2.size
      refine ⟨ho.1, ho.2.imp id ?_⟩
      rintro ⟨g, cap, cur, h1, h2, h3⟩
      exact ⟨g, cap, cur, h1, Nat.le_trans hws h2, h3⟩
  · rw [hd] at hc
    rw [show s.call.code = 5 from hc] at C
    have HDN := Lib.hid hd
    clear hc hd
    go_enter Tryz.func17, Tryz.ntmps17
    go_wp2_with fail
    refine C.mono ?_; rintro e w2 ⟨rfl, k⟩
    have N2 := Lib.hid (next_called HS.out (HD.out.called k) k.2)
    clear k C
    go_wp2_with fail
    go_ret2
    exact ⟨N2.out, .inl ⟨HDN.out, rfl⟩⟩
end Go.Proofs.YtjplkmmhjfpdaaaGreatDoor
/- What Merge leaves, as parts. -/
namespace Go.Proofs.YtjplkmmhjfpdaaaGreatDoor
open Go.RowKit FsPlain CrcPlain OctPlain FramePlain RecPlain RdPlain RnPlain WrPlain
set_option linter.unusedVariables false
set_option maxRecDepth 20000
def MergeGot (D P : Nat) (s : St) (b : Bu) (F : List (ByteArray × ByteArray)) (out : ByteArray) (size : Int) (u : Bool) (M : List Asn) (w : World) (B : Nat → Prop) (e : Ending) (w' : World) : Prop :=
  ∃ s' b' k c er, e = .returned (.tuple #[.agg #[.int .i64 k, .int .u32 c], .int .i64 er]) ∧ MergeR s b F out size u s' b' k c er ∧ ∃ B', stars ([DiskA D s', BuA P b'] ++ M) w' B' ∧ Nx B w B' w'
def DM (D P : Nat) (s : St) (b : Bu) (M : List Asn) (w wr : World) : Prop := ∃ B, stars ([DiskA D s, BuA P b] ++ M) wr B ∧ Nx (fun _ => False) w B wr
theorem frs_dm (D P : Nat) (s : St) (b : Bu) {M : List Asn} (hM : Frs M) : Frs ([DiskA D s, BuA P b] ++ M) := ⟨fr_disk _ _, fr_bu _ _, hM⟩
theorem DM.gr {D P : Nat} {s : St} {b : Bu} {M : List Asn} {w wr u : World} (hM : Frs M) (h : DM D P s b M w wr) (g : Gr wr u) : DM D P s b M w u := by
  obtain ⟨B, k, n⟩ := h
  exact ⟨B, stars_gr (frs_dm D P s b hM) k g, n.trans (Nx.gr g)⟩
theorem DM.end {D P : Nat} {s : St} {b : Bu} {M : List Asn} {w wr : World} (h : DM D P s b M w wr) : Gr w wr := by
  obtain ⟨B, _, n⟩ := h
  exact nx_gr n
theorem DM.bud {D P : Nat} {s : St} {b : Bu} {M : List Asn} {w wr : World} (h : DM D P s b M w wr) : BAt wr P b := by
  obtain ⟨B, k, _⟩ := h
  obtain ⟨_, hb, _⟩ := part_at 1 rfl k
  exact hb.at
theorem DM.part {D P : Nat} {s : St} {b : Bu} {M : List Asn} {w wr : World} (h : DM D P s b M w wr) (i : Nat) {Q : Asn} (hi : M[i]? = some Q) : ∃ B1, Q wr B1 := by
  obtain ⟨B, k, _⟩ := h
  obtain ⟨B1, hq, _⟩ := part_at (L := [DiskA D s, BuA P b] ++ M) (i + 2) hi k
  exact ⟨B1, hq⟩
theorem DM.row {D P : Nat} {s : St} {b : Bu} {M : List Asn} {w wr : World} (h : DM D P s b M w wr) (i : Nat) {v : Value} {l : List ByteArray} (hi : M[i]? = some (RowA v l)) : Lies wr v l := by
  obtain ⟨_, hr⟩ := h.part i hi
  exact row_lies hr
theorem DM.blk {D P : Nat} {s : St} {b : Bu} {M : List Asn} {w wr : World} (h : DM D P s b M w wr) (i : Nat) {X : Nat} {c : Array Value} {T : TypeId} (hi : M[i]? = some (Blk X c T)) (j : Nat) : wr.cell? ⟨X, j, none⟩ = c[j]? := by
  obtain ⟨_, hr⟩ := h.part i hi
  exact cells_at hr.1 j
theorem DM.new {D P : Nat} {s : St} {b : Bu} {M : List Asn} {w wr u : World} {Q : Asn} {B' : Nat → Prop} (hM : Frs M) (h : DM D P s b M w wr) (g : Gr wr u) (q : Q u B') (hn : ∀ x, B' x → wr.heap.size ≤ x) : DM D P s b (Q :: M) w u := by
  obtain ⟨B, k, n⟩ := h
  obtain ⟨B3, k3, n3⟩ := part_new (P := Q) (frs_dm D P s b hM) k g q hn
  exact ⟨B3, stars_perm (List.perm_middle (l₁ := [DiskA D s, BuA P b])).symm k3, n.trans n3⟩
theorem DM.blk_new {D P : Nat} {s : St} {b : Bu} {M : List Asn} {w wr u : World} (hM : Frs M) (h : DM D P s b M w wr) (c : Array Value) (T : TypeId) (hu : u = wr.alloc (.cells c T)) : DM D P s b (Blk wr.heap.size c T :: M) w u := by
  subst hu
  exact h.new (B' := fun b => b = wr.heap.size) hM (Below.alloc (Below.refl _ _) (Nat.le_refl _) _) ⟨heap_alloc_new wr _, fun _ => Iff.rfl⟩ (fun b hb => by rw [hb]; exact Nat.le_refl _)
theorem row_of_own {w u : World} {v : Value} {l : List ByteArray} (h : u.ownsRow w.heap.size 9 1 v l.length (strs l)) : ∃ B, RowA v l u B ∧ ∀ x, B x → w.heap.size ≤ x := by
  refine ⟨fun x => v.ownBlock = some x, ⟨⟨h.1, h.2.imp id fun ⟨g, cap, cur, h1, h2, h3⟩ => ⟨g, cap, cur, h1, Nat.zero_le _, h3⟩⟩, fun b hb => hb, fun b hb => (h.lt b hb).2⟩, fun x hx => (h.lt x hx).1⟩
theorem DM.row_new {D P : Nat} {s : St} {b : Bu} {M : List Asn} {w wr u : World} (hM : Frs M) (h : DM D P s b M w wr) {v : Value} {l : List ByteArray} (g : Gr wr u) (ho : u.ownsRow wr.heap.size 9 1 v l.length (strs l)) : DM D P s b (RowA v l :: M) w u := by
  obtain ⟨B', k, n⟩ := row_of_own ho
  exact h.new hM g k n
theorem DM.disk {D P : Nat} {s s' : St} {b : Bu} {M : List Asn} {w wr : World} {f : FuncId} {args : Array Value} {x : Value} (hM : Frs M) (h : DM D P s b M w wr) (k : ∀ B, DiskA D s wr B → Calls Tryz.prog f args wr (Does wr B (DiskA D s') x)) :
    Calls Tryz.prog f args wr fun e w' => e = .returned x ∧ DM D P s' b M w w' := by
  obtain ⟨B, hs, n⟩ := h
  refine (does_at (L := [DiskA D s, BuA P b] ++ M) 0 rfl (frs_dm D P s b hM) hs k).mono ?_
  rintro e w' ⟨he, B', h', n'⟩
  exact ⟨he, B', h', n.trans n'⟩
theorem DM.clear {D P : Nat} {s s' : St} {b : Bu} {M : List Asn} {w wr : World} {f : FuncId} {args : Array Value} {x : Value} (h : DM D P s b M w wr) (j : ∀ B, stars ([DiskA D s] ++ (BuA P b :: M)) wr B → Calls Tryz.prog f args wr (Does wr B (stars ([DiskA D s'] ++ (BuA P b :: M))) x)) :
    Calls Tryz.prog f args wr fun e w' => e = .returned x ∧ DM D P s' b M w w' := by
  obtain ⟨B, hs, n⟩ := h
  refine (j B hs).mono ?_
  rintro e w' ⟨he, B', h', n'⟩
  exact ⟨he, B', h', n.trans n'⟩
theorem DM.used {D P : Nat} {s : St} {b : Bu} {M : List Asn} {w wr : World} (h : DM D P s b M w wr) : Calls Tryz.prog 38 #[.pointer (some ⟨D, 0, none⟩)] wr fun e w' => e = .returned (.int .i64 (used s.fs : Int)) ∧ Gr wr w' := by
  obtain ⟨B, hs, _⟩ := h
  obtain ⟨B1, ⟨hok, m, L, hD⟩, _⟩ := part_at 0 rfl hs
  exact used_c D m s B1 L wr hok hD
theorem DM.merge {D P : Nat} {s : St} {b : Bu} {F : List (ByteArray × ByteArray)} {out : ByteArray} {size : Int} {u : Bool} {M : List Asn} {w wr : World} {f : FuncId} {args : Array Value} (h : DM D P s b M w wr) (k : ∀ B, stars ([DiskA D s, BuA P b] ++ M) wr B → Calls Tryz.prog f args wr (MergeGot D P s b F out size u M wr B)) :
    Calls Tryz.prog f args wr fun e w' => ∃ s' b' k c er, e = .returned (.tuple #[.agg #[.int .i64 k, .int .u32 c], .int .i64 er]) ∧ MergeR s b F out size u s' b' k c er ∧ DM D P s' b' M w w' := by
  obtain ⟨B, hs, n⟩ := h
  refine (k B hs).mono ?_
  rintro e w' ⟨s', b', k1, c, er, he, hm, B', h', n'⟩
  exact ⟨s', b', k1, c, er, he, hm, B', h', n.trans n'⟩
theorem DM.list {D P : Nat} {s : St} {b : Bu} {M : List Asn} {w wr : World} (hM : Frs M) (h : DM D P s b M w wr) (hu : s.down = false) (ha : s.ahead = -1) (hc : s.calls ≤ 1000000000000) :
    Calls Tryz.prog 17 #[.pointer (some ⟨D, 0, none⟩)] wr fun e w' => ∃ a cc, e = .returned (.tuple #[.slice a s.fs.length cc, .int .i64 0]) ∧ DM D P s.call b M w w' := by
  obtain ⟨B, hs, n⟩ := h
  obtain ⟨B1, B2, h1, h2, ap, eq⟩ := hs
  refine (list_c D s B1 wr h1 hc).mono ?_
  rintro e v' ⟨⟨B1', hd, ho, hn⟩, hres⟩
  have hdn : s.call.down = false := ((quiet_call s).calm hu ha).1
  obtain ⟨B3, k3, n3⟩ : ∃ B', stars ([DiskA D s.call, BuA P b] ++ M) v' B' ∧ Nx B wr B' v' :=
    star_of (fr_stars (L := BuA P b :: M) ⟨fr_bu _ _, hM⟩) h2 ap eq (show DiskA D s.call v' B1' from hd) ⟨ho, hn⟩
  rcases hres with ⟨hd1, _⟩ | ⟨_, x, rfl, hown⟩
  · rw [hdn] at hd1; cases hd1
  · rw [listN_length] at hown
    have : ∃ a c, x = .slice a s.fs.length c := by
      rcases hown.2 with ⟨h1, h2⟩ | ⟨g, cap, cur, h1, _⟩
      · refine ⟨none, 0, ?_⟩
        rw [h1]
        have : s.fs.length = 0 := h2
        rw [this]
      · exact ⟨_, cap, h1⟩
    obtain ⟨a, c, rfl⟩ := this
    exact ⟨a, c, rfl, B3, k3, n.trans n3⟩
end Go.Proofs.YtjplkmmhjfpdaaaGreatDoor

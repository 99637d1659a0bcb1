/- In one text: Row, RecBlocks, RecParse, RecRparse, RecLen, RecAwake, RecBoth, MgLaw, MgJoin, FsNames, FsList, MgGot. -/
import Derived.Test.YtjplkmmhjfpdaaaGreatDoorQ09
import Derived.Test.YtjplkmmhjfpdaaaGreatDoorQ00
import Derived.Maps.AppendAt
import Derived.Test.YtjplkmmhjfpdaaaGreatDoorQ06
import Derived.Test.YtjplkmmhjfpdaaaGreatDoorQ15
import Derived.RangeFuncBox
import Derived.Deep.RegionHeld3
import Derived.Test.YtjplkmmhjfpdaaaGreatDoorQ04
import Derived.Test.YtjplkmmhjfpdaaaGreatDoorQ07
import Derived.Test.YtjplkmmhjfpdaaaGreatDoorQ14
import Derived.Test.YtjplkmmhjfpdaaaGreatDoorQ12
import Derived.Shelf.SlIter.Nil
import Derived.Shelf.SortM.Plain
import Derived.Shelf.SortM.SortNone
import Derived.Ground.GgzProg
import Derived.Ground.SlgmProg
import Derived.Sort.OwnSorted
import Derived.Test.YtjplkmmhjfpdaaaGreatDoorQ10
import Derived.Test.YtjplkmmhjfpdaaaGreatDoorQ11
/- A row of one's own as a part of a world; what an append makes of it. -/
namespace Go.Proofs.YtjplkmmhjfpdaaaGreatDoor
open Go.RowKit
set_option linter.unusedVariables false
set_option linter.unusedSimpArgs false
set_option maxRecDepth 20000
def RowE (E : TypeId) (z : Nat) (v : Value) (n : Nat) (xs : List Value) : Asn := fun w B => w.ownsRow 0 E z v n xs ∧ (∀ b, v.ownBlock = some b → B b) ∧ ∀ b, B b → b < w.heap.size
theorem fr_rowE (E : TypeId) (z : Nat) (v : Value) (n : Nat) (xs : List Value) : Fr (RowE E z v n xs) where
  fr := fun {w w' B C} ⟨h, hB, hl⟩ o d => by
    refine ⟨⟨h.1, ?_⟩, hB, fun b hb => Nat.lt_of_lt_of_le (hl b hb) o.size⟩
    rcases h.2 with h3 | ⟨g, cap, cur, rfl, h4, h5, h6⟩
    · exact .inl h3
    · exact .inr ⟨g, cap, cur, rfl, h4, by rw [o.block _ (lt_of_block h5) (d g (hB g rfl))]; exact h5, h6⟩
  lo := fun ⟨_, _, hl⟩ => hl
theorem rowE_nil (E : TypeId) (z : Nat) (w : World) : RowE E z (.slice none 0 0) 0 [] w (fun _ => False) := ⟨World.ownsRow_nil _ _ _ _, (fun b hb => by cases hb), fun b hb => hb.elim⟩
theorem rowE_shape {E : TypeId} {z : Nat} {v : Value} {n : Nat} {xs : List Value} {w : World} {B : Nat → Prop} (h : RowE E z v n xs w B) : ∃ a c, v = .slice a n c ∧ n ≤ c ∧ c ≤ maxLen ∧ (a = none → n = 0) := by
  rcases h.1.2 with ⟨rfl, rfl⟩ | ⟨g, cap, cur, rfl, _, _, h1, h2, _⟩
  · exact ⟨none, 0, rfl, Nat.le_refl _, Nat.zero_le _, fun _ => rfl⟩
  · exact ⟨_, cap, rfl, h1, h2, fun h => by cases h⟩
theorem rowE_next {E : TypeId} {z : Nat} {v v' : Value} {n n' : Nat} {xs xs' : List Value} {w w1 w' : World} {B : Nat → Prop} (h : RowE E z v n xs w B) (g : Gr w w1) (hown : w'.ownsRow 0 E z v' n' xs') (hg : w1.grownBy w' v.ownBlock) (hat : v'.ownBlock = v.ownBlock ∨ v'.ownBlock = some w1.heap.size) :
    ∃ B', RowE E z v' n' xs' w' B' ∧ Nx B w B' w' := by
  obtain ⟨_, hB, hl⟩ := h
  refine ⟨fun b => v'.ownBlock = some b, ⟨hown, fun b hb => hb, fun b hb => (hown.lt b hb).2⟩, ?_, fun b hb => ?_⟩
  · exact (Only.ofGr g).trans (Only.grown hg hB)
  · rcases hat with h1 | h1
    · rw [h1] at hb; exact .inl (hB b hb)
    · rw [h1] at hb; simp only [Option.some.injEq] at hb; rw [← hb]; exact .inr g.size
def RowA (v : Value) (l : List ByteArray) : Asn := RowE 9 1 v l.length (strs l)
theorem fr_row (v : Value) (l : List ByteArray) : Fr (RowA v l) := fr_rowE _ _ _ _ _
theorem row_nil (w : World) : RowA (.slice none 0 0) [] w (fun _ => False) := rowE_nil _ _ w
theorem row_lies {v : Value} {l : List ByteArray} {w : World} {B : Nat → Prop} (h : RowA v l w B) : Lies w v l := lies_own h.1
theorem row_app {v v' : Value} {l : List ByteArray} {r : ByteArray} {w w1 w' : World} {B : Nat → Prop} (h : RowA v l w B) (g : Gr w w1) (hown : w'.ownsRow 0 9 1 v' (l.length + 1) (strs l ++ [.string r])) (hg : w1.grownBy w' v.ownBlock) (hat : v'.ownBlock = v.ownBlock ∨ v'.ownBlock = some w1.heap.size) :
    ∃ B', RowA v' (l ++ [r]) w' B' ∧ Nx B w B' w' := by
  have := rowE_next h g hown hg hat
  unfold RowA
  rwa [List.length_append, List.length_singleton, show strs (l ++ [r]) = strs l ++ [.string r] by simp [strs]]
theorem infoS : (Tryz.prog.info? 9).map (fun i => (i.zero, i.size, i.bytes)) = some (some (.string ⟨#[]⟩), 1, 16) := by kernel_rfl
theorem blk_next {p i : Nat} {c : Array Value} {T : TypeId} {w : World} {B : Nat → Prop} (h : Blk p c T w B) (u : Value) : ∃ B', Blk p (c.setIfInBounds i u) T (w.setCell ⟨p, i, none⟩ u) B' ∧ Nx B w B' (w.setCell ⟨p, i, none⟩ u) :=
  ⟨B, ⟨cells_set h.1 i u, h.2⟩, Nx.of (Only.cell1 _ _ _ _) fun b hb => (h.2 b).2 hb⟩
end Go.Proofs.YtjplkmmhjfpdaaaGreatDoor
/- The iterator of a file's blocks; what stands behind a head. -/
namespace Go.Proofs.YtjplkmmhjfpdaaaGreatDoor
open Go.RowKit Go.Shelf CrcPlain OctPlain FramePlain RecPlain
set_option linter.unusedVariables false
set_option linter.unusedSimpArgs false
set_option maxRecDepth 20000
attribute [local go_sem] Oper.semAt_some
end Go.Proofs.YtjplkmmhjfpdaaaGreatDoor
/- The contract of Parse. -/
namespace Go.Proofs.YtjplkmmhjfpdaaaGreatDoor
open Go.RowKit Go.Shelf CrcPlain OctPlain FramePlain RecPlain
set_option linter.unusedVariables false
set_option linter.unusedSimpArgs false
set_option maxRecDepth 20000
attribute [local go_sem] Oper.semAt_some
structure ParSt (w : World) (b : Nat) (acc : List ByteArray) (r : ByteArray) (lv : Value) (W : World) : Prop where
  p5 : W.heap[w.heap.size]? = some (.cells #[.int .i64 0, .int .u32 0] 37 (0, 0))
  p7 : Boxed W b 9 (.string r)
  p9 : Boxed W (b + 1) 22 lv
  row : W.ownsRow (b + 4) 9 1 lv acc.length (strs acc)
  bel : Below w.heap.size w W
  lo : w.heap.size + 1 ≤ b
theorem ownsRow_grown {W W' : World} {row : Option Nat} {base k : Nat} {e : TypeId} {sz : Nat} {v : Value} {xs : List Value} (h : W.ownsRow base e sz v k xs) (hg : W.grownBy W' row) (hr : ∀ r, row = some r → ∃ o : Obj, W.heap[r]? = some o ∧ o.isCells = false) : W'.ownsRow base e sz v k xs := by
  refine h.kept hg ?_
  rcases h.2 with ⟨rfl, _⟩ | ⟨g, cap, cur, rfl, _, hgb, _⟩
  · exact .inl rfl
  · refine .inr fun e => ?_
    obtain ⟨o, h1, h2⟩ := hr g (by simpa [Value.ownBlock] using e.symm)
    rw [hgb] at h1; cases h1; cases h2
theorem ParSt.grown {w : World} {b : Nat} {acc : List ByteArray} {r : ByteArray} {lv : Value} {W W' : World} {row : Option Nat} (h : ParSt w b acc r lv W) (hg : W.grownBy W' row) (hr : ∀ r, row = some r → w.heap.size ≤ r ∧ ∃ o : Obj, W.heap[r]? = some o ∧ o.isCells = false) : ParSt w b acc r lv W' :=
  ⟨grown_cells hg (fun r e => (hr r e).2) h.p5, grown_cells hg (fun r e => (hr r e).2) h.p7, grown_cells hg (fun r e => (hr r e).2) h.p9, ownsRow_grown h.row hg (fun r e => (hr r e).2), h.bel.grown hg h.bel.size (fun k e => (hr k e).1), h.lo⟩
def PBoxes (b : Nat) (W : World) : Prop := (∃ c, W.heap[b + 3]? = some (.cells c 9 (0, 0))) ∧ ∃ c, W.heap[b + 2]? = some (.cells c 3 (0, 0))
theorem PBoxes.grown {b : Nat} {W W' : World} {row : Option Nat} (h : PBoxes b W) (hg : W.grownBy W' row) (hr : ∀ r, row = some r → ∃ o : Obj, W.heap[r]? = some o ∧ o.isCells = false) : PBoxes b W' :=
  ⟨h.1.imp fun _ h => grown_cells hg hr h, h.2.imp fun _ h => grown_cells hg hr h⟩
theorem row_ne {W : World} {base k n : Nat} {e : TypeId} {sz : Nat} {v : Value} {xs : List Value} (h : W.ownsRow base e sz v n xs) (hk : k < base) : some k ≠ v.ownBlock := fun e => by have := (h.lt k e.symm).1; omega
theorem blks_ge {size : Int} : ∀ ps : List (List ByteArray), (∀ p ∈ ps, blkB size p = true) → ps.flatten.length ≤ (blks ps).length
  | [], _ => by simp [blks_nil]
  | p :: ps, h => by
    have h2 := blks_ge ps fun q hq => h q (by simp [hq])
    obtain ⟨n, hn, _, _, h5, _⟩ := blk_cl (h p (by simp))
    obtain ⟨h1, _, _⟩ := blk_parts (h p (by simp))
    simp only [sizeB, decide_eq_true_eq] at h1
    have h6 : (p.length : Int) ≤ p.length * size := by
      have := Int.mul_le_mul_of_nonneg_left h1.1 (Int.natCast_nonneg p.length)
      omega
    rw [blks_cons, List.length_append, data_length, List.flatten_cons, List.length_append]
    omega
end Go.Proofs.YtjplkmmhjfpdaaaGreatDoor
/- The contract of the document's own Parse. -/
namespace Go.Proofs.YtjplkmmhjfpdaaaGreatDoor
open Go.RowKit CrcPlain OctPlain FramePlain RecPlain
set_option linter.unusedVariables false
set_option linter.unusedSimpArgs false
set_option maxRecDepth 20000
theorem file_head {size : Int} {s : ByteArray} {l : List ByteArray} (h : IsFile size s l) : s.data.toList = (headS size).data.toList ++ s.data.toList.drop 11 ∧ 28 ≤ s.size := by
  have hl := headS_length size
  have e := h.2
  unfold layL at e
  refine ⟨?_, ?_⟩
  · have : s.data.toList.drop 11 = blks (ups l (cnt4 l)) ++ endL l := by rw [e, List.drop_append_of_le_length (by omega), List.drop_of_length_le (by omega), List.nil_append]
    rw [this, ← e]
  · have := congrArg List.length e
    rw [data_length, List.length_append, List.length_append, hl, endL_length] at this
    omega
theorem extract_drop (s : ByteArray) (k : Nat) : (s.extract k s.size).data.toList = s.data.toList.drop k := by
  rw [extract_data, List.take_of_length_le (by rw [data_length]; omega)]
theorem walk_end {size : Int} {s : ByteArray} {ps : List (List ByteArray)} {k : Nat} (hd : s.data.toList.drop 11 = blks ps ++ s.data.toList.drop k) (hp : ∀ p ∈ ps, blkB size p = true) (hg : gB size (s.extract k s.size) = false) (l : List ByteArray) (h : IsFile size s l) :
    ps.flatten = l ∧ s.data.toList.drop k = endL l := by
  obtain ⟨h1, _⟩ := file_head h
  rw [hd, ← extract_drop s k] at h1
  have := file_not hp h1 (.inl hg) h
  rw [extract_drop] at this
  exact this
theorem ended {size : Int} {s : ByteArray} {ps : List (List ByteArray)} {k : Nat} (hd : s.data.toList.drop 11 = blks ps ++ s.data.toList.drop k) (hp : ∀ p ∈ ps, blkB size p = true) (hg : gB size (s.extract k s.size) = false) :
    (layB size ps.flatten = true ∧ layR size ps.flatten = s → IsFile size s ps.flatten) ∧ (¬ (layB size ps.flatten = true ∧ layR size ps.flatten = s) → ∀ l, ¬ IsFile size s l) := by
  refine ⟨fun h => ⟨h.1, ?_⟩, fun h l hi => ?_⟩
  · have := h.2
    rw [layR_yes h.1] at this
    rw [← this, bs_data]
  · obtain ⟨e, _⟩ := walk_end hd hp hg l hi
    subst e
    refine h ⟨hi.1, ?_⟩
    rw [layR_yes hi.1]
    apply ext_toList
    rw [bs_data]
    exact hi.2.symm
end Go.Proofs.YtjplkmmhjfpdaaaGreatDoor
/- Contracts of both Lengths. -/
namespace Go.Proofs.YtjplkmmhjfpdaaaGreatDoor
open Go.RowKit CrcPlain OctPlain FramePlain RecPlain
set_option linter.unusedVariables false
set_option linter.unusedSimpArgs false
set_option maxRecDepth 20000
end Go.Proofs.YtjplkmmhjfpdaaaGreatDoor
/- The law's Few; Parse of a file and of none; the chapter's example. -/
namespace Go.Proofs.YtjplkmmhjfpdaaaGreatDoor
open Go.RowKit CrcPlain OctPlain FramePlain RecPlain
set_option linter.unusedVariables false
set_option linter.unusedSimpArgs false
set_option maxRecDepth 20000
theorem lay_file {size : Int} {L : List ByteArray} (h : layB size L = true) : IsFile size (layR size L) L := ⟨h, by rw [layR_yes h, bs_data]⟩
theorem lay_size {size : Int} {L : List ByteArray} (h : layB size L = true) : ((layR size L).size : Int) = 28 + 5 * (((L.length : Int) + 3) / 4) + L.length * size := by
  have hs := h
  unfold layB at hs
  rw [Bool.and_eq_true] at hs
  have h1 := hs.1
  simp only [sizeB, decide_eq_true_eq] at h1
  obtain ⟨m, rfl⟩ : ∃ m : Nat, size = m := ⟨size.toNat, by omega⟩
  rw [layR_yes h, bs_size, layL_length h]
  unfold cnt4
  rw [Int.natCast_add, Int.natCast_add, Int.natCast_mul]
  omega
end Go.Proofs.YtjplkmmhjfpdaaaGreatDoor
/- Both Parses, as one: what they come to of any bytes. -/
namespace Go.Proofs.YtjplkmmhjfpdaaaGreatDoor
open Go.RowKit CrcPlain OctPlain FramePlain RecPlain
set_option linter.unusedVariables false
set_option linter.unusedSimpArgs false
set_option maxRecDepth 20000
theorem file_len {size : Int} {s : ByteArray} {L : List ByteArray} (h : IsFile size s L) : L.length ≤ s.size := by
  have h1 := blks_ge _ (ups_blk h.1)
  rw [ups_all] at h1
  have h2 := congrArg List.length h.2
  unfold layL at h2
  rw [data_length, List.length_append, List.length_append] at h2
  omega
end Go.Proofs.YtjplkmmhjfpdaaaGreatDoor
/- The law's own helpers: whether lists are few, a disk with their files, a look at a file. -/
namespace Go.Proofs.YtjplkmmhjfpdaaaGreatDoor
open Go.RowKit FsPlain CrcPlain OctPlain FramePlain RecPlain RdPlain RnPlain WrPlain
set_option linter.unusedVariables false
set_option linter.unusedSimpArgs false
set_option maxRecDepth 20000
end Go.Proofs.YtjplkmmhjfpdaaaGreatDoor
/- Plain facts: what the law's merge comes to. -/
namespace Go.Proofs.YtjplkmmhjfpdaaaGreatDoor
open Go.RowKit FsPlain CrcPlain OctPlain FramePlain RecPlain RdPlain RnPlain WrPlain
set_option linter.unusedVariables false
set_option linter.unusedSimpArgs false
set_option maxRecDepth 20000
end Go.Proofs.YtjplkmmhjfpdaaaGreatDoor
/- The names of a map of files, sorted: the library's contracts of slices.Sorted and maps.Keys, laid at this program's numbers; and the contract of names. -/
namespace Go.Proofs.YtjplkmmhjfpdaaaGreatDoor
open Go.RowKit Go.Maps Go.Sort Go.Shelf FsPlain
set_option linter.unusedVariables false
set_option linter.unusedSimpArgs false
set_option maxRecDepth 20000
def keysLaid_ren : Go.Shelf.Ren := ⟨fun | 7 => 75 | 10 => 105 | n => n, fun | 23 => 64 | 26 => 9 | 3 => 69 | 28 => 111 | 0 => 0 | 27 => 110 | 33 => 68 | 4 => 4 | n => n, fun | n => n⟩
theorem keysLaid : Go.Proofs.SlLaysZ.n7 Tryz.prog keysLaid_ren := {
  mixed := by kernel_rfl
  f7 := ⟨Tryz.f75.name, by decide, Tryz.func75.trans (congrArg some (by kernel_rfl))⟩
  f10 := ⟨Tryz.f105.name, by decide, Tryz.func105.trans (congrArg some (by kernel_rfl))⟩
  t0 := Tryz.underlying0
  a0 := Tryz.isAgg0
  z0 := Tryz.sizeOf0
  v0 := Tryz.zeroValue0
  t4 := Tryz.underlying4
  a4 := Tryz.isAgg4
  z4 := Tryz.sizeOf4
  v4 := Tryz.zeroValue4
  t23 := Tryz.underlying64
  a23 := Tryz.isAgg64
  z23 := Tryz.sizeOf64
  v23 := Tryz.zeroValue64
  t26 := Tryz.underlying9
  a26 := Tryz.isAgg9
  z26 := Tryz.sizeOf9
  v26 := Tryz.zeroValue9
  t27 := Tryz.underlying110
  a27 := Tryz.isAgg110
  z27 := Tryz.sizeOf110
  v27 := Tryz.zeroValue110
  t28 := Tryz.underlying111
  a28 := Tryz.isAgg111
  z28 := Tryz.sizeOf111
  v28 := Tryz.zeroValue111
  t33 := Tryz.underlying68
  a33 := Tryz.isAgg68
  z33 := Tryz.sizeOf68
  v33 := Tryz.zeroValue68 }
def sortedLaid_ren : Go.Shelf.Ren := ⟨fun | 6 => 74 | 8 => 103 | 9 => 104 | 11 => 125 | 13 => 127 | 12 => 126 | 23 => 161 | 24 => 162 | 14 => 152 | 15 => 153 | 16 => 154 | 17 => 155 | 18 => 156 | 19 => 157 | 20 => 158 | 21 => 159 | 22 => 160 | 25 => 182 | 26 => 183 | 27 => 184 | 28 => 185 | 29 => 186 | 30 => 187 | 31 => 200 | n => n, fun | 26 => 9 | 28 => 111 | 24 => 22 | 0 => 0 | 3 => 3 | 37 => 124 | 48 => 35 | 50 => 192 | 4 => 4 | 40 => 185 | 39 => 184 | 45 => 136 | 5 => 5 | 9 => 9 | 51 => 213 | 55 => 217 | 57 => 229 | 58 => 230 | 33 => 68 | n => n, fun | n => n⟩
theorem sortedLaid : Go.Proofs.SlLaysZ.n6 Tryz.prog sortedLaid_ren := {
  mixed := by kernel_rfl
  f6 := ⟨Tryz.f74.name, by decide, Tryz.func74.trans (congrArg some (by kernel_rfl))⟩
  f8 := ⟨Tryz.f103.name, by decide, Tryz.func103.trans (congrArg some (by kernel_rfl))⟩
  f11 := ⟨Tryz.f125.name, by decide, Tryz.func125.trans (congrArg some (by kernel_rfl))⟩
  t0 := Tryz.underlying0
  a0 := Tryz.isAgg0
  z0 := Tryz.sizeOf0
  v0 := Tryz.zeroValue0
  t24 := Tryz.underlying22
  a24 := Tryz.isAgg22
  z24 := Tryz.sizeOf22
  v24 := Tryz.zeroValue22
  t26 := Tryz.underlying9
  a26 := Tryz.isAgg9
  z26 := Tryz.sizeOf9
  v26 := Tryz.zeroValue9
  t28 := Tryz.underlying111
  a28 := Tryz.isAgg111
  z28 := Tryz.sizeOf111
  v28 := Tryz.zeroValue111
  i26 := by kernel_rfl }
def sortLaid_ren : Go.Shelf.Ren := ⟨fun | 6 => 104 | 8 => 127 | 9 => 126 | 19 => 161 | 20 => 162 | 21 => 152 | 22 => 153 | 23 => 154 | 24 => 155 | 25 => 156 | 26 => 157 | 27 => 158 | 28 => 159 | 29 => 160 | 36 => 182 | 31 => 183 | 32 => 184 | 37 => 185 | 38 => 186 | 39 => 187 | 41 => 200 | n => n, fun | 27 => 22 | 29 => 9 | 3 => 3 | 32 => 124 | 26 => 22 | 0 => 0 | 44 => 35 | 46 => 192 | 4 => 4 | 36 => 185 | 35 => 184 | 41 => 136 | 5 => 5 | 9 => 9 | 53 => 213 | 57 => 217 | 63 => 229 | 64 => 230 | n => n, fun | n => n⟩
theorem sortLaid : Go.Proofs.SlLaysM.n6 Tryz.prog sortLaid_ren := {
  mixed := by kernel_rfl
  f6 := ⟨Tryz.f104.name, by decide, Tryz.func104.trans (congrArg some (by kernel_rfl))⟩
  f8 := Tryz.func127.trans (congrArg some (by kernel_rfl))
  f9 := ⟨Tryz.f126.name, by decide, Tryz.func126.trans (congrArg some (by kernel_rfl))⟩
  f19 := Tryz.func161.trans (congrArg some (by kernel_rfl))
  f20 := Tryz.func162.trans (congrArg some (by kernel_rfl))
  f21 := ⟨Tryz.f152.name, by decide, Tryz.func152.trans (congrArg some (by kernel_rfl))⟩
  f22 := ⟨Tryz.f153.name, by decide, Tryz.func153.trans (congrArg some (by kernel_rfl))⟩
  f23 := ⟨Tryz.f154.name, by decide, Tryz.func154.trans (congrArg some (by kernel_rfl))⟩
  f24 := ⟨Tryz.f155.name, by decide, Tryz.func155.trans (congrArg some (by kernel_rfl))⟩
  f25 := ⟨Tryz.f156.name, by decide, Tryz.func156.trans (congrArg some (by kernel_rfl))⟩
  f26 := ⟨Tryz.f157.name, by decide, Tryz.func157.trans (congrArg some (by kernel_rfl))⟩
  f27 := ⟨Tryz.f158.name, by decide, Tryz.func158.trans (congrArg some (by kernel_rfl))⟩
  f28 := ⟨Tryz.f159.name, by decide, Tryz.func159.trans (congrArg some (by kernel_rfl))⟩
  f29 := ⟨Tryz.f160.name, by decide, Tryz.func160.trans (congrArg some (by kernel_rfl))⟩
  f31 := Tryz.func183.trans (congrArg some (by kernel_rfl))
  f32 := Tryz.func184.trans (congrArg some (by kernel_rfl))
  f36 := ⟨Tryz.f182.name, by decide, Tryz.func182.trans (congrArg some (by kernel_rfl))⟩
  f37 := ⟨Tryz.f185.name, by decide, Tryz.func185.trans (congrArg some (by kernel_rfl))⟩
  f38 := ⟨Tryz.f186.name, by decide, Tryz.func186.trans (congrArg some (by kernel_rfl))⟩
  f39 := ⟨Tryz.f187.name, by decide, Tryz.func187.trans (congrArg some (by kernel_rfl))⟩
  f41 := ⟨Tryz.f200.name, by decide, Tryz.func200.trans (congrArg some (by kernel_rfl))⟩
  t0 := Tryz.underlying0
  a0 := Tryz.isAgg0
  z0 := Tryz.sizeOf0
  v0 := Tryz.zeroValue0
  t3 := Tryz.underlying3
  a3 := Tryz.isAgg3
  z3 := Tryz.sizeOf3
  v3 := Tryz.zeroValue3
  t4 := Tryz.underlying4
  a4 := Tryz.isAgg4
  z4 := Tryz.sizeOf4
  v4 := Tryz.zeroValue4
  t5 := Tryz.underlying5
  a5 := Tryz.isAgg5
  z5 := Tryz.sizeOf5
  v5 := Tryz.zeroValue5
  t9 := Tryz.underlying9
  a9 := Tryz.isAgg9
  z9 := Tryz.sizeOf9
  v9 := Tryz.zeroValue9
  t26 := Tryz.underlying22
  a26 := Tryz.isAgg22
  z26 := Tryz.sizeOf22
  v26 := Tryz.zeroValue22
  t27 := Tryz.underlying22
  a27 := Tryz.isAgg22
  z27 := Tryz.sizeOf22
  v27 := Tryz.zeroValue22
  t29 := Tryz.underlying9
  a29 := Tryz.isAgg9
  z29 := Tryz.sizeOf9
  v29 := Tryz.zeroValue9
  t32 := Tryz.underlying124
  a32 := Tryz.isAgg124
  z32 := Tryz.sizeOf124
  v32 := Tryz.zeroValue124
  t35 := Tryz.underlying184
  a35 := Tryz.isAgg184
  z35 := Tryz.sizeOf184
  v35 := Tryz.zeroValue184
  t36 := Tryz.underlying185
  a36 := Tryz.isAgg185
  z36 := Tryz.sizeOf185
  v36 := Tryz.zeroValue185
  t41 := Tryz.underlying136
  a41 := Tryz.isAgg136
  z41 := Tryz.sizeOf136
  v41 := Tryz.zeroValue136
  t44 := Tryz.underlying35
  a44 := Tryz.isAgg35
  z44 := Tryz.sizeOf35
  v44 := Tryz.zeroValue35
  t46 := Tryz.underlying192
  a46 := Tryz.isAgg192
  z46 := Tryz.sizeOf192
  v46 := Tryz.zeroValue192
  t53 := Tryz.underlying213
  a53 := Tryz.isAgg213
  z53 := Tryz.sizeOf213
  v53 := Tryz.zeroValue213
  t57 := Tryz.underlying217
  a57 := Tryz.isAgg217
  z57 := Tryz.sizeOf217
  v57 := Tryz.zeroValue217
  t63 := Tryz.underlying229
  a63 := Tryz.isAgg229
  z63 := Tryz.sizeOf229
  v63 := Tryz.zeroValue229
  t64 := Tryz.underlying230
  a64 := Tryz.isAgg230
  z64 := Tryz.sizeOf230
  v64 := Tryz.zeroValue230 }
theorem sorts_in (k : Nat) : AnyZ.SortsIn Tryz.prog sortedLaid_ren Fence.wide k :=
  ⟨fun blk off cap ss W hH hblk hsz => callsIn_wide.2 (AnyM.slices_Sort_string sortLaid blk off cap ss W hH hblk hsz),
   fun p cap W => callsIn_wide.2 (AnyM.slices_Sort_string_none sortLaid p cap W)⟩
theorem keys_in (mb : Option Nat) (W : World) : CallsIn Fence.wide 5 Tryz.prog 75 #[.map mb] W fun e w' => e = .returned (.func (.func 105) #[] #[.pointer (some ⟨W.heap.size, 0, none⟩)]) ∧ w' = W.alloc (.cells #[.map mb] 64) :=
  AnyZ.keys_in keysLaid Fence.wide 5 trivial rfl mb W
set_option maxRecDepth 20000 in
set_option maxHeartbeats 1000000 in
theorem sorted_in (b nn : Nat) (D0 : DataW Unit) (R : Value → Option (DataW Unit × List MemPlace)) (w : World) (hown : w.ownsMap Tryz.prog 9 R b nn D0) (hmax : Maps.size D0 ≤ maxLen) (hbytes : Maps.size D0 * 16 ≤ 140737488355328) :
    CallsIn Fence.wide 5 Tryz.prog 74 #[.func (.func 105) #[] #[.pointer (some ⟨w.heap.size, 0, none⟩)]] (w.alloc (.cells #[.map (some b)] 64)) fun e w' => ∃ (v : Value) (ss : List (List UInt8)), e = .returned v ∧ ss.Perm (strKeys D0) ∧
      w'.ownsRow (w.alloc (.cells #[.map (some b)] 64)).heap.size 9 1 v ss.length ((ss.mergeSort (fun x y => decide (x ≤ y))).map encStr) ∧ (v = .slice none 0 0 ↔ ss = []) ∧ Below (w.alloc (.cells #[.map (some b)] 64)).heap.size (w.alloc (.cells #[.map (some b)] 64)) w' := by
  have hbl := hown.lt
  have hseq : SeqGives Fence.wide 2 Tryz.prog 105 #[.pointer (some ⟨w.heap.size, 0, none⟩)] encStr (fun ss => ss.Perm (strKeys D0)) (Maps.size D0) (w.alloc (.cells #[.map (some b)] 64)) :=
    AnyZ.keys_gives (ρ := keysLaid_ren) { keysLaid with } Fence.wide _ trivial rfl (by omega) w.heap.size b nn D0 _ (by simp) (by simp) (by
      obtain ⟨es, clock, hb, Ft, hs, hD⟩ := hown
      exact ⟨es, clock, (Below.heap_alloc _ _ b hbl).trans hb, Ft, hs, hD⟩)
  exact AnyZ.sorted_in sortedLaid Fence.wide 5 trivial trivial trivial trivial rfl (by omega) (sorts_in _) (enters_of Tryz.func104 (by kernel_rfl) rfl) 105 #[.pointer (some ⟨w.heap.size, 0, none⟩)] trivial (enters_of Tryz.func105 (by kernel_rfl) rfl) _ _ hmax hbytes _ hseq
def Names (w : World) (l : List (List UInt8)) (e : Ending) (w' : World) : Prop :=
  ∃ v, e = .returned v ∧ w'.ownsRow w.heap.size 9 1 v l.length (l.map encStr) ∧ Gr w w'
theorem str_keys (L : List Pl) : strKeys (ents L) = L.map fun x => x.f.name := by
  unfold ents strKeys
  simp [Function.comp_def]
  intro a _; rfl
set_option maxRecDepth 20000 in
set_option maxHeartbeats 1000000 in
theorem names_c (p m : Nat) (s : St) (B : Nat → Prop) (L : List Pl) (w : World) (hs : s.ok) (h : DiskAt w p s B m L) :
    Calls Tryz.prog 50 #[.pointer (some ⟨p, 0, none⟩)] w (Names w ((L.map fun x => x.f.name).mergeSort (fun x y => decide (x ≤ y)))) := by
  have c1 : w.cell? ⟨p, 1, none⟩ = some (.map (some m)) := by rw [cells_at h.heap]; rfl
  have hLl : L.length = s.fs.length := by rw [← h.fs]; simp
  have hm200 := hs.m
  have CS := sorted_in m L.length (ents L) ptrElem w h.own (by rw [ents_size]; unfold maxLen; omega) (by rw [ents_size]; omega)
  have HS := Lib.hid (str_keys L)
  clear h hs hLl hm200
  refine (callsIn_wide (n := 6)).1 ?_
  have hfK : Fence.wide.fn 75 := trivial
  have hfS : Fence.wide.fn 74 := trivial
  refine callsIn_of_wp Tryz.func50 rfl trivial ?_ rfl
  simp only [Tryz.ntmps50, List.size_toArray, List.length_cons, List.length_nil, Nat.reduceAdd, Nat.reduceSub, Array.replicate_succ, Array.replicate_zero, List.push_toArray, List.append_toArray, List.nil_append, List.cons_append]
  gi_wp2_with (first
    | (gi_at_call 75; refine (keys_in _ _).mono ?_; rintro e w' ⟨rfl, rfl⟩)
    | (gi_at_call 74; refine CS.mono ?_; rintro e w' ⟨v, ss, rfl, hS, hrow, hnil, hb⟩))
  go_ret
  rw [HS.out] at hS
  have hm := mergeSort_of_perm hS
  have hlen : ss.length = (((L.map fun x => x.f.name).mergeSort (fun x y => decide (x ≤ y)))).length := by rw [List.length_mergeSort]; exact hS.length_eq
  refine ⟨v, rfl, ?_, ((Below.refl _ w).alloc (Nat.le_refl _) _).trans (hb.mono (by simp))⟩
  rw [← hlen, ← hm]
  exact ownsRow_base_a hrow (by simp)
end Go.Proofs.YtjplkmmhjfpdaaaGreatDoor
/- The program's disk: List. -/
namespace Go.Proofs.YtjplkmmhjfpdaaaGreatDoor
open Go.RowKit FsPlain
set_option linter.unusedVariables false
set_option linter.unusedSimpArgs false
set_option maxRecDepth 20000
def listN (s : St) : List ByteArray := ((s.fs.map fun f => f.name).mergeSort (fun x y => decide (x ≤ y))).map bs
theorem listN_length (s : St) : (listN s).length = s.fs.length := by unfold listN; rw [List.length_map, List.length_mergeSort, List.length_map]
end Go.Proofs.YtjplkmmhjfpdaaaGreatDoor
/- What Merge leaves, as parts. -/
namespace Go.Proofs.YtjplkmmhjfpdaaaGreatDoor
open Go.RowKit FsPlain CrcPlain OctPlain FramePlain RecPlain RdPlain RnPlain WrPlain
set_option linter.unusedVariables false
set_option maxRecDepth 20000
def MergeGot (D P : Nat) (s : St) (b : Bu) (F : List (ByteArray × ByteArray)) (out : ByteArray) (size : Int) (u : Bool) (M : List Asn) (w : World) (B : Nat → Prop) (e : Ending) (w' : World) : Prop :=
  ∃ s' b' k c er, e = .returned (.tuple #[.agg #[.int .i64 k, .int .u32 c], .int .i64 er]) ∧ MergeR s b F out size u s' b' k c er ∧ ∃ B', stars ([DiskA D s', BuA P b'] ++ M) w' B' ∧ Nx B w B' w'
def DM (D P : Nat) (s : St) (b : Bu) (M : List Asn) (w wr : World) : Prop := ∃ B, stars ([DiskA D s, BuA P b] ++ M) wr B ∧ Nx (fun _ => False) w B wr
theorem frs_dm (D P : Nat) (s : St) (b : Bu) {M : List Asn} (hM : Frs M) : Frs ([DiskA D s, BuA P b] ++ M) := ⟨fr_disk _ _, fr_bu _ _, hM⟩
theorem DM.gr {D P : Nat} {s : St} {b : Bu} {M : List Asn} {w wr u : World} (hM : Frs M) (h : DM D P s b M w wr) (g : Gr wr u) : DM D P s b M w u := by
  obtain ⟨B, k, n⟩ := h
  exact ⟨B, stars_gr (frs_dm D P s b hM) k g, n.trans (Nx.gr g)⟩
theorem DM.end {D P : Nat} {s : St} {b : Bu} {M : List Asn} {w wr : World} (h : DM D P s b M w wr) : Gr w wr := by
  obtain ⟨B, _, n⟩ := h
  exact nx_gr n
theorem DM.bud {D P : Nat} {s : St} {b : Bu} {M : List Asn} {w wr : World} (h : DM D P s b M w wr) : BAt wr P b := by
  obtain ⟨B, k, _⟩ := h
  obtain ⟨_, hb, _⟩ := part_at 1 rfl k
  exact hb.at
theorem DM.part {D P : Nat} {s : St} {b : Bu} {M : List Asn} {w wr : World} (h : DM D P s b M w wr) (i : Nat) {Q : Asn} (hi : M[i]? = some Q) : ∃ B1, Q wr B1 := by
  obtain ⟨B, k, _⟩ := h
  obtain ⟨B1, hq, _⟩ := part_at (L := [DiskA D s, BuA P b] ++ M) (i + 2) hi k
  exact ⟨B1, hq⟩
theorem DM.row {D P : Nat} {s : St} {b : Bu} {M : List Asn} {w wr : World} (h : DM D P s b M w wr) (i : Nat) {v : Value} {l : List ByteArray} (hi : M[i]? = some (RowA v l)) : Lies wr v l := by
  obtain ⟨_, hr⟩ := h.part i hi
  exact row_lies hr
theorem DM.blk {D P : Nat} {s : St} {b : Bu} {M : List Asn} {w wr : World} (h : DM D P s b M w wr) (i : Nat) {X : Nat} {c : Array Value} {T : TypeId} (hi : M[i]? = some (Blk X c T)) (j : Nat) : wr.cell? ⟨X, j, none⟩ = c[j]? := by
  obtain ⟨_, hr⟩ := h.part i hi
  exact cells_at hr.1 j
theorem DM.new {D P : Nat} {s : St} {b : Bu} {M : List Asn} {w wr u : World} {Q : Asn} {B' : Nat → Prop} (hM : Frs M) (h : DM D P s b M w wr) (g : Gr wr u) (q : Q u B') (hn : ∀ x, B' x → wr.heap.size ≤ x) : DM D P s b (Q :: M) w u := by
  obtain ⟨B, k, n⟩ := h
  obtain ⟨B3, k3, n3⟩ := part_new (P := Q) (frs_dm D P s b hM) k g q hn
  exact ⟨B3, stars_perm (List.perm_middle (l₁ := [DiskA D s, BuA P b])).symm k3, n.trans n3⟩
theorem DM.blk_new {D P : Nat} {s : St} {b : Bu} {M : List Asn} {w wr u : World} (hM : Frs M) (h : DM D P s b M w wr) (c : Array Value) (T : TypeId) (hu : u = wr.alloc (.cells c T)) : DM D P s b (Blk wr.heap.size c T :: M) w u := by
  subst hu
  exact h.new (B' := fun b => b = wr.heap.size) hM (Below.alloc (Below.refl _ _) (Nat.le_refl _) _) ⟨heap_alloc_new wr _, fun _ => Iff.rfl⟩ (fun b hb => by rw [hb]; exact Nat.le_refl _)
theorem row_of_own {w u : World} {v : Value} {l : List ByteArray} (h : u.ownsRow w.heap.size 9 1 v l.length (strs l)) : ∃ B, RowA v l u B ∧ ∀ x, B x → w.heap.size ≤ x := by
  refine ⟨fun x => v.ownBlock = some x, ⟨⟨h.1, h.2.imp id fun ⟨g, cap, cur, h1, h2, h3⟩ => ⟨g, cap, cur, h1, Nat.zero_le _, h3⟩⟩, fun b hb => hb, fun b hb => (h.lt b hb).2⟩, fun x hx => (h.lt x hx).1⟩
theorem DM.disk {D P : Nat} {s s' : St} {b : Bu} {M : List Asn} {w wr : World} {f : FuncId} {args : Array Value} {x : Value} (hM : Frs M) (h : DM D P s b M w wr) (k : ∀ B, DiskA D s wr B → Calls Tryz.prog f args wr (Does wr B (DiskA D s') x)) :
    Calls Tryz.prog f args wr fun e w' => e = .returned x ∧ DM D P s' b M w w' := by
  obtain ⟨B, hs, n⟩ := h
  refine (does_at (L := [DiskA D s, BuA P b] ++ M) 0 rfl (frs_dm D P s b hM) hs k).mono ?_
  rintro e w' ⟨he, B', h', n'⟩
  exact ⟨he, B', h', n.trans n'⟩
theorem DM.clear {D P : Nat} {s s' : St} {b : Bu} {M : List Asn} {w wr : World} {f : FuncId} {args : Array Value} {x : Value} (h : DM D P s b M w wr) (j : ∀ B, stars ([DiskA D s] ++ (BuA P b :: M)) wr B → Calls Tryz.prog f args wr (Does wr B (stars ([DiskA D s'] ++ (BuA P b :: M))) x)) :
    Calls Tryz.prog f args wr fun e w' => e = .returned x ∧ DM D P s' b M w w' := by
  obtain ⟨B, hs, n⟩ := h
  refine (j B hs).mono ?_
  rintro e w' ⟨he, B', h', n'⟩
  exact ⟨he, B', h', n.trans n'⟩
theorem DM.used {D P : Nat} {s : St} {b : Bu} {M : List Asn} {w wr : World} (h : DM D P s b M w wr) : Calls Tryz.prog 38 #[.pointer (some ⟨D, 0, none⟩)] wr fun e w' => e = .returned (.int .i64 (used s.fs : Int)) ∧ Gr wr w' := by
  obtain ⟨B, hs, _⟩ := h
  obtain ⟨B1, ⟨hok, m, L, hD⟩, _⟩ := part_at 0 rfl hs
  exact used_c D m s B1 L wr hok hD
theorem DM.merge {D P : Nat} {s : St} {b : Bu} {F : List (ByteArray × ByteArray)} {out : ByteArray} {size : Int} {u : Bool} {M : List Asn} {w wr : World} {f : FuncId} {args : Array Value} (h : DM D P s b M w wr) (k : ∀ B, stars ([DiskA D s, BuA P b] ++ M) wr B → Calls Tryz.prog f args wr (MergeGot D P s b F out size u M wr B)) :
    Calls Tryz.prog f args wr fun e w' => ∃ s' b' k c er, e = .returned (.tuple #[.agg #[.int .i64 k, .int .u32 c], .int .i64 er]) ∧ MergeR s b F out size u s' b' k c er ∧ DM D P s' b' M w w' := by
  obtain ⟨B, hs, n⟩ := h
  refine (k B hs).mono ?_
  rintro e w' ⟨s', b', k1, c, er, he, hm, B', h', n'⟩
  exact ⟨s', b', k1, c, er, he, hm, B', h', n.trans n'⟩
end Go.Proofs.YtjplkmmhjfpdaaaGreatDoor

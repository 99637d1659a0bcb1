/- In one text: RdStand, RfsSync, RfsRise, RfsRisen, RfsA, RdLaw, Told, Chunk. -/
import Derived.Test.YtojlceoeacebmaaGreatP20
import Derived.Test.YtojlceoeacebmaaGreatP07
import Derived.Test.YtojlceoeacebmaaGreatP10
import Derived.Test.YtojlceoeacebmaaGreatP17
import Derived.Test.YtojlceoeacebmaaGreatP14
import Derived.Test.YtojlceoeacebmaaGreatP00
import Derived.BigQuiet
import Derived.Deep.CutRange
import Derived.Deep.DeepCutAuto
import Derived.RangeFuncNested
import Derived.RangeFuncBox
import Derived.Test.YtojlceoeacebmaaGreatP11
import Derived.RangeFuncBound
import Derived.RangeFuncCalls
import Derived.RangeFuncLeaves
import Derived.Shelf.Abstract
import Derived.Shelf.RegionOpen
import Derived.OwnWalkIn
import Derived.TacticsInMore
import Derived.LoopNIn
import Derived.LoopIn
/- Plain facts: a disk with one file that was written; what holds of a reader at each round of the laws. -/
namespace Go.Proofs.YtojlceoeacebmaaGreat
open Go.RowKit FsPlain CrcPlain OctPlain FramePlain RecPlain
set_option linter.unusedVariables false
set_option linter.unusedSimpArgs false
set_option maxRecDepth 20000
namespace RdPlain
/-- A disk with the file a, which is empty. -/
def stC (r : Int) : St := ⟨r, 1, -1, false, [⟨[97], [], 0⟩]⟩
/-- A disk with the file a of these bytes. -/
def stA (r : Int) (S : ByteArray) : St := ⟨r, 2, -1, false, [⟨[97], S.data.toList, 0⟩]⟩
theorem st_create (r : Int) : createR (fresh r) nmA.data.toList = (stC r, 0) := rfl
theorem st_append (r : Int) (S : ByteArray) (h : (S.size : Int) ≤ r) : appendR (stC r) nmA.data.toList S.data.toList = (stA r S, 0) := by
  unfold appendR
  rw [if_neg (show ¬ (stC r).call.down = true by simp [stC, St.call])]
  have hg : (stC r).get nmA.data.toList = some ⟨[97], [], 0⟩ := rfl
  rw [hg]
  have hu : used (stC r).fs = 0 := rfl
  simp only [hu]
  rw [if_neg (by show ¬ r < ((0 : Nat) : Int) + (S.data.toList.length : Nat); rw [data_length]; omega)]
  rfl
theorem st_stands (r : Int) (S : ByteArray) : Stands (stA r S) nmA.data.toList S := ⟨⟨⟨[97], S.data.toList, 0⟩, rfl, rfl⟩, rfl, rfl⟩
theorem st_size (r : Int) (S : ByteArray) (k : Int) (h : (sizeR (armed (stA r S) k) nmA.data.toList).2 = 0) : (sizeR (armed (stA r S) k) nmA.data.toList).1 = (S.size : Nat) := by
  unfold sizeR at h ⊢
  split at h
  · simp at h
  · rename_i h1
    rw [if_neg h1]
    have hg : (armed (stA r S) k).get nmA.data.toList = some ⟨[97], S.data.toList, 0⟩ := rfl
    rw [hg]
    simp only [data_length]
/-- The budget: four while it is open, none behind. -/
def Bud4 (m : N3) : Prop := (m.x.opn = true → m.b.now = 4) ∧ (m.x.opn = false → m.b.now = 0)
theorem give4 {b : Bu} (h : b.now = 4) : (b.give 4).now = 0 := by unfold Bu.give; rw [if_neg (by decide)]; simp only [h]; decide
theorem bud_shut {m : N3} (h : Bud4 m) : Bud4 (shutN m) := by
  unfold shutN
  split
  · rename_i ho; exact ⟨(fun e => by cases e), fun _ => give4 (h.1 ho)⟩
  · exact h
theorem bud_wrong {m : N3} (h : Bud4 m) : Bud4 (wrongN m) := bud_shut (m := m.isBad) h
theorem bud_close {m : N3} (h : Bud4 m) : Bud4 (closeN m) := by
  unfold closeN
  split
  · exact bud_wrong h
  · exact h
theorem bud_next {m : N3} (h : Bud4 m) : Bud4 (nextN m).1 := by
  unfold nextN
  split
  · exact h
  · split
    · unfold fillN
      split
      · exact bud_wrong (m := m.asked) h
      · split
        · exact bud_shut (m := m.asked.ended (bytesN m)) h
        · split
          · exact bud_wrong (m := m.asked) h
          · exact h
    · exact h
/-- How many records there can be yet. -/
def leftN (m : N3) : Nat := m.x.told + m.x.queue.length + m.x.left
theorem left_shut (m : N3) : leftN (shutN m) = leftN m := by unfold shutN; split <;> rfl
theorem left_close (m : N3) : leftN (closeN m) = leftN m := by
  unfold closeN
  split
  · exact left_shut m.isBad
  · rfl
theorem left_pop {m : N3} (h : m.x.queue ≠ []) : leftN m.popped = leftN m := by
  obtain ⟨r, q, hr⟩ := List.exists_cons_of_ne_nil h
  show m.x.told + 1 + m.x.queue.tail.length + m.x.left = m.x.told + m.x.queue.length + m.x.left
  rw [hr]; simp; omega
theorem left_next {m : N3} (h : m.ok) : leftN (nextN m).1 ≤ leftN m := by
  unfold nextN
  split
  · exact Nat.le_refl _
  · split
    · rename_i hq
      unfold fillN
      split
      · exact Nat.le_of_eq (left_shut m.asked.isBad)
      · rename_i h0
        split
        · exact Nat.le_of_eq (left_shut (m.asked.ended (bytesN m)))
        · split
          · exact Nat.le_of_eq (left_shut m.asked.isBad)
          · rename_i h2
            have hb : gB m.x.size (bytesN m) = true := by
              cases hb : gB m.x.size (bytesN m)
              · exact absurd (.inl hb) h2
              · rfl
            have hs := bytesN_size (m := m) (by simpa using h0)
            have hl := ask_left m.x
            obtain ⟨k1, k2⟩ := ok_filled (m := m.asked) (ok_asked h) hb (by rw [hs]; exact ask_left _) hq
            obtain ⟨_, z2, _⟩ := gL_size hb
            obtain ⟨_, n, hn, hn2, hn3, _⟩ := get_is hb
            show leftN (m.asked.filled (bytesN m)).popped ≤ _
            rw [left_pop k2]
            show m.x.told + (gL m.x.size (bytesN m)).length + (m.x.left - (gN m.x.size (bytesN m)).toNat) ≤ m.x.told + m.x.queue.length + m.x.left
            rw [hn, hq]
            simp only [Int.toNat_natCast, List.length_nil]
            omega
    · rename_i hq
      exact Nat.le_of_eq (left_pop hq)
/-- Behind a record it is open, and one more was told; behind none it is shut. -/
theorem next_none {m : N3} (h : (nextN m).2.2.1 = false) : (nextN m).1.x.opn = false ∧ (nextN m).2.1 = ⟨#[]⟩ := by
  revert h
  have hsh : ∀ m : N3, (shutN m).x.opn = false := fun m => by
    unfold shutN
    split
    · rfl
    · rename_i h; simpa using h
  unfold nextN
  split
  · rename_i ho; exact fun _ => ⟨ho, rfl⟩
  · split
    · unfold fillN
      split
      · exact fun _ => ⟨hsh _, rfl⟩
      · split
        · exact fun _ => ⟨hsh _, rfl⟩
        · split
          · exact fun _ => ⟨hsh _, rfl⟩
          · intro h; cases h
    · intro h; cases h
theorem next_some {m : N3} (h : (nextN m).2.2.1 = true) : m.x.opn = true ∧ (nextN m).1.x.opn = true ∧ (nextN m).1.x.told = m.x.told + 1 ∧ (nextN m).2.2.2 = 0 := by
  revert h
  unfold nextN
  split
  · intro h; cases h
  · rename_i ho
    have ho : m.x.opn = true := by simpa using ho
    split
    · unfold fillN
      split
      · intro h; cases h
      · split
        · intro h; cases h
        · split
          · intro h; cases h
          · exact fun _ => ⟨ho, ho, rfl, rfl⟩
    · exact fun _ => ⟨ho, ho, rfl, rfl⟩
/-- What holds at the head of round i. -/
structure PlayN (m : N3) (i : Nat) : Prop where
  ok : m.ok
  inv : m.inv
  told : m.x.told = i
  calls : m.s.calls ≤ 10 + (i : Int)
  bud : Bud4 m
  left : leftN m ≤ 689
theorem PlayN.few {m : N3} {i : Nat} (h : PlayN m i) : i ≤ 689 := by have h1 := h.told; have h2 := h.left; unfold leftN at h2; omega
theorem PlayN.close {m : N3} {i : Nat} (h : PlayN m i) : PlayN (closeN m) i :=
  ⟨ok_closeN h.ok, inv_closeN h.inv, (closeN_calls m).2.trans h.told, by rw [(closeN_calls m).1]; exact h.calls, bud_close h.bud, by rw [left_close]; exact h.left⟩
theorem PlayN.next {m : N3} {i : Nat} (h : PlayN m i) (hp : (nextN m).2.2.1 = true) : PlayN (nextN m).1 (i + 1) := by
  obtain ⟨_, _, h3, _⟩ := next_some hp
  have h4 := nextN_calls m
  have h5 := h.calls
  refine ⟨ok_nextN h.ok, inv_nextN h.inv h.ok, by rw [h3, h.told], by rw [Int.natCast_add]; simp only [Int.natCast_one]; omega, bud_next h.bud, Nat.le_trans (left_next h.ok) h.left⟩
theorem play_open {r : Int} (h0r : 0 ≤ r) {S : ByteArray} (hr : (S.size : Int) ≤ r) (hr2 : r ≤ 16777216) (hS : S.size ≤ 700) {k mm size : Int} (hk : k ≤ 9223372036854775807) (hm : 0 ≤ mm) (hm2 : mm ≤ 9223372036854775807) (hs : (armed (stA r S) k).ok) (R : St × Bu × Int × Nat) (hR : R = openN (armed (stA r S) k) ⟨mm, 0, 0⟩ nmA size) (h0 : R.2.2.1 = 0) : PlayN ⟨R.1, R.2.1, newRs nmA size R.2.2.2⟩ 0 := by
  subst hR
  have hb : (Bu.mk mm 0 0).ok := ⟨Int.le_refl 0, Int.le_refl 0, hm, hm2⟩
  have hok := openN_ok hs hb nmA_size nmA_right h0
  obtain ⟨h1, h2, h3, h4, h5, h6, h7, e⟩ := openN_yes h0
  have hc := openN_calls (armed (stA r S) k) ⟨mm, 0, 0⟩ nmA size
  have hsz := st_size r S k h3
  refine ⟨hok, inv_new _ _ _ _ _, rfl, ?_, ⟨fun _ => ?_, (fun e => by cases e)⟩, ?_⟩
  · have : (armed (stA r S) k).calls = 2 := rfl
    simp only [Int.natCast_zero]; omega
  · rw [e]
    show (Bu.take ⟨mm, 0, 0⟩ 4).now = 4
    unfold Bu.takeE at h2
    unfold Bu.take
    simp only [] at h2 ⊢
    split at h2
    · simp at h2
    · split at h2
      · simp at h2
      · rw [if_neg (by omega)]; simp
  · rw [e]
    show 0 + 0 + ((sizeR (armed (stA r S) k) nmA.data.toList).1.toNat - 11) ≤ 689
    rw [hsz]; simp only [Int.toNat_natCast]; omega
end RdPlain
end Go.Proofs.YtojlceoeacebmaaGreat
/- The document's disk: Sync. -/
namespace Go.Proofs.YtojlceoeacebmaaGreat
open Go.RowKit FsPlain
set_option linter.unusedVariables false
set_option linter.unusedSimpArgs false
set_option maxRecDepth 20000
end Go.Proofs.YtojlceoeacebmaaGreat
/- The document's disk: Rise. -/
namespace Go.Proofs.YtojlceoeacebmaaGreat
open Go.RowKit FsPlain
set_option linter.unusedVariables false
set_option linter.unusedSimpArgs false
set_option maxRecDepth 20000
def riseL (ks : List Int) (l : List F) : List F := l.mapIdx fun i f => fall f (ks.getD i 0)
theorem riseL_snoc {ks : List Int} {l : List F} {k : Nat} {y : F} (h : l[k]? = some y) : riseL ks (l.take (k + 1)) = riseL ks (l.take k) ++ [fall y (ks.getD k 0)] := by
  have hk := (List.getElem?_eq_some_iff.1 h).1
  unfold riseL
  rw [List.take_add_one, h, Option.toList_some, List.mapIdx_append, List.length_take, Nat.min_eq_left (by omega)]
  simp
theorem riseL_len (ks : List Int) (l : List F) : (riseL ks l).length = l.length := by simp [riseL]
def KCells (w : World) (a : Option Addr) (ks : List Int) : Prop := ∀ j x, ks[j]? = some x → ∃ p, a = some p ∧ p.block < w.heap.size ∧ w.cell? (Addr.add p j) = some (.int .i64 x)
def RiAt (ks : List Int) (l : List F) (w : World) (out i : Value) (wr : World) : Prop :=
  ∃ k : Nat, k ≤ l.length ∧ i = .int .i64 k ∧ wr.ownsRow w.heap.size 79 3 out k (fall3 (riseL ks (l.take k))) ∧ Below w.heap.size w wr
theorem fall0_cells (y : F) (k : Nat := 0) : fcells (fall y (([] : List Int).getD k 0)) = [Value.string (bs y.name), Value.string ((bs y.data).extract 0 y.kept), Value.int IntKind.i64 (y.kept : Int)] := by
  have h : (bs y.data).extract 0 y.kept = bs (y.data.take y.kept) := by
    apply ByteArray.ext
    simp [bs, ByteArray.data_extract]
  rw [h]
  simp [fcells, fall]
end Go.Proofs.YtojlceoeacebmaaGreat
/- The document's disk: Rise, its contract. -/
namespace Go.Proofs.YtojlceoeacebmaaGreat
open Go.RowKit FsPlain
set_option linter.unusedVariables false
set_option linter.unusedSimpArgs false
set_option maxRecDepth 20000
theorem riseL_names {ks : List Int} {l : List F} {z : F} (h : z ∈ riseL ks l) : ∃ y ∈ l, y.name = z.name := by
  unfold riseL at h
  obtain ⟨i, hi, e⟩ := List.mem_mapIdx.1 h
  exact ⟨l[i], List.getElem_mem hi, by rw [← e]; rfl⟩
theorem rise_fs {s : St} (ks : List Int) (hd : s.fs.Pairwise fun x y => x.name ≠ y.name) : ∀ j, j ≤ s.fs.length → (riseN s ks j).fs = riseL ks (s.fs.take j) ++ s.fs.drop j
  | 0, _ => by simp [riseN, riseL]
  | j + 1, h => by
    obtain ⟨y, hy⟩ : ∃ y, s.fs[j]? = some y := ⟨_, List.getElem?_eq_getElem (by omega)⟩
    have hdr : s.fs.drop j = y :: s.fs.drop (j + 1) := by
      rw [List.drop_eq_getElem_cons (by omega)]
      rw [(List.getElem?_eq_some_iff.1 hy).2]
    have hnm : nameAt s.fs j = y.name := by simp [nameAt, hy]
    have hp := hd
    rw [← List.take_append_drop j s.fs, hdr] at hp
    have hp2 := List.pairwise_append.1 hp
    have hA : ∀ z ∈ riseL ks (s.fs.take j), z.name ≠ y.name := fun z hz => by
      obtain ⟨x, hx, e⟩ := riseL_names hz
      rw [← e]; exact hp2.2.2 x hx y (List.mem_cons_self ..)
    have hC : ∀ z ∈ s.fs.drop (j + 1), z.name ≠ y.name := fun z hz => ((List.pairwise_cons.1 hp2.2.1).1 z hz).symm
    show ((riseN s ks j).fs.map fun f => if f.name = nameAt s.fs j then fall f (ks.getD j 0) else f) = _
    rw [rise_fs ks hd j (by omega), hdr, hnm, upd_list rfl hA hC, riseL_snoc hy, List.append_assoc]
    rfl
theorem risen_ok {s : St} (ks : List Int) (h : s.ok) : ∀ j, j ≤ s.fs.length → (riseN s ks j).ok
  | 0, _ => h
  | j + 1, hj => by
    have ih := risen_ok ks h j (by omega)
    obtain ⟨y, hy⟩ : ∃ y, s.fs[j]? = some y := ⟨_, List.getElem?_eq_getElem (by omega)⟩
    have hnm : nameAt s.fs j = y.name := by simp [nameAt, hy]
    obtain ⟨f, hf⟩ := get_name (s := riseN s ks j) (n := nameAt s.fs j) (by rw [rise_names, hnm]; exact List.mem_map_of_mem (List.mem_of_getElem? hy))
    exact ok_fall ih hf _
theorem sort_names {l m : List F} (h : l.map (·.name) = m.map (·.name)) (hs : SortF l) : SortF m := by
  have e : ∀ l : List F, SortF l ↔ (l.map (·.name)).Pairwise fun a b => Op.bytesLess a b = true := fun l => by
    rw [List.pairwise_map]; rfl
  rw [e, ← h, ← e]; exact hs
theorem riseN_keep (s : St) (ks : List Int) : ∀ j, (riseN s ks j).room = s.room ∧ (riseN s ks j).calls = s.calls
  | 0 => ⟨rfl, rfl⟩
  | j + 1 => riseN_keep s ks j
theorem riseR_is {s : St} (ks : List Int) (h : s.ok) : riseR s ks = { s with down := false, ahead := -1, fs := riseL ks s.fs } := by
  have e := rise_fs ks h.d s.fs.length (Nat.le_refl _)
  rw [List.take_length, List.drop_length, List.append_nil] at e
  obtain ⟨e1, e2⟩ := riseN_keep s ks s.fs.length
  unfold riseR
  simp only []
  rw [e, e1, e2]
theorem rise_ok {s : St} (ks : List Int) (h : s.ok) : (riseR s ks).ok := by
  have k := risen_ok ks h s.fs.length (Nat.le_refl _)
  exact ⟨k.r0, k.r1, k.c0, by show (-1 : Int) ≤ -1; omega, by show (-1 : Int) ≤ _; omega, k.u, k.k, k.n, k.m, k.d⟩
theorem rise_sort {s : St} (ks : List Int) (h : SortF s.fs) : SortF (riseR s ks).fs := sort_names (rise_names s ks s.fs.length).symm h
end Go.Proofs.YtojlceoeacebmaaGreat
/- The document's disk as a part of a world: what its calls leave. -/
namespace Go.Proofs.YtojlceoeacebmaaGreat
open Go.RowKit FsPlain
set_option linter.unusedVariables false
set_option linter.unusedSimpArgs false
set_option maxRecDepth 20000
theorem r_create (d : Nat) (s : St) (n : ByteArray) (hn : n.size ≤ 24) (hm : rightB n.data.toList = true) (h1 : s.calls ≤ 1000000000000) (w : World) (B : Nat → Prop) (h : RDiskA d s w B) :
    Calls Tryz.prog 10 #[.pointer (some ⟨d, 0, none⟩), .string n] w (Does w B (RDiskA d (createR s n.data.toList).1) (.int .i64 (createR s n.data.toList).2)) := by
  have C := rcreate_c d s n.data.toList w h hm (by rw [show n.data.toList.length = n.size from Array.length_toList]; exact hn) h1
  rwa [bs_toList] at C
theorem r_append (d : Nat) (s : St) (n t : ByteArray) (hn : n.size ≤ 24) (hm : rightB n.data.toList = true) (h1 : s.calls ≤ 1000000000000) (ht : t.size ≤ 1000000000) (w : World) (B : Nat → Prop) (h : RDiskA d s w B) :
    Calls Tryz.prog 11 #[.pointer (some ⟨d, 0, none⟩), .string n, .string t] w (Does w B (RDiskA d (appendR s n.data.toList t.data.toList).1) (.int .i64 (appendR s n.data.toList t.data.toList).2)) := by
  have C := rappend_c d s n.data.toList t.data.toList w h hm (by rw [show n.data.toList.length = n.size from Array.length_toList]; exact hn) (by rw [show t.data.toList.length = t.size from Array.length_toList]; exact ht) h1
  rwa [bs_toList, bs_toList] at C
end Go.Proofs.YtojlceoeacebmaaGreat
/- What the laws on readers walk with: both readers, side by side. -/
namespace Go.Proofs.YtojlceoeacebmaaGreat
open Go.RowKit FsPlain CrcPlain OctPlain FramePlain RecPlain RdPlain
set_option linter.unusedVariables false
set_option linter.unusedSimpArgs false
set_option maxRecDepth 20000
/-- Both readers, each with its disk and its budget. -/
def RBoth (w : World) (x p pb xr D P : Nat) (m m' : N3) (wr : World) : Prop := ∃ B, stars [RP3 x p pb m, RR3 xr D P m'] wr B ∧ Nx (fun _ => False) w B wr
theorem frs_rb (x p pb xr D P : Nat) (m m' : N3) : Frs [RP3 x p pb m, RR3 xr D P m'] := ⟨fr_rp3 _ _ _ _, fr_rr3 _ _ _ _, trivial⟩
theorem RBoth.gr {w wr u : World} {x p pb xr D P : Nat} {m m' : N3} (h : RBoth w x p pb xr D P m m' wr) (g : Gr wr u) : RBoth w x p pb xr D P m m' u := by
  obtain ⟨B, h1, n⟩ := h
  exact ⟨B, stars_gr (frs_rb _ _ _ _ _ _ _ _) h1 g, n.trans (Nx.gr g)⟩
theorem RBoth.old {w wr : World} {x p pb xr D P : Nat} {m m' : N3} (h : RBoth w x p pb xr D P m m' wr) : Gr w wr := by obtain ⟨B, _, n⟩ := h; exact nx_gr n
theorem RBoth.one {w wr : World} {x p pb xr D P : Nat} {m m' : N3} (h : RBoth w x p pb xr D P m m' wr) : ∃ B, RP3 x p pb m wr B := by
  obtain ⟨B, h1, n⟩ := h
  obtain ⟨B1, h2, _⟩ := part_at 0 rfl h1
  exact ⟨B1, h2⟩
theorem RBoth.two {w wr : World} {x p pb xr D P : Nat} {m m' : N3} (h : RBoth w x p pb xr D P m m' wr) : ∃ B, RR3 xr D P m' wr B := by
  obtain ⟨B, h1, n⟩ := h
  obtain ⟨B1, h2, _⟩ := part_at 1 rfl h1
  exact ⟨B1, h2⟩
theorem rb_one {w wr : World} {x p pb xr D P : Nat} {m m' M : N3} {f : FuncId} {args : Array Value} {v : Value} (h : RBoth w x p pb xr D P m m' wr) (k : ∀ B, RP3 x p pb m wr B → Calls Tryz.prog f args wr (Does wr B (RP3 x p pb M) v)) :
    Calls Tryz.prog f args wr fun e w' => e = .returned v ∧ RBoth w x p pb xr D P M m' w' := by
  obtain ⟨B, h1, n⟩ := h
  refine (does_at (Q := RP3 x p pb M) 0 rfl (frs_rb _ _ _ _ _ _ _ _) h1 k).mono ?_
  rintro e w' ⟨he, B', q, n'⟩
  exact ⟨he, B', q, n.trans n'⟩
theorem rb_two {w wr : World} {x p pb xr D P : Nat} {m m' M : N3} {f : FuncId} {args : Array Value} {v : Value} (h : RBoth w x p pb xr D P m m' wr) (k : ∀ B, RR3 xr D P m' wr B → Calls Tryz.prog f args wr (Does wr B (RR3 xr D P M) v)) :
    Calls Tryz.prog f args wr fun e w' => e = .returned v ∧ RBoth w x p pb xr D P m M w' := by
  obtain ⟨B, h1, n⟩ := h
  refine (does_at (Q := RR3 xr D P M) 1 rfl (frs_rb _ _ _ _ _ _ _ _) h1 k).mono ?_
  rintro e w' ⟨he, B', q, n'⟩
  exact ⟨he, B', q, n.trans n'⟩
theorem rp_parts {x p pb : Nat} {m : N3} {w : World} {B : Nat → Prop} (h : RP3 x p pb m w B) : (∃ B1, DiskA p m.s w B1) ∧ BAt w pb m.b := by
  rcases h with ⟨_, vq, h⟩ | ⟨_, h⟩
  · obtain ⟨B1, h1, _⟩ := part_at 1 rfl h
    obtain ⟨_, h2, _⟩ := part_at 3 rfl h
    exact ⟨⟨B1, h1⟩, h2.at⟩
  · obtain ⟨B1, h1, _⟩ := part_at 1 rfl h
    obtain ⟨_, h2, _⟩ := part_at 3 rfl h
    exact ⟨⟨B1, h1⟩, h2.at⟩
/-- The cells of the document's reader, disk and budget that the law reads. -/
structure RrS (xr D P : Nat) (now high told : Int) (whole : Bool) (ec em calls : Int) (w : World) : Prop where
  p1 : w.cell? ⟨P, 1, none⟩ = some (.int .i64 now)
  p2 : w.cell? ⟨P, 2, none⟩ = some (.int .i64 high)
  x8 : w.cell? ⟨xr, 8, none⟩ = some (.int .i64 told)
  x11 : w.cell? ⟨xr, 11, none⟩ = some (.bool whole)
  x13 : w.cell? ⟨xr, 13, none⟩ = some (.int .i64 ec)
  x14 : w.cell? ⟨xr, 14, none⟩ = some (.int .u32 em)
  d4 : w.cell? ⟨D, 4, none⟩ = some (.int .i64 calls)
theorem rdisk_calls {D : Nat} {s : St} {w : World} {B : Nat → Prop} (h : RDiskA D s w B) : w.cell? ⟨D, 4, none⟩ = some (.int .i64 s.calls) := by
  obtain ⟨_, _, v, hv, _⟩ := h
  rw [cells_at hv.1]; rfl
theorem rr_cells {xr D P : Nat} {m : N3} {w : World} {B : Nat → Prop} (h : RR3 xr D P m w B) : RrS xr D P m.b.now m.b.high m.x.told m.x.whole m.x.ec m.x.em m.s.calls w := by
  obtain ⟨vq, va, h⟩ := h
  have hb := rdl_blk h
  obtain ⟨_, h3, _⟩ := part_at 3 rfl h
  obtain ⟨_, h4, _⟩ := part_at 4 rfl h
  have hP := h4.2.1
  exact ⟨by rw [cells_at hP]; rfl, by rw [cells_at hP]; rfl, by rw [cells_at hb]; rfl, by rw [cells_at hb]; rfl, by rw [cells_at hb]; rfl, by rw [cells_at hb]; rfl, rdisk_calls h3⟩
theorem RBoth.cells {w wr : World} {x p pb xr D P : Nat} {m m' : N3} (h : RBoth w x p pb xr D P m m' wr) : RrS xr D P m'.b.now m'.b.high m'.x.told m'.x.whole m'.x.ec m'.x.em m'.s.calls wr := by
  obtain ⟨B, h1⟩ := h.two
  exact rr_cells h1
theorem stars_one {P : Asn} {w : World} {B : Nat → Prop} (h : P w B) : stars [P] w B := ⟨B, fun _ => False, h, (fun _ h => h), (fun _ _ h => h), fun b => (or_false _).symm ▸ Iff.rfl⟩
/-- A quiet call, as the walk of a quiet region asks for it. -/
theorem quiet_call {f : FuncId} {args : Array Value} {w : World} {n : Nat} {v : Value} (h : Calls Tryz.prog f args (w.drewN n) fun e w' => e = .returned v ∧ w.drewN n = w') : Calls Tryz.prog f args (w.drewN n) fun e w'' => e = .returned v ∧ ∃ m, w'' = w.drewN m :=
  Calls.quiet_of_same (h.mono fun _ _ ⟨he, hw⟩ => ⟨he, hw.symm⟩)
/-- Quiet calls. -/
theorem rb_now {w wr : World} {x p pb xr D P : Nat} {m m' : N3} (h : RBoth w x p pb xr D P m m' wr) :
    Calls Tryz.prog 16 #[.pointer (some ⟨pb, 0, none⟩)] wr fun e w' => e = .returned (.int .i64 m.b.now) ∧ wr = w' := by
  obtain ⟨B, h1⟩ := h.one
  exact bnow_c pb m.b wr (rp_parts h1).2
theorem rb_high {w wr : World} {x p pb xr D P : Nat} {m m' : N3} (h : RBoth w x p pb xr D P m m' wr) :
    Calls Tryz.prog 23 #[.pointer (some ⟨pb, 0, none⟩)] wr fun e w' => e = .returned (.int .i64 m.b.high) ∧ wr = w' := by
  obtain ⟨B, h1⟩ := h.one
  exact bhigh_c pb m.b wr (rp_parts h1).2
theorem rb_calls {w wr : World} {x p pb xr D P : Nat} {m m' : N3} (h : RBoth w x p pb xr D P m m' wr) :
    Calls Tryz.prog 17 #[.pointer (some ⟨p, 0, none⟩)] wr fun e w' => e = .returned (.int .i64 m.s.calls) ∧ wr = w' := by
  obtain ⟨B, h1⟩ := h.one
  obtain ⟨B1, h2⟩ := (rp_parts h1).1
  exact d_calls p m.s wr B1 h2
theorem rb_count {w wr : World} {x p pb xr D P : Nat} {m m' : N3} (hi : m.inv) (h : RBoth w x p pb xr D P m m' wr) :
    Calls Tryz.prog 24 #[.pointer (some ⟨x, 0, none⟩)] wr fun e w' => e = .returned (.int .i64 (m.x.told : Nat)) ∧ wr = w' := by
  obtain ⟨B, h1⟩ := h.one
  exact rcount_at x m.x.told wr (rp_cells hi h1).2.1
theorem rb_info {w wr : World} {x p pb xr D P : Nat} {m m' : N3} (hi : m.inv) (h : RBoth w x p pb xr D P m m' wr) :
    Calls Tryz.prog 22 #[.pointer (some ⟨x, 0, none⟩)] wr fun e w' => e = .returned (.tuple #[.agg #[.int .i64 m.x.ec, .int .u32 m.x.em], .bool m.x.whole]) ∧ RBoth w x p pb xr D P m m' w' := by
  obtain ⟨B, h1⟩ := h.one
  exact (rp_info x p pb m hi wr B h1).mono fun e w' ⟨he, g⟩ => ⟨he, h.gr g⟩
theorem rb_next {w wr : World} {x p pb xr D P : Nat} {m m' : N3} (hok : m.ok) (hi : m.inv) (ht : m.x.told ≤ 50000) (hc : m.s.calls ≤ 1000000000000) (h : RBoth w x p pb xr D P m m' wr) :
    Calls Tryz.prog 20 #[.pointer (some ⟨x, 0, none⟩)] wr fun e w' => e = .returned (ansV (nextN m).2) ∧ RBoth w x p pb xr D P (nextN m).1 m' w' :=
  rb_one h fun B h1 => rp_next x p pb m hok hi ht hc wr B h1
theorem rb_rnext {w wr : World} {x p pb xr D P : Nat} {m m' : N3} (hok : m'.ok) (ht : m'.x.told ≤ 50000) (hc : m'.s.calls ≤ 1000000000000) (h : RBoth w x p pb xr D P m m' wr) :
    Calls Tryz.prog 21 #[.pointer (some ⟨xr, 0, none⟩)] wr fun e w' => e = .returned (ansV (nextN m').2) ∧ RBoth w x p pb xr D P m (nextN m').1 w' :=
  rb_two h fun B h1 => rr_next xr D P m' hok ht hc wr B h1
theorem rb_close {w wr : World} {x p pb xr D P : Nat} {m m' : N3} (hi : m.inv) (h : RBoth w x p pb xr D P m m' wr) :
    Calls Tryz.prog 18 #[.pointer (some ⟨x, 0, none⟩)] wr fun e w' => e = .returned (.tuple #[]) ∧ RBoth w x p pb xr D P (closeN m) m' w' :=
  rb_one h fun B h1 => rp_close x p pb m hi wr B h1
theorem rb_rclose {w wr : World} {x p pb xr D P : Nat} {m m' : N3} (h : RBoth w x p pb xr D P m m' wr) :
    Calls Tryz.prog 19 #[.pointer (some ⟨xr, 0, none⟩)] wr fun e w' => e = .returned (.tuple #[]) ∧ RBoth w x p pb xr D P m (closeN m') w' :=
  rb_two h fun B h1 => rr_close xr D P m' wr B h1
/-- What holds at a round's head. -/
def ReadAt (w : World) (x p pb xr D P : Nat) (iv : Value) (wr : World) : Prop := ∃ (i : Nat) (m : N3), iv = .int .i64 i ∧ PlayN m i ∧ RBoth w x p pb xr D P m m wr
/-- Behind the close, if there was one. -/
def MidAt (w : World) (x p pb xr D P : Nat) (i : Nat) (wr : World) : Prop := ∃ m : N3, PlayN m i ∧ RBoth w x p pb xr D P m m wr
/-- Two disks and two budgets. -/
def t4 (p pb D P : Nat) (s s2 : St) (b : Bu) : List Asn := [DiskA p s, BuA pb b, RDiskA D s2, RBuA P b]
theorem frs_t4 (p pb D P : Nat) (s s2 : St) (b : Bu) : Frs (t4 p pb D P s s2 b) := ⟨fr_disk _ _, fr_bu _ _, fr_rdisk _ _, fr_rbu _ _, trivial⟩
/-- Where no reader is made. -/
structure NoneS (p pb D P : Nat) (s : St) (b : Bu) (w : World) : Prop where
  dk : ∃ B, DiskA p s w B
  bu : BAt w pb b
  d4 : w.cell? ⟨D, 4, none⟩ = some (.int .i64 s.calls)
  p1 : w.cell? ⟨P, 1, none⟩ = some (.int .i64 b.now)
theorem none_s {p pb D P : Nat} {s : St} {b : Bu} {w : World} {B : Nat → Prop} (h : stars (t4 p pb D P s s b) w B) : NoneS p pb D P s b w := by
  obtain ⟨B1, h1, _⟩ := part_at 0 rfl h
  obtain ⟨_, h2, _⟩ := part_at 1 rfl h
  obtain ⟨_, h3, _⟩ := part_at 2 rfl h
  obtain ⟨_, h4, _⟩ := part_at 3 rfl h
  exact ⟨⟨B1, h1⟩, h2.at, rdisk_calls h3, by rw [cells_at h4.2.1]; rfl⟩
theorem NoneS.gr {p pb D P : Nat} {s : St} {b : Bu} {w u : World} {B : Nat → Prop} (h : stars (t4 p pb D P s s b) w B) (g : Gr w u) : NoneS p pb D P s b u := none_s (stars_gr (frs_t4 _ _ _ _ _ _ _) h g)
end Go.Proofs.YtojlceoeacebmaaGreat
/- A range over a function that hands out what lies in new memory: the loop's body is told what holds of it then (Pr). Beside the library's law: there a body knows of a value no more than its type. -/
namespace Go.Proofs.YtojlceoeacebmaaGreat
open Go.RowKit
set_option linter.unusedVariables false
set_option linter.unusedSimpArgs false
set_option maxRecDepth 20000
/-- The iterator's word: behind pre it asks for a round of x only where Pr holds of both. -/
def SeqTold {α : Type} (n : Nat) (P : Program) (g : Nat) (lb : Array Value) (encs : α → Array Value) (Pr : List α → α → World → Prop) (Kp : World → World → Prop) (S Sp : List α → Prop) (w : World) : Prop :=
  ∀ (l : Nat) (J Jx : List α → World → Prop) (W : World), Below w.heap.size w W → (∀ s A B, J s A → Gr A B → J s B) →
    (∀ pre x W1, J pre W1 → Pr pre x W1 → YieldAt Fence.wide (n - 1) P l (encs x) W1 fun e W' =>
      (e = .returned (.bool true) ∧ J (pre ++ [x]) W' ∧ Kp W1 W') ∨ (e = .returned (.bool false) ∧ Jx (pre ++ [x]) W')) →
    J [] W →
    CallsIn Fence.wide n P g (#[.func (.yield l) #[] #[]] ++ lb) W fun e W' => (∃ v, e = .returned v) ∧ ((∃ xs, S xs ∧ J xs W') ∨ (∃ pre, Sp pre ∧ Jx pre W'))

theorem gr_grown {A B : World} (h : Gr A B) : A.grownBy B none := ⟨h.1, h.2, h.3, h.size, fun k hk _ => h.block k hk⟩
theorem own_gr {β : Type} {C : Nat} {I : β → World → Prop} (h : OwnFrom C I) {s : β} {A B : World} (hs : I s A) (g : Gr A B) : I s B := h s A B none hs (gr_grown g) (fun r e => by cases e)

/-- The loop's record at l is r, and the block at D for its rounds' deferred calls is empty. -/
def LoopAt (l D : Nat) (r : Loop) (W : World) : Prop := W.heap[l]? = some (.loop r) ∧ W.heap[D]? = some (.deferred (some []))
theorem LoopAt.turn {l D : Nat} {r : Loop} {W : World} (h : LoopAt l D r W) (hne : l ≠ D) (r' : Loop) : LoopAt l D r' (W.putObj l (.loop r')) :=
  ⟨World.putObj_heap_same (Array.getElem?_eq_some_iff.1 h.1).1, (World.putObj_heap_other (Ne.symm hne)).trans h.2⟩
theorem LoopAt.kept {C l D : Nat} {r : Loop} {A B : World} (h : LoopAt l D r A) (hl : C ≤ l) (hD : C ≤ D) (k : KeepsFrom C A B) : LoopAt l D r B := ⟨k.same _ _ hl h.1 rfl, k.same _ _ hD h.2 rfl⟩
theorem LoopAt.gr {l D : Nat} {r : Loop} {A B : World} (h : LoopAt l D r A) (g : Gr A B) : LoopAt l D r B :=
  ⟨(g.block l (Array.getElem?_eq_some_iff.1 h.1).1).trans h.1, (g.block D (Array.getElem?_eq_some_iff.1 h.2).1).trans h.2⟩
/-- What a jump out of a body leaves to be done. -/
def JumpOf : Exit → Option (Option Code)
  | .normal => some none
  | .ret => some (some .ret)
  | .exit id => some (some (.exit id))
  | .goto t => some (some (.goto t))
  | .panic _ => none
  | .outgrown => none
/-- What a body's walk owes, by the jump by which it is left: none: it goes on. -/
def ToldPost {α : Type} (C : Nat) (Kp : World → World → Prop) (I : List α → World → Prop) (Ix : Code → List α → World → Prop) (xs : List α) (W : World) (e : Exit) (_ : Act) (W' : World) : Prop :=
  ∃ j, JumpOf e = some j ∧ KeepsFrom C W W' ∧ (j = none → Kp W W' ∧ I xs W') ∧ (∀ c, j = some c → Ix c xs W')
theorem told_on {α : Type} {C : Nat} {Kp : World → World → Prop} {I : List α → World → Prop} {Ix : Code → List α → World → Prop} {xs : List α} {W W' : World} {a : Act} (h1 : KeepsFrom C W W') (h2 : Kp W W') (h3 : I xs W') : ToldPost C Kp I Ix xs W .normal a W' :=
  ⟨none, rfl, h1, fun _ => ⟨h2, h3⟩, fun c e => by cases e⟩
theorem told_exit {α : Type} {C : Nat} {Kp : World → World → Prop} {I : List α → World → Prop} {Ix : Code → List α → World → Prop} {xs : List α} {W W' : World} {a : Act} {id : Nat} (h1 : KeepsFrom C W W') (h3 : Ix (.exit id) xs W') : ToldPost C Kp I Ix xs W (.exit id) a W' :=
  ⟨some (.exit id), rfl, h1, fun e => (by cases e), fun c e => by cases e; exact h3⟩
theorem told_ret {α : Type} {C : Nat} {Kp : World → World → Prop} {I : List α → World → Prop} {Ix : Code → List α → World → Prop} {xs : List α} {W W' : World} {a : Act} (h1 : KeepsFrom C W W') (h3 : Ix .ret xs W') : ToldPost C Kp I Ix xs W .ret a W' :=
  ⟨some .ret, rfl, h1, fun e => (by cases e), fun c e => by cases e; exact h3⟩

section
variable {α : Type} {n : Nat} {P : Program} {gf : Nat} {lb : Array Value} {encs : α → Array Value} {Pr : List α → α → World → Prop} {Kp : World → World → Prop} {S Sp : List α → Prop}
/-- A round that has come to its end by the jump j. -/
theorem told_end {C l D : Nat} {r : Loop} {I : List α → World → Prop} {Ix : Code → List α → World → Prop} {xs : List α} {W1 W3 : World} (hC : C ≤ l) (hne : l ≠ D)
    (hI : OwnFrom C I) (hIx : ∀ c, OwnFrom C (Ix c)) (hKb : ∀ (W : World) (o o' : Obj), W.heap[l]? = some o → o.isCells = false → Kp W (W.putObj l o')) (hKt : ∀ {A B C : World}, Kp A B → Kp B C → Kp A C)
    (hl : LoopAt l D r W3) (j : Option Code) (h1 : j = none → Kp W1 W3 ∧ I xs W3) (h2 : ∀ c, j = some c → Ix c xs W3) :
    ∃ v w', (Instr.endRound l j).run P W3 = .ok v w' ∧ ((Ending.returned v = .returned (.bool true) ∧ (I xs w' ∧ LoopAt l D { r with state := .ready, pending := none } w') ∧ Kp W1 w') ∨
      (Ending.returned v = .returned (.bool false) ∧ ∃ c, Ix c xs w' ∧ LoopAt l D { r with state := .done, pending := some c } w')) := by
  refine ⟨_, _, run_endRound j hl.1, ?_⟩
  cases j with
  | none => exact .inl ⟨rfl, ⟨hI.putObj _ (h1 rfl).2 hC hl.1 rfl, hl.turn hne _⟩, hKt (h1 rfl).1 (hKb _ _ _ hl.1 rfl)⟩
  | some c => exact .inr ⟨rfl, c, (hIx c).putObj _ (h2 c rfl) hC hl.1 rfl, hl.turn hne _⟩
/-- The statement 'for .. := range g', where g is a closure. -/
theorem wpIn_told {g : Operand} {ps : Array Tmp} {assign body : Code} {Q : Exit → Act → World → Prop} {a : Act} {w w0 : World}
    (h1 : 1 ≤ n) (hg : a.eval g = .func (.func gf) #[] lb) (eg : ∀ args w, (callFunc gf args).run P w = .ok (.enter gf args) w)
    (hseq : SeqTold (n - 1) P gf lb encs Pr Kp S Sp w0) (hKt : ∀ {A B C : World}, Kp A B → Kp B C → Kp A C)
    (hKb : ∀ (W : World) (l : Nat) (o o' : Obj), w.heap.size ≤ l → W.heap[l]? = some o → o.isCells = false → Kp W (W.putObj l o'))
    (hb0 : Below w0.heap.size w0 w) (hps : ∀ x, (encs x).size = ps.size)
    (I : List α → World → Prop) (Ix : Code → List α → World → Prop) (hI : OwnFrom w.heap.size I) (hIx : ∀ c, OwnFrom w.heap.size (Ix c)) (hPr : ∀ pre, OwnFrom w.heap.size (Pr pre)) (h0 : I [] w) (a₁ : α → Act)
    (hassign : ∀ (l : Nat) (x : α) (W : World) (K : Act → World → Prop), K (a₁ x) W →
      assign.wpIn (Fence.wide.inRound l) (n - 1 - 1) P (Exit.then K (fun _ _ _ => False)) { tmps := (ps.zip (encs x)).foldl (fun t (p, v) => t.setIfInBounds p v) a.tmps, defers := [] } W)
    (hbody : ∀ (l : Nat) (pre : List α) (x : α) (W : World), I pre W → Pr pre x W → body.wpIn (Fence.wide.inRound l) (n - 1 - 1) P (ToldPost w.heap.size Kp I Ix (pre ++ [x]) W) (a₁ x) W)
    (hdone : ∀ (D : Nat) (xs : List α) (W : World), w.heap.size ≤ D → S xs → I xs W → W.heap[D]? = some (.deferred (some [])) → Q .normal { a with defers := { target := .collected D, args := #[] } :: a.defers } W)
    (hstop : ∀ (D : Nat) (c : Code) (pre : List α) (W : World), w.heap.size ≤ D → Sp pre → Ix c pre W → W.heap[D]? = some (.deferred (some [])) → c.wpIn Fence.wide n P Q { a with defers := { target := .collected D, args := #[] } :: a.defers } W) :
    (Code.rangeFunc g ps assign body).wpIn Fence.wide n P Q a w := by
  refine wpIn_rangeFunc fun fn hfn => ?_
  obtain ⟨D, hD⟩ : ∃ D, D = w.heap.size := ⟨_, rfl⟩
  obtain ⟨l, hl⟩ : ∃ l, l = w.heap.size + 1 := ⟨_, rfl⟩
  have hne : l ≠ D := by omega
  obtain ⟨r, hr⟩ : ∃ r : Loop, r = { state := .ready, pending := none, fn, tmps := a.tmps, params := ps, assign, body, defers := w.heap.size } := ⟨_, rfl⟩
  obtain ⟨W1, hW1⟩ : ∃ W1, W1 = (w.alloc (.deferred (some []))).alloc (.loop r) := ⟨_, rfl⟩
  have hg1 : Gr w W1 := by rw [hW1]; exact ((Gr.refl w).alloc (Nat.le_refl _) _).alloc (by simp) _
  have hL1 : LoopAt l D r W1 := by
    rw [hW1, hl, hD]
    refine ⟨?_, (Below.heap_alloc _ _ _ (by simp)).trans (World.alloc_heap_new w _)⟩
    have := World.alloc_heap_new (w.alloc (.deferred (some []))) (.loop r)
    rwa [World.size_alloc] at this
  refine ⟨l, [{ target := .collected w.heap.size, args := #[] }], W1, { target := .fn (.func gf) lb, args := #[.func (.yield l) #[] #[]] }, W1, gf, #[.func (.yield l) #[] #[]] ++ lb, W1, ?_, ?_, fun _ _ => trivial, ?_, fun _ => h1, ?_⟩
  · rw [hW1, hr, hl]; exact run_enterLoop_outer _ _ _ _ _
  · simp only [resolve, hg]; simp [go_sem]
  · simp [invoke, go_sem, eg]
  refine (hseq l (fun pre W => I pre W ∧ LoopAt l D r W) (fun pre W => ∃ c, Ix c pre W ∧ LoopAt l D { r with state := .done, pending := some c } W) W1
    (hb0.trans (Below.mono hg1 hb0.size)) (fun s A B hs g => ⟨own_gr hI hs.1 g, hs.2.gr g⟩) ?_ ⟨own_gr hI h0 hg1, hL1⟩).mono ?_
  · rintro pre x W ⟨hi, hla⟩ hx
    have hCl : w.heap.size ≤ l := by omega
    have hy := run_yield (P := P) (args := encs x) hla.1 (by rw [hr]; exact hps x)
    obtain ⟨W2, hW2⟩ : ∃ W2, W2 = W.putObj l (.loop { r with state := .busy }) := ⟨_, rfl⟩
    have hbeg : (Instr.beginRound l).run P W = .ok () W2 := by rw [hW2]; exact run_beginRound hla.1 (by rw [hr])
    have hl2 : LoopAt l D { r with state := .busy } W2 := by rw [hW2]; exact hla.turn hne _
    have hk2 : Kp W W2 := by rw [hW2]; exact hKb _ _ _ _ hCl hla.1 rfl
    have hi2 : I pre W2 := by rw [hW2]; exact hI.putObj _ hi hCl hla.1 rfl
    have hx2 : Pr pre x W2 := by rw [hW2]; exact (hPr pre).putObj _ hx hCl hla.1 rfl
    have hrt : r.tmps = a.tmps ∧ r.params = ps ∧ r.assign = assign ∧ r.body = body ∧ r.fn = fn := by rw [hr]; exact ⟨rfl, rfl, rfl, rfl, rfl⟩
    rw [hrt.1, hrt.2.1, hrt.2.2.1, hrt.2.2.2.1, hrt.2.2.2.2] at hy
    refine ⟨fn, _, assign, body, hy, roundIn_of_wpIn hfn (hassign _ x W _ ⟨W2, hbeg, ?_⟩)⟩
    refine wpIn_mono (hbody l pre x W2 hi2 hx2) ?_
    rintro e a3 W3 ⟨j, hj, hk3, hn, hc⟩
    have hend := told_end (P := P) (W1 := W) (Ix := Ix) hCl hne hI hIx (fun W o o' h ho => hKb W l o o' hCl h ho) hKt (hl2.kept hCl (by omega) hk3) j (fun e => ⟨hKt hk2 (hn e).1, (hn e).2⟩) hc
    have hready : ({ ({ r with state := .busy } : Loop) with state := .ready, pending := none } : Loop) = r := by rw [hr]
    have hdn : ∀ c, ({ ({ r with state := .busy } : Loop) with state := .done, pending := some c } : Loop) = { r with state := .done, pending := some c } := fun c => rfl
    rw [hready] at hend
    cases e <;> simp only [JumpOf, Option.some.injEq, reduceCtorEq] at hj <;> subst hj <;> exact hend
  · have hCl : w.heap.size ≤ l := by omega
    subst hD
    rintro e W2 ⟨⟨v, rfl⟩, (⟨xs, hS, hi, hla⟩ | ⟨pre, hSp, c, hi, hla⟩)⟩
    · have hpe : r.pending = none := by rw [hr]
      have := run_endLoop (P := P) hla.1 (by rw [hr]; simp)
      rw [hpe] at this
      exact ⟨none, _, this, hdone _ xs _ (Nat.le_refl _) hS (hI.putObj _ hi hCl hla.1 rfl) (hla.turn hne _).2⟩
    · have := run_endLoop (P := P) hla.1 (by simp)
      exact ⟨some c, _, this, hstop _ c pre _ (Nat.le_refl _) hSp ((hIx c).putObj _ hi hCl hla.1 rfl) (hla.turn hne _).2⟩
end
end Go.Proofs.YtojlceoeacebmaaGreat
/- slices.Chunk of a slice of strings, by fours: its call, and its iterator. -/
namespace Go.Proofs.YtojlceoeacebmaaGreat
open Go.RowKit Go.Shelf CrcPlain OctPlain FramePlain RecPlain
set_option linter.unusedVariables false
set_option linter.unusedSimpArgs false
set_option maxRecDepth 20000
attribute [local go_sem] Oper.semAt_some
/-- The j-th four of a slice, as a slice. -/
def fourV (b off n j : Nat) : Value := .slice (some ⟨b, off + 4 * j, none⟩) (min 4 (n - 4 * j)) (min 4 (n - 4 * j))
theorem addr_add (b off j : Nat) : Addr.add ⟨b, off, none⟩ j = ⟨b, off + j, none⟩ := by by_cases h : j = 0 <;> simp [Addr.add, h]
theorem from_run (b off n c i : Nat) (h1 : i < n) (h2 : n ≤ c) (w : World) :
    (Instr.slice 54 (.slice (some ⟨b, off, none⟩) n c) (some (.int .i64 (i : Int))) none none).run Tryz.prog w = .ok (.slice (some ⟨b, off + i, none⟩) (n - i) (c - i)) w := by
  have hne : c ≠ i := by omega
  have h3 : (i : Int) ≤ (n : Int) := by omega
  have h4 : i ≤ n := by omega
  simp [Instr.slice, Instr.sliceBounds, run_underlying Tryz.underlying54, run_underlying Tryz.underlying9, go_sem, sliced, hne, h3, h4, addr_add, show Tryz.prog.cellsOf 9 = 1 by kernel_rfl]
theorem full_run (b off n c i e : Nat) (h1 : 1 ≤ e) (h2 : i + e ≤ n) (h3 : n ≤ c) (w : World) :
    (Instr.slice 54 (.slice (some ⟨b, off, none⟩) n c) (some (.int .i64 (i : Int))) (some (.int .i64 ((i : Int) + (e : Int)))) (some (.int .i64 ((i : Int) + (e : Int))))).run Tryz.prog w = .ok (.slice (some ⟨b, off + i, none⟩) e e) w := by
  have hne : i + e ≠ i := by omega
  have k1 : (i : Int) + (e : Int) ≤ (c : Int) := by omega
  have k2 : (i : Int) ≤ (i : Int) + (e : Int) := by omega
  have k3 : ((i : Int) + (e : Int)).toNat = i + e := by omega
  have k4 : (0 : Int) ≤ (i : Int) + (e : Int) := by omega
  simp [Instr.slice, Instr.sliceBounds, run_underlying Tryz.underlying54, run_underlying Tryz.underlying9, go_sem, sliced, hne, k1, k2, k3, k4, addr_add, show ¬ e = 0 by omega, show Tryz.prog.cellsOf 9 = 1 by kernel_rfl]
/-- What the iterator reads between two rounds. -/
def ChunkKeep (Bs Bn : Nat) (W W' : World) : Prop := W.heap.size ≤ W'.heap.size ∧ W'.heap[Bs]? = W.heap[Bs]? ∧ W'.heap[Bn]? = W.heap[Bn]?
def ChunkAt (a : Option Addr) (n c Bs Bn : Nat) (J : List Nat → World → Prop) (i : Value) (wr : World) : Prop :=
  ∃ k : Nat, 4 * k ≤ n + 3 ∧ i = .int .i64 ((4 * k : Nat) : Int) ∧ J (List.range k) wr ∧ wr.heap[Bs]? = some (.cells #[.slice a n c] 54 (0, 0)) ∧ wr.heap[Bn]? = some (.cells #[.int .i64 4] 3 (0, 0))
end Go.Proofs.YtojlceoeacebmaaGreat

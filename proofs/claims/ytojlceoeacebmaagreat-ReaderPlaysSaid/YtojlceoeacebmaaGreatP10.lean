/- In one text: FsCreate, FsNew, FsNames, FsFall, FsRise, FsA, Rd1. -/
import Derived.Test.YtojlceoeacebmaaGreatP09
import Derived.Test.YtojlceoeacebmaaGreatP01
import Derived.Shelf.SlIter.Nil
import Derived.Shelf.SortM.Plain
import Derived.Shelf.SortM.SortNone
import Derived.Ground.GgzProg
import Derived.Ground.SlgmProg
import Derived.Sort.OwnSorted
import Derived.StillTailTactics
import Derived.Test.YtojlceoeacebmaaGreatP07
import Derived.Test.YtojlceoeacebmaaGreatP08
import Derived.Deep.RegionHeld3
/- The contracts of place and Create. -/
namespace Go.Proofs.YtojlceoeacebmaaGreat
open Go.RowKit FsPlain Go.Maps
set_option linter.unusedVariables false
set_option linter.unusedSimpArgs false
set_option maxRecDepth 20000

def Own (m k : Nat) (D : DataW Unit) (w : World) : Prop := w.ownsMap Tryz.prog 9 ptrElem m k D
theorem Own.gr {m k : Nat} {D : DataW Unit} {w w' : World} (h : Own m k D w) (g : Gr w w') : Own m k D w' := own_only h (Only.ofGr (B := fun _ => False) g) (fun e => e)
theorem Own.drew {m k : Nat} {D : DataW Unit} {w : World} (h : Own m k D w) : Own m k D w.drew := h

theorem put_run (m b : Nat) (n : ByteArray) (hn : n.size ≤ maxLen) : ∃ W : World → World, ∀ u k D, Own m k D u → k < maxLen →
    (Instr.mapUpdate 63 (.map (some m)) (.string n) (.pointer (some ⟨b, 0, none⟩))).run Tryz.prog u = .ok () (W u) ∧ Own m (k + 1) (D.put (.string n.data.toList) (.lit (.int .i64 (b : Int)))) (W u) ∧ Only (fun i => i = m) u (W u) := by
  have hkey := WideMaps.keyOf_string_mk (P := Tryz.prog) (k := 9) Tryz.underlying9 hn
  have h : ∀ u : World, ∃ v : World, (∃ k D, Own m k D u ∧ k < maxLen) →
    (Instr.mapUpdate 63 (.map (some m)) (.string n) (.pointer (some ⟨b, 0, none⟩))).run Tryz.prog u = .ok () v := by
    intro u
    by_cases ho : ∃ k D, Own m k D u ∧ k < maxLen
    · obtain ⟨k, D, ho, hk⟩ := ho
      obtain ⟨v, h1, h2, h3⟩ := World.ownsMap.update ho lawS Tryz.underlying63 hk hkey (ptr_mk b)
      exact ⟨v, fun _ => h1⟩
    · exact ⟨u, fun h => absurd h ho⟩
  refine ⟨fun u => Classical.choose (h u), fun u k D ho hk => ?_⟩
  have h0 := Classical.choose_spec (h u) ⟨k, D, ho, hk⟩
  obtain ⟨v, h1, h2, h3⟩ := World.ownsMap.update ho lawS Tryz.underlying63 hk hkey (ptr_mk b)
  have hv : v = Classical.choose (h u) := by rw [h0] at h1; simp only [Result.ok.injEq] at h1; exact h1.2.symm
  rw [hv] at h2 h3
  exact ⟨h0, h2, Only.grown h3 (fun j hj => by cases hj; rfl)⟩

set_option maxRecDepth 20000 in
set_option maxHeartbeats 1000000 in
theorem place_c (p m b k : Nat) (s : St) (D : DataW Unit) (n : ByteArray) (w : World) (h : w.heap[p]? = some (.cells (dcells s m) 65 (0, 0))) (hpm : p ≠ m) (ho : Own m k D w) (hn : n.size ≤ 1000) (hk : k ≤ 1000000) :
    Calls Tryz.prog 28 #[.pointer (some ⟨p, 0, none⟩), .string n, .pointer (some ⟨b, 0, none⟩)] w fun e w' => e = .returned (.tuple #[]) ∧ Own m (k + 1) (D.put (.string n.data.toList) (.lit (.int .i64 (b : Int)))) w' ∧ Only (fun i => i = m) w w' := by
  obtain ⟨W, hW⟩ := put_run m b n (by unfold maxLen; omega)
  have hk1 : k < maxLen := by unfold maxLen; omega
  have hk2 : k + 1 < maxLen := by unfold maxLen; omega
  have hc : w.cell? ⟨p, 1, none⟩ = some (.map (some m)) := by rw [cells_at h]; rfl
  have hrun := (hW w.drew k D ho.drew hk1).1
  have hplt := lt_of_block h
  have CC := clone_c n w.drew hn
  have HC := Lib.hid hc
  have HW := Lib.hid hW
  have HO := Lib.hid ho
  clear h hW ho
  go_enter Tryz.func28, Tryz.ntmps28
  go_wp2_with fail
  go_region_held3 (fun w' => w'.cell? ⟨p, 1, none⟩ = some (.map (some m)) ∧ (Instr.mapUpdate 63 (.map (some m)) (.string n) (.pointer (some ⟨b, 0, none⟩))).run Tryz.prog w' = .ok () (W w')) (first | (refine ⟨by rw [(HW.out _ _ _ (HO.out.drew.gr g) hk1).2.2.cell (by exact Nat.lt_of_lt_of_le hplt g.size) hpm, g.cell (by simpa using hplt)]; exact HC.out, (HW.out _ _ _ (HW.out _ _ _ (HO.out.drew.gr g) hk1).2.1 hk2).1⟩) | (refine ⟨by rw [g.cell (by simpa using hplt)]; exact HC.out, (HW.out _ _ _ (HO.out.drew.gr g) hk1).1⟩) | (refine ⟨by go_keep, hrun⟩)) ((go_at_call 41; ((with_reducible refine (CC).mono ?_); rintro e u ⟨rfl, g⟩)))
  all_goals
    go_wp2_with fail
    go_end0
    exact ⟨rfl, (HW.out _ _ _ (HO.out.drew.gr g) hk1).2.1, (Only.ofGr (Gr.ofDrew g)).trans (HW.out _ _ _ (HO.out.drew.gr g) hk1).2.2⟩

def insL (x : Pl) : List Pl → List Pl
  | [] => [x]
  | y :: r => if (Lit.string x.f.name).before (.string y.f.name) = true then x :: y :: r else y :: insL x r
theorem insL_map (x : Pl) : ∀ L : List Pl, (insL x L).map (·.f) = insF x.f (L.map (·.f))
  | [] => rfl
  | y :: r => by
    simp only [List.map_cons]
    unfold insL insF
    split
    · simp
    · simp only [List.map_cons, insL_map x r]
theorem insL_perm (x : Pl) : ∀ L, (insL x L).Perm (x :: L)
  | [] => List.Perm.refl _
  | y :: r => by
    unfold insL
    split
    · exact List.Perm.refl _
    · exact ((insL_perm x r).cons y).trans (List.Perm.swap _ _ _)
theorem insL_ents (x : Pl) : ∀ L : List Pl, (insL x L).map (fun x => ((.string x.f.name : Lit), (DataW.lit (.int .i64 (x.blk : Int)) : DataW Unit))) = DataW.insert (.string x.f.name, .lit (.int .i64 (x.blk : Int))) (L.map fun x => (.string x.f.name, .lit (.int .i64 (x.blk : Int))))
  | [] => rfl
  | y :: r => by
    simp only [List.map_cons]
    unfold insL DataW.insert
    split
    · simp
    · simp only [List.map_cons, insL_ents x r]
theorem ents_put {L : List Pl} {x : Pl} (h : L.find? (fun y => y.f.name == x.f.name) = none) : ents (insL x L) = (ents L).put (.string x.f.name) (.lit (.int .i64 (x.blk : Int))) := by
  unfold ents DataW.put
  rw [insL_ents]
  congr 2
  symm
  rw [List.filter_eq_self]
  intro p hp
  obtain ⟨y, hy, rfl⟩ := List.mem_map.1 hp
  have := List.find?_eq_none.1 h y hy
  simp only [beq_iff_eq] at this
  simp [Lit.sameKey, this]

theorem DiskAt.born {w2 w3 w4 : World} {p m : Nat} {s : St} {B : Nat → Prop} {L : List Pl} {n : List UInt8} (h : DiskAt w2 p s B m L) (hf : L.find? (fun y => y.f.name == n) = none)
    (h3 : w3 = w2.alloc (.cells #[.slice none 0 0, .int .i64 0] 74)) (ho : Own m (L.length + 1) ((ents L).put (.string n) (.lit (.int .i64 (w2.heap.size : Int)))) w4) (g : Only (fun i => i = m) w3 w4) :
    DiskAt w4 p { s with fs := insF ⟨n, [], 0⟩ s.fs } (fun b => B b ∨ (w2.heap.size ≤ b ∧ b < w4.heap.size)) m (insL ⟨⟨n, [], 0⟩, w2.heap.size, .slice none 0 0⟩ L) := by
  have hs3 : w3.heap.size = w2.heap.size + 1 := by rw [h3]; simp
  have hs4 := g.size
  have h03 : Only (fun i => i = m) w2 w3 := by rw [h3]; exact Only.alloc _ _ _
  have g4 := h03.trans g
  have hperm := insL_perm ⟨⟨n, [], 0⟩, w2.heap.size, .slice none 0 0⟩ L
  have hbp : (blocks (insL ⟨⟨n, [], 0⟩, w2.heap.size, .slice none 0 0⟩ L)).Perm (w2.heap.size :: blocks L) := by
    refine (hperm.flatMap_right _).trans ?_
    simp [blocks, plBlocks, Value.ownBlock]
  have hlow : ∀ i, i ∈ p :: m :: blocks L → i < w2.heap.size := fun i hi => h.low i (h.mine i hi)
  have hap := h.apart
  have hpm : p ≠ m := fun e => by
    simp only [List.nodup_cons, List.mem_cons, not_or] at hap; exact hap.1.1 e
  have hmlow := hlow m (by simp)
  refine ⟨?_, ?_, ?_, ?_, ?_, ?_, ?_⟩
  · rw [g4.block p (lt_of_block h.heap) hpm]; exact h.heap
  · rw [ents_put (x := ⟨⟨n, [], 0⟩, w2.heap.size, .slice none 0 0⟩) hf, hperm.length_eq]; exact ho
  · rw [insL_map]; show insF _ _ = insF _ _; rw [h.fs]
  · intro y hy
    rcases List.mem_cons.1 (hperm.mem_iff.1 hy) with rfl | hy
    · refine ⟨?_, World.ownsRow_nil _ _ _ _⟩
      show w4.heap[w2.heap.size]? = _
      rw [g.block _ (by omega) (by show ¬ w2.heap.size = m; omega), h3]
      exact heap_alloc_new w2 _
    · exact (h.file y hy).only g4 fun b hb e => by
        have e2 : b = m := e
        subst e2
        simp only [List.nodup_cons] at hap
        exact hap.2.1 (mem_blocks hy hb)
  · refine (((hbp.cons m).cons p).symm).nodup ?_
    refine List.Perm.nodup (l := w2.heap.size :: p :: m :: blocks L) ?_ (List.nodup_cons.2 ⟨fun hi => by have := hlow _ hi; omega, hap⟩)
    exact (List.Perm.swap _ _ _).trans ((List.Perm.swap _ _ _).cons p)
  · intro b hb
    have hb2 : b ∈ w2.heap.size :: p :: m :: blocks L := by
      simp only [List.mem_cons] at hb ⊢
      rcases hb with e | e | e
      · exact .inr (.inl e)
      · exact .inr (.inr (.inl e))
      · rcases List.mem_cons.1 (hbp.mem_iff.1 e) with e | e
        · exact .inl e
        · exact .inr (.inr (.inr e))
    rcases List.mem_cons.1 hb2 with e | e
    · exact .inr ⟨by omega, by omega⟩
    · exact .inl (h.mine b e)
  · intro b hb
    rcases hb with e | e
    · exact Nat.lt_of_lt_of_le (h.low b e) g4.size
    · exact e.2

set_option maxRecDepth 20000 in
set_option maxHeartbeats 1000000 in
theorem create_c (p : Nat) (s : St) (B : Nat → Prop) (n : ByteArray) (w : World) (h : Disk w p s B) (hn : n.size ≤ maxLen) (hm : rightB n.data.toList = true) (h1 : s.calls ≤ 1000000000000) :
    Calls Tryz.prog 7 #[.pointer (some ⟨p, 0, none⟩), .string n] w (Tells w p (createR s n.data.toList).1 B (.int .i64 (createR s n.data.toList).2)) := by
  obtain ⟨hs, m, L, hD⟩ := h
  have C1 := right_c n hn w
  rw [hm] at C1
  have hn24 : n.data.toList.length ≤ 24 := by
    unfold rightB at hm; simp only [Bool.and_eq_true, decide_eq_true_eq] at hm; exact hm.2.2
  have hnz : n.size ≤ 24 := hn24
  have C2 := call_yes p m s w hD.heap hs.c0 h1 hs.a0 hs.a1
  obtain ⟨c, hc⟩ : ∃ c, c = s.call.code := ⟨_, rfl⟩
  rw [← hc] at C2
  have HC := Lib.hid hc
  have HS := Lib.hid hs
  have HD := Lib.hid hD
  have HN24 := Lib.hid hn24
  clear hD hm hs hc hn24
  go_enter Tryz.func7, Tryz.ntmps7
  go_wp2_with fail
  refine C1.mono ?_; rintro e w2 ⟨rfl, rfl⟩
  go_wp2_with fail
  refine C2.mono ?_; rintro e w2 ⟨rfl, k⟩
  have D2 := HD.out.called k
  have HNX := Lib.hid (next_called HS.out D2 k.2)
  have HK := Lib.hid k
  have HD2 := Lib.hid D2
  clear k D2
  cases hd : s.call.down
  · obtain rfl : c = 0 := by rw [HC.out]; simp [St.code, hd]
    have c1 : w2.cell? ⟨p, 1, none⟩ = some (.map (some m)) := by rw [cells_at HD2.out.heap]; rfl
    rcases HD2.out.look n hn with ⟨hg, hf, hl⟩ | ⟨x, hg, hf, hl⟩
    · have hlk := hl w2 HD2.out.own
      have how := HD2.out.own
      have hLl : L.length = s.fs.length := by rw [← HD.out.fs]; simp
      by_cases h200 : 200 ≤ L.length
      · have HR : Hid (createR s n.data.toList = (s.call, 4)) := Lib.hid (by have hg' : s.get n.data.toList = none := hg; simp [createR, hd, hg', ← hLl, h200])
        have t1 : decide (200 ≤ (L.length : Int)) = true := by rw [decide_eq_true_iff]; omega
        clear hd hg hf hl hLl h200
        go_wp2_with (first | (at_len; refine wpList_len_own _ rfl _ 63 rfl 9 70 Tryz.underlying63 _ m L.length (ents L) rfl how ?_; rw [ents_size]) | fail)
        go_ret
        exact ⟨by rw [HR.out] <;> rfl, by rw [HR.out]; exact HNX.out⟩
      · have HR : Hid (createR s n.data.toList = ({ s.call with fs := insF ⟨n.data.toList, [], 0⟩ s.fs }, 0)) := Lib.hid (by have hg' : s.get n.data.toList = none := hg; simp [createR, hd, hg', ← hLl, h200])
        obtain ⟨w3, hw3⟩ : ∃ w3, w3 = w2.alloc (.cells #[.slice none 0 0, .int .i64 0] 74) := ⟨_, rfl⟩
        have hok := ok_create (ok_call HS.out) (n := n.data.toList) hg HN24.out (show s.fs.length < 200 by omega)
        have hh3 : w3.heap[p]? = some (.cells (dcells s.call m) 65 (0, 0)) := by rw [hw3]; rw [Below.heap_alloc _ _ _ (lt_of_block HD2.out.heap)]; exact HD2.out.heap
        have ho3 : Own m L.length (ents L) w3 := by rw [hw3]; exact own_only HD2.out.own (Only.alloc (fun _ => False) _ _) (fun e => e)
        have hpm : p ≠ m := fun e => by
          have hap := HD2.out.apart
          simp only [List.nodup_cons, List.mem_cons, not_or] at hap; exact hap.1.1 e
        have CP := place_c p m w2.heap.size L.length s.call (ents L) n w3 hh3 hpm ho3 (by omega) (by omega)
        have HW3 := Lib.hid hw3
        have HOK := Lib.hid hok
        have HF := Lib.hid hf
        rw [hw3] at CP
        have t1 : decide (200 ≤ (L.length : Int)) = false := by rw [decide_eq_false_iff_not]; omega
        clear hd hg hf hl hLl hw3 hok hh3 ho3 h200 hnz
        go_wp2_with (first | (at_len; refine wpList_len_own _ rfl _ 63 rfl 9 70 Tryz.underlying63 _ m L.length (ents L) rfl how ?_; rw [ents_size]) | fail)
        refine CP.mono ?_; rintro e w4 ⟨rfl, ho, g⟩
        rw [← HW3.out] at g
        have HO4 := Lib.hid ho
        have HG := Lib.hid g
        clear ho g
        go_wp2_with fail
        go_ret
        refine ⟨by rw [HR.out] <;> rfl, ?_⟩
        rw [HR.out]
        have hB := HD2.out.born HF.out HW3.out HO4.out HG.out
        refine ⟨_, ⟨HOK.out, _, _, hB⟩, ?_, ?_⟩
        · have h23 : Only B w2 w3 := by rw [HW3.out]; exact Only.alloc _ _ _
          exact ((HK.out.2.mono fun i e => by subst e; exact HD.out.mine _ (by simp)).trans h23).trans (HG.out.mono fun i e => by subst e; exact HD.out.mine _ (by simp))
        · intro b hb
          rcases hb with hb | hb
          · exact .inl hb
          · exact .inr (Nat.le_trans HK.out.2.size hb.1)
    · have hlk := hl w2 HD2.out.own
      have HR : Hid (createR s n.data.toList = (s.call, 3)) := Lib.hid (by have hg' : s.get n.data.toList = some x.f := hg; simp [createR, hd, hg'])
      clear hd hg hf hl
      go_wp2_with fail
      go_ret
      exact ⟨by rw [HR.out] <;> rfl, by rw [HR.out]; exact HNX.out⟩
  · obtain rfl : c = 5 := by rw [HC.out]; simp [St.code, hd]
    have HR : Hid (createR s n.data.toList = (s.call, 5)) := Lib.hid (by simp [createR, hd])
    clear hd
    go_wp2_with fail
    go_ret
    exact ⟨by rw [HR.out] <;> rfl, by rw [HR.out]; exact HNX.out⟩
end Go.Proofs.YtojlceoeacebmaaGreat
/- The contracts of New, Arm and Calls. -/
namespace Go.Proofs.YtojlceoeacebmaaGreat
open Go.RowKit FsPlain Go.Maps
set_option linter.unusedVariables false
set_option linter.unusedSimpArgs false
set_option maxRecDepth 20000

def fresh (room : Int) : St := ⟨room, 0, -1, false, []⟩
theorem fresh_ok {room : Int} (h0 : 0 ≤ room) (h1 : room ≤ 16777216) : (fresh room).ok :=
  ⟨h0, h1, Int.le_refl 0, Int.le_refl (-1), by show (-1 : Int) ≤ _; omega, by show ((0 : Nat) : Int) ≤ room; omega, (fun f hf => by cases hf), (fun f hf => by cases hf), by show 0 ≤ 200; omega, List.Pairwise.nil⟩

/-- A new disk, in new blocks. -/
def Born (room : Int) (w : World) (e : Ending) (w' : World) : Prop :=
  ∃ p B, e = .returned (.tuple #[.pointer (some ⟨p, 0, none⟩), .int .i64 0]) ∧ Disk w' p (fresh room) B ∧ Gr w w' ∧ ∀ b, B b → w.heap.size ≤ b

set_option maxRecDepth 20000 in
set_option maxHeartbeats 1000000 in
theorem new_c (room : Int) (h0 : 0 ≤ room) (h1 : room ≤ 16777216) (w : World) : Calls Tryz.prog 5 #[.int .i64 room] w (Born room w) := by
  have hmm := @run_makeMap Tryz.prog
  go_enter Tryz.func5, Tryz.ntmps5
  go_wp2_with fail
  go_ret2
  obtain ⟨w1, hw1⟩ : ∃ w1, w1 = w.alloc (.map #[] 0) := ⟨_, rfl⟩
  obtain ⟨w2, hw2⟩ : ∃ w2, w2 = w1.alloc (.cells (dcells (fresh room) w.heap.size) 65) := ⟨_, rfl⟩
  have s1 : w1.heap.size = w.heap.size + 1 := by rw [hw1]; simp
  have s2 : w2.heap.size = w.heap.size + 2 := by rw [hw2]; simp [s1]
  have hown : w1.ownsMap Tryz.prog 9 ptrElem w.heap.size 0 (ents []) := by rw [hw1]; exact World.ownsMap_made _ _ _ _
  have hD : DiskAt w2 (w.heap.size + 1) (fresh room) (fun b => b = w.heap.size ∨ b = w.heap.size + 1) w.heap.size [] := by
    refine ⟨?_, ?_, rfl, (fun x hx => by cases hx), by simp [blocks], ?_, ?_⟩
    · rw [hw2, ← s1]; exact heap_alloc_new w1 _
    · rw [hw2]; exact own_only hown (Only.alloc (fun _ => False) _ _) (fun e => e)
    · intro b hb; simp [blocks] at hb; rcases hb with e | e
      · exact .inr e
      · exact .inl e
    · intro b hb; rcases hb with e | e <;> omega
  refine ⟨w.heap.size + 1, (fun b => b = w.heap.size ∨ b = w.heap.size + 1), rfl, ⟨fresh_ok h0 h1, w.heap.size, [], ?_⟩, ?_, fun b hb => by rcases hb with e | e <;> omega⟩
  · have : w2 = _ := hw2
    rw [hw1] at this
    rw [this] at hD
    exact hD
  · exact (((Below.refl _ _).alloc (Nat.le_refl _) _).alloc (by simp) _)

theorem new_bad (room : Int) (h : room < 0 ∨ 16777216 < room) (w : World) : Calls Tryz.prog 5 #[.int .i64 room] w fun e w' => e = .returned (.tuple #[.pointer none, .int .i64 1]) ∧ w = w' := by
  by_cases h0 : room < 0
  all_goals
    go_enter Tryz.func5, Tryz.ntmps5
    go_wp2_with fail
    go_ret2
    exact ⟨rfl, rfl⟩
def armed (s : St) (n : Int) : St := { s with ahead := max n (-1) }
set_option maxRecDepth 20000 in
set_option maxHeartbeats 1000000 in
theorem arm_c (p : Nat) (s : St) (B : Nat → Prop) (n : Int) (w : World) (h : Disk w p s B) (h0 : -9223372036854775808 ≤ n) (h1 : n ≤ 9223372036854775807) :
    Calls Tryz.prog 12 #[.pointer (some ⟨p, 0, none⟩), .int .i64 n] w (Tells w p (armed s n) B (.tuple #[])) := by
  obtain ⟨hs, m, L, hD⟩ := h
  have C0 := made_c p m s w hD.heap
  have c3 : w.cell? ⟨p, 3, none⟩ = some (.int .i64 s.ahead) := by rw [cells_at hD.heap]; rfl
  have f3 := cells_free hD.heap 3
  have key : ∀ a, a = max n (-1) → Next w p (armed s n) B (w.setCell ⟨p, 3, none⟩ (.int .i64 a)) := by
    intro a ha
    subst ha
    have o := Only.cell1 w p 3 (.int .i64 (max n (-1)))
    have hD2 := hD.own_block o (s' := armed s n) (by rw [cells_set hD.heap 3 _]; rfl) rfl
    have ho2 : (armed s n).ok := ⟨hs.r0, hs.r1, hs.c0, by show -1 ≤ max n (-1); omega, by show max n (-1) ≤ _; omega, hs.u, hs.k, hs.n, hs.m, hs.d⟩
    exact ⟨B, ⟨ho2, m, L, hD2⟩, o.mono fun i e => by subst e; exact hD.mine _ (by simp), fun i hi => .inl hi⟩
  have HK := Lib.hid key
  clear key hs hD
  go_enter Tryz.func12, Tryz.ntmps12
  go_wp2_with fail
  refine C0.mono ?_; rintro e w2 ⟨rfl, rfl⟩
  go_wp2_with fail
  all_goals
    go_end0
    exact ⟨rfl, HK.out _ (by omega)⟩

theorem calls_c (p : Nat) (s : St) (B : Nat → Prop) (w : World) (h : Disk w p s B) : Calls Tryz.prog 17 #[.pointer (some ⟨p, 0, none⟩)] w fun e w' => e = .returned (.int .i64 s.calls) ∧ w = w' := by
  obtain ⟨hs, m, L, hD⟩ := h
  have C0 := made_c p m s w hD.heap
  have c2 : w.cell? ⟨p, 2, none⟩ = some (.int .i64 s.calls) := by rw [cells_at hD.heap]; rfl
  clear hs hD
  go_enter Tryz.func17, Tryz.ntmps17
  go_wp2_with fail
  refine C0.mono ?_; rintro e w2 ⟨rfl, rfl⟩
  go_wp2_with fail
  go_ret
  exact ⟨rfl, rfl⟩
end Go.Proofs.YtojlceoeacebmaaGreat
/- The names of a map of files, sorted: the library's contracts of slices.Sorted and maps.Keys, laid at this program's numbers; and the contract of names. -/
namespace Go.Proofs.YtojlceoeacebmaaGreat
open Go.RowKit Go.Maps Go.Sort Go.Shelf FsPlain
set_option linter.unusedVariables false
set_option linter.unusedSimpArgs false
set_option maxRecDepth 20000
/-- The names of the files, in order, in a row of the call's own. -/
def Names (w : World) (l : List (List UInt8)) (e : Ending) (w' : World) : Prop :=
  ∃ v, e = .returned v ∧ w'.ownsRow w.heap.size 9 1 v l.length (l.map encStr) ∧ Gr w w'

theorem str_keys (L : List Pl) : strKeys (ents L) = L.map fun x => x.f.name := by
  unfold ents strKeys
  simp [Function.comp_def]
  intro a _; rfl

end Go.Proofs.YtojlceoeacebmaaGreat
/- The contract of a file's fall; the order of the names. -/
namespace Go.Proofs.YtojlceoeacebmaaGreat
open Go.RowKit Go.Maps FsPlain
set_option linter.unusedVariables false
set_option linter.unusedSimpArgs false
set_option maxRecDepth 20000

theorem before_le : ∀ a b : List UInt8, bytesBefore a b = true → a ≤ b
  | [], b, _ => List.nil_le b
  | _ :: _, [], h => by simp [bytesBefore] at h
  | x :: r, y :: q, h => by
    simp only [bytesBefore, Bool.or_eq_true, Bool.and_eq_true, decide_eq_true_eq, beq_iff_eq] at h
    rw [List.cons_le_cons_iff]
    rcases h with h | ⟨h1, h2⟩
    · exact .inl h
    · exact .inr ⟨h1, before_le r q h2⟩

theorem DiskAt.sorted {w : World} {p m : Nat} {s : St} {B : Nat → Prop} {L : List Pl} (h : DiskAt w p s B m L) : (L.map fun x => x.f.name).mergeSort (fun x y => decide (x ≤ y)) = L.map fun x => x.f.name := by
  obtain ⟨es, clock, _, F, _, hD⟩ := h.own
  have hp := sorted_sorted lawS.one _ (fit_keys F) (fit_apart lawS F)
  unfold ents at hD
  simp only [DataW.map.injEq] at hD
  rw [← hD] at hp
  rw [List.pairwise_map] at hp
  refine List.mergeSort_of_pairwise ?_
  rw [List.pairwise_map]
  exact hp.imp fun h => by simpa using before_le _ _ h

theorem row_cut {w : World} {a : Option Addr} {n c : Nat} {l : List UInt8} (h : w.ownsRow 0 5 1 (.slice a n c) n (Lib.byteCells l)) (k : Nat) (hk : k ≤ n) : w.ownsRow 0 5 1 (.slice a k c) k (Lib.byteCells (l.take k)) := by
  have hl : l.length = n := by have := h.1; simpa [Lib.byteCells_length] using this
  refine ⟨by rw [Lib.byteCells_length, List.length_take]; omega, ?_⟩
  rcases h.2 with ⟨h1, h2⟩ | ⟨g, cap, cur, hv, hb, hg, hn, hc, hs, ht⟩
  · simp only [Value.slice.injEq] at h1
    obtain ⟨rfl, _, rfl⟩ := h1
    have : k = 0 := by omega
    subst this
    exact .inl ⟨rfl, rfl⟩
  · simp only [Value.slice.injEq] at hv
    obtain ⟨rfl, _, rfl⟩ := hv
    refine .inr ⟨g, _, cur, rfl, hb, hg, by omega, hc, hs, ?_⟩
    have : (Lib.byteCells l).take k = Lib.byteCells (l.take k) := by simp [Lib.byteCells, List.map_take]
    rw [← this, ← ht, List.take_take]
    congr 1
    omega

theorem own_blk (a : Option Addr) (n c n' c' : Nat) : (Value.slice a n c).ownBlock = (Value.slice a n' c').ownBlock := by cases a <;> rfl
def stays (f : F) (k : Int) : Nat := f.kept + min (max k 0).toNat (f.data.length - f.kept)

def Fell (w : World) (x : Pl) (k : Int) (e : Ending) (w' : World) : Prop :=
  e = .returned (.tuple #[]) ∧ Only (fun i => i = x.blk) w w' ∧ ∃ v', FileAt w' ⟨fall x.f k, x.blk, v'⟩ ∧ v'.ownBlock = x.v.ownBlock

end Go.Proofs.YtojlceoeacebmaaGreat
/- The contract of Rise: by a walk of its loop over the names. -/
namespace Go.Proofs.YtojlceoeacebmaaGreat
open Go.RowKit Go.Maps FsPlain
set_option linter.unusedVariables false
set_option linter.unusedSimpArgs false
set_option maxRecDepth 20000

/-- A row of numbers that is only read. -/
def KeepAt (w : World) (B : Nat → Prop) (a : Option Addr) (ks : List Int) : Prop :=
  ks = [] ∨ ∃ kb ko, a = some ⟨kb, ko, none⟩ ∧ kb < w.heap.size ∧ ¬ B kb ∧ ∀ j k, ks[j]? = some k → w.cell? ⟨kb, ko + j, none⟩ = some (.int .i64 k)

structure RiseAt (p m : Nat) (s : St) (B : Nat → Prop) (ks : List Int) (w1 : World) (i : Value) (wr : World) (j : Nat) : Prop where
  ival : i = .int .i64 (j : Int)
  jle : j ≤ s.fs.length
  ok : (riseN s ks j).ok
  d : ∃ Bj L, DiskAt wr p (riseN s ks j) Bj m L ∧ ∀ b, Bj b → B b ∨ w1.heap.size ≤ b
  o : Only B w1 wr

def RiseIn (p m : Nat) (s : St) (B : Nat → Prop) (ks : List Int) (w1 : World) (i : Value) (wr : World) : Prop := ∃ j, RiseAt p m s B ks w1 i wr j

theorem bs_list (l : List UInt8) : (bs l).data.toList = l := rfl

theorem fell_next {p m : Nat} {s : St} {B : Nat → Prop} {L : List Pl} {x : Pl} {n : List UInt8} {k : Int} {w w' : World} {e : Ending} (h : DiskAt w p s B m L) (hf : L.find? (fun x => x.f.name == n) = some x) (k' : Fell w x k e w') :
    ∃ L', DiskAt w' p (s.upd n (fun f => fall f k)) (fun b => B b ∨ (w.heap.size ≤ b ∧ b < w'.heap.size)) m L' := by
  obtain ⟨_, o, v', hF, hv⟩ := k'
  exact h.put hf (x' := ⟨fall x.f k, x.blk, v'⟩) (g := fun f => fall f k) rfl rfl rfl hF (o.mono fun i e => by subst e; simp [plBlocks]) (fun i hi => .inl (by rw [← hv]; exact hi))

theorem rise_step {p m : Nat} {s : St} {B : Nat → Prop} {ks : List Int} {w1 wr w' : World} {i : Value} {j : Nat} {e : Ending} {Bj : Nat → Prop} {L : List Pl} {x : Pl} (h : RiseAt p m s B ks w1 i wr j) (hj : j < s.fs.length)
    (hD : DiskAt wr p (riseN s ks j) Bj m L) (hB : ∀ b, Bj b → B b ∨ w1.heap.size ≤ b) (hf : L.find? (fun x => x.f.name == nameAt s.fs j) = some x) (hk : Fell wr x (ks.getD j 0) e w') :
    RiseAt p m s B ks w1 (.int .i64 ((j : Int) + 1)) w' (j + 1) := by
  have hg : (riseN s ks j).get (nameAt s.fs j) = some x.f := by
    unfold St.get; rw [← hD.fs, List.find?_map]
    have : ((fun f : F => f.name == nameAt s.fs j) ∘ fun x : Pl => x.f) = fun x : Pl => x.f.name == nameAt s.fs j := rfl
    rw [this, hf]; rfl
  obtain ⟨L', hD'⟩ := fell_next hD hf hk
  refine ⟨rfl, hj, ok_fall h.ok hg _, ⟨_, L', hD', fun b hb => ?_⟩, ?_⟩
  · rcases hb with hb | hb
    · exact hB b hb
    · exact .inr (Nat.le_trans h.o.size hb.1)
  · exact h.o.andThen hk.2.1 fun b e => by
      subst e
      exact hB _ (plBlocks_B hD (List.mem_of_find?_eq_some hf) _ (by simp [plBlocks]))

end Go.Proofs.YtojlceoeacebmaaGreat
/- The program's disk as a part of a world: what its calls leave. -/
namespace Go.Proofs.YtojlceoeacebmaaGreat
open Go.RowKit Go.Maps FsPlain
set_option linter.unusedVariables false
set_option linter.unusedSimpArgs false
set_option maxRecDepth 20000
def DiskA (p : Nat) (s : St) : Asn := fun w B => Disk w p s B
theorem fr_disk (p : Nat) (s : St) : Fr (DiskA p s) := ⟨fun h o d => Disk.only h o d, fun h => Disk.low h⟩
theorem tells_does {w w' : World} {p : Nat} {s : St} {B : Nat → Prop} {v : Value} {e : Ending} (h : Tells w p s B v e w') : Does w B (DiskA p s) v e w' := by
  obtain ⟨he, B', d, o, f⟩ := h
  exact ⟨he, B', d, o, f⟩
theorem d_create (p : Nat) (s : St) (n : ByteArray) (hn : n.size ≤ 1000) (hm : rightB n.data.toList = true) (h1 : s.calls ≤ 1000000000000) (w : World) (B : Nat → Prop) (h : DiskA p s w B) :
    Calls Tryz.prog 7 #[.pointer (some ⟨p, 0, none⟩), .string n] w (Does w B (DiskA p (createR s n.data.toList).1) (.int .i64 (createR s n.data.toList).2)) :=
  (create_c p s B n w h (by unfold maxLen; omega) hm h1).mono fun _ _ => tells_does
theorem d_append (p : Nat) (s : St) (n t : ByteArray) (hn : n.size ≤ 1000) (hm : rightB n.data.toList = true) (h1 : s.calls ≤ 1000000000000) (ht : t.size ≤ 1000000000) (w : World) (B : Nat → Prop) (h : DiskA p s w B) :
    Calls Tryz.prog 8 #[.pointer (some ⟨p, 0, none⟩), .string n, .string t] w (Does w B (DiskA p (appendR s n.data.toList t.data.toList).1) (.int .i64 (appendR s n.data.toList t.data.toList).2)) :=
  (append_c p s B n t w h (by unfold maxLen; omega) hm h1 (by omega)).mono fun _ _ => tells_does
theorem d_size (p : Nat) (s : St) (n : ByteArray) (hn : n.size ≤ 1000) (hm : rightB n.data.toList = true) (h1 : s.calls ≤ 1000000000000) (w : World) (B : Nat → Prop) (h : DiskA p s w B) :
    Calls Tryz.prog 68 #[.pointer (some ⟨p, 0, none⟩), .string n] w (Does w B (DiskA p s.call) (.tuple #[.int .i64 (sizeR s n.data.toList).1, .int .i64 (sizeR s n.data.toList).2])) :=
  (size_c p s B n w h (by unfold maxLen; omega) hm h1).mono fun _ _ => tells_does
theorem d_read (p : Nat) (s : St) (n : ByteArray) (i k : Nat) (hn : n.size ≤ 1000) (hm : rightB n.data.toList = true) (h1 : s.calls ≤ 1000000000000) (hi : i ≤ 1000000000) (hk : k ≤ 1000000000) (w : World) (B : Nat → Prop) (h : DiskA p s w B) :
    Calls Tryz.prog 84 #[.pointer (some ⟨p, 0, none⟩), .string n, .int .i64 (i : Int), .int .i64 (k : Int)] w (Does w B (DiskA p s.call) (.tuple #[.string (bs (readR s n.data.toList i k).1), .int .i64 (readR s n.data.toList i k).2])) :=
  (read_c p s B n i k w h (by unfold maxLen; omega) hm h1 (by omega) (by omega)).mono fun _ _ => tells_does
theorem d_arm (p : Nat) (s : St) (n : Int) (h0 : -9223372036854775808 ≤ n) (h1 : n ≤ 9223372036854775807) (w : World) (B : Nat → Prop) (h : DiskA p s w B) :
    Calls Tryz.prog 12 #[.pointer (some ⟨p, 0, none⟩), .int .i64 n] w (Does w B (DiskA p (armed s n)) (.tuple #[])) :=
  (arm_c p s B n w h h0 h1).mono fun _ _ => tells_does
theorem d_calls (p : Nat) (s : St) (w : World) (B : Nat → Prop) (h : DiskA p s w B) : Calls Tryz.prog 17 #[.pointer (some ⟨p, 0, none⟩)] w fun e w' => e = .returned (.int .i64 s.calls) ∧ w = w' := calls_c p s B w h
end Go.Proofs.YtojlceoeacebmaaGreat
/- The program's reader: where its bytes come from (look, pass); its parts. -/
namespace Go.Proofs.YtojlceoeacebmaaGreat
open Go.RowKit FsPlain CrcPlain OctPlain FramePlain RecPlain RdPlain
set_option linter.unusedVariables false
set_option linter.unusedSimpArgs false
set_option maxRecDepth 20000
/-- The four cells of where bytes come from. -/
structure IsSrc (c : Array Value) (D : Nat) (nm : ByteArray) (pos left : Nat) : Prop where
  c0 : c[0]? = some (.pointer (some ⟨D, 0, none⟩))
  c1 : c[1]? = some (.string nm)
  c2 : c[2]? = some (.int .i64 (pos : Nat))
  c3 : c[3]? = some (.int .i64 (left : Nat))
theorem frs_sd (q D : Nat) (c : Array Value) (T : TypeId) (s : St) : Frs [Blk q c T, DiskA D s] := ⟨fr_blk _ _ _, fr_disk _ _, trivial⟩
theorem sd_blk {q D : Nat} {c : Array Value} {T : TypeId} {s : St} {w : World} {B : Nat → Prop} (h : stars [Blk q c T, DiskA D s] w B) : w.heap[q]? = some (.cells c T (0, 0)) := by
  obtain ⟨_, h, _⟩ := part_at 0 rfl h
  exact h.1
/-- The four cells as a world has them. -/
def SrcAt (q D : Nat) (nm : ByteArray) (pos left : Nat) (w : World) : Prop := w.cell? ⟨q, 0, none⟩ = some (.pointer (some ⟨D, 0, none⟩)) ∧ w.cell? ⟨q, 1, none⟩ = some (.string nm) ∧ w.cell? ⟨q, 2, none⟩ = some (.int .i64 (pos : Nat)) ∧ w.cell? ⟨q, 3, none⟩ = some (.int .i64 (left : Nat))
theorem src_at {q D : Nat} {c : Array Value} {T : TypeId} {nm : ByteArray} {pos left : Nat} {w : World} (hc : IsSrc c D nm pos left) (hb : w.heap[q]? = some (.cells c T (0, 0))) : SrcAt q D nm pos left w :=
  ⟨by rw [cells_at hb, hc.c0], by rw [cells_at hb, hc.c1], by rw [cells_at hb, hc.c2], by rw [cells_at hb, hc.c3]⟩
set_option maxHeartbeats 2000000 in
theorem src_look (q D : Nat) (c : Array Value) (T : TypeId) (s : St) (nm : ByteArray) (pos left n : Nat) (hc : IsSrc c D nm pos left) (hn : nm.size ≤ 24) (hm : rightB nm.data.toList = true) (hk : s.calls ≤ 1000000000000) (hp : pos + left ≤ 16777216) (hnn : n ≤ 1000000) (w : World) (B : Nat → Prop) (h : stars [Blk q c T, DiskA D s] w B) :
    Calls Tryz.prog 69 #[.pointer (some ⟨q, 0, none⟩), .int .i64 (n : Nat)] w (Does w B (stars [Blk q c T, DiskA D s.call]) (.tuple #[.string (bs (readR s nm.data.toList pos (min n left)).1), .int .i64 (readR s nm.data.toList pos (min n left)).2])) := by
  obtain ⟨t, ht⟩ : ∃ t, t = bs (readR s nm.data.toList pos (min n left)).1 := ⟨_, rfl⟩
  obtain ⟨er, her⟩ : ∃ er, er = (readR s nm.data.toList pos (min n left)).2 := ⟨_, rfl⟩
  obtain ⟨ak, hak⟩ : ∃ ak, ak = min n left := ⟨_, rfl⟩
  have K0 : ∀ u, Gr w u → SrcAt q D nm pos left u := fun u g => src_at hc (sd_blk (stars_gr (frs_sd _ _ _ _ _) h g))
  have CR : ∀ u, Gr w u → Calls Tryz.prog 84 #[.pointer (some ⟨D, 0, none⟩), .string nm, .int .i64 (pos : Nat), .int .i64 (ak : Nat)] u fun e w' => e = .returned (.tuple #[.string t, .int .i64 er]) ∧ (∃ B', stars [Blk q c T, DiskA D s.call] w' B' ∧ Nx B w B' w') ∧ SrcAt q D nm pos left w' := fun u g => by
    rw [ht, her, hak]
    have C := does_at (f := 84) (Q := DiskA D s.call) 1 rfl (frs_sd _ _ _ _ _) (stars_gr (frs_sd _ _ _ _ _) h g) fun B2 h2 => d_read D s nm pos (min n left) (by omega) hm hk (by omega) (by omega) u B2 h2
    refine C.mono ?_
    rintro e w' ⟨he, B', h', n'⟩
    exact ⟨he, ⟨B', h', (Nx.gr g).trans n'⟩, src_at hc (sd_blk h')⟩
  rw [← ht, ← her]
  have ai : min (n : Int) (left : Int) = (ak : Nat) := by omega
  have hmin : min (n : Int) (left : Int) = n ∨ min (n : Int) (left : Int) = left := by omega
  have hk2 : (ak : Int) ≤ 1000000000 := by omega
  have KS := Lib.hid K0
  have CRH := Lib.hid CR
  have gU := Gr.refl w
  have gUd : Gr w w.drew := Below.drew gU
  clear h K0 CR ht her hak hc hn hm hk
  go_enter Tryz.func69, Tryz.ntmps69
  go_wp2_with fail
  go_region_held3 (fun w' => w'.cell? ⟨q, 0, none⟩ = some (.pointer (some ⟨D, 0, none⟩)) ∧ w'.cell? ⟨q, 1, none⟩ = some (.string nm) ∧ w'.cell? ⟨q, 2, none⟩ = some (.int .i64 (pos : Nat)) ∧ w'.cell? ⟨q, 3, none⟩ = some (.int .i64 (left : Nat))) (first | exact KS.out _ gUd | exact KS.out _ (by assumption) | assumption | go_keep)
    ((go_at_call 84; refine (CRH.out _ (by assumption)).mono ?_; rintro e t2 ⟨rfl, hst, hks⟩))
  obtain ⟨B2, h2, n2⟩ := hst
  have H2 := Lib.hid h2
  have N2 := Lib.hid n2
  clear h2 n2 hks
  go_wp2_with fail
  go_ret2
  exact ⟨rfl, B2, H2.out, N2.out⟩
set_option maxHeartbeats 2000000 in
theorem src_pass (q : Nat) (c c' : Array Value) (T : TypeId) (pos left n pos' left' : Nat) (h2 : c[2]? = some (.int .i64 (pos : Nat))) (h3 : c[3]? = some (.int .i64 (left : Nat))) (hp : pos' = pos + n) (hl : left = left' + n) (hb : pos + left ≤ 16777216) (hc' : (c.setIfInBounds 2 (.int .i64 (pos' : Nat))).setIfInBounds 3 (.int .i64 (left' : Nat)) = c') (w : World) (B : Nat → Prop) (h : Blk q c T w B) :
    Calls Tryz.prog 71 #[.pointer (some ⟨q, 0, none⟩), .int .i64 (n : Nat)] w (Does w B (Blk q c' T) (.tuple #[])) := by
  have c2 : w.cell? ⟨q, 2, none⟩ = some (.int .i64 (pos : Nat)) := by rw [cells_at h.1, h2]
  have f2 := cells_free h.1 2
  have e1 : (pos : Int) + n = (pos' : Nat) := by omega
  have e2 : (left : Int) - n = (left' : Nat) := by omega
  have b1 : (pos' : Int) ≤ 16777216 := by omega
  have b2 : (left' : Int) ≤ 16777216 := by omega
  have c3 : w.cell? ⟨q, 3, none⟩ = some (.int .i64 (left : Nat)) := by rw [cells_at h.1, h3]
  have f3 := cells_free h.1 3
  obtain ⟨B1, k1, n1⟩ := blk_next (i := 2) h (.int .i64 (pos' : Nat))
  obtain ⟨B2, k2, n2⟩ := blk_next (i := 3) k1 (.int .i64 (left' : Nat))
  rw [hc'] at k2
  have K2 := Lib.hid k2
  have N2 := Lib.hid (n1.trans n2)
  clear h h2 h3 k1 k2 n1 n2 hp hl hb hc'
  go_enter Tryz.func71, Tryz.ntmps71
  go_wp2_with fail
  go_end0
  exact ⟨rfl, B2, K2.out, N2.out⟩
/-! The reader. -/
/-- An open one's cells: k is the sum so far, t whether the end was told. -/
def rdc (D P : Nat) (y : Rs) (vq : Value) (k : Nat) (t : Bool) : Array Value := #[.pointer (some ⟨D, 0, none⟩), .string y.nm, .int .i64 (y.pos : Nat), .int .i64 (y.left : Nat), .pointer (some ⟨P, 0, none⟩), .int .i64 y.size, vq, .bool y.short, .int .i64 (y.told : Nat), .int .u32 (k : Nat), .bool t]
/-- Those of one that is shut. -/
def rdshut (n k : Nat) (t : Bool) : Array Value := #[.pointer none, .string ⟨#[]⟩, .int .i64 0, .int .i64 0, .pointer none, .int .i64 0, .slice none 0 0, .bool false, .int .i64 (n : Nat), .int .u32 (k : Nat), .bool t]
/-- The four parts. -/
def rol (x D P : Nat) (s : St) (b : Bu) (c : Array Value) (vq : Value) (queue : List ByteArray) : List Asn := [Blk x c 62, DiskA D s, QueA vq queue, BuA P b]
theorem frs_rol (x D P : Nat) (s : St) (b : Bu) (c : Array Value) (vq : Value) (queue : List ByteArray) : Frs (rol x D P s b c vq queue) := ⟨fr_blk _ _ _, fr_disk _ _, fr_que _ _, fr_bu _ _, trivial⟩
theorem rol_blk {x D P : Nat} {s : St} {b : Bu} {c : Array Value} {vq : Value} {queue : List ByteArray} {w : World} {B : Nat → Prop} (h : stars (rol x D P s b c vq queue) w B) : w.heap[x]? = some (.cells c 62 (0, 0)) := by
  obtain ⟨_, h, _⟩ := part_at 0 rfl h
  exact h.1
theorem rol_set {x D P : Nat} {s : St} {b : Bu} {c c' : Array Value} {vq : Value} {queue : List ByteArray} {w : World} {B : Nat → Prop} (i : Nat) (u : Value) (h : stars (rol x D P s b c vq queue) w B) (hc : c.setIfInBounds i u = c') :
    ∃ B', stars (rol x D P s b c' vq queue) (w.setCell ⟨x, i, none⟩ u) B' ∧ Nx B w B' (w.setCell ⟨x, i, none⟩ u) :=
  step_at (Q := Blk x c' 62) 0 rfl (frs_rol _ _ _ _ _ _ _ _) h fun B1 h1 => by rw [← hc]; exact blk_next h1 u
/-- Without its queue. -/
theorem rol_none {x D P : Nat} {s : St} {b : Bu} {c : Array Value} {vq : Value} {queue : List ByteArray} {w : World} {B : Nat → Prop} (h : stars (rol x D P s b c vq queue) w B) :
    ∃ B', stars (rol x D P s b c (.slice none 0 0) []) w B' ∧ Nx B w B' w :=
  step_at (Q := QueA (.slice none 0 0) []) 2 rfl (frs_rol _ _ _ _ _ _ _ _) h fun B1 h1 => ⟨_, que_nil w, Only.refl _ _, fun b hb => hb.elim⟩
theorem src_rdc (D P : Nat) (y : Rs) (vq : Value) (k : Nat) (t : Bool) : IsSrc (rdc D P y vq k t) D y.nm y.pos y.left := ⟨rfl, rfl, rfl, rfl⟩
/-- An open reader, its disk, its budget: whether the end was told. -/
def RO (x D P : Nat) (m : N3) (t : Bool) : Asn := fun w B => ∃ vq, stars (rol x D P m.s m.b (rdc D P m.x vq (sumN m.x.all) t) vq m.x.queue) w B
theorem fr_ro (x D P : Nat) (m : N3) (t : Bool) : Fr (RO x D P m t) := ⟨fun ⟨vq, h⟩ o d => ⟨vq, (fr_stars (frs_rol _ _ _ _ _ _ _ _)).fr h o d⟩, fun ⟨vq, h⟩ => (fr_stars (frs_rol _ _ _ _ _ _ _ _)).lo h⟩
/-- One that is shut, beside them. -/
def RSh (x D P : Nat) (s : St) (b : Bu) (n k : Nat) (t : Bool) : Asn := stars (rol x D P s b (rdshut n k t) (.slice none 0 0) [])
/-- The program's reader, its disk, its budget. -/
def RP3 (x D P : Nat) (m : N3) : Asn := fun w B => (m.x.opn = true ∧ RO x D P m false w B) ∨ (m.x.opn = false ∧ RSh x D P m.s m.b m.x.told (sumN m.x.all) m.x.whole w B)
theorem fr_rp3 (x D P : Nat) (m : N3) : Fr (RP3 x D P m) where
  fr := fun h o d => h.imp (fun h => ⟨h.1, (fr_ro _ _ _ _ _).fr h.2 o d⟩) fun h => ⟨h.1, (fr_stars (frs_rol _ _ _ _ _ _ _ _)).fr h.2 o d⟩
  lo := fun h => h.elim (fun h => (fr_ro _ _ _ _ _).lo h.2) fun h => (fr_stars (frs_rol _ _ _ _ _ _ _ _)).lo h.2
theorem rp3_open {x D P : Nat} {m : N3} {w : World} {B : Nat → Prop} (ho : m.x.opn = true) (h : RP3 x D P m w B) : RO x D P m false w B := by
  rcases h with ⟨_, h⟩ | ⟨h1, _⟩
  · exact h
  · rw [ho] at h1; cases h1
theorem rp3_shut {x D P : Nat} {m : N3} {w : World} {B : Nat → Prop} (ho : m.x.opn = false) (h : RP3 x D P m w B) : RSh x D P m.s m.b m.x.told (sumN m.x.all) m.x.whole w B := by
  rcases h with ⟨h1, _⟩ | ⟨_, h⟩
  · rw [ho] at h1; cases h1
  · exact h
end Go.Proofs.YtojlceoeacebmaaGreat

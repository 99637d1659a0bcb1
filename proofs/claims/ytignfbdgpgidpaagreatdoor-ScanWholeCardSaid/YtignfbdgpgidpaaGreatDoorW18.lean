/- In one text: FsCreate, FsNew, FsNames. -/
import Derived.Test.YtignfbdgpgidpaaGreatDoorW17
import Derived.Test.YtignfbdgpgidpaaGreatDoorW06
import Derived.Shelf.SlIter.Nil
import Derived.Shelf.SortM.Plain
import Derived.Shelf.SortM.SortNone
import Derived.Ground.GgzProg
import Derived.Ground.SlgmProg
import Derived.Sort.OwnSorted
/- The contracts of place and Create. -/
namespace Go.Proofs.YtignfbdgpgidpaaGreatDoor
open Go.RowKit FsPlain Go.Maps
set_option linter.unusedVariables false
set_option linter.unusedSimpArgs false
set_option maxRecDepth 20000
def Own (m k : Nat) (D : DataW Unit) (w : World) : Prop := w.ownsMap Tryz.prog 9 ptrElem m k D
theorem Own.gr {m k : Nat} {D : DataW Unit} {w w' : World} (h : Own m k D w) (g : Gr w w') : Own m k D w' := own_only h (Only.ofGr (B := fun _ => False) g) (fun e => e)
theorem Own.drew {m k : Nat} {D : DataW Unit} {w : World} (h : Own m k D w) : Own m k D w.drew := h
theorem put_run (m b : Nat) (n : ByteArray) (hn : n.size ≤ maxLen) : ∃ W : World → World, ∀ u k D, Own m k D u → k < maxLen →
    (Instr.mapUpdate 83 (.map (some m)) (.string n) (.pointer (some ⟨b, 0, none⟩))).run Tryz.prog u = .ok () (W u) ∧ Own m (k + 1) (D.put (.string n.data.toList) (.lit (.int .i64 (b : Int)))) (W u) ∧ Only (fun i => i = m) u (W u) := by
  have hkey := WideMaps.keyOf_string_mk (P := Tryz.prog) (k := 9) Tryz.underlying9 hn
  have h : ∀ u : World, ∃ v : World, (∃ k D, Own m k D u ∧ k < maxLen) →
    (Instr.mapUpdate 83 (.map (some m)) (.string n) (.pointer (some ⟨b, 0, none⟩))).run Tryz.prog u = .ok () v := by
    intro u
    by_cases ho : ∃ k D, Own m k D u ∧ k < maxLen
    · obtain ⟨k, D, ho, hk⟩ := ho
      obtain ⟨v, h1, h2, h3⟩ := World.ownsMap.update ho lawS Tryz.underlying83 hk hkey (ptr_mk b)
      exact ⟨v, fun _ => h1⟩
    · exact ⟨u, fun h => absurd h ho⟩
  refine ⟨fun u => Classical.choose (h u), fun u k D ho hk => ?_⟩
  have h0 := Classical.choose_spec (h u) ⟨k, D, ho, hk⟩
  obtain ⟨v, h1, h2, h3⟩ := World.ownsMap.update ho lawS Tryz.underlying83 hk hkey (ptr_mk b)
  have hv : v = Classical.choose (h u) := by rw [h0] at h1; simp only [Result.ok.injEq] at h1; exact h1.2.symm
  rw [hv] at h2 h3
  exact ⟨h0, h2, Only.grown h3 (fun j hj => by cases hj; rfl)⟩
set_option maxRecDepth 20000 in
set_option maxHeartbeats 1000000 in
theorem place_c (p m b k : Nat) (s : St) (D : DataW Unit) (n : ByteArray) (w : World) (h : w.heap[p]? = some (.cells (dcells s m) 85 (0, 0))) (hpm : p ≠ m) (ho : Own m k D w) (hn : n.size ≤ 1000) (hk : k ≤ 1000000) :
    Calls Tryz.prog 52 #[.pointer (some ⟨p, 0, none⟩), .string n, .pointer (some ⟨b, 0, none⟩)] w fun e w' => e = .returned (.tuple #[]) ∧ Own m (k + 1) (D.put (.string n.data.toList) (.lit (.int .i64 (b : Int)))) w' ∧ Only (fun i => i = m) w w' := by
  obtain ⟨W, hW⟩ := put_run m b n (by unfold maxLen; omega)
  have hk1 : k < maxLen := by unfold maxLen; omega
  have hk2 : k + 1 < maxLen := by unfold maxLen; omega
  have hc : w.cell? ⟨p, 1, none⟩ = some (.map (some m)) := by rw [cells_at h]; rfl
  have hrun := (hW w.drew k D ho.drew hk1).1
  have hplt := lt_of_block h
  have CC := clone_c n w.drew hn
  have HC := Lib.hid hc
  have HW := Lib.hid hW
  have HO := Lib.hid ho
  clear h hW ho
  go_enter Tryz.func52, Tryz.ntmps52
  go_wp2_with fail
  go_region_held3 (fun w' => w'.cell? ⟨p, 1, none⟩ = some (.map (some m)) ∧ (Instr.mapUpdate 83 (.map (some m)) (.string n) (.pointer (some ⟨b, 0, none⟩))).run Tryz.prog w' = .ok () (W w')) (first | (refine ⟨by rw [(HW.out _ _ _ (HO.out.drew.gr g) hk1).2.2.cell (by exact Nat.lt_of_lt_of_le hplt g.size) hpm, g.cell (by simpa using hplt)]; exact HC.out, (HW.out _ _ _ (HW.out _ _ _ (HO.out.drew.gr g) hk1).2.1 hk2).1⟩) | (refine ⟨by rw [g.cell (by simpa using hplt)]; exact HC.out, (HW.out _ _ _ (HO.out.drew.gr g) hk1).1⟩) | (refine ⟨by go_keep, hrun⟩)) ((go_at_call 83; ((with_reducible refine (CC).mono ?_); rintro e u ⟨rfl, g⟩)))
  all_goals
    go_wp2_with fail
    go_end0
    exact ⟨rfl, (HW.out _ _ _ (HO.out.drew.gr g) hk1).2.1, (Only.ofGr (Gr.ofDrew g)).trans (HW.out _ _ _ (HO.out.drew.gr g) hk1).2.2⟩
def insL (x : Pl) : List Pl → List Pl
  | [] => [x]
  | y :: r => if (Lit.string x.f.name).before (.string y.f.name) = true then x :: y :: r else y :: insL x r
theorem insL_map (x : Pl) : ∀ L : List Pl, (insL x L).map (·.f) = insF x.f (L.map (·.f))
  | [] => rfl
  | y :: r => by
    simp only [List.map_cons]
    unfold insL insF
    split
    · simp
    · simp only [List.map_cons, insL_map x r]
theorem insL_perm (x : Pl) : ∀ L, (insL x L).Perm (x :: L)
  | [] => List.Perm.refl _
  | y :: r => by
    unfold insL
    split
    · exact List.Perm.refl _
    · exact ((insL_perm x r).cons y).trans (List.Perm.swap _ _ _)
theorem insL_ents (x : Pl) : ∀ L : List Pl, (insL x L).map (fun x => ((.string x.f.name : Lit), (DataW.lit (.int .i64 (x.blk : Int)) : DataW Unit))) = DataW.insert (.string x.f.name, .lit (.int .i64 (x.blk : Int))) (L.map fun x => (.string x.f.name, .lit (.int .i64 (x.blk : Int))))
  | [] => rfl
  | y :: r => by
    simp only [List.map_cons]
    unfold insL DataW.insert
    split
    · simp
    · simp only [List.map_cons, insL_ents x r]
theorem ents_put {L : List Pl} {x : Pl} (h : L.find? (fun y => y.f.name == x.f.name) = none) : ents (insL x L) = (ents L).put (.string x.f.name) (.lit (.int .i64 (x.blk : Int))) := by
  unfold ents DataW.put
  rw [insL_ents]
  congr 2
  symm
  rw [List.filter_eq_self]
  intro p hp
  obtain ⟨y, hy, rfl⟩ := List.mem_map.1 hp
  have := List.find?_eq_none.1 h y hy
  simp only [beq_iff_eq] at this
  simp [Lit.sameKey, this]
theorem DiskAt.born {w2 w3 w4 : World} {p m : Nat} {s : St} {B : Nat → Prop} {L : List Pl} {n : List UInt8} (h : DiskAt w2 p s B m L) (hf : L.find? (fun y => y.f.name == n) = none)
    (h3 : w3 = w2.alloc (.cells #[.slice none 0 0, .int .i64 0] 96)) (ho : Own m (L.length + 1) ((ents L).put (.string n) (.lit (.int .i64 (w2.heap.size : Int)))) w4) (g : Only (fun i => i = m) w3 w4) :
    DiskAt w4 p { s with fs := insF ⟨n, [], 0⟩ s.fs } (fun b => B b ∨ (w2.heap.size ≤ b ∧ b < w4.heap.size)) m (insL ⟨⟨n, [], 0⟩, w2.heap.size, .slice none 0 0⟩ L) := by
  have hs3 : w3.heap.size = w2.heap.size + 1 := by rw [h3]; simp
  have hs4 := g.size
  have h03 : Only (fun i => i = m) w2 w3 := by rw [h3]; exact Only.alloc _ _ _
  have g4 := h03.trans g
  have hperm := insL_perm ⟨⟨n, [], 0⟩, w2.heap.size, .slice none 0 0⟩ L
  have hbp : (blocks (insL ⟨⟨n, [], 0⟩, w2.heap.size, .slice none 0 0⟩ L)).Perm (w2.heap.size :: blocks L) := by
    refine (hperm.flatMap_right _).trans ?_
    simp [blocks, plBlocks, Value.ownBlock]
  have hlow : ∀ i, i ∈ p :: m :: blocks L → i < w2.heap.size := fun i hi => h.low i (h.mine i hi)
  have hap := h.apart
  have hpm : p ≠ m := fun e => by
    simp only [List.nodup_cons, List.mem_cons, not_or] at hap; exact hap.1.1 e
  have hmlow := hlow m (by simp)
  refine ⟨?_, ?_, ?_, ?_, ?_, ?_, ?_⟩
  · rw [g4.block p (lt_of_block h.heap) hpm]; exact h.heap
  · rw [ents_put (x := ⟨⟨n, [], 0⟩, w2.heap.size, .slice none 0 0⟩) hf, hperm.length_eq]; exact ho
  · rw [insL_map]; show insF _ _ = insF _ _; rw [h.fs]
  · intro y hy
    rcases List.mem_cons.1 (hperm.mem_iff.1 hy) with rfl | hy
    · refine ⟨?_, World.ownsRow_nil _ _ _ _⟩
      show w4.heap[w2.heap.size]? = _
      rw [g.block _ (by omega) (by show ¬ w2.heap.size = m; omega), h3]
      exact heap_alloc_new w2 _
    · exact (h.file y hy).only g4 fun b hb e => by
        have e2 : b = m := e
        subst e2
        simp only [List.nodup_cons] at hap
        exact hap.2.1 (mem_blocks hy hb)
  · refine (((hbp.cons m).cons p).symm).nodup ?_
    refine List.Perm.nodup (l := w2.heap.size :: p :: m :: blocks L) ?_ (List.nodup_cons.2 ⟨fun hi => by have := hlow _ hi; omega, hap⟩)
    exact (List.Perm.swap _ _ _).trans ((List.Perm.swap _ _ _).cons p)
  · intro b hb
    have hb2 : b ∈ w2.heap.size :: p :: m :: blocks L := by
      simp only [List.mem_cons] at hb ⊢
      rcases hb with e | e | e
      · exact .inr (.inl e)
      · exact .inr (.inr (.inl e))
      · rcases List.mem_cons.1 (hbp.mem_iff.1 e) with e | e
        · exact .inl e
        · exact .inr (.inr (.inr e))
    rcases List.mem_cons.1 hb2 with e | e
    · exact .inr ⟨by omega, by omega⟩
    · exact .inl (h.mine b e)
  · intro b hb
    rcases hb with e | e
    · exact Nat.lt_of_lt_of_le (h.low b e) g4.size
    · exact e.2
set_option maxRecDepth 20000 in
set_option maxHeartbeats 1000000 in
theorem create_c (p : Nat) (s : St) (B : Nat → Prop) (n : ByteArray) (w : World) (h : Disk w p s B) (hn : n.size ≤ maxLen) (hm : rightB n.data.toList = true) (h1 : s.calls ≤ 1000000000000) :
    Calls Tryz.prog 19 #[.pointer (some ⟨p, 0, none⟩), .string n] w (Tells w p (createR s n.data.toList).1 B (.int .i64 (createR s n.data.toList).2)) := by
  obtain ⟨hs, m, L, hD⟩ := h
  have C1 := right_c n hn w
  rw [hm] at C1
  have hn24 : n.data.toList.length ≤ 24 := by
    unfold rightB at hm; simp only [Bool.and_eq_true, decide_eq_true_eq] at hm; exact hm.2.2
  have hnz : n.size ≤ 24 := hn24
  have C2 := call_yes p m s w hD.heap hs.c0 h1 hs.a0 hs.a1
  obtain ⟨c, hc⟩ : ∃ c, c = s.call.code := ⟨_, rfl⟩
  rw [← hc] at C2
  have HC := Lib.hid hc
  have HS := Lib.hid hs
  have HD := Lib.hid hD
  have HN24 := Lib.hid hn24
  clear hD hm hs hc hn24
  go_enter Tryz.func19, Tryz.ntmps19
  go_wp2_with fail
  refine C1.mono ?_; rintro e w2 ⟨rfl, rfl⟩
  go_wp2_with fail
  refine C2.mono ?_; rintro e w2 ⟨rfl, k⟩
  have D2 := HD.out.called k
  have HNX := Lib.hid (next_called HS.out D2 k.2)
  have HK := Lib.hid k
  have HD2 := Lib.hid D2
  clear k D2
  cases hd : s.call.down
  · obtain rfl : c = 0 := by rw [HC.out]; simp [St.code, hd]
    have c1 : w2.cell? ⟨p, 1, none⟩ = some (.map (some m)) := by rw [cells_at HD2.out.heap]; rfl
    rcases HD2.out.look n hn with ⟨hg, hf, hl⟩ | ⟨x, hg, hf, hl⟩
    · have hlk := hl w2 HD2.out.own
      have how := HD2.out.own
      have hLl : L.length = s.fs.length := by rw [← HD.out.fs]; simp
      by_cases h200 : 200 ≤ L.length
      · have HR : Hid (createR s n.data.toList = (s.call, 4)) := Lib.hid (by have hg' : s.get n.data.toList = none := hg; simp [createR, hd, hg', ← hLl, h200])
        have t1 : decide (200 ≤ (L.length : Int)) = true := by rw [decide_eq_true_iff]; omega
        clear hd hg hf hl hLl h200
        go_wp2_with (first | (at_len; refine wpList_len_own _ rfl _ 83 rfl 9 93 Tryz.underlying83 _ m L.length (ents L) rfl how ?_; rw [ents_size]) | fail)
        go_ret
        exact ⟨by rw [HR.out] <;> rfl, by rw [HR.out]; exact HNX.out⟩
      · have HR : Hid (createR s n.data.toList = ({ s.call with fs := insF ⟨n.data.toList, [], 0⟩ s.fs }, 0)) := Lib.hid (by have hg' : s.get n.data.toList = none := hg; simp [createR, hd, hg', ← hLl, h200])
        obtain ⟨w3, hw3⟩ : ∃ w3, w3 = w2.alloc (.cells #[.slice none 0 0, .int .i64 0] 96) := ⟨_, rfl⟩
        have hok := ok_create (ok_call HS.out) (n := n.data.toList) hg HN24.out (show s.fs.length < 200 by omega)
        have hh3 : w3.heap[p]? = some (.cells (dcells s.call m) 85 (0, 0)) := by rw [hw3]; rw [Below.heap_alloc _ _ _ (lt_of_block HD2.out.heap)]; exact HD2.out.heap
        have ho3 : Own m L.length (ents L) w3 := by rw [hw3]; exact own_only HD2.out.own (Only.alloc (fun _ => False) _ _) (fun e => e)
        have hpm : p ≠ m := fun e => by
          have hap := HD2.out.apart
          simp only [List.nodup_cons, List.mem_cons, not_or] at hap; exact hap.1.1 e
        have CP := place_c p m w2.heap.size L.length s.call (ents L) n w3 hh3 hpm ho3 (by omega) (by omega)
        have HW3 := Lib.hid hw3
        have HOK := Lib.hid hok
        have HF := Lib.hid hf
        rw [hw3] at CP
        have t1 : decide (200 ≤ (L.length : Int)) = false := by rw [decide_eq_false_iff_not]; omega
        clear hd hg hf hl hLl hw3 hok hh3 ho3 h200 hnz
        go_wp2_with (first | (at_len; refine wpList_len_own _ rfl _ 83 rfl 9 93 Tryz.underlying83 _ m L.length (ents L) rfl how ?_; rw [ents_size]) | fail)
        refine CP.mono ?_; rintro e w4 ⟨rfl, ho, g⟩
        rw [← HW3.out] at g
        have HO4 := Lib.hid ho
        have HG := Lib.hid g
        clear ho g
        go_wp2_with fail
        go_ret
        refine ⟨by rw [HR.out] <;> rfl, ?_⟩
        rw [HR.out]
        have hB := HD2.out.born HF.out HW3.out HO4.out HG.out
        refine ⟨_, ⟨HOK.out, _, _, hB⟩, ?_, ?_⟩
        · have h23 : Only B w2 w3 := by rw [HW3.out]; exact Only.alloc _ _ _
          exact ((HK.out.2.mono fun i e => by subst e; exact HD.out.mine _ (by simp)).trans h23).trans (HG.out.mono fun i e => by subst e; exact HD.out.mine _ (by simp))
        · intro b hb
          rcases hb with hb | hb
          · exact .inl hb
          · exact .inr (Nat.le_trans HK.out.2.size hb.1)
    · have hlk := hl w2 HD2.out.own
      have HR : Hid (createR s n.data.toList = (s.call, 3)) := Lib.hid (by have hg' : s.get n.data.toList = some x.f := hg; simp [createR, hd, hg'])
      clear hd hg hf hl
      go_wp2_with fail
      go_ret
      exact ⟨by rw [HR.out] <;> rfl, by rw [HR.out]; exact HNX.out⟩
  · obtain rfl : c = 5 := by rw [HC.out]; simp [St.code, hd]
    have HR : Hid (createR s n.data.toList = (s.call, 5)) := Lib.hid (by simp [createR, hd])
    clear hd
    go_wp2_with fail
    go_ret
    exact ⟨by rw [HR.out] <;> rfl, by rw [HR.out]; exact HNX.out⟩
end Go.Proofs.YtignfbdgpgidpaaGreatDoor
/- The contracts of New, Arm and Calls. -/
namespace Go.Proofs.YtignfbdgpgidpaaGreatDoor
open Go.RowKit FsPlain Go.Maps
set_option linter.unusedVariables false
set_option linter.unusedSimpArgs false
set_option maxRecDepth 20000
def fresh (room : Int) : St := ⟨room, 0, -1, false, []⟩
theorem fresh_ok {room : Int} (h0 : 0 ≤ room) (h1 : room ≤ 16777216) : (fresh room).ok :=
  ⟨h0, h1, Int.le_refl 0, Int.le_refl (-1), by show (-1 : Int) ≤ _; omega, by show ((0 : Nat) : Int) ≤ room; omega, (fun f hf => by cases hf), (fun f hf => by cases hf), by show 0 ≤ 200; omega, List.Pairwise.nil⟩
def Born (room : Int) (w : World) (e : Ending) (w' : World) : Prop :=
  ∃ p B, e = .returned (.tuple #[.pointer (some ⟨p, 0, none⟩), .int .i64 0]) ∧ Disk w' p (fresh room) B ∧ Gr w w' ∧ ∀ b, B b → w.heap.size ≤ b
set_option maxRecDepth 20000 in
set_option maxHeartbeats 1000000 in
theorem new_c (room : Int) (h0 : 0 ≤ room) (h1 : room ≤ 16777216) (w : World) : Calls Tryz.prog 16 #[.int .i64 room] w (Born room w) := by
  have hmm := @run_makeMap Tryz.prog
  go_enter Tryz.func16, Tryz.ntmps16
  go_wp2_with fail
  go_ret2
  obtain ⟨w1, hw1⟩ : ∃ w1, w1 = w.alloc (.map #[] 0) := ⟨_, rfl⟩
  obtain ⟨w2, hw2⟩ : ∃ w2, w2 = w1.alloc (.cells (dcells (fresh room) w.heap.size) 85) := ⟨_, rfl⟩
  have s1 : w1.heap.size = w.heap.size + 1 := by rw [hw1]; simp
  have s2 : w2.heap.size = w.heap.size + 2 := by rw [hw2]; simp [s1]
  have hown : w1.ownsMap Tryz.prog 9 ptrElem w.heap.size 0 (ents []) := by rw [hw1]; exact World.ownsMap_made _ _ _ _
  have hD : DiskAt w2 (w.heap.size + 1) (fresh room) (fun b => b = w.heap.size ∨ b = w.heap.size + 1) w.heap.size [] := by
    refine ⟨?_, ?_, rfl, (fun x hx => by cases hx), by simp [blocks], ?_, ?_⟩
    · rw [hw2, ← s1]; exact heap_alloc_new w1 _
    · rw [hw2]; exact own_only hown (Only.alloc (fun _ => False) _ _) (fun e => e)
    · intro b hb; simp [blocks] at hb; rcases hb with e | e
      · exact .inr e
      · exact .inl e
    · intro b hb; rcases hb with e | e <;> omega
  refine ⟨w.heap.size + 1, (fun b => b = w.heap.size ∨ b = w.heap.size + 1), rfl, ⟨fresh_ok h0 h1, w.heap.size, [], ?_⟩, ?_, fun b hb => by rcases hb with e | e <;> omega⟩
  · have : w2 = _ := hw2
    rw [hw1] at this
    rw [this] at hD
    exact hD
  · exact (((Below.refl _ _).alloc (Nat.le_refl _) _).alloc (by simp) _)
end Go.Proofs.YtignfbdgpgidpaaGreatDoor
/- The names of a map of files, sorted: the library's contracts of slices.Sorted and maps.Keys, laid at this program's numbers; and the contract of names. -/
namespace Go.Proofs.YtignfbdgpgidpaaGreatDoor
open Go.RowKit Go.Maps Go.Sort Go.Shelf FsPlain
set_option linter.unusedVariables false
set_option linter.unusedSimpArgs false
set_option maxRecDepth 20000
def keysLaid_ren : Go.Shelf.Ren := ⟨fun | 7 => 101 | 10 => 128 | n => n, fun | 23 => 83 | 26 => 9 | 3 => 93 | 28 => 141 | 0 => 0 | 27 => 140 | 33 => 100 | 4 => 4 | n => n, fun | n => n⟩
theorem keysLaid : Go.Proofs.SlLaysZ.n7 Tryz.prog keysLaid_ren := {
  mixed := by kernel_rfl
  f7 := ⟨Tryz.f101.name, by decide, Tryz.func101.trans (congrArg some (by kernel_rfl))⟩
  f10 := ⟨Tryz.f128.name, by decide, Tryz.func128.trans (congrArg some (by kernel_rfl))⟩
  t0 := Tryz.underlying0
  a0 := Tryz.isAgg0
  z0 := Tryz.sizeOf0
  v0 := Tryz.zeroValue0
  t4 := Tryz.underlying4
  a4 := Tryz.isAgg4
  z4 := Tryz.sizeOf4
  v4 := Tryz.zeroValue4
  t23 := Tryz.underlying83
  a23 := Tryz.isAgg83
  z23 := Tryz.sizeOf83
  v23 := Tryz.zeroValue83
  t26 := Tryz.underlying9
  a26 := Tryz.isAgg9
  z26 := Tryz.sizeOf9
  v26 := Tryz.zeroValue9
  t27 := Tryz.underlying140
  a27 := Tryz.isAgg140
  z27 := Tryz.sizeOf140
  v27 := Tryz.zeroValue140
  t28 := Tryz.underlying141
  a28 := Tryz.isAgg141
  z28 := Tryz.sizeOf141
  v28 := Tryz.zeroValue141
  t33 := Tryz.underlying100
  a33 := Tryz.isAgg100
  z33 := Tryz.sizeOf100
  v33 := Tryz.zeroValue100 }
def sortedLaid_ren : Go.Shelf.Ren := ⟨fun | 6 => 100 | 8 => 126 | 9 => 127 | 11 => 156 | 13 => 158 | 12 => 157 | 23 => 186 | 24 => 187 | 14 => 177 | 15 => 178 | 16 => 179 | 17 => 180 | 18 => 181 | 19 => 182 | 20 => 183 | 21 => 184 | 22 => 185 | 25 => 195 | 26 => 196 | 27 => 197 | 28 => 198 | 29 => 199 | 30 => 200 | 31 => 205 | n => n, fun | 26 => 9 | 28 => 141 | 24 => 23 | 0 => 0 | 3 => 3 | 37 => 77 | 48 => 46 | 50 => 218 | 4 => 4 | 40 => 211 | 39 => 210 | 45 => 192 | 5 => 5 | 9 => 9 | 51 => 223 | 55 => 227 | 57 => 230 | 58 => 231 | 33 => 100 | n => n, fun | n => n⟩
theorem sortedLaid : Go.Proofs.SlLaysZ.n6 Tryz.prog sortedLaid_ren := {
  mixed := by kernel_rfl
  f6 := ⟨Tryz.f100.name, by decide, Tryz.func100.trans (congrArg some (by kernel_rfl))⟩
  f8 := ⟨Tryz.f126.name, by decide, Tryz.func126.trans (congrArg some (by kernel_rfl))⟩
  f11 := ⟨Tryz.f156.name, by decide, Tryz.func156.trans (congrArg some (by kernel_rfl))⟩
  t0 := Tryz.underlying0
  a0 := Tryz.isAgg0
  z0 := Tryz.sizeOf0
  v0 := Tryz.zeroValue0
  t24 := Tryz.underlying23
  a24 := Tryz.isAgg23
  z24 := Tryz.sizeOf23
  v24 := Tryz.zeroValue23
  t26 := Tryz.underlying9
  a26 := Tryz.isAgg9
  z26 := Tryz.sizeOf9
  v26 := Tryz.zeroValue9
  t28 := Tryz.underlying141
  a28 := Tryz.isAgg141
  z28 := Tryz.sizeOf141
  v28 := Tryz.zeroValue141
  i26 := by kernel_rfl }
def sortLaid_ren : Go.Shelf.Ren := ⟨fun | 6 => 127 | 8 => 158 | 9 => 157 | 19 => 186 | 20 => 187 | 21 => 177 | 22 => 178 | 23 => 179 | 24 => 180 | 25 => 181 | 26 => 182 | 27 => 183 | 28 => 184 | 29 => 185 | 36 => 195 | 31 => 196 | 32 => 197 | 37 => 198 | 38 => 199 | 39 => 200 | 41 => 205 | n => n, fun | 27 => 23 | 29 => 9 | 3 => 3 | 32 => 77 | 26 => 23 | 0 => 0 | 44 => 46 | 46 => 218 | 4 => 4 | 36 => 211 | 35 => 210 | 41 => 192 | 5 => 5 | 9 => 9 | 53 => 223 | 57 => 227 | 63 => 230 | 64 => 231 | n => n, fun | n => n⟩
theorem sortLaid : Go.Proofs.SlLaysM.n6 Tryz.prog sortLaid_ren := {
  mixed := by kernel_rfl
  f6 := ⟨Tryz.f127.name, by decide, Tryz.func127.trans (congrArg some (by kernel_rfl))⟩
  f8 := Tryz.func158.trans (congrArg some (by kernel_rfl))
  f9 := ⟨Tryz.f157.name, by decide, Tryz.func157.trans (congrArg some (by kernel_rfl))⟩
  f19 := Tryz.func186.trans (congrArg some (by kernel_rfl))
  f20 := Tryz.func187.trans (congrArg some (by kernel_rfl))
  f21 := ⟨Tryz.f177.name, by decide, Tryz.func177.trans (congrArg some (by kernel_rfl))⟩
  f22 := ⟨Tryz.f178.name, by decide, Tryz.func178.trans (congrArg some (by kernel_rfl))⟩
  f23 := ⟨Tryz.f179.name, by decide, Tryz.func179.trans (congrArg some (by kernel_rfl))⟩
  f24 := ⟨Tryz.f180.name, by decide, Tryz.func180.trans (congrArg some (by kernel_rfl))⟩
  f25 := ⟨Tryz.f181.name, by decide, Tryz.func181.trans (congrArg some (by kernel_rfl))⟩
  f26 := ⟨Tryz.f182.name, by decide, Tryz.func182.trans (congrArg some (by kernel_rfl))⟩
  f27 := ⟨Tryz.f183.name, by decide, Tryz.func183.trans (congrArg some (by kernel_rfl))⟩
  f28 := ⟨Tryz.f184.name, by decide, Tryz.func184.trans (congrArg some (by kernel_rfl))⟩
  f29 := ⟨Tryz.f185.name, by decide, Tryz.func185.trans (congrArg some (by kernel_rfl))⟩
  f31 := Tryz.func196.trans (congrArg some (by kernel_rfl))
  f32 := Tryz.func197.trans (congrArg some (by kernel_rfl))
  f36 := ⟨Tryz.f195.name, by decide, Tryz.func195.trans (congrArg some (by kernel_rfl))⟩
  f37 := ⟨Tryz.f198.name, by decide, Tryz.func198.trans (congrArg some (by kernel_rfl))⟩
  f38 := ⟨Tryz.f199.name, by decide, Tryz.func199.trans (congrArg some (by kernel_rfl))⟩
  f39 := ⟨Tryz.f200.name, by decide, Tryz.func200.trans (congrArg some (by kernel_rfl))⟩
  f41 := ⟨Tryz.f205.name, by decide, Tryz.func205.trans (congrArg some (by kernel_rfl))⟩
  t0 := Tryz.underlying0
  a0 := Tryz.isAgg0
  z0 := Tryz.sizeOf0
  v0 := Tryz.zeroValue0
  t3 := Tryz.underlying3
  a3 := Tryz.isAgg3
  z3 := Tryz.sizeOf3
  v3 := Tryz.zeroValue3
  t4 := Tryz.underlying4
  a4 := Tryz.isAgg4
  z4 := Tryz.sizeOf4
  v4 := Tryz.zeroValue4
  t5 := Tryz.underlying5
  a5 := Tryz.isAgg5
  z5 := Tryz.sizeOf5
  v5 := Tryz.zeroValue5
  t9 := Tryz.underlying9
  a9 := Tryz.isAgg9
  z9 := Tryz.sizeOf9
  v9 := Tryz.zeroValue9
  t26 := Tryz.underlying23
  a26 := Tryz.isAgg23
  z26 := Tryz.sizeOf23
  v26 := Tryz.zeroValue23
  t27 := Tryz.underlying23
  a27 := Tryz.isAgg23
  z27 := Tryz.sizeOf23
  v27 := Tryz.zeroValue23
  t29 := Tryz.underlying9
  a29 := Tryz.isAgg9
  z29 := Tryz.sizeOf9
  v29 := Tryz.zeroValue9
  t32 := Tryz.underlying77
  a32 := Tryz.isAgg77
  z32 := Tryz.sizeOf77
  v32 := Tryz.zeroValue77
  t35 := Tryz.underlying210
  a35 := Tryz.isAgg210
  z35 := Tryz.sizeOf210
  v35 := Tryz.zeroValue210
  t36 := Tryz.underlying211
  a36 := Tryz.isAgg211
  z36 := Tryz.sizeOf211
  v36 := Tryz.zeroValue211
  t41 := Tryz.underlying192
  a41 := Tryz.isAgg192
  z41 := Tryz.sizeOf192
  v41 := Tryz.zeroValue192
  t44 := Tryz.underlying46
  a44 := Tryz.isAgg46
  z44 := Tryz.sizeOf46
  v44 := Tryz.zeroValue46
  t46 := Tryz.underlying218
  a46 := Tryz.isAgg218
  z46 := Tryz.sizeOf218
  v46 := Tryz.zeroValue218
  t53 := Tryz.underlying223
  a53 := Tryz.isAgg223
  z53 := Tryz.sizeOf223
  v53 := Tryz.zeroValue223
  t57 := Tryz.underlying227
  a57 := Tryz.isAgg227
  z57 := Tryz.sizeOf227
  v57 := Tryz.zeroValue227
  t63 := Tryz.underlying230
  a63 := Tryz.isAgg230
  z63 := Tryz.sizeOf230
  v63 := Tryz.zeroValue230
  t64 := Tryz.underlying231
  a64 := Tryz.isAgg231
  z64 := Tryz.sizeOf231
  v64 := Tryz.zeroValue231 }
theorem sorts_in (k : Nat) : AnyZ.SortsIn Tryz.prog sortedLaid_ren Fence.wide k :=
  ⟨fun blk off cap ss W hH hblk hsz => callsIn_wide.2 (AnyM.slices_Sort_string sortLaid blk off cap ss W hH hblk hsz),
   fun p cap W => callsIn_wide.2 (AnyM.slices_Sort_string_none sortLaid p cap W)⟩
theorem keys_in (mb : Option Nat) (W : World) : CallsIn Fence.wide 5 Tryz.prog 101 #[.map mb] W fun e w' => e = .returned (.func (.func 128) #[] #[.pointer (some ⟨W.heap.size, 0, none⟩)]) ∧ w' = W.alloc (.cells #[.map mb] 83) :=
  AnyZ.keys_in keysLaid Fence.wide 5 trivial rfl mb W
set_option maxRecDepth 20000 in
set_option maxHeartbeats 1000000 in
theorem sorted_in (b nn : Nat) (D0 : DataW Unit) (R : Value → Option (DataW Unit × List MemPlace)) (w : World) (hown : w.ownsMap Tryz.prog 9 R b nn D0) (hmax : Maps.size D0 ≤ maxLen) (hbytes : Maps.size D0 * 16 ≤ 140737488355328) :
    CallsIn Fence.wide 5 Tryz.prog 100 #[.func (.func 128) #[] #[.pointer (some ⟨w.heap.size, 0, none⟩)]] (w.alloc (.cells #[.map (some b)] 83)) fun e w' => ∃ (v : Value) (ss : List (List UInt8)), e = .returned v ∧ ss.Perm (strKeys D0) ∧
      w'.ownsRow (w.alloc (.cells #[.map (some b)] 83)).heap.size 9 1 v ss.length ((ss.mergeSort (fun x y => decide (x ≤ y))).map encStr) ∧ (v = .slice none 0 0 ↔ ss = []) ∧ Below (w.alloc (.cells #[.map (some b)] 83)).heap.size (w.alloc (.cells #[.map (some b)] 83)) w' := by
  have hbl := hown.lt
  have hseq : SeqGives Fence.wide 2 Tryz.prog 128 #[.pointer (some ⟨w.heap.size, 0, none⟩)] encStr (fun ss => ss.Perm (strKeys D0)) (Maps.size D0) (w.alloc (.cells #[.map (some b)] 83)) :=
    AnyZ.keys_gives (ρ := keysLaid_ren) { keysLaid with } Fence.wide _ trivial rfl (by omega) w.heap.size b nn D0 _ (by simp) (by simp) (by
      obtain ⟨es, clock, hb, Ft, hs, hD⟩ := hown
      exact ⟨es, clock, (Below.heap_alloc _ _ b hbl).trans hb, Ft, hs, hD⟩)
  exact AnyZ.sorted_in sortedLaid Fence.wide 5 trivial trivial trivial trivial rfl (by omega) (sorts_in _) (enters_of Tryz.func127 (by kernel_rfl) rfl) 128 #[.pointer (some ⟨w.heap.size, 0, none⟩)] trivial (enters_of Tryz.func128 (by kernel_rfl) rfl) _ _ hmax hbytes _ hseq
def Names (w : World) (l : List (List UInt8)) (e : Ending) (w' : World) : Prop :=
  ∃ v, e = .returned v ∧ w'.ownsRow w.heap.size 9 1 v l.length (l.map encStr) ∧ Gr w w'
theorem str_keys (L : List Pl) : strKeys (ents L) = L.map fun x => x.f.name := by
  unfold ents strKeys
  simp [Function.comp_def]
  intro a _; rfl
set_option maxRecDepth 20000 in
set_option maxHeartbeats 1000000 in
theorem names_c (p m : Nat) (s : St) (B : Nat → Prop) (L : List Pl) (w : World) (hs : s.ok) (h : DiskAt w p s B m L) :
    Calls Tryz.prog 59 #[.pointer (some ⟨p, 0, none⟩)] w (Names w ((L.map fun x => x.f.name).mergeSort (fun x y => decide (x ≤ y)))) := by
  have c1 : w.cell? ⟨p, 1, none⟩ = some (.map (some m)) := by rw [cells_at h.heap]; rfl
  have hLl : L.length = s.fs.length := by rw [← h.fs]; simp
  have hm200 := hs.m
  have CS := sorted_in m L.length (ents L) ptrElem w h.own (by rw [ents_size]; unfold maxLen; omega) (by rw [ents_size]; omega)
  have HS := Lib.hid (str_keys L)
  clear h hs hLl hm200
  refine (callsIn_wide (n := 6)).1 ?_
  have hfK : Fence.wide.fn 101 := trivial
  have hfS : Fence.wide.fn 100 := trivial
  refine callsIn_of_wp Tryz.func59 rfl trivial ?_ rfl
  simp only [Tryz.ntmps59, List.size_toArray, List.length_cons, List.length_nil, Nat.reduceAdd, Nat.reduceSub, Array.replicate_succ, Array.replicate_zero, List.push_toArray, List.append_toArray, List.nil_append, List.cons_append]
  gi_wp2_with (first
    | (gi_at_call 101; refine (keys_in _ _).mono ?_; rintro e w' ⟨rfl, rfl⟩)
    | (gi_at_call 100; refine CS.mono ?_; rintro e w' ⟨v, ss, rfl, hS, hrow, hnil, hb⟩))
  go_ret
  rw [HS.out] at hS
  have hm := mergeSort_of_perm hS
  have hlen : ss.length = (((L.map fun x => x.f.name).mergeSort (fun x y => decide (x ≤ y)))).length := by rw [List.length_mergeSort]; exact hS.length_eq
  refine ⟨v, rfl, ?_, ((Below.refl _ w).alloc (Nat.le_refl _) _).trans (hb.mono (by simp))⟩
  rw [← hlen, ← hm]
  exact ownsRow_base_a hrow (by simp)
end Go.Proofs.YtignfbdgpgidpaaGreatDoor

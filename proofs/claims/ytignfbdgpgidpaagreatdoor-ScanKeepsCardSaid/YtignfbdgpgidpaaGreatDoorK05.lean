/- In one text: FsCreate, FsNew. -/
import Derived.Test.YtignfbdgpgidpaaGreatDoorK04
/- The contracts of place and Create. -/
namespace Go.Proofs.YtignfbdgpgidpaaGreatDoor
open Go.RowKit FsPlain Go.Maps
set_option linter.unusedVariables false
set_option linter.unusedSimpArgs false
set_option maxRecDepth 20000
def Own (m k : Nat) (D : DataW Unit) (w : World) : Prop := w.ownsMap Tryz.prog 9 ptrElem m k D
theorem Own.gr {m k : Nat} {D : DataW Unit} {w w' : World} (h : Own m k D w) (g : Gr w w') : Own m k D w' := own_only h (Only.ofGr (B := fun _ => False) g) (fun e => e)
theorem Own.drew {m k : Nat} {D : DataW Unit} {w : World} (h : Own m k D w) : Own m k D w.drew := h
theorem put_run (m b : Nat) (n : ByteArray) (hn : n.size ≤ maxLen) : ∃ W : World → World, ∀ u k D, Own m k D u → k < maxLen →
    (Instr.mapUpdate 83 (.map (some m)) (.string n) (.pointer (some ⟨b, 0, none⟩))).run Tryz.prog u = .ok () (W u) ∧ Own m (k + 1) (D.put (.string n.data.toList) (.lit (.int .i64 (b : Int)))) (W u) ∧ Only (fun i => i = m) u (W u) := by
  have hkey := WideMaps.keyOf_string_mk (P := Tryz.prog) (k := 9) Tryz.underlying9 hn
  have h : ∀ u : World, ∃ v : World, (∃ k D, Own m k D u ∧ k < maxLen) →
    (Instr.mapUpdate 83 (.map (some m)) (.string n) (.pointer (some ⟨b, 0, none⟩))).run Tryz.prog u = .ok () v := by
    intro u
    by_cases ho : ∃ k D, Own m k D u ∧ k < maxLen
    · obtain ⟨k, D, ho, hk⟩ := ho
      obtain ⟨v, h1, h2, h3⟩ := World.ownsMap.update ho lawS Tryz.underlying83 hk hkey (ptr_mk b)
      exact ⟨v, fun _ => h1⟩
    · exact ⟨u, fun h => absurd h ho⟩
  refine ⟨fun u => Classical.choose (h u), fun u k D ho hk => ?_⟩
  have h0 := Classical.choose_spec (h u) ⟨k, D, ho, hk⟩
  obtain ⟨v, h1, h2, h3⟩ := World.ownsMap.update ho lawS Tryz.underlying83 hk hkey (ptr_mk b)
  have hv : v = Classical.choose (h u) := by rw [h0] at h1; simp only [Result.ok.injEq] at h1; exact h1.2.symm
  rw [hv] at h2 h3
  exact ⟨h0, h2, Only.grown h3 (fun j hj => by cases hj; rfl)⟩
set_option maxRecDepth 20000 in
set_option maxHeartbeats 1000000 in
theorem place_c (p m b k : Nat) (s : St) (D : DataW Unit) (n : ByteArray) (w : World) (h : w.heap[p]? = some (.cells (dcells s m) 85 (0, 0))) (hpm : p ≠ m) (ho : Own m k D w) (hn : n.size ≤ 1000) (hk : k ≤ 1000000) :
    Calls Tryz.prog 52 #[.pointer (some ⟨p, 0, none⟩), .string n, .pointer (some ⟨b, 0, none⟩)] w fun e w' => e = .returned (.tuple #[]) ∧ Own m (k + 1) (D.put (.string n.data.toList) (.lit (.int .i64 (b : Int)))) w' ∧ Only (fun i => i = m) w w' := by
  obtain ⟨W, hW⟩ := put_run m b n (by unfold maxLen; omega)
  have hk1 : k < maxLen := by unfold maxLen; omega
  have hk2 : k + 1 < maxLen := by unfold maxLen; omega
  have hc : w.cell? ⟨p, 1, none⟩ = some (.map (some m)) := by rw [cells_at h]; rfl
  have hrun := (hW w.drew k D ho.drew hk1).1
  have hplt := lt_of_block h
  have CC := clone_c n w.drew hn
  have HC := Lib.hid hc
  have HW := Lib.hid hW
  have HO := Lib.hid ho
  clear h hW ho
  go_enter Tryz.func52, Tryz.ntmps52
  go_wp2_with fail
  go_region_held3 (fun w' => w'.cell? ⟨p, 1, none⟩ = some (.map (some m)) ∧ (Instr.mapUpdate 83 (.map (some m)) (.string n) (.pointer (some ⟨b, 0, none⟩))).run Tryz.prog w' = .ok () (W w')) (first | (refine ⟨by rw [(HW.out _ _ _ (HO.out.drew.gr g) hk1).2.2.cell (by exact Nat.lt_of_lt_of_le hplt g.size) hpm, g.cell (by simpa using hplt)]; exact HC.out, (HW.out _ _ _ (HW.out _ _ _ (HO.out.drew.gr g) hk1).2.1 hk2).1⟩) | (refine ⟨by rw [g.cell (by simpa using hplt)]; exact HC.out, (HW.out _ _ _ (HO.out.drew.gr g) hk1).1⟩) | (refine ⟨by go_keep, hrun⟩)) ((go_at_call 83; ((with_reducible refine (CC).mono ?_); rintro e u ⟨rfl, g⟩)))
  all_goals
    go_wp2_with fail
    go_end0
    exact ⟨rfl, (HW.out _ _ _ (HO.out.drew.gr g) hk1).2.1, (Only.ofGr (Gr.ofDrew g)).trans (HW.out _ _ _ (HO.out.drew.gr g) hk1).2.2⟩
def insL (x : Pl) : List Pl → List Pl
  | [] => [x]
  | y :: r => if (Lit.string x.f.name).before (.string y.f.name) = true then x :: y :: r else y :: insL x r
theorem insL_map (x : Pl) : ∀ L : List Pl, (insL x L).map (·.f) = insF x.f (L.map (·.f))
  | [] => rfl
  | y :: r => by
    simp only [List.map_cons]
    unfold insL insF
    split
    · simp
    · simp only [List.map_cons, insL_map x r]
theorem insL_perm (x : Pl) : ∀ L, (insL x L).Perm (x :: L)
  | [] => List.Perm.refl _
  | y :: r => by
    unfold insL
    split
    · exact List.Perm.refl _
    · exact ((insL_perm x r).cons y).trans (List.Perm.swap _ _ _)
theorem insL_ents (x : Pl) : ∀ L : List Pl, (insL x L).map (fun x => ((.string x.f.name : Lit), (DataW.lit (.int .i64 (x.blk : Int)) : DataW Unit))) = DataW.insert (.string x.f.name, .lit (.int .i64 (x.blk : Int))) (L.map fun x => (.string x.f.name, .lit (.int .i64 (x.blk : Int))))
  | [] => rfl
  | y :: r => by
    simp only [List.map_cons]
    unfold insL DataW.insert
    split
    · simp
    · simp only [List.map_cons, insL_ents x r]
theorem ents_put {L : List Pl} {x : Pl} (h : L.find? (fun y => y.f.name == x.f.name) = none) : ents (insL x L) = (ents L).put (.string x.f.name) (.lit (.int .i64 (x.blk : Int))) := by
  unfold ents DataW.put
  rw [insL_ents]
  congr 2
  symm
  rw [List.filter_eq_self]
  intro p hp
  obtain ⟨y, hy, rfl⟩ := List.mem_map.1 hp
  have := List.find?_eq_none.1 h y hy
  simp only [beq_iff_eq] at this
  simp [Lit.sameKey, this]
theorem DiskAt.born {w2 w3 w4 : World} {p m : Nat} {s : St} {B : Nat → Prop} {L : List Pl} {n : List UInt8} (h : DiskAt w2 p s B m L) (hf : L.find? (fun y => y.f.name == n) = none)
    (h3 : w3 = w2.alloc (.cells #[.slice none 0 0, .int .i64 0] 96)) (ho : Own m (L.length + 1) ((ents L).put (.string n) (.lit (.int .i64 (w2.heap.size : Int)))) w4) (g : Only (fun i => i = m) w3 w4) :
    DiskAt w4 p { s with fs := insF ⟨n, [], 0⟩ s.fs } (fun b => B b ∨ (w2.heap.size ≤ b ∧ b < w4.heap.size)) m (insL ⟨⟨n, [], 0⟩, w2.heap.size, .slice none 0 0⟩ L) := by
  have hs3 : w3.heap.size = w2.heap.size + 1 := by rw [h3]; simp
  have hs4 := g.size
  have h03 : Only (fun i => i = m) w2 w3 := by rw [h3]; exact Only.alloc _ _ _
  have g4 := h03.trans g
  have hperm := insL_perm ⟨⟨n, [], 0⟩, w2.heap.size, .slice none 0 0⟩ L
  have hbp : (blocks (insL ⟨⟨n, [], 0⟩, w2.heap.size, .slice none 0 0⟩ L)).Perm (w2.heap.size :: blocks L) := by
    refine (hperm.flatMap_right _).trans ?_
    simp [blocks, plBlocks, Value.ownBlock]
  have hlow : ∀ i, i ∈ p :: m :: blocks L → i < w2.heap.size := fun i hi => h.low i (h.mine i hi)
  have hap := h.apart
  have hpm : p ≠ m := fun e => by
    simp only [List.nodup_cons, List.mem_cons, not_or] at hap; exact hap.1.1 e
  have hmlow := hlow m (by simp)
  refine ⟨?_, ?_, ?_, ?_, ?_, ?_, ?_⟩
  · rw [g4.block p (lt_of_block h.heap) hpm]; exact h.heap
  · rw [ents_put (x := ⟨⟨n, [], 0⟩, w2.heap.size, .slice none 0 0⟩) hf, hperm.length_eq]; exact ho
  · rw [insL_map]; show insF _ _ = insF _ _; rw [h.fs]
  · intro y hy
    rcases List.mem_cons.1 (hperm.mem_iff.1 hy) with rfl | hy
    · refine ⟨?_, World.ownsRow_nil _ _ _ _⟩
      show w4.heap[w2.heap.size]? = _
      rw [g.block _ (by omega) (by show ¬ w2.heap.size = m; omega), h3]
      exact heap_alloc_new w2 _
    · exact (h.file y hy).only g4 fun b hb e => by
        have e2 : b = m := e
        subst e2
        simp only [List.nodup_cons] at hap
        exact hap.2.1 (mem_blocks hy hb)
  · refine (((hbp.cons m).cons p).symm).nodup ?_
    refine List.Perm.nodup (l := w2.heap.size :: p :: m :: blocks L) ?_ (List.nodup_cons.2 ⟨fun hi => by have := hlow _ hi; omega, hap⟩)
    exact (List.Perm.swap _ _ _).trans ((List.Perm.swap _ _ _).cons p)
  · intro b hb
    have hb2 : b ∈ w2.heap.size :: p :: m :: blocks L := by
      simp only [List.mem_cons] at hb ⊢
      rcases hb with e | e | e
      · exact .inr (.inl e)
      · exact .inr (.inr (.inl e))
      · rcases List.mem_cons.1 (hbp.mem_iff.1 e) with e | e
        · exact .inl e
        · exact .inr (.inr (.inr e))
    rcases List.mem_cons.1 hb2 with e | e
    · exact .inr ⟨by omega, by omega⟩
    · exact .inl (h.mine b e)
  · intro b hb
    rcases hb with e | e
    · exact Nat.lt_of_lt_of_le (h.low b e) g4.size
    · exact e.2
set_option maxRecDepth 20000 in
set_option maxHeartbeats 1000000 in
theorem create_c (p : Nat) (s : St) (B : Nat → Prop) (n : ByteArray) (w : World) (h : Disk w p s B) (hn : n.size ≤ maxLen) (hm : rightB n.data.toList = true) (h1 : s.calls ≤ 1000000000000) :
    Calls Tryz.prog 19 #[.pointer (some ⟨p, 0, none⟩), .string n] w (Tells w p (createR s n.data.toList).1 B (.int .i64 (createR s n.data.toList).2)) := by
  obtain ⟨hs, m, L, hD⟩ := h
  have C1 := right_c n hn w
  rw [hm] at C1
  have hn24 : n.data.toList.length ≤ 24 := by
    unfold rightB at hm; simp only [Bool.and_eq_true, decide_eq_true_eq] at hm; exact hm.2.2
  have hnz : n.size ≤ 24 := hn24
  have C2 := call_yes p m s w hD.heap hs.c0 h1 hs.a0 hs.a1
  obtain ⟨c, hc⟩ : ∃ c, c = s.call.code := ⟨_, rfl⟩
  rw [← hc] at C2
  have HC := Lib.hid hc
  have HS := Lib.hid hs
  have HD := Lib.hid hD
  have HN24 := Lib.hid hn24
  clear hD hm hs hc hn24
  go_enter Tryz.func19, Tryz.ntmps19
  go_wp2_with fail
  refine C1.mono ?_; rintro e w2 ⟨rfl, rfl⟩
  go_wp2_with fail
  refine C2.mono ?_; rintro e w2 ⟨rfl, k⟩
  have D2 := HD.out.called k
  have HNX := Lib.hid (next_called HS.out D2 k.2)
  have HK := Lib.hid k
  have HD2 := Lib.hid D2
  clear k D2
  cases hd : s.call.down
  · obtain rfl : c = 0 := by rw [HC.out]; simp [St.code, hd]
    have c1 : w2.cell? ⟨p, 1, none⟩ = some (.map (some m)) := by rw [cells_at HD2.out.heap]; rfl
    rcases HD2.out.look n hn with ⟨hg, hf, hl⟩ | ⟨x, hg, hf, hl⟩
    · have hlk := hl w2 HD2.out.own
      have how := HD2.out.own
      have hLl : L.length = s.fs.length := by rw [← HD.out.fs]; simp
      by_cases h200 : 200 ≤ L.length
      · have HR : Hid (createR s n.data.toList = (s.call, 4)) := Lib.hid (by have hg' : s.get n.data.toList = none := hg; simp [createR, hd, hg', ← hLl, h200])
        have t1 : decide (200 ≤ (L.length : Int)) = true := by rw [decide_eq_true_iff]; omega
        clear hd hg hf hl hLl h200
        go_wp2_with (first | (at_len; refine wpList_len_own _ rfl _ 83 rfl 9 93 Tryz.underlying83 _ m L.length (ents L) rfl how ?_; rw [ents_size]) | fail)
        go_ret
        exact ⟨by rw [HR.out] <;> rfl, by rw [HR.out]; exact HNX.out⟩
      · have HR : Hid (createR s n.data.toList = ({ s.call with fs := insF ⟨n.data.toList, [], 0⟩ s.fs }, 0)) := Lib.hid (by have hg' : s.get n.data.toList = none := hg; simp [createR, hd, hg', ← hLl, h200])
        obtain ⟨w3, hw3⟩ : ∃ w3, w3 = w2.alloc (.cells #[.slice none 0 0, .int .i64 0] 96) := ⟨_, rfl⟩
        have hok := ok_create (ok_call HS.out) (n := n.data.toList) hg HN24.out (show s.fs.length < 200 by omega)
        have hh3 : w3.heap[p]? = some (.cells (dcells s.call m) 85 (0, 0)) := by rw [hw3]; rw [Below.heap_alloc _ _ _ (lt_of_block HD2.out.heap)]; exact HD2.out.heap
        have ho3 : Own m L.length (ents L) w3 := by rw [hw3]; exact own_only HD2.out.own (Only.alloc (fun _ => False) _ _) (fun e => e)
        have hpm : p ≠ m := fun e => by
          have hap := HD2.out.apart
          simp only [List.nodup_cons, List.mem_cons, not_or] at hap; exact hap.1.1 e
        have CP := place_c p m w2.heap.size L.length s.call (ents L) n w3 hh3 hpm ho3 (by omega) (by omega)
        have HW3 := Lib.hid hw3
        have HOK := Lib.hid hok
        have HF := Lib.hid hf
        rw [hw3] at CP
        have t1 : decide (200 ≤ (L.length : Int)) = false := by rw [decide_eq_false_iff_not]; omega
        clear hd hg hf hl hLl hw3 hok hh3 ho3 h200 hnz
        go_wp2_with (first | (at_len; refine wpList_len_own _ rfl _ 83 rfl 9 93 Tryz.underlying83 _ m L.length (ents L) rfl how ?_; rw [ents_size]) | fail)
        refine CP.mono ?_; rintro e w4 ⟨rfl, ho, g⟩
        rw [← HW3.out] at g
        have HO4 := Lib.hid ho
        have HG := Lib.hid g
        clear ho g
        go_wp2_with fail
        go_ret
        refine ⟨by rw [HR.out] <;> rfl, ?_⟩
        rw [HR.out]
        have hB := HD2.out.born HF.out HW3.out HO4.out HG.out
        refine ⟨_, ⟨HOK.out, _, _, hB⟩, ?_, ?_⟩
        · have h23 : Only B w2 w3 := by rw [HW3.out]; exact Only.alloc _ _ _
          exact ((HK.out.2.mono fun i e => by subst e; exact HD.out.mine _ (by simp)).trans h23).trans (HG.out.mono fun i e => by subst e; exact HD.out.mine _ (by simp))
        · intro b hb
          rcases hb with hb | hb
          · exact .inl hb
          · exact .inr (Nat.le_trans HK.out.2.size hb.1)
    · have hlk := hl w2 HD2.out.own
      have HR : Hid (createR s n.data.toList = (s.call, 3)) := Lib.hid (by have hg' : s.get n.data.toList = some x.f := hg; simp [createR, hd, hg'])
      clear hd hg hf hl
      go_wp2_with fail
      go_ret
      exact ⟨by rw [HR.out] <;> rfl, by rw [HR.out]; exact HNX.out⟩
  · obtain rfl : c = 5 := by rw [HC.out]; simp [St.code, hd]
    have HR : Hid (createR s n.data.toList = (s.call, 5)) := Lib.hid (by simp [createR, hd])
    clear hd
    go_wp2_with fail
    go_ret
    exact ⟨by rw [HR.out] <;> rfl, by rw [HR.out]; exact HNX.out⟩
end Go.Proofs.YtignfbdgpgidpaaGreatDoor
/- The contracts of New, Arm and Calls. -/
namespace Go.Proofs.YtignfbdgpgidpaaGreatDoor
open Go.RowKit FsPlain Go.Maps
set_option linter.unusedVariables false
set_option linter.unusedSimpArgs false
set_option maxRecDepth 20000
def fresh (room : Int) : St := ⟨room, 0, -1, false, []⟩
theorem fresh_ok {room : Int} (h0 : 0 ≤ room) (h1 : room ≤ 16777216) : (fresh room).ok :=
  ⟨h0, h1, Int.le_refl 0, Int.le_refl (-1), by show (-1 : Int) ≤ _; omega, by show ((0 : Nat) : Int) ≤ room; omega, (fun f hf => by cases hf), (fun f hf => by cases hf), by show 0 ≤ 200; omega, List.Pairwise.nil⟩
def Born (room : Int) (w : World) (e : Ending) (w' : World) : Prop :=
  ∃ p B, e = .returned (.tuple #[.pointer (some ⟨p, 0, none⟩), .int .i64 0]) ∧ Disk w' p (fresh room) B ∧ Gr w w' ∧ ∀ b, B b → w.heap.size ≤ b
set_option maxRecDepth 20000 in
set_option maxHeartbeats 1000000 in
theorem new_c (room : Int) (h0 : 0 ≤ room) (h1 : room ≤ 16777216) (w : World) : Calls Tryz.prog 16 #[.int .i64 room] w (Born room w) := by
  have hmm := @run_makeMap Tryz.prog
  go_enter Tryz.func16, Tryz.ntmps16
  go_wp2_with fail
  go_ret2
  obtain ⟨w1, hw1⟩ : ∃ w1, w1 = w.alloc (.map #[] 0) := ⟨_, rfl⟩
  obtain ⟨w2, hw2⟩ : ∃ w2, w2 = w1.alloc (.cells (dcells (fresh room) w.heap.size) 85) := ⟨_, rfl⟩
  have s1 : w1.heap.size = w.heap.size + 1 := by rw [hw1]; simp
  have s2 : w2.heap.size = w.heap.size + 2 := by rw [hw2]; simp [s1]
  have hown : w1.ownsMap Tryz.prog 9 ptrElem w.heap.size 0 (ents []) := by rw [hw1]; exact World.ownsMap_made _ _ _ _
  have hD : DiskAt w2 (w.heap.size + 1) (fresh room) (fun b => b = w.heap.size ∨ b = w.heap.size + 1) w.heap.size [] := by
    refine ⟨?_, ?_, rfl, (fun x hx => by cases hx), by simp [blocks], ?_, ?_⟩
    · rw [hw2, ← s1]; exact heap_alloc_new w1 _
    · rw [hw2]; exact own_only hown (Only.alloc (fun _ => False) _ _) (fun e => e)
    · intro b hb; simp [blocks] at hb; rcases hb with e | e
      · exact .inr e
      · exact .inl e
    · intro b hb; rcases hb with e | e <;> omega
  refine ⟨w.heap.size + 1, (fun b => b = w.heap.size ∨ b = w.heap.size + 1), rfl, ⟨fresh_ok h0 h1, w.heap.size, [], ?_⟩, ?_, fun b hb => by rcases hb with e | e <;> omega⟩
  · have : w2 = _ := hw2
    rw [hw1] at this
    rw [this] at hD
    exact hD
  · exact (((Below.refl _ _).alloc (Nat.le_refl _) _).alloc (by simp) _)
end Go.Proofs.YtignfbdgpgidpaaGreatDoor

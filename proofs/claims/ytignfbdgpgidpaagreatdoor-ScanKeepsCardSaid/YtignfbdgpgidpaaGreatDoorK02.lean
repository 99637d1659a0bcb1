/- In one text: FsFind, FsUpd. -/
import Derived.Test.YtignfbdgpgidpaaGreatDoorK00
import Derived.Test.YtignfbdgpgidpaaGreatDoorK01
import Derived.Laws.IdiomStrings
import Derived.Lib.AppendStr
import Derived.Lib.BufferRead
/- The contract of find: a call that asks for a file. -/
namespace Go.Proofs.YtignfbdgpgidpaaGreatDoor
open Go.RowKit FsPlain
set_option linter.unusedVariables false
set_option linter.unusedSimpArgs false
set_option maxRecDepth 20000
theorem DiskAt.called {w w' : World} {p m : Nat} {s : St} {B : Nat → Prop} {L : List Pl} (h : DiskAt w p s B m L) (k : Called p m s w w') : DiskAt w' p s.call B m L :=
  h.own_block k.2 k.1 rfl
theorem find_no (p m : Nat) (s : St) (B : Nat → Prop) (L : List Pl) (n : ByteArray) (may : Bool) (w : World) (hn : n.size ≤ maxLen) (hm : (may && rightB n.data.toList) = false) :
    Calls Tryz.prog 53 #[.pointer (some ⟨p, 0, none⟩), .string n, .bool may] w fun e w' => e = .returned (.tuple #[.pointer none, .int .i64 1]) ∧ w = w' := by
  have C1 := fun w => right_c n hn w
  have C2 := fun w => call_no p m s w
  cases may
  · clear hm
    go_enter Tryz.func53, Tryz.ntmps53
    go_wp2_with fail
    refine (C2 _).mono ?_; rintro e w2 ⟨rfl, rfl⟩
    go_wp2_with fail
    go_ret2
    exact ⟨rfl, rfl⟩
  · have hr : rightB n.data.toList = false := by simpa using hm
    rw [hr] at C1
    clear hm hr
    go_enter Tryz.func53, Tryz.ntmps53
    go_wp2_with fail
    refine (C1 _).mono ?_; rintro e w2 ⟨rfl, rfl⟩
    go_wp2_with fail
    refine (C2 _).mono ?_; rintro e w2 ⟨rfl, rfl⟩
    go_wp2_with fail
    go_ret2
    exact ⟨rfl, rfl⟩
def Found (p m : Nat) (s : St) (B : Nat → Prop) (L : List Pl) (n : List UInt8) (w : World) (e : Ending) (w' : World) : Prop :=
  DiskAt w' p s.call B m L ∧ Only (fun i => i = p) w w' ∧
  ((s.call.down = true ∧ e = .returned (.tuple #[.pointer none, .int .i64 5])) ∨
   (s.call.down = false ∧ s.get n = none ∧ e = .returned (.tuple #[.pointer none, .int .i64 2])) ∨
   (s.call.down = false ∧ ∃ x, s.get n = some x.f ∧ L.find? (fun x => x.f.name == n) = some x ∧ e = .returned (.tuple #[.pointer (some ⟨x.blk, 0, none⟩), .int .i64 0])))
set_option maxRecDepth 20000 in
set_option maxHeartbeats 1000000 in
theorem find_yes (p m : Nat) (s : St) (B : Nat → Prop) (L : List Pl) (n : ByteArray) (w : World) (hs : s.ok) (h : DiskAt w p s B m L) (hn : n.size ≤ maxLen) (hm : rightB n.data.toList = true) (h1 : s.calls ≤ 1000000000000) :
    Calls Tryz.prog 53 #[.pointer (some ⟨p, 0, none⟩), .string n, .bool true] w (Found p m s B L n.data.toList w) := by
  have C1 := fun w => right_c n hn w
  rw [hm] at C1
  have C2 := call_yes p m s w h.heap hs.c0 h1 hs.a0 hs.a1
  obtain ⟨c, hc⟩ : ∃ c, c = s.call.code := ⟨_, rfl⟩
  rw [← hc] at C2
  have HC := Lib.hid hc
  have HM := Lib.hid hm
  have HD := Lib.hid h
  clear hc hm h
  cases hd : s.call.down
  · have c0 : c = 0 := by rw [HC.out]; simp [St.code, hd]
    subst c0
    have HDN := Lib.hid hd
    clear hd
    rcases HD.out.look n hn with ⟨hg, hf, hl⟩ | ⟨x, hg, hf, hl⟩
    · have HG := Lib.hid hg
      have HF := Lib.hid hf
      have HL := Lib.hid hl
      clear hg hf hl
      go_enter Tryz.func53, Tryz.ntmps53
      go_wp2_with fail
      refine (C1 _).mono ?_; rintro e w2 ⟨rfl, rfl⟩
      go_wp2_with fail
      refine (C2).mono ?_; rintro e w2 ⟨rfl, k⟩
      have D2 := HD.out.called k
      have c1 : w2.cell? ⟨p, 1, none⟩ = some (.map (some m)) := by rw [cells_at k.1]; rfl
      have hlk := HL.out w2 D2.own
      have HK := Lib.hid k
      have HD2 := Lib.hid D2
      clear k D2
      go_wp2_with fail
      go_ret2
      exact ⟨HD2.out, HK.out.2, .inr (.inl ⟨HDN.out, HG.out, rfl⟩)⟩
    · have HG := Lib.hid hg
      have HF := Lib.hid hf
      have HL := Lib.hid hl
      clear hg hf hl
      go_enter Tryz.func53, Tryz.ntmps53
      go_wp2_with fail
      refine (C1 _).mono ?_; rintro e w2 ⟨rfl, rfl⟩
      go_wp2_with fail
      refine (C2).mono ?_; rintro e w2 ⟨rfl, k⟩
      have D2 := HD.out.called k
      have c1 : w2.cell? ⟨p, 1, none⟩ = some (.map (some m)) := by rw [cells_at k.1]; rfl
      have hlk := HL.out w2 D2.own
      have HK := Lib.hid k
      have HD2 := Lib.hid D2
      clear k D2
      go_wp2_with fail
      go_ret2
      exact ⟨HD2.out, HK.out.2, .inr (.inr ⟨HDN.out, x, HG.out, HF.out, rfl⟩)⟩
  · have c0 : c = 5 := by rw [HC.out]; simp [St.code, hd]
    subst c0
    have HDN := Lib.hid hd
    clear hd
    go_enter Tryz.func53, Tryz.ntmps53
    go_wp2_with fail
    refine (C1 _).mono ?_; rintro e w2 ⟨rfl, rfl⟩
    go_wp2_with fail
    refine (C2).mono ?_; rintro e w2 ⟨rfl, k⟩
    have D2 := HD.out.called k
    have HK := Lib.hid k
    have HD2 := Lib.hid D2
    clear k D2
    go_wp2_with fail
    go_ret2
    exact ⟨HD2.out, HK.out.2, .inl ⟨HDN.out, rfl⟩⟩
end Go.Proofs.YtignfbdgpgidpaaGreatDoor
/- One file of a disk is written: the disk behind it; what a row of bytes reads as. -/
namespace Go.Proofs.YtignfbdgpgidpaaGreatDoor
open Go.RowKit FsPlain Go.Maps
set_option linter.unusedVariables false
set_option linter.unusedSimpArgs false
set_option maxRecDepth 20000
def Next (w : World) (p : Nat) (s' : St) (B : Nat → Prop) (w' : World) : Prop := ∃ B' : Nat → Prop, Disk w' p s' B' ∧ Only B w w' ∧ ∀ b, B' b → B b ∨ w.heap.size ≤ b
theorem Next.trans {a b c : World} {p : Nat} {s' s2 : St} {B B' : Nat → Prop} (h : Only B a b) (hB : ∀ i, B' i → B i ∨ a.heap.size ≤ i) (k : Next b p s2 B' c) : Next a p s2 B c := by
  obtain ⟨B2, d, o, f⟩ := k
  exact ⟨B2, d, h.andThen o hB, fun i hi => by rcases f i hi with h1 | h1; exact hB i h1; exact .inr (Nat.le_trans h.size h1)⟩
theorem DiskAt.put {w w' : World} {p m : Nat} {s : St} {B : Nat → Prop} {L : List Pl} {x x' : Pl} {n : List UInt8} {g : F → F} (h : DiskAt w p s B m L) (hx : L.find? (fun x => x.f.name == n) = some x)
    (hg : x'.f = g x.f) (hn : x'.f.name = x.f.name) (hb : x'.blk = x.blk) (hf : FileAt w' x') (o : Only (fun i => i ∈ plBlocks x) w w')
    (hrow : ∀ i, x'.v.ownBlock = some i → x.v.ownBlock = some i ∨ (w.heap.size ≤ i ∧ i < w'.heap.size)) :
    ∃ L', DiskAt w' p (s.upd n g) (fun b => B b ∨ (w.heap.size ≤ b ∧ b < w'.heap.size)) m L' := by
  obtain ⟨A, C, rfl, hxn, hA⟩ := find_split hx
  have hxn' : x.f.name = n := by simpa using hxn
  have hA' : ∀ y ∈ A, y.f.name ≠ n := fun y hy => by simpa using hA y hy
  have hC' : ∀ y ∈ C, y.f.name ≠ n := by
    have hp := names_apart h.own
    rw [List.pairwise_append] at hp
    have := (List.pairwise_cons.1 hp.2.1).1
    intro y hy e
    exact this y hy (by rw [hxn', e])
  have hap := h.apart
  have hbl : blocks (A ++ x :: C) = blocks A ++ (x.blk :: (x.v.ownBlock.toList ++ blocks C)) := by simp [blocks, plBlocks]
  have hbl' : blocks (A ++ x' :: C) = blocks A ++ (x.blk :: (x'.v.ownBlock.toList ++ blocks C)) := by simp [blocks, plBlocks, hb]
  rw [hbl] at hap
  have hlow : ∀ i, i ∈ p :: m :: blocks (A ++ x :: C) → i < w.heap.size := fun i hi => h.low i (h.mine i hi)
  rw [hbl] at hlow
  have hxin : ∀ i ∈ plBlocks x, i ≠ p ∧ i ≠ m ∧ i ∉ blocks A ∧ i ∉ blocks C := by
    intro i hi
    simp only [List.nodup_cons, List.mem_cons, List.mem_append, List.nodup_append, not_or] at hap
    simp only [plBlocks, List.mem_cons, Option.mem_toList] at hi
    obtain ⟨⟨h1, h2, h3, h4, h5⟩, ⟨h6, h7, h8, h9⟩, hAn, ⟨⟨hb1, hb2⟩, hr, hCn, hrc⟩, hac⟩ := hap
    rcases hi with rfl | hi
    · exact ⟨fun e => h3 e.symm, fun e => h7 e.symm, fun e => hac _ e _ (.inl rfl) rfl, hb2⟩
    · have hi' : i ∈ x.v.ownBlock.toList := by simpa using hi
      exact ⟨fun e => h4 (e ▸ hi'), fun e => h8 (e ▸ hi'), fun e => hac _ e _ (.inr (.inl hi')) rfl, fun e => hrc _ hi' _ e rfl⟩
  refine ⟨A ++ x' :: C, ?_, ?_, ?_, ?_, ?_, ?_, ?_⟩
  · rw [o.block p (lt_of_block h.heap) (fun e => (hxin p e).1 rfl)]; exact h.heap
  · have he : ents (A ++ x' :: C) = ents (A ++ x :: C) := by simp [ents, hn, hb]
    rw [he]
    have := own_only h.own o (fun e => (hxin m e).2.1 rfl)
    simpa using this
  · show _ = s.fs.map _
    rw [← h.fs]
    simp only [List.map_append, List.map_cons]
    rw [hg]
    have := @FsPlain.upd_list n g (A.map (·.f)) (C.map (·.f)) x.f hxn' (fun y hy => by obtain ⟨z, hz, rfl⟩ := List.mem_map.1 hy; exact hA' z hz) (fun y hy => by obtain ⟨z, hz, rfl⟩ := List.mem_map.1 hy; exact hC' z hz)
    simp only [List.map_append, List.map_cons] at this ⊢
    exact this.symm
  · intro y hy
    rcases List.mem_append.1 hy with hy | hy
    · exact (h.file y (by simp [hy])).only o fun b hb1 hb2 => (hxin b hb2).2.2.1 (by simp only [blocks, List.mem_flatMap]; exact ⟨y, hy, hb1⟩)
    · rcases List.mem_cons.1 hy with rfl | hy
      · exact hf
      · exact (h.file y (by simp [hy])).only o fun b hb1 hb2 => (hxin b hb2).2.2.2 (by simp only [blocks, List.mem_flatMap]; exact ⟨y, hy, hb1⟩)
  · rw [hbl']
    have hsub : (p :: m :: (blocks A ++ (x.blk :: (blocks C)))).Nodup := by
      refine hap.sublist ?_
      refine List.Sublist.cons_cons _ (List.Sublist.cons_cons _ (List.Sublist.append (List.Sublist.refl _) (List.Sublist.cons_cons _ ?_)))
      exact List.sublist_append_right _ _
    cases hr : x'.v.ownBlock with
    | none => simpa using hsub
    | some i =>
      simp only [Option.toList_some, List.singleton_append]
      have hperm : (p :: m :: (blocks A ++ (x.blk :: i :: blocks C))).Perm (i :: p :: m :: (blocks A ++ (x.blk :: blocks C))) := by
        have h1 : (blocks A ++ x.blk :: i :: blocks C).Perm (i :: (blocks A ++ x.blk :: blocks C)) := by
          have := @List.perm_middle _ i (blocks A ++ [x.blk]) (blocks C)
          simpa using this
        exact ((h1.cons m).trans (List.Perm.swap _ _ _)).cons p |>.trans (List.Perm.swap _ _ _)
      refine hperm.symm.nodup (List.nodup_cons.2 ⟨?_, hsub⟩)
      intro hmem
      rcases hrow i hr with h1 | h1
      · have hx2 := hxin i (by simp [plBlocks, h1])
        simp only [List.mem_cons, List.mem_append] at hmem
        rcases hmem with e | e | e | e | e
        · exact hx2.1 e
        · exact hx2.2.1 e
        · exact hx2.2.2.1 e
        · simp only [List.nodup_cons, List.mem_cons, List.mem_append, List.nodup_append, not_or] at hap
          exact hap.2.2.2.1.1.1 (by rw [← e]; simp [h1])
        · exact hx2.2.2.2 e
      · have := hlow i (by
          simp only [List.mem_cons, List.mem_append] at hmem ⊢
          rcases hmem with e | e | e | e | e
          · exact .inl e
          · exact .inr (.inl e)
          · exact .inr (.inr (.inl e))
          · exact .inr (.inr (.inr (.inl e)))
          · exact .inr (.inr (.inr (.inr (.inr e)))))
        omega
  · intro b hb1
    rw [hbl'] at hb1
    have hm : ∀ i, i ∈ p :: m :: blocks (A ++ x :: C) → B i := h.mine
    rw [hbl] at hm
    simp only [List.mem_cons, List.mem_append] at hb1 hm
    rcases hb1 with e | e | e | e | e | e
    · exact .inl (hm _ (.inl e))
    · exact .inl (hm _ (.inr (.inl e)))
    · exact .inl (hm _ (.inr (.inr (.inl e))))
    · exact .inl (hm _ (.inr (.inr (.inr (.inl e)))))
    · have hr : x'.v.ownBlock = some b := by simpa using e
      rcases hrow b hr with h1 | h1
      · exact .inl (hm _ (.inr (.inr (.inr (.inr (.inl (by simp [h1])))))))
      · exact .inr h1
    · exact .inl (hm _ (.inr (.inr (.inr (.inr (.inr e))))))
  · intro b hb1
    rcases hb1 with e | e
    · exact Nat.lt_of_lt_of_le (h.low b e) o.size
    · exact e.2
theorem DiskAt.row_ne {w : World} {p m : Nat} {s : St} {B : Nat → Prop} {L : List Pl} {x : Pl} (h : DiskAt w p s B m L) (hx : x ∈ L) : x.v.ownBlock ≠ some x.blk := by
  intro e
  have hmem : (plBlocks x).Sublist (blocks L) := by
    obtain ⟨A, C, rfl⟩ := List.append_of_mem hx
    simp only [blocks, List.flatMap_append, List.flatMap_cons]
    exact (List.sublist_append_left _ _).trans (List.sublist_append_right _ _)
  have hnd := (List.nodup_cons.1 (List.nodup_cons.1 h.apart).2).2.sublist hmem
  simp [plBlocks, e] at hnd
theorem piece_run {w : World} {v : Value} {l : List UInt8} (h : w.ownsRow 0 5 1 v l.length (Lib.byteCells l)) (i k : Nat) (hk : i + k ≤ l.length) :
    ∃ u, (Instr.slice 94 v (some (.int .i64 (i : Int))) (some (.int .i64 ((i : Int) + (k : Int)))) none).run Tryz.prog w = .ok u w ∧ (convert 94 9 u).run Tryz.prog w = .ok (.string (bs ((l.drop i).take k))) w := by
  have hsz : ∀ w, (sizeOf (Tryz.prog.elem 94)).run Tryz.prog w = .ok 1 w := fun w => by kernel_rfl
  have ht : Tryz.prog.underlying 94 = some (.slice (Tryz.prog.elem 94)) := by kernel_rfl
  rcases h.2 with ⟨rfl, h0⟩ | ⟨g, cap, cur, rfl, _, hg, hn, hc, hcs, htk⟩
  · have hl : l = [] := List.eq_nil_of_length_eq_zero h0
    subst hl
    have : i = 0 ∧ k = 0 := by simp at hk; omega
    obtain ⟨rfl, rfl⟩ := this
    refine ⟨.slice none 0 0, ?_, ?_⟩
    · rw [run_slice_lh w _ _ _ _ ht .i64 .i64 _ _ (by omega) (by omega) (by simp), hsz]
      rfl
    · exact Lib.run_convert_nil_bytes w _ _ 5 0 Tryz.underlying94 Tryz.underlying5 Tryz.underlying9
  · have hcell := h.cells (g := g) rfl
    have hlen : ((l.drop i).take k).length = k := by rw [List.length_take, List.length_drop]; omega
    have ek : ((i : Int) + (k : Int)).toNat - (i : Int).toNat = k := by omega
    refine ⟨sliced (some ⟨g, 0, none⟩) i (i + k) cap 1, ?_, ?_⟩
    · rw [run_slice_lh w _ _ _ _ ht .i64 .i64 _ _ (by omega) (by omega) (by omega), hsz]
      have e2 : ((i : Int) + (k : Int)).toNat = i + k := by omega
      simp only [Result.andThen, e2, Int.toNat_natCast]
    · unfold sliced
      have e3 : i + k - i = k := by omega
      rw [e3]
      by_cases hci : cap = i
      · have hk0 : k = 0 := by omega
        subst hk0
        rw [if_pos hci]
        exact run_convert_bytes_back (P := Tryz.prog) w 94 9 5 _ _ (List.take 0 (List.drop i l)) Tryz.underlying94 Tryz.underlying5 Tryz.underlying9 (fun j hj => by simp at hj)
      · rw [if_neg hci]
        have := run_convert_bytes_back (P := Tryz.prog) w 94 9 5 ⟨g, i, none⟩ (cap - i) ((l.drop i).take k) Tryz.underlying94 Tryz.underlying5 Tryz.underlying9 (fun j hj => by
          have hj' : j < k := by rw [hlen] at hj; exact hj
          have := hcell (i + j) (.int .u8 (l[i + j].toNat : Int)) (by simp [Lib.byteCells, List.getElem?_eq_getElem (show i + j < l.length by omega)])
          rw [Addr.add_lit] at this
          rw [Addr.add_lit, show i + j = 0 + (i + j) by omega, this]
          simp)
        rw [hlen] at this
        simp only [Option.map_some, Nat.mul_one, Addr.add_lit, Nat.zero_add]
        exact this
end Go.Proofs.YtignfbdgpgidpaaGreatDoor

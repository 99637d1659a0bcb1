/- In one text: FsUpd. -/
import Derived.Test.YtckmciafonnohaaP03
import Derived.Laws.IdiomStrings
import Derived.Lib.AppendStr
import Derived.Lib.BufferRead
/- One file of a disk is written: the disk behind it; what a row of bytes reads as. -/
namespace Go.Proofs.Ytckmciafonnohaa
open Go.RowKit FsPlain Go.Maps
set_option linter.unusedVariables false
set_option linter.unusedSimpArgs false
set_option maxRecDepth 20000

/-- What a call leaves: a disk s', of blocks that were the disk's or are new; nothing else was written. -/
def Next (w : World) (p : Nat) (s' : St) (B : Nat → Prop) (w' : World) : Prop := ∃ B' : Nat → Prop, Disk w' p s' B' ∧ Only B w w' ∧ ∀ b, B' b → B b ∨ w.heap.size ≤ b

theorem Next.trans {a b c : World} {p : Nat} {s' s2 : St} {B B' : Nat → Prop} (h : Only B a b) (hB : ∀ i, B' i → B i ∨ a.heap.size ≤ i) (k : Next b p s2 B' c) : Next a p s2 B c := by
  obtain ⟨B2, d, o, f⟩ := k
  exact ⟨B2, d, h.andThen o hB, fun i hi => by rcases f i hi with h1 | h1; exact hB i h1; exact .inr (Nat.le_trans h.size h1)⟩

theorem DiskAt.put {w w' : World} {p m : Nat} {s : St} {B : Nat → Prop} {L : List Pl} {x x' : Pl} {n : List UInt8} {g : F → F} (h : DiskAt w p s B m L) (hx : L.find? (fun x => x.f.name == n) = some x)
    (hg : x'.f = g x.f) (hn : x'.f.name = x.f.name) (hb : x'.blk = x.blk) (hf : FileAt w' x') (o : Only (fun i => i ∈ plBlocks x) w w')
    (hrow : ∀ i, x'.v.ownBlock = some i → x.v.ownBlock = some i ∨ (w.heap.size ≤ i ∧ i < w'.heap.size)) :
    ∃ L', DiskAt w' p (s.upd n g) (fun b => B b ∨ (w.heap.size ≤ b ∧ b < w'.heap.size)) m L' := by
  obtain ⟨A, C, rfl, hxn, hA⟩ := find_split hx
  have hxn' : x.f.name = n := by simpa using hxn
  have hA' : ∀ y ∈ A, y.f.name ≠ n := fun y hy => by simpa using hA y hy
  have hC' : ∀ y ∈ C, y.f.name ≠ n := by
    have hp := names_apart h.own
    rw [List.pairwise_append] at hp
    have := (List.pairwise_cons.1 hp.2.1).1
    intro y hy e
    exact this y hy (by rw [hxn', e])
  have hap := h.apart
  have hbl : blocks (A ++ x :: C) = blocks A ++ (x.blk :: (x.v.ownBlock.toList ++ blocks C)) := by simp [blocks, plBlocks]
  have hbl' : blocks (A ++ x' :: C) = blocks A ++ (x.blk :: (x'.v.ownBlock.toList ++ blocks C)) := by simp [blocks, plBlocks, hb]
  rw [hbl] at hap
  have hlow : ∀ i, i ∈ p :: m :: blocks (A ++ x :: C) → i < w.heap.size := fun i hi => h.low i (h.mine i hi)
  rw [hbl] at hlow
  have hxin : ∀ i ∈ plBlocks x, i ≠ p ∧ i ≠ m ∧ i ∉ blocks A ∧ i ∉ blocks C := by
    intro i hi
    simp only [List.nodup_cons, List.mem_cons, List.mem_append, List.nodup_append, not_or] at hap
    simp only [plBlocks, List.mem_cons, Option.mem_toList] at hi
    obtain ⟨⟨h1, h2, h3, h4, h5⟩, ⟨h6, h7, h8, h9⟩, hAn, ⟨⟨hb1, hb2⟩, hr, hCn, hrc⟩, hac⟩ := hap
    rcases hi with rfl | hi
    · exact ⟨fun e => h3 e.symm, fun e => h7 e.symm, fun e => hac _ e _ (.inl rfl) rfl, hb2⟩
    · have hi' : i ∈ x.v.ownBlock.toList := by simpa using hi
      exact ⟨fun e => h4 (e ▸ hi'), fun e => h8 (e ▸ hi'), fun e => hac _ e _ (.inr (.inl hi')) rfl, fun e => hrc _ hi' _ e rfl⟩
  refine ⟨A ++ x' :: C, ?_, ?_, ?_, ?_, ?_, ?_, ?_⟩
  · rw [o.block p (lt_of_block h.heap) (fun e => (hxin p e).1 rfl)]; exact h.heap
  · have he : ents (A ++ x' :: C) = ents (A ++ x :: C) := by simp [ents, hn, hb]
    rw [he]
    have := own_only h.own o (fun e => (hxin m e).2.1 rfl)
    simpa using this
  · show _ = s.fs.map _
    rw [← h.fs]
    simp only [List.map_append, List.map_cons]
    rw [hg]
    have := @FsPlain.upd_list n g (A.map (·.f)) (C.map (·.f)) x.f hxn' (fun y hy => by obtain ⟨z, hz, rfl⟩ := List.mem_map.1 hy; exact hA' z hz) (fun y hy => by obtain ⟨z, hz, rfl⟩ := List.mem_map.1 hy; exact hC' z hz)
    simp only [List.map_append, List.map_cons] at this ⊢
    exact this.symm
  · intro y hy
    rcases List.mem_append.1 hy with hy | hy
    · exact (h.file y (by simp [hy])).only o fun b hb1 hb2 => (hxin b hb2).2.2.1 (by simp only [blocks, List.mem_flatMap]; exact ⟨y, hy, hb1⟩)
    · rcases List.mem_cons.1 hy with rfl | hy
      · exact hf
      · exact (h.file y (by simp [hy])).only o fun b hb1 hb2 => (hxin b hb2).2.2.2 (by simp only [blocks, List.mem_flatMap]; exact ⟨y, hy, hb1⟩)
  · rw [hbl']
    have hsub : (p :: m :: (blocks A ++ (x.blk :: (blocks C)))).Nodup := by
      refine hap.sublist ?_
      refine List.Sublist.cons_cons _ (List.Sublist.cons_cons _ (List.Sublist.append (List.Sublist.refl _) (List.Sublist.cons_cons _ ?_)))
      exact List.sublist_append_right _ _
    cases hr : x'.v.ownBlock with
    | none => simpa using hsub
    | some i =>
      simp only [Option.toList_some, List.singleton_append]
      have hperm : (p :: m :: (blocks A ++ (x.blk :: i :: blocks C))).Perm (i :: p :: m :: (blocks A ++ (x.blk :: blocks C))) := by
        have h1 : (blocks A ++ x.blk :: i :: blocks C).Perm (i :: (blocks A ++ x.blk :: blocks C)) := by
          have := @List.perm_middle _ i (blocks A ++ [x.blk]) (blocks C)
          simpa using this
        exact ((h1.cons m).trans (List.Perm.swap _ _ _)).cons p |>.trans (List.Perm.swap _ _ _)
      refine hperm.symm.nodup (List.nodup_cons.2 ⟨?_, hsub⟩)
      intro hmem
      rcases hrow i hr with h1 | h1
      · have hx2 := hxin i (by simp [plBlocks, h1])
        simp only [List.mem_cons, List.mem_append] at hmem
        rcases hmem with e | e | e | e | e
        · exact hx2.1 e
        · exact hx2.2.1 e
        · exact hx2.2.2.1 e
        · simp only [List.nodup_cons, List.mem_cons, List.mem_append, List.nodup_append, not_or] at hap
          exact hap.2.2.2.1.1.1 (by rw [← e]; simp [h1])
        · exact hx2.2.2.2 e
      · have := hlow i (by
          simp only [List.mem_cons, List.mem_append] at hmem ⊢
          rcases hmem with e | e | e | e | e
          · exact .inl e
          · exact .inr (.inl e)
          · exact .inr (.inr (.inl e))
          · exact .inr (.inr (.inr (.inl e)))
          · exact .inr (.inr (.inr (.inr (.inr e)))))
        omega
  · intro b hb1
    rw [hbl'] at hb1
    have hm : ∀ i, i ∈ p :: m :: blocks (A ++ x :: C) → B i := h.mine
    rw [hbl] at hm
    simp only [List.mem_cons, List.mem_append] at hb1 hm
    rcases hb1 with e | e | e | e | e | e
    · exact .inl (hm _ (.inl e))
    · exact .inl (hm _ (.inr (.inl e)))
    · exact .inl (hm _ (.inr (.inr (.inl e))))
    · exact .inl (hm _ (.inr (.inr (.inr (.inl e)))))
    · have hr : x'.v.ownBlock = some b := by simpa using e
      rcases hrow b hr with h1 | h1
      · exact .inl (hm _ (.inr (.inr (.inr (.inr (.inl (by simp [h1])))))))
      · exact .inr h1
    · exact .inl (hm _ (.inr (.inr (.inr (.inr (.inr e))))))
  · intro b hb1
    rcases hb1 with e | e
    · exact Nat.lt_of_lt_of_le (h.low b e) o.size
    · exact e.2

theorem DiskAt.row_ne {w : World} {p m : Nat} {s : St} {B : Nat → Prop} {L : List Pl} {x : Pl} (h : DiskAt w p s B m L) (hx : x ∈ L) : x.v.ownBlock ≠ some x.blk := by
  intro e
  have hmem : (plBlocks x).Sublist (blocks L) := by
    obtain ⟨A, C, rfl⟩ := List.append_of_mem hx
    simp only [blocks, List.flatMap_append, List.flatMap_cons]
    exact (List.sublist_append_left _ _).trans (List.sublist_append_right _ _)
  have hnd := (List.nodup_cons.1 (List.nodup_cons.1 h.apart).2).2.sublist hmem
  simp [plBlocks, e] at hnd

/-- A piece of a row of bytes, as a string. -/
theorem piece_run {w : World} {v : Value} {l : List UInt8} (h : w.ownsRow 0 5 1 v l.length (Lib.byteCells l)) (i k : Nat) (hk : i + k ≤ l.length) :
    ∃ u, (Instr.slice 72 v (some (.int .i64 (i : Int))) (some (.int .i64 ((i : Int) + (k : Int)))) none).run Try.prog w = .ok u w ∧ (convert 72 9 u).run Try.prog w = .ok (.string (bs ((l.drop i).take k))) w := by
  have hsz : ∀ w, (sizeOf (Try.prog.elem 72)).run Try.prog w = .ok 1 w := fun w => by kernel_rfl
  have ht : Try.prog.underlying 72 = some (.slice (Try.prog.elem 72)) := by kernel_rfl
  rcases h.2 with ⟨rfl, h0⟩ | ⟨g, cap, cur, rfl, _, hg, hn, hc, hcs, htk⟩
  · have hl : l = [] := List.eq_nil_of_length_eq_zero h0
    subst hl
    have : i = 0 ∧ k = 0 := by simp at hk; omega
    obtain ⟨rfl, rfl⟩ := this
    refine ⟨.slice none 0 0, ?_, ?_⟩
    · rw [run_slice_lh w _ _ _ _ ht .i64 .i64 _ _ (by omega) (by omega) (by simp), hsz]
      rfl
    · exact Lib.run_convert_nil_bytes w _ _ 5 0 Try.underlying72 Try.underlying5 Try.underlying9
  · have hcell := h.cells (g := g) rfl
    have hlen : ((l.drop i).take k).length = k := by rw [List.length_take, List.length_drop]; omega
    have ek : ((i : Int) + (k : Int)).toNat - (i : Int).toNat = k := by omega
    refine ⟨sliced (some ⟨g, 0, none⟩) i (i + k) cap 1, ?_, ?_⟩
    · rw [run_slice_lh w _ _ _ _ ht .i64 .i64 _ _ (by omega) (by omega) (by omega), hsz]
      have e2 : ((i : Int) + (k : Int)).toNat = i + k := by omega
      simp only [Result.andThen, e2, Int.toNat_natCast]
    · unfold sliced
      have e3 : i + k - i = k := by omega
      rw [e3]
      by_cases hci : cap = i
      · have hk0 : k = 0 := by omega
        subst hk0
        rw [if_pos hci]
        exact run_convert_bytes_back (P := Try.prog) w 72 9 5 _ _ (List.take 0 (List.drop i l)) Try.underlying72 Try.underlying5 Try.underlying9 (fun j hj => by simp at hj)
      · rw [if_neg hci]
        have := run_convert_bytes_back (P := Try.prog) w 72 9 5 ⟨g, i, none⟩ (cap - i) ((l.drop i).take k) Try.underlying72 Try.underlying5 Try.underlying9 (fun j hj => by
          have hj' : j < k := by rw [hlen] at hj; exact hj
          have := hcell (i + j) (.int .u8 (l[i + j].toNat : Int)) (by simp [Lib.byteCells, List.getElem?_eq_getElem (show i + j < l.length by omega)])
          rw [Addr.add_lit] at this
          rw [Addr.add_lit, show i + j = 0 + (i + j) by omega, this]
          simp)
        rw [hlen] at this
        simp only [Option.map_some, Nat.mul_one, Addr.add_lit, Nat.zero_add]
        exact this
end Go.Proofs.Ytckmciafonnohaa

/- The contracts of slices.Clone at bytes, of a file's clone, and of Clone. -/
import Derived.Test.YthmcmgbhjdfncaaFsRise
namespace Go.Proofs.Ythmcmgbhjdfncaa
open Go.RowKit Go.Maps FsPlain
set_option linter.unusedVariables false
set_option linter.unusedSimpArgs false

theorem base0 {w : World} {base : Nat} {v : Value} {n : Nat} {xs : List Value} (h : w.ownsRow base 5 1 v n xs) : w.ownsRow 0 5 1 v n xs := by
  refine ⟨h.1, ?_⟩
  rcases h.2 with h1 | ⟨g, cap, cur, hv, _, r⟩
  · exact .inl h1
  · exact .inr ⟨g, cap, cur, hv, Nat.zero_le _, r⟩
def Cloned (w : World) (l : List UInt8) (e : Ending) (w' : World) : Prop := ∃ a c, e = .returned (.slice a l.length c) ∧ w'.ownsRow w.heap.size 5 1 (.slice a l.length c) l.length (Lib.byteCells l) ∧ Gr w w'

theorem row_shape2 {w : World} {base : Nat} {v : Value} {n : Nat} {xs : List Value} (h : w.ownsRow base 5 1 v n xs) : ∃ a c, v = .slice a n c := by
  rcases h.2 with ⟨rfl, rfl⟩ | ⟨g, cap, cur, rfl, _⟩
  · exact ⟨none, 0, rfl⟩
  · exact ⟨_, _, rfl⟩

set_option maxHeartbeats 1000000 in
theorem sclone_c (v : Value) (l : List UInt8) (w : World) (h : w.ownsRow 0 5 1 v l.length (Lib.byteCells l)) (hl : (l.length : Int) ≤ 1000000000000) :
    Calls Try.prog 32 #[v] w (Cloned w l) := by
  obtain ⟨i0, hi, hz0, hz1, hz2⟩ := info_parts infoB
  have hnl := Lib.run_eql_slice_nil (P := Try.prog) 
  rcases h.2 with ⟨rfl, h0⟩ | ⟨g, cap, cur, rfl, hb, hg, hn, hc, hcs, htk⟩
  · have hl0 : l = [] := List.eq_nil_of_length_eq_zero h0
    subst hl0
    clear h
    go_enter Try.func32, Try.ntmps32
    go_wp2_with fail
    go_ret
    exact ⟨none, 0, rfl, World.ownsRow_nil _ _ _ _, Gr.refl _⟩
  · have hcell := h.cells (g := g) rfl
    have hglt := (Array.getElem?_eq_some_iff.1 hg).1
    have hown0 : (w.alloc (.cells #[] 5)).ownsRow w.heap.size 5 1 (.slice (some ⟨w.heap.size, 0, none⟩) 0 0) 0 [] := World.ownsRow_made w #[] 0 (Nat.le_refl _) (by decide) rfl
    have hcell2 : ∀ j u, (Lib.byteCells l)[j]? = some u → (w.alloc (.cells #[] 5)).cell? ((⟨g, 0, none⟩ : Addr).add j) = some u := fun j u hj => by
      rw [World.cell?_alloc_lt _ _ _ (by rw [Addr.add_lit]; exact hglt)]; exact hcell j u hj
    have h1 : ∀ u ∈ Lib.byteCells l, u.oneCell' = true := fun u hu => by
      unfold Lib.byteCells at hu; obtain ⟨_, _, rfl⟩ := List.mem_map.1 hu; rfl
    have hml : 0 + l.length ≤ maxLen := by unfold maxLen; omega
    have hmb : (0 + l.length) * 1 ≤ 140737488355328 := by omega
    have hsz : w.heap.size ≤ (w.alloc (.cells #[] 5)).heap.size := by simp
    have hnl2 := hnl w 56 5 (some ⟨g, 0, none⟩) l.length cap 0 0 Try.underlying56
    have H1 := Lib.hid h1
    have HC2 := Lib.hid hcell2
    have hbl := Lib.hid (Lib.byteCells_length l)
    clear hcell hnl h hg hn hc hcs htk hb h1 hcell2
    go_enter Try.func32, Try.ntmps32
    go_wp2_with (first | (at_builtin; refine wpList_append_own _ rfl _ _ 56 rfl w.heap.size 5 i0 (.int .u8 0) 1 1 Try.underlying56 hi hz0 hz1 hz2 rfl (by decide) (.slice (some ⟨w.heap.size, 0, none⟩) 0 0) 0 [] rfl hown0 ⟨g, 0, none⟩ l.length cap (Lib.byteCells l) rfl (by rw [hbl.out, Nat.mul_one]) HC2.out H1.out hml hmb hsz ?_; intro v' w1 hown hgr hnil; have HO := Lib.hid hown; have HG := Lib.hid hgr; clear hown hgr hnil) | fail)
    go_ret
    have hown := HO.out
    rw [Nat.zero_add, List.nil_append] at hown
    obtain ⟨a, c, rfl⟩ := row_shape2 hown
    refine ⟨a, c, rfl, hown, ?_⟩
    exact ((Below.refl _ _).alloc (Nat.le_refl _) _).grown HG.out (by simp) (fun j hj => by cases hj; exact Nat.le_refl _)

/-- A file's copy, in new blocks. -/
def Twin (w : World) (f : F) (e : Ending) (w' : World) : Prop :=
  ∃ b v, e = .returned (.pointer (some ⟨b, 0, none⟩)) ∧ FileAt w' ⟨f, b, v⟩ ∧ Gr w w' ∧ w.heap.size ≤ b ∧ (∀ i, v.ownBlock = some i → w.heap.size ≤ i ∧ i ≠ b)

set_option maxHeartbeats 1000000 in
theorem fclone_c (x : Pl) (w : World) (hF : FileAt w x) (hl : (x.f.data.length : Int) ≤ 1000000000000) :
    Calls Try.prog 25 #[.pointer (some ⟨x.blk, 0, none⟩)] w (Twin w x.f) := by
  obtain ⟨a, c, hv, _⟩ := row_shape hF.2
  have c0 : w.cell? ⟨x.blk, 0, none⟩ = some (.slice a x.f.data.length c) := by rw [cells_at hF.1, ← hv]; rfl
  have c1 : w.cell? ⟨x.blk, 1, none⟩ = some (.int .i64 (x.f.kept : Int)) := by rw [cells_at hF.1]; rfl
  have hlt := lt_of_block hF.1
  have hrow := hF.2
  rw [hv] at hrow
  have CS := sclone_c (.slice a x.f.data.length c) x.f.data w.drew hrow hl
  clear hrow hv hF
  go_enter Try.func25, Try.ntmps25
  go_wp2_with fail
  go_region_held3 (fun w' => w'.cell? ⟨x.blk, 0, none⟩ = some (.slice a x.f.data.length c) ∧ w'.cell? ⟨x.blk, 1, none⟩ = some (.int .i64 (x.f.kept : Int))) (first | go_keep | (refine ⟨by rw [g.cell (by simpa using hlt)]; go_keep, by rw [g.cell (by simpa using hlt)]; go_keep⟩)) ((go_at_call 32; ((with_reducible refine (CS).mono ?_); rintro e u ⟨a2, c2, rfl, ho, g⟩)))
  all_goals
    have HO := Lib.hid ho
    have HG := Lib.hid g
    clear ho g
    go_wp2_with fail
    go_ret
    have hg2 : Gr w u := Gr.ofDrew HG.out
    have hb := HO.out.lt
    refine ⟨u.heap.size, .slice a2 x.f.data.length c2, rfl, ⟨heap_alloc_new u _, (base0 HO.out).alloc _⟩, hg2.trans (Below.alloc (Below.refl _ _) (Nat.le_refl _) _), hg2.size, fun i hi => ?_⟩
    have := hb i hi
    exact ⟨this.1, by omega⟩

theorem names_up {w : World} {b n : Nat} {L : List Pl} (h : w.ownsMap Try.prog 9 ptrElem b n (ents L)) : L.Pairwise fun x y => bytesBefore x.f.name y.f.name = true := by
  obtain ⟨es, clock, _, F, _, hD⟩ := h
  have hp := sorted_sorted lawS.one _ (fit_keys F) (fit_apart lawS F)
  unfold ents at hD
  simp only [DataW.map.injEq] at hD
  rw [← hD, List.pairwise_map] at hp
  exact hp

theorem same_files {w w' : World} {b n b' n' : Nat} {L Lo : List Pl} (h : w.ownsMap Try.prog 9 ptrElem b n (ents L)) (h' : w'.ownsMap Try.prog 9 ptrElem b' n' (ents Lo)) (hm : ∀ f, f ∈ Lo.map (·.f) ↔ f ∈ L.map (·.f)) : Lo.map (·.f) = L.map (·.f) := by
  have p1 := names_up h
  have p2 := names_up h'
  have irr : ∀ x y : F, bytesBefore x.name y.name = true → x ≠ y := fun x y e e2 => by subst e2; rw [WideAt.bytes_irrefl] at e; cases e
  have q1 : (L.map (·.f)).Pairwise fun x y => bytesBefore x.name y.name = true := by rw [List.pairwise_map]; exact p1
  have q2 : (Lo.map (·.f)).Pairwise fun x y => bytesBefore x.name y.name = true := by rw [List.pairwise_map]; exact p2
  have hp : (Lo.map (·.f)).Perm (L.map (·.f)) := (List.perm_ext_iff_of_nodup (q2.imp (irr _ _)) (q1.imp (irr _ _))).2 hm
  exact List.Perm.eq_of_pairwise (fun x y _ _ e1 e2 => by have := WideShapes.bytes_trans _ _ _ e1 e2; rw [WideAt.bytes_irrefl] at this; cases this) q2 q1 hp

theorem put_runs (m : Nat) (n : ByteArray) (hn : n.size ≤ maxLen) : ∃ W : Nat → World → World, ∀ b u k D, Own m k D u → k < maxLen →
    (Instr.mapUpdate 43 (.map (some m)) (.string n) (.pointer (some ⟨b, 0, none⟩))).run Try.prog u = .ok () (W b u) ∧ Own m (k + 1) (D.put (.string n.data.toList) (.lit (.int .i64 (b : Int)))) (W b u) ∧ Only (fun i => i = m) u (W b u) :=
  ⟨fun b => Classical.choose (put_run m b n hn), fun b => Classical.choose_spec (put_run m b n hn)⟩

/-- The files that are copied already. -/
structure CopyAt (w : World) (s : St) (m : Nat) (L : List Pl) (wr : World) (left : Lit → Bool) (cnt : Nat) (Lo : List Pl) : Prop where
  rng : wr.ranges Try.prog 9 ptrElem m (w.heap.size + 2) L.length (ents L) left cnt
  own : Own (w.heap.size + 1) Lo.length (ents Lo) wr
  heap : wr.heap[w.heap.size]? = some (.cells (dcells s (w.heap.size + 1)) 45 (0, 0))
  file : ∀ x ∈ Lo, FileAt wr x
  some : ∀ f, f ∈ Lo.map (·.f) ↔ ∃ x ∈ L, x.f = f ∧ left (.string f.name) = false
  apart : (w.heap.size :: (w.heap.size + 1) :: (w.heap.size + 2) :: blocks Lo).Nodup
  low : ∀ b ∈ blocks Lo, w.heap.size ≤ b ∧ b < wr.heap.size
  num : Lo.length + cnt ≤ L.length
  gr : Gr w wr
  big : w.heap.size + 3 ≤ wr.heap.size
def CopyIn (w : World) (s : St) (m : Nat) (L : List Pl) (wr : World) : Prop := ∃ left cnt Lo, CopyAt w s m L wr left cnt Lo

theorem copy_step {w wr w1 u w3 : World} {s : St} {m cnt cnt1 : Nat} {L Lo : List Pl} {left : Lit → Bool} {x : Pl} {b : Nat} {v : Value} (h : CopyAt w s m L wr left cnt Lo) (hm : m < w.heap.size) (hL : L.Pairwise (fun x y => x.f.name ≠ y.f.name))
    (hx : x ∈ L) (hlx : left (.string x.f.name) = true) (hrg : w1.ranges Try.prog 9 ptrElem m (w.heap.size + 2) L.length (ents L) (fun z => left z && !z.sameKey (.string x.f.name)) cnt1) (hlt : cnt1 < cnt)
    (hg1 : wr.grownBy w1 (some (w.heap.size + 2))) (hF : FileAt u ⟨x.f, b, v⟩) (hg2 : Gr w1 u) (hb : w1.heap.size ≤ b) (hv : ∀ i, v.ownBlock = some i → w1.heap.size ≤ i ∧ i ≠ b)
    (ho : Own (w.heap.size + 1) (Lo.length + 1) ((ents Lo).put (.string x.f.name) (.lit (.int .i64 (b : Int)))) w3) (hg3 : Only (fun i => i = w.heap.size + 1) u w3) :
    CopyAt w s m L w3 (fun z => left z && !z.sameKey (.string x.f.name)) cnt1 (insL ⟨x.f, b, v⟩ Lo) := by
  have o1 : Only (fun i => i = w.heap.size + 2) wr w1 := Only.grown hg1 (fun k hk => by cases hk; rfl)
  have s1 := o1.size
  have s2 := hg2.size
  have s3 := hg3.size
  have hbig := h.big
  have oT : Only (fun i => i = w.heap.size + 1 ∨ i = w.heap.size + 2) wr w3 := ((o1.mono fun i e => .inr e).trans (Only.ofGr hg2)).trans (hg3.mono fun i e => .inl e)
  have hperm := insL_perm ⟨x.f, b, v⟩ Lo
  have hap := h.apart
  have hlow := h.low
  have hnin : Lo.find? (fun y => y.f.name == x.f.name) = none := by
    rw [List.find?_eq_none]
    intro y hy e
    have e' : y.f.name = x.f.name := by simpa using e
    obtain ⟨z, _, hz, hl⟩ := (h.some y.f).1 (List.mem_map.2 ⟨y, hy, rfl⟩)
    rw [e', hlx] at hl; cases hl
  have hbf : ∀ i ∈ plBlocks (⟨x.f, b, v⟩ : Pl), w1.heap.size ≤ i := by
    intro i hi
    simp only [plBlocks, List.mem_cons, Option.mem_toList] at hi
    rcases hi with rfl | hi
    · exact hb
    · exact (hv i hi).1
  have hbu : ∀ i ∈ plBlocks (⟨x.f, b, v⟩ : Pl), i < u.heap.size := by
    intro i hi
    simp only [plBlocks, List.mem_cons, Option.mem_toList] at hi
    rcases hi with rfl | hi
    · exact lt_of_block hF.1
    · exact (hF.2.lt i hi).2
  have hbp : (blocks (insL ⟨x.f, b, v⟩ Lo)).Perm (plBlocks ⟨x.f, b, v⟩ ++ blocks Lo) := by
    refine (hperm.flatMap_right _).trans ?_
    simp [blocks]
  refine ⟨?_, ?_, ?_, ?_, ?_, ?_, ?_, ?_, ?_, ?_⟩
  · have r1 : u.ranges Try.prog 9 ptrElem m (w.heap.size + 2) L.length (ents L) (fun z => left z && !z.sameKey (.string x.f.name)) cnt1 := hrg.kept (row := none) ⟨hg2.os, hg2.tape, hg2.output, hg2.size, fun k hk _ => hg2.block k hk⟩ (by simp) (by simp)
    exact r1.kept hg3.grownBy (by simp; omega) (by simp)
  · rw [ents_put (x := ⟨x.f, b, v⟩) hnin, hperm.length_eq]; exact ho
  · rw [oT.block _ (by omega) (by omega)]; exact h.heap
  · intro y hy
    rcases List.mem_cons.1 (hperm.mem_iff.1 hy) with rfl | hy
    · exact hF.only hg3 fun i hi e => by have := hbf i hi; have e2 : i = w.heap.size + 1 := e; omega
    · refine (h.file y hy).only oT fun i hi e => ?_
      have hi2 := mem_blocks hy hi
      simp only [List.nodup_cons, List.mem_cons, not_or] at hap
      rcases e with e | e
      · subst e; exact hap.2.1.2 hi2
      · subst e; exact hap.2.2.1 hi2
  · intro f
    have hpm : f ∈ (insL ⟨x.f, b, v⟩ Lo).map (·.f) ↔ f = x.f ∨ f ∈ Lo.map (·.f) := by
      rw [(hperm.map _).mem_iff]; simp
    rw [hpm, h.some f]
    constructor
    · rintro (rfl | ⟨y, hy, hyf, hl⟩)
      · exact ⟨x, hx, rfl, by simp [Lit.sameKey]⟩
      · exact ⟨y, hy, hyf, by simp [hl]⟩
    · rintro ⟨y, hy, rfl, hl⟩
      by_cases e : y.f.name = x.f.name
      · left
        by_cases hxy : y = x
        · rw [hxy]
        · exfalso
          obtain ⟨A, C, rfl⟩ := List.append_of_mem hx
          rw [List.pairwise_append, List.pairwise_cons] at hL
          rcases List.mem_append.1 hy with h1 | h1
          · exact hL.2.2 y h1 x (by simp) e
          · rcases List.mem_cons.1 h1 with h2 | h2
            · exact hxy h2
            · exact hL.2.1.1 y h2 e.symm
      · right
        refine ⟨y, hy, rfl, ?_⟩
        have : (Lit.string y.f.name).sameKey (.string x.f.name) = false := by simp [Lit.sameKey, e]
        simpa [this] using hl
  · have hall : (plBlocks (⟨x.f, b, v⟩ : Pl) ++ (w.heap.size :: (w.heap.size + 1) :: (w.heap.size + 2) :: blocks Lo)).Nodup := by
      rw [List.nodup_append]
      refine ⟨?_, hap, fun i hi j hj e => ?_⟩
      · cases hvb : v.ownBlock with
        | none => simp [plBlocks, hvb]
        | some i => simp [plBlocks, hvb]; exact fun e => (hv i hvb).2 e.symm
      · subst e
        have h1 := hbf i hi
        simp only [List.mem_cons] at hj
        rcases hj with e | e | e | e
        · omega
        · omega
        · omega
        · have := (hlow i e).2; omega
    refine List.Perm.nodup ?_ hall
    have q1 : (w.heap.size :: (w.heap.size + 1) :: (w.heap.size + 2) :: blocks (insL ⟨x.f, b, v⟩ Lo)).Perm ([w.heap.size, w.heap.size + 1, w.heap.size + 2] ++ (plBlocks ⟨x.f, b, v⟩ ++ blocks Lo)) := by
      exact ((hbp.cons (w.heap.size + 2)).cons (w.heap.size + 1)).cons w.heap.size
    have q2 : ([w.heap.size, w.heap.size + 1, w.heap.size + 2] ++ (plBlocks ⟨x.f, b, v⟩ ++ blocks Lo)).Perm (plBlocks (⟨x.f, b, v⟩ : Pl) ++ ([w.heap.size, w.heap.size + 1, w.heap.size + 2] ++ blocks Lo)) := by
      rw [← List.append_assoc, ← List.append_assoc]
      exact List.perm_append_comm.append_right _
    exact (q1.trans q2).symm
  · intro i hi
    rcases List.mem_append.1 (hbp.mem_iff.1 hi) with h1 | h1
    · exact ⟨by have := hbf i h1; omega, by have := hbu i h1; omega⟩
    · exact ⟨(hlow i h1).1, by have := (hlow i h1).2; omega⟩
  · have hl := hperm.length_eq
    have hn := h.num
    simp only [List.length_cons] at hl
    omega
  · refine Below.trans h.gr ⟨oT.os, oT.tape, oT.output, oT.size, fun k hk => oT.block k (by omega) (by omega)⟩
  · omega

set_option maxHeartbeats 2000000 in
theorem clone_disk (p : Nat) (s : St) (B : Nat → Prop) (w : World) (h : Disk w p s B) :
    Calls Try.prog 8 #[.pointer (some ⟨p, 0, none⟩)] w fun e w' => ∃ p2 C, e = .returned (.pointer (some ⟨p2, 0, none⟩)) ∧ Disk w' p2 s C ∧ Gr w w' ∧ ∀ b, C b → w.heap.size ≤ b := by
  obtain ⟨hs, m, L, h⟩ := h
  have C0 := made_c p m s w h.heap
  have hmm := @run_makeMap Try.prog
  have c0 : w.cell? ⟨p, 0, none⟩ = some (.int .i64 s.room) := by rw [cells_at h.heap]; rfl
  have c1 : w.cell? ⟨p, 1, none⟩ = some (.map (some m)) := by rw [cells_at h.heap]; rfl
  have c2 : w.cell? ⟨p, 2, none⟩ = some (.int .i64 s.calls) := by rw [cells_at h.heap]; rfl
  have c3 : w.cell? ⟨p, 3, none⟩ = some (.int .i64 s.ahead) := by rw [cells_at h.heap]; rfl
  have c4 : w.cell? ⟨p, 4, none⟩ = some (.bool s.down) := by rw [cells_at h.heap]; rfl
  have hplt := lt_of_block h.heap
  have HD := Lib.hid h
  have HS := Lib.hid hs
  obtain ⟨w0, hw0⟩ : ∃ w0, w0 = (w.alloc (.cells (dcells s (w.heap.size + 1)) 45)).alloc (.map #[] 0) := ⟨_, rfl⟩
  have hs0 : w0.heap.size = w.heap.size + 2 := by rw [hw0]; simp
  have g0 : Gr w w0 := by rw [hw0]; exact (((Below.refl _ _).alloc (Nat.le_refl _) _).alloc (by simp) _)
  have hown0 : w0.ownsMap Try.prog 9 ptrElem m L.length (ents L) := Own.gr h.own g0
  have hownm : Own (w.heap.size + 1) 0 (ents []) w0 := by
    rw [hw0]
    have := World.ownsMap_made (w.alloc (.cells (dcells s (w.heap.size + 1)) 45)) Try.prog 9 ptrElem
    rw [show (w.alloc (.cells (dcells s (w.heap.size + 1)) 45)).heap.size = w.heap.size + 1 by simp] at this
    exact this
  have hheap0 : w0.heap[w.heap.size]? = some (.cells (dcells s (w.heap.size + 1)) 45 (0, 0)) := by
    rw [hw0, Below.heap_alloc _ _ _ (by simp)]; exact heap_alloc_new w _
  have hmlt : m < w.heap.size := h.own.lt
  have HW0 := Lib.hid hw0
  have hownW : ((w.alloc (.cells #[.int .i64 s.room, .map (some (w.heap.size + 1)), .int .i64 s.calls, .int .i64 s.ahead, .bool s.down] 45)).alloc (.map #[] 0)).ownsMap Try.prog 9 ptrElem m L.length (ents L) := by
    have := hown0; rw [hw0] at this; exact this
  have HG0 := Lib.hid g0
  have HOM := Lib.hid hownm
  have HH0 := Lib.hid hheap0
  have HS0 := Lib.hid hs0
  clear h hs hw0 hs0 g0 hown0 hownm hheap0
  go_enter Try.func8, Try.ntmps8
  go_wp2_with fail
  refine (C0).mono ?_; rintro e w2 ⟨rfl, rfl⟩
  go_wp2_with (first | (at_range; refine wpList_range_own _ rfl _ 43 rfl 9 54 lawS Try.underlying43 _ m L.length _ rfl hownW ?_; intro w4 hrg0 hg0 hs0; have HR0 := Lib.hid hrg0; have HGR0 := Lib.hid hg0; have HSZ0 := Lib.hid hs0; clear hrg0 hg0 hs0) | fail)
  go_frame
  rw [show ((w.alloc (.cells #[.int .i64 s.room, .map (some (w.heap.size + 1)), .int .i64 s.calls, .int .i64 s.ahead, .bool s.down] 45)).alloc (.map #[] 0)).heap.size = w.heap.size + 2 by simp]
  clear hownW C0 hmm c0 c1 c2 c3 c4
  go_loopw [4] (fun _ wr => CopyIn w s m L wr) (fun _ wr => wr.rangeLeft m (w.heap.size + 2))
  case atStart =>
    have hr := HR0.out
    rw [show ((w.alloc (.cells #[.int .i64 s.room, .map (some (w.heap.size + 1)), .int .i64 s.calls, .int .i64 s.ahead, .bool s.down] 45)).alloc (.map #[] 0)).heap.size = w.heap.size + 2 by simp] at hr
    have hg : w0.grownBy w4 none := by rw [HW0.out]; exact HGR0.out
    have hsz : w4.heap.size = w.heap.size + 3 := by have := HSZ0.out; simp at this; omega
    have hg4 : Gr w0 w4 := ⟨hg.os, hg.tape, hg.output, hg.size, fun k hk => hg.block k hk (by simp)⟩
    refine ⟨_, _, [], hr, HOM.out.gr hg4, ?_, (fun x hx => by cases hx), fun f => ?_, by simp [blocks], (fun b hb => by simp [blocks] at hb), ?_, HG0.out.trans hg4, by omega⟩
    · rw [hg4.block _ (by have := HS0.out; omega)]; exact HH0.out
    · constructor
      · intro hf; simp at hf
      · rintro ⟨x, hx, rfl, hl⟩
        rw [has_is, List.any_eq_false] at hl
        exact absurd (by simp) (hl x hx)
    · rw [ents_size]; simp
  case round =>
    obtain ⟨left, cnt, Lo, hC⟩ := hrel
    have hrng := hC.rng
    have HC := Lib.hid hC
    clear hC
    go_wp2_with (first | (at_next; refine wpList_next_files _ rfl _ rfl L m (w.heap.size + 2) _ _ _ rfl hrng ?_ ?_) | fail)
    · intro hc0 hl0
      have hap := HC.out.apart
      have hlow := HC.out.low
      have hfs := same_files HD.out.own HC.out.own (fun f => by
        rw [HC.out.some f, List.mem_map]
        constructor
        · rintro ⟨x, hx, e, _⟩; exact ⟨x, hx, e⟩
        · rintro ⟨x, hx, e⟩; exact ⟨x, hx, e, hl0 _⟩)
      have hD2 : DiskAt wr w.heap.size s (fun b => w.heap.size ≤ b ∧ b < wr.heap.size) (w.heap.size + 1) Lo := by
        have hbig := HC.out.big
        refine ⟨HC.out.heap, HC.out.own, hfs.trans HD.out.fs, HC.out.file, ?_, ?_, fun b hb => hb.2⟩
        · simp only [List.nodup_cons, List.mem_cons, not_or] at hap ⊢
          exact ⟨⟨hap.1.1, hap.1.2.2⟩, hap.2.1.2, hap.2.2.2⟩
        · intro b hb
          simp only [List.mem_cons] at hb
          rcases hb with rfl | rfl | hb
          · omega
          · omega
          · exact hlow b hb
      have HD2 := Lib.hid hD2
      have HGR := Lib.hid HC.out.gr
      clear hc0 hl0 hap hlow hfs hD2 hrng
      go_wp2_with fail
      go_ret
      exact ⟨_, _, rfl, ⟨HS.out, _, _, HD2.out⟩, HGR.out, fun b hb => hb.1⟩
    · intro x w1 cnt1 hx hlx hrg1 hlt hg1 hs1 hen
      have o1 : Only (fun i => i = w.heap.size + 2) wr w1 := Only.grown hg1 (fun k hk => by cases hk; rfl)
      have hbig := HC.out.big
      have hcell : w1.cell? ⟨w.heap.size, 1, none⟩ = some (.map (some (w.heap.size + 1))) := by
        rw [o1.cell (by show w.heap.size < _; omega) (by show ¬ w.heap.size = _; omega), cells_at HC.out.heap]; rfl
      have hg01 : Gr w w1 := Below.trans HC.out.gr ⟨o1.os, o1.tape, o1.output, o1.size, fun k hk => o1.block k (by omega) (by omega)⟩
      have hF1 : FileAt w1 x := (HD.out.file x hx).only (Only.ofGr (B := fun _ => False) hg01) (fun _ _ e => e)
      have hxs : x.f ∈ s.fs := by rw [← HD.out.fs]; exact List.mem_map.2 ⟨x, hx, rfl⟩
      have hxl : (x.f.data.length : Int) ≤ 1000000000000 := by have h1 := used_le hxs; have h2 := HS.out.u; have h3 := HS.out.r1; omega
      have hn24 := HS.out.n _ hxs
      have hLo : (Lo.length : Int) ≤ 1000000 := by
        have h1 := HC.out.num; have h2 : L.length = s.fs.length := by rw [← HD.out.fs]; simp
        have h3 := HS.out.m; omega
      have ho1 : Own (w.heap.size + 1) Lo.length (ents Lo) w1 := own_only HC.out.own o1 (by omega)
      obtain ⟨W, hW⟩ := put_runs (w.heap.size + 1) (bs x.f.name) (by rw [bs_size]; unfold maxLen; omega)
      have hk1 : Lo.length < maxLen := by unfold maxLen; omega
      have hk2 : Lo.length + 1 < maxLen := by unfold maxLen; omega
      have hp1 : w.heap.size < w1.heap.size := by have := o1.size; omega
      have CF := fclone_c x w1.drew hF1 hxl
      have hrun := fun b => (hW b w1.drew _ _ ho1.drew hk1).1
      have HCELL := Lib.hid hcell
      have HW := Lib.hid hW
      have HO := Lib.hid ho1
      have HX := Lib.hid hx
      have HLX := Lib.hid hlx
      have HRG := Lib.hid hrng
      have HRG1 := Lib.hid hrg1
      have HG1 := Lib.hid hg1
      have HK1 := Lib.hid hk1
      have HK2 := Lib.hid hk2
      have HP1 := Lib.hid hp1
      have HCNT := Lib.hid hlt
      clear o1 hg01 hF1 hxs hxl hn24 hLo ho1 hW hx hlx hrng hrg1 hg1 hs1 hbig hk1 hk2 hp1 hlt
      go_wp2_with fail
      go_region_held3 (fun w' => w'.cell? ⟨w.heap.size, 1, none⟩ = some (.map (some (w.heap.size + 1))) ∧ ∀ b, (Instr.mapUpdate 43 (.map (some (w.heap.size + 1))) (.string (bs x.f.name)) (.pointer (some ⟨b, 0, none⟩))).run Try.prog w' = .ok () (W b w'))
        (first | (refine ⟨by rw [(HW.out _ _ _ _ (HO.out.drew.gr g) HK1.out).2.2.cell (by exact Nat.lt_of_lt_of_le HP1.out g.size) (by show ¬ w.heap.size = _; omega), g.cell (by exact HP1.out)]; exact HCELL.out, fun b' => (HW.out b' _ _ _ (HW.out _ _ _ _ (HO.out.drew.gr g) HK1.out).2.1 HK2.out).1⟩) | (refine ⟨by rw [g.cell (by exact HP1.out)]; exact HCELL.out, fun b' => (HW.out b' _ _ _ (HO.out.drew.gr g) HK1.out).1⟩) | (refine ⟨by go_keep, hrun⟩))
        ((go_at_call 25; ((with_reducible refine (CF).mono ?_); rintro e u ⟨b, v, rfl, hFu, g, hb, hv⟩)))
      all_goals
        have hfin := copy_step HC.out hmlt (names_apart HD.out.own) HX.out HLX.out HRG1.out HCNT.out HG1.out hFu (Gr.ofDrew g) hb hv (HW.out b u _ _ (HO.out.drew.gr g) HK1.out).2.1 (HW.out b u _ _ (HO.out.drew.gr g) HK1.out).2.2
        have HFIN := Lib.hid hfin
        clear hfin hFu g hb hv hrun hcell
        go_wp2_with fail
        go_roundw
        case rel => exact ⟨_, _, _, HFIN.out⟩
        case measure => rw [HFIN.out.rng.left_eq, HRG.out.left_eq]; exact HCNT.out
end Go.Proofs.Ythmcmgbhjdfncaa

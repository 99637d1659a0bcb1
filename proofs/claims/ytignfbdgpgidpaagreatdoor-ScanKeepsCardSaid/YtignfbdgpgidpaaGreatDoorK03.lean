/- In one text: FsSize, FsUsed. -/
import Derived.Test.YtignfbdgpgidpaaGreatDoorK02
/- The contracts of Size, Sync and Read. -/
namespace Go.Proofs.YtignfbdgpgidpaaGreatDoor
open Go.RowKit FsPlain
set_option linter.unusedVariables false
set_option linter.unusedSimpArgs false
set_option maxRecDepth 20000
theorem next_called {w w' : World} {p m : Nat} {s : St} {B : Nat → Prop} {L : List Pl} (hs : s.ok) (h : DiskAt w' p s.call B m L) (o : Only (fun i => i = p) w w') : Next w p s.call B w' :=
  ⟨B, ⟨ok_call hs, m, L, h⟩, o.mono fun i e => by subst e; exact h.mine _ (by simp), fun i h => .inl h⟩
theorem plBlocks_B {w : World} {p m : Nat} {s : St} {B : Nat → Prop} {L : List Pl} {x : Pl} (h : DiskAt w p s B m L) (hx : x ∈ L) (b : Nat) (hb : b ∈ plBlocks x) : B b :=
  h.mine b (List.mem_cons_of_mem _ (List.mem_cons_of_mem _ (mem_blocks hx hb)))
def Tells (w : World) (p : Nat) (s' : St) (B : Nat → Prop) (v : Value) (e : Ending) (w' : World) : Prop := e = .returned v ∧ Next w p s' B w'
set_option maxRecDepth 20000 in
set_option maxHeartbeats 1000000 in
theorem size_c (p : Nat) (s : St) (B : Nat → Prop) (n : ByteArray) (w : World) (h : Disk w p s B) (hn : n.size ≤ maxLen) (hm : rightB n.data.toList = true) (h1 : s.calls ≤ 1000000000000) :
    Calls Tryz.prog 117 #[.pointer (some ⟨p, 0, none⟩), .string n] w (Tells w p s.call B (.tuple #[.int .i64 (sizeR s n.data.toList).1, .int .i64 (sizeR s n.data.toList).2])) := by
  obtain ⟨hs, m, L, hD⟩ := h
  have C := find_yes p m s B L n w hs hD hn hm h1
  have HS := Lib.hid hs
  clear hD hm hs
  go_enter Tryz.func117, Tryz.ntmps117
  go_wp2_with fail
  refine C.mono ?_; rintro e w2 ⟨hD, hO, hcase⟩
  have HN := Lib.hid (next_called HS.out hD hO)
  have HD := Lib.hid hD
  clear hD hO
  rcases hcase with ⟨hd, rfl⟩ | ⟨hd, hg, rfl⟩ | ⟨hd, x, hg, hf, rfl⟩
  · have HR : Hid (sizeR s n.data.toList = (0, 5)) := Lib.hid (by simp [sizeR, hd])
    clear hd
    go_wp2_with fail
    go_ret2
    exact ⟨by rw [HR.out] <;> rfl, HN.out⟩
  · have HR : Hid (sizeR s n.data.toList = (0, 2)) := Lib.hid (by simp [sizeR, hd, hg])
    clear hd hg
    go_wp2_with fail
    go_ret2
    exact ⟨by rw [HR.out] <;> rfl, HN.out⟩
  · have HR : Hid (sizeR s n.data.toList = ((x.f.data.length : Int), 0)) := Lib.hid (by simp [sizeR, hd, hg])
    have hF := HD.out.file x (List.mem_of_find?_eq_some hf)
    obtain ⟨a, c, hv, _⟩ := row_shape hF.2
    have c0 : w2.cell? ⟨x.blk, 0, none⟩ = some (.slice a x.f.data.length c) := by rw [cells_at hF.1, ← hv]; rfl
    clear hd hg hF hv hf
    go_wp2_with fail
    go_ret2
    exact ⟨by rw [HR.out] <;> rfl, HN.out⟩
set_option maxRecDepth 20000 in
set_option maxHeartbeats 1000000 in
theorem sync_c (p : Nat) (s : St) (B : Nat → Prop) (n : ByteArray) (w : World) (h : Disk w p s B) (hn : n.size ≤ maxLen) (hm : rightB n.data.toList = true) (h1 : s.calls ≤ 1000000000000) :
    Calls Tryz.prog 94 #[.pointer (some ⟨p, 0, none⟩), .string n] w (Tells w p (syncR s n.data.toList).1 B (.int .i64 (syncR s n.data.toList).2)) := by
  obtain ⟨hs, m, L, hD⟩ := h
  have C := find_yes p m s B L n w hs hD hn hm h1
  have HS := Lib.hid hs
  clear hD hm hs
  go_enter Tryz.func94, Tryz.ntmps94
  go_wp2_with fail
  refine C.mono ?_; rintro e w2 ⟨hD, hO, hcase⟩
  have HN := Lib.hid (next_called HS.out hD hO)
  have HD := Lib.hid hD
  have HO := Lib.hid hO
  clear hD hO
  rcases hcase with ⟨hd, rfl⟩ | ⟨hd, hg, rfl⟩ | ⟨hd, x, hg, hf, rfl⟩
  · have HR : Hid (syncR s n.data.toList = (s.call, 5)) := Lib.hid (by simp [syncR, hd])
    clear hd
    go_wp2_with fail
    go_ret
    exact ⟨by rw [HR.out] <;> rfl, by rw [HR.out]; exact HN.out⟩
  · have HR : Hid (syncR s n.data.toList = (s.call, 2)) := Lib.hid (by simp [syncR, hd, hg])
    clear hd hg
    go_wp2_with fail
    go_ret
    exact ⟨by rw [HR.out] <;> rfl, by rw [HR.out]; exact HN.out⟩
  · have HR : Hid (syncR s n.data.toList = (s.call.upd n.data.toList (fun f => { f with kept := f.data.length }), 0)) := Lib.hid (by simp [syncR, hd, hg])
    have hF := HD.out.file x (List.mem_of_find?_eq_some hf)
    obtain ⟨a, c, hv, _⟩ := row_shape hF.2
    have c0 : w2.cell? ⟨x.blk, 0, none⟩ = some (.slice a x.f.data.length c) := by rw [cells_at hF.1, ← hv]; rfl
    have c1 : w2.cell? ⟨x.blk, 1, none⟩ = some (.int .i64 (x.f.kept : Int)) := by rw [cells_at hF.1]; rfl
    have f1 := cells_free hF.1 1
    have hgc : s.call.get n.data.toList = some x.f := hg
    have hok := ok_upd (ok_call HS.out) (g := fun f => { f with kept := f.data.length }) hgc rfl (Nat.le_refl _) (by have := (ok_call HS.out).u; simp only; omega)
    have hset := cells_set hF.1 1 (.int .i64 (x.f.data.length : Int))
    have hown : (w2.setCell ⟨x.blk, 1, none⟩ (.int .i64 (x.f.data.length : Int))).ownsRow 0 5 1 x.v x.f.data.length (Lib.byteCells x.f.data) := ownsRow_setCell_other hF.2 (HD.out.row_ne (List.mem_of_find?_eq_some hf)) _
    obtain ⟨L', hD'⟩ := HD.out.put (x' := ⟨{ x.f with kept := x.f.data.length }, x.blk, x.v⟩) (g := fun f => { f with kept := f.data.length }) hf rfl rfl rfl ⟨hset, hown⟩
      ((Only.cell1 w2 x.blk 1 _).mono fun i e => by subst e; simp [plBlocks]) (fun i hi => .inl hi)
    have HD' := Lib.hid hD'
    have HOK := Lib.hid hok
    have HB := Lib.hid (fun b hb => plBlocks_B HD.out (List.mem_of_find?_eq_some hf) b hb)
    clear hd hg hF hv hf hgc hok hset hown hD'
    go_wp2_with fail
    go_ret
    refine ⟨by rw [HR.out] <;> rfl, ?_⟩
    rw [HR.out]
    refine ⟨_, ⟨HOK.out, _, _, HD'.out⟩, ?_, ?_⟩
    · exact (HO.out.mono (fun i e => by subst e; exact HD.out.mine _ (by simp))).trans ((Only.cell1 w2 x.blk 1 _).mono fun i e => by subst e; exact HB.out _ (by simp [plBlocks]))
    · intro b hb
      rcases hb with hb | hb
      · exact .inl hb
      · exact .inr (Nat.le_trans HO.out.size hb.1)
theorem read_found {s : St} {n : List UInt8} {i k : Nat} {f : F} (hd : s.call.down = false) (hg : s.get n = some f) : (f.data.length < i + k ∧ readR s n i k = ([], 10)) ∨ (i + k ≤ f.data.length ∧ readR s n i k = ((f.data.drop i).take k, 0)) := by
  by_cases h : f.data.length < i + k
  · exact .inl ⟨h, by simp [readR, hd, hg, h]⟩
  · exact .inr ⟨by omega, by simp [readR, hd, hg, h]⟩
set_option maxRecDepth 20000 in
set_option maxHeartbeats 1000000 in
theorem read_c (p : Nat) (s : St) (B : Nat → Prop) (n : ByteArray) (i k : Nat) (w : World) (h : Disk w p s B) (hn : n.size ≤ maxLen) (hm : rightB n.data.toList = true) (h1 : s.calls ≤ 1000000000000) (hi : i ≤ 1000000000000) (hk : k ≤ 1000000000000) :
    Calls Tryz.prog 118 #[.pointer (some ⟨p, 0, none⟩), .string n, .int .i64 (i : Int), .int .i64 (k : Int)] w (Tells w p s.call B (.tuple #[.string (bs (readR s n.data.toList i k).1), .int .i64 (readR s n.data.toList i k).2])) := by
  obtain ⟨hs, m, L, hD⟩ := h
  have C := find_yes p m s B L n w hs hD hn hm h1
  have HS := Lib.hid hs
  clear hD hm hs
  go_enter Tryz.func118, Tryz.ntmps118
  go_wp2_with fail
  refine C.mono ?_; rintro e w2 ⟨hD, hO, hcase⟩
  have HN := Lib.hid (next_called HS.out hD hO)
  have HD := Lib.hid hD
  clear hD hO
  rcases hcase with ⟨hd, rfl⟩ | ⟨hd, hg, rfl⟩ | ⟨hd, x, hg, hf, rfl⟩
  · have HR : Hid (readR s n.data.toList i k = ([], 5)) := Lib.hid (by simp [readR, hd])
    clear hd
    go_wp2_with fail
    go_ret2
    exact ⟨by rw [HR.out] <;> rfl, HN.out⟩
  · have HR : Hid (readR s n.data.toList i k = ([], 2)) := Lib.hid (by simp [readR, hd, hg])
    clear hd hg
    go_wp2_with fail
    go_ret2
    exact ⟨by rw [HR.out] <;> rfl, HN.out⟩
  · have hF := HD.out.file x (List.mem_of_find?_eq_some hf)
    have hu : x.f.data.length ≤ 16777216 := by
      have h1 := used_le (get_mem hg); have h2 := HS.out.u; have h3 := HS.out.r1; omega
    obtain ⟨a, c, hv, _⟩ := row_shape hF.2
    have c0 : w2.cell? ⟨x.blk, 0, none⟩ = some (.slice a x.f.data.length c) := by rw [cells_at hF.1, ← hv]; rfl
    rcases read_found (i := i) (k := k) hd hg with ⟨hlt, hr⟩ | ⟨hle, hr⟩
    · have HR := Lib.hid hr
      clear hd hg hF hv hf hr
      generalize x.f.data.length = q at *
      have t1 : decide ((q : Int) - (i : Int) < (k : Int)) = true := by rw [decide_eq_true_iff]; omega
      go_wp2_with fail
      go_ret2
      exact ⟨by rw [HR.out] <;> rfl, HN.out⟩
    · have HR := Lib.hid hr
      obtain ⟨u, hu1, hu2⟩ := piece_run hF.2 i k hle
      rw [hv] at hu1
      clear hd hg hF hv hf hr
      generalize x.f.data.length = q at *
      have t1 : decide ((q : Int) - (i : Int) < (k : Int)) = false := by rw [decide_eq_false_iff_not]; omega
      go_wp2_with fail
      go_ret2
      exact ⟨by rw [HR.out] <;> rfl, HN.out⟩
end Go.Proofs.YtignfbdgpgidpaaGreatDoor
/- The contract of Used: how many bytes all files have; by a walk of its loop over the map, in whatever order. -/
namespace Go.Proofs.YtignfbdgpgidpaaGreatDoor
open Go.RowKit FsPlain Go.Maps
set_option linter.unusedVariables false
set_option linter.unusedSimpArgs false
set_option maxRecDepth 20000
theorem ents_key {L : List Pl} {n : List UInt8} {y : DataW Unit} (hat : ∀ z, (ents L).atKey (.string n) z = y) : ∃ x, L.find? (fun x => x.f.name == n) = some x ∧ y = .lit (.int .i64 (x.blk : Int)) := by
  cases hf : L.find? (fun x => x.f.name == n) with
  | none =>
    have h1 := hat (.lit (.int .i64 0)); have h2 := hat (.lit (.int .i64 1))
    rw [at_none hf] at h1 h2
    rw [← h2] at h1; simp at h1
  | some x => exact ⟨x, rfl, by rw [← hat (.lit (.int .i64 0)), at_some hf]⟩
theorem wpList_next_files (w : World) {ops : Array Oper} {rest : List Oper} {o : Oper} {a : Act} {Q : Exit → Act → World → Prop} (hg : o.guard = none) (it : Operand) (hop : o.op = Op.next it false) (L : List Pl) (b r n : Nat) (left : Lit → Bool) (cnt : Nat)
    (hit : a.eval it = .pointer (some ⟨r, 0, none⟩)) (h : w.ranges Tryz.prog 9 ptrElem b r n (ents L) left cnt)
    (hDone : cnt = 0 → (∀ kl, left kl = false) → wpList Tryz.prog ops Q rest (a.put o.dst (.tuple #[.bool false])) w)
    (hMore : ∀ (x : Pl) (w' : World) (cnt' : Nat), x ∈ L → left (.string x.f.name) = true → w'.ranges Tryz.prog 9 ptrElem b r n (ents L) (fun z => left z && !z.sameKey (.string x.f.name)) cnt' → cnt' < cnt → w.grownBy w' (some r) → w'.heap.size = w.heap.size →
      (Instr.entry (.pointer (some ⟨r, 0, none⟩))).run Tryz.prog w' = .ok (.tuple #[.string (bs x.f.name), .pointer (some ⟨x.blk, 0, none⟩)]) w' →
      wpList Tryz.prog ops Q rest (a.put o.dst (.tuple #[.bool true, .string (bs x.f.name), .pointer (some ⟨x.blk, 0, none⟩)])) w') :
    wpList Tryz.prog ops Q (o :: rest) a w := by
  refine wpList_plain hg fun K' hK' => ?_
  unfold Oper.wp
  rcases h.next lawS o.type with ⟨h0, hl, hrun⟩ | ⟨key, v, kl, y, w', cnt', hkey, hlk, hv, hat, hrun, hrg, hlt, hgr, hsz, hen⟩
  · simp [execOp, hop, hit, hrun, Result.andThen]
    exact hK' _ _ (hDone h0 hl)
  · obtain ⟨l, rfl, rfl, _⟩ := Maps.keyOf_str Tryz.underlying9 hkey
    obtain ⟨x, hx, hy⟩ := ents_key hat
    have hxn : x.f.name = l := by simpa using List.find?_some hx
    obtain ⟨y1, y2⟩ := y
    simp only at hy
    subst hy
    obtain rfl := ptr_some hv
    subst hxn
    simp [execOp, hop, hit, hrun, Result.andThen]
    exact hK' _ _ (hMore x w' cnt' (List.mem_of_find?_eq_some hx) hlk hrg hlt hgr hsz hen)
def doneSum (L : List Pl) (left : Lit → Bool) : Nat := (L.map fun x => if left (.string x.f.name) = true then 0 else x.f.data.length).sum
theorem sum_zero {α : Type} (L : List α) : (L.map fun _ => 0).sum = 0 := by
  induction L with
  | nil => rfl
  | cons a r ih => simp [ih]
theorem done_start (L : List Pl) : doneSum L (Maps.has (ents L)) = 0 := by
  have : ∀ x ∈ L, Maps.has (ents L) (.string x.f.name) = true := fun x hx => by rw [has_is, List.any_eq_true]; exact ⟨x, hx, by simp⟩
  unfold doneSum
  rw [List.map_congr_left (g := fun _ => 0) (fun x hx => by rw [this x hx]; rfl)]
  exact sum_zero L
theorem done_end (L : List Pl) (left : Lit → Bool) (h : ∀ kl, left kl = false) : doneSum L left = used (L.map (·.f)) := by
  unfold doneSum used
  rw [List.map_map]
  congr 1
  exact List.map_congr_left fun x _ => by rw [h]; rfl
theorem done_step {L : List Pl} {left : Lit → Bool} {x : Pl} (hp : L.Pairwise (fun x y => x.f.name ≠ y.f.name)) (hx : x ∈ L) (hl : left (.string x.f.name) = true) :
    doneSum L (fun z => left z && !z.sameKey (.string x.f.name)) = doneSum L left + x.f.data.length := by
  obtain ⟨A, C, rfl⟩ := List.append_of_mem hx
  rw [List.pairwise_append, List.pairwise_cons] at hp
  have hA : ∀ y ∈ A, y.f.name ≠ x.f.name := fun y hy => hp.2.2 y hy x (by simp)
  have hC : ∀ y ∈ C, y.f.name ≠ x.f.name := fun y hy e => hp.2.1.1 y hy e.symm
  have key : ∀ l : List Pl, (∀ y ∈ l, y.f.name ≠ x.f.name) → (l.map fun y => if (left (.string y.f.name) && !(Lit.string y.f.name).sameKey (.string x.f.name)) = true then 0 else y.f.data.length) = l.map fun y => if left (.string y.f.name) = true then 0 else y.f.data.length := by
    intro l hl2
    refine List.map_congr_left fun y hy => ?_
    have : (Lit.string y.f.name).sameKey (.string x.f.name) = false := by simp [Lit.sameKey, hl2 y hy]
    rw [this]; simp
  have hself : (Lit.string x.f.name).sameKey (.string x.f.name) = true := by simp [Lit.sameKey]
  unfold doneSum
  simp only [List.map_append, List.map_cons, List.sum_append, List.sum_cons]
  rw [key A hA, key C hC]
  simp only [hself, hl, Bool.not_true, Bool.and_false, Bool.false_eq_true, if_false, if_true]
  omega
theorem done_le (L : List Pl) (left : Lit → Bool) : doneSum L left ≤ used (L.map (·.f)) := by
  unfold doneSum used
  induction L with
  | nil => simp
  | cons a r ih =>
    simp only [List.map_cons, List.sum_cons]
    split <;> omega
def UsedAt (w : World) (m : Nat) (L : List Pl) (u : Value) (wr : World) : Prop :=
  ∃ left cnt, wr.ranges Tryz.prog 9 ptrElem m w.heap.size L.length (ents L) left cnt ∧ u = .int .i64 (doneSum L left : Int) ∧ Gr w wr
set_option maxRecDepth 20000 in
set_option maxHeartbeats 1000000 in
theorem used_c (p m : Nat) (s : St) (B : Nat → Prop) (L : List Pl) (w : World) (hs : s.ok) (h : DiskAt w p s B m L) :
    Calls Tryz.prog 13 #[.pointer (some ⟨p, 0, none⟩)] w fun e w' => e = .returned (.int .i64 (used s.fs : Int)) ∧ Gr w w' := by
  have C0 := made_c p m s w h.heap
  have c1 : w.cell? ⟨p, 1, none⟩ = some (.map (some m)) := by rw [cells_at h.heap]; rfl
  have hu := hs.u
  have hr := hs.r1
  have hap := Lib.hid (names_apart h.own)
  have hown := h.own
  have HD := Lib.hid h
  have HF := Lib.hid h.fs
  rw [← h.fs] at hu ⊢
  clear h
  go_enter Tryz.func13, Tryz.ntmps13
  go_wp2_with fail
  refine (C0).mono ?_; rintro e w2 ⟨rfl, rfl⟩
  go_wp2_with (first | (at_range; refine wpList_range_own _ rfl _ 83 rfl 9 93 lawS Tryz.underlying83 _ m L.length _ rfl hown ?_; intro w0 hrg0 hg0 hs0) | fail)
  go_frame
  go_loopw [3] (fun u wr => UsedAt w m L u wr) (fun _ wr => wr.rangeLeft m w.heap.size)
  case atStart => exact ⟨_, _, hrg0, by rw [done_start]; rfl, (Gr.refl w).trans ⟨hg0.os, hg0.tape, hg0.output, hg0.size, fun k hk => hg0.block k hk (by simp)⟩⟩
  case round =>
    obtain ⟨left, cnt, hrg, rfl, hgr⟩ := hrel
    have hle := done_le L left
    clear hrg0 hg0 hs0 C0 c1 hown
    obtain ⟨d, hd⟩ : ∃ d, d = doneSum L left := ⟨_, rfl⟩
    rw [← hd] at hle ⊢
    have HDN := Lib.hid hd
    have HG := Lib.hid hgr
    clear hd hgr
    go_wp2_with (first | (at_next; refine wpList_next_files _ rfl _ rfl L m w.heap.size _ _ _ rfl hrg ?_ ?_) | fail)
    · intro hc0 hl0
      have hfin := done_end L left hl0
      rw [← HDN.out] at hfin
      have HFI := Lib.hid hfin
      clear hc0 hl0 hfin
      go_wp2_with fail
      go_ret
      exact ⟨ret_i (by rw [HFI.out]), HG.out⟩
    · intro x w1 cnt1 hx hlx hrg1 hlt hg1 hs1 hen
      have hF := HD.out.file x hx
      obtain ⟨a, c, hv, _⟩ := row_shape hF.2
      have hbl := lt_of_block hF.1
      have hgr1 : Gr w w1 := Below.grown HG.out hg1 HG.out.size (fun j hj => by cases hj; exact Nat.le_refl _)
      have c0 : w1.cell? ⟨x.blk, 0, none⟩ = some (.slice a x.f.data.length c) := by rw [hgr1.cell hbl, cells_at hF.1, ← hv]; rfl
      have hstep := done_step hap.out hx hlx
      rw [← HDN.out] at hstep
      have hle2 := done_le L (fun z => left z && !z.sameKey (.string x.f.name))
      rw [hstep] at hle2
      have HST := Lib.hid hstep
      have HG1 := Lib.hid hgr1
      have HRG := Lib.hid hrg
      have HRG1 := Lib.hid hrg1
      clear hstep hgr1 hF hv hrg hrg1 hlx hs1 hg1
      go_wp2_with fail
      go_roundw
      case rel => exact ⟨_, cnt1, HRG1.out, by rw [HST.out]; rfl, HG1.out⟩
      case measure => rw [HRG1.out.left_eq, HRG.out.left_eq]; exact hlt
end Go.Proofs.YtignfbdgpgidpaaGreatDoor

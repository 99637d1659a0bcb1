/- In one text: FsUsed. -/
import Derived.Test.YtibajmjplpnbmaaP14
/- The contract of Used: how many bytes all files have; by a walk of its loop over the map, in whatever order. -/
namespace Go.Proofs.Ytibajmjplpnbmaa
open Go.RowKit FsPlain Go.Maps
set_option linter.unusedVariables false
set_option linter.unusedSimpArgs false
set_option maxRecDepth 20000

theorem ents_key {L : List Pl} {n : List UInt8} {y : DataW Unit} (hat : ∀ z, (ents L).atKey (.string n) z = y) : ∃ x, L.find? (fun x => x.f.name == n) = some x ∧ y = .lit (.int .i64 (x.blk : Int)) := by
  cases hf : L.find? (fun x => x.f.name == n) with
  | none =>
    have h1 := hat (.lit (.int .i64 0)); have h2 := hat (.lit (.int .i64 1))
    rw [at_none hf] at h1 h2
    rw [← h2] at h1; simp at h1
  | some x => exact ⟨x, rfl, by rw [← hat (.lit (.int .i64 0)), at_some hf]⟩

/-- A step of a loop over the files: nothing is left, or some file comes. -/
theorem wpList_next_files (w : World) {ops : Array Oper} {rest : List Oper} {o : Oper} {a : Act} {Q : Exit → Act → World → Prop} (hg : o.guard = none) (it : Operand) (hop : o.op = Op.next it false) (L : List Pl) (b r n : Nat) (left : Lit → Bool) (cnt : Nat)
    (hit : a.eval it = .pointer (some ⟨r, 0, none⟩)) (h : w.ranges Try.prog 9 ptrElem b r n (ents L) left cnt)
    (hDone : cnt = 0 → (∀ kl, left kl = false) → wpList Try.prog ops Q rest (a.put o.dst (.tuple #[.bool false])) w)
    (hMore : ∀ (x : Pl) (w' : World) (cnt' : Nat), x ∈ L → left (.string x.f.name) = true → w'.ranges Try.prog 9 ptrElem b r n (ents L) (fun z => left z && !z.sameKey (.string x.f.name)) cnt' → cnt' < cnt → w.grownBy w' (some r) → w'.heap.size = w.heap.size →
      (Instr.entry (.pointer (some ⟨r, 0, none⟩))).run Try.prog w' = .ok (.tuple #[.string (bs x.f.name), .pointer (some ⟨x.blk, 0, none⟩)]) w' →
      wpList Try.prog ops Q rest (a.put o.dst (.tuple #[.bool true, .string (bs x.f.name), .pointer (some ⟨x.blk, 0, none⟩)])) w') :
    wpList Try.prog ops Q (o :: rest) a w := by
  refine wpList_plain hg fun K' hK' => ?_
  unfold Oper.wp
  rcases h.next lawS o.type with ⟨h0, hl, hrun⟩ | ⟨key, v, kl, y, w', cnt', hkey, hlk, hv, hat, hrun, hrg, hlt, hgr, hsz, hen⟩
  · simp [execOp, hop, hit, hrun, Result.andThen]
    exact hK' _ _ (hDone h0 hl)
  · obtain ⟨l, rfl, rfl, _⟩ := Maps.keyOf_str Try.underlying9 hkey
    obtain ⟨x, hx, hy⟩ := ents_key hat
    have hxn : x.f.name = l := by simpa using List.find?_some hx
    obtain ⟨y1, y2⟩ := y
    simp only at hy
    subst hy
    obtain rfl := ptr_some hv
    subst hxn
    simp [execOp, hop, hit, hrun, Result.andThen]
    exact hK' _ _ (hMore x w' cnt' (List.mem_of_find?_eq_some hx) hlk hrg hlt hgr hsz hen)

def doneSum (L : List Pl) (left : Lit → Bool) : Nat := (L.map fun x => if left (.string x.f.name) = true then 0 else x.f.data.length).sum
theorem sum_zero {α : Type} (L : List α) : (L.map fun _ => 0).sum = 0 := by
  induction L with
  | nil => rfl
  | cons a r ih => simp [ih]
theorem done_start (L : List Pl) : doneSum L (Maps.has (ents L)) = 0 := by
  have : ∀ x ∈ L, Maps.has (ents L) (.string x.f.name) = true := fun x hx => by rw [has_is, List.any_eq_true]; exact ⟨x, hx, by simp⟩
  unfold doneSum
  rw [List.map_congr_left (g := fun _ => 0) (fun x hx => by rw [this x hx]; rfl)]
  exact sum_zero L
theorem done_end (L : List Pl) (left : Lit → Bool) (h : ∀ kl, left kl = false) : doneSum L left = used (L.map (·.f)) := by
  unfold doneSum used
  rw [List.map_map]
  congr 1
  exact List.map_congr_left fun x _ => by rw [h]; rfl
theorem done_step {L : List Pl} {left : Lit → Bool} {x : Pl} (hp : L.Pairwise (fun x y => x.f.name ≠ y.f.name)) (hx : x ∈ L) (hl : left (.string x.f.name) = true) :
    doneSum L (fun z => left z && !z.sameKey (.string x.f.name)) = doneSum L left + x.f.data.length := by
  obtain ⟨A, C, rfl⟩ := List.append_of_mem hx
  rw [List.pairwise_append, List.pairwise_cons] at hp
  have hA : ∀ y ∈ A, y.f.name ≠ x.f.name := fun y hy => hp.2.2 y hy x (by simp)
  have hC : ∀ y ∈ C, y.f.name ≠ x.f.name := fun y hy e => hp.2.1.1 y hy e.symm
  have key : ∀ l : List Pl, (∀ y ∈ l, y.f.name ≠ x.f.name) → (l.map fun y => if (left (.string y.f.name) && !(Lit.string y.f.name).sameKey (.string x.f.name)) = true then 0 else y.f.data.length) = l.map fun y => if left (.string y.f.name) = true then 0 else y.f.data.length := by
    intro l hl2
    refine List.map_congr_left fun y hy => ?_
    have : (Lit.string y.f.name).sameKey (.string x.f.name) = false := by simp [Lit.sameKey, hl2 y hy]
    rw [this]; simp
  have hself : (Lit.string x.f.name).sameKey (.string x.f.name) = true := by simp [Lit.sameKey]
  unfold doneSum
  simp only [List.map_append, List.map_cons, List.sum_append, List.sum_cons]
  rw [key A hA, key C hC]
  simp only [hself, hl, Bool.not_true, Bool.and_false, Bool.false_eq_true, if_false, if_true]
  omega
theorem done_le (L : List Pl) (left : Lit → Bool) : doneSum L left ≤ used (L.map (·.f)) := by
  unfold doneSum used
  induction L with
  | nil => simp
  | cons a r ih =>
    simp only [List.map_cons, List.sum_cons]
    split <;> omega

def UsedAt (w : World) (m : Nat) (L : List Pl) (u : Value) (wr : World) : Prop :=
  ∃ left cnt, wr.ranges Try.prog 9 ptrElem m w.heap.size L.length (ents L) left cnt ∧ u = .int .i64 (doneSum L left : Int) ∧ Gr w wr

set_option maxRecDepth 20000 in
set_option maxHeartbeats 1000000 in
theorem used_c (p m : Nat) (s : St) (B : Nat → Prop) (L : List Pl) (w : World) (hs : s.ok) (h : DiskAt w p s B m L) :
    Calls Try.prog 28 #[.pointer (some ⟨p, 0, none⟩)] w fun e w' => e = .returned (.int .i64 (used s.fs : Int)) ∧ Gr w w' := by
  have C0 := made_c p m s w h.heap
  have c1 : w.cell? ⟨p, 1, none⟩ = some (.map (some m)) := by rw [cells_at h.heap]; rfl
  have hu := hs.u
  have hr := hs.r1
  have hap := Lib.hid (names_apart h.own)
  have hown := h.own
  have HD := Lib.hid h
  have HF := Lib.hid h.fs
  rw [← h.fs] at hu ⊢
  clear h
  go_enter Try.func28, Try.ntmps28
  go_wp2_with fail
  refine (C0).mono ?_; rintro e w2 ⟨rfl, rfl⟩
  go_wp2_with (first | (at_range; refine wpList_range_own _ rfl _ 53 rfl 9 60 lawS Try.underlying53 _ m L.length _ rfl hown ?_; intro w0 hrg0 hg0 hs0) | fail)
  go_frame
  go_loopw [3] (fun u wr => UsedAt w m L u wr) (fun _ wr => wr.rangeLeft m w.heap.size)
  case atStart => exact ⟨_, _, hrg0, by rw [done_start]; rfl, (Gr.refl w).trans ⟨hg0.os, hg0.tape, hg0.output, hg0.size, fun k hk => hg0.block k hk (by simp)⟩⟩
  case round =>
    obtain ⟨left, cnt, hrg, rfl, hgr⟩ := hrel
    have hle := done_le L left
    clear hrg0 hg0 hs0 C0 c1 hown
    obtain ⟨d, hd⟩ : ∃ d, d = doneSum L left := ⟨_, rfl⟩
    rw [← hd] at hle ⊢
    have HDN := Lib.hid hd
    have HG := Lib.hid hgr
    clear hd hgr
    go_wp2_with (first | (at_next; refine wpList_next_files _ rfl _ rfl L m w.heap.size _ _ _ rfl hrg ?_ ?_) | fail)
    · intro hc0 hl0
      have hfin := done_end L left hl0
      rw [← HDN.out] at hfin
      have HFI := Lib.hid hfin
      clear hc0 hl0 hfin
      go_wp2_with fail
      go_ret
      exact ⟨ret_i (by rw [HFI.out]), HG.out⟩
    · intro x w1 cnt1 hx hlx hrg1 hlt hg1 hs1 hen
      have hF := HD.out.file x hx
      obtain ⟨a, c, hv, _⟩ := row_shape hF.2
      have hbl := lt_of_block hF.1
      have hgr1 : Gr w w1 := Below.grown HG.out hg1 HG.out.size (fun j hj => by cases hj; exact Nat.le_refl _)
      have c0 : w1.cell? ⟨x.blk, 0, none⟩ = some (.slice a x.f.data.length c) := by rw [hgr1.cell hbl, cells_at hF.1, ← hv]; rfl
      have hstep := done_step hap.out hx hlx
      rw [← HDN.out] at hstep
      have hle2 := done_le L (fun z => left z && !z.sameKey (.string x.f.name))
      rw [hstep] at hle2
      have HST := Lib.hid hstep
      have HG1 := Lib.hid hgr1
      have HRG := Lib.hid hrg
      have HRG1 := Lib.hid hrg1
      clear hstep hgr1 hF hv hrg hrg1 hlx hs1 hg1
      go_wp2_with fail
      go_roundw
      case rel => exact ⟨_, cnt1, HRG1.out, by rw [HST.out]; rfl, HG1.out⟩
      case measure => rw [HRG1.out.left_eq, HRG.out.left_eq]; exact hlt
end Go.Proofs.Ytibajmjplpnbmaa

/- In one text: FsUsed, FsAppend, Clone. -/
import Derived.Test.YtignfbdgpgidpaaGreatDoorS02
import Derived.Deep.RegionLaw
import Derived.RegionTactic
import Derived.BigRegion
import Derived.Deep.RegionHeld3
import Derived.OwnWalk
import Derived.Test.YtignfbdgpgidpaaGreatDoorRows
import Derived.Test.YtignfbdgpgidpaaGreatDoorS00
import Derived.Shelf.LaysM
import Derived.Shelf.Strconv.Clone
/- The contract of Used: how many bytes all files have; by a walk of its loop over the map, in whatever order. -/
namespace Go.Proofs.YtignfbdgpgidpaaGreatDoor
open Go.RowKit FsPlain Go.Maps
set_option linter.unusedVariables false
set_option linter.unusedSimpArgs false
set_option maxRecDepth 20000
theorem ents_key {L : List Pl} {n : List UInt8} {y : DataW Unit} (hat : ∀ z, (ents L).atKey (.string n) z = y) : ∃ x, L.find? (fun x => x.f.name == n) = some x ∧ y = .lit (.int .i64 (x.blk : Int)) := by
  cases hf : L.find? (fun x => x.f.name == n) with
  | none =>
    have h1 := hat (.lit (.int .i64 0)); have h2 := hat (.lit (.int .i64 1))
    rw [at_none hf] at h1 h2
    rw [← h2] at h1; simp at h1
  | some x => exact ⟨x, rfl, by rw [← hat (.lit (.int .i64 0)), at_some hf]⟩
theorem wpList_next_files (w : World) {ops : Array Oper} {rest : List Oper} {o : Oper} {a : Act} {Q : Exit → Act → World → Prop} (hg : o.guard = none) (it : Operand) (hop : o.op = Op.next it false) (L : List Pl) (b r n : Nat) (left : Lit → Bool) (cnt : Nat)
    (hit : a.eval it = .pointer (some ⟨r, 0, none⟩)) (h : w.ranges Tryz.prog 9 ptrElem b r n (ents L) left cnt)
    (hDone : cnt = 0 → (∀ kl, left kl = false) → wpList Tryz.prog ops Q rest (a.put o.dst (.tuple #[.bool false])) w)
    (hMore : ∀ (x : Pl) (w' : World) (cnt' : Nat), x ∈ L → left (.string x.f.name) = true → w'.ranges Tryz.prog 9 ptrElem b r n (ents L) (fun z => left z && !z.sameKey (.string x.f.name)) cnt' → cnt' < cnt → w.grownBy w' (some r) → w'.heap.size = w.heap.size →
      (Instr.entry (.pointer (some ⟨r, 0, none⟩))).run Tryz.prog w' = .ok (.tuple #[.string (bs x.f.name), .pointer (some ⟨x.blk, 0, none⟩)]) w' →
      wpList Tryz.prog ops Q rest (a.put o.dst (.tuple #[.bool true, .string (bs x.f.name), .pointer (some ⟨x.blk, 0, none⟩)])) w') :
    wpList Tryz.prog ops Q (o :: rest) a w := by
  refine wpList_plain hg fun K' hK' => ?_
  unfold Oper.wp
  rcases h.next lawS o.type with ⟨h0, hl, hrun⟩ | ⟨key, v, kl, y, w', cnt', hkey, hlk, hv, hat, hrun, hrg, hlt, hgr, hsz, hen⟩
  · simp [execOp, hop, hit, hrun, Result.andThen]
    exact hK' _ _ (hDone h0 hl)
  · obtain ⟨l, rfl, rfl, _⟩ := Maps.keyOf_str Tryz.underlying9 hkey
    obtain ⟨x, hx, hy⟩ := ents_key hat
    have hxn : x.f.name = l := by simpa using List.find?_some hx
    obtain ⟨y1, y2⟩ := y
    simp only at hy
    subst hy
    obtain rfl := ptr_some hv
    subst hxn
    simp [execOp, hop, hit, hrun, Result.andThen]
    exact hK' _ _ (hMore x w' cnt' (List.mem_of_find?_eq_some hx) hlk hrg hlt hgr hsz hen)
def doneSum (L : List Pl) (left : Lit → Bool) : Nat := (L.map fun x => if left (.string x.f.name) = true then 0 else x.f.data.length).sum
theorem sum_zero {α : Type} (L : List α) : (L.map fun _ => 0).sum = 0 := by
  induction L with
  | nil => rfl
  | cons a r ih => simp [ih]
theorem done_start (L : List Pl) : doneSum L (Maps.has (ents L)) = 0 := by
  have : ∀ x ∈ L, Maps.has (ents L) (.string x.f.name) = true := fun x hx => by rw [has_is, List.any_eq_true]; exact ⟨x, hx, by simp⟩
  unfold doneSum
  rw [List.map_congr_left (g := fun _ => 0) (fun x hx => by rw [this x hx]; rfl)]
  exact sum_zero L
theorem done_end (L : List Pl) (left : Lit → Bool) (h : ∀ kl, left kl = false) : doneSum L left = used (L.map (·.f)) := by
  unfold doneSum used
  rw [List.map_map]
  congr 1
  exact List.map_congr_left fun x _ => by rw [h]; rfl
theorem done_step {L : List Pl} {left : Lit → Bool} {x : Pl} (hp : L.Pairwise (fun x y => x.f.name ≠ y.f.name)) (hx : x ∈ L) (hl : left (.string x.f.name) = true) :
    doneSum L (fun z => left z && !z.sameKey (.string x.f.name)) = doneSum L left + x.f.data.length := by
  obtain ⟨A, C, rfl⟩ := List.append_of_mem hx
  rw [List.pairwise_append, List.pairwise_cons] at hp
  have hA : ∀ y ∈ A, y.f.name ≠ x.f.name := fun y hy => hp.2.2 y hy x (by simp)
  have hC : ∀ y ∈ C, y.f.name ≠ x.f.name := fun y hy e => hp.2.1.1 y hy e.symm
  have key : ∀ l : List Pl, (∀ y ∈ l, y.f.name ≠ x.f.name) → (l.map fun y => if (left (.string y.f.name) && !(Lit.string y.f.name).sameKey (.string x.f.name)) = true then 0 else y.f.data.length) = l.map fun y => if left (.string y.f.name) = true then 0 else y.f.data.length := by
    intro l hl2
    refine List.map_congr_left fun y hy => ?_
    have : (Lit.string y.f.name).sameKey (.string x.f.name) = false := by simp [Lit.sameKey, hl2 y hy]
    rw [this]; simp
  have hself : (Lit.string x.f.name).sameKey (.string x.f.name) = true := by simp [Lit.sameKey]
  unfold doneSum
  simp only [List.map_append, List.map_cons, List.sum_append, List.sum_cons]
  rw [key A hA, key C hC]
  simp only [hself, hl, Bool.not_true, Bool.and_false, Bool.false_eq_true, if_false, if_true]
  omega
theorem done_le (L : List Pl) (left : Lit → Bool) : doneSum L left ≤ used (L.map (·.f)) := by
  unfold doneSum used
  induction L with
  | nil => simp
  | cons a r ih =>
    simp only [List.map_cons, List.sum_cons]
    split <;> omega
def UsedAt (w : World) (m : Nat) (L : List Pl) (u : Value) (wr : World) : Prop :=
  ∃ left cnt, wr.ranges Tryz.prog 9 ptrElem m w.heap.size L.length (ents L) left cnt ∧ u = .int .i64 (doneSum L left : Int) ∧ Gr w wr
set_option maxRecDepth 20000 in
set_option maxHeartbeats 1000000 in
theorem used_c (p m : Nat) (s : St) (B : Nat → Prop) (L : List Pl) (w : World) (hs : s.ok) (h : DiskAt w p s B m L) :
    Calls Tryz.prog 13 #[.pointer (some ⟨p, 0, none⟩)] w fun e w' => e = .returned (.int .i64 (used s.fs : Int)) ∧ Gr w w' := by
  have C0 := made_c p m s w h.heap
  have c1 : w.cell? ⟨p, 1, none⟩ = some (.map (some m)) := by rw [cells_at h.heap]; rfl
  have hu := hs.u
  have hr := hs.r1
  have hap := Lib.hid (names_apart h.own)
  have hown := h.own
  have HD := Lib.hid h
  have HF := Lib.hid h.fs
  rw [← h.fs] at hu ⊢
  clear h
  go_enter Tryz.func13, Tryz.ntmps13
  go_wp2_with fail
  refine (C0).mono ?_; rintro e w2 ⟨rfl, rfl⟩
  go_wp2_with (first | (at_range; refine wpList_range_own _ rfl _ 83 rfl 9 93 lawS Tryz.underlying83 _ m L.length _ rfl hown ?_; intro w0 hrg0 hg0 hs0) | fail)
  go_frame
  go_loopw [3] (fun u wr => UsedAt w m L u wr) (fun _ wr => wr.rangeLeft m w.heap.size)
  case atStart => exact ⟨_, _, hrg0, by rw [done_start]; rfl, (Gr.refl w).trans ⟨hg0.os, hg0.tape, hg0.output, hg0.size, fun k hk => hg0.block k hk (by simp)⟩⟩
  case round =>
    obtain ⟨left, cnt, hrg, rfl, hgr⟩ := hrel
    have hle := done_le L left
    clear hrg0 hg0 hs0 C0 c1 hown
    obtain ⟨d, hd⟩ : ∃ d, d = doneSum L left := ⟨_, rfl⟩
    rw [← hd] at hle ⊢
    have HDN := Lib.hid hd
    have HG := Lib.hid hgr
    clear hd hgr
    go_wp2_with (first | (at_next; refine wpList_next_files _ rfl _ rfl L m w.heap.size _ _ _ rfl hrg ?_ ?_) | fail)
    · intro hc0 hl0
      have hfin := done_end L left hl0
      rw [← HDN.out] at hfin
      have HFI := Lib.hid hfin
      clear hc0 hl0 hfin
      go_wp2_with fail
      go_ret
      exact ⟨ret_i (by rw [HFI.out]), HG.out⟩
    · intro x w1 cnt1 hx hlx hrg1 hlt hg1 hs1 hen
      have hF := HD.out.file x hx
      obtain ⟨a, c, hv, _⟩ := row_shape hF.2
      have hbl := lt_of_block hF.1
      have hgr1 : Gr w w1 := Below.grown HG.out hg1 HG.out.size (fun j hj => by cases hj; exact Nat.le_refl _)
      have c0 : w1.cell? ⟨x.blk, 0, none⟩ = some (.slice a x.f.data.length c) := by rw [hgr1.cell hbl, cells_at hF.1, ← hv]; rfl
      have hstep := done_step hap.out hx hlx
      rw [← HDN.out] at hstep
      have hle2 := done_le L (fun z => left z && !z.sameKey (.string x.f.name))
      rw [hstep] at hle2
      have HST := Lib.hid hstep
      have HG1 := Lib.hid hgr1
      have HRG := Lib.hid hrg
      have HRG1 := Lib.hid hrg1
      clear hstep hgr1 hF hv hrg hrg1 hlx hs1 hg1
      go_wp2_with fail
      go_roundw
      case rel => exact ⟨_, cnt1, HRG1.out, by rw [HST.out]; rfl, HG1.out⟩
      case measure => rw [HRG1.out.left_eq, HRG.out.left_eq]; exact hlt
end Go.Proofs.YtignfbdgpgidpaaGreatDoor
/- The contract of Append. -/
namespace Go.Proofs.YtignfbdgpgidpaaGreatDoor
open Go.RowKit FsPlain
set_option linter.unusedVariables false
set_option linter.unusedSimpArgs false
set_option maxRecDepth 20000
theorem DiskAt.drew {w : World} {p m : Nat} {s : St} {B : Nat → Prop} {L : List Pl} (h : DiskAt w p s B m L) : DiskAt w.drew p s B m L := ⟨h.heap, h.own, h.fs, h.file, h.apart, h.mine, h.low⟩
theorem DiskAt.gr {w w' : World} {p m : Nat} {s : St} {B : Nat → Prop} {L : List Pl} (h : DiskAt w p s B m L) (g : Gr w w') : DiskAt w' p s B m L := h.only (Only.ofGr (B := fun _ => False) g) (fun _ _ e => e)
theorem append_found {s : St} {n t : List UInt8} {f : F} (hd : s.call.down = false) (hg : s.get n = some f) : (s.room < used s.fs + t.length ∧ appendR s n t = (s.call, 4)) ∨ (used s.fs + t.length ≤ s.room ∧ appendR s n t = (s.call.upd n (fun f => { f with data := f.data ++ t }), 0)) := by
  by_cases h : s.room < used s.fs + t.length
  · exact .inl ⟨h, by simp [appendR, hd, hg, h]⟩
  · exact .inr ⟨by omega, by simp [appendR, hd, hg, h]⟩
theorem str_cells (l : List UInt8) (t : ByteArray) : Lib.byteCells l ++ Lib.strCells t = Lib.byteCells (l ++ t.data.toList) := by rw [Lib.strCells_eq, Lib.byteCells_append]
theorem next_gr {w w2 w' : World} {p : Nat} {s' : St} {B : Nat → Prop} (h : Next w p s' B w2) (g : Gr w2 w') : Next w p s' B w' := by
  obtain ⟨B', d, o, f⟩ := h
  exact ⟨B', d.only (Only.ofGr (B := fun _ => False) g) (fun _ _ e => e), o.trans (Only.ofGr g), f⟩
theorem append_str (w : World) (v : Value) (n : Nat) (xs : List Value) (hown : w.ownsRow 0 5 1 v n xs) (s : ByteArray) (ty : TypeId) (h63 : n + s.size ≤ 1000000000000) :
    ∃ v' w', (Builtin.append_ #[94, 9] ty #[v, .string s]).run Tryz.prog w = .ok v' w' ∧ w'.ownsRow 0 5 1 v' (n + s.size) (xs ++ Lib.strCells s) ∧ w.grownBy w' v.ownBlock ∧ ∀ i, v'.ownBlock = some i → v.ownBlock = some i ∨ w.heap.size ≤ i := by
  obtain ⟨i0, hi, hz0, hz1, hz2⟩ := info_parts infoB
  obtain ⟨v', w', hrun, h1, h2, h3⟩ := Lib.run_append_own_string (P := Tryz.prog) w 0 94 9 ty 5 i0 Tryz.underlying94 Tryz.underlying9 hi hz0 hz1 hz2 v n xs hown s (by unfold maxLen; omega) (by omega) (Nat.zero_le _)
  refine ⟨v', w', hrun, h1, h2, fun i hv => ?_⟩
  rcases hown.2 with ⟨rfl, rfl⟩ | ⟨g, cap, cur, rfl, _, hg, hnc, hcm, hcs, htk⟩
  · by_cases hm : s.size = 0
    · rw [h3.2 ⟨rfl, hm⟩] at hv; cases hv
    · have hr := run_append_nil_string (P := Tryz.prog) w 94 9 ty 5 i0 (.int .u8 0) Tryz.underlying94 Tryz.underlying9 hi hz0 s (by omega) (by omega) (by rw [hz2]; omega)
      rw [hr] at hrun
      simp only [Result.ok.injEq] at hrun
      rw [← hrun.1] at hv
      simp only [Value.ownBlock, Option.some.injEq] at hv
      exact .inr (by omega)
  · by_cases hroom : n + s.size ≤ cap
    · have hr := Lib.run_append_room_string (P := Tryz.prog) w 94 9 ty 5 i0 Tryz.underlying94 Tryz.underlying9 hi hz1 g n cap cur hg s hroom (by rw [hcs]; omega)
      rw [hr] at hrun
      simp only [Result.ok.injEq] at hrun
      rw [← hrun.1] at hv
      exact .inl hv
    · have hr := Lib.run_append_grow_string (P := Tryz.prog) w 94 9 ty 5 i0 (.int .u8 0) Tryz.underlying94 Tryz.underlying9 hi hz0 ⟨g, 0, none⟩ n cap xs (by rw [hz1]; simpa using hown.1) (hown.cells (g := g) rfl) s (by omega) (by omega) (by rw [hz2]; exact growslice_fits (by omega) (by omega))
      rw [hr] at hrun
      simp only [Result.ok.injEq] at hrun
      rw [← hrun.1] at hv
      simp only [Value.ownBlock, Option.some.injEq] at hv
      exact .inr (by omega)
theorem wpList_append_str (w : World) {ops : Array Oper} {rest : List Oper} {o : Oper} {a : Act} {Q : Exit → Act → World → Prop} (hgd : o.guard = none) (sl x : Operand)
    (ho : o.op = .call { callee := .builtin .append, args := #[sl, x], argTypes := #[94, 9] })
    (v : Value) (n : Nat) (xs : List Value) (hs : a.eval sl = v) (hown : w.ownsRow 0 5 1 v n xs) (s : ByteArray) (hx : a.eval x = .string s) (h63 : n + s.size ≤ 1000000000000)
    (h : ∀ ad cp w', w'.ownsRow 0 5 1 (.slice ad (n + s.size) cp) (n + s.size) (xs ++ Lib.strCells s) → w.grownBy w' v.ownBlock → (∀ i, (Value.slice ad (n + s.size) cp).ownBlock = some i → v.ownBlock = some i ∨ w.heap.size ≤ i) → wpList Tryz.prog ops Q rest (a.put o.dst (.slice ad (n + s.size) cp)) w') : wpList Tryz.prog ops Q (o :: rest) a w := by
  refine wpList_plain hgd fun K hK => ?_
  obtain ⟨v', w', hr, h2, h3, h4⟩ := append_str w v n xs hown s o.type h63
  obtain ⟨ad, cp, rfl, _⟩ := row_shape h2
  unfold Oper.wp execOp
  simp only [ho, resolve, invoke, builtin, Sem.run_bind, Sem.run_pure, Result.andThen_ok, List.map_toArray, List.map_cons, List.map_nil, hs, hx, hr]
  exact hK _ _ (h ad cp w' h2 h3 h4)
set_option maxRecDepth 20000 in
set_option maxHeartbeats 1000000 in
theorem append_c (p : Nat) (s : St) (B : Nat → Prop) (n t : ByteArray) (w : World) (h : Disk w p s B) (hn : n.size ≤ maxLen) (hm : rightB n.data.toList = true) (h1 : s.calls ≤ 1000000000000) (ht : t.size ≤ 1000000000000) :
    Calls Tryz.prog 20 #[.pointer (some ⟨p, 0, none⟩), .string n, .string t] w (Tells w p (appendR s n.data.toList t.data.toList).1 B (.int .i64 (appendR s n.data.toList t.data.toList).2)) := by
  obtain ⟨i0, hi, hz0, hz1, hz2⟩ := info_parts infoB
  obtain ⟨hs, m, L, hD⟩ := h
  have C := find_yes p m s B L n w hs hD hn hm h1
  have HS := Lib.hid hs
  have htl : t.data.toList.length = t.size := rfl
  have HTL := Lib.hid htl
  clear hD hm hs htl
  go_enter Tryz.func20, Tryz.ntmps20
  go_wp2_with fail
  refine C.mono ?_; rintro e w2 ⟨hD, hO, hcase⟩
  have HN := Lib.hid (next_called HS.out hD hO)
  have HD := Lib.hid hD
  have HO := Lib.hid hO
  clear hD hO
  rcases hcase with ⟨hd, rfl⟩ | ⟨hd, hg, rfl⟩ | ⟨hd, x, hg, hf, rfl⟩
  · have HR : Hid (appendR s n.data.toList t.data.toList = (s.call, 5)) := Lib.hid (by simp [appendR, hd])
    clear hd
    go_wp2_with fail
    go_ret
    exact ⟨by rw [HR.out] <;> rfl, by rw [HR.out]; exact HN.out⟩
  · have HR : Hid (appendR s n.data.toList t.data.toList = (s.call, 2)) := Lib.hid (by simp [appendR, hd, hg])
    clear hd hg
    go_wp2_with fail
    go_ret
    exact ⟨by rw [HR.out] <;> rfl, by rw [HR.out]; exact HN.out⟩
  · have CU := used_c p m s.call B L w2.drew (ok_call HS.out) HD.out.drew
    have hcell : w2.cell? ⟨p, 0, none⟩ = some (.int .i64 s.room) := by rw [cells_at HD.out.heap]; rfl
    have hplt := lt_of_block HD.out.heap
    have hr0 := HS.out.r0
    have hr1 := HS.out.r1
    have hu0 := HS.out.u
    have hgl := used_le (get_mem hg)
    have hfs : s.call.fs = s.fs := rfl
    rw [hfs] at CU
    rcases append_found (t := t.data.toList) hd hg with ⟨hlt, hr⟩ | ⟨hle, hr⟩
    · have HR := Lib.hid hr
      rw [HTL.out] at hlt
      clear hd hg hf hr hgl hfs
      generalize used s.fs = q at *
      have t1 : decide (s.room < (q : Int) + (t.size : Int)) = true := by rw [decide_eq_true_iff]; omega
      have e1 : IntKind.i64.wrap ((q : Int) + (t.size : Int)) = (q : Int) + (t.size : Int) := IntWalk.i64_in _ (by omega)
      go_wp2_with fail
      go_region_held3 (fun w' => w'.cell? ⟨p, 0, none⟩ = some (.int .i64 s.room)) (first | go_keep | (rw [g.cell (by simpa using hplt)]; assumption)) ((go_at_call 13; ((with_reducible refine (CU).mono ?_); rintro e u ⟨rfl, g⟩)))
      all_goals
        go_wp2_with fail
        go_ret
        exact ⟨by rw [HR.out] <;> rfl, by rw [HR.out]; exact next_gr HN.out (Gr.ofDrew g)⟩
    · have HR := Lib.hid hr
      have HLE := Lib.hid hle
      have HG := Lib.hid hg
      have HFI := Lib.hid hf
      have hF := HD.out.file x (List.mem_of_find?_eq_some hf)
      obtain ⟨a, c, hv, _⟩ := row_shape hF.2
      have hne := HD.out.row_ne (List.mem_of_find?_eq_some hf)
      have hxlt := lt_of_block hF.1
      have hxl : x.f.data.length + t.size ≤ 1000000000000 := by rw [HTL.out] at hle; omega
      have HF := Lib.hid hF
      have HV := Lib.hid hv
      have HNE := Lib.hid hne
      rw [HTL.out] at hle
      clear hd hg hf hr hfs hF hv hne
      obtain ⟨q, hq⟩ : ∃ q, q = used s.fs := ⟨_, rfl⟩
      rw [← hq] at CU hle hu0 hgl
      have HQ := Lib.hid hq
      clear hq
      have t1 : decide (s.room < (q : Int) + (t.size : Int)) = false := by rw [decide_eq_false_iff_not]; omega
      have e1 : IntKind.i64.wrap ((q : Int) + (t.size : Int)) = (q : Int) + (t.size : Int) := IntWalk.i64_in _ (by omega)
      go_wp2_with fail
      go_region_held3 (fun w' => w'.cell? ⟨p, 0, none⟩ = some (.int .i64 s.room)) (first | go_keep | (rw [g.cell (by simpa using hplt)]; assumption)) ((go_at_call 13; ((with_reducible refine (CU).mono ?_); rintro e u ⟨rfl, g⟩)))
      all_goals
        have g2 : Gr w2 u := Gr.ofDrew g
        have hFu : FileAt u x := HF.out.only (Only.ofGr (B := fun _ => False) g2) (fun _ _ e => e)
        have hrow := hFu.2
        rw [HV.out] at hrow
        have c0 : u.cell? ⟨x.blk, 0, none⟩ = some (.slice a x.f.data.length c) := by rw [cells_at hFu.1, ← HV.out]; rfl
        have hxu := lt_of_block hFu.1
        have HFU := Lib.hid hFu
        have HG2 := Lib.hid g2
        clear e1 g g2 hFu
        go_wp2_with (first | (at_builtin; refine wpList_append_str _ rfl _ _ rfl (.slice a x.f.data.length c) _ _ rfl hrow t rfl hxl ?_; intro ad cp w3 hown3 hgrow3 hat3; have hb3 : w3.heap[x.blk]? = some (.cells #[x.v, .int .i64 (x.f.kept : Int)] 96 (0, 0)) := (hgrow3.block _ hxu (fun e => HNE.out (by rw [HV.out]; exact e.symm))).trans HFU.out.1; have c3 : w3.cell? ⟨x.blk, 0, none⟩ = some (.slice a x.f.data.length c) := (by rw [cells_at hb3, ← HV.out]; rfl); have f3 := cells_free hb3 0; have HB3 := Lib.hid hb3; have HO3 := Lib.hid hown3; have HG3 := Lib.hid hgrow3; have HA3 := Lib.hid hat3; clear hb3 hown3 hgrow3 hat3) | fail)
        go_ret
        refine ⟨by rw [HR.out] <;> rfl, ?_⟩
        rw [HR.out]
        have hD2 := HD.out.gr HG2.out
        have hmem := List.mem_of_find?_eq_some HFI.out
        obtain ⟨v', hv'⟩ : ∃ v', v' = Value.slice ad (x.f.data.length + t.size) cp := ⟨_, rfl⟩
        have HO3 := HO3.out
        have HA3 := HA3.out
        rw [← hv'] at HO3 HA3 ⊢
        have hset := cells_set HB3.out 0 v'
        have hu3 : x.blk < w3.heap.size := lt_of_block HB3.out
        have hvne : v'.ownBlock ≠ some x.blk := fun e => by
          rcases HA3 _ e with h1 | h1
          · exact HNE.out (by rw [HV.out]; exact h1)
          · omega
        have hown4 := ownsRow_setCell_other HO3 (a := ⟨x.blk, 0, none⟩) hvne v'
        have hlen : (x.f.data ++ t.data.toList).length = x.f.data.length + t.size := by rw [List.length_append, HTL.out]
        have hrow4 : (w3.setCell ⟨x.blk, 0, none⟩ v').ownsRow 0 5 1 v' (x.f.data ++ t.data.toList).length (Lib.byteCells (x.f.data ++ t.data.toList)) := by rw [hlen, ← str_cells]; exact hown4
        have hB := plBlocks_B hD2 hmem
        have ho : Only (fun i => i ∈ plBlocks x) u (w3.setCell ⟨x.blk, 0, none⟩ v') :=
          (Only.grown HG3.out (fun k hk => by rw [← HV.out] at hk; simp [plBlocks, hk])).trans ((Only.cell1 w3 x.blk 0 v').mono fun i e => by subst e; simp [plBlocks])
        obtain ⟨L', hD'⟩ := hD2.put (n := n.data.toList) (x' := ⟨{ x.f with data := x.f.data ++ t.data.toList }, x.blk, v'⟩) (g := fun f => { f with data := f.data ++ t.data.toList }) HFI.out rfl rfl rfl ⟨hset, hrow4⟩ ho
          (fun i hi => by
            rcases HA3 i hi with h1 | h1
            · exact .inl (by rw [HV.out]; exact h1)
            · exact .inr ⟨h1, by have := HO3.lt i hi; simpa using this.2⟩)
        have hk := HS.out.k _ (get_mem HG.out)
        have hok := ok_upd (ok_call HS.out) (n := n.data.toList) (g := fun f => { f with data := f.data ++ t.data.toList }) (show s.call.get n.data.toList = some x.f from HG.out) rfl (by show x.f.kept ≤ _; rw [hlen]; omega)
          (by show ((used s.fs : Nat) : Int) + ((x.f.data ++ t.data.toList).length : Nat) ≤ s.room + _; rw [hlen]; have := HLE.out; rw [HTL.out] at this; omega)
        refine ⟨_, ⟨hok, _, _, hD'⟩, ?_, ?_⟩
        · exact (HO.out.mono (fun i e => by subst e; exact HD.out.mine _ (by simp))).trans ((Only.ofGr HG2.out).trans (ho.mono fun i e => hB i e))
        · intro b hb
          rcases hb with hb | hb
          · exact .inl hb
          · exact .inr (Nat.le_trans HO.out.size (Nat.le_trans HG2.out.size hb.1))
end Go.Proofs.YtignfbdgpgidpaaGreatDoor
/- strings.Clone gives the same bytes: by the library's contract of internal/stringslite.Clone, laid at this program's numbers. -/
namespace Go.Proofs.YtignfbdgpgidpaaGreatDoor
open Go.RowKit
set_option linter.unusedVariables false
def cloneRen : Go.Shelf.Ren := ⟨fun | 316 => 110 | n => n, fun | 9 => 9 | 3 => 3 | 4 => 4 | 37 => 94 | 0 => 0 | 127 => 182 | 5 => 5 | n => n, fun | n => n⟩
theorem cloneLaid : Go.Proofs.LaysM.n316 Tryz.prog cloneRen := {
  mixed := by kernel_rfl
  f316 := Tryz.func110.trans (congrArg some (by kernel_rfl))
  t0 := Tryz.underlying0
  a0 := Tryz.isAgg0
  z0 := Tryz.sizeOf0
  v0 := Tryz.zeroValue0
  t3 := Tryz.underlying3
  a3 := Tryz.isAgg3
  z3 := Tryz.sizeOf3
  v3 := Tryz.zeroValue3
  t4 := Tryz.underlying4
  a4 := Tryz.isAgg4
  z4 := Tryz.sizeOf4
  v4 := Tryz.zeroValue4
  t9 := Tryz.underlying9
  a9 := Tryz.isAgg9
  z9 := Tryz.sizeOf9
  v9 := Tryz.zeroValue9
  t37 := Tryz.underlying94
  a37 := Tryz.isAgg94
  z37 := Tryz.sizeOf94
  v37 := Tryz.zeroValue94
  t127 := Tryz.underlying182
  a127 := Tryz.isAgg182
  z127 := Tryz.sizeOf182
  v127 := Tryz.zeroValue182
  t5 := Tryz.underlying5
  a5 := Tryz.isAgg5
  z5 := Tryz.sizeOf5
  v5 := Tryz.zeroValue5
  i0 := by kernel_rfl
  i3 := by kernel_rfl
  i4 := by kernel_rfl
  i5 := by kernel_rfl
  i9 := by kernel_rfl
  i37 := by kernel_rfl
  i127 := by kernel_rfl }
theorem clone_c (s : ByteArray) (w : World) (hs : s.size ≤ 1000) :
    Calls Tryz.prog 83 #[.string s] w fun e w' => e = .returned (.string s) ∧ Gr w w' := by
  go_enter Tryz.func83, Tryz.ntmps83
  go_wp2_with fail
  refine (Any.stringslite_Clone cloneLaid s w (by omega)).mono ?_
  rintro e u ⟨rfl, g⟩
  go_wp2
  go_ret
  exact ⟨rfl, Gr.of g⟩
end Go.Proofs.YtignfbdgpgidpaaGreatDoor

/- In one text: FsAppend, Clone. -/
import Derived.Test.YtignfbdgpgidpaaGreatDoorK03
import Derived.Deep.RegionLaw
import Derived.RegionTactic
import Derived.BigRegion
import Derived.Deep.RegionHeld3
import Derived.OwnWalk
import Derived.Test.YtignfbdgpgidpaaGreatDoorRows
import Derived.Test.YtignfbdgpgidpaaGreatDoorK00
import Derived.Shelf.LaysM
import Derived.Shelf.Strconv.Clone
/- The contract of Append. -/
namespace Go.Proofs.YtignfbdgpgidpaaGreatDoor
open Go.RowKit FsPlain
set_option linter.unusedVariables false
set_option linter.unusedSimpArgs false
set_option maxRecDepth 20000
theorem DiskAt.drew {w : World} {p m : Nat} {s : St} {B : Nat → Prop} {L : List Pl} (h : DiskAt w p s B m L) : DiskAt w.drew p s B m L := ⟨h.heap, h.own, h.fs, h.file, h.apart, h.mine, h.low⟩
theorem DiskAt.gr {w w' : World} {p m : Nat} {s : St} {B : Nat → Prop} {L : List Pl} (h : DiskAt w p s B m L) (g : Gr w w') : DiskAt w' p s B m L := h.only (Only.ofGr (B := fun _ => False) g) (fun _ _ e => e)
theorem append_found {s : St} {n t : List UInt8} {f : F} (hd : s.call.down = false) (hg : s.get n = some f) : (s.room < used s.fs + t.length ∧ appendR s n t = (s.call, 4)) ∨ (used s.fs + t.length ≤ s.room ∧ appendR s n t = (s.call.upd n (fun f => { f with data := f.data ++ t }), 0)) := by
  by_cases h : s.room < used s.fs + t.length
  · exact .inl ⟨h, by simp [appendR, hd, hg, h]⟩
  · exact .inr ⟨by omega, by simp [appendR, hd, hg, h]⟩
theorem str_cells (l : List UInt8) (t : ByteArray) : Lib.byteCells l ++ Lib.strCells t = Lib.byteCells (l ++ t.data.toList) := by rw [Lib.strCells_eq, Lib.byteCells_append]
theorem next_gr {w w2 w' : World} {p : Nat} {s' : St} {B : Nat → Prop} (h : Next w p s' B w2) (g : Gr w2 w') : Next w p s' B w' := by
  obtain ⟨B', d, o, f⟩ := h
  exact ⟨B', d.only (Only.ofGr (B := fun _ => False) g) (fun _ _ e => e), o.trans (Only.ofGr g), f⟩
theorem append_str (w : World) (v : Value) (n : Nat) (xs : List Value) (hown : w.ownsRow 0 5 1 v n xs) (s : ByteArray) (ty : TypeId) (h63 : n + s.size ≤ 1000000000000) :
    ∃ v' w', (Builtin.append_ #[94, 9] ty #[v, .string s]).run Tryz.prog w = .ok v' w' ∧ w'.ownsRow 0 5 1 v' (n + s.size) (xs ++ Lib.strCells s) ∧ w.grownBy w' v.ownBlock ∧ ∀ i, v'.ownBlock = some i → v.ownBlock = some i ∨ w.heap.size ≤ i := by
  obtain ⟨i0, hi, hz0, hz1, hz2⟩ := info_parts infoB
  obtain ⟨v', w', hrun, h1, h2, h3⟩ := Lib.run_append_own_string (P := Tryz.prog) w 0 94 9 ty 5 i0 Tryz.underlying94 Tryz.underlying9 hi hz0 hz1 hz2 v n xs hown s (by unfold maxLen; omega) (by omega) (Nat.zero_le _)
  refine ⟨v', w', hrun, h1, h2, fun i hv => ?_⟩
  rcases hown.2 with ⟨rfl, rfl⟩ | ⟨g, cap, cur, rfl, _, hg, hnc, hcm, hcs, htk⟩
  · by_cases hm : s.size = 0
    · rw [h3.2 ⟨rfl, hm⟩] at hv; cases hv
    · have hr := run_append_nil_string (P := Tryz.prog) w 94 9 ty 5 i0 (.int .u8 0) Tryz.underlying94 Tryz.underlying9 hi hz0 s (by omega) (by omega) (by rw [hz2]; omega)
      rw [hr] at hrun
      simp only [Result.ok.injEq] at hrun
      rw [← hrun.1] at hv
      simp only [Value.ownBlock, Option.some.injEq] at hv
      exact .inr (by omega)
  · by_cases hroom : n + s.size ≤ cap
    · have hr := Lib.run_append_room_string (P := Tryz.prog) w 94 9 ty 5 i0 Tryz.underlying94 Tryz.underlying9 hi hz1 g n cap cur hg s hroom (by rw [hcs]; omega)
      rw [hr] at hrun
      simp only [Result.ok.injEq] at hrun
      rw [← hrun.1] at hv
      exact .inl hv
    · have hr := Lib.run_append_grow_string (P := Tryz.prog) w 94 9 ty 5 i0 (.int .u8 0) Tryz.underlying94 Tryz.underlying9 hi hz0 ⟨g, 0, none⟩ n cap xs (by rw [hz1]; simpa using hown.1) (hown.cells (g := g) rfl) s (by omega) (by omega) (by rw [hz2]; exact growslice_fits (by omega) (by omega))
      rw [hr] at hrun
      simp only [Result.ok.injEq] at hrun
      rw [← hrun.1] at hv
      simp only [Value.ownBlock, Option.some.injEq] at hv
      exact .inr (by omega)
theorem wpList_append_str (w : World) {ops : Array Oper} {rest : List Oper} {o : Oper} {a : Act} {Q : Exit → Act → World → Prop} (hgd : o.guard = none) (sl x : Operand)
    (ho : o.op = .call { callee := .builtin .append, args := #[sl, x], argTypes := #[94, 9] })
    (v : Value) (n : Nat) (xs : List Value) (hs : a.eval sl = v) (hown : w.ownsRow 0 5 1 v n xs) (s : ByteArray) (hx : a.eval x = .string s) (h63 : n + s.size ≤ 1000000000000)
    (h : ∀ ad cp w', w'.ownsRow 0 5 1 (.slice ad (n + s.size) cp) (n + s.size) (xs ++ Lib.strCells s) → w.grownBy w' v.ownBlock → (∀ i, (Value.slice ad (n + s.size) cp).ownBlock = some i → v.ownBlock = some i ∨ w.heap.size ≤ i) → wpList Tryz.prog ops Q rest (a.put o.dst (.slice ad (n + s.size) cp)) w') : wpList Tryz.prog ops Q (o :: rest) a w := by
  refine wpList_plain hgd fun K hK => ?_
  obtain ⟨v', w', hr, h2, h3, h4⟩ := append_str w v n xs hown s o.type h63
  obtain ⟨ad, cp, rfl, _⟩ := row_shape h2
  unfold Oper.wp execOp
  simp only [ho, resolve, invoke, builtin, Sem.run_bind, Sem.run_pure, Result.andThen_ok, List.map_toArray, List.map_cons, List.map_nil, hs, hx, hr]
  exact hK _ _ (h ad cp w' h2 h3 h4)
set_option maxRecDepth 20000 in
set_option maxHeartbeats 1000000 in
theorem append_c (p : Nat) (s : St) (B : Nat → Prop) (n t : ByteArray) (w : World) (h : Disk w p s B) (hn : n.size ≤ maxLen) (hm : rightB n.data.toList = true) (h1 : s.calls ≤ 1000000000000) (ht : t.size ≤ 1000000000000) :
    Calls Tryz.prog 20 #[.pointer (some ⟨p, 0, none⟩), .string n, .string t] w (Tells w p (appendR s n.data.toList t.data.toList).1 B (.int .i64 (appendR s n.data.toList t.data.toList).2)) := by
  obtain ⟨i0, hi, hz0, hz1, hz2⟩ := info_parts infoB
  obtain ⟨hs, m, L, hD⟩ := h
  have C := find_yes p m s B L n w hs hD hn hm h1
  have HS := Lib.hid hs
  have htl : t.data.toList.length = t.size := rfl
  have HTL := Lib.hid htl
  clear hD hm hs htl
  go_enter Tryz.func20, Tryz.ntmps20
  go_wp2_with fail
  refine C.mono ?_; rintro e w2 ⟨hD, hO, hcase⟩
  have HN := Lib.hid (next_called HS.out hD hO)
  have HD := Lib.hid hD
  have HO := Lib.hid hO
  clear hD hO
  rcases hcase with ⟨hd, rfl⟩ | ⟨hd, hg, rfl⟩ | ⟨hd, x, hg, hf, rfl⟩
  · have HR : Hid (appendR s n.data.toList t.data.toList = (s.call, 5)) := Lib.hid (by simp [appendR, hd])
    clear hd
    go_wp2_with fail
    go_ret
    exact ⟨by rw [HR.out] <;> rfl, by rw [HR.out]; exact HN.out⟩
  · have HR : Hid (appendR s n.data.toList t.data.toList = (s.call, 2)) := Lib.hid (by simp [appendR, hd, hg])
    clear hd hg
    go_wp2_with fail
    go_ret
    exact ⟨by rw [HR.out] <;> rfl, by rw [HR.out]; exact HN.out⟩
  · have CU := used_c p m s.call B L w2.drew (ok_call HS.out) HD.out.drew
    have hcell : w2.cell? ⟨p, 0, none⟩ = some (.int .i64 s.room) := by rw [cells_at HD.out.heap]; rfl
    have hplt := lt_of_block HD.out.heap
    have hr0 := HS.out.r0
    have hr1 := HS.out.r1
    have hu0 := HS.out.u
    have hgl := used_le (get_mem hg)
    have hfs : s.call.fs = s.fs := rfl
    rw [hfs] at CU
    rcases append_found (t := t.data.toList) hd hg with ⟨hlt, hr⟩ | ⟨hle, hr⟩
    · have HR := Lib.hid hr
      rw [HTL.out] at hlt
      clear hd hg hf hr hgl hfs
      generalize used s.fs = q at *
      have t1 : decide (s.room < (q : Int) + (t.size : Int)) = true := by rw [decide_eq_true_iff]; omega
      have e1 : IntKind.i64.wrap ((q : Int) + (t.size : Int)) = (q : Int) + (t.size : Int) := IntWalk.i64_in _ (by omega)
      go_wp2_with fail
      go_region_held3 (fun w' => w'.cell? ⟨p, 0, none⟩ = some (.int .i64 s.room)) (first | go_keep | (rw [g.cell (by simpa using hplt)]; assumption)) ((go_at_call 13; ((with_reducible refine (CU).mono ?_); rintro e u ⟨rfl, g⟩)))
      all_goals
        go_wp2_with fail
        go_ret
        exact ⟨by rw [HR.out] <;> rfl, by rw [HR.out]; exact next_gr HN.out (Gr.ofDrew g)⟩
    · have HR := Lib.hid hr
      have HLE := Lib.hid hle
      have HG := Lib.hid hg
      have HFI := Lib.hid hf
      have hF := HD.out.file x (List.mem_of_find?_eq_some hf)
      obtain ⟨a, c, hv, _⟩ := row_shape hF.2
      have hne := HD.out.row_ne (List.mem_of_find?_eq_some hf)
      have hxlt := lt_of_block hF.1
      have hxl : x.f.data.length + t.size ≤ 1000000000000 := by rw [HTL.out] at hle; omega
      have HF := Lib.hid hF
      have HV := Lib.hid hv
      have HNE := Lib.hid hne
      rw [HTL.out] at hle
      clear hd hg hf hr hfs hF hv hne
      obtain ⟨q, hq⟩ : ∃ q, q = used s.fs := ⟨_, rfl⟩
      rw [← hq] at CU hle hu0 hgl
      have HQ := Lib.hid hq
      clear hq
      have t1 : decide (s.room < (q : Int) + (t.size : Int)) = false := by rw [decide_eq_false_iff_not]; omega
      have e1 : IntKind.i64.wrap ((q : Int) + (t.size : Int)) = (q : Int) + (t.size : Int) := IntWalk.i64_in _ (by omega)
      go_wp2_with fail
      go_region_held3 (fun w' => w'.cell? ⟨p, 0, none⟩ = some (.int .i64 s.room)) (first | go_keep | (rw [g.cell (by simpa using hplt)]; assumption)) ((go_at_call 13; ((with_reducible refine (CU).mono ?_); rintro e u ⟨rfl, g⟩)))
      all_goals
        have g2 : Gr w2 u := Gr.ofDrew g
        have hFu : FileAt u x := HF.out.only (Only.ofGr (B := fun _ => False) g2) (fun _ _ e => e)
        have hrow := hFu.2
        rw [HV.out] at hrow
        have c0 : u.cell? ⟨x.blk, 0, none⟩ = some (.slice a x.f.data.length c) := by rw [cells_at hFu.1, ← HV.out]; rfl
        have hxu := lt_of_block hFu.1
        have HFU := Lib.hid hFu
        have HG2 := Lib.hid g2
        clear e1 g g2 hFu
        go_wp2_with (first | (at_builtin; refine wpList_append_str _ rfl _ _ rfl (.slice a x.f.data.length c) _ _ rfl hrow t rfl hxl ?_; intro ad cp w3 hown3 hgrow3 hat3; have hb3 : w3.heap[x.blk]? = some (.cells #[x.v, .int .i64 (x.f.kept : Int)] 96 (0, 0)) := (hgrow3.block _ hxu (fun e => HNE.out (by rw [HV.out]; exact e.symm))).trans HFU.out.1; have c3 : w3.cell? ⟨x.blk, 0, none⟩ = some (.slice a x.f.data.length c) := (by rw [cells_at hb3, ← HV.out]; rfl); have f3 := cells_free hb3 0; have HB3 := Lib.hid hb3; have HO3 := Lib.hid hown3; have HG3 := Lib.hid hgrow3; have HA3 := Lib.hid hat3; clear hb3 hown3 hgrow3 hat3) | fail)
        go_ret
        refine ⟨by rw [HR.out] <;> rfl, ?_⟩
        rw [HR.out]
        have hD2 := HD.out.gr HG2.out
        have hmem := List.mem_of_find?_eq_some HFI.out
        obtain ⟨v', hv'⟩ : ∃ v', v' = Value.slice ad (x.f.data.length + t.size) cp := ⟨_, rfl⟩
        have HO3 := HO3.out
        have HA3 := HA3.out
        rw [← hv'] at HO3 HA3 ⊢
        have hset := cells_set HB3.out 0 v'
        have hu3 : x.blk < w3.heap.size := lt_of_block HB3.out
        have hvne : v'.ownBlock ≠ some x.blk := fun e => by
          rcases HA3 _ e with h1 | h1
          · exact HNE.out (by rw [HV.out]; exact h1)
          · omega
        have hown4 := ownsRow_setCell_other HO3 (a := ⟨x.blk, 0, none⟩) hvne v'
        have hlen : (x.f.data ++ t.data.toList).length = x.f.data.length + t.size := by rw [List.length_append, HTL.out]
        have hrow4 : (w3.setCell ⟨x.blk, 0, none⟩ v').ownsRow 0 5 1 v' (x.f.data ++ t.data.toList).length (Lib.byteCells (x.f.data ++ t.data.toList)) := by rw [hlen, ← str_cells]; exact hown4
        have hB := plBlocks_B hD2 hmem
        have ho : Only (fun i => i ∈ plBlocks x) u (w3.setCell ⟨x.blk, 0, none⟩ v') :=
          (Only.grown HG3.out (fun k hk => by rw [← HV.out] at hk; simp [plBlocks, hk])).trans ((Only.cell1 w3 x.blk 0 v').mono fun i e => by subst e; simp [plBlocks])
        obtain ⟨L', hD'⟩ := hD2.put (n := n.data.toList) (x' := ⟨{ x.f with data := x.f.data ++ t.data.toList }, x.blk, v'⟩) (g := fun f => { f with data := f.data ++ t.data.toList }) HFI.out rfl rfl rfl ⟨hset, hrow4⟩ ho
          (fun i hi => by
            rcases HA3 i hi with h1 | h1
            · exact .inl (by rw [HV.out]; exact h1)
            · exact .inr ⟨h1, by have := HO3.lt i hi; simpa using this.2⟩)
        have hk := HS.out.k _ (get_mem HG.out)
        have hok := ok_upd (ok_call HS.out) (n := n.data.toList) (g := fun f => { f with data := f.data ++ t.data.toList }) (show s.call.get n.data.toList = some x.f from HG.out) rfl (by show x.f.kept ≤ _; rw [hlen]; omega)
          (by show ((used s.fs : Nat) : Int) + ((x.f.data ++ t.data.toList).length : Nat) ≤ s.room + _; rw [hlen]; have := HLE.out; rw [HTL.out] at this; omega)
        refine ⟨_, ⟨hok, _, _, hD'⟩, ?_, ?_⟩
        · exact (HO.out.mono (fun i e => by subst e; exact HD.out.mine _ (by simp))).trans ((Only.ofGr HG2.out).trans (ho.mono fun i e => hB i e))
        · intro b hb
          rcases hb with hb | hb
          · exact .inl hb
          · exact .inr (Nat.le_trans HO.out.size (Nat.le_trans HG2.out.size hb.1))
end Go.Proofs.YtignfbdgpgidpaaGreatDoor
/- strings.Clone gives the same bytes: by the library's contract of internal/stringslite.Clone, laid at this program's numbers. -/
namespace Go.Proofs.YtignfbdgpgidpaaGreatDoor
open Go.RowKit
set_option linter.unusedVariables false
def cloneRen : Go.Shelf.Ren := ⟨fun | 316 => 110 | n => n, fun | 9 => 9 | 3 => 3 | 4 => 4 | 37 => 94 | 0 => 0 | 127 => 182 | 5 => 5 | n => n, fun | n => n⟩
theorem cloneLaid : Go.Proofs.LaysM.n316 Tryz.prog cloneRen := {
  mixed := by kernel_rfl
  f316 := Tryz.func110.trans (congrArg some (by kernel_rfl))
  t0 := Tryz.underlying0
  a0 := Tryz.isAgg0
  z0 := Tryz.sizeOf0
  v0 := Tryz.zeroValue0
  t3 := Tryz.underlying3
  a3 := Tryz.isAgg3
  z3 := Tryz.sizeOf3
  v3 := Tryz.zeroValue3
  t4 := Tryz.underlying4
  a4 := Tryz.isAgg4
  z4 := Tryz.sizeOf4
  v4 := Tryz.zeroValue4
  t9 := Tryz.underlying9
  a9 := Tryz.isAgg9
  z9 := Tryz.sizeOf9
  v9 := Tryz.zeroValue9
  t37 := Tryz.underlying94
  a37 := Tryz.isAgg94
  z37 := Tryz.sizeOf94
  v37 := Tryz.zeroValue94
  t127 := Tryz.underlying182
  a127 := Tryz.isAgg182
  z127 := Tryz.sizeOf182
  v127 := Tryz.zeroValue182
  t5 := Tryz.underlying5
  a5 := Tryz.isAgg5
  z5 := Tryz.sizeOf5
  v5 := Tryz.zeroValue5
  i0 := by kernel_rfl
  i3 := by kernel_rfl
  i4 := by kernel_rfl
  i5 := by kernel_rfl
  i9 := by kernel_rfl
  i37 := by kernel_rfl
  i127 := by kernel_rfl }
theorem clone_c (s : ByteArray) (w : World) (hs : s.size ≤ 1000) :
    Calls Tryz.prog 83 #[.string s] w fun e w' => e = .returned (.string s) ∧ Gr w w' := by
  go_enter Tryz.func83, Tryz.ntmps83
  go_wp2_with fail
  refine (Any.stringslite_Clone cloneLaid s w (by omega)).mono ?_
  rintro e u ⟨rfl, g⟩
  go_wp2
  go_ret
  exact ⟨rfl, Gr.of g⟩
end Go.Proofs.YtignfbdgpgidpaaGreatDoor

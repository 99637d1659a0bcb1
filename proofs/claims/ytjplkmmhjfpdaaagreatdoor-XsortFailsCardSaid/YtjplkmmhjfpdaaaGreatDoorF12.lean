/- In one text: FsAppend, FsCreate, FsNew, RdStand, BudA. -/
import Derived.Test.YtjplkmmhjfpdaaaGreatDoorF11
import Derived.Deep.RegionLaw
import Derived.RegionTactic
import Derived.BigRegion
import Derived.Deep.RegionHeld3
import Derived.OwnWalk
import Derived.Test.YtjplkmmhjfpdaaaGreatDoorF01
import Derived.Test.YtjplkmmhjfpdaaaGreatDoorF08
import Derived.Test.YtjplkmmhjfpdaaaGreatDoorF10
import Derived.Test.YtjplkmmhjfpdaaaGreatDoorF06
/- The contract of Append. -/
namespace Go.Proofs.YtjplkmmhjfpdaaaGreatDoor
open Go.RowKit FsPlain
set_option linter.unusedVariables false
set_option linter.unusedSimpArgs false
set_option maxRecDepth 20000
theorem DiskAt.drew {w : World} {p m : Nat} {s : St} {B : Nat → Prop} {L : List Pl} (h : DiskAt w p s B m L) : DiskAt w.drew p s B m L := ⟨h.heap, h.own, h.fs, h.file, h.apart, h.mine, h.low⟩
theorem DiskAt.gr {w w' : World} {p m : Nat} {s : St} {B : Nat → Prop} {L : List Pl} (h : DiskAt w p s B m L) (g : Gr w w') : DiskAt w' p s B m L := h.only (Only.ofGr (B := fun _ => False) g) (fun _ _ e => e)
theorem append_found {s : St} {n t : List UInt8} {f : F} (hd : s.call.down = false) (hg : s.get n = some f) : (s.room < used s.fs + t.length ∧ appendR s n t = (s.call, 4)) ∨ (used s.fs + t.length ≤ s.room ∧ appendR s n t = (s.call.upd n (fun f => { f with data := f.data ++ t }), 0)) := by
  by_cases h : s.room < used s.fs + t.length
  · exact .inl ⟨h, by simp [appendR, hd, hg, h]⟩
  · exact .inr ⟨by omega, by simp [appendR, hd, hg, h]⟩
theorem str_cells (l : List UInt8) (t : ByteArray) : Lib.byteCells l ++ Lib.strCells t = Lib.byteCells (l ++ t.data.toList) := by rw [Lib.strCells_eq, Lib.byteCells_append]
theorem next_gr {w w2 w' : World} {p : Nat} {s' : St} {B : Nat → Prop} (h : Next w p s' B w2) (g : Gr w2 w') : Next w p s' B w' := by
  obtain ⟨B', d, o, f⟩ := h
  exact ⟨B', d.only (Only.ofGr (B := fun _ => False) g) (fun _ _ e => e), o.trans (Only.ofGr g), f⟩
theorem append_str (w : World) (v : Value) (n : Nat) (xs : List Value) (hown : w.ownsRow 0 5 1 v n xs) (s : ByteArray) (ty : TypeId) (h63 : n + s.size ≤ 1000000000000) :
    ∃ v' w', (Builtin.append_ #[71, 9] ty #[v, .string s]).run Tryz.prog w = .ok v' w' ∧ w'.ownsRow 0 5 1 v' (n + s.size) (xs ++ Lib.strCells s) ∧ w.grownBy w' v.ownBlock ∧ ∀ i, v'.ownBlock = some i → v.ownBlock = some i ∨ w.heap.size ≤ i := by
  obtain ⟨i0, hi, hz0, hz1, hz2⟩ := info_parts infoB
  obtain ⟨v', w', hrun, h1, h2, h3⟩ := Lib.run_append_own_string (P := Tryz.prog) w 0 71 9 ty 5 i0 Tryz.underlying71 Tryz.underlying9 hi hz0 hz1 hz2 v n xs hown s (by unfold maxLen; omega) (by omega) (Nat.zero_le _)
  refine ⟨v', w', hrun, h1, h2, fun i hv => ?_⟩
  rcases hown.2 with ⟨rfl, rfl⟩ | ⟨g, cap, cur, rfl, _, hg, hnc, hcm, hcs, htk⟩
  · by_cases hm : s.size = 0
    · rw [h3.2 ⟨rfl, hm⟩] at hv; cases hv
    · have hr := run_append_nil_string (P := Tryz.prog) w 71 9 ty 5 i0 (.int .u8 0) Tryz.underlying71 Tryz.underlying9 hi hz0 s (by omega) (by omega) (by rw [hz2]; omega)
      rw [hr] at hrun
      simp only [Result.ok.injEq] at hrun
      rw [← hrun.1] at hv
      simp only [Value.ownBlock, Option.some.injEq] at hv
      exact .inr (by omega)
  · by_cases hroom : n + s.size ≤ cap
    · have hr := Lib.run_append_room_string (P := Tryz.prog) w 71 9 ty 5 i0 Tryz.underlying71 Tryz.underlying9 hi hz1 g n cap cur hg s hroom (by rw [hcs]; omega)
      rw [hr] at hrun
      simp only [Result.ok.injEq] at hrun
      rw [← hrun.1] at hv
      exact .inl hv
    · have hr := Lib.run_append_grow_string (P := Tryz.prog) w 71 9 ty 5 i0 (.int .u8 0) Tryz.underlying71 Tryz.underlying9 hi hz0 ⟨g, 0, none⟩ n cap xs (by rw [hz1]; simpa using hown.1) (hown.cells (g := g) rfl) s (by omega) (by omega) (by rw [hz2]; exact growslice_fits (by omega) (by omega))
      rw [hr] at hrun
      simp only [Result.ok.injEq] at hrun
      rw [← hrun.1] at hv
      simp only [Value.ownBlock, Option.some.injEq] at hv
      exact .inr (by omega)
theorem wpList_append_str (w : World) {ops : Array Oper} {rest : List Oper} {o : Oper} {a : Act} {Q : Exit → Act → World → Prop} (hgd : o.guard = none) (sl x : Operand)
    (ho : o.op = .call { callee := .builtin .append, args := #[sl, x], argTypes := #[71, 9] })
    (v : Value) (n : Nat) (xs : List Value) (hs : a.eval sl = v) (hown : w.ownsRow 0 5 1 v n xs) (s : ByteArray) (hx : a.eval x = .string s) (h63 : n + s.size ≤ 1000000000000)
    (h : ∀ ad cp w', w'.ownsRow 0 5 1 (.slice ad (n + s.size) cp) (n + s.size) (xs ++ Lib.strCells s) → w.grownBy w' v.ownBlock → (∀ i, (Value.slice ad (n + s.size) cp).ownBlock = some i → v.ownBlock = some i ∨ w.heap.size ≤ i) → wpList Tryz.prog ops Q rest (a.put o.dst (.slice ad (n + s.size) cp)) w') : wpList Tryz.prog ops Q (o :: rest) a w := by
  refine wpList_plain hgd fun K hK => ?_
  obtain ⟨v', w', hr, h2, h3, h4⟩ := append_str w v n xs hown s o.type h63
  obtain ⟨ad, cp, rfl, _⟩ := row_shape h2
  unfold Oper.wp execOp
  simp only [ho, resolve, invoke, builtin, Sem.run_bind, Sem.run_pure, Result.andThen_ok, List.map_toArray, List.map_cons, List.map_nil, hs, hx, hr]
  exact hK _ _ (h ad cp w' h2 h3 h4)
set_option maxRecDepth 20000 in
set_option maxHeartbeats 1000000 in
theorem append_c (p : Nat) (s : St) (B : Nat → Prop) (n t : ByteArray) (w : World) (h : Disk w p s B) (hn : n.size ≤ maxLen) (hm : rightB n.data.toList = true) (h1 : s.calls ≤ 1000000000000) (ht : t.size ≤ 1000000000000) :
    Calls Tryz.prog 11 #[.pointer (some ⟨p, 0, none⟩), .string n, .string t] w (Tells w p (appendR s n.data.toList t.data.toList).1 B (.int .i64 (appendR s n.data.toList t.data.toList).2)) := by
  obtain ⟨i0, hi, hz0, hz1, hz2⟩ := info_parts infoB
  obtain ⟨hs, m, L, hD⟩ := h
  have C := find_yes p m s B L n w hs hD hn hm h1
  have HS := Lib.hid hs
  have htl : t.data.toList.length = t.size := rfl
  have HTL := Lib.hid htl
  clear hD hm hs htl
  go_enter Tryz.func11, Tryz.ntmps11
  go_wp2_with fail
  refine C.mono ?_; rintro e w2 ⟨hD, hO, hcase⟩
  have HN := Lib.hid (next_called HS.out hD hO)
  have HD := Lib.hid hD
  have HO := Lib.hid hO
  clear hD hO
  rcases hcase with ⟨hd, rfl⟩ | ⟨hd, hg, rfl⟩ | ⟨hd, x, hg, hf, rfl⟩
  · have HR : Hid (appendR s n.data.toList t.data.toList = (s.call, 5)) := Lib.hid (by simp [appendR, hd])
    clear hd
    go_wp2_with fail
    go_ret
    exact ⟨by rw [HR.out] <;> rfl, by rw [HR.out]; exact HN.out⟩
  · have HR : Hid (appendR s n.data.toList t.data.toList = (s.call, 2)) := Lib.hid (by simp [appendR, hd, hg])
    clear hd hg
    go_wp2_with fail
    go_ret
    exact ⟨by rw [HR.out] <;> rfl, by rw [HR.out]; exact HN.out⟩
  · have CU := used_c p m s.call B L w2.drew (ok_call HS.out) HD.out.drew
    have hcell : w2.cell? ⟨p, 0, none⟩ = some (.int .i64 s.room) := by rw [cells_at HD.out.heap]; rfl
    have hplt := lt_of_block HD.out.heap
    have hr0 := HS.out.r0
    have hr1 := HS.out.r1
    have hu0 := HS.out.u
    have hgl := used_le (get_mem hg)
    have hfs : s.call.fs = s.fs := rfl
    rw [hfs] at CU
    rcases append_found (t := t.data.toList) hd hg with ⟨hlt, hr⟩ | ⟨hle, hr⟩
    · have HR := Lib.hid hr
      rw [HTL.out] at hlt
      clear hd hg hf hr hgl hfs
      generalize used s.fs = q at *
      have t1 : decide (s.room < (q : Int) + (t.size : Int)) = true := by rw [decide_eq_true_iff]; omega
      have e1 : IntKind.i64.wrap ((q : Int) + (t.size : Int)) = (q : Int) + (t.size : Int) := IntWalk.i64_in _ (by omega)
      go_wp2_with fail
      go_region_held3 (fun w' => w'.cell? ⟨p, 0, none⟩ = some (.int .i64 s.room)) (first | go_keep | (rw [g.cell (by simpa using hplt)]; assumption)) ((go_at_call 38; ((with_reducible refine (CU).mono ?_); rintro e u ⟨rfl, g⟩)))
      all_goals
        go_wp2_with fail
        go_ret
        exact ⟨by rw [HR.out] <;> rfl, by rw [HR.out]; exact next_gr HN.out (Gr.ofDrew g)⟩
    · have HR := Lib.hid hr
      have HLE := Lib.hid hle
      have HG := Lib.hid hg
      have HFI := Lib.hid hf
      have hF := HD.out.file x (List.mem_of_find?_eq_some hf)
      obtain ⟨a, c, hv, _⟩ := row_shape hF.2
      have hne := HD.out.row_ne (List.mem_of_find?_eq_some hf)
      have hxlt := lt_of_block hF.1
      have hxl : x.f.data.length + t.size ≤ 1000000000000 := by rw [HTL.out] at hle; omega
      have HF := Lib.hid hF
      have HV := Lib.hid hv
      have HNE := Lib.hid hne
      rw [HTL.out] at hle
      clear hd hg hf hr hfs hF hv hne
      obtain ⟨q, hq⟩ : ∃ q, q = used s.fs := ⟨_, rfl⟩
      rw [← hq] at CU hle hu0 hgl
      have HQ := Lib.hid hq
      clear hq
      have t1 : decide (s.room < (q : Int) + (t.size : Int)) = false := by rw [decide_eq_false_iff_not]; omega
      have e1 : IntKind.i64.wrap ((q : Int) + (t.size : Int)) = (q : Int) + (t.size : Int) := IntWalk.i64_in _ (by omega)
      go_wp2_with fail
      go_region_held3 (fun w' => w'.cell? ⟨p, 0, none⟩ = some (.int .i64 s.room)) (first | go_keep | (rw [g.cell (by simpa using hplt)]; assumption)) ((go_at_call 38; ((with_reducible refine (CU).mono ?_); rintro e u ⟨rfl, g⟩)))
      all_goals
        have g2 : Gr w2 u := Gr.ofDrew g
        have hFu : FileAt u x := HF.out.only (Only.ofGr (B := fun _ => False) g2) (fun _ _ e => e)
        have hrow := hFu.2
        rw [HV.out] at hrow
        have c0 : u.cell? ⟨x.blk, 0, none⟩ = some (.slice a x.f.data.length c) := by rw [cells_at hFu.1, ← HV.out]; rfl
        have hxu := lt_of_block hFu.1
        have HFU := Lib.hid hFu
        have HG2 := Lib.hid g2
        clear e1 g g2 hFu
        go_wp2_with (first | (at_builtin; refine wpList_append_str _ rfl _ _ rfl (.slice a x.f.data.length c) _ _ rfl hrow t rfl hxl ?_; intro ad cp w3 hown3 hgrow3 hat3; have hb3 : w3.heap[x.blk]? = some (.cells #[x.v, .int .i64 (x.f.kept : Int)] 73 (0, 0)) := (hgrow3.block _ hxu (fun e => HNE.out (by rw [HV.out]; exact e.symm))).trans HFU.out.1; have c3 : w3.cell? ⟨x.blk, 0, none⟩ = some (.slice a x.f.data.length c) := (by rw [cells_at hb3, ← HV.out]; rfl); have f3 := cells_free hb3 0; have HB3 := Lib.hid hb3; have HO3 := Lib.hid hown3; have HG3 := Lib.hid hgrow3; have HA3 := Lib.hid hat3; clear hb3 hown3 hgrow3 hat3) | fail)
        go_ret
        refine ⟨by rw [HR.out] <;> rfl, ?_⟩
        rw [HR.out]
        have hD2 := HD.out.gr HG2.out
        have hmem := List.mem_of_find?_eq_some HFI.out
        obtain ⟨v', hv'⟩ : ∃ v', v' = Value.slice ad (x.f.data.length + t.size) cp := ⟨_, rfl⟩
        have HO3 := HO3.out
        have HA3 := HA3.out
        rw [← hv'] at HO3 HA3 ⊢
        have hset := cells_set HB3.out 0 v'
        have hu3 : x.blk < w3.heap.size := lt_of_block HB3.out
        have hvne : v'.ownBlock ≠ some x.blk := fun e => by
          rcases HA3 _ e with h1 | h1
          · exact HNE.out (by rw [HV.out]; exact h1)
          · omega
        have hown4 := ownsRow_setCell_other HO3 (a := ⟨x.blk, 0, none⟩) hvne v'
        have hlen : (x.f.data ++ t.data.toList).length = x.f.data.length + t.size := by rw [List.length_append, HTL.out]
        have hrow4 : (w3.setCell ⟨x.blk, 0, none⟩ v').ownsRow 0 5 1 v' (x.f.data ++ t.data.toList).length (Lib.byteCells (x.f.data ++ t.data.toList)) := by rw [hlen, ← str_cells]; exact hown4
        have hB := plBlocks_B hD2 hmem
        have ho : Only (fun i => i ∈ plBlocks x) u (w3.setCell ⟨x.blk, 0, none⟩ v') :=
          (Only.grown HG3.out (fun k hk => by rw [← HV.out] at hk; simp [plBlocks, hk])).trans ((Only.cell1 w3 x.blk 0 v').mono fun i e => by subst e; simp [plBlocks])
        obtain ⟨L', hD'⟩ := hD2.put (n := n.data.toList) (x' := ⟨{ x.f with data := x.f.data ++ t.data.toList }, x.blk, v'⟩) (g := fun f => { f with data := f.data ++ t.data.toList }) HFI.out rfl rfl rfl ⟨hset, hrow4⟩ ho
          (fun i hi => by
            rcases HA3 i hi with h1 | h1
            · exact .inl (by rw [HV.out]; exact h1)
            · exact .inr ⟨h1, by have := HO3.lt i hi; simpa using this.2⟩)
        have hk := HS.out.k _ (get_mem HG.out)
        have hok := ok_upd (ok_call HS.out) (n := n.data.toList) (g := fun f => { f with data := f.data ++ t.data.toList }) (show s.call.get n.data.toList = some x.f from HG.out) rfl (by show x.f.kept ≤ _; rw [hlen]; omega)
          (by show ((used s.fs : Nat) : Int) + ((x.f.data ++ t.data.toList).length : Nat) ≤ s.room + _; rw [hlen]; have := HLE.out; rw [HTL.out] at this; omega)
        refine ⟨_, ⟨hok, _, _, hD'⟩, ?_, ?_⟩
        · exact (HO.out.mono (fun i e => by subst e; exact HD.out.mine _ (by simp))).trans ((Only.ofGr HG2.out).trans (ho.mono fun i e => hB i e))
        · intro b hb
          rcases hb with hb | hb
          · exact .inl hb
          · exact .inr (Nat.le_trans HO.out.size (Nat.le_trans HG2.out.size hb.1))
end Go.Proofs.YtjplkmmhjfpdaaaGreatDoor
/- The contracts of place and Create. -/
namespace Go.Proofs.YtjplkmmhjfpdaaaGreatDoor
open Go.RowKit FsPlain Go.Maps
set_option linter.unusedVariables false
set_option linter.unusedSimpArgs false
set_option maxRecDepth 20000
def Own (m k : Nat) (D : DataW Unit) (w : World) : Prop := w.ownsMap Tryz.prog 9 ptrElem m k D
theorem Own.gr {m k : Nat} {D : DataW Unit} {w w' : World} (h : Own m k D w) (g : Gr w w') : Own m k D w' := own_only h (Only.ofGr (B := fun _ => False) g) (fun e => e)
theorem Own.drew {m k : Nat} {D : DataW Unit} {w : World} (h : Own m k D w) : Own m k D w.drew := h
theorem put_run (m b : Nat) (n : ByteArray) (hn : n.size ≤ maxLen) : ∃ W : World → World, ∀ u k D, Own m k D u → k < maxLen →
    (Instr.mapUpdate 64 (.map (some m)) (.string n) (.pointer (some ⟨b, 0, none⟩))).run Tryz.prog u = .ok () (W u) ∧ Own m (k + 1) (D.put (.string n.data.toList) (.lit (.int .i64 (b : Int)))) (W u) ∧ Only (fun i => i = m) u (W u) := by
  have hkey := WideMaps.keyOf_string_mk (P := Tryz.prog) (k := 9) Tryz.underlying9 hn
  have h : ∀ u : World, ∃ v : World, (∃ k D, Own m k D u ∧ k < maxLen) →
    (Instr.mapUpdate 64 (.map (some m)) (.string n) (.pointer (some ⟨b, 0, none⟩))).run Tryz.prog u = .ok () v := by
    intro u
    by_cases ho : ∃ k D, Own m k D u ∧ k < maxLen
    · obtain ⟨k, D, ho, hk⟩ := ho
      obtain ⟨v, h1, h2, h3⟩ := World.ownsMap.update ho lawS Tryz.underlying64 hk hkey (ptr_mk b)
      exact ⟨v, fun _ => h1⟩
    · exact ⟨u, fun h => absurd h ho⟩
  refine ⟨fun u => Classical.choose (h u), fun u k D ho hk => ?_⟩
  have h0 := Classical.choose_spec (h u) ⟨k, D, ho, hk⟩
  obtain ⟨v, h1, h2, h3⟩ := World.ownsMap.update ho lawS Tryz.underlying64 hk hkey (ptr_mk b)
  have hv : v = Classical.choose (h u) := by rw [h0] at h1; simp only [Result.ok.injEq] at h1; exact h1.2.symm
  rw [hv] at h2 h3
  exact ⟨h0, h2, Only.grown h3 (fun j hj => by cases hj; rfl)⟩
set_option maxRecDepth 20000 in
set_option maxHeartbeats 1000000 in
theorem place_c (p m b k : Nat) (s : St) (D : DataW Unit) (n : ByteArray) (w : World) (h : w.heap[p]? = some (.cells (dcells s m) 66 (0, 0))) (hpm : p ≠ m) (ho : Own m k D w) (hn : n.size ≤ 1000) (hk : k ≤ 1000000) :
    Calls Tryz.prog 36 #[.pointer (some ⟨p, 0, none⟩), .string n, .pointer (some ⟨b, 0, none⟩)] w fun e w' => e = .returned (.tuple #[]) ∧ Own m (k + 1) (D.put (.string n.data.toList) (.lit (.int .i64 (b : Int)))) w' ∧ Only (fun i => i = m) w w' := by
  obtain ⟨W, hW⟩ := put_run m b n (by unfold maxLen; omega)
  have hk1 : k < maxLen := by unfold maxLen; omega
  have hk2 : k + 1 < maxLen := by unfold maxLen; omega
  have hc : w.cell? ⟨p, 1, none⟩ = some (.map (some m)) := by rw [cells_at h]; rfl
  have hrun := (hW w.drew k D ho.drew hk1).1
  have hplt := lt_of_block h
  have CC := clone_c n w.drew hn
  have HC := Lib.hid hc
  have HW := Lib.hid hW
  have HO := Lib.hid ho
  clear h hW ho
  go_enter Tryz.func36, Tryz.ntmps36
  go_wp2_with fail
  go_region_held3 (fun w' => w'.cell? ⟨p, 1, none⟩ = some (.map (some m)) ∧ (Instr.mapUpdate 64 (.map (some m)) (.string n) (.pointer (some ⟨b, 0, none⟩))).run Tryz.prog w' = .ok () (W w')) (first | (refine ⟨by rw [(HW.out _ _ _ (HO.out.drew.gr g) hk1).2.2.cell (by exact Nat.lt_of_lt_of_le hplt g.size) hpm, g.cell (by simpa using hplt)]; exact HC.out, (HW.out _ _ _ (HW.out _ _ _ (HO.out.drew.gr g) hk1).2.1 hk2).1⟩) | (refine ⟨by rw [g.cell (by simpa using hplt)]; exact HC.out, (HW.out _ _ _ (HO.out.drew.gr g) hk1).1⟩) | (refine ⟨by go_keep, hrun⟩)) ((go_at_call 62; ((with_reducible refine (CC).mono ?_); rintro e u ⟨rfl, g⟩)))
  all_goals
    go_wp2_with fail
    go_end0
    exact ⟨rfl, (HW.out _ _ _ (HO.out.drew.gr g) hk1).2.1, (Only.ofGr (Gr.ofDrew g)).trans (HW.out _ _ _ (HO.out.drew.gr g) hk1).2.2⟩
def insL (x : Pl) : List Pl → List Pl
  | [] => [x]
  | y :: r => if (Lit.string x.f.name).before (.string y.f.name) = true then x :: y :: r else y :: insL x r
theorem insL_map (x : Pl) : ∀ L : List Pl, (insL x L).map (·.f) = insF x.f (L.map (·.f))
  | [] => rfl
  | y :: r => by
    simp only [List.map_cons]
    unfold insL insF
    split
    · simp
    · simp only [List.map_cons, insL_map x r]
theorem insL_perm (x : Pl) : ∀ L, (insL x L).Perm (x :: L)
  | [] => List.Perm.refl _
  | y :: r => by
    unfold insL
    split
    · exact List.Perm.refl _
    · exact ((insL_perm x r).cons y).trans (List.Perm.swap _ _ _)
theorem insL_ents (x : Pl) : ∀ L : List Pl, (insL x L).map (fun x => ((.string x.f.name : Lit), (DataW.lit (.int .i64 (x.blk : Int)) : DataW Unit))) = DataW.insert (.string x.f.name, .lit (.int .i64 (x.blk : Int))) (L.map fun x => (.string x.f.name, .lit (.int .i64 (x.blk : Int))))
  | [] => rfl
  | y :: r => by
    simp only [List.map_cons]
    unfold insL DataW.insert
    split
    · simp
    · simp only [List.map_cons, insL_ents x r]
theorem ents_put {L : List Pl} {x : Pl} (h : L.find? (fun y => y.f.name == x.f.name) = none) : ents (insL x L) = (ents L).put (.string x.f.name) (.lit (.int .i64 (x.blk : Int))) := by
  unfold ents DataW.put
  rw [insL_ents]
  congr 2
  symm
  rw [List.filter_eq_self]
  intro p hp
  obtain ⟨y, hy, rfl⟩ := List.mem_map.1 hp
  have := List.find?_eq_none.1 h y hy
  simp only [beq_iff_eq] at this
  simp [Lit.sameKey, this]
theorem DiskAt.born {w2 w3 w4 : World} {p m : Nat} {s : St} {B : Nat → Prop} {L : List Pl} {n : List UInt8} (h : DiskAt w2 p s B m L) (hf : L.find? (fun y => y.f.name == n) = none)
    (h3 : w3 = w2.alloc (.cells #[.slice none 0 0, .int .i64 0] 73)) (ho : Own m (L.length + 1) ((ents L).put (.string n) (.lit (.int .i64 (w2.heap.size : Int)))) w4) (g : Only (fun i => i = m) w3 w4) :
    DiskAt w4 p { s with fs := insF ⟨n, [], 0⟩ s.fs } (fun b => B b ∨ (w2.heap.size ≤ b ∧ b < w4.heap.size)) m (insL ⟨⟨n, [], 0⟩, w2.heap.size, .slice none 0 0⟩ L) := by
  have hs3 : w3.heap.size = w2.heap.size + 1 := by rw [h3]; simp
  have hs4 := g.size
  have h03 : Only (fun i => i = m) w2 w3 := by rw [h3]; exact Only.alloc _ _ _
  have g4 := h03.trans g
  have hperm := insL_perm ⟨⟨n, [], 0⟩, w2.heap.size, .slice none 0 0⟩ L
  have hbp : (blocks (insL ⟨⟨n, [], 0⟩, w2.heap.size, .slice none 0 0⟩ L)).Perm (w2.heap.size :: blocks L) := by
    refine (hperm.flatMap_right _).trans ?_
    simp [blocks, plBlocks, Value.ownBlock]
  have hlow : ∀ i, i ∈ p :: m :: blocks L → i < w2.heap.size := fun i hi => h.low i (h.mine i hi)
  have hap := h.apart
  have hpm : p ≠ m := fun e => by
    simp only [List.nodup_cons, List.mem_cons, not_or] at hap; exact hap.1.1 e
  have hmlow := hlow m (by simp)
  refine ⟨?_, ?_, ?_, ?_, ?_, ?_, ?_⟩
  · rw [g4.block p (lt_of_block h.heap) hpm]; exact h.heap
  · rw [ents_put (x := ⟨⟨n, [], 0⟩, w2.heap.size, .slice none 0 0⟩) hf, hperm.length_eq]; exact ho
  · rw [insL_map]; show insF _ _ = insF _ _; rw [h.fs]
  · intro y hy
    rcases List.mem_cons.1 (hperm.mem_iff.1 hy) with rfl | hy
    · refine ⟨?_, World.ownsRow_nil _ _ _ _⟩
      show w4.heap[w2.heap.size]? = _
      rw [g.block _ (by omega) (by show ¬ w2.heap.size = m; omega), h3]
      exact heap_alloc_new w2 _
    · exact (h.file y hy).only g4 fun b hb e => by
        have e2 : b = m := e
        subst e2
        simp only [List.nodup_cons] at hap
        exact hap.2.1 (mem_blocks hy hb)
  · refine (((hbp.cons m).cons p).symm).nodup ?_
    refine List.Perm.nodup (l := w2.heap.size :: p :: m :: blocks L) ?_ (List.nodup_cons.2 ⟨fun hi => by have := hlow _ hi; omega, hap⟩)
    exact (List.Perm.swap _ _ _).trans ((List.Perm.swap _ _ _).cons p)
  · intro b hb
    have hb2 : b ∈ w2.heap.size :: p :: m :: blocks L := by
      simp only [List.mem_cons] at hb ⊢
      rcases hb with e | e | e
      · exact .inr (.inl e)
      · exact .inr (.inr (.inl e))
      · rcases List.mem_cons.1 (hbp.mem_iff.1 e) with e | e
        · exact .inl e
        · exact .inr (.inr (.inr e))
    rcases List.mem_cons.1 hb2 with e | e
    · exact .inr ⟨by omega, by omega⟩
    · exact .inl (h.mine b e)
  · intro b hb
    rcases hb with e | e
    · exact Nat.lt_of_lt_of_le (h.low b e) g4.size
    · exact e.2
set_option maxRecDepth 20000 in
set_option maxHeartbeats 1000000 in
theorem create_c (p : Nat) (s : St) (B : Nat → Prop) (n : ByteArray) (w : World) (h : Disk w p s B) (hn : n.size ≤ maxLen) (hm : rightB n.data.toList = true) (h1 : s.calls ≤ 1000000000000) :
    Calls Tryz.prog 10 #[.pointer (some ⟨p, 0, none⟩), .string n] w (Tells w p (createR s n.data.toList).1 B (.int .i64 (createR s n.data.toList).2)) := by
  obtain ⟨hs, m, L, hD⟩ := h
  have C1 := right_c n hn w
  rw [hm] at C1
  have hn24 : n.data.toList.length ≤ 24 := by
    unfold rightB at hm; simp only [Bool.and_eq_true, decide_eq_true_eq] at hm; exact hm.2.2
  have hnz : n.size ≤ 24 := hn24
  have C2 := call_yes p m s w hD.heap hs.c0 h1 hs.a0 hs.a1
  obtain ⟨c, hc⟩ : ∃ c, c = s.call.code := ⟨_, rfl⟩
  rw [← hc] at C2
  have HC := Lib.hid hc
  have HS := Lib.hid hs
  have HD := Lib.hid hD
  have HN24 := Lib.hid hn24
  clear hD hm hs hc hn24
  go_enter Tryz.func10, Tryz.ntmps10
  go_wp2_with fail
  refine C1.mono ?_; rintro e w2 ⟨rfl, rfl⟩
  go_wp2_with fail
  refine C2.mono ?_; rintro e w2 ⟨rfl, k⟩
  have D2 := HD.out.called k
  have HNX := Lib.hid (next_called HS.out D2 k.2)
  have HK := Lib.hid k
  have HD2 := Lib.hid D2
  clear k D2
  cases hd : s.call.down
  · obtain rfl : c = 0 := by rw [HC.out]; simp [St.code, hd]
    have c1 : w2.cell? ⟨p, 1, none⟩ = some (.map (some m)) := by rw [cells_at HD2.out.heap]; rfl
    rcases HD2.out.look n hn with ⟨hg, hf, hl⟩ | ⟨x, hg, hf, hl⟩
    · have hlk := hl w2 HD2.out.own
      have how := HD2.out.own
      have hLl : L.length = s.fs.length := by rw [← HD.out.fs]; simp
      by_cases h200 : 200 ≤ L.length
      · have HR : Hid (createR s n.data.toList = (s.call, 4)) := Lib.hid (by have hg' : s.get n.data.toList = none := hg; simp [createR, hd, hg', ← hLl, h200])
        have t1 : decide (200 ≤ (L.length : Int)) = true := by rw [decide_eq_true_iff]; omega
        clear hd hg hf hl hLl h200
        go_wp2_with (first | (at_len; refine wpList_len_own _ rfl _ 64 rfl 9 69 Tryz.underlying64 _ m L.length (ents L) rfl how ?_; rw [ents_size]) | fail)
        go_ret
        exact ⟨by rw [HR.out] <;> rfl, by rw [HR.out]; exact HNX.out⟩
      · have HR : Hid (createR s n.data.toList = ({ s.call with fs := insF ⟨n.data.toList, [], 0⟩ s.fs }, 0)) := Lib.hid (by have hg' : s.get n.data.toList = none := hg; simp [createR, hd, hg', ← hLl, h200])
        obtain ⟨w3, hw3⟩ : ∃ w3, w3 = w2.alloc (.cells #[.slice none 0 0, .int .i64 0] 73) := ⟨_, rfl⟩
        have hok := ok_create (ok_call HS.out) (n := n.data.toList) hg HN24.out (show s.fs.length < 200 by omega)
        have hh3 : w3.heap[p]? = some (.cells (dcells s.call m) 66 (0, 0)) := by rw [hw3]; rw [Below.heap_alloc _ _ _ (lt_of_block HD2.out.heap)]; exact HD2.out.heap
        have ho3 : Own m L.length (ents L) w3 := by rw [hw3]; exact own_only HD2.out.own (Only.alloc (fun _ => False) _ _) (fun e => e)
        have hpm : p ≠ m := fun e => by
          have hap := HD2.out.apart
          simp only [List.nodup_cons, List.mem_cons, not_or] at hap; exact hap.1.1 e
        have CP := place_c p m w2.heap.size L.length s.call (ents L) n w3 hh3 hpm ho3 (by omega) (by omega)
        have HW3 := Lib.hid hw3
        have HOK := Lib.hid hok
        have HF := Lib.hid hf
        rw [hw3] at CP
        have t1 : decide (200 ≤ (L.length : Int)) = false := by rw [decide_eq_false_iff_not]; omega
        clear hd hg hf hl hLl hw3 hok hh3 ho3 h200 hnz
        go_wp2_with (first | (at_len; refine wpList_len_own _ rfl _ 64 rfl 9 69 Tryz.underlying64 _ m L.length (ents L) rfl how ?_; rw [ents_size]) | fail)
        refine CP.mono ?_; rintro e w4 ⟨rfl, ho, g⟩
        rw [← HW3.out] at g
        have HO4 := Lib.hid ho
        have HG := Lib.hid g
        clear ho g
        go_wp2_with fail
        go_ret
        refine ⟨by rw [HR.out] <;> rfl, ?_⟩
        rw [HR.out]
        have hB := HD2.out.born HF.out HW3.out HO4.out HG.out
        refine ⟨_, ⟨HOK.out, _, _, hB⟩, ?_, ?_⟩
        · have h23 : Only B w2 w3 := by rw [HW3.out]; exact Only.alloc _ _ _
          exact ((HK.out.2.mono fun i e => by subst e; exact HD.out.mine _ (by simp)).trans h23).trans (HG.out.mono fun i e => by subst e; exact HD.out.mine _ (by simp))
        · intro b hb
          rcases hb with hb | hb
          · exact .inl hb
          · exact .inr (Nat.le_trans HK.out.2.size hb.1)
    · have hlk := hl w2 HD2.out.own
      have HR : Hid (createR s n.data.toList = (s.call, 3)) := Lib.hid (by have hg' : s.get n.data.toList = some x.f := hg; simp [createR, hd, hg'])
      clear hd hg hf hl
      go_wp2_with fail
      go_ret
      exact ⟨by rw [HR.out] <;> rfl, by rw [HR.out]; exact HNX.out⟩
  · obtain rfl : c = 5 := by rw [HC.out]; simp [St.code, hd]
    have HR : Hid (createR s n.data.toList = (s.call, 5)) := Lib.hid (by simp [createR, hd])
    clear hd
    go_wp2_with fail
    go_ret
    exact ⟨by rw [HR.out] <;> rfl, by rw [HR.out]; exact HNX.out⟩
end Go.Proofs.YtjplkmmhjfpdaaaGreatDoor
/- The contracts of New, Arm and Calls. -/
namespace Go.Proofs.YtjplkmmhjfpdaaaGreatDoor
open Go.RowKit FsPlain Go.Maps
set_option linter.unusedVariables false
set_option linter.unusedSimpArgs false
set_option maxRecDepth 20000
def fresh (room : Int) : St := ⟨room, 0, -1, false, []⟩
theorem fresh_ok {room : Int} (h0 : 0 ≤ room) (h1 : room ≤ 16777216) : (fresh room).ok :=
  ⟨h0, h1, Int.le_refl 0, Int.le_refl (-1), by show (-1 : Int) ≤ _; omega, by show ((0 : Nat) : Int) ≤ room; omega, (fun f hf => by cases hf), (fun f hf => by cases hf), by show 0 ≤ 200; omega, List.Pairwise.nil⟩
def Born (room : Int) (w : World) (e : Ending) (w' : World) : Prop :=
  ∃ p B, e = .returned (.tuple #[.pointer (some ⟨p, 0, none⟩), .int .i64 0]) ∧ Disk w' p (fresh room) B ∧ Gr w w' ∧ ∀ b, B b → w.heap.size ≤ b
set_option maxRecDepth 20000 in
set_option maxHeartbeats 1000000 in
theorem new_c (room : Int) (h0 : 0 ≤ room) (h1 : room ≤ 16777216) (w : World) : Calls Tryz.prog 9 #[.int .i64 room] w (Born room w) := by
  have hmm := @run_makeMap Tryz.prog
  go_enter Tryz.func9, Tryz.ntmps9
  go_wp2_with fail
  go_ret2
  obtain ⟨w1, hw1⟩ : ∃ w1, w1 = w.alloc (.map #[] 0) := ⟨_, rfl⟩
  obtain ⟨w2, hw2⟩ : ∃ w2, w2 = w1.alloc (.cells (dcells (fresh room) w.heap.size) 66) := ⟨_, rfl⟩
  have s1 : w1.heap.size = w.heap.size + 1 := by rw [hw1]; simp
  have s2 : w2.heap.size = w.heap.size + 2 := by rw [hw2]; simp [s1]
  have hown : w1.ownsMap Tryz.prog 9 ptrElem w.heap.size 0 (ents []) := by rw [hw1]; exact World.ownsMap_made _ _ _ _
  have hD : DiskAt w2 (w.heap.size + 1) (fresh room) (fun b => b = w.heap.size ∨ b = w.heap.size + 1) w.heap.size [] := by
    refine ⟨?_, ?_, rfl, (fun x hx => by cases hx), by simp [blocks], ?_, ?_⟩
    · rw [hw2, ← s1]; exact heap_alloc_new w1 _
    · rw [hw2]; exact own_only hown (Only.alloc (fun _ => False) _ _) (fun e => e)
    · intro b hb; simp [blocks] at hb; rcases hb with e | e
      · exact .inr e
      · exact .inl e
    · intro b hb; rcases hb with e | e <;> omega
  refine ⟨w.heap.size + 1, (fun b => b = w.heap.size ∨ b = w.heap.size + 1), rfl, ⟨fresh_ok h0 h1, w.heap.size, [], ?_⟩, ?_, fun b hb => by rcases hb with e | e <;> omega⟩
  · have : w2 = _ := hw2
    rw [hw1] at this
    rw [this] at hD
    exact hD
  · exact (((Below.refl _ _).alloc (Nat.le_refl _) _).alloc (by simp) _)
def armed (s : St) (n : Int) : St := { s with ahead := max n (-1) }
set_option maxRecDepth 20000 in
set_option maxHeartbeats 1000000 in
theorem arm_c (p : Nat) (s : St) (B : Nat → Prop) (n : Int) (w : World) (h : Disk w p s B) (h0 : -9223372036854775808 ≤ n) (h1 : n ≤ 9223372036854775807) :
    Calls Tryz.prog 22 #[.pointer (some ⟨p, 0, none⟩), .int .i64 n] w (Tells w p (armed s n) B (.tuple #[])) := by
  obtain ⟨hs, m, L, hD⟩ := h
  have C0 := made_c p m s w hD.heap
  have c3 : w.cell? ⟨p, 3, none⟩ = some (.int .i64 s.ahead) := by rw [cells_at hD.heap]; rfl
  have f3 := cells_free hD.heap 3
  have key : ∀ a, a = max n (-1) → Next w p (armed s n) B (w.setCell ⟨p, 3, none⟩ (.int .i64 a)) := by
    intro a ha
    subst ha
    have o := Only.cell1 w p 3 (.int .i64 (max n (-1)))
    have hD2 := hD.own_block o (s' := armed s n) (by rw [cells_set hD.heap 3 _]; rfl) rfl
    have ho2 : (armed s n).ok := ⟨hs.r0, hs.r1, hs.c0, by show -1 ≤ max n (-1); omega, by show max n (-1) ≤ _; omega, hs.u, hs.k, hs.n, hs.m, hs.d⟩
    exact ⟨B, ⟨ho2, m, L, hD2⟩, o.mono fun i e => by subst e; exact hD.mine _ (by simp), fun i hi => .inl hi⟩
  have HK := Lib.hid key
  clear key hs hD
  go_enter Tryz.func22, Tryz.ntmps22
  go_wp2_with fail
  refine C0.mono ?_; rintro e w2 ⟨rfl, rfl⟩
  go_wp2_with fail
  all_goals
    go_end0
    exact ⟨rfl, HK.out _ (by omega)⟩
end Go.Proofs.YtjplkmmhjfpdaaaGreatDoor
/- Plain facts: a disk with one file that was written; what holds of a reader at each round of the laws. -/
namespace Go.Proofs.YtjplkmmhjfpdaaaGreatDoor
open Go.RowKit FsPlain CrcPlain OctPlain FramePlain RecPlain
set_option linter.unusedVariables false
set_option linter.unusedSimpArgs false
set_option maxRecDepth 20000
namespace RdPlain
def stC (r : Int) : St := ⟨r, 1, -1, false, [⟨[97], [], 0⟩]⟩
def stA (r : Int) (S : ByteArray) : St := ⟨r, 2, -1, false, [⟨[97], S.data.toList, 0⟩]⟩
theorem st_create (r : Int) : createR (fresh r) nmA.data.toList = (stC r, 0) := rfl
theorem st_append (r : Int) (S : ByteArray) (h : (S.size : Int) ≤ r) : appendR (stC r) nmA.data.toList S.data.toList = (stA r S, 0) := by
  unfold appendR
  rw [if_neg (show ¬ (stC r).call.down = true by simp [stC, St.call])]
  have hg : (stC r).get nmA.data.toList = some ⟨[97], [], 0⟩ := rfl
  rw [hg]
  have hu : used (stC r).fs = 0 := rfl
  simp only [hu]
  rw [if_neg (by show ¬ r < ((0 : Nat) : Int) + (S.data.toList.length : Nat); rw [data_length]; omega)]
  rfl
theorem st_stands (r : Int) (S : ByteArray) : Stands (stA r S) nmA.data.toList S := ⟨⟨⟨[97], S.data.toList, 0⟩, rfl, rfl⟩, rfl, rfl⟩
def Bud4 (m : N3) : Prop := (m.x.opn = true → m.b.now = 4) ∧ (m.x.opn = false → m.b.now = 0)
theorem give4 {b : Bu} (h : b.now = 4) : (b.give 4).now = 0 := by unfold Bu.give; rw [if_neg (by decide)]; simp only [h]; decide
theorem bud_shut {m : N3} (h : Bud4 m) : Bud4 (shutN m) := by
  unfold shutN
  split
  · rename_i ho; exact ⟨(fun e => by cases e), fun _ => give4 (h.1 ho)⟩
  · exact h
theorem bud_wrong {m : N3} (h : Bud4 m) : Bud4 (wrongN m) := bud_shut (m := m.isBad) h
theorem bud_next {m : N3} (h : Bud4 m) : Bud4 (nextN m).1 := by
  unfold nextN
  split
  · exact h
  · split
    · unfold fillN
      split
      · exact bud_wrong (m := m.asked) h
      · split
        · exact bud_shut (m := m.asked.ended (bytesN m)) h
        · split
          · exact bud_wrong (m := m.asked) h
          · exact h
    · exact h
def leftN (m : N3) : Nat := m.x.told + m.x.queue.length + m.x.left
theorem left_shut (m : N3) : leftN (shutN m) = leftN m := by unfold shutN; split <;> rfl
theorem left_pop {m : N3} (h : m.x.queue ≠ []) : leftN m.popped = leftN m := by
  obtain ⟨r, q, hr⟩ := List.exists_cons_of_ne_nil h
  show m.x.told + 1 + m.x.queue.tail.length + m.x.left = m.x.told + m.x.queue.length + m.x.left
  rw [hr]; simp; omega
theorem left_next {m : N3} (h : m.ok) : leftN (nextN m).1 ≤ leftN m := by
  unfold nextN
  split
  · exact Nat.le_refl _
  · split
    · rename_i hq
      unfold fillN
      split
      · exact Nat.le_of_eq (left_shut m.asked.isBad)
      · rename_i h0
        split
        · exact Nat.le_of_eq (left_shut (m.asked.ended (bytesN m)))
        · split
          · exact Nat.le_of_eq (left_shut m.asked.isBad)
          · rename_i h2
            have hb : gB m.x.size (bytesN m) = true := by
              cases hb : gB m.x.size (bytesN m)
              · exact absurd (.inl hb) h2
              · rfl
            have hs := bytesN_size (m := m) (by simpa using h0)
            have hl := ask_left m.x
            obtain ⟨k1, k2⟩ := ok_filled (m := m.asked) (ok_asked h) hb (by rw [hs]; exact ask_left _) hq
            obtain ⟨_, z2, _⟩ := gL_size hb
            obtain ⟨_, n, hn, hn2, hn3, _⟩ := get_is hb
            show leftN (m.asked.filled (bytesN m)).popped ≤ _
            rw [left_pop k2]
            show m.x.told + (gL m.x.size (bytesN m)).length + (m.x.left - (gN m.x.size (bytesN m)).toNat) ≤ m.x.told + m.x.queue.length + m.x.left
            rw [hn, hq]
            simp only [Int.toNat_natCast, List.length_nil]
            omega
    · rename_i hq
      exact Nat.le_of_eq (left_pop hq)
theorem next_some {m : N3} (h : (nextN m).2.2.1 = true) : m.x.opn = true ∧ (nextN m).1.x.opn = true ∧ (nextN m).1.x.told = m.x.told + 1 ∧ (nextN m).2.2.2 = 0 := by
  revert h
  unfold nextN
  split
  · intro h; cases h
  · rename_i ho
    have ho : m.x.opn = true := by simpa using ho
    split
    · unfold fillN
      split
      · intro h; cases h
      · split
        · intro h; cases h
        · split
          · intro h; cases h
          · exact fun _ => ⟨ho, ho, rfl, rfl⟩
    · exact fun _ => ⟨ho, ho, rfl, rfl⟩
structure PlayN (m : N3) (i : Nat) : Prop where
  ok : m.ok
  inv : m.inv
  told : m.x.told = i
  calls : m.s.calls ≤ 10 + (i : Int)
  bud : Bud4 m
  left : leftN m ≤ 689
theorem PlayN.next {m : N3} {i : Nat} (h : PlayN m i) (hp : (nextN m).2.2.1 = true) : PlayN (nextN m).1 (i + 1) := by
  obtain ⟨_, _, h3, _⟩ := next_some hp
  have h4 := nextN_calls m
  have h5 := h.calls
  refine ⟨ok_nextN h.ok, inv_nextN h.inv h.ok, by rw [h3, h.told], by rw [Int.natCast_add]; simp only [Int.natCast_one]; omega, bud_next h.bud, Nat.le_trans (left_next h.ok) h.left⟩
end RdPlain
end Go.Proofs.YtjplkmmhjfpdaaaGreatDoor
/- A budget as a part of a world: the program's, and the document's. -/
namespace Go.Proofs.YtjplkmmhjfpdaaaGreatDoor
open Go.RowKit
set_option linter.unusedVariables false
set_option linter.unusedSimpArgs false
set_option maxRecDepth 20000
def BuA (p : Nat) (b : Bu) : Asn := fun w B => b.ok ∧ Blk p (bcells b) 77 w B
theorem fr_bu (p : Nat) (b : Bu) : Fr (BuA p b) := ⟨fun h o d => ⟨h.1, (fr_blk _ _ _).fr h.2 o d⟩, fun h => (fr_blk _ _ _).lo h.2⟩
theorem BuA.at {p : Nat} {b : Bu} {w : World} {B : Nat → Prop} (h : BuA p b w B) : BAt w p b := ⟨h.1, h.2.1⟩
theorem bu_next {p : Nat} {b b' : Bu} {w w' : World} {B : Nat → Prop} (h : BuA p b w B) (k : BAt w' p b') (g : Only (fun i => i = p) w w') : ∃ B', BuA p b' w' B' ∧ Nx B w B' w' :=
  ⟨B, ⟨k.1, k.2, h.2.2⟩, Nx.of g fun b hb => (h.2.2 b).2 hb⟩
theorem bu_take (p : Nat) (b : Bu) (n : Int) (w : World) (B : Nat → Prop) (h : BuA p b w B) :
    Calls Tryz.prog 91 #[.pointer (some ⟨p, 0, none⟩), .int .i64 n] w (Does w B (BuA p (b.take n)) (.int .i64 (b.takeE n))) :=
  (btake_c p b n w h.at).mono fun e w' ⟨he, k, g⟩ => ⟨he, bu_next h k g⟩
theorem bu_give (p : Nat) (b : Bu) (n : Int) (w : World) (B : Nat → Prop) (h : BuA p b w B) :
    Calls Tryz.prog 92 #[.pointer (some ⟨p, 0, none⟩), .int .i64 n] w (Does w B (BuA p (b.give n)) (.tuple #[])) :=
  (bgive_c p b n w h.at).mono fun e w' ⟨he, k, g⟩ => ⟨he, bu_next h k g⟩
theorem bu_new (m : Int) (w : World) (h : 0 ≤ m) (h2 : m ≤ 9223372036854775807) :
    Calls Tryz.prog 12 #[.int .i64 m] w fun e w' => e = .returned (.pointer (some ⟨w.heap.size, 0, none⟩)) ∧ BuA w.heap.size ⟨m, 0, 0⟩ w' (fun x => x = w.heap.size) ∧ Gr w w' :=
  (bnew_c m w h h2).mono fun e w' ⟨he, k, g⟩ => ⟨he, ⟨k.1, k.2, fun _ => Iff.rfl⟩, g⟩
end Go.Proofs.YtjplkmmhjfpdaaaGreatDoor

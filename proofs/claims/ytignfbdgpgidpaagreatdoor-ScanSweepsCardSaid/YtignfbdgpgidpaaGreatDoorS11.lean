/- In one text: RfsUsed, RfsRight, RfsCreate. -/
import Derived.Test.YtignfbdgpgidpaaGreatDoorS10
import Derived.Test.YtignfbdgpgidpaaGreatDoorS00
/- The document's disk: is there a file, what is used. -/
namespace Go.Proofs.YtignfbdgpgidpaaGreatDoor
open Go.RowKit FsPlain
set_option linter.unusedVariables false
set_option linter.unusedSimpArgs false
set_option maxRecDepth 20000
theorem place_of_none {s : St} {n : List UInt8} (h : s.get n = none) : placeF n s.fs = -1 :=
  place_none fun y hy hn => by
    have := List.find?_eq_none.1 h y hy
    simp [hn] at this
theorem place_of_some {s : St} {n : List UInt8} {f : F} (h : s.get n = some f) : ∃ k, placeF n s.fs = (k : Nat) ∧ s.fs[k]? = some f ∧ f.name = n := by
  obtain ⟨A, C, he, hp, hA⟩ := find_split h
  have hn : f.name = n := by simpa using hp
  refine ⟨A.length, ?_, by rw [he]; simp, hn⟩
  exact place_some (y := f) (by rw [he]; simp; intro y hy; simpa using hA y hy) (by rw [he]; simp) hn
theorem rhas_c (d : Nat) (s : St) (nm : List UInt8) (v : Value) (w : World) (hm : s.fs.length ≤ 300) (h : RAt w d s v) :
    Calls Tryz.prog 62 #[.pointer (some ⟨d, 0, none⟩), .string (bs nm)] w fun e w' => e = .returned (.bool (s.get nm).isSome) ∧ Gr w w' := by
  have C0 := rat_c d s nm v w hm h
  clear h
  cases hg : s.get nm with
  | none =>
    have hp := place_of_none hg
    rw [hp] at C0
    go_enter Tryz.func62, Tryz.ntmps62
    go_wp2_with fail
    refine (C0).mono ?_; rintro e w2 ⟨rfl, g⟩
    have HG := Lib.hid g
    clear g
    go_wp2_with fail
    go_ret
    exact ⟨rfl, HG.out⟩
  | some f =>
    obtain ⟨k, hp, _⟩ := place_of_some hg
    rw [hp] at C0
    go_enter Tryz.func62, Tryz.ntmps62
    go_wp2_with fail
    refine (C0).mono ?_; rintro e w2 ⟨rfl, g⟩
    have HG := Lib.hid g
    clear g
    go_wp2_with fail
    go_ret
    refine ⟨?_, HG.out⟩
    simp
theorem used_take {l : List F} {k : Nat} {y : F} (h : l[k]? = some y) : used (l.take (k + 1)) = used (l.take k) + y.data.length := by
  rw [List.take_add_one, h]; simp [used]
theorem used_take_le (l : List F) (k : Nat) : used (l.take k) ≤ used l := by
  have : used l = used (l.take k) + used (l.drop k) := by
    unfold used
    rw [← List.sum_append, ← List.map_append, List.take_append_drop]
  omega
def UsAt (l : List F) (w : World) (u i : Value) (wr : World) : Prop := ∃ k : Nat, k ≤ l.length ∧ i = .int .i64 k ∧ u = .int .i64 (used (l.take k) : Int) ∧ Gr w wr
set_option maxRecDepth 20000 in
set_option maxHeartbeats 4000000 in
theorem rused_some (d : Nat) (s : St) (b off c : Nat) (w : World) (hm : s.fs.length ≤ 300) (hu : used s.fs ≤ 16777216) (hd : w.heap[d]? = some (.cells (rcells s (.slice (some ⟨b, off, none⟩) s.fs.length c)) 87 (0, 0))) (hc : s.fs.length ≤ c) (hr : FCells w b off s.fs) :
    Calls Tryz.prog 14 #[.pointer (some ⟨d, 0, none⟩)] w fun e w' => e = .returned (.int .i64 (used s.fs : Int)) ∧ Gr w w' := by
  have hst : UsAt s.fs w (.int .i64 0) (.int .i64 0) w := ⟨0, Nat.zero_le _, rfl, by simp [used], Gr.refl _⟩
  obtain ⟨l, hl⟩ : ∃ l, s.fs = l := ⟨_, rfl⟩
  rw [hl] at hd hc hr hst ⊢ hm hu
  obtain ⟨n, hn⟩ : ∃ n, l.length = n := ⟨_, rfl⟩
  have HN := Lib.hid hn
  have HR := Lib.hid hr
  have HD := Lib.hid hd
  have HST := Lib.hid hst
  rw [hn] at hc hm
  clear hn hr hst hd hl
  go_enter Tryz.func14, Tryz.ntmps14
  go_wp2_with fail
  go_loopw [3, 4] (fun u i wr => UsAt l w u i wr) (fun _ i _ => n - (intOf i).toNat)
  case atStart => exact HST.out
  case round =>
    obtain ⟨k, hk, rfl, rfl, hg⟩ := hrel
    have hln := HN.out
    have c1 : wr.cell? ⟨d, 1, none⟩ = some (.slice (some ⟨b, off, none⟩) n c) := by rw [cells_at (by rw [hg.block d (blk_lt2 HD.out)]; exact HD.out)]; rw [← hln]; rfl
    have HG := Lib.hid hg
    by_cases hlt : k < n
    · obtain ⟨y, hy⟩ : ∃ y, l[k]? = some y := ⟨_, List.getElem?_eq_getElem (by omega)⟩
      obtain ⟨q0, q1, q2⟩ := fall3_at l k y hy
      have hrw := HR.out.gr hg
      rw [Nat.mul_comm 3 k] at q1
      have y1 := hrw.2 _ _ q1
      rw [← Nat.add_assoc] at y1
      have ht := used_take hy
      have hle := used_take_le l (k + 1)
      have HT := Lib.hid ht
      have hsz : (bs y.data).size = y.data.length := rfl
      obtain ⟨m, hmu⟩ : ∃ m, used (l.take k) = m := ⟨_, rfl⟩
      rw [hmu] at ht ⊢
      rw [ht] at hle
      clear hy q0 q1 q2 hrw hg ht
      go_wp2_with fail
      refine ⟨⟨k + 1, by omega, by simp, ?_, HG.out⟩, ?_⟩
      · rw [HT.out, hmu, Int.natCast_add]
      · simp [intOf]; omega
    · have he := Lib.hid (show l.take k = l from List.take_of_length_le (by omega))
      clear hg
      go_wp2_with fail
      go_ret
      exact ⟨ret_i (by rw [he.out]), HG.out⟩
theorem rused_nil (d : Nat) (s : St) (w : World) (hd : w.heap[d]? = some (.cells (rcells s (.slice none 0 0)) 87 (0, 0))) :
    Calls Tryz.prog 14 #[.pointer (some ⟨d, 0, none⟩)] w fun e w' => e = .returned (.int .i64 0) ∧ Gr w w' := by
  have c1 : w.cell? ⟨d, 1, none⟩ = some (.slice none 0 0) := by rw [cells_at hd]; rfl
  clear hd
  go_enter Tryz.func14, Tryz.ntmps14
  go_wp2_with fail
  go_loopw [3, 4] (fun u i wr => u = .int .i64 0 ∧ i = .int .i64 0 ∧ wr = w) (fun _ i _ => 0)
  case atStart => exact ⟨rfl, rfl, rfl⟩
  case round =>
    obtain ⟨rfl, rfl, rfl⟩ := hrel
    go_wp2_with fail
    go_ret
    exact ⟨rfl, Gr.refl _⟩
theorem rused_c (d : Nat) (s : St) (v : Value) (w : World) (hs : s.ok) (h : RAt w d s v) :
    Calls Tryz.prog 14 #[.pointer (some ⟨d, 0, none⟩)] w fun e w' => e = .returned (.int .i64 (used s.fs : Int)) ∧ Gr w w' := by
  have hm := hs.m
  have hu := hs.u
  have hr := hs.r1
  obtain ⟨hd, ⟨h1, rfl⟩ | ⟨b, off, c, rfl, hc, hr⟩⟩ := h
  · rw [h1]; exact rused_nil d s w hd
  · exact rused_some d s b off c w (by omega) (by omega) hd hc hr
end Go.Proofs.YtignfbdgpgidpaaGreatDoor
/- The document's disk: is it a name? By a walk of its loop. -/
namespace Go.Proofs.YtignfbdgpgidpaaGreatDoor
open Go.RowKit FsPlain
set_option linter.unusedVariables false
set_option linter.unusedSimpArgs false
set_option maxRecDepth 20000
set_option maxRecDepth 20000 in
set_option maxHeartbeats 4000000 in
theorem rright_c (s : ByteArray) (hs : s.size ≤ maxLen) (w : World) :
    Calls Tryz.prog 61 #[.string s] w fun e w' => e = .returned (.bool (rightB s.data.toList)) ∧ w = w' := by
  have hsz : s.data.toList.length = s.size := rfl
  unfold maxLen at hs
  obtain ⟨r, hr⟩ : ∃ r, r = rightB s.data.toList := ⟨_, rfl⟩
  rw [← hr]
  have HR := Lib.hid hr
  have HSZ := Lib.hid hsz
  clear hr hsz
  go_enter Tryz.func61, Tryz.ntmps61
  go_wp2_with fail
  go_loop [3] (fun i => ∃ k : Nat, k ≤ s.size ∧ i = .int .i64 k ∧ (s.data.toList.take k).all letterB = true) (fun i => s.size - (intOf i).toNat)
  case atStart => exact ⟨0, Nat.zero_le _, rfl, rfl⟩
  case round =>
    obtain ⟨k, hk, rfl, hall⟩ := hrel
    have HALL := Lib.hid hall
    clear hall
    by_cases hlt : k < s.size
    · have hlt' : k < s.data.toList.length := by rw [HSZ.out]; exact hlt
      have hstep := all_take _ k hlt'
      have hno := all_no _ k hlt'
      have hsame : s.data.toList[k] = s[k] := by simp; rfl
      rw [hsame] at hstep hno
      rw [HALL.out] at hstep
      have hb : s[k].toNat < 256 := s[k].toNat_lt
      cases hl : letterB s[k]
      · have hrf := right_no _ (hno hl)
        rw [← HR.out] at hrf
        unfold letterB at hl
        rw [decide_eq_false_iff_not] at hl
        have HL := Lib.hid hl
        clear hl hstep hno hsame
        subst hrf
        by_cases h5 : (s[k].toNat : Int) = 46
        · exfalso; exact HL.out (.inr (.inr h5))
        · have t5 : ((s[k].toNat : Int) != 46) = true := by simp [h5]
          go_wp2_with fail
          all_goals first
            | (exfalso; have := HL.out; omega)
            | (go_ret; exact ⟨rfl, rfl⟩)
      · have HST := Lib.hid (show (s.data.toList.take (k + 1)).all letterB = true by rw [hstep, hl]; rfl)
        unfold letterB at hl
        rw [decide_eq_true_eq] at hl
        have HL := Lib.hid hl
        clear hl hstep hno hsame
        by_cases h5 : (s[k].toNat : Int) = 46
        · have t5 : ((s[k].toNat : Int) != 46) = false := by simp [h5]
          go_wp2_with fail
          all_goals exact ⟨⟨k + 1, by omega, by go_num, HST.out⟩, by simp [intOf]; omega⟩
        · have t5 : ((s[k].toNat : Int) != 46) = true := by simp [h5]
          go_wp2_with fail
          all_goals first
            | exact ⟨⟨k + 1, by omega, by go_num, HST.out⟩, by simp [intOf]; omega⟩
            | (exfalso; have := HL.out; omega)
    · have hke : k = s.size := by omega
      have hr2 := right_len s.data.toList (by have := HALL.out; rw [hke, ← HSZ.out, List.take_length] at this; exact this)
      rw [← HR.out, HSZ.out] at hr2
      have HR2 := Lib.hid hr2
      clear hr2 hke
      by_cases h1 : 1 ≤ s.size <;> by_cases h2 : s.size ≤ 24
      all_goals
        go_wp2_with fail
        all_goals
          go_ret
          exact ⟨ret_fb (by rw [HR2.out]; first | (rw [decide_eq_decide]; omega) | (rw [eq_comm, decide_eq_false_iff_not]; omega) | (rw [eq_comm, decide_eq_true_iff]; omega)), rfl⟩
end Go.Proofs.YtignfbdgpgidpaaGreatDoor
/- The document's disk: Create. -/
namespace Go.Proofs.YtignfbdgpgidpaaGreatDoor
open Go.RowKit FsPlain
set_option linter.unusedVariables false
set_option linter.unusedSimpArgs false
set_option maxRecDepth 20000
theorem rbs_list (l : List UInt8) : (bs l).data.toList = l := rfl
theorem RAt.called {d : Nat} {s : St} {v : Value} {w w' : World} (h : RAt w d s v) (c : RCalled d s v w w') : RAt w' d s.call v :=
  RAt.put (s' := s.call) h (h.2.only h.1 (by obtain ⟨a, c, e⟩ := h.2.slice; exact ⟨a, _, c, e⟩) c.2 |> fun _ => h.2) c.2 c.1
def RDone (d : Nat) (B : Nat → Prop) (w : World) (s : St) (x : Int) (e : Ending) (w' : World) : Prop := Does w B (RDiskA d s) (.int .i64 x) e w'
theorem rcreate_bad (d : Nat) (nm : List UInt8) (w : World) (hn : rightB nm = false) (hl : nm.length ≤ 1000000) :
    Calls Tryz.prog 31 #[.pointer (some ⟨d, 0, none⟩), .string (bs nm)] w fun e w' => e = .returned (.int .i64 1) ∧ w = w' := by
  have C1 := rright_c (bs nm) (by rw [bs_size]; unfold maxLen; omega) w
  rw [rbs_list, hn] at C1
  have C2 := rcall_no d w
  go_enter Tryz.func31, Tryz.ntmps31
  go_wp2_with fail
  refine (C1).mono ?_; rintro e w2 ⟨rfl, rfl⟩
  go_wp2_with fail
  refine (C2).mono ?_; rintro e w2 ⟨rfl, rfl⟩
  go_wp2_with fail
  go_ret
  exact ⟨rfl, rfl⟩
set_option maxRecDepth 20000 in
set_option maxHeartbeats 4000000 in
theorem rcreate_c (d : Nat) (s : St) (nm : List UInt8) (w : World) {B : Nat → Prop} (hd : RDisk w d s B) (hn : rightB nm = true) (hl : nm.length ≤ 24) (hc : s.calls ≤ 1000000000000) :
    Calls Tryz.prog 31 #[.pointer (some ⟨d, 0, none⟩), .string (bs nm)] w (RDone d B w (createR s nm).1 (createR s nm).2) := by
  obtain ⟨hok, hsort, v, h, hB⟩ := hd
  have HBB := Lib.hid hB
  clear hB
  have C1 := rright_c (bs nm) (by rw [bs_size]; unfold maxLen; omega) w
  rw [rbs_list, hn] at C1
  have C2 := rcall_yes d s v w h.1 hok.c0 hc hok.a0 hok.a1
  have hokc := ok_call hok
  have hm := hok.m
  have HOK := Lib.hid hok
  have HOKC := Lib.hid hokc
  have HS := Lib.hid hsort
  have H := Lib.hid h
  clear hok hokc hsort h
  unfold createR
  cases hdn : s.call.down
  · rw [show s.call.code = 0 by unfold St.code; rw [hdn]; rfl] at C2
    have HDN := Lib.hid hdn
    clear hdn
    cases hg : s.get nm with
    | some f =>
      have HG := Lib.hid hg
      simp only [Bool.false_eq_true, if_false]
      clear hg
      go_enter Tryz.func31, Tryz.ntmps31
      go_wp2_with fail
      refine (C1).mono ?_; rintro e w2 ⟨rfl, rfl⟩
      go_wp2_with fail
      refine (C2).mono ?_; rintro e w2 ⟨rfl, hcd⟩
      have HA := Lib.hid (H.out.called hcd)
      have HO := Lib.hid hcd.2
      clear hcd
      go_wp2_with fail
      refine (rhas_c d s.call nm v w2 (show s.fs.length ≤ 300 by omega) HA.out).mono ?_; rintro e w3 ⟨rfl, g3⟩
      have hsome : (s.call.get nm).isSome = true := by show (s.get nm).isSome = true; rw [HG.out]; rfl
      rw [hsome]
      have HA3 := Lib.hid (HA.out.gr g3)
      have HO3 := Lib.hid (HO.out.trans (Only.ofGr g3))
      clear g3 hsome
      go_wp2_with fail
      go_ret
      exact ⟨rfl, rd_keep HBB.out HOKC.out HS.out (HA3.out) (HO3.out)⟩
    | none =>
      have HG := Lib.hid hg
      simp only [Bool.false_eq_true, if_false]
      obtain ⟨R, hR⟩ : ∃ R, (if 200 ≤ s.fs.length then (s.call, (4 : Int)) else ({ s.call with fs := insF ⟨nm, [], 0⟩ s.fs }, 0)) = R := ⟨_, rfl⟩
      rw [hR]
      have HRR := Lib.hid hR
      clear hg hR
      go_enter Tryz.func31, Tryz.ntmps31
      go_wp2_with fail
      refine (C1).mono ?_; rintro e w2 ⟨rfl, rfl⟩
      go_wp2_with fail
      refine (C2).mono ?_; rintro e w2 ⟨rfl, hcd⟩
      have HA := Lib.hid (H.out.called hcd)
      have HO := Lib.hid hcd.2
      clear hcd
      go_wp2_with fail
      refine (rhas_c d s.call nm v w2 (show s.fs.length ≤ 300 by omega) HA.out).mono ?_; rintro e w3 ⟨rfl, g3⟩
      have hnone : (s.call.get nm).isSome = false := by show (s.get nm).isSome = false; rw [HG.out]; rfl
      rw [hnone]
      have HA3 := Lib.hid (HA.out.gr g3)
      have HO3 := Lib.hid (HO.out.trans (Only.ofGr g3))
      clear g3 hnone
      obtain ⟨a, c, hv⟩ := HA3.out.2.slice
      have c1 : w3.cell? ⟨d, 1, none⟩ = some (.slice a s.fs.length c) := by rw [cells_at HA3.out.1, ← show v = .slice a s.fs.length c from hv]; rfl
      have f1 := cells_free HA3.out.1 1
      by_cases h200 : 200 ≤ s.fs.length
      · have hR := HRR.out
        rw [if_pos h200] at hR
        subst hR
        go_wp2_with fail
        go_ret
        exact ⟨rfl, rd_keep HBB.out HOKC.out HS.out (HA3.out) (HO3.out)⟩
      · have hR := HRR.out
        rw [if_neg h200] at hR
        subst hR
        go_wp2_with fail
        have CP := put4_c ⟨nm, [], 0⟩ s.fs (.slice a s.fs.length c) w3 (by omega) (by have := HA3.out.2; rw [hv] at this; exact this)
        refine (CP).mono ?_; rintro e w4 ⟨v4, rfl, hL, g4, hNV⟩
        have HNV := Lib.hid hNV
        clear hNV
        obtain ⟨a4, k4, rfl⟩ := hL.slice
        obtain ⟨n4, hn4⟩ : ∃ n4, (putF ⟨nm, [], 0⟩ s.fs).length = n4 := ⟨_, rfl⟩
        rw [hn4] at hL ⊢
        have HA4 := Lib.hid (HA3.out.gr g4)
        have HO4 := Lib.hid (HO3.out.trans (Only.ofGr g4))
        have HL := Lib.hid hL
        have f4 := cells_free HA4.out.1 1
        have c4 : w4.cell? ⟨d, 1, none⟩ = some v := by rw [cells_at HA4.out.1]; rfl
        clear hL g4 c1 f1 CP
        go_wp2_with fail
        go_ret
        have hne : ∀ y ∈ s.fs, y.name ≠ nm := fun y hy hn => by
          have := List.find?_eq_none.1 HG.out y hy
          simp [hn] at this
        have g5 : Only (fun i => i = d) w4 (w4.setCell ⟨d, 1, none⟩ (.slice a4 n4 k4)) := Only.cell1 _ _ _ _
        refine ⟨rfl, rd_new (v' := .slice a4 n4 k4) HBB.out (ok_create (s := s.call) HOKC.out HG.out hl (show s.fs.length < 200 by omega)) ?_ ?_ (HO4.out.trans g5) (fun x hx => Nat.le_trans HO3.out.size (HNV.out x ((own_len _ _ _ _).trans hx)))⟩
        · show SortF (insF ⟨nm, [], 0⟩ s.fs)
          rw [ins_put _ _ hne]
          exact sort_put HS.out hne
        · refine HA4.out.put (s' := { s.call with fs := insF ⟨nm, [], 0⟩ s.fs }) (by show FLies w4 (.slice a4 n4 k4) (insF ⟨nm, [], 0⟩ s.fs); rw [ins_put _ _ hne]; exact HL.out) g5 ?_
          rw [cells_set HA4.out.1]; rfl
  · rw [show s.call.code = 5 by unfold St.code; rw [hdn]; rfl] at C2
    have HDN := Lib.hid hdn
    simp only [if_true]
    clear hdn
    go_enter Tryz.func31, Tryz.ntmps31
    go_wp2_with fail
    refine (C1).mono ?_; rintro e w2 ⟨rfl, rfl⟩
    go_wp2_with fail
    refine (C2).mono ?_; rintro e w2 ⟨rfl, hcd⟩
    have HC := Lib.hid hcd
    clear hcd
    go_wp2_with fail
    go_ret
    exact ⟨rfl, rd_keep HBB.out HOKC.out HS.out (H.out.called HC.out) (HC.out.2)⟩
end Go.Proofs.YtignfbdgpgidpaaGreatDoor

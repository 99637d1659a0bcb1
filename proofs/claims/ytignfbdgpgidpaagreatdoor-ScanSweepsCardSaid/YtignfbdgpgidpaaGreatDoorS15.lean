/- In one text: ScRef2, RfsRename. -/
import Derived.Test.YtignfbdgpgidpaaGreatDoorS14
import Derived.Test.YtignfbdgpgidpaaGreatDoorS06
/- The document's has and Sweep. -/
namespace Go.Proofs.YtignfbdgpgidpaaGreatDoor
open Go.RowKit FsPlain ScPlain
set_option linter.unusedVariables false
set_option linter.unusedSimpArgs false
set_option maxRecDepth 20000
theorem str_eq22 (a b : ByteArray) : (a.toList == b.toList) = decide (a = b) := by
  rw [Lib.toList_data, Lib.toList_data]
  by_cases h : a = b
  · subst h; simp
  · rw [decide_eq_false h, beq_eq_false_iff_ne]
    intro e
    exact h (ByteArray.ext (Array.toList_inj.1 e))
theorem not_has_take {l : List ByteArray} {x : ByteArray} {i : Nat} (h : ∀ j (hj : j < l.length), j < i → l[j] ≠ x) (hi : l.length ≤ i) : hasB l x = false := by
  unfold hasB
  rw [List.any_eq_false]
  intro y hy
  obtain ⟨j, hj, rfl⟩ := List.mem_iff_getElem.1 hy
  simpa using h j hj (by omega)
theorem rhas22_c (v : Value) (l : List ByteArray) (x : ByteArray) (w : World) (h : Lies w v l) (hl : l.length ≤ 1000000) :
    Calls Tryz.prog 46 #[v, .string x] w fun e w' => e = .returned (.bool (hasB l x)) ∧ Gr w w' := by
  obtain ⟨a, c, rfl, hc, hr⟩ := id h
  obtain ⟨r, hrr⟩ : ∃ r, hasB l x = r := ⟨_, rfl⟩
  rw [hrr]
  have HR := Lib.hid hrr
  have H := Lib.hid hr
  obtain ⟨n, hn⟩ : ∃ n, l.length = n := ⟨_, rfl⟩
  have HN := Lib.hid hn
  rw [hn] at hl hc ⊢
  clear h hrr hr hn
  go_enter Tryz.func46, Tryz.ntmps46
  go_wp2_with fail
  go_loopw [5] (fun v wr => ∃ i : Nat, i ≤ n ∧ v = .int .i64 (i : Int) ∧ (∀ j (hj : j < l.length), j < i → l[j] ≠ x) ∧ wr = w) (fun v _ => n - (intOf v).toNat)
  case atStart => exact ⟨0, Nat.zero_le _, rfl, fun j _ hj => by omega, rfl⟩
  case round =>
    obtain ⟨i, hi1, rfl, hall, rfl⟩ := hrel
    have HA := Lib.hid hall
    clear hall
    by_cases hlt : i < n
    · have hlt2 : i < l.length := by rw [HN.out]; exact hlt
      obtain ⟨b, off, rfl, hrow⟩ : ∃ b off, a = some ⟨b, off, none⟩ ∧ SRow wr b off l := H.out.resolve_left (fun e => by rw [e] at hlt2; cases hlt2)
      have k0 := hrow.2 i _ (List.getElem?_eq_getElem hlt2)
      obtain ⟨y, hy⟩ : ∃ y, l[i] = y := ⟨_, rfl⟩
      rw [hy] at k0
      have q1 : (i : Int) < (n : Int) := by omega
      by_cases he : y = x
      · have er : r = true := by
          rw [← HR.out]
          unfold hasB
          rw [List.any_eq_true]
          exact ⟨l[i], List.getElem_mem hlt2, by rw [hy]; exact decide_eq_true he⟩
        subst er
        have qb : (y.toList == x.toList) = true := by rw [str_eq22]; exact decide_eq_true he
        clear he hy hrow hlt2
        go_wp2_with fail
        go_ret
        exact ⟨rfl, Gr.refl _⟩
      · have qb : (y.toList == x.toList) = false := by rw [str_eq22]; exact decide_eq_false he
        have NX := Lib.hid (show ∀ j (hj : j < l.length), j < i + 1 → l[j] ≠ x from fun j hj hji => by
          by_cases e : j = i
          · subst e; rw [hy]; exact he
          · exact HA.out j hj (by omega))
        clear he hy hrow hlt2
        go_wp2_with fail
        go_roundw
        case rel => exact ⟨i + 1, by omega, by rw [show ((i + 1 : Nat) : Int) = (i : Int) + 1 by omega], NX.out, by first | rfl | trivial⟩
        case measure => simp [intOf]; omega
    · have er : r = false := by rw [← HR.out]; exact not_has_take HA.out (by rw [HN.out]; omega)
      subst er
      go_wp2_with fail
      go_ret
      exact ⟨rfl, Gr.refl _⟩
def SwAt (d : Nat) (keep N : List ByteArray) (lv : Value) (M : List Asn) (A : Nat → Prop) (c0 : Int) (T : St × Nat × Int) (w : World) (ve vn vi : Value) (wr : World) : Prop :=
  ∃ (i n : Nat) (t : St) (e : Int), i ≤ N.length ∧ vi = .int .i64 (i : Int) ∧ vn = .int .i64 (n : Int) ∧ ve = .int .i64 e ∧ n ≤ i ∧ t.calls ≤ c0 + i ∧ (if e = 0 then sweepL keep (N.drop i) t n = T else T = (t, n, e)) ∧ Qs A (RDiskA d t :: SlA lv N :: M) w wr
set_option maxHeartbeats 4000000 in
theorem rsweep_c {A : Nat → Prop} {M : List Asn} {w u : World} {d : Nat} {s : St} {kv : Value} {keep : List ByteArray} (h : Qs A (RDiskA d s :: M) w u) (h1 : s.calls ≤ 1000000000) (hk : keep.length ≤ 1000000) (hr : ∀ f ∈ s.fs, rightB f.name = true) (hkv : ∀ (P : List Asn) (wr : World), Qs A (P ++ M) w wr → Lies wr kv keep) :
    Calls Tryz.prog 12 #[.pointer (some ⟨d, 0, none⟩), kv] u fun e w' => e = .returned (.tuple #[.int .i64 ((sweepR keep s).2.1 : Int), .int .i64 (sweepR keep s).2.2]) ∧ Qs A (RDiskA d (sweepR keep s).1 :: M) w w' := by
  have hm : s.fs.length ≤ 200 := by obtain ⟨_, q⟩ := h.part 0 rfl; exact q.1.m
  have LS := Lib.hid (ps_list h (fr_rdisk d s.call) fun B1 q => rlist_c d s u q (by omega))
  obtain ⟨N, hN⟩ : ∃ N, listL s = N := ⟨_, rfl⟩
  obtain ⟨T, hT⟩ : ∃ T, sweepR keep s = T := ⟨_, rfl⟩
  obtain ⟨e0, he0⟩ : ∃ e, s.call.code = e := ⟨_, rfl⟩
  have hstart : if e0 = 0 then sweepL keep (N.drop 0) s.call 0 = T else T = (s.call, 0, e0) := by
    rw [← hT]
    unfold sweepR
    rw [he0, hN]
    split
    · rfl
    · rfl
  have hNr : ∀ x ∈ N, rightB x.data.toList = true ∧ x.size ≤ 24 := by
    intro x hx
    rw [← hN] at hx
    unfold listL at hx
    split at hx
    · cases hx
    · unfold namesL at hx
      obtain ⟨f, hf, rfl⟩ := List.mem_map.1 hx
      have := hr f hf
      refine ⟨by simpa [bs] using this, ?_⟩
      unfold rightB at this
      simp only [Bool.and_eq_true, decide_eq_true_eq] at this
      rw [bs_size]; exact this.2.2
  have hNl : N.length ≤ 200 := by
    rw [← hN]
    unfold listL namesL
    split
    · exact Nat.zero_le _
    · rw [List.length_map]; exact hm
  rw [hN, he0] at LS
  rw [hT]
  have HST := Lib.hid hstart
  have HNR := Lib.hid hNr
  have C0 := Lib.hid (show s.call.calls ≤ s.calls + 1 from Int.le_refl _)
  have H1 := Lib.hid h1
  have HK := Lib.hid hk
  have HKV := Lib.hid hkv
  obtain ⟨z, hz⟩ : ∃ z, N.length = z := ⟨_, rfl⟩
  have HZ := Lib.hid hz
  rw [hz] at LS hNl
  clear hstart hNr hm hT he0 hN h h1 hk hr hz hkv
  go_enter Tryz.func12, Tryz.ntmps12
  go_wp2_with fail
  refine LS.out.mono ?_; rintro e u1 ⟨la, lc, rfl, q1⟩
  have Q1 := Lib.hid (show Qs A (RDiskA d s.call :: SlA (.slice la z lc) N :: M) w u1 from q1.perm (by
    refine (List.Perm.cons _ ?_)
    exact List.perm_append_singleton _ _))
  clear q1 LS
  go_wp2_with fail
  go_loopw [7, 8, 9] (fun ve vn vi wr => SwAt d keep N (.slice la z lc) M A (s.calls + 1) T w ve vn vi wr) (fun _ _ vi _ => z - (intOf vi).toNat)
  case atStart => exact ⟨0, 0, s.call, e0, Nat.zero_le _, rfl, rfl, rfl, Nat.le_refl _, by have := C0.out; omega, HST.out, Q1.out⟩
  case round =>
    obtain ⟨i, n, t, e, hi, rfl, rfl, rfl, hni, hc, hif, q⟩ := hrel
    have HQ := Lib.hid q
    have HC := Lib.hid hc
    have HIF := Lib.hid hif
    rw [HZ.out] at hi
    have HI := Lib.hid (And.intro hi hni)
    clear q hc hif
    by_cases hgo : i < z ∧ e = 0
    · obtain ⟨hlt, rfl⟩ := hgo
      obtain ⟨_, hlies⟩ := HQ.out.part 1 rfl
      have hkeep := HKV.out [RDiskA d t, SlA (.slice la z lc) N] wr HQ.out
      have hlt2 : i < N.length := by rw [HZ.out]; exact hlt
      obtain ⟨x, hx⟩ : ∃ x, N[i] = x := ⟨_, rfl⟩
      have hNx := HNR.out x (by rw [← hx]; exact List.getElem_mem hlt2)
      obtain ⟨a', c', ea, _, hor⟩ := hlies.1
      obtain ⟨b, off, e2, hrow⟩ := hor.resolve_left (fun e => by rw [e] at hlt2; cases hlt2)
      simp only [Value.slice.injEq] at ea
      obtain ⟨rfl, -, rfl⟩ := ea
      subst e2
      clear hor
      have k0 := hrow.2 i _ (List.getElem?_eq_getElem hlt2)
      rw [hx] at k0
      have hdrop : N.drop i = x :: N.drop (i + 1) := by rw [List.drop_eq_getElem_cons hlt2, hx]
      have hif := HIF.out
      rw [if_pos rfl, hdrop] at hif
      unfold sweepL at hif
      have CH := Lib.hid (rhas22_c kv keep x wr hkeep HK.out)
      obtain ⟨hb, hhb⟩ : ∃ r, hasB keep x = r := ⟨_, rfl⟩
      rw [hhb] at CH hif
      have q1 : (i : Int) < (z : Int) := by omega
      have KX := Lib.hid (fun u (g : Gr wr u) => (Below.cell g (p := ⟨b, off + i, none⟩) hrow.1).trans k0)
      cases hb with
      | true =>
        rw [if_pos rfl] at hif
        have NX := Lib.hid (fun u (g : Gr wr u) => (show SwAt d keep N (.slice (some ⟨b, off, none⟩) z lc) M A (s.calls + 1) T w (.int .i64 0) (.int .i64 (n : Int)) (.int .i64 ((i : Int) + 1)) u from ⟨i + 1, n, t, 0, by omega, by rw [Int.natCast_add]; rfl, rfl, rfl, by have := HI.out; omega, by have := HC.out; omega, by rw [if_pos rfl]; exact hif, HQ.out.on g⟩))
        clear hif hlies hkeep hrow hdrop hx hNx hlt2 hhb
        go_wp2_with fail
        refine CH.out.mono ?_; rintro e u2 ⟨rfl, g2⟩
        have N2 := Lib.hid (NX.out u2 g2)
        clear g2 NX KX
        go_wp2_with fail
        refine ⟨N2.out, ?_⟩
        simp [intOf]; omega
      | false =>
        rw [if_neg (by decide)] at hif
        have RM := Lib.hid (fun u (g : Gr wr u) => Qs.call0 (X := fun e _ => e = .returned (.int .i64 (removeR t x.data.toList).2)) (HQ.out.on g) (fr_rdisk d _) fun B1 q => r_remove d t x hNx.2 hNx.1 (by have := HC.out; have := H1.out; omega) u B1 q)
        obtain ⟨R, hR⟩ : ∃ R, removeR t x.data.toList = R := ⟨_, rfl⟩
        have hcr : R.1.calls = t.calls + 1 := by rw [← hR]; exact CmPlain.calls_remove t _
        rw [hR] at RM hif
        by_cases er : R.2 = 0
        · rw [if_pos er] at hif
          have qr : (R.2 == 0) = true := by simpa using er
          rw [er] at RM
          have n8 : (n : Int) ≤ 200 := by have := HI.out; omega
          have NX := Lib.hid (fun u (q : Qs A (RDiskA d R.1 :: SlA (.slice (some ⟨b, off, none⟩) z lc) N :: M) w u) => (show SwAt d keep N (.slice (some ⟨b, off, none⟩) z lc) M A (s.calls + 1) T w (.int .i64 0) (.int .i64 ((n : Int) + 1)) (.int .i64 ((i : Int) + 1)) u from ⟨i + 1, n + 1, R.1, 0, by omega, by rw [Int.natCast_add]; rfl, by rw [Int.natCast_add]; rfl, rfl, by have := HI.out; omega, by have := HC.out; omega, by rw [if_pos rfl]; exact hif, q⟩))
          clear hif hlies hkeep hrow hdrop hx hNx hlt2 hhb hR hcr er
          go_wp2_with fail
          refine CH.out.mono ?_; rintro e u2 ⟨rfl, g2⟩
          have k2 := KX.out u2 g2
          have R2 := Lib.hid (RM.out u2 g2)
          clear g2 KX RM k0
          go_wp2_with fail
          refine R2.out.mono ?_; rintro e u3 ⟨rfl, q3⟩
          have N2 := Lib.hid (NX.out u3 q3)
          clear q3 NX R2
          go_wp2_with fail
          refine ⟨N2.out, ?_⟩
          simp [intOf]; omega
        · rw [if_neg er] at hif
          have qr : (R.2 == 0) = false := by simpa using er
          have NX := Lib.hid (fun u (q : Qs A (RDiskA d R.1 :: SlA (.slice (some ⟨b, off, none⟩) z lc) N :: M) w u) => (show SwAt d keep N (.slice (some ⟨b, off, none⟩) z lc) M A (s.calls + 1) T w (.int .i64 R.2) (.int .i64 (n : Int)) (.int .i64 ((i : Int) + 1)) u from ⟨i + 1, n, R.1, R.2, by omega, by rw [Int.natCast_add]; rfl, rfl, rfl, by have := HI.out; omega, by have := HC.out; omega, by rw [if_neg er]; exact hif.symm, q⟩))
          clear hif hlies hkeep hrow hdrop hx hNx hlt2 hhb hR hcr er
          go_wp2_with fail
          refine CH.out.mono ?_; rintro e u2 ⟨rfl, g2⟩
          have k2 := KX.out u2 g2
          have R2 := Lib.hid (RM.out u2 g2)
          clear g2 KX RM k0
          go_wp2_with fail
          refine R2.out.mono ?_; rintro e u3 ⟨rfl, q3⟩
          have N2 := Lib.hid (NX.out u3 q3)
          clear q3 NX R2
          go_wp2_with fail
          refine ⟨N2.out, ?_⟩
          simp [intOf]; omega
    · have hT : T = (t, n, e) := by
        have hif := HIF.out
        by_cases he : e = 0
        · rw [if_pos he] at hif
          have : i = z := by omega
          rw [List.drop_of_length_le (by rw [HZ.out]; omega)] at hif
          rw [← hif, he]
          rfl
        · rw [if_neg he] at hif
          exact hif
      have HT := Lib.hid hT
      have FN := Lib.hid (show Qs A (RDiskA d t :: M) w wr from (HQ.out.perm (List.perm_middle (l₁ := [RDiskA d t]))).tail)
      by_cases hlt : i < z
      · have q1 : (i : Int) < (z : Int) := by omega
        have he : (e == 0) = false := by simpa using fun h => hgo ⟨hlt, h⟩
        clear hT hgo
        go_wp2_with fail
        go_ret2
        rw [HT.out]
        exact ⟨rfl, FN.out⟩
      · have q1 : ¬ (i : Int) < (z : Int) := by omega
        clear hT hgo hlt
        go_wp2_with fail
        go_ret2
        rw [HT.out]
        exact ⟨rfl, FN.out⟩
end Go.Proofs.YtignfbdgpgidpaaGreatDoor
/- The document's disk: Rename. -/
namespace Go.Proofs.YtignfbdgpgidpaaGreatDoor
open Go.RowKit FsPlain
set_option linter.unusedVariables false
set_option linter.unusedSimpArgs false
set_option maxRecDepth 20000
theorem move_put {s : St} {a b : List UInt8} {f : F} : (s.move a b f).fs = putF ⟨b, f.data, f.kept⟩ (outF b (outF a s.fs)) := by
  unfold St.move
  show insF _ ((s.drop a).drop b).fs = _
  rw [drop_out, drop_out]
  refine ins_put _ _ fun y hy => ?_
  have := (List.mem_filter.1 hy).2
  simpa using this
theorem sort_move {s : St} {a b : List UInt8} {f : F} (h : SortF s.fs) : SortF (s.move a b f).fs := by
  rw [move_put]
  refine sort_put (sort_outF (sort_outF h)) fun y hy => ?_
  have := (List.mem_filter.1 hy).2
  simpa using this
set_option maxRecDepth 20000 in
set_option maxHeartbeats 4000000 in
theorem rrename_c (d : Nat) (s : St) (nm to : List UInt8) (w : World) {B : Nat → Prop} (hd : RDisk w d s B) (hn : rightB nm = true) (hl : nm.length ≤ 24) (hn2 : rightB to = true) (hl2 : to.length ≤ 24) (hc : s.calls ≤ 1000000000000) :
    Calls Tryz.prog 80 #[.pointer (some ⟨d, 0, none⟩), .string (bs nm), .string (bs to)] w (RDone d B w (renameR s nm to).1 (renameR s nm to).2) := by
  obtain ⟨hok, hsort, v, h, hB⟩ := hd
  have HBB := Lib.hid hB
  clear hB
  have C1 := rright_c (bs nm) (by rw [bs_size]; unfold maxLen; omega) w
  rw [rbs_list, hn] at C1
  have C1b := rright_c (bs to) (by rw [bs_size]; unfold maxLen; omega) w
  rw [rbs_list, hn2] at C1b
  have C2 := rcall_yes d s v w h.1 hok.c0 hc hok.a0 hok.a1
  have hokc := ok_call hok
  have hm := hok.m
  have HOK := Lib.hid hok
  have HOKC := Lib.hid hokc
  have HS := Lib.hid hsort
  have H := Lib.hid h
  have HL2 := Lib.hid hl2
  clear hok hokc hsort h
  unfold renameR
  cases hdn : s.call.down
  · rw [show s.call.code = 0 by unfold St.code; rw [hdn]; rfl] at C2
    have HDN := Lib.hid hdn
    clear hdn
    cases hg : s.get nm with
    | none =>
      have hp := place_of_none hg
      simp only [Bool.false_eq_true, if_false]
      clear hg
      go_enter Tryz.func80, Tryz.ntmps80
      go_wp2_with fail
      refine (C1).mono ?_; rintro e w2 ⟨rfl, rfl⟩
      go_wp2_with fail
      refine (C1b).mono ?_; rintro e w2 ⟨rfl, rfl⟩
      go_wp2_with fail
      refine (C2).mono ?_; rintro e w2 ⟨rfl, hcd⟩
      have HA := Lib.hid (H.out.called hcd)
      have HO := Lib.hid hcd.2
      clear hcd
      go_wp2_with fail
      refine (rat_c d s.call nm v w2 (show s.fs.length ≤ 300 by omega) HA.out).mono ?_; rintro e w3 ⟨rfl, g3⟩
      rw [show placeF nm s.call.fs = -1 from hp]
      have HA3 := Lib.hid (HA.out.gr g3)
      have HO3 := Lib.hid (HO.out.trans (Only.ofGr g3))
      clear g3 hp
      go_wp2_with fail
      go_ret
      exact ⟨rfl, rd_keep HBB.out HOKC.out HS.out (HA3.out) (HO3.out)⟩
    | some f =>
      obtain ⟨k, hp, hat, hfn⟩ := place_of_some hg
      have hkl := (List.getElem?_eq_some_iff.1 hat).1
      have HG := Lib.hid hg
      simp only [Bool.false_eq_true, if_false]
      have HAT := Lib.hid hat
      clear hg hat
      go_enter Tryz.func80, Tryz.ntmps80
      go_wp2_with fail
      refine (C1).mono ?_; rintro e w2 ⟨rfl, rfl⟩
      go_wp2_with fail
      refine (C1b).mono ?_; rintro e w2 ⟨rfl, rfl⟩
      go_wp2_with fail
      refine (C2).mono ?_; rintro e w2 ⟨rfl, hcd⟩
      have HA := Lib.hid (H.out.called hcd)
      have HO := Lib.hid hcd.2
      clear hcd
      go_wp2_with fail
      refine (rat_c d s.call nm v w2 (show s.fs.length ≤ 300 by omega) HA.out).mono ?_; rintro e w3 ⟨rfl, g3⟩
      rw [show placeF nm s.call.fs = (k : Int) from hp]
      have HA3 := Lib.hid (HA.out.gr g3)
      have HO3 := Lib.hid (HO.out.trans (Only.ofGr g3))
      clear g3 hp
      have HA4 := HA3
      have HO4 := HO3
      obtain ⟨w4, hw4⟩ : ∃ w4, w4 = w3 := ⟨_, rfl⟩
      rw [← hw4] at HA4 HO4 ⊢
      clear hw4 HA3 HO3
      obtain ⟨hh, ⟨h1, _⟩ | ⟨b, off, cc, rfl, hcc, hcell⟩⟩ := HA4.out
      · exfalso; rw [show s.call.fs = s.fs from rfl] at h1; rw [h1] at hkl; exact absurd hkl (by simp)
      have c1 : w4.cell? ⟨d, 1, none⟩ = some (.slice (some ⟨b, off, none⟩) s.fs.length cc) := by rw [cells_at hh]; rfl
      obtain ⟨q0, q1, q2⟩ := fall3_at s.fs k f HAT.out
      rw [Nat.mul_comm 3 k] at q0 q1 q2
      have y0 := hcell.2 _ _ q0
      have y1 := hcell.2 _ _ q1
      have y2 := hcell.2 _ _ q2
      rw [← Nat.add_assoc] at y1 y2
      have HCC := Lib.hid hcell
      clear hcell q0 q1 q2
      have HP := Lib.hid (fun (l : List F) (u : Value) (x : World) (h1 : l.length ≤ 300) (h2 : FLies x u l) => (show Calls Tryz.prog 63 #[u, .agg #[.string (bs to), .string (bs f.data), .int .i64 (f.kept : Int)]] x fun e w' => ∃ v, e = .returned v ∧ FLies w' v (putF ⟨to, f.data, f.kept⟩ l) ∧ Gr x w' ∧ NewV x v from put4_c ⟨to, f.data, f.kept⟩ l u x h1 h2))
      have HHH := Lib.hid hh
      have hlo : (outF nm s.fs).length ≤ 300 := Nat.le_trans (List.length_filter_le _ _) (by omega)
      have hlo2 : (outF to (outF nm s.fs)).length ≤ 300 := Nat.le_trans (List.length_filter_le _ _) hlo
      have hdl := blk_lt2 hh
      clear hh
      go_wp2_with fail
      obtain ⟨W, hW⟩ : ∃ W, W = w4.alloc (.cells #[.string (bs to), .string (bs f.data), .int .i64 (f.kept : Int)] 56 (0, 0)) := ⟨_, rfl⟩
      rw [← hW]
      have gW : Gr w4 W := by rw [hW]; exact Below.alloc (Below.refl _ _) (Nat.le_refl _) _
      have hx : W.heap[w4.heap.size]? = some (.cells #[.string (bs to), .string (bs f.data), .int .i64 (f.kept : Int)] 56 (0, 0)) := by rw [hW]; exact heap_alloc_new w4 _
      have x0 : W.cell? ⟨w4.heap.size, 0, none⟩ = some (.string (bs to)) := by rw [heap_cell hx]; rfl
      have x1 : W.cell? ⟨w4.heap.size, 1, none⟩ = some (.string (bs f.data)) := by rw [heap_cell hx]; rfl
      have x2 : W.cell? ⟨w4.heap.size, 2, none⟩ = some (.int .i64 (f.kept : Int)) := by rw [heap_cell hx]; rfl
      have hxl := blk_lt2 hx
      have HAW := Lib.hid ((show RAt w4 d s.call _ from ⟨HHH.out, .inr ⟨b, off, cc, rfl, hcc, HCC.out⟩⟩).gr gW)
      have HOW := Lib.hid (HO4.out.trans (Only.ofGr gW))
      have d1 : W.cell? ⟨d, 1, none⟩ = some (.slice (some ⟨b, off, none⟩) s.fs.length cc) := by rw [cells_at HAW.out.1]; rfl
      have hdW := blk_lt2 HAW.out.1
      have COUT := out_c nm s.fs (.slice (some ⟨b, off, none⟩) s.fs.length cc) W.drew (by omega) (show FLies W.drew _ s.fs from HAW.out.2)
      have COUT2 := Lib.hid (fun u x (h : FLies x u (outF nm s.fs)) => out_c to (outF nm s.fs) u x hlo h)
      clear hW gW hx c1 y0 y1 y2
      go_region_with (first
        | (go_at_call 65; (with_reducible refine (COUT).mono ?_); rintro e w6 ⟨v6, rfl, hL6, g6, _⟩
           have z0 : w6.cell? ⟨w4.heap.size, 0, none⟩ = some (.string (bs to)) := by rw [Below.cell g6 (p := ⟨w4.heap.size, 0, none⟩) hxl]; exact x0
           have z1 : w6.cell? ⟨w4.heap.size, 1, none⟩ = some (.string (bs f.data)) := by rw [Below.cell g6 (p := ⟨w4.heap.size, 1, none⟩) hxl]; exact x1
           have z2 : w6.cell? ⟨w4.heap.size, 2, none⟩ = some (.int .i64 (f.kept : Int)) := by rw [Below.cell g6 (p := ⟨w4.heap.size, 2, none⟩) hxl]; exact x2
           have HL6 := Lib.hid hL6
           have HG6 := Lib.hid g6
           clear hL6 g6)
        | (go_at_call 65; (with_reducible refine (COUT2.out _ _ HL6.out).mono ?_); rintro e w6b ⟨v6b, rfl, hL6b, g6b, _⟩
           have HL6b := Lib.hid hL6b
           have HG6b := Lib.hid (HG6.out.trans g6b)
           have z0 : w6b.cell? ⟨w4.heap.size, 0, none⟩ = some (.string (bs to)) := by rw [Below.cell HG6b.out (p := ⟨w4.heap.size, 0, none⟩) hxl]; exact x0
           have z1 : w6b.cell? ⟨w4.heap.size, 1, none⟩ = some (.string (bs f.data)) := by rw [Below.cell HG6b.out (p := ⟨w4.heap.size, 1, none⟩) hxl]; exact x1
           have z2 : w6b.cell? ⟨w4.heap.size, 2, none⟩ = some (.int .i64 (f.kept : Int)) := by rw [Below.cell HG6b.out (p := ⟨w4.heap.size, 2, none⟩) hxl]; exact x2
           clear hL6b g6b)
        | (go_at_call 63; (with_reducible refine (HP.out _ _ _ hlo2 HL6b.out).mono ?_); rintro e w7 ⟨v7, rfl, hL7, g7, hNV⟩
           obtain ⟨a7, k7, rfl⟩ := hL7.slice
           obtain ⟨n7, hn7⟩ : ∃ n7, (putF ⟨to, f.data, f.kept⟩ (outF to (outF nm s.fs))).length = n7 := ⟨_, rfl⟩
           rw [hn7] at hL7 ⊢
           have G7 : Gr W w7 := (Gr.ofDrew HG6b.out).trans g7
           have HA7 := Lib.hid (HAW.out.gr G7)
           have HO7 := Lib.hid (HOW.out.trans (Only.ofGr G7))
           have HL7 := Lib.hid hL7
           have e1 := cells_free HA7.out.1 1
           have e2 : w7.cell? ⟨d, 1, none⟩ = some (.slice (some ⟨b, off, none⟩) s.fs.length cc) := by rw [cells_at HA7.out.1]; rfl
           have HNV := Lib.hid hNV
           clear hL7 g7 G7 hNV))
      all_goals
        go_wp2_with fail
        go_ret
        have g8 : Only (fun i => i = d) w7 (w7.setCell ⟨d, 1, none⟩ (.slice a7 n7 k7)) := Only.cell1 _ _ _ _
        refine ⟨rfl, rd_new (s' := s.call.move nm to f) (v' := .slice a7 n7 k7) HBB.out (ok_move HOKC.out HL2.out HG.out) (sort_move HS.out) ?_ (HO7.out.trans g8) (fun x hx => Nat.le_trans (Nat.le_trans HOW.out.size HG6b.out.size) (HNV.out x ((own_len _ _ _ _).trans hx)))⟩
        refine HA7.out.put (s' := s.call.move nm to f) (by rw [move_put]; exact HL7.out) g8 ?_
        rw [cells_set HA7.out.1]; rfl
  · rw [show s.call.code = 5 by unfold St.code; rw [hdn]; rfl] at C2
    simp only [if_true]
    clear hdn
    go_enter Tryz.func80, Tryz.ntmps80
    go_wp2_with fail
    refine (C1).mono ?_; rintro e w2 ⟨rfl, rfl⟩
    go_wp2_with fail
    refine (C1b).mono ?_; rintro e w2 ⟨rfl, rfl⟩
    go_wp2_with fail
    refine (C2).mono ?_; rintro e w2 ⟨rfl, hcd⟩
    have HC := Lib.hid hcd
    clear hcd
    go_wp2_with fail
    go_ret
    exact ⟨rfl, rd_keep HBB.out HOKC.out HS.out (H.out.called HC.out) (HC.out.2)⟩
theorem r_rename (d : Nat) (s : St) (n t : ByteArray) (hn : n.size ≤ 24) (hm : rightB n.data.toList = true) (ht : t.size ≤ 24) (hmt : rightB t.data.toList = true) (h1 : s.calls ≤ 1000000000000) (w : World) (B : Nat → Prop) (h : RDiskA d s w B) :
    Calls Tryz.prog 80 #[.pointer (some ⟨d, 0, none⟩), .string n, .string t] w (Does w B (RDiskA d (renameR s n.data.toList t.data.toList).1) (.int .i64 (renameR s n.data.toList t.data.toList).2)) := by
  have C := rrename_c d s n.data.toList t.data.toList w h hm (by rw [show n.data.toList.length = n.size from Array.length_toList]; exact hn) hmt (by rw [show t.data.toList.length = t.size from Array.length_toList]; exact ht) h1
  rwa [bs_toList, bs_toList] at C
end Go.Proofs.YtignfbdgpgidpaaGreatDoor

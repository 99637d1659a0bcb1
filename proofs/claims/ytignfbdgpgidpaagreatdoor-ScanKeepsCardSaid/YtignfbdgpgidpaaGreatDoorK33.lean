/- In one text: ScSw. -/
import Derived.Test.YtignfbdgpgidpaaGreatDoorK32
import Derived.Test.YtignfbdgpgidpaaGreatDoorK10
import Derived.Test.YtignfbdgpgidpaaGreatDoorK24
/- The program's Sweep. -/
namespace Go.Proofs.YtignfbdgpgidpaaGreatDoor
open Go.RowKit FsPlain ScPlain Go.Maps
set_option linter.unusedVariables false
set_option linter.unusedSimpArgs false
set_option maxRecDepth 20000
def PsAt (p Y : Nat) (keep N : List ByteArray) (lv : Value) (M : List Asn) (A : Nat → Prop) (c0 : Int) (T : St × Nat × Int) (w : World) (vn vi : Value) (wr : World) : Prop :=
  ∃ (i n : Nat) (t : St), i ≤ N.length ∧ vi = .int .i64 (i : Int) ∧ vn = .int .i64 (n : Int) ∧ n ≤ i ∧ t.calls ≤ c0 + i ∧ sweepL keep (N.drop i) t n = T ∧ Qs A (DiskA p t :: SetA Y keep :: SlA lv N :: M) w wr
set_option maxHeartbeats 4000000 in
theorem psweep_c {A : Nat → Prop} {M : List Asn} {w u : World} {p : Nat} {s : St} {kv : Value} {keep : List ByteArray} (h : Qs A (DiskA p s :: M) w u) (h1 : s.calls ≤ 1000000000) (hk : keep.length ≤ 1000000) (hks : ∀ x ∈ keep, x.size ≤ maxLen) (hr : ∀ f ∈ s.fs, rightB f.name = true) (hkv : ∀ (P : List Asn) (wr : World), Qs A (P ++ M) w wr → Lies wr kv keep) :
    Calls Tryz.prog 11 #[.pointer (some ⟨p, 0, none⟩), kv] u fun e w' => e = .returned (.tuple #[.int .i64 ((sweepR keep s).2.1 : Int), .int .i64 (sweepR keep s).2.2]) ∧ Qs A (DiskA p (sweepR keep s).1 :: M) w w' := by
  have hm : s.fs.length ≤ 200 := by obtain ⟨_, q⟩ := h.part 0 rfl; exact q.1.m
  have LS := Lib.hid (ps_list h (fr_disk p s.call) fun B1 q => plist_c p s u q (by omega))
  obtain ⟨N, hN⟩ : ∃ N, listL s = N := ⟨_, rfl⟩
  obtain ⟨T, hT⟩ : ∃ T, sweepR keep s = T := ⟨_, rfl⟩
  obtain ⟨e0, he0⟩ : ∃ e, s.call.code = e := ⟨_, rfl⟩
  have hNr : ∀ x ∈ N, rightB x.data.toList = true ∧ x.size ≤ 24 := by
    intro x hx
    rw [← hN] at hx
    unfold listL at hx
    split at hx
    · cases hx
    · unfold namesL at hx
      obtain ⟨f, hf, rfl⟩ := List.mem_map.1 hx
      have := hr f hf
      refine ⟨by simpa [bs] using this, ?_⟩
      unfold rightB at this
      simp only [Bool.and_eq_true, decide_eq_true_eq] at this
      rw [bs_size]; exact this.2.2
  have hNl : N.length ≤ 200 := by
    rw [← hN]
    unfold listL namesL
    split
    · exact Nat.zero_le _
    · rw [List.length_map]; exact hm
  rw [hN, he0] at LS
  by_cases h0 : e0 = 0
  · have hstart : sweepL keep (N.drop 0) s.call 0 = T := by
      rw [← hT]
      unfold sweepR
      rw [he0, if_pos h0, hN]
      rfl
    rw [hT]
    subst h0
    have HST := Lib.hid hstart
    have HNR := Lib.hid hNr
    have C0 := Lib.hid (show s.call.calls ≤ s.calls + 1 from Int.le_refl _)
    have H1 := Lib.hid h1
    have HK := Lib.hid hk
    have HKS := Lib.hid hks
    have HKV := Lib.hid hkv
    obtain ⟨z, hz⟩ : ∃ z, N.length = z := ⟨_, rfl⟩
    have HZ := Lib.hid hz
    rw [hz] at LS hNl
    clear hstart hNr hm hT he0 hN h h1 hk hks hr hz hkv
    go_enter Tryz.func11, Tryz.ntmps11
    go_wp2_with fail
    refine LS.out.mono ?_; rintro e u1 ⟨la, lc, rfl, q1⟩
    have Q1 := Lib.hid (show Qs A (DiskA p s.call :: SlA (.slice la z lc) N :: M) w u1 from q1.perm (by
      refine (List.Perm.cons _ ?_)
      exact List.perm_append_singleton _ _))
    have SC := Lib.hid (set22_c kv keep u1 (HKV.out [DiskA p s.call, SlA (.slice la z lc) N] u1 Q1.out) HK.out HKS.out)
    clear q1 LS
    go_wp2_with fail
    refine SC.out.mono ?_; rintro e u2 ⟨Y, rfl, hY, hYn, g2⟩
    have Q2 := Lib.hid (show Qs A (DiskA p s.call :: SetA Y keep :: SlA (.slice la z lc) N :: M) w u2 from (Qs.new Q1.out g2 (fr_set22 Y keep) (B' := fun i => i = Y) ⟨hY, fun _ => Iff.rfl⟩ (fun x hx => by rw [hx]; exact hYn)).perm (List.Perm.swap _ _ _))
    clear hY hYn g2 SC Q1
    go_wp2_with fail
    go_loopw [9, 27] (fun vn vi wr => PsAt p Y keep N (.slice la z lc) M A (s.calls + 1) T w vn vi wr) (fun _ vi _ => z - (intOf vi).toNat)
    case atStart => exact ⟨0, 0, s.call, Nat.zero_le _, rfl, rfl, Nat.le_refl _, by have := C0.out; omega, HST.out, Q2.out⟩
    case round =>
      obtain ⟨i, n, t, hi, rfl, rfl, hni, hc, hif, q⟩ := hrel
      have HQ := Lib.hid q
      have HC := Lib.hid hc
      have HIF := Lib.hid hif
      rw [HZ.out] at hi
      have HI := Lib.hid (And.intro hi hni)
      clear q hc hif HST C0 Q2
      by_cases hlt : i < z
      · obtain ⟨_, hlies⟩ := HQ.out.part 2 rfl
        obtain ⟨_, ⟨n8, D, hown, hD, hhas⟩, _⟩ := HQ.out.part 1 rfl
        have hlt2 : i < N.length := by rw [HZ.out]; exact hlt
        obtain ⟨x, hx⟩ : ∃ x, N[i] = x := ⟨_, rfl⟩
        have hNx := HNR.out x (by rw [← hx]; exact List.getElem_mem hlt2)
        obtain ⟨a', c', ea, _, hor⟩ := hlies.1
        obtain ⟨b, off, e2, hrow⟩ := hor.resolve_left (fun e => by rw [e] at hlt2; cases hlt2)
        simp only [Value.slice.injEq] at ea
        obtain ⟨rfl, -, rfl⟩ := ea
        subst e2
        clear hor
        have k0 := hrow.2 i _ (List.getElem?_eq_getElem hlt2)
        rw [hx] at k0
        have hdrop : N.drop i = x :: N.drop (i + 1) := by rw [List.drop_eq_getElem_cons hlt2, hx]
        have hif := HIF.out
        rw [hdrop] at hif
        unfold sweepL at hif
        have hkey := WideMaps.keyOf_string_mk (P := Tryz.prog) (k := 9) Tryz.underlying9 (s := x) (by have := hNx.2; unfold maxLen; omega)
        have hhx := hhas x
        obtain ⟨hb, hhb⟩ : ∃ r, hasB keep x = r := ⟨_, rfl⟩
        rw [hhb] at hif hhx
        have q1 : (i : Int) < (z : Int) := by omega
        have HO := Lib.hid hown
        cases hb with
        | true =>
          rw [if_pos rfl] at hif
          have NX := Lib.hid (fun u (g : Gr wr u) => (show PsAt p Y keep N (.slice (some ⟨b, off, none⟩) z lc) M A (s.calls + 1) T w (.int .i64 (n : Int)) (.int .i64 ((i : Int) + 1)) u from ⟨i + 1, n, t, by omega, by rw [Int.natCast_add]; rfl, rfl, by have := HI.out; omega, by have := HC.out; omega, hif, HQ.out.on g⟩))
          clear hif hlies hrow hdrop hx hNx hlt2 hhb hhas hown hD
          go_wp2_with (at_lookup; refine wpList_lookup_own_unit _ rfl _ _ 88 rfl 9 90 lawS Tryz.underlying88 (zeroU22 _) Y n8 D rfl HO.out _ _ rfl hkey ?_; rw [hhx])
          refine ⟨NX.out _ ?_, ?_⟩
          · exact ((Gr.refl _).alloc (Nat.le_refl _) _)
          · simp [intOf]; omega
        | false =>
          rw [if_neg (by decide)] at hif
          have RM := Lib.hid (fun u (g : Gr wr u) => Qs.call0 (X := fun e _ => e = .returned (.int .i64 (removeR t x.data.toList).2)) (HQ.out.on g) (fr_disk p _) fun B1 q => d_remove p t x (by have := hNx.2; omega) hNx.1 (by have := HC.out; have := H1.out; omega) u B1 q)
          obtain ⟨R, hR⟩ : ∃ R, removeR t x.data.toList = R := ⟨_, rfl⟩
          have hcr : R.1.calls = t.calls + 1 := by rw [← hR]; exact CmPlain.calls_remove t _
          rw [hR] at RM hif
          by_cases er : R.2 = 0
          · rw [if_pos er] at hif
            rw [er] at RM
            have n8' : (n : Int) ≤ 200 := by have := HI.out; omega
            have NX := Lib.hid (fun u (q : Qs A (DiskA p R.1 :: SetA Y keep :: SlA (.slice (some ⟨b, off, none⟩) z lc) N :: M) w u) => (show PsAt p Y keep N (.slice (some ⟨b, off, none⟩) z lc) M A (s.calls + 1) T w (.int .i64 ((n : Int) + 1)) (.int .i64 ((i : Int) + 1)) u from ⟨i + 1, n + 1, R.1, by omega, by rw [Int.natCast_add]; rfl, by rw [Int.natCast_add]; rfl, by have := HI.out; omega, by have := HC.out; omega, hif, q⟩))
            clear hif hlies hrow hdrop hx hNx hlt2 hhb hR hcr er hhas hown hD
            go_wp2_with (at_lookup; refine wpList_lookup_own_unit _ rfl _ _ 88 rfl 9 90 lawS Tryz.underlying88 (zeroU22 _) Y n8 D rfl HO.out _ _ rfl hkey ?_; rw [hhx])
            refine (RM.out _ ((Gr.refl _).alloc (Nat.le_refl _) _)).mono ?_; rintro e u3 ⟨rfl, q3⟩
            have N2 := Lib.hid (NX.out u3 q3)
            clear q3 NX RM
            go_wp2_with fail
            refine ⟨N2.out, ?_⟩
            simp [intOf]; omega
          · rw [if_neg er] at hif
            have qr : (R.2 != 0) = true := by simpa using er
            have FN := Lib.hid (fun u (q : Qs A (DiskA p R.1 :: SetA Y keep :: SlA (.slice (some ⟨b, off, none⟩) z lc) N :: M) w u) => (show Qs A (DiskA p R.1 :: M) w u from (q.perm ((List.Perm.swap _ _ _).trans (List.Perm.cons _ (List.Perm.swap _ _ _)))).tail.tail))
            have HT := Lib.hid hif
            clear hif hlies hrow hdrop hx hNx hlt2 hhb hR hcr er hhas hown hD
            go_wp2_with (at_lookup; refine wpList_lookup_own_unit _ rfl _ _ 88 rfl 9 90 lawS Tryz.underlying88 (zeroU22 _) Y n8 D rfl HO.out _ _ rfl hkey ?_; rw [hhx])
            refine (RM.out _ ((Gr.refl _).alloc (Nat.le_refl _) _)).mono ?_; rintro e u3 ⟨rfl, q3⟩
            have N2 := Lib.hid (FN.out u3 q3)
            clear q3 FN RM
            go_wp2_with fail
            go_ret2
            rw [← HT.out]
            exact ⟨rfl, N2.out⟩
      · obtain rfl : i = z := by omega
        have hT : T = (t, n, 0) := by
          have hif := HIF.out
          rw [List.drop_of_length_le (by rw [HZ.out]; omega)] at hif
          rw [← hif]
          rfl
        have HT := Lib.hid hT
        have FN := Lib.hid (show Qs A (DiskA p t :: M) w wr from (HQ.out.perm ((List.Perm.swap _ _ _).trans (List.Perm.cons _ (List.Perm.swap _ _ _)))).tail.tail)
        clear hT
        go_wp2_with fail
        go_ret2
        rw [HT.out]
        exact ⟨rfl, FN.out⟩
  · have hT2 : T = (s.call, 0, e0) := by
      rw [← hT]
      unfold sweepR
      rw [he0, if_neg h0]
    rw [hT]
    have q0 : (e0 != 0) = true := by simpa using h0
    have HT := Lib.hid hT2
    obtain ⟨z, hz⟩ : ∃ z, N.length = z := ⟨_, rfl⟩
    rw [hz] at LS
    clear hNr hNl hm hT he0 hN h h1 hk hks hr hkv hT2 h0 hz
    go_enter Tryz.func11, Tryz.ntmps11
    go_wp2_with fail
    refine LS.out.mono ?_; rintro e u1 ⟨la, lc, rfl, q1⟩
    have Q1 := Lib.hid (show Qs A (DiskA p s.call :: M) w u1 from ((q1.perm ((List.Perm.cons _ (List.perm_append_singleton _ _)).trans (List.Perm.swap _ _ _)))).tail)
    clear q1 LS
    go_wp2_with fail
    go_ret2
    rw [HT.out]
    exact ⟨rfl, Q1.out⟩
end Go.Proofs.YtignfbdgpgidpaaGreatDoor

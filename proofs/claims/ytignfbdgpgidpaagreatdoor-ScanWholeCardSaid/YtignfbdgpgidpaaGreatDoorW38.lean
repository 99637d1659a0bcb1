/- In one text: FsLs, ScRef1, ScRef2, ScSw. -/
import Derived.Test.YtignfbdgpgidpaaGreatDoorW37
import Derived.Test.YtignfbdgpgidpaaGreatDoorW22
import Derived.Test.YtignfbdgpgidpaaGreatDoorW19
import Derived.Test.YtignfbdgpgidpaaGreatDoorW23
import Derived.Test.YtignfbdgpgidpaaGreatDoorW29
/- The program's disk: List, its row apart from the disk. -/
namespace Go.Proofs.YtignfbdgpgidpaaGreatDoor
open Go.RowKit FsPlain
set_option linter.unusedVariables false
set_option linter.unusedSimpArgs false
set_option maxRecDepth 20000
def Listed18 (p : Nat) (s : St) (B : Nat → Prop) (w : World) (e : Ending) (w' : World) : Prop :=
  (s.call.down = true ∧ e = .returned (.tuple #[.slice none 0 0, .int .i64 5]) ∧ Next w p s.call B w') ∨
    (s.call.down = false ∧ ∃ v, e = .returned (.tuple #[v, .int .i64 0]) ∧ ∃ B', star (DiskA p s.call) (RowA v (listN s)) w' B' ∧ Nx B w B' w')
set_option maxHeartbeats 1000000 in
theorem list18_c (p : Nat) (s : St) (B : Nat → Prop) (w : World) (h : Disk w p s B) (h1 : s.calls ≤ 1000000000000) :
    Calls Tryz.prog 24 #[.pointer (some ⟨p, 0, none⟩)] w (Listed18 p s B w) := by
  obtain ⟨hs, m, L, hD⟩ := h
  have C := call_yes p m s w hD.heap (by have := hs.c0; omega) h1 (by have := hs.a0; omega) (by have := hs.a1; omega)
  have HS := Lib.hid hs
  have HD := Lib.hid hD
  clear hD hs
  have hc : s.call.code = if s.call.down = true then 5 else 0 := rfl
  cases hd : s.call.down
  · rw [hd] at hc
    rw [show s.call.code = 0 from hc] at C
    have HDN := Lib.hid hd
    clear hc hd
    go_enter Tryz.func24, Tryz.ntmps24
    go_wp2_with fail
    refine C.mono ?_; rintro e w2 ⟨rfl, k⟩
    have HK := Lib.hid k
    have D2 := Lib.hid (HD.out.called k)
    have N2 := Lib.hid (next_called HS.out D2.out k.2)
    have CN := Lib.hid (names_c p m s.call B L w2 (ok_call HS.out) D2.out)
    clear k C
    go_wp2_with fail
    refine (CN.out).mono ?_; rintro e w3 ⟨v, rfl, ho, g⟩
    have HO := Lib.hid ho
    have G := Lib.hid g
    have sh : ∃ a n c, v = .slice a n c := by
      rcases ho.2 with ⟨e, _⟩ | ⟨g, cap, cur, e, _⟩
      · exact ⟨none, 0, 0, e⟩
      · exact ⟨_, _, _, e⟩
    obtain ⟨a, n, c, rfl⟩ := sh
    clear ho g
    go_wp2_with fail
    go_ret2
    refine .inr ⟨HDN.out, _, rfl, ?_⟩
    obtain ⟨B', hdk, hol, hnw⟩ := N2.out
    have hfs : (L.map fun x => x.f.name) = s.fs.map fun f => f.name := by
      have h := D2.out.fs
      have h2 := congrArg (List.map fun f : F => f.name) h
      rw [List.map_map] at h2
      exact h2
    have ho := HO.out
    rw [hfs] at ho
    have e1 : strs (listN s) = ((s.fs.map fun f => f.name).mergeSort (fun x y => decide (x ≤ y))).map encStr := by
      unfold strs listN
      rw [List.map_map]
      rfl
    have e2 : (listN s).length = ((s.fs.map fun f => f.name).mergeSort (fun x y => decide (x ≤ y))).length := by unfold listN; rw [List.length_map]
    rw [← e1, ← e2] at ho
    obtain ⟨B2, k2, n2⟩ := row_of_own ho
    have hlow := fun b hb => Disk.low hdk b hb
    have hws : w.heap.size ≤ w2.heap.size := HK.out.2.size
    refine ⟨fun b => B' b ∨ B2 b, ⟨B', B2, hdk.only (Only.ofGr (B := fun _ => False) G.out) (fun _ _ e => e), k2, fun b h1 h2 => by have := hlow b h1; have := n2 b h2; omega, fun _ => Iff.rfl⟩, hol.trans (Only.ofGr G.out), fun b hb => ?_⟩
    rcases hb with hb | hb
    · exact hnw b hb
    · exact .inr (Nat.le_trans hws (n2 b hb))
  · rw [hd] at hc
    rw [show s.call.code = 5 from hc] at C
    have HDN := Lib.hid hd
    clear hc hd
    go_enter Tryz.func24, Tryz.ntmps24
    go_wp2_with fail
    refine C.mono ?_; rintro e w2 ⟨rfl, k⟩
    have N2 := Lib.hid (next_called HS.out (HD.out.called k) k.2)
    clear k C
    go_wp2_with fail
    go_ret2
    exact .inl ⟨HDN.out, rfl, N2.out⟩
end Go.Proofs.YtignfbdgpgidpaaGreatDoor
/- Both disks' List beside other parts; the document's has and Sweep. -/
namespace Go.Proofs.YtignfbdgpgidpaaGreatDoor
open Go.RowKit FsPlain ScPlain
set_option linter.unusedVariables false
set_option linter.unusedSimpArgs false
set_option maxRecDepth 20000
theorem plist_c (p : Nat) (s : St) (w : World) {B : Nat → Prop} (h : DiskA p s w B) (h1 : s.calls ≤ 1000000000000) :
    Calls Tryz.prog 24 #[.pointer (some ⟨p, 0, none⟩)] w (LsGot (DiskA p s.call) s B w) := by
  have hn : listN s = namesL s := by
    obtain ⟨_, m, L, hD⟩ := id h
    unfold listN namesL
    have h1 := hD.sorted
    have h2 : (L.map fun x => x.f.name) = s.fs.map fun f => f.name := by rw [← hD.fs, List.map_map]; rfl
    rw [h2] at h1
    rw [h1, List.map_map]
    rfl
  refine (list18_c p s B w h h1).mono ?_
  rintro e w' (⟨hdn, rfl, B1, hd, ho, hnw⟩ | ⟨hdn, v, rfl, B', hst, n⟩)
  · exact ls_down (T := DiskA p s.call) hdn hd ⟨ho, hnw⟩
  · rw [hn] at hst
    have e : listL s = namesL s := by unfold listL; rw [hdn]; rfl
    have ec : s.call.code = 0 := by rw [code_down, hdn]; rfl
    have hst2 := star_swap hst
    obtain ⟨B1, B2, hr, hd, a, eb⟩ := hst2
    have hl := row_lies hr
    obtain ⟨va, vc, rfl, _⟩ := id hl
    refine ⟨va, vc, by rw [e, ec], B', ⟨B1, B2, ?_, hd, a, eb⟩, n⟩
    rw [e]
    refine ⟨hl, hr.2.2, ?_⟩
    obtain ⟨_, _, e2, _, k⟩ := id hl
    rcases k with k | ⟨b, o, e3, _⟩
    · exact .inl k
    · simp only [Value.slice.injEq] at e2
      refine .inr ⟨b, o, _, _, by rw [e2.1, e3], hr.2.1 b (by rw [e2.1, e3]; rfl)⟩
theorem ps_list {F : FuncId} {args : Array Value} {A : Nat → Prop} {P T : Asn} {L : List Asn} {s : St} {w u : World} (h : Qs A (P :: L) w u) (hT : Fr T) (C : ∀ B1, P u B1 → Calls Tryz.prog F args u (LsGot T s B1 u)) :
    Calls Tryz.prog F args u fun e w' => ∃ (a : Option Addr) (c : Nat), e = .returned (.tuple #[.slice a (listL s).length c, .int .i64 s.call.code]) ∧ Qs A (T :: (L ++ [SlA (.slice a (listL s).length c) (listL s)])) w w' := by
  obtain ⟨hF, B, ⟨B1, B2, p, r, a, e⟩, n⟩ := h
  refine (C B1 p).mono ?_
  rintro e' w' ⟨a', c, rfl, B', q, n1⟩
  refine ⟨a', c, rfl, ?_⟩
  obtain ⟨B3, h3, n3⟩ := star_of (fr_stars hF.2) r a e q n1
  refine Qs.perm (L := SlA (.slice a' (listL s).length c) (listL s) :: T :: L) ⟨⟨fr_sl _ _, hT, hF.2⟩, B3, star_left h3, n.trans n3⟩ ?_
  exact (List.Perm.swap _ _ _).trans (List.Perm.cons _ (List.perm_append_singleton _ _).symm)
end Go.Proofs.YtignfbdgpgidpaaGreatDoor
/- The document's has and Sweep. -/
namespace Go.Proofs.YtignfbdgpgidpaaGreatDoor
open Go.RowKit FsPlain ScPlain
set_option linter.unusedVariables false
set_option linter.unusedSimpArgs false
set_option maxRecDepth 20000
end Go.Proofs.YtignfbdgpgidpaaGreatDoor
/- The program's Sweep. -/
namespace Go.Proofs.YtignfbdgpgidpaaGreatDoor
open Go.RowKit FsPlain ScPlain Go.Maps
set_option linter.unusedVariables false
set_option linter.unusedSimpArgs false
set_option maxRecDepth 20000
def PsAt (p Y : Nat) (keep N : List ByteArray) (lv : Value) (M : List Asn) (A : Nat → Prop) (c0 : Int) (T : St × Nat × Int) (w : World) (vn vi : Value) (wr : World) : Prop :=
  ∃ (i n : Nat) (t : St), i ≤ N.length ∧ vi = .int .i64 (i : Int) ∧ vn = .int .i64 (n : Int) ∧ n ≤ i ∧ t.calls ≤ c0 + i ∧ sweepL keep (N.drop i) t n = T ∧ Qs A (DiskA p t :: SetA Y keep :: SlA lv N :: M) w wr
set_option maxHeartbeats 4000000 in
theorem psweep_c {A : Nat → Prop} {M : List Asn} {w u : World} {p : Nat} {s : St} {kv : Value} {keep : List ByteArray} (h : Qs A (DiskA p s :: M) w u) (h1 : s.calls ≤ 1000000000) (hk : keep.length ≤ 1000000) (hks : ∀ x ∈ keep, x.size ≤ maxLen) (hr : ∀ f ∈ s.fs, rightB f.name = true) (hkv : ∀ (P : List Asn) (wr : World), Qs A (P ++ M) w wr → Lies wr kv keep) :
    Calls Tryz.prog 11 #[.pointer (some ⟨p, 0, none⟩), kv] u fun e w' => e = .returned (.tuple #[.int .i64 ((sweepR keep s).2.1 : Int), .int .i64 (sweepR keep s).2.2]) ∧ Qs A (DiskA p (sweepR keep s).1 :: M) w w' := by
  have hm : s.fs.length ≤ 200 := by obtain ⟨_, q⟩ := h.part 0 rfl; exact q.1.m
  have LS := Lib.hid (ps_list h (fr_disk p s.call) fun B1 q => plist_c p s u q (by omega))
  obtain ⟨N, hN⟩ : ∃ N, listL s = N := ⟨_, rfl⟩
  obtain ⟨T, hT⟩ : ∃ T, sweepR keep s = T := ⟨_, rfl⟩
  obtain ⟨e0, he0⟩ : ∃ e, s.call.code = e := ⟨_, rfl⟩
  have hNr : ∀ x ∈ N, rightB x.data.toList = true ∧ x.size ≤ 24 := by
    intro x hx
    rw [← hN] at hx
    unfold listL at hx
    split at hx
    · cases hx
    · unfold namesL at hx
      obtain ⟨f, hf, rfl⟩ := List.mem_map.1 hx
      have := hr f hf
      refine ⟨by simpa [bs] using this, ?_⟩
      unfold rightB at this
      simp only [Bool.and_eq_true, decide_eq_true_eq] at this
      rw [bs_size]; exact this.2.2
  have hNl : N.length ≤ 200 := by
    rw [← hN]
    unfold listL namesL
    split
    · exact Nat.zero_le _
    · rw [List.length_map]; exact hm
  rw [hN, he0] at LS
  by_cases h0 : e0 = 0
  · have hstart : sweepL keep (N.drop 0) s.call 0 = T := by
      rw [← hT]
      unfold sweepR
      rw [he0, if_pos h0, hN]
      rfl
    rw [hT]
    subst h0
    have HST := Lib.hid hstart
    have HNR := Lib.hid hNr
    have C0 := Lib.hid (show s.call.calls ≤ s.calls + 1 from Int.le_refl _)
    have H1 := Lib.hid h1
    have HK := Lib.hid hk
    have HKS := Lib.hid hks
    have HKV := Lib.hid hkv
    obtain ⟨z, hz⟩ : ∃ z, N.length = z := ⟨_, rfl⟩
    have HZ := Lib.hid hz
    rw [hz] at LS hNl
    clear hstart hNr hm hT he0 hN h h1 hk hks hr hz hkv
    go_enter Tryz.func11, Tryz.ntmps11
    go_wp2_with fail
    refine LS.out.mono ?_; rintro e u1 ⟨la, lc, rfl, q1⟩
    have Q1 := Lib.hid (show Qs A (DiskA p s.call :: SlA (.slice la z lc) N :: M) w u1 from q1.perm (by
      refine (List.Perm.cons _ ?_)
      exact List.perm_append_singleton _ _))
    have SC := Lib.hid (set22_c kv keep u1 (HKV.out [DiskA p s.call, SlA (.slice la z lc) N] u1 Q1.out) HK.out HKS.out)
    clear q1 LS
    go_wp2_with fail
    refine SC.out.mono ?_; rintro e u2 ⟨Y, rfl, hY, hYn, g2⟩
    have Q2 := Lib.hid (show Qs A (DiskA p s.call :: SetA Y keep :: SlA (.slice la z lc) N :: M) w u2 from (Qs.new Q1.out g2 (fr_set22 Y keep) (B' := fun i => i = Y) ⟨hY, fun _ => Iff.rfl⟩ (fun x hx => by rw [hx]; exact hYn)).perm (List.Perm.swap _ _ _))
    clear hY hYn g2 SC Q1
    go_wp2_with fail
    go_loopw [9, 27] (fun vn vi wr => PsAt p Y keep N (.slice la z lc) M A (s.calls + 1) T w vn vi wr) (fun _ vi _ => z - (intOf vi).toNat)
    case atStart => exact ⟨0, 0, s.call, Nat.zero_le _, rfl, rfl, Nat.le_refl _, by have := C0.out; omega, HST.out, Q2.out⟩
    case round =>
      obtain ⟨i, n, t, hi, rfl, rfl, hni, hc, hif, q⟩ := hrel
      have HQ := Lib.hid q
      have HC := Lib.hid hc
      have HIF := Lib.hid hif
      rw [HZ.out] at hi
      have HI := Lib.hid (And.intro hi hni)
      clear q hc hif HST C0 Q2
      by_cases hlt : i < z
      · obtain ⟨_, hlies⟩ := HQ.out.part 2 rfl
        obtain ⟨_, ⟨n8, D, hown, hD, hhas⟩, _⟩ := HQ.out.part 1 rfl
        have hlt2 : i < N.length := by rw [HZ.out]; exact hlt
        obtain ⟨x, hx⟩ : ∃ x, N[i] = x := ⟨_, rfl⟩
        have hNx := HNR.out x (by rw [← hx]; exact List.getElem_mem hlt2)
        obtain ⟨a', c', ea, _, hor⟩ := hlies.1
        obtain ⟨b, off, e2, hrow⟩ := hor.resolve_left (fun e => by rw [e] at hlt2; cases hlt2)
        simp only [Value.slice.injEq] at ea
        obtain ⟨rfl, -, rfl⟩ := ea
        subst e2
        clear hor
        have k0 := hrow.2 i _ (List.getElem?_eq_getElem hlt2)
        rw [hx] at k0
        have hdrop : N.drop i = x :: N.drop (i + 1) := by rw [List.drop_eq_getElem_cons hlt2, hx]
        have hif := HIF.out
        rw [hdrop] at hif
        unfold sweepL at hif
        have hkey := WideMaps.keyOf_string_mk (P := Tryz.prog) (k := 9) Tryz.underlying9 (s := x) (by have := hNx.2; unfold maxLen; omega)
        have hhx := hhas x
        obtain ⟨hb, hhb⟩ : ∃ r, hasB keep x = r := ⟨_, rfl⟩
        rw [hhb] at hif hhx
        have q1 : (i : Int) < (z : Int) := by omega
        have HO := Lib.hid hown
        cases hb with
        | true =>
          rw [if_pos rfl] at hif
          have NX := Lib.hid (fun u (g : Gr wr u) => (show PsAt p Y keep N (.slice (some ⟨b, off, none⟩) z lc) M A (s.calls + 1) T w (.int .i64 (n : Int)) (.int .i64 ((i : Int) + 1)) u from ⟨i + 1, n, t, by omega, by rw [Int.natCast_add]; rfl, rfl, by have := HI.out; omega, by have := HC.out; omega, hif, HQ.out.on g⟩))
          clear hif hlies hrow hdrop hx hNx hlt2 hhb hhas hown hD
          go_wp2_with (at_lookup; refine wpList_lookup_own_unit _ rfl _ _ 88 rfl 9 90 lawS Tryz.underlying88 (zeroU22 _) Y n8 D rfl HO.out _ _ rfl hkey ?_; rw [hhx])
          refine ⟨NX.out _ ?_, ?_⟩
          · exact ((Gr.refl _).alloc (Nat.le_refl _) _)
          · simp [intOf]; omega
        | false =>
          rw [if_neg (by decide)] at hif
          have RM := Lib.hid (fun u (g : Gr wr u) => Qs.call0 (X := fun e _ => e = .returned (.int .i64 (removeR t x.data.toList).2)) (HQ.out.on g) (fr_disk p _) fun B1 q => d_remove p t x (by have := hNx.2; omega) hNx.1 (by have := HC.out; have := H1.out; omega) u B1 q)
          obtain ⟨R, hR⟩ : ∃ R, removeR t x.data.toList = R := ⟨_, rfl⟩
          have hcr : R.1.calls = t.calls + 1 := by rw [← hR]; exact CmPlain.calls_remove t _
          rw [hR] at RM hif
          by_cases er : R.2 = 0
          · rw [if_pos er] at hif
            rw [er] at RM
            have n8' : (n : Int) ≤ 200 := by have := HI.out; omega
            have NX := Lib.hid (fun u (q : Qs A (DiskA p R.1 :: SetA Y keep :: SlA (.slice (some ⟨b, off, none⟩) z lc) N :: M) w u) => (show PsAt p Y keep N (.slice (some ⟨b, off, none⟩) z lc) M A (s.calls + 1) T w (.int .i64 ((n : Int) + 1)) (.int .i64 ((i : Int) + 1)) u from ⟨i + 1, n + 1, R.1, by omega, by rw [Int.natCast_add]; rfl, by rw [Int.natCast_add]; rfl, by have := HI.out; omega, by have := HC.out; omega, hif, q⟩))
            clear hif hlies hrow hdrop hx hNx hlt2 hhb hR hcr er hhas hown hD
            go_wp2_with (at_lookup; refine wpList_lookup_own_unit _ rfl _ _ 88 rfl 9 90 lawS Tryz.underlying88 (zeroU22 _) Y n8 D rfl HO.out _ _ rfl hkey ?_; rw [hhx])
            refine (RM.out _ ((Gr.refl _).alloc (Nat.le_refl _) _)).mono ?_; rintro e u3 ⟨rfl, q3⟩
            have N2 := Lib.hid (NX.out u3 q3)
            clear q3 NX RM
            go_wp2_with fail
            refine ⟨N2.out, ?_⟩
            simp [intOf]; omega
          · rw [if_neg er] at hif
            have qr : (R.2 != 0) = true := by simpa using er
            have FN := Lib.hid (fun u (q : Qs A (DiskA p R.1 :: SetA Y keep :: SlA (.slice (some ⟨b, off, none⟩) z lc) N :: M) w u) => (show Qs A (DiskA p R.1 :: M) w u from (q.perm ((List.Perm.swap _ _ _).trans (List.Perm.cons _ (List.Perm.swap _ _ _)))).tail.tail))
            have HT := Lib.hid hif
            clear hif hlies hrow hdrop hx hNx hlt2 hhb hR hcr er hhas hown hD
            go_wp2_with (at_lookup; refine wpList_lookup_own_unit _ rfl _ _ 88 rfl 9 90 lawS Tryz.underlying88 (zeroU22 _) Y n8 D rfl HO.out _ _ rfl hkey ?_; rw [hhx])
            refine (RM.out _ ((Gr.refl _).alloc (Nat.le_refl _) _)).mono ?_; rintro e u3 ⟨rfl, q3⟩
            have N2 := Lib.hid (FN.out u3 q3)
            clear q3 FN RM
            go_wp2_with fail
            go_ret2
            rw [← HT.out]
            exact ⟨rfl, N2.out⟩
      · obtain rfl : i = z := by omega
        have hT : T = (t, n, 0) := by
          have hif := HIF.out
          rw [List.drop_of_length_le (by rw [HZ.out]; omega)] at hif
          rw [← hif]
          rfl
        have HT := Lib.hid hT
        have FN := Lib.hid (show Qs A (DiskA p t :: M) w wr from (HQ.out.perm ((List.Perm.swap _ _ _).trans (List.Perm.cons _ (List.Perm.swap _ _ _)))).tail.tail)
        clear hT
        go_wp2_with fail
        go_ret2
        rw [HT.out]
        exact ⟨rfl, FN.out⟩
  · have hT2 : T = (s.call, 0, e0) := by
      rw [← hT]
      unfold sweepR
      rw [he0, if_neg h0]
    rw [hT]
    have q0 : (e0 != 0) = true := by simpa using h0
    have HT := Lib.hid hT2
    obtain ⟨z, hz⟩ : ∃ z, N.length = z := ⟨_, rfl⟩
    rw [hz] at LS
    clear hNr hNl hm hT he0 hN h h1 hk hks hr hkv hT2 h0 hz
    go_enter Tryz.func11, Tryz.ntmps11
    go_wp2_with fail
    refine LS.out.mono ?_; rintro e u1 ⟨la, lc, rfl, q1⟩
    have Q1 := Lib.hid (show Qs A (DiskA p s.call :: M) w u1 from ((q1.perm ((List.Perm.cons _ (List.perm_append_singleton _ _)).trans (List.Perm.swap _ _ _)))).tail)
    clear q1 LS
    go_wp2_with fail
    go_ret2
    rw [HT.out]
    exact ⟨rfl, Q1.out⟩
end Go.Proofs.YtignfbdgpgidpaaGreatDoor

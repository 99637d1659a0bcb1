/- In one text: ScSw, ScArg, FsBad. -/
import Derived.Test.YtignfbdgpgidpaaGreatDoorS10
import Derived.Test.YtignfbdgpgidpaaGreatDoorS15
import Derived.Test.YtignfbdgpgidpaaGreatDoorS30
import Derived.Test.YtignfbdgpgidpaaGreatDoorS18
import Derived.Test.YtignfbdgpgidpaaGreatDoorS05
import Derived.Test.YtignfbdgpgidpaaGreatDoorS16
/- The program's Sweep. -/
namespace Go.Proofs.YtignfbdgpgidpaaGreatDoor
open Go.RowKit FsPlain ScPlain Go.Maps
set_option linter.unusedVariables false
set_option linter.unusedSimpArgs false
set_option maxRecDepth 20000
def PsAt (p Y : Nat) (keep N : List ByteArray) (lv : Value) (M : List Asn) (A : Nat → Prop) (c0 : Int) (T : St × Nat × Int) (w : World) (vn vi : Value) (wr : World) : Prop :=
  ∃ (i n : Nat) (t : St), i ≤ N.length ∧ vi = .int .i64 (i : Int) ∧ vn = .int .i64 (n : Int) ∧ n ≤ i ∧ t.calls ≤ c0 + i ∧ sweepL keep (N.drop i) t n = T ∧ Qs A (DiskA p t :: SetA Y keep :: SlA lv N :: M) w wr
set_option maxHeartbeats 4000000 in
theorem psweep_c {A : Nat → Prop} {M : List Asn} {w u : World} {p : Nat} {s : St} {kv : Value} {keep : List ByteArray} (h : Qs A (DiskA p s :: M) w u) (h1 : s.calls ≤ 1000000000) (hk : keep.length ≤ 1000000) (hks : ∀ x ∈ keep, x.size ≤ maxLen) (hr : ∀ f ∈ s.fs, rightB f.name = true) (hkv : ∀ (P : List Asn) (wr : World), Qs A (P ++ M) w wr → Lies wr kv keep) :
    Calls Tryz.prog 11 #[.pointer (some ⟨p, 0, none⟩), kv] u fun e w' => e = .returned (.tuple #[.int .i64 ((sweepR keep s).2.1 : Int), .int .i64 (sweepR keep s).2.2]) ∧ Qs A (DiskA p (sweepR keep s).1 :: M) w w' := by
  have hm : s.fs.length ≤ 200 := by obtain ⟨_, q⟩ := h.part 0 rfl; exact q.1.m
  have LS := Lib.hid (ps_list h (fr_disk p s.call) fun B1 q => plist_c p s u q (by omega))
  obtain ⟨N, hN⟩ : ∃ N, listL s = N := ⟨_, rfl⟩
  obtain ⟨T, hT⟩ : ∃ T, sweepR keep s = T := ⟨_, rfl⟩
  obtain ⟨e0, he0⟩ : ∃ e, s.call.code = e := ⟨_, rfl⟩
  have hNr : ∀ x ∈ N, rightB x.data.toList = true ∧ x.size ≤ 24 := by
    intro x hx
    rw [← hN] at hx
    unfold listL at hx
    split at hx
    · cases hx
    · unfold namesL at hx
      obtain ⟨f, hf, rfl⟩ := List.mem_map.1 hx
      have := hr f hf
      refine ⟨by simpa [bs] using this, ?_⟩
      unfold rightB at this
      simp only [Bool.and_eq_true, decide_eq_true_eq] at this
      rw [bs_size]; exact this.2.2
  have hNl : N.length ≤ 200 := by
    rw [← hN]
    unfold listL namesL
    split
    · exact Nat.zero_le _
    · rw [List.length_map]; exact hm
  rw [hN, he0] at LS
  by_cases h0 : e0 = 0
  · have hstart : sweepL keep (N.drop 0) s.call 0 = T := by
      rw [← hT]
      unfold sweepR
      rw [he0, if_pos h0, hN]
      rfl
    rw [hT]
    subst h0
    have HST := Lib.hid hstart
    have HNR := Lib.hid hNr
    have C0 := Lib.hid (show s.call.calls ≤ s.calls + 1 from Int.le_refl _)
    have H1 := Lib.hid h1
    have HK := Lib.hid hk
    have HKS := Lib.hid hks
    have HKV := Lib.hid hkv
    obtain ⟨z, hz⟩ : ∃ z, N.length = z := ⟨_, rfl⟩
    have HZ := Lib.hid hz
    rw [hz] at LS hNl
    clear hstart hNr hm hT he0 hN h h1 hk hks hr hz hkv
    go_enter Tryz.func11, Tryz.ntmps11
    go_wp2_with fail
    refine LS.out.mono ?_; rintro e u1 ⟨la, lc, rfl, q1⟩
    have Q1 := Lib.hid (show Qs A (DiskA p s.call :: SlA (.slice la z lc) N :: M) w u1 from q1.perm (by
      refine (List.Perm.cons _ ?_)
      exact List.perm_append_singleton _ _))
    have SC := Lib.hid (set22_c kv keep u1 (HKV.out [DiskA p s.call, SlA (.slice la z lc) N] u1 Q1.out) HK.out HKS.out)
    clear q1 LS
    go_wp2_with fail
    refine SC.out.mono ?_; rintro e u2 ⟨Y, rfl, hY, hYn, g2⟩
    have Q2 := Lib.hid (show Qs A (DiskA p s.call :: SetA Y keep :: SlA (.slice la z lc) N :: M) w u2 from (Qs.new Q1.out g2 (fr_set22 Y keep) (B' := fun i => i = Y) ⟨hY, fun _ => Iff.rfl⟩ (fun x hx => by rw [hx]; exact hYn)).perm (List.Perm.swap _ _ _))
    clear hY hYn g2 SC Q1
    go_wp2_with fail
    go_loopw [9, 27] (fun vn vi wr => PsAt p Y keep N (.slice la z lc) M A (s.calls + 1) T w vn vi wr) (fun _ vi _ => z - (intOf vi).toNat)
    case atStart => exact ⟨0, 0, s.call, Nat.zero_le _, rfl, rfl, Nat.le_refl _, by have := C0.out; omega, HST.out, Q2.out⟩
    case round =>
      obtain ⟨i, n, t, hi, rfl, rfl, hni, hc, hif, q⟩ := hrel
      have HQ := Lib.hid q
      have HC := Lib.hid hc
      have HIF := Lib.hid hif
      rw [HZ.out] at hi
      have HI := Lib.hid (And.intro hi hni)
      clear q hc hif HST C0 Q2
      by_cases hlt : i < z
      · obtain ⟨_, hlies⟩ := HQ.out.part 2 rfl
        obtain ⟨_, ⟨n8, D, hown, hD, hhas⟩, _⟩ := HQ.out.part 1 rfl
        have hlt2 : i < N.length := by rw [HZ.out]; exact hlt
        obtain ⟨x, hx⟩ : ∃ x, N[i] = x := ⟨_, rfl⟩
        have hNx := HNR.out x (by rw [← hx]; exact List.getElem_mem hlt2)
        obtain ⟨a', c', ea, _, hor⟩ := hlies.1
        obtain ⟨b, off, e2, hrow⟩ := hor.resolve_left (fun e => by rw [e] at hlt2; cases hlt2)
        simp only [Value.slice.injEq] at ea
        obtain ⟨rfl, -, rfl⟩ := ea
        subst e2
        clear hor
        have k0 := hrow.2 i _ (List.getElem?_eq_getElem hlt2)
        rw [hx] at k0
        have hdrop : N.drop i = x :: N.drop (i + 1) := by rw [List.drop_eq_getElem_cons hlt2, hx]
        have hif := HIF.out
        rw [hdrop] at hif
        unfold sweepL at hif
        have hkey := WideMaps.keyOf_string_mk (P := Tryz.prog) (k := 9) Tryz.underlying9 (s := x) (by have := hNx.2; unfold maxLen; omega)
        have hhx := hhas x
        obtain ⟨hb, hhb⟩ : ∃ r, hasB keep x = r := ⟨_, rfl⟩
        rw [hhb] at hif hhx
        have q1 : (i : Int) < (z : Int) := by omega
        have HO := Lib.hid hown
        cases hb with
        | true =>
          rw [if_pos rfl] at hif
          have NX := Lib.hid (fun u (g : Gr wr u) => (show PsAt p Y keep N (.slice (some ⟨b, off, none⟩) z lc) M A (s.calls + 1) T w (.int .i64 (n : Int)) (.int .i64 ((i : Int) + 1)) u from ⟨i + 1, n, t, by omega, by rw [Int.natCast_add]; rfl, rfl, by have := HI.out; omega, by have := HC.out; omega, hif, HQ.out.on g⟩))
          clear hif hlies hrow hdrop hx hNx hlt2 hhb hhas hown hD
          go_wp2_with (at_lookup; refine wpList_lookup_own_unit _ rfl _ _ 88 rfl 9 90 lawS Tryz.underlying88 (zeroU22 _) Y n8 D rfl HO.out _ _ rfl hkey ?_; rw [hhx])
          refine ⟨NX.out _ ?_, ?_⟩
          · exact ((Gr.refl _).alloc (Nat.le_refl _) _)
          · simp [intOf]; omega
        | false =>
          rw [if_neg (by decide)] at hif
          have RM := Lib.hid (fun u (g : Gr wr u) => Qs.call0 (X := fun e _ => e = .returned (.int .i64 (removeR t x.data.toList).2)) (HQ.out.on g) (fr_disk p _) fun B1 q => d_remove p t x (by have := hNx.2; omega) hNx.1 (by have := HC.out; have := H1.out; omega) u B1 q)
          obtain ⟨R, hR⟩ : ∃ R, removeR t x.data.toList = R := ⟨_, rfl⟩
          have hcr : R.1.calls = t.calls + 1 := by rw [← hR]; exact CmPlain.calls_remove t _
          rw [hR] at RM hif
          by_cases er : R.2 = 0
          · rw [if_pos er] at hif
            rw [er] at RM
            have n8' : (n : Int) ≤ 200 := by have := HI.out; omega
            have NX := Lib.hid (fun u (q : Qs A (DiskA p R.1 :: SetA Y keep :: SlA (.slice (some ⟨b, off, none⟩) z lc) N :: M) w u) => (show PsAt p Y keep N (.slice (some ⟨b, off, none⟩) z lc) M A (s.calls + 1) T w (.int .i64 ((n : Int) + 1)) (.int .i64 ((i : Int) + 1)) u from ⟨i + 1, n + 1, R.1, by omega, by rw [Int.natCast_add]; rfl, by rw [Int.natCast_add]; rfl, by have := HI.out; omega, by have := HC.out; omega, hif, q⟩))
            clear hif hlies hrow hdrop hx hNx hlt2 hhb hR hcr er hhas hown hD
            go_wp2_with (at_lookup; refine wpList_lookup_own_unit _ rfl _ _ 88 rfl 9 90 lawS Tryz.underlying88 (zeroU22 _) Y n8 D rfl HO.out _ _ rfl hkey ?_; rw [hhx])
            refine (RM.out _ ((Gr.refl _).alloc (Nat.le_refl _) _)).mono ?_; rintro e u3 ⟨rfl, q3⟩
            have N2 := Lib.hid (NX.out u3 q3)
            clear q3 NX RM
            go_wp2_with fail
            refine ⟨N2.out, ?_⟩
            simp [intOf]; omega
          · rw [if_neg er] at hif
            have qr : (R.2 != 0) = true := by simpa using er
            have FN := Lib.hid (fun u (q : Qs A (DiskA p R.1 :: SetA Y keep :: SlA (.slice (some ⟨b, off, none⟩) z lc) N :: M) w u) => (show Qs A (DiskA p R.1 :: M) w u from (q.perm ((List.Perm.swap _ _ _).trans (List.Perm.cons _ (List.Perm.swap _ _ _)))).tail.tail))
            have HT := Lib.hid hif
            clear hif hlies hrow hdrop hx hNx hlt2 hhb hR hcr er hhas hown hD
            go_wp2_with (at_lookup; refine wpList_lookup_own_unit _ rfl _ _ 88 rfl 9 90 lawS Tryz.underlying88 (zeroU22 _) Y n8 D rfl HO.out _ _ rfl hkey ?_; rw [hhx])
            refine (RM.out _ ((Gr.refl _).alloc (Nat.le_refl _) _)).mono ?_; rintro e u3 ⟨rfl, q3⟩
            have N2 := Lib.hid (FN.out u3 q3)
            clear q3 FN RM
            go_wp2_with fail
            go_ret2
            rw [← HT.out]
            exact ⟨rfl, N2.out⟩
      · obtain rfl : i = z := by omega
        have hT : T = (t, n, 0) := by
          have hif := HIF.out
          rw [List.drop_of_length_le (by rw [HZ.out]; omega)] at hif
          rw [← hif]
          rfl
        have HT := Lib.hid hT
        have FN := Lib.hid (show Qs A (DiskA p t :: M) w wr from (HQ.out.perm ((List.Perm.swap _ _ _).trans (List.Perm.cons _ (List.Perm.swap _ _ _)))).tail.tail)
        clear hT
        go_wp2_with fail
        go_ret2
        rw [HT.out]
        exact ⟨rfl, FN.out⟩
  · have hT2 : T = (s.call, 0, e0) := by
      rw [← hT]
      unfold sweepR
      rw [he0, if_neg h0]
    rw [hT]
    have q0 : (e0 != 0) = true := by simpa using h0
    have HT := Lib.hid hT2
    obtain ⟨z, hz⟩ : ∃ z, N.length = z := ⟨_, rfl⟩
    rw [hz] at LS
    clear hNr hNl hm hT he0 hN h h1 hk hks hr hkv hT2 h0 hz
    go_enter Tryz.func11, Tryz.ntmps11
    go_wp2_with fail
    refine LS.out.mono ?_; rintro e u1 ⟨la, lc, rfl, q1⟩
    have Q1 := Lib.hid (show Qs A (DiskA p s.call :: M) w u1 from ((q1.perm ((List.Perm.cons _ (List.perm_append_singleton _ _)).trans (List.Perm.swap _ _ _)))).tail)
    clear q1 LS
    go_wp2_with fail
    go_ret2
    rw [HT.out]
    exact ⟨rfl, Q1.out⟩
end Go.Proofs.YtignfbdgpgidpaaGreatDoor
/- An argument that is a slice of the document's files. -/
namespace Go.Proofs.YtignfbdgpgidpaaGreatDoor
open Go.RowKit Go.ChangeShapes Go.WideShapes Go.Deep
set_option linter.unusedVariables false
set_option linter.unusedSimpArgs false
set_option maxRecDepth 20000
structure Fy where
  name : ByteArray
  data : ByteArray
def FyAt (w : World) (b o : Nat) (x : Fy) : Prop := w.cell? ⟨b, o, none⟩ = some (.string x.name) ∧ w.cell? ⟨b, o + 1, none⟩ = some (.string x.data)
def LiesFy (w : World) (v : Value) (l : List Fy) : Prop := ∃ a c, v = .slice a l.length c ∧ l.length ≤ c ∧ (l = [] ∨ ∃ b o, a = some ⟨b, o, none⟩ ∧ b < w.heap.size ∧ ∀ (j : Nat) (x : Fy), l[j]? = some x → FyAt w b (o + j * 3) x)
def fyK (x : Fy) : Prop := x.name.size ≤ maxLen ∧ x.data.size ≤ maxLen
theorem LiesFy.gr {w w' : World} {v : Value} {l : List Fy} (h : LiesFy w v l) (g : Gr w w') : LiesFy w' v l := by
  obtain ⟨a, c, e, hc, h⟩ := h
  exact ⟨a, c, e, hc, h.imp id fun ⟨b, o, e2, hb, k⟩ => ⟨b, o, e2, Nat.lt_of_lt_of_le hb g.size, fun j x hj => ⟨(Below.cell g (p := ⟨b, _, none⟩) hb).trans (k j x hj).1, (Below.cell g (p := ⟨b, _, none⟩) hb).trans (k j x hj).2⟩⟩⟩
theorem fy_get {w : World} {a : Option Addr} {n c : Nat} {l : List Fy} (h : LiesFy w (.slice a n c) l) {i : Nat} (hi : i < l.length) : n = l.length ∧ n ≤ c ∧ ∃ b o, a = some ⟨b, o, none⟩ ∧ b < w.heap.size ∧ FyAt w b (o + i * 3) l[i] := by
  obtain ⟨a', c', e, hc, h⟩ := h
  simp only [Value.slice.injEq] at e
  obtain ⟨rfl, rfl, rfl⟩ := e
  rcases h with rfl | ⟨b, o, rfl, h1, h2⟩
  · simp at hi
  · exact ⟨rfl, hc, b, o, rfl, h1, h2 i _ (List.getElem?_eq_getElem hi)⟩
theorem fy_of {W : World} {H : Type} {enc : TypeId × Value → H} {fuel : Nat} {y : DataW H × List MemPlace} {c0 c1 c2 : Value} (h : DataW.trod enc Tryz.prog W 0 (fun _ => true) true fuel 56 [c0, c1, c2] = some y) :
    ∃ x : Fy, c0 = .string x.name ∧ c1 = .string x.data ∧ fyK x := by
  obtain ⟨xs, n, _, hx, _, hlen, hg⟩ := DataW.trod_struct Tryz.underlying56 h
  have k0 : Tryz.prog.cellsOf 9 = 1 := by kernel_rfl
  have g0 : DataW.trod enc Tryz.prog W 0 (fun _ => true) true n 9 ((([c0, c1, c2] : List Value).drop 0).take (Tryz.prog.cellsOf 9)) = xs[0]? := hg 0 _ rfl
  have g1 : DataW.trod enc Tryz.prog W 0 (fun _ => true) true n 9 ((([c0, c1, c2] : List Value).drop 1).take (Tryz.prog.cellsOf 9)) = xs[1]? := hg 1 _ rfl
  have hl : xs.length = 3 := hlen
  rw [k0, List.getElem?_eq_getElem (by omega)] at g0
  rw [k0, List.getElem?_eq_getElem (by omega)] at g1
  obtain ⟨s, e0, b0⟩ := rd_string Tryz.underlying9 ⟨H, enc, n, _, g0⟩
  obtain ⟨t, e1, b1⟩ := rd_string Tryz.underlying9 ⟨H, enc, n, _, g1⟩
  exact ⟨⟨s, t⟩, e0, e1, b0, b1⟩
theorem liesFy_in {w : World} {t : TypeId} {v : Value} (ht : Tryz.prog.underlying t = some (.slice 56)) (h : Rd Tryz.prog w t v) : ∃ l : List Fy, LiesFy w v l ∧ l.length ≤ maxLen ∧ ∀ x ∈ l, fyK x := by
  obtain ⟨H, enc, fuel, y, h⟩ := h
  rcases open_slice ht h with ⟨h1, _⟩ | ⟨a, len, cap, m, n, D, Pl, h1, hb, hl, hm, hmm, _, hi⟩
  · exact ⟨[], ⟨none, 0, by simpa using h1, Nat.le_refl _, .inl rfl⟩, by simp, by simp⟩
  · have hv : v = .slice (some a) len cap := by simpa using h1
    simp only [if_true] at hmm
    subst hmm
    have k3 : Tryz.prog.cellsOf 56 = 3 := by kernel_rfl
    have el : ∀ i, i < len → ∃ x : Fy, (w.cell? (a.add (i * 3)) = some (.string x.name) ∧ w.cell? (a.add (i * 3 + 1)) = some (.string x.data)) ∧ fyK x := by
      intro i hlt
      obtain ⟨cs', hcs, htr⟩ := hi i (by omega)
      rw [k3] at hcs
      obtain ⟨_, hcl, hat⟩ := World.cells?_some hcs
      match cs', hcl with
      | [c0, c1, c2], _ =>
        obtain ⟨x, rfl, rfl, h3⟩ := fy_of htr
        refine ⟨x, ⟨?_, ?_⟩, h3⟩
        · have := hat (i := 0) (by omega); rw [Go.Deep.add_add] at this; simpa using this
        · have := hat (i := 1) (by omega); rw [Go.Deep.add_add] at this; simpa using this
    by_cases h0 : len = 0
    · subst h0
      exact ⟨[], ⟨some a, m, hv, Nat.zero_le _, .inl rfl⟩, by simp, by simp⟩
    · obtain ⟨x0, hx0, _⟩ := el 0 (by omega)
      have hspot : a.spot = none := by simpa [Addr.add] using World.cell?_spot hx0.1
      have hlt : a.block < w.heap.size := by simpa [Addr.add] using World.block_lt_of_cell? w _ hx0.1
      obtain ⟨b, off, spot⟩ := a
      simp only at hspot hlt
      subst hspot
      have hex : ∀ i : Nat, ∃ x : Fy, i < len → FyAt w b (off + i * 3) x ∧ fyK x := by
        intro i
        by_cases h : i < len
        · obtain ⟨x, ⟨q0, q1⟩, hx⟩ := el i h
          rw [add_lit19] at q0 q1
          exact ⟨x, fun _ => ⟨⟨q0, by rw [Nat.add_assoc]; exact q1⟩, hx⟩⟩
        · exact ⟨x0, fun h' => absurd h' h⟩
      obtain ⟨f, hf⟩ := Classical.axiomOfChoice hex
      refine ⟨(List.range len).map f, ⟨some ⟨b, off, none⟩, m, by rw [hv]; simp, by simpa using hl, .inr ⟨b, off, rfl, hlt, ?_⟩⟩, by simp; omega, ?_⟩
      · intro j x hj
        rw [List.getElem?_map, Option.map_eq_some_iff] at hj
        obtain ⟨i, hi1, rfl⟩ := hj
        obtain ⟨hi2, rfl⟩ := List.getElem?_eq_some_iff.1 hi1
        simp only [List.getElem_range]
        exact (hf j (by simpa using hi2)).1
      · intro x hx
        obtain ⟨i, hi1, rfl⟩ := List.mem_map.1 hx
        exact (hf i (List.mem_range.1 hi1)).2
end Go.Proofs.YtignfbdgpgidpaaGreatDoor
/- Both disks: Create and Append of whatever name. -/
namespace Go.Proofs.YtignfbdgpgidpaaGreatDoor
open Go.RowKit FsPlain
set_option linter.unusedVariables false
set_option linter.unusedSimpArgs false
set_option maxRecDepth 20000
def createX (s : St) (n : List UInt8) : St × Int := if rightB n = true then createR s n else (s, 1)
def appendX (s : St) (n t : List UInt8) : St × Int := if rightB n = true then appendR s n t else (s, 1)
theorem right_24 {n : ByteArray} (h : rightB n.data.toList = true) : n.size ≤ 24 := by
  unfold rightB at h
  simp only [Bool.and_eq_true, decide_eq_true_eq] at h
  exact h.2.2
theorem d_createX (p : Nat) (s : St) (n : ByteArray) (hn : n.size ≤ 1000) (h1 : s.calls ≤ 1000000000000) (w : World) (B : Nat → Prop) (h : DiskA p s w B) :
    Calls Tryz.prog 19 #[.pointer (some ⟨p, 0, none⟩), .string n] w (Does w B (DiskA p (createX s n.data.toList).1) (.int .i64 (createX s n.data.toList).2)) := by
  unfold createX
  by_cases hm : rightB n.data.toList = true
  · rw [if_pos hm]
    exact d_create p s n hn hm h1 w B h
  · rw [if_neg hm]
    have hm : rightB n.data.toList = false := by simpa using hm
    have C1 := Lib.hid (right_c n (by unfold maxLen; omega) w)
    rw [hm] at C1
    have C2 := Lib.hid (call_no p 0 s w)
    have H := Lib.hid h
    clear h hm
    go_enter Tryz.func19, Tryz.ntmps19
    go_wp2_with fail
    refine C1.out.mono ?_; rintro e w2 ⟨rfl, rfl⟩
    go_wp2_with fail
    refine C2.out.mono ?_; rintro e w2 ⟨rfl, rfl⟩
    go_wp2_with fail
    go_ret
    exact ⟨rfl, B, H.out, Nx.refl _ _⟩
theorem d_appendX (p : Nat) (s : St) (n t : ByteArray) (hn : n.size ≤ 1000) (h1 : s.calls ≤ 1000000000000) (ht : t.size ≤ 1000000000) (w : World) (B : Nat → Prop) (h : DiskA p s w B) :
    Calls Tryz.prog 20 #[.pointer (some ⟨p, 0, none⟩), .string n, .string t] w (Does w B (DiskA p (appendX s n.data.toList t.data.toList).1) (.int .i64 (appendX s n.data.toList t.data.toList).2)) := by
  unfold appendX
  by_cases hm : rightB n.data.toList = true
  · rw [if_pos hm]
    exact d_append p s n t hn hm h1 ht w B h
  · rw [if_neg hm]
    have hm : rightB n.data.toList = false := by simpa using hm
    have C1 := Lib.hid (find_no p 0 s B [] n true w (by unfold maxLen; omega) (by rw [hm]; rfl))
    have H := Lib.hid h
    clear h hm
    go_enter Tryz.func20, Tryz.ntmps20
    go_wp2_with fail
    refine C1.out.mono ?_; rintro e w2 ⟨rfl, rfl⟩
    go_wp2_with fail
    go_ret
    exact ⟨rfl, B, H.out, Nx.refl _ _⟩
theorem r_createX (d : Nat) (s : St) (n : ByteArray) (hn : n.size ≤ 1000) (h1 : s.calls ≤ 1000000000000) (w : World) (B : Nat → Prop) (h : RDiskA d s w B) :
    Calls Tryz.prog 31 #[.pointer (some ⟨d, 0, none⟩), .string n] w (Does w B (RDiskA d (createX s n.data.toList).1) (.int .i64 (createX s n.data.toList).2)) := by
  unfold createX
  by_cases hm : rightB n.data.toList = true
  · rw [if_pos hm]
    exact r_create d s n (right_24 hm) hm h1 w B h
  · rw [if_neg hm]
    have := rcreate_bad d n.data.toList w (by simpa using hm) (by show n.size ≤ _; omega)
    rw [bs_toList] at this
    refine this.mono ?_
    rintro e w' ⟨rfl, rfl⟩
    exact ⟨rfl, B, h, Nx.refl _ _⟩
theorem r_appendX (d : Nat) (s : St) (n t : ByteArray) (hn : n.size ≤ 1000) (h1 : s.calls ≤ 1000000000000) (ht : t.size ≤ 1000000000) (w : World) (B : Nat → Prop) (h : RDiskA d s w B) :
    Calls Tryz.prog 32 #[.pointer (some ⟨d, 0, none⟩), .string n, .string t] w (Does w B (RDiskA d (appendX s n.data.toList t.data.toList).1) (.int .i64 (appendX s n.data.toList t.data.toList).2)) := by
  unfold appendX
  by_cases hm : rightB n.data.toList = true
  · rw [if_pos hm]
    exact r_append d s n t (right_24 hm) hm h1 ht w B h
  · rw [if_neg hm]
    have := rappend_bad d n.data.toList t w (by simpa using hm) (by show n.size ≤ _; omega)
    rw [bs_toList] at this
    refine this.mono ?_
    rintro e w' ⟨rfl, rfl⟩
    exact ⟨rfl, B, h, Nx.refl _ _⟩
end Go.Proofs.YtignfbdgpgidpaaGreatDoor

/- In one text: RnGather, RnLay. -/
import Derived.Test.YtjplkmmhjfpdaaaGreatDoorQ23
import Derived.Test.YtjplkmmhjfpdaaaGreatDoorQ12
import Derived.Test.YtjplkmmhjfpdaaaGreatDoorQ24
/- Records read into a row of one's own, so many at most (the program's gather). -/
namespace Go.Proofs.YtjplkmmhjfpdaaaGreatDoor
open Go.RowKit FsPlain CrcPlain OctPlain FramePlain RecPlain RdPlain WrPlain
set_option linter.unusedVariables false
set_option linter.unusedSimpArgs false
set_option maxRecDepth 20000
def sliceLen : Value → Nat
  | .slice _ n _ => n
  | _ => 0
def GaAt (x D P : Nat) (m0 : N3) (C : ByteArray) (nn mm : Int) (got : List ByteArray) (M : List Asn) (w : World) (B : Nat → Prop) (v : Value) (wr : World) : Prop :=
  ∃ (l : List ByteArray) (m : N3) (B' : Nat → Prop), (l.length : Int) ≤ mm ∧ ReadF m C nn (got ++ l) ∧ m.x.nm = m0.x.nm ∧ m.b = m0.b ∧ Quiet m0.s m.s ∧ m.s.calls ≤ m0.s.calls + (l.length : Nat) ∧ stars ([RdP x D P m.x, DiskA D m.s, BuA P m.b] ++ ([RowA v l] ++ M)) wr B' ∧ Nx B w B' wr
structure GaGot (m0 m : N3) (C : ByteArray) (nn : Int) (got : List ByteArray) (mm : Int) (l : List ByteArray) (er : Int) : Prop where
  ok : m.ok
  inv : m.inv
  nm : m.x.nm = m0.x.nm
  told : m.x.told ≤ 50000
  disk : Quiet m0.s m.s
  calls : m.s.calls ≤ m0.s.calls + 6000
  few : er = 0 → m.s.calls ≤ m0.s.calls + 1 + (l.length : Int) ∧ (got ++ l).length + 11 ≤ C.size
  how : (er = 0 ∧ (l.length : Int) = mm ∧ ReadF m C nn (got ++ l) ∧ m.b = m0.b) ∨
    (er = 0 ∧ (l.length : Int) < mm ∧ m.x.opn = false ∧ m.x.bad = false ∧ IsFile nn C (got ++ l) ∧ m.b = m0.b.give 4) ∨
    (er = 6 ∧ l = [] ∧ m.x.opn = false ∧ (∀ L, ¬ IsFile nn C L) ∧ m.b = m0.b.give 4) ∨
    (er = 5 ∧ l = [] ∧ m.x.opn = false ∧ ¬ (m0.s.down = false ∧ m0.s.ahead = -1) ∧ m.b = m0.b.give 4)
theorem shutN_nm (m : N3) : (shutN m).x.nm = m.x.nm := by unfold shutN; split <;> rfl
theorem nextN_nm (m : N3) : (nextN m).1.x.nm = m.x.nm := by
  unfold nextN
  split
  · rfl
  · split
    · unfold fillN
      split
      · exact shutN_nm _
      · split
        · exact shutN_nm _
        · split
          · exact shutN_nm _
          · rfl
    · rfl
theorem shutN_told (m : N3) : (shutN m).x.told = m.x.told := by unfold shutN; split <;> rfl
theorem nextN_told (m : N3) : (nextN m).1.x.told ≤ m.x.told + 1 := by
  unfold nextN
  split
  · exact Nat.le_succ _
  · split
    · unfold fillN
      split
      · rw [show (wrongN m.asked).x.told = m.x.told from shutN_told _]; exact Nat.le_succ _
      · split
        · rw [show (shutN (m.asked.ended (bytesN m))).x.told = m.x.told from shutN_told _]; exact Nat.le_succ _
        · split
          · rw [show (wrongN m.asked).x.told = m.x.told from shutN_told _]; exact Nat.le_succ _
          · exact Nat.le_refl _
    · exact Nat.le_refl _
theorem nextN_calls2 (m : N3) : (nextN m).1.s.calls ≤ m.s.calls + 1 := (nextN_calls m).2.1
set_option maxHeartbeats 4000000 in
theorem gather16_c {x D P : Nat} {m0 : N3} {C : ByteArray} {nn mm : Int} {got : List ByteArray} (hR : ReadF m0 C nn got) (hC : C.size ≤ 5000) (hm : 1 ≤ mm ∧ mm ≤ 9223372036854775807) (hc : m0.s.calls ≤ 10000000) {w : World} {B : Nat → Prop} {M : List Asn} (hM : Frs M) (h : stars ([RdP x D P m0.x, DiskA D m0.s, BuA P m0.b] ++ M) w B) :
    Calls Tryz.prog 95 #[.pointer (some ⟨x, 0, none⟩), .int .i64 mm] w fun e w' => ∃ v l m er, e = .returned (.tuple #[v, .int .i64 er]) ∧ GaGot m0 m C nn got mm l er ∧ ∃ B', stars ([RdP x D P m.x, DiskA D m.s, BuA P m.b] ++ ([RowA v l] ++ M)) w' B' ∧ Nx B w B' w' := by
  obtain ⟨hm1, hm2⟩ := hm
  have START := Lib.hid (show GaAt x D P m0 C nn mm got M w B (.slice none 0 0) w by
    obtain ⟨B2, k2, n2⟩ := part_new (P := RowA (.slice none 0 0) []) (L := [RdP x D P m0.x, DiskA D m0.s, BuA P m0.b] ++ M) (frs_app ⟨fr_rdp _ _ _ _, fr_disk _ _, fr_bu _ _, trivial⟩ hM) h (Gr.refl w) (row_nil w) (fun b hb => hb.elim)
    refine ⟨[], m0, B2, by simp; omega, by rw [List.append_nil]; exact hR, rfl, rfl, Quiet.refl _, by simp, ?_, n2⟩
    exact stars_perm (List.perm_middle (l₁ := [RdP x D P m0.x, DiskA D m0.s, BuA P m0.b]) (a := RowA (.slice none 0 0) []) (l₂ := M)).symm k2)
  have HM := Lib.hid hM
  have HC := Lib.hid hC
  have HCC := Lib.hid hc
  obtain ⟨i0, hi', hz0, hz1, hz2⟩ := info_parts infoS
  clear hR h hM hC hc
  go_enter Tryz.func95, Tryz.ntmps95
  go_wp2_with fail
  go_loopw [6] (fun v wr => GaAt x D P m0 C nn mm got M w B v wr) (fun v _ => 6000 - sliceLen v)
  case atStart => exact START.out
  case round =>
    obtain ⟨l, m, B', hlm, hRd, hnm, hbu, hq, hcl, hst, hnx⟩ := hrel
    have hfew := hRd.few
    rw [List.length_append] at hfew
    obtain ⟨k, hk⟩ : ∃ k, l.length = k := ⟨_, rfl⟩
    have hk9 : (k : Int) ≤ 5000 := by have := HC.out; omega
    obtain ⟨_, hrw, _⟩ := part_at 3 rfl hst
    obtain ⟨sa, cs, rfl, _⟩ := rowE_shape hrw
    have FM : Frs ([RowA (.slice sa l.length cs) l] ++ M) := frs_app ⟨fr_row _ _, trivial⟩ HM.out
    have CN := rd_next hRd.ok hRd.inv (by rw [hRd.told, List.length_append]; have := HC.out; omega) (by have := HCC.out; have := HC.out; omega) FM hst
    have RN := readF_next hRd (by have := HC.out; omega)
    have hnc := nextN_calls2 m
    have hnm2 := (nextN_nm m).trans hnm
    have htd : (nextN m).1.x.told ≤ 50000 := by have h1 := nextN_told m; have h2 := hRd.told; rw [List.length_append] at h2; have := HC.out; omega
    have hfw : (got ++ l).length + 11 ≤ C.size := hRd.few
    have HNX := Lib.hid hnx
    have HST := Lib.hid hst
    have HRD := Lib.hid hRd
    have HBU := Lib.hid hbu
    have HQ := Lib.hid hq
    have HCL := Lib.hid hcl
    obtain ⟨⟨M2, a, pp, er⟩, hM2⟩ : ∃ X, X = nextN m := ⟨_, rfl⟩
    rw [← hM2] at CN RN hnc hnm2 htd
    unfold ansV at CN
    have HNC := Lib.hid hnc
    have HNM := Lib.hid hnm2
    have HNM0 := Lib.hid hnm
    have HTD := Lib.hid htd
    have HFW := Lib.hid hfw
    have HK := Lib.hid hk
    have CNH := Lib.hid CN
    have hkm : (k : Int) ≤ mm := by omega
    simp only [hk]
    clear hlm hst hrw hRd hnm hnm2 htd hfw hbu hq hcl hnx hM2 CN hnc hfew FM hk START
    by_cases hlt : (k : Int) < mm
    · rcases RN with ⟨rfl, rfl, hmore⟩ | ⟨rfl, rfl, hlast⟩
      · have HMO := Lib.hid hmore
        clear hmore
        go_wp2_with fail
        refine CNH.out.mono ?_; rintro e u4 ⟨rfl, B4, h4, n4⟩
        obtain ⟨_, hr4, _⟩ := part_at 3 rfl h4
        have RW := Lib.hid hr4.1
        have H4 := Lib.hid h4
        have N4 := Lib.hid (HNX.out.trans n4)
        clear h4 n4 hr4 CNH
        go_wp2_with (at_builtin; refine wpList_append_own_at _ rfl _ _ 22 rfl 0 9 i0 (.string ⟨#[]⟩) 1 16 Tryz.underlying22 hi' hz0 hz1 hz2 rfl (by decide) (.slice sa k cs) k (strs l) rfl (by have := RW.out; rw [HK.out] at this; exact this.alloc _) ⟨u4.heap.size, 0, none⟩ 1 1 [.string a] rfl rfl (cell_one_new _ _ _) (by simp [Value.oneCell']) (by unfold maxLen; omega) (by omega) (Nat.zero_le _) ?_)
        intro v5 w5 ho5 hg5 _ ha5
        have FM2 : Frs (([RdP x D P M2.x, DiskA D M2.s, BuA P M2.b] : List Asn) ++ ([RowA (.slice sa l.length cs) l] ++ M)) := frs_app ⟨fr_rdp _ _ _ _, fr_disk _ _, fr_bu _ _, trivial⟩ (frs_app ⟨fr_row _ _, trivial⟩ HM.out)
        obtain ⟨B5, h5, n5⟩ := step_at (Q := RowA v5 (l ++ [a])) 3 rfl FM2 H4.out fun B1 h1 => row_app h1 ((Gr.refl u4).alloc (Nat.le_refl _) (.cells #[.string a] 9)) (by rw [HK.out]; exact ho5) (by rw [HK.out]; exact hg5) (by rw [HK.out, World.size_alloc]; exact ha5)
        have hsh : ∃ s5 c5, v5 = .slice s5 (k + 1) c5 := by
          rcases ho5.2 with ⟨e1, e2⟩ | ⟨g, cap, cur, e1, _⟩
          · exact absurd e2 (by omega)
          · exact ⟨_, cap, e1⟩
        obtain ⟨s5, c5, rfl⟩ := hsh
        have REL := Lib.hid (show GaAt x D P m0 C nn mm got M w B (.slice s5 (k + 1) c5) w5 from ⟨l ++ [a], M2, B5, by rw [List.length_append, List.length_singleton, HK.out]; omega, by rw [← List.append_assoc]; exact HMO.out.rd, HNM.out, HMO.out.bud.trans HBU.out, HQ.out.trans HMO.out.disk, by have := HNC.out; have := HCL.out; rw [List.length_append, List.length_singleton]; show M2.s.calls ≤ _; omega, h5, N4.out.trans n5⟩)
        clear ho5 hg5 ha5 h5 n5 H4 RW FM2
        go_wp2_with fail
        refine ⟨REL.out, ?_⟩
        simp [sliceLen]; omega
      · have HLA := Lib.hid hlast
        clear hlast
        by_cases he : er = 0
        · subst he
          go_wp2_with fail
          refine CNH.out.mono ?_; rintro e u4 ⟨rfl, B4, h4, n4⟩
          have H4 := Lib.hid h4
          have N4 := Lib.hid (HNX.out.trans n4)
          clear h4 n4 CNH
          go_wp2_with fail
          go_ret2
          refine ⟨_, l, M2, 0, rfl, ⟨HLA.out.ok, HLA.out.inv, HNM.out, HTD.out, HQ.out.trans HLA.out.disk, by have := HNC.out; have := HCL.out; have := HK.out; show M2.s.calls ≤ _; omega, fun _ => ⟨by have := HNC.out; have := HCL.out; show M2.s.calls ≤ _; omega, HFW.out⟩, ?_⟩, B4, by rw [← HK.out]; exact H4.out, N4.out⟩
          rcases HLA.out.how with ⟨_, h1, h2⟩ | ⟨h0, _⟩ | ⟨h0, _⟩
          · exact .inr (.inl ⟨rfl, by rw [HK.out]; exact hlt, HLA.out.opn, h2, h1, by rw [HLA.out.bud, HBU.out]⟩)
          · cases h0
          · cases h0
        · have he2 : (er != 0) = true := by simpa using he
          go_wp2_with fail
          refine CNH.out.mono ?_; rintro e u4 ⟨rfl, B4, h4, n4⟩
          have H4 := Lib.hid h4
          have N4 := Lib.hid (HNX.out.trans n4)
          clear h4 n4 CNH
          go_wp2_with fail
          go_ret2
          have FM2 : Frs (([RdP x D P M2.x, DiskA D M2.s, BuA P M2.b] : List Asn) ++ ([RowA (.slice sa l.length cs) l] ++ M)) := frs_app ⟨fr_rdp _ _ _ _, fr_disk _ _, fr_bu _ _, trivial⟩ (frs_app ⟨fr_row _ _, trivial⟩ HM.out)
          obtain ⟨B5, h5, n5⟩ := step_at (w' := u4) (Q := RowA (.slice none 0 0) []) 3 rfl FM2 H4.out fun B1 h1 => ⟨_, row_nil u4, Only.refl _ _, fun b hb => hb.elim⟩
          refine ⟨_, [], M2, er, rfl, ⟨HLA.out.ok, HLA.out.inv, HNM.out, HTD.out, HQ.out.trans HLA.out.disk, ?_, (fun k => absurd k he), ?_⟩, B5, h5, N4.out.trans n5⟩
          · have := HNC.out; have := HCL.out; have := HK.out; show M2.s.calls ≤ _; omega
          rcases HLA.out.how with ⟨h0, _⟩ | ⟨h0, h1⟩ | ⟨h0, h1⟩
          · exact absurd h0 he
          · exact .inr (.inr (.inl ⟨h0, rfl, HLA.out.opn, h1, by rw [HLA.out.bud, HBU.out]⟩))
          · exact .inr (.inr (.inr ⟨h0, rfl, HLA.out.opn, fun k => h1 (HQ.out.calm k.1 k.2), by rw [HLA.out.bud, HBU.out]⟩))
    · have hge : ¬ (k : Int) < mm := hlt
      go_wp2_with fail
      go_ret2
      have hrd := HRD.out
      exact ⟨_, l, m, 0, rfl, ⟨hrd.ok, hrd.inv, HNM0.out, (by have h2 := hrd.told; have h3 := HFW.out; have := HC.out; omega), HQ.out, by have := HCL.out; have := HK.out; omega, fun _ => ⟨by have := HCL.out; omega, HFW.out⟩, .inl ⟨rfl, by have := HK.out; omega, hrd, HBU.out⟩⟩, B', by rw [← HK.out]; exact HST.out, HNX.out⟩
theorem over_next {m : N3} (h : m.x.opn = false) (hb : m.x.bad = false) : nextN m = (m, noneA 0) := by
  unfold nextN
  rw [if_pos h, if_neg (by rw [hb]; decide)]
set_option maxHeartbeats 4000000 in
theorem gather16_none {x D P : Nat} {m : N3} {mm : Int} (hok : m.ok) (hi : m.inv) (ho : m.x.opn = false) (hb : m.x.bad = false) (ht : m.x.told ≤ 50000) (hm : 1 ≤ mm ∧ mm ≤ 9223372036854775807) (hc : m.s.calls ≤ 1000000000000) {w : World} {B : Nat → Prop} {M : List Asn} (hM : Frs M) (h : stars ([RdP x D P m.x, DiskA D m.s, BuA P m.b] ++ M) w B) :
    Calls Tryz.prog 95 #[.pointer (some ⟨x, 0, none⟩), .int .i64 mm] w (Does w B (stars ([RdP x D P m.x, DiskA D m.s, BuA P m.b] ++ M)) (.tuple #[.slice none 0 0, .int .i64 0])) := by
  obtain ⟨hm1, hm2⟩ := hm
  have CN := fun (u : World) (B1 : Nat → Prop) (k : stars ([RdP x D P m.x, DiskA D m.s, BuA P m.b] ++ M) u B1) => rd_next hok hi ht hc hM k
  rw [over_next ho hb] at CN
  unfold ansV noneA at CN
  have CNH := Lib.hid CN
  have START := Lib.hid (show ∃ B', stars ([RdP x D P m.x, DiskA D m.s, BuA P m.b] ++ M) w B' ∧ Nx B w B' w from ⟨B, h, Nx.refl _ _⟩)
  clear CN h hok hi ho hb ht hc hM
  go_enter Tryz.func95, Tryz.ntmps95
  go_wp2_with fail
  go_loopw [6] (fun v wr => v = .slice none 0 0 ∧ ∃ B', stars ([RdP x D P m.x, DiskA D m.s, BuA P m.b] ++ M) wr B' ∧ Nx B w B' wr) (fun v _ => 0)
  case atStart => exact ⟨rfl, START.out⟩
  case round =>
    obtain ⟨rfl, B', hst, hnx⟩ := hrel
    have C1 := Lib.hid (CNH.out wr B' hst)
    have HNX := Lib.hid hnx
    clear hst hnx START
    have hlt : (0 : Int) < mm := by omega
    go_wp2_with fail
    refine C1.out.mono ?_; rintro e u4 ⟨rfl, B4, h4, n4⟩
    have H4 := Lib.hid h4
    have N4 := Lib.hid (HNX.out.trans n4)
    clear h4 n4
    go_wp2_with fail
    go_ret2
    exact ⟨rfl, B4, H4.out, N4.out⟩
end Go.Proofs.YtjplkmmhjfpdaaaGreatDoor
/- A file of records written by a function that puts off the writer's Drop (the program's write). -/
namespace Go.Proofs.YtjplkmmhjfpdaaaGreatDoor
open Go.RowKit FsPlain CrcPlain OctPlain FramePlain RecPlain RdPlain WrPlain
set_option linter.unusedVariables false
set_option linter.unusedSimpArgs false
set_option maxRecDepth 20000
theorem ok_closeM {m : M3} (h : m.ok) : (closeM m).1.ok := by
  have h1 : (flushM m).1.ok := by
    unfold flushM
    split
    · exact h
    · exact ok_layM h _
  have h2 : (endM (flushM m).1).1.ok := ok_layM h1 _
  have h3 : (syncM (endM (flushM m).1).1).1.ok := ⟨ok_sync h2.s _, h2.b, h2.n1, h2.n2, h2.z, h2.wl, h2.wz, h2.az⟩
  unfold closeM
  split
  · exact h
  · split
    · exact h1
    · split
      · exact ok_dropM h2
      · exact ok_dropM h3
def LayR (s : St) (b : Bu) (nm : ByteArray) (nn : Int) (l : List ByteArray) (s' : St) (b' : Bu) (er : Int) : Prop :=
  ((er = 0 ∧ b.takeE 4 = 0 ∧ s'.ok ∧ b' = (b.take 4).give 4 ∧ Oth nm.data.toList 1 s s' ∧ HasD s' nm.data.toList (bs (layL nn l))) ∨ (er = b.takeE 4 ∧ er ≠ 0 ∧ s' = s ∧ b' = b.take 4) ∨ ((er = 4 ∨ er = 5) ∧ s'.ok ∧ b.takeE 4 = 0 ∧ b' = (b.take 4).give 4 ∧ ∃ d, d ≤ 1 ∧ Oth nm.data.toList d s s')) ∧
  (WrPlain.Calm s → b.takeE 4 = 0 → s.fs.length < 200 → (used s.fs : Int) + 28 + 69 * (l.length : Nat) ≤ s.room → er = 0 ∧ WrPlain.Calm s' ∧ used s'.fs ≤ used s.fs + 28 + 69 * l.length) ∧ s'.calls ≤ s.calls + 10 + (l.length : Nat)
structure LyJ (m : M3) (nm : ByteArray) (nn : Int) (l : List ByteArray) (s : St) (b : Bu) (j : Nat) : Prop where
  on : WrOn m nm nn (l.take j)
  bud : m.b = b.take 4
  free : b.takeE 4 = 0
  oth : Oth nm.data.toList 1 s m.s
  calls : m.s.calls ≤ s.calls + 2 + (j : Int)
  calm : WrPlain.Calm s → b.takeE 4 = 0 → s.fs.length < 200 → (used s.fs : Int) + 28 + 69 * (l.length : Nat) ≤ s.room → WrPlain.Calm m.s ∧ Fits m (used s.fs)
theorem lyJ_put {m : M3} {nm : ByteArray} {nn : Int} {l : List ByteArray} {s : St} {b : Bu} {j : Nat} (h : LyJ m nm nn l s b j) {r : ByteArray} (hr : l[j]? = some r) (hz : (r.size : Int) = nn) :
    ((putM m r).2 = 0 ∧ LyJ (putM m r).1 nm nn l s b (j + 1)) ∨ ((putM m r).2 ≠ 0 ∧ (dropM (putM m r).1) = (putM m r).1 ∧ LayR s b nm nn l (putM m r).1.s (putM m r).1.b (putM m r).2) := by
  have hj : j < l.length := (List.getElem?_eq_some_iff.1 hr).1
  have hst : l.take (j + 1) = l.take j ++ [r] := by rw [List.take_add_one, hr]; rfl
  have hc := putM_calls m r
  have hlt : (l.take j).length = j := by rw [List.length_take]; omega
  have key : WrPlain.Calm s → b.takeE 4 = 0 → s.fs.length < 200 → (used s.fs : Int) + 28 + 69 * (l.length : Nat) ≤ s.room → (putM m r).2 = 0 ∧ WrPlain.Calm (putM m r).1.s ∧ Fits (putM m r).1 (used s.fs) := fun a1 a2 a3 a4 => by
    obtain ⟨c1, c2⟩ := h.calm a1 a2 a3 a4
    exact put_fits h.on c1 hz c2 (by rw [hlt, h.oth.room]; omega)
  have hcl := h.calls
  rcases put_f h.on hz with ⟨h0, hW, hb, hO⟩ | hg
  · left
    refine ⟨h0, ⟨by rw [hst]; exact hW, by rw [hb, h.bud], h.free, h.oth.trans hO, by omega, fun a1 a2 a3 a4 => (key a1 a2 a3 a4).2⟩⟩
  · right
    have hne : (putM m r).2 ≠ 0 := by rcases hg.code with e | e <;> rw [e] <;> decide
    refine ⟨hne, by unfold dropM; rw [if_neg (by rw [hg.opn]; decide)], .inr (.inr ⟨hg.code, hg.ok.s, h.free, by rw [hg.bud, h.bud], 1, Nat.le_refl _, h.oth.trans hg.oth⟩), fun a1 a2 a3 a4 => absurd (key a1 a2 a3 a4).1 hne, by omega⟩
theorem lyJ_close {m : M3} {nm : ByteArray} {nn : Int} {l : List ByteArray} {s : St} {b : Bu} (h : LyJ m nm nn l s b l.length) (hl : l.length ≤ 10000) : (dropM (closeM m).1) = (closeM m).1 ∧ LayR s b nm nn l (closeM m).1.s (closeM m).1.b (closeM m).2 := by
  have ht : l.take l.length = l := List.take_length
  have hon := h.on
  rw [ht] at hon
  have hok : (closeM m).1.ok := ok_closeM hon.ok
  have hc := (closeM_calls m).1
  have hcl := h.calls
  have key : WrPlain.Calm s → b.takeE 4 = 0 → s.fs.length < 200 → (used s.fs : Int) + 28 + 69 * (l.length : Nat) ≤ s.room → (closeM m).2 = 0 ∧ WrPlain.Calm (closeM m).1.s ∧ used (closeM m).1.s.fs ≤ used s.fs + 28 + 69 * l.length := fun a1 a2 a3 a4 => by
    obtain ⟨c1, c2⟩ := h.calm a1 a2 a3 a4
    exact close_fits hon c1 c2 (by rw [h.oth.room]; omega)
  have hop : (closeM m).1.x.opn = false := by
    rcases close_f hon (by omega) hok with ⟨_, hd⟩ | hg
    · exact hd.opn
    · exact hg.opn
  refine ⟨by unfold dropM; rw [if_neg (by rw [hop]; decide)], ?_, fun a1 a2 a3 a4 => key a1 a2 a3 a4, by omega⟩
  rcases close_f hon (by omega) hok with ⟨h0, hd⟩ | hg
  · obtain ⟨f, f1, f2⟩ := hd.file
    exact .inl ⟨h0, h.free, hd.ok.s, by rw [hd.bud, h.bud], h.oth.trans hd.oth, f, f1, by rw [f2, bs_data]⟩
  · exact .inr (.inr ⟨hg.code, hg.ok.s, h.free, by rw [hg.bud, h.bud], 1, Nat.le_refl _, h.oth.trans hg.oth⟩)
def LyAt (x D P : Nat) (nm : ByteArray) (nn : Int) (l : List ByteArray) (s : St) (b : Bu) (M : List Asn) (w : World) (B : Nat → Prop) (i : Value) (wr : World) : Prop :=
  ∃ (j : Nat) (m : M3) (B' : Nat → Prop), j ≤ l.length ∧ i = .int .i64 (j : Int) ∧ LyJ m nm nn l s b j ∧ stars ([WrA x D P m.x, DiskA D m.s, BuA P m.b] ++ M) wr B' ∧ Nx B w B' wr
def LayGot (D P : Nat) (s : St) (b : Bu) (nm : ByteArray) (nn : Int) (l : List ByteArray) (M : List Asn) (w : World) (B : Nat → Prop) (e : Ending) (w' : World) : Prop :=
  ∃ s' b' er, e = .returned (.int .i64 er) ∧ LayR s b nm nn l s' b' er ∧ ∃ B', stars ([DiskA D s', BuA P b'] ++ M) w' B' ∧ Nx B w B' w'
theorem wr_forget {x D P : Nat} {m : M3} {M : List Asn} (hM : Frs M) {w : World} {B : Nat → Prop} (h : stars ([WrA x D P m.x, DiskA D m.s, BuA P m.b] ++ M) w B) : ∃ B', stars ([DiskA D m.s, BuA P m.b] ++ M) w B' ∧ Nx B w B' w := stars_drop h
theorem lies_cell {w : World} {a : Option Addr} {n c : Nat} {l : List ByteArray} (h : Lies w (.slice a n c) l) {j : Nat} {r : ByteArray} (hr : l[j]? = some r) : ∃ b off, a = some ⟨b, off, none⟩ ∧ w.cell? ⟨b, off + j, none⟩ = some (.string r) := by
  obtain ⟨a', c', e, _, hrow⟩ := h
  simp only [Value.slice.injEq] at e
  obtain ⟨rfl, _, _⟩ := e
  rcases hrow with h0 | ⟨b, off, e, hrw⟩
  · rw [h0] at hr; simp at hr
  · exact ⟨b, off, e, hrw.2 j r hr⟩
set_option maxHeartbeats 2000000 in
theorem lay16_c {D P : Nat} {s : St} {b : Bu} {nm : ByteArray} {nn : Int} {v : Value} {l : List ByteArray} (hz : I64 nn) (hs : s.ok) (hb : b.ok) (hn : nm.size ≤ 24) (hm : rightB nm.data.toList = true) (hsz : sizeB nn = true) (hg : s.get nm.data.toList = none) (hc : s.calls ≤ 10000000) (hl : l.length ≤ 10000) (hsizes : ∀ r ∈ l, (r.size : Int) = nn)
    {w : World} {B : Nat → Prop} {M : List Asn} (hM : Frs M) (hv : ∀ (wr : World) (B' : Nat → Prop), stars M wr B' → Lies wr v l) (h : stars ([DiskA D s, BuA P b] ++ M) w B) :
    Calls Tryz.prog 96 #[.pointer (some ⟨D, 0, none⟩), .pointer (some ⟨P, 0, none⟩), .string nm, .int .i64 nn, v] w (LayGot D P s b nm nn l M w B) := by
  have CR := Lib.hid (wr_create (nm := nm) hz hn hm (by omega) hM h)
  have CF := Lib.hid (create_f hs hb hn hm hsz hg)
  have CC := Lib.hid (fun (a1 : WrPlain.Calm s) (a2 : b.takeE 4 = 0) (a3 : s.fs.length < 200) (a4 : (used s.fs : Int) + 11 ≤ s.room) => create_fits (nn := nn) hs a2 a1 hsz hg hn a3 a4)
  have CK := Lib.hid (createM_calls s b nm nn)
  obtain ⟨R, hR⟩ : ∃ R, createM s b nm nn = R := ⟨_, rfl⟩
  rw [hR] at CR CF CC CK
  have sh : ∃ a c, v = .slice a l.length c := by
    obtain ⟨B1, B2, _, h2, _⟩ := stars_app.1 h
    obtain ⟨a, c, e, _⟩ := hv w B2 h2
    exact ⟨a, c, e⟩
  obtain ⟨va, vc, rfl⟩ := sh
  have HV := Lib.hid hv
  have HL := Lib.hid hl
  have HS := Lib.hid hsizes
  have HC := Lib.hid hc
  have HM := Lib.hid hM
  clear hR h hv hl hsizes hc hM hs hb hn hm hsz hg
  obtain ⟨n, hnl⟩ : ∃ n, l.length = n := ⟨_, rfl⟩
  have HN := Lib.hid hnl
  rw [hnl]
  clear hnl
  go_enter_defers Tryz.func96, Tryz.ntmps96
  go_wp2_with fail
  refine CR.out.mono ?_; rintro e u (⟨h0, x, rfl, B1, k1, n1⟩ | ⟨h0, rfl, B1, k1, n1⟩)
  · have START := Lib.hid (show LyAt x D P nm nn l s b M w B (.int .i64 0) u by
      rcases CF.out with ⟨c0, c1, c2, c3, c4⟩ | ⟨c0, c1, _⟩ | ⟨c0, _⟩
      · refine ⟨0, ⟨R.1, R.2.1, newWs nm nn⟩, B1, Nat.zero_le _, rfl, ⟨c2, c3, c1, c4, by have := CK.out; show R.1.calls ≤ _; omega, fun a1 a2 a3 a4 => ?_⟩, k1, n1⟩
        obtain ⟨_, f1, f2⟩ := CC.out a1 a2 a3 (by omega)
        refine ⟨f1, ?_⟩
        unfold Fits
        show used R.1.fs + 69 * 0 ≤ used s.fs + 11 + 69 * 0
        omega
      · exact absurd (c0.symm.trans h0) c1
      · rcases c0 with c0 | c0 <;> rw [c0] at h0 <;> cases h0)
    clear k1 n1 h0 CR CF CC CK
    go_wp2_with fail
    go_loopw [30] (fun i wr => LyAt x D P nm nn l s b M w B i wr) (fun i _ => n - (intOf i).toNat)
    case atStart => exact START.out
    case round =>
      obtain ⟨j, m, B', hj, rfl, hJ, hst, nx⟩ := hrel
      have hjn := HN.out
      rw [hjn] at hj
      have J := Lib.hid hJ
      have ST := Lib.hid hst
      have NX := Lib.hid nx
      by_cases hlt : j < n
      · have hltI : (j : Int) < (n : Int) := by omega
        have hnI : (n : Int) ≤ 10000 := by have := HL.out; omega
        obtain ⟨r, hr⟩ : ∃ r, l[j]? = some r := ⟨l[j]'(by omega), List.getElem?_eq_getElem _⟩
        have hrz := HS.out r (List.mem_of_getElem? hr)
        have hlies : Lies wr (.slice va l.length vc) l := by
          obtain ⟨_, B2, _, h2, _⟩ := stars_app.1 hst
          exact HV.out wr B2 h2
        obtain ⟨vb, off, rfl, cr⟩ := lies_cell hlies hr
        have hlen := hJ.on.all
        have C := Lib.hid (wr_put r hJ.on.ok (by rw [hlen, List.length_take]; have := HL.out; omega) (by have := hJ.calls; have := HC.out; have := HL.out; omega) HM.out hst)
        have PF := Lib.hid (lyJ_put hJ hr hrz)
        obtain ⟨M2, hM2⟩ : ∃ M2, putM m r = M2 := ⟨_, rfl⟩
        rw [hM2] at C PF
        clear hJ hst nx hlies hlen hrz hr hM2 START hjn
        go_wp2_with fail
        refine C.out.mono ?_; rintro e u2 ⟨rfl, B2, k2, n2⟩
        have K2 := Lib.hid k2
        have N2 := Lib.hid (NX.out.trans n2)
        clear k2 n2
        by_cases h0 : M2.2 = 0
        · have h1 : (M2.2 != 0) = false := by simp [h0]
          have hJ2 : LyJ M2.1 nm nn l s b (j + 1) := by
            rcases PF.out with ⟨_, q⟩ | ⟨q, _⟩
            · exact q
            · exact absurd h0 q
          have J2 := Lib.hid hJ2
          clear hJ2
          go_wp2_with fail
          refine ⟨⟨j + 1, M2.1, B2, by have := HN.out; omega, rfl, J2.out, K2.out, N2.out⟩, ?_⟩
          simp [intOf]; omega
        · have h1 : (M2.2 != 0) = true := by simpa using h0
          have hR2 : dropM M2.1 = M2.1 ∧ LayR s b nm nn l M2.1.s M2.1.b M2.2 := by
            rcases PF.out with ⟨q, _⟩ | ⟨_, q⟩
            · exact absurd q h0
            · exact q
          have R2 := Lib.hid hR2
          clear hR2
          have DR := Lib.hid (wr_drop_d .returning HM.out K2.out)
          rw [R2.out.1] at DR
          go_wp2_with fail
          refine leaves_cons (f := 116) (args := #[.pointer (some ⟨x, 0, none⟩)]) (by simp) (by simp [go_sem]) ?_
          refine DR.out.mono ?_
          rintro e u' w'' ⟨rfl, rfl, B3, k3, n3⟩
          obtain ⟨B4, k4, n4⟩ := wr_forget HM.out k3
          exact ⟨_, results_tmp rfl _ _ _, M2.1.s, M2.1.b, _, rfl, R2.out.2, B4, k4, (N2.out.trans n3).trans n4⟩
      · obtain rfl : j = n := by omega
        have hJ2 := hJ
        rw [← hjn] at hJ2
        have C := Lib.hid (wr_close hJ.on.ok (by rw [hJ.on.all, List.length_take]; have := HL.out; omega) (by have := hJ.calls; have := HC.out; have := HL.out; omega) HM.out hst)
        have R2 := Lib.hid (lyJ_close hJ2 HL.out)
        have hcv : ∃ a, closeV m (closeM m).2 = .tuple #[a, .int .i64 (closeM m).2] := ⟨_, rfl⟩
        obtain ⟨ca, hca⟩ := hcv
        rw [hca] at C
        obtain ⟨M2, hM2⟩ : ∃ M2, closeM m = M2 := ⟨_, rfl⟩
        rw [hM2] at C R2
        clear hJ hJ2 hst nx hM2 START hjn hca
        go_wp2_with fail
        refine C.out.mono ?_; rintro e u2 ⟨rfl, B2, k2, n2⟩
        have K2 := Lib.hid k2
        have N2 := Lib.hid (NX.out.trans n2)
        clear k2 n2
        have DR := Lib.hid (wr_drop_d .returning HM.out K2.out)
        rw [R2.out.1] at DR
        go_wp2_with fail
        refine leaves_cons (f := 116) (args := #[.pointer (some ⟨x, 0, none⟩)]) (by simp) (by simp [go_sem]) ?_
        refine DR.out.mono ?_
        rintro e u' w'' ⟨rfl, rfl, B3, k3, n3⟩
        obtain ⟨B4, k4, n4⟩ := wr_forget HM.out k3
        exact ⟨_, results_tmp rfl _ _ _, M2.1.s, M2.1.b, _, rfl, R2.out.2, B4, k4, (N2.out.trans n3).trans n4⟩
  · have hne : (R.2.2 != 0) = true := by simpa using h0
    have LR : LayR s b nm nn l R.1 R.2.1 R.2.2 := by
      refine ⟨?_, fun a1 a2 a3 a4 => absurd (CC.out a1 a2 a3 (by omega)).1 h0, by have := CK.out; omega⟩
      rcases CF.out with ⟨c0, _⟩ | ⟨c0, c1, c2, c3⟩ | ⟨c0, c1, c2, c3, d, c4, c5⟩
      · exact absurd c0 h0
      · exact .inr (.inl ⟨c0, h0, c2, c3⟩)
      · exact .inr (.inr ⟨c0, c1, c2, c3, d, c4, c5⟩)
    have HLR := Lib.hid LR
    clear LR CF CC CK CR
    go_wp2_with fail
    exact ⟨_, results_tmp rfl _ _ _, R.1, R.2.1, R.2.2, rfl, HLR.out, B1, k1, n1⟩
end Go.Proofs.YtjplkmmhjfpdaaaGreatDoor

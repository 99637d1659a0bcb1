/- In one text: Wr, WrHas, Few, HeldMono, WrLaw. -/
import Derived.Test.YtcpaaenjfljocaaGreatP19
import Derived.Test.YtcpaaenjfljocaaGreatP10
import Derived.Test.YtcpaaenjfljocaaGreatP08
import Derived.Deep.RegionHeld3
import Derived.Test.YtcpaaenjfljocaaGreatP00
/- The program's writer: Create; the chapter's example. -/
namespace Go.Proofs.YtcpaaenjfljocaaGreat
open Go.RowKit FsPlain CrcPlain OctPlain FramePlain RecPlain WrPlain
set_option linter.unusedVariables false
set_option linter.unusedSimpArgs false
/-- What Create leaves. -/
def WMade (D P : Nat) (w : World) (B : Nat → Prop) (nm : ByteArray) (size : Int) (R : St × Bu × Int) (e : Ending) (w' : World) : Prop :=
  (R.2.2 = 0 ∧ ∃ x, Does w B (W3 x D P ⟨R.1, R.2.1, newWs nm size⟩) (.tuple #[.pointer (some ⟨x, 0, none⟩), .int .i64 0]) e w') ∨
  (R.2.2 ≠ 0 ∧ Does w B (stars [DiskA D R.1, BuA P R.2.1]) (.tuple #[.pointer none, .int .i64 R.2.2]) e w')
theorem frs_d2 (D P : Nat) (s : St) (b : Bu) : Frs [DiskA D s, BuA P b] := ⟨fr_disk _ _, fr_bu _ _, trivial⟩
theorem wnew (D P : Nat) (nm : ByteArray) (size : Int) : (#[.pointer (some ⟨D, 0, none⟩), .string nm, .pointer (some ⟨P, 0, none⟩), .int .i64 size, .slice none 0 0, .int .i64 0, .int .u32 0] : Array Value) = wcells D P (newWs nm size) (.slice none 0 0) := by
  unfold wcells newWs
  simp [sumN_nil]
/-- What stands of a name that was copied. -/
theorem begin_create (s : St) (b : Bu) (nm : ByteArray) (size : Int) (hz : sizeB size = true) : createM s b nm size = if ¬ b.takeE 4 = 0 then (s, b.take 4, b.takeE 4) else if ¬ (beginR s nm.data.toList (headS size).data.toList).2 = 0 then ((beginR s nm.data.toList (headS size).data.toList).1, (b.take 4).give 4, (beginR s nm.data.toList (headS size).data.toList).2) else ((beginR s nm.data.toList (headS size).data.toList).1, b.take 4, 0) := by
  unfold createM beginR
  rw [if_neg (by rw [hz]; decide)]
  by_cases h1 : b.takeE 4 = 0 <;> by_cases h2 : (createR s nm.data.toList).2 = 0 <;> by_cases h3 : (appendR (createR s nm.data.toList).1 nm.data.toList (headS size).data.toList).2 = 0 <;> simp [h1, h2, h3]
set_option maxRecDepth 20000 in
set_option maxHeartbeats 4000000 in
theorem w_create (D P : Nat) (s : St) (b : Bu) (nm : ByteArray) (size : Int) (hsz : I64 size) (hn : nm.size ≤ 24) (hm : rightB nm.data.toList = true) (hc : s.calls ≤ 100000000000) (w : World) (B : Nat → Prop) (h : stars [DiskA D s, BuA P b] w B) :
    Calls Tryz.prog 12 #[.pointer (some ⟨D, 0, none⟩), .pointer (some ⟨P, 0, none⟩), .string nm, .int .i64 size] w (WMade D P w B nm size (createM s b nm size)) := by
  obtain ⟨R, hR⟩ : ∃ R, R = createM s b nm size := ⟨_, rfl⟩
  rw [← hR]
  have CH := Lib.hid (puthead_c size hsz)
  have HR := Lib.hid hR
  have H := Lib.hid h
  clear h hR
  cases hz : sizeB size
  · have hR := HR.out
    unfold createM at hR
    rw [if_pos hz] at hR
    have CH2 := CH.out
    rw [hz, headR_no hz] at CH2
    have CH3 := Lib.hid CH2
    subst hR
    clear hz CH2 CH
    go_enter Tryz.func12, Tryz.ntmps12
    go_wp2_with fail
    refine (CH3.out _).mono ?_; rintro e w1 ⟨rfl, g1⟩
    have HG := Lib.hid g1
    clear g1
    go_wp2_with fail
    go_ret2
    exact .inr ⟨by simp, rfl, B, stars_gr (frs_d2 _ _ _ _) H.out HG.out, Nx.gr HG.out⟩
  · have CH2 := CH.out
    rw [hz, headR_yes hz] at CH2
    have CH3 := Lib.hid CH2
    have hR := HR.out
    rw [begin_create s b nm size hz] at hR
    clear hz CH2 CH HR
    obtain ⟨c1, hc1⟩ : ∃ c1, c1 = b.takeE 4 := ⟨_, rfl⟩
    obtain ⟨⟨s1, e1⟩, hS1⟩ : ∃ X, X = beginR s nm.data.toList (headS size).data.toList := ⟨_, rfl⟩
    rw [← hc1, ← hS1] at hR
    have CT : ∀ w1, Gr w w1 → Calls Tryz.prog 35 #[.pointer (some ⟨P, 0, none⟩), .int .i64 4] w1 (Does w1 B (stars [DiskA D s, BuA P (b.take 4)]) (.int .i64 c1)) := by
      intro w1 g1
      have := does_at (f := 35) 1 rfl (frs_d2 _ _ _ _) (stars_gr (frs_d2 _ _ _ _) H.out g1) fun B2 h2 => bu_take P b 4 w1 B2 h2
      rw [← hc1] at this
      exact this
    have CB : ∀ w2 B2, stars [DiskA D s, BuA P (b.take 4)] w2 B2 → Calls Tryz.prog 37 #[.agg #[.pointer (some ⟨D, 0, none⟩), .string nm], .string (headS size)] w2 (Does w2 B2 (stars [DiskA D s1, BuA P (b.take 4)]) (.int .i64 e1)) := by
      intro w2 B2 h2
      have := does_at (f := 37) 0 rfl (frs_d2 _ _ _ _) h2 fun B3 h3 => snk_begin D s nm (headS size) hn hm (by omega) (by have := create_calls s nm.data.toList; omega) (headS_le size) w2 B3 h3
      rw [← hS1] at this
      exact this
    have CG := Lib.hid (fun w2 B2 (h2 : stars [DiskA D s1, BuA P (b.take 4)] w2 B2) => does_at (f := 38) (Q := BuA P ((b.take 4).give 4)) 1 rfl (frs_d2 _ _ _ _) h2 fun B3 h3 => bu_give P (b.take 4) 4 w2 B3 h3)
    have CTH := Lib.hid CT
    have CBH := Lib.hid CB
    have CLH := Lib.hid (fun u => clone_c nm u (by omega))
    have HR := Lib.hid hR
    clear CT CB hc1 hS1 hR hm hc
    by_cases h1 : c1 = 0
    · subst h1
      by_cases h2 : e1 = 0
      · subst h2
        obtain rfl : R = (s1, b.take 4, 0) := by have := HR.out; simpa using this
        go_enter Tryz.func12, Tryz.ntmps12
        go_wp2_with fail
        refine (CH3.out _).mono ?_; rintro e w1 ⟨rfl, g1⟩
        have CT1 := Lib.hid (CTH.out _ g1)
        have N1 := Lib.hid (Nx.gr (B := B) g1)
        clear g1
        go_wp2_with fail
        refine CT1.out.mono ?_; rintro e w2 hd
        obtain ⟨rfl, B2, h2, n2⟩ := hd
        have H2 := Lib.hid h2
        have N2 := Lib.hid (N1.out.trans n2)
        clear h2 n2 CT1
        go_wp2_with fail
        refine (CLH.out w2).mono ?_; rintro e u ⟨rfl, gu⟩
        obtain ⟨V, hV, gv, kv, hlt⟩ := snk_new D nm u
        obtain ⟨d0, d1⟩ := kv _ (Gr.refl _)
        have h3 := stars_gr (frs_d2 _ _ _ _) H2.out (gu.trans gv)
        have hnb : ¬ B2 u.heap.size := fun hb => by have := (fr_stars (frs_d2 _ _ _ _)).lo H2.out _ hb; have := gu.size; omega
        have CB1 := Lib.hid (CBH.out V B2 h3)
        have N3 := Lib.hid (N2.out.trans (Nx.gr (gu.trans gv)))
        have HV := Lib.hid hV
        clear h3 gu gv kv hV
        go_wp2_with fail
        rw [← HV.out]
        refine CB1.out.mono ?_; rintro e w4 hd
        obtain ⟨rfl, B4, h4, n4⟩ := hd
        have b0 := (n4.only.cell (p := ⟨u.heap.size, 0, none⟩) hlt hnb).trans d0
        have b1 := (n4.only.cell (p := ⟨u.heap.size, 1, none⟩) hlt hnb).trans d1
        have CG1 := Lib.hid (CG.out w4 B4 h4)
        have H4 := Lib.hid h4
        have N4 := Lib.hid (N3.out.trans n4)
        clear h4 n4 CB1 hnb d0 d1 hlt
        go_wp2_with fail
        go_ret2
        have ga : Gr w4 (w4.alloc (.cells (wcells D P (newWs nm size) (.slice none 0 0)) 67)) := (Gr.refl w4).alloc (Nat.le_refl _) _
        obtain ⟨B5, h5, n5⟩ := part_new (P := Blk w4.heap.size (wcells D P (newWs nm size) (.slice none 0 0)) 67) (L := [DiskA D s1, BuA P (b.take 4)]) (B' := fun b => b = w4.heap.size) (frs_d2 _ _ _ _) H4.out ga ⟨heap_alloc_new w4 _, fun _ => Iff.rfl⟩ (fun b hb => by omega)
        obtain ⟨B6, h6, n6⟩ := part_new (w' := w4.alloc (.cells (wcells D P (newWs nm size) (.slice none 0 0)) 67)) (P := RowA (.slice none 0 0) []) (L := [Blk w4.heap.size (wcells D P (newWs nm size) (.slice none 0 0)) 67, DiskA D s1, BuA P (b.take 4)]) ⟨fr_blk _ _ _, frs_d2 _ _ _ _⟩ h5 (Gr.refl _) (row_nil _) (fun b hb => hb.elim)
        rw [wnew]
        have h8 : stars (wl w4.heap.size D P s1 (b.take 4) (wcells D P (newWs nm size) (.slice none 0 0)) (.slice none 0 0) []) _ B6 := stars_perm (List.Perm.swap _ _ _) h6
        exact .inl ⟨rfl, w4.heap.size, rfl, B6, w3_close (m := ⟨s1, b.take 4, newWs nm size⟩) rfl ⟨_, h8⟩, (N4.out.trans n5).trans n6⟩
      · have t1 : (e1 == 0) = false := by simpa using h2
        have t2 : (e1 != 0) = true := by simpa using h2
        have HE := Lib.hid h2
        obtain rfl : R = (s1, (b.take 4).give 4, e1) := by have := HR.out; simpa [h2] using this
        clear h2
        go_enter Tryz.func12, Tryz.ntmps12
        go_wp2_with fail
        refine (CH3.out _).mono ?_; rintro e w1 ⟨rfl, g1⟩
        have CT1 := Lib.hid (CTH.out _ g1)
        have N1 := Lib.hid (Nx.gr (B := B) g1)
        clear g1
        go_wp2_with fail
        refine CT1.out.mono ?_; rintro e w2 hd
        obtain ⟨rfl, B2, h2, n2⟩ := hd
        have H2 := Lib.hid h2
        have N2 := Lib.hid (N1.out.trans n2)
        clear h2 n2 CT1
        go_wp2_with fail
        refine (CLH.out w2).mono ?_; rintro e u ⟨rfl, gu⟩
        obtain ⟨V, hV, gv, kv, hlt⟩ := snk_new D nm u
        obtain ⟨d0, d1⟩ := kv _ (Gr.refl _)
        have h3 := stars_gr (frs_d2 _ _ _ _) H2.out (gu.trans gv)
        have hnb : ¬ B2 u.heap.size := fun hb => by have := (fr_stars (frs_d2 _ _ _ _)).lo H2.out _ hb; have := gu.size; omega
        have CB1 := Lib.hid (CBH.out V B2 h3)
        have N3 := Lib.hid (N2.out.trans (Nx.gr (gu.trans gv)))
        have HV := Lib.hid hV
        clear h3 gu gv kv hV
        go_wp2_with fail
        rw [← HV.out]
        refine CB1.out.mono ?_; rintro e w4 hd
        obtain ⟨rfl, B4, h4, n4⟩ := hd
        have b0 := (n4.only.cell (p := ⟨u.heap.size, 0, none⟩) hlt hnb).trans d0
        have b1 := (n4.only.cell (p := ⟨u.heap.size, 1, none⟩) hlt hnb).trans d1
        have CG1 := Lib.hid (CG.out w4 B4 h4)
        have H4 := Lib.hid h4
        have N4 := Lib.hid (N3.out.trans n4)
        clear h4 n4 CB1 hnb d0 d1 hlt
        go_wp2_with fail
        refine CG1.out.mono ?_; rintro e w5 hd
        obtain ⟨rfl, B5, h5, n5⟩ := hd
        have H5 := Lib.hid h5
        have N5 := Lib.hid (N4.out.trans n5)
        clear h5 n5 CG1
        go_wp2_with fail
        go_ret2
        exact .inr ⟨HE.out, rfl, B5, H5.out, N5.out⟩
    · have t1 : (c1 == 0) = false := by simpa using h1
      have t2 : (c1 != 0) = true := by simpa using h1
      have HE := Lib.hid h1
      obtain rfl : R = (s, b.take 4, c1) := by have := HR.out; rwa [if_pos h1] at this
      clear h1
      go_enter Tryz.func12, Tryz.ntmps12
      go_wp2_with fail
      refine (CH3.out _).mono ?_; rintro e w1 ⟨rfl, g1⟩
      have CT1 := Lib.hid (CTH.out _ g1)
      have N1 := Lib.hid (Nx.gr (B := B) g1)
      clear g1
      go_wp2_with fail
      refine CT1.out.mono ?_; rintro e w2 hd
      obtain ⟨rfl, B2, h2, n2⟩ := hd
      have H2 := Lib.hid h2
      have N2 := Lib.hid (N1.out.trans n2)
      clear h2 n2 CT1
      go_wp2_with fail
      go_ret2
      exact .inr ⟨HE.out, rfl, B2, H2.out, N2.out⟩
end Go.Proofs.YtcpaaenjfljocaaGreat
/- Plain facts: a file that is there stays, whatever is appended or synced; what is told of it behind a rise. -/
namespace Go.Proofs.YtcpaaenjfljocaaGreat
open Go.RowKit FsPlain CrcPlain OctPlain FramePlain RecPlain
set_option linter.unusedVariables false
set_option linter.unusedSimpArgs false
namespace WrPlain
/-- There is a file of this name. -/
def Has (s : St) (n : List UInt8) : Prop := ∃ f, s.get n = some f
theorem get_upd {s : St} {n : List UInt8} {g : F → F} {f : F} (hg : ∀ f, (g f).name = f.name) (h : s.get n = some f) : (s.upd n g).get n = some (g f) := by
  unfold St.get St.upd at *
  simp only []
  rw [List.find?_map]
  have e : ((fun f : F => f.name == n) ∘ fun f => if f.name = n then g f else f) = fun f : F => f.name == n := by
    funext f
    simp only [Function.comp]
    split
    · rw [hg]
    · rfl
  rw [e, h]
  have := List.find?_some h
  simp only [beq_iff_eq] at this
  simp [this]
theorem append_get {s : St} {n t : List UInt8} {f : F} (h : s.get n = some f) (h0 : (appendR s n t).2 = 0) : (appendR s n t).1.get n = some { f with data := f.data ++ t } := by
  unfold appendR at h0 ⊢
  split at h0
  · simp at h0
  · rename_i h1
    rw [if_neg h1]
    simp only [h] at h0 ⊢
    split at h0
    · simp at h0
    · rename_i h2
      rw [if_neg h2]
      exact get_upd (s := s.call) (g := fun f => { f with data := f.data ++ t }) (fun _ => rfl) h
theorem append_has {s : St} {n t : List UInt8} (h : Has s n) : Has (appendR s n t).1 n := by
  obtain ⟨f, h⟩ := h
  by_cases h0 : (appendR s n t).2 = 0
  · exact ⟨_, append_get h h0⟩
  · unfold appendR at h0 ⊢
    split
    · exact ⟨f, h⟩
    · rename_i h1
      rw [if_neg h1] at h0
      simp only [h] at h0 ⊢
      split
      · exact ⟨f, h⟩
      · rename_i h2
        rw [if_neg h2] at h0
        exact absurd rfl h0
theorem sync_get {s : St} {n : List UInt8} {f : F} (h : s.get n = some f) (h0 : (syncR s n).2 = 0) : (syncR s n).1.get n = some { f with kept := f.data.length } := by
  unfold syncR at h0 ⊢
  split at h0
  · simp at h0
  · rename_i h1
    rw [if_neg h1]
    simp only [h]
    exact get_upd (s := s.call) (g := fun f => { f with kept := f.data.length }) (fun _ => rfl) h
theorem sync_has {s : St} {n : List UInt8} (h : Has s n) : Has (syncR s n).1 n := by
  obtain ⟨f, h⟩ := h
  unfold syncR
  split
  · exact ⟨f, h⟩
  · simp only [h]
    exact ⟨_, get_upd (s := s.call) (g := fun f => { f with kept := f.data.length }) (fun _ => rfl) h⟩
theorem get_ins {n : List UInt8} {k : Nat} : ∀ {l : List F}, (l.find? fun f => f.name == n) = none → ((insF ⟨n, [], k⟩ l).find? fun f => f.name == n) = some ⟨n, [], k⟩
  | [], _ => by simp [insF]
  | y :: r, h => by
    rw [List.find?_cons] at h
    split at h
    · cases h
    · rename_i h1
      unfold insF
      split
      · rw [List.find?_cons]; simp
      · rw [List.find?_cons, h1]; exact get_ins h
theorem create_get {s : St} {n : List UInt8} (h0 : (createR s n).2 = 0) : (createR s n).1.get n = some ⟨n, [], 0⟩ := by
  unfold createR at h0 ⊢
  split at h0
  · simp at h0
  · rename_i h1
    rw [if_neg h1]
    cases hg : s.get n with
    | some f => rw [hg] at h0; simp at h0
    | none =>
      rw [hg] at h0
      simp only [] at h0 ⊢
      split at h0
      · simp at h0
      · rename_i h2
        rw [if_neg h2]
        exact get_ins hg
theorem createM_has {s : St} {b : Bu} {nm : ByteArray} {size : Int} (h0 : (createM s b nm size).2.2 = 0) : ∃ f, (createM s b nm size).1.get nm.data.toList = some f ∧ f.data = (headS size).data.toList ∧ sizeB size = true := by
  cases hz : sizeB size
  · unfold createM at h0; rw [if_pos hz] at h0; exact absurd h0 (by simp)
  · unfold createM at h0 ⊢
    rw [if_neg (by rw [hz]; decide)] at h0 ⊢
    split at h0
    · rename_i h1; exact absurd h0 h1
    · rename_i h1
      rw [if_neg h1]
      split at h0
      · rename_i h2; exact absurd h0 h2
      · rename_i h2
        rw [if_neg h2]
        split at h0
        · rename_i h3; exact absurd h0 h3
        · rename_i h3
          rw [if_neg h3]
          exact ⟨_, append_get (create_get (by omega)) (by omega), rfl, rfl⟩
theorem dropM_has {m : M3} {n : List UInt8} (h : Has m.s n) : Has (dropM m).s n := by
  unfold dropM; split <;> exact h
theorem layM_has {m : M3} {t : ByteArray} {n : List UInt8} (hn : m.x.nm.data.toList = n) (h : Has m.s n) : Has (layM m t).1.s n := by
  subst hn
  unfold layM
  split
  · exact append_has h
  · exact dropM_has (append_has h)
theorem putM_has {m : M3} {r : ByteArray} {n : List UInt8} (hn : m.x.nm.data.toList = n) (h : Has m.s n) : Has (putM m r).1.s n := by
  unfold putM
  split
  · exact h
  · split
    · exact h
    · split
      · exact h
      · exact layM_has (m := ⟨m.s, m.b, (m.x.put r).none⟩) hn h
theorem putM_nm (m : M3) (r : ByteArray) : (putM m r).1.x.nm = m.x.nm ∧ (putM m r).1.x.size = m.x.size := by
  unfold putM
  split
  · exact ⟨rfl, rfl⟩
  · split
    · exact ⟨rfl, rfl⟩
    · split
      · exact ⟨rfl, rfl⟩
      · unfold layM dropM
        split
        · exact ⟨rfl, rfl⟩
        · split <;> exact ⟨rfl, rfl⟩
theorem lay_nm (m : M3) (t : ByteArray) : (layM m t).1.x.nm = m.x.nm := by
  unfold layM dropM
  split
  · rfl
  · split <;> rfl
theorem flush_nm (m : M3) : (flushM m).1.x.nm = m.x.nm := by
  unfold flushM
  split
  · rfl
  · exact lay_nm _ _
theorem closeM_has {m : M3} {n : List UInt8} (hn : m.x.nm.data.toList = n) (h : Has m.s n) : Has (closeM m).1.s n := by
  have h1 : Has (flushM m).1.s n := by
    unfold flushM
    split
    · exact h
    · exact layM_has hn h
  have hn1 : (flushM m).1.x.nm.data.toList = n := by rw [flush_nm, hn]
  have h2 : Has (endM (flushM m).1).1.s n := by unfold endM; exact layM_has hn1 h1
  have hn2 : (endM (flushM m).1).1.x.nm.data.toList = n := by unfold endM; rw [lay_nm, hn1]
  unfold closeM
  split
  · exact h
  · split
    · exact h1
    · split
      · exact dropM_has h2
      · refine dropM_has ?_
        unfold syncM
        rw [hn2]
        exact sync_has h2
theorem closeM_calls (m : M3) : (closeM m).1.s.calls ≤ m.s.calls + 3 ∧ 0 ≤ (closeM m).1.s.calls - m.s.calls := by
  have h1 : (flushM m).1.s.calls ≤ m.s.calls + 1 ∧ m.s.calls ≤ (flushM m).1.s.calls := by
    unfold flushM
    split
    · simp only []; omega
    · rw [layM_calls]; omega
  have h2 : (endM (flushM m).1).1.s.calls = (flushM m).1.s.calls + 1 := by unfold endM; exact layM_calls _ _
  have h3 : (syncM (endM (flushM m).1).1).1.s.calls = (endM (flushM m).1).1.s.calls + 1 := sync_calls _ _
  unfold closeM
  split
  · simp only []; omega
  · split
    · omega
    · split
      · simp only [dropM_calls]; omega
      · simp only [dropM_calls]; omega
/-- Behind a rise: a file that is there is told whole. -/
theorem rise_get {s : St} (hs : s.ok) {n : List UInt8} (h : Has s n) : ∃ f, (riseR s []).get n = some f := by
  obtain ⟨f, h⟩ := h
  refine get_name ?_
  show n ∈ (riseN s [] s.fs.length).fs.map (·.name)
  rw [rise_names]
  have := get_mem h
  have hn : f.name = n := by simpa using List.find?_some h
  rw [← hn]; exact List.mem_map_of_mem this
theorem rise_told {s : St} (hs : s.ok) {n : List UInt8} (h : Has s n) : ∃ f, (riseR s []).get n = some f ∧ sizeR (riseR s []) n = ((f.data.length : Int), 0) ∧ readR (riseR s []).call n 0 f.data.length = (f.data, 0) := by
  obtain ⟨f, h⟩ := rise_get hs h
  have h1 : (riseR s []).call.down = false := rfl
  have h2 : (riseR s []).call.call.down = false := rfl
  refine ⟨f, h, ?_, ?_⟩
  · unfold sizeR
    rw [if_neg (by rw [h1]; decide), h]
  · unfold readR
    rw [if_neg (by rw [h2]; decide)]
    rw [show (riseR s []).call.get n = (riseR s []).get n from rfl, h]
    simp
theorem rise_calls (s : St) (ks : List Int) : (riseR s ks).calls = s.calls := by
  unfold riseR
  simp only []
  have : ∀ j, (riseN s ks j).calls = s.calls := fun j => by
    induction j with
    | zero => rfl
    | succ j ih => exact ih
  exact this _
end WrPlain
end Go.Proofs.YtcpaaenjfljocaaGreat
/- The laws' Few of strings. -/
namespace Go.Proofs.YtcpaaenjfljocaaGreat
open Go.RowKit CrcPlain OctPlain FramePlain
set_option linter.unusedVariables false
set_option linter.unusedSimpArgs false
def few6 (l : List ByteArray) (m : Nat) : Bool := decide (l.length ≤ m) && (l.take m).all (fun s => decide (s.size ≤ 80))
theorem few6_yes {l : List ByteArray} {m : Nat} (h : few6 l m = true) : l.length ≤ m ∧ ∀ s ∈ l, s.size ≤ 80 := by
  unfold few6 at h
  simp only [Bool.and_eq_true, decide_eq_true_eq, List.all_eq_true] at h
  refine ⟨h.1, fun s hs => h.2 s ?_⟩
  rw [List.take_of_length_le h.1]; exact hs
def Few6At (l : List ByteArray) (m : Nat) (w : World) (i : Value) (wr : World) : Prop := ∃ j : Nat, j ≤ m ∧ j ≤ l.length ∧ i = .int .i64 j ∧ wr = w ∧ (l.take j).all (fun s => decide (s.size ≤ 80)) = true
theorem few6_c {w : World} {v : Value} {l : List ByteArray} (h : Lies w v l) (m : Nat) (hm : m ≤ 100) (hl : l.length ≤ 9223372036854775807) :
    Calls Tryz.prog 5 #[v, .int .i64 (m : Int)] w fun e w' => e = .returned (.bool (few6 l m)) ∧ w = w' := by
  obtain ⟨a, c, rfl, hc, h⟩ := h
  obtain ⟨n, hn⟩ : ∃ n, l.length = n := ⟨_, rfl⟩
  have HN := Lib.hid hn
  have H0 : 1 ≤ n → ∃ b off, a = some ⟨b, off, none⟩ ∧ SRow w b off l := fun h1 => h.elim (fun h0 => by rw [h0] at hn; simp at hn; omega) id
  have H := Lib.hid H0
  rw [hn] at hl ⊢
  have hl2 : (n : Int) ≤ 9223372036854775807 := by omega
  clear h hc hn H0 hl
  go_enter Tryz.func5, Tryz.ntmps5
  go_wp2_with fail
  go_loopw [5] (fun i wr => Few6At l m w i wr) (fun i _ => n - (intOf i).toNat)
  case atStart => exact ⟨0, Nat.zero_le _, Nat.zero_le _, rfl, rfl, rfl⟩
  case round =>
    obtain ⟨j, hjm, hj, rfl, rfl, hall⟩ := hrel
    have hln := HN.out
    by_cases hlt : j < n
    · by_cases h10 : j < m
      · obtain ⟨x, hx, hstep, hmem⟩ := take_at (l := l) (j := j) (by omega)
        obtain ⟨b, off, rfl, hr⟩ := H.out (by omega)
        have hcx := hr.2 j x hx
        by_cases hz : x.size ≤ 80
        · have hnext : (l.take (j + 1)).all (fun s => decide (s.size ≤ 80)) = true := by rw [hstep, List.all_append, hall]; simpa using hz
          have HX := Lib.hid hnext
          have hz2 : ¬ (80 : Int) < x.size := by omega
          have d1 : (j : Int) < (m : Int) := by omega
          clear hnext hstep hall hx hmem hz hr H
          go_wp2_with fail
          refine ⟨⟨j + 1, by omega, by have := HN.out; omega, rfl, rfl, HX.out⟩, ?_⟩
          simp [intOf]; omega
        · have hno : few6 l m = false := by
            unfold few6
            cases hd : decide (l.length ≤ m)
            · rfl
            · rw [decide_eq_true_iff] at hd
              rw [List.take_of_length_le hd, Bool.true_and, List.all_eq_false]
              exact ⟨x, hmem, by simpa using hz⟩
          have HX := Lib.hid hno
          have hz2 : (80 : Int) < x.size := by omega
          have d1 : (j : Int) < (m : Int) := by omega
          clear hno hstep hall hx hmem hz hr H
          go_wp2_with fail
          go_ret
          exact ⟨retb HX.out.symm, rfl⟩
      · obtain rfl : j = m := by omega
        have hno : few6 l j = false := by unfold few6; rw [decide_eq_false (by omega)]; rfl
        have HX := Lib.hid hno
        have hx2 : ¬ (n : Int) ≤ (j : Int) := by omega
        clear hno hall H
        go_wp2_with fail
        go_ret
        exact ⟨retb HX.out.symm, rfl⟩
    · obtain rfl : j = n := by omega
      have hyes : few6 l m = true := by
        unfold few6
        rw [decide_eq_true (by omega), List.take_of_length_le (by omega)]
        rw [List.take_of_length_le (by omega)] at hall
        rw [hall]; rfl
      have HX := Lib.hid hyes
      have hx2 : (j : Int) ≤ (m : Int) := by omega
      clear hyes hall H
      go_wp2_with fail
      go_ret
      exact ⟨retb HX.out.symm, rfl⟩
end Go.Proofs.YtcpaaenjfljocaaGreat
/- What a region's walk holds may become more on the way. -/
namespace Go.Proofs.YtcpaaenjfljocaaGreat

set_option linter.unusedVariables false
theorem wpAnyH_mono {P : Program} {md : Region.Mode} {ops : Array Oper} {Q : Exit → Act → World → Prop} {S S' : World → Prop} (hS : ∀ w, S w → S' w) :
    ∀ (fuel : Nat) (listed : Array Bool) (a : Act) (w : World), wpAnyH P md ops Q S fuel listed a w → wpAnyH P md ops Q S' fuel listed a w
  | 0, _, _, _, h => h
  | fuel + 1, _, _, _, h => ⟨h.1, fun i hi => wpOp_mono (fun a' w' h' => ⟨hS _ h'.1, wpAnyH_mono hS fuel _ a' w' h'.2⟩) (h.2 i hi)⟩
end Go.Proofs.YtcpaaenjfljocaaGreat
/- What the laws on writers walk with: both writers, side by side. -/
namespace Go.Proofs.YtcpaaenjfljocaaGreat
open Go.RowKit FsPlain CrcPlain OctPlain FramePlain RecPlain WrPlain
set_option linter.unusedVariables false
set_option linter.unusedSimpArgs false
def nmA : ByteArray := ⟨#[97]⟩
theorem nmA_right : rightB nmA.data.toList = true := by decide
theorem nmA_size : nmA.size ≤ 24 := by decide
/-- Two disks and two budgets. -/
def s4 (p pb D P : Nat) (s : St) (b : Bu) : List Asn := [DiskA p s, BuA pb b, RDiskA D s, RBuA P b]
theorem frs_s4 (p pb D P : Nat) (s : St) (b : Bu) : Frs (s4 p pb D P s b) := ⟨fr_disk _ _, fr_bu _ _, fr_rdisk _ _, fr_rbu _ _, trivial⟩
/-- Both writers with them. -/
def s6 (xi p pb xr D P : Nat) (m : M3) : List Asn := [WrA xi p pb m.x, DiskA p m.s, BuA pb m.b, RWrA xr D P m.x, RDiskA D m.s, RBuA P m.b]
theorem frs_s6 (xi p pb xr D P : Nat) (m : M3) : Frs (s6 xi p pb xr D P m) := ⟨fr_wr _ _ _ _, fr_disk _ _, fr_bu _ _, fr_rwr _ _ _ _, fr_rdisk _ _, fr_rbu _ _, trivial⟩
theorem perm4 (a b c d : Asn) : [a, b, c, d].Perm [d, b, c, a] := (List.reverse_perm [a, b, c, d]).symm.trans ((List.Perm.swap b c [a]).cons d)
theorem pre_nx {w : World} {B : Nat → Prop} (L : List Asn) {M : List Asn} (hM : Frs M) (h : stars (L ++ M) w B) : ∃ B1, stars L w B1 ∧ ∀ (L' : List Asn) (w' : World) (B' : Nat → Prop), stars L' w' B' → Nx B1 w B' w' → ∃ B3, stars (L' ++ M) w' B3 ∧ Nx B w B3 w' := by
  obtain ⟨B1, h1, k⟩ := pre_next L hM h
  exact ⟨B1, h1, fun _ _ _ => k⟩
theorem suf_nx {w : World} {B : Nat → Prop} (L : List Asn) {M : List Asn} (hL : Frs L) (h : stars (L ++ M) w B) : ∃ B1, stars M w B1 ∧ ∀ (M' : List Asn) (w' : World) (B' : Nat → Prop), stars M' w' B' → Nx B1 w B' w' → ∃ B3, stars (L ++ M') w' B3 ∧ Nx B w B3 w' := by
  obtain ⟨B1, h1, k⟩ := suf_next L hL h
  exact ⟨B1, h1, fun _ _ _ => k⟩
theorem stars_none (w : World) : stars [] w (fun _ => False) := fun _ h => h
/-- The state in which both writers are, since w, beside X. -/
def Both (w : World) (X : List Asn) (xi p pb xr D P : Nat) (m : M3) (wr : World) : Prop := ∃ B, stars (X ++ s6 xi p pb xr D P m) wr B ∧ Nx (fun _ => False) w B wr
theorem frs_app : ∀ {L M : List Asn}, Frs L → Frs M → Frs (L ++ M)
  | [], _, _, h => h
  | _ :: _, _, h, k => ⟨h.1, frs_app h.2 k⟩
theorem Both.gr {w wr u : World} {X : List Asn} {xi p pb xr D P : Nat} {m : M3} (h : Both w X xi p pb xr D P m wr) (hX : Frs X) (g : Gr wr u) : Both w X xi p pb xr D P m u := by
  obtain ⟨B, h1, n⟩ := h
  exact ⟨B, stars_gr (frs_app hX (frs_s6 _ _ _ _ _ _ _)) h1 g, n.trans (Nx.gr g)⟩
theorem Both.old {w wr : World} {X : List Asn} {xi p pb xr D P : Nat} {m : M3} (h : Both w X xi p pb xr D P m wr) : Gr w wr := by obtain ⟨B, _, n⟩ := h; exact nx_gr n
/-- A new block beside them. -/
theorem Both.blk {w wr : World} {X : List Asn} {xi p pb xr D P : Nat} {m : M3} (h : Both w X xi p pb xr D P m wr) (hX : Frs X) (c : Array Value) (T : TypeId) : Both w (Blk wr.heap.size c T :: X) xi p pb xr D P m (wr.alloc (.cells c T)) := by
  obtain ⟨B, h1, n⟩ := h
  obtain ⟨B2, h2, n2⟩ := part_new (P := Blk wr.heap.size c T) (B' := fun b => b = wr.heap.size) (frs_app hX (frs_s6 _ _ _ _ _ _ _)) h1 ((Gr.refl wr).alloc (Nat.le_refl _) (.cells c T)) ⟨heap_alloc_new wr _, fun _ => Iff.rfl⟩ (fun b hb => by omega)
  exact ⟨B2, h2, n.trans n2⟩
/-- One half is ahead. -/
def Half (w : World) (X : List Asn) (xi p pb xr D P : Nat) (m m' : M3) (wr : World) : Prop := ∃ B, stars (X ++ ([WrA xi p pb m'.x, DiskA p m'.s, BuA pb m'.b] ++ [RWrA xr D P m.x, RDiskA D m.s, RBuA P m.b])) wr B ∧ Nx (fun _ => False) w B wr
theorem frs_half (xi p pb xr D P : Nat) (m m' : M3) : Frs ([WrA xi p pb m'.x, DiskA p m'.s, BuA pb m'.b] ++ [RWrA xr D P m.x, RDiskA D m.s, RBuA P m.b]) := ⟨fr_wr _ _ _ _, fr_disk _ _, fr_bu _ _, fr_rwr _ _ _ _, fr_rdisk _ _, fr_rbu _ _, trivial⟩
theorem Half.gr {w wr u : World} {X : List Asn} {xi p pb xr D P : Nat} {m m' : M3} (h : Half w X xi p pb xr D P m m' wr) (hX : Frs X) (g : Gr wr u) : Half w X xi p pb xr D P m m' u := by
  obtain ⟨B, h1, n⟩ := h
  exact ⟨B, stars_gr (frs_app hX (frs_half _ _ _ _ _ _ _ _)) h1 g, n.trans (Nx.gr g)⟩
theorem Half.blk {w wr : World} {X : List Asn} {xi p pb xr D P : Nat} {m m' : M3} (h : Half w X xi p pb xr D P m m' wr) (hX : Frs X) (c : Array Value) (T : TypeId) : Half w (Blk wr.heap.size c T :: X) xi p pb xr D P m m' (wr.alloc (.cells c T)) := by
  obtain ⟨B, h1, n⟩ := h
  obtain ⟨B2, h2, n2⟩ := part_new (P := Blk wr.heap.size c T) (B' := fun b => b = wr.heap.size) (frs_app hX (frs_half _ _ _ _ _ _ _ _)) h1 ((Gr.refl wr).alloc (Nat.le_refl _) (.cells c T)) ⟨heap_alloc_new wr _, fun _ => Iff.rfl⟩ (fun b hb => by omega)
  exact ⟨B2, h2, n.trans n2⟩
theorem Half.old {w wr : World} {X : List Asn} {xi p pb xr D P : Nat} {m m' : M3} (h : Half w X xi p pb xr D P m m' wr) : Gr w wr := by obtain ⟨B, _, n⟩ := h; exact nx_gr n
theorem both_one {w wr : World} {X : List Asn} {xi p pb xr D P : Nat} {m m' : M3} {f : FuncId} {args : Array Value} {v : Value} (hX : Frs X) (h : Both w X xi p pb xr D P m wr) (k : ∀ B, W3 xi p pb m wr B → Calls Tryz.prog f args wr (Does wr B (W3 xi p pb m') v)) :
    Calls Tryz.prog f args wr fun e w' => e = .returned v ∧ Half w X xi p pb xr D P m m' w' := by
  obtain ⟨B, h1, n⟩ := h
  refine (does_suf X (M' := [WrA xi p pb m'.x, DiskA p m'.s, BuA pb m'.b] ++ [RWrA xr D P m.x, RDiskA D m.s, RBuA P m.b]) hX h1 fun B1 p1 => does_pre [WrA xi p pb m.x, DiskA p m.s, BuA pb m.b] (L' := [WrA xi p pb m'.x, DiskA p m'.s, BuA pb m'.b]) (M := [RWrA xr D P m.x, RDiskA D m.s, RBuA P m.b]) ⟨fr_rwr _ _ _ _, fr_rdisk _ _, fr_rbu _ _, trivial⟩ p1 k).mono ?_
  rintro e w' ⟨he, B', q, n'⟩
  exact ⟨he, B', q, n.trans n'⟩
theorem both_two {w wr : World} {X : List Asn} {xi p pb xr D P : Nat} {m m' : M3} {f : FuncId} {args : Array Value} {v : Value} (hX : Frs X) (h : Half w X xi p pb xr D P m m' wr) (k : ∀ B, R3 xr D P m wr B → Calls Tryz.prog f args wr (Does wr B (R3 xr D P m') v)) :
    Calls Tryz.prog f args wr fun e w' => e = .returned v ∧ Both w X xi p pb xr D P m' w' := by
  obtain ⟨B, h1, n⟩ := h
  refine (does_suf X (M' := s6 xi p pb xr D P m') hX h1 fun B1 p1 => does_suf [WrA xi p pb m'.x, DiskA p m'.s, BuA pb m'.b] (M := [RWrA xr D P m.x, RDiskA D m.s, RBuA P m.b]) (M' := [RWrA xr D P m'.x, RDiskA D m'.s, RBuA P m'.b]) ⟨fr_wr _ _ _ _, fr_disk _ _, fr_bu _ _, trivial⟩ p1 k).mono ?_
  rintro e w' ⟨he, B', q, n'⟩
  exact ⟨he, B', q, n.trans n'⟩
theorem Both.six {w wr : World} {X : List Asn} {xi p pb xr D P : Nat} {m : M3} (h : Both w X xi p pb xr D P m wr) : ∃ B, stars (s6 xi p pb xr D P m) wr B := by
  obtain ⟨B, h1, n⟩ := h
  obtain ⟨B1, B2, _, h2, _⟩ := stars_app.1 h1
  exact ⟨B2, h2⟩
theorem Both.bu {w wr : World} {X : List Asn} {xi p pb xr D P : Nat} {m : M3} (h : Both w X xi p pb xr D P m wr) : BAt wr pb m.b := by
  obtain ⟨B, h1⟩ := h.six
  obtain ⟨_, h2, _⟩ := part_at 2 rfl h1
  exact h2.at
theorem Both.rbu {w wr : World} {X : List Asn} {xi p pb xr D P : Nat} {m : M3} (h : Both w X xi p pb xr D P m wr) : wr.heap[P]? = some (.cells (rbcells m.b) 35 (0, 0)) := by
  obtain ⟨B, h1⟩ := h.six
  obtain ⟨_, h2, _⟩ := part_at 5 rfl h1
  exact h2.2.1
theorem Half.rbu {w wr : World} {X : List Asn} {xi p pb xr D P : Nat} {m m' : M3} (h : Half w X xi p pb xr D P m m' wr) : wr.heap[P]? = some (.cells (rbcells m.b) 35 (0, 0)) := by
  obtain ⟨B, h1, n⟩ := h
  obtain ⟨B1, B2, _, h2, _⟩ := stars_app.1 h1
  obtain ⟨_, h3, _⟩ := part_at (L := [WrA xi p pb m'.x, DiskA p m'.s, BuA pb m'.b] ++ [RWrA xr D P m.x, RDiskA D m.s, RBuA P m.b]) 5 rfl h2
  exact h3.2.1
theorem Both.one {w wr : World} {X : List Asn} {xi p pb xr D P : Nat} {m : M3} (h : Both w X xi p pb xr D P m wr) : ∃ B, W3 xi p pb m wr B := by
  obtain ⟨B, h1⟩ := h.six
  obtain ⟨B1, B2, h2, _⟩ := stars_app (L := [WrA xi p pb m.x, DiskA p m.s, BuA pb m.b]).1 h1
  exact ⟨B1, h2⟩
theorem Both.two {w wr : World} {X : List Asn} {xi p pb xr D P : Nat} {m : M3} (h : Both w X xi p pb xr D P m wr) : ∃ B, R3 xr D P m wr B := by
  obtain ⟨B, h1⟩ := h.six
  obtain ⟨B1, B2, _, h2, _⟩ := stars_app (L := [WrA xi p pb m.x, DiskA p m.s, BuA pb m.b]).1 h1
  exact ⟨B2, h2⟩
/-- What lies at a budget's second place. -/
def nowOf (P : Nat) (w : World) : Value := (w.cell? ⟨P, 1, none⟩).getD undef
theorem now_cell {P : Nat} {w : World} {v : Value} (h : w.cell? ⟨P, 1, none⟩ = some v) : w.cell? ⟨P, 1, none⟩ = some (nowOf P w) ∧ nowOf P w = v := by
  unfold nowOf; rw [h]; exact ⟨rfl, rfl⟩
/-- What holds at a round's head. -/
def PlayAt (w : World) (xi p pb xr D P : Nat) (n : Nat) (iv : Value) (wr : World) : Prop :=
  ∃ (i : Nat) (m : M3), i ≤ n ∧ iv = .int .i64 i ∧ m.ok ∧ m.x.all.length ≤ i ∧ m.s.calls ≤ 10 + (i : Int) ∧ m.x.nm = nmA ∧ Has m.s nmA.data.toList ∧ Both w [] xi p pb xr D P m wr
theorem play_start {w wr : World} {xi p pb xr D P n : Nat} {s : St} {b : Bu} {size : Int} {R : St × Bu × Int} (hs : s.ok) (hc : s.calls = 0) (hb : b.ok) (hR : R = createM s b nmA size) (h0 : R.2.2 = 0) (h : Both w [] xi p pb xr D P ⟨R.1, R.2.1, newWs nmA size⟩ wr) : PlayAt w xi p pb xr D P n (.int .i64 0) wr := by
  subst hR
  refine ⟨0, _, Nat.zero_le _, rfl, createM_ok hs hb nmA_size nmA_right h0, Nat.zero_le _, ?_, rfl, ?_, h⟩
  · have := createM_calls s b nmA size
    show (createM s b nmA size).1.calls ≤ _
    simp only [Int.natCast_zero]; omega
  · obtain ⟨f, hf, _⟩ := createM_has h0
    exact ⟨f, hf⟩
theorem play_next {w wr : World} {xi p pb xr D P n i : Nat} {m : M3} {r : ByteArray} (hi : i < n) (hok : m.ok) (ha : m.x.all.length ≤ i) (hc : m.s.calls ≤ 10 + (i : Int)) (hn : m.x.nm = nmA) (hh : Has m.s nmA.data.toList) (h : Both w [] xi p pb xr D P (putM m r).1 wr) : PlayAt w xi p pb xr D P n (.int .i64 ((i : Int) + 1)) wr := by
  refine ⟨i + 1, _, hi, by simp, ok_putM hok r, ?_, ?_, (putM_nm m r).1.trans hn, putM_has (by rw [hn]) hh, h⟩
  · have := putM_all m r; omega
  · have := putM_calls m r; omega
/-- The calls of a round. -/
theorem play_put {w v : World} {xi p pb xr D P : Nat} {m : M3} {r : ByteArray} (hok : m.ok) (ha : m.x.all.length ≤ 100000) (hc : m.s.calls ≤ 100000000000) (h : Both w [] xi p pb xr D P m v) :
    Calls Tryz.prog 15 #[.pointer (some ⟨xi, 0, none⟩), .string r] v fun e w' => e = .returned (.int .i64 (putM m r).2) ∧ Half w [] xi p pb xr D P m (putM m r).1 w' :=
  both_one trivial h fun B h1 => w_put xi p pb m r hok ha hc v B h1
theorem play_rput {w v : World} {xi p pb xr D P : Nat} {m : M3} {r : ByteArray} (hok : m.ok) (ha : m.x.all.length ≤ 100000) (hc : m.s.calls ≤ 100000000000) (h : Half w [] xi p pb xr D P m (putM m r).1 v) :
    Calls Tryz.prog 16 #[.pointer (some ⟨xr, 0, none⟩), .string r] v fun e w' => e = .returned (.int .i64 (putM m r).2) ∧ Both w [] xi p pb xr D P (putM m r).1 w' :=
  both_two trivial h fun B h1 => rw_put xr D P m r hok ha (by omega) v B h1
theorem play_count {w v : World} {xi p pb xr D P : Nat} {m : M3} (h : Both w [] xi p pb xr D P m v) :
    Calls Tryz.prog 17 #[.pointer (some ⟨xi, 0, none⟩)] v fun e w' => e = .returned (.int .i64 m.x.all.length) ∧ Both w [] xi p pb xr D P m w' := by
  obtain ⟨B, h1⟩ := h.one
  exact (w_count xi p pb m v B h1).mono fun e w' ⟨he, g⟩ => ⟨he, h.gr trivial g⟩
theorem play_rcount {w v : World} {xi p pb xr D P : Nat} {m : M3} (h : Both w [] xi p pb xr D P m v) :
    Calls Tryz.prog 18 #[.pointer (some ⟨xr, 0, none⟩)] v fun e w' => e = .returned (.int .i64 m.x.all.length) ∧ Both w [] xi p pb xr D P m w' := by
  obtain ⟨B, h1⟩ := h.two
  exact (rw_count xr D P m v B h1).mono fun e w' ⟨he, g⟩ => ⟨he, by rw [← g]; exact h⟩
theorem play_now {w v : World} {xi p pb xr D P : Nat} {m : M3} (h : Both w [] xi p pb xr D P m v) :
    Calls Tryz.prog 14 #[.pointer (some ⟨pb, 0, none⟩)] v fun e w' => e = .returned (.int .i64 m.b.now) ∧ Both w [] xi p pb xr D P m w' ∧ w'.cell? ⟨P, 1, none⟩ = some (.int .i64 m.b.now) :=
  (bnow_c pb m.b v h.bu).mono fun e w' ⟨he, g⟩ => ⟨he, by rw [← g]; exact h, by rw [← g, cells_at h.rbu]; rfl⟩
end Go.Proofs.YtcpaaenjfljocaaGreat

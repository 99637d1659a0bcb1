/- In one text: RnDefer, WrHas, WrLaid, WrCalm. -/
import Derived.Test.YtpmglnghnelenaaGreatP22
import Derived.Defers
import Derived.Test.YtpmglnghnelenaaGreatP19
/- Contracts of calls that are put off (made by gen/defer.py out of the plain ones' texts). -/
namespace Go.Proofs.YtpmglnghnelenaaGreat
open Go.RowKit FsPlain CrcPlain OctPlain FramePlain RecPlain RdPlain WrPlain
set_option linter.unusedVariables false
set_option linter.unusedSimpArgs false
set_option maxRecDepth 20000
set_option maxHeartbeats 1000000 in
theorem bgive_d (u : FrameMode) (p : Nat) (b : Bu) (n : Int) (w : World) (h : BAt w p b) :
    CallsD Tryz.prog 54 #[.pointer (some ⟨p, 0, none⟩), .int .i64 n] u w fun e u' w' => u' = u ∧ ((BTaken p (b.give n) w (.tuple #[]))) e w' := by
  have C := bmade_c p b w h
  have c2 : w.cell? ⟨p, 2, none⟩ = some (.int .i64 b.now) := by rw [cells_at h.2]; rfl
  have f2 := cells_free h.2 2
  have H := Lib.hid h
  obtain ⟨⟨n0, n1, h1, m1⟩, _⟩ := h
  by_cases h3 : n < 0
  · go_enter_d Tryz.func54, Tryz.ntmps54
    go_wp2_with fail
    refine C.mono ?_; rintro e w2 ⟨rfl, rfl⟩
    go_wp2_with fail
    refine bodyPost_ret (results_none rfl _ _ _) rfl ?_
    rw [show b.give n = b by unfold Bu.give; rw [if_pos h3]]
    exact ⟨rfl, H.out, Only.refl _ _⟩
  · have K := Lib.hid (fun a (ha : a = b.now - min n b.now) => bgive_of (n := n) (a := a) H.out (by omega) ha)
    go_enter_d Tryz.func54, Tryz.ntmps54
    go_wp2_with fail
    refine C.mono ?_; rintro e w2 ⟨rfl, rfl⟩
    go_wp2_with fail
    go_region
    all_goals go_wp2_with fail
    all_goals
      go_end0
      refine ⟨rfl, K.out _ ?_⟩; omega
theorem rp_close_d (u : FrameMode) (x D P : Nat) (m : N3) (hi : m.inv) (w : World) (B : Nat → Prop) (h : RP3 x D P m w B) :
    CallsD Tryz.prog 29 #[.pointer (some ⟨x, 0, none⟩)] u w fun e u' w' => u' = u ∧ ((Does w B (RP3 x D P (closeN m)) (.tuple #[]))) e w' := by
  cases ho : m.x.opn
  · have e : closeN m = m := by unfold closeN; rw [ho]; rfl
    rw [e]
    have CO := Lib.hid (ropen_no x w (by rw [cells_at (rsh_blk (rp3_shut ho h))]; rfl))
    have H := Lib.hid h
    clear h e ho hi
    go_enter_d Tryz.func29, Tryz.ntmps29
    go_wp2_with fail
    refine CO.out.mono ?_; rintro e w2 ⟨rfl, rfl⟩
    go_wp2_with fail
    go_end0
    exact ⟨rfl, B, H.out, Nx.refl _ _⟩
  · have e : closeN m = ⟨m.s, m.b.give 4, { m.x with bad := true, opn := false }⟩ := by unfold closeN wrongN shutN; rw [if_pos ho, if_pos (show m.isBad.x.opn = true from ho)]; rfl
    rw [e]
    have h := rp3_open ho h
    have CO := Lib.hid (ropen_yes x ⟨D, 0, none⟩ w (ro_start h).1)
    have CS := Lib.hid (r_stop x D P m false w B h)
    have HW := Lib.hid (hi.o ho).2
    clear h e ho hi
    go_enter_d Tryz.func29, Tryz.ntmps29
    go_wp2_with fail
    refine CO.out.mono ?_; rintro e w2 ⟨rfl, rfl⟩
    go_wp2_with fail
    refine CS.out.mono ?_; rintro e w2 hd
    obtain ⟨rfl, B2, h2, n2⟩ := hd
    have H2 := Lib.hid h2
    have N2 := Lib.hid n2
    clear h2 n2 CS
    go_wp2_with fail
    go_end0
    refine ⟨rfl, B2, .inr ⟨rfl, ?_⟩, N2.out⟩
    have := H2.out
    rw [show ({ m.x with bad := true, opn := false } : Rs).whole = false from HW.out]
    exact this
set_option maxRecDepth 20000 in
set_option maxHeartbeats 2000000 in
theorem w_drop_d (u : FrameMode) (x D P : Nat) (m : M3) (w : World) (B : Nat → Prop) (h : W3 x D P m w B) :
    CallsD Tryz.prog 27 #[.pointer (some ⟨x, 0, none⟩)] u w fun e u' w' => u' = u ∧ ((Does w B (W3 x D P (dropM m)) (.tuple #[]))) e w' := by
  cases ho : m.x.opn
  · have e : dropM m = m := by unfold dropM; rw [ho]; rfl
    rw [e]
    have c0 : w.cell? ⟨x, 0, none⟩ = some (.pointer none) := by rw [cells_at (w3_shut ho h)]; rfl
    have CO := Lib.hid (wopen_no x w c0)
    have H := Lib.hid h
    clear h e ho c0
    go_enter_d Tryz.func27, Tryz.ntmps27
    go_wp2_with fail
    refine CO.out.mono ?_; rintro e w2 ⟨rfl, rfl⟩
    go_wp2_with fail
    go_end0
    exact ⟨rfl, B, H.out, Nx.refl _ _⟩
  · have e : dropM m = ⟨m.s, m.b.give 4, { m.x with opn := false }⟩ := by unfold dropM; rw [ho]; rfl
    rw [e]
    obtain ⟨vw, h⟩ := w3_open ho h
    have hb := wl_blk h
    have hxl := lt_of_block hb
    have CO := Lib.hid (wopen_yes x ⟨D, 0, none⟩ w (by rw [cells_at hb]; rfl))
    have c2 : w.cell? ⟨x, 2, none⟩ = some (.pointer (some ⟨P, 0, none⟩)) := by rw [cells_at hb]; rfl
    have C := does_at (f := 54) (Q := BuA P (m.b.give 4)) 3 rfl (frs_wl _ _ _ _ _ _ _ _) h fun B2 h2 => bu_give P m.b 4 w B2 h2
    have HC := Lib.hid C
    clear h hb C e ho
    go_enter_d Tryz.func27, Tryz.ntmps27
    go_wp2_with fail
    refine CO.out.mono ?_; rintro e w2 ⟨rfl, rfl⟩
    go_wp2_with fail
    refine HC.out.mono ?_; rintro e w2 hd
    obtain ⟨rfl, B2, h2, n2⟩ := hd
    have hb := wl_blk h2
    have c5 : w2.cell? ⟨x, 5, none⟩ = some (.int .i64 m.x.all.length) := by rw [cells_at hb]; rfl
    have f0 := cells_free hb 0
    have f1 := cells_free hb 1
    have f2 := cells_free hb 2
    have f3 := cells_free hb 3
    have f4 := cells_free hb 4
    have f5 := cells_free hb 5
    have f6 := cells_free hb 6
    have b0 : w2.cell? ⟨x, 0, none⟩ = some (.pointer (some ⟨D, 0, none⟩)) := by rw [cells_at hb]; rfl
    have b1 : w2.cell? ⟨x, 1, none⟩ = some (.string m.x.nm) := by rw [cells_at hb]; rfl
    have b2 : w2.cell? ⟨x, 2, none⟩ = some (.pointer (some ⟨P, 0, none⟩)) := by rw [cells_at hb]; rfl
    have b3 : w2.cell? ⟨x, 3, none⟩ = some (.int .i64 m.x.size) := by rw [cells_at hb]; rfl
    have b4 : w2.cell? ⟨x, 4, none⟩ = some vw := by rw [cells_at hb]; rfl
    have b6 : w2.cell? ⟨x, 6, none⟩ = some (.int .u32 (sumN m.x.all : Nat)) := by rw [cells_at hb]; rfl
    have SH := Lib.hid (wl_shut (y := m.x) (x := x) (D := D) (P := P) (s := m.s) (b := m.b.give 4) (wait := m.x.wait) m.x.all.length rfl h2)
    have N2 := Lib.hid n2
    clear h2 n2 hb HC
    go_wp2_with fail
    go_end0
    obtain ⟨B3, h3, n3⟩ := SH.out
    exact ⟨rfl, B3, h3, N2.out.trans n3⟩
end Go.Proofs.YtpmglnghnelenaaGreat
/- Plain facts: a file that is there stays, whatever is appended or synced; what is told of it behind a rise. -/
namespace Go.Proofs.YtpmglnghnelenaaGreat
open Go.RowKit FsPlain CrcPlain OctPlain FramePlain RecPlain
set_option linter.unusedVariables false
set_option linter.unusedSimpArgs false
set_option maxRecDepth 20000
namespace WrPlain
/-- There is a file of this name. -/
def Has (s : St) (n : List UInt8) : Prop := ∃ f, s.get n = some f
theorem get_upd {s : St} {n : List UInt8} {g : F → F} {f : F} (hg : ∀ f, (g f).name = f.name) (h : s.get n = some f) : (s.upd n g).get n = some (g f) := by
  unfold St.get St.upd at *
  simp only []
  rw [List.find?_map]
  have e : ((fun f : F => f.name == n) ∘ fun f => if f.name = n then g f else f) = fun f : F => f.name == n := by
    funext f
    simp only [Function.comp]
    split
    · rw [hg]
    · rfl
  rw [e, h]
  have := List.find?_some h
  simp only [beq_iff_eq] at this
  simp [this]
theorem append_get {s : St} {n t : List UInt8} {f : F} (h : s.get n = some f) (h0 : (appendR s n t).2 = 0) : (appendR s n t).1.get n = some { f with data := f.data ++ t } := by
  unfold appendR at h0 ⊢
  split at h0
  · simp at h0
  · rename_i h1
    rw [if_neg h1]
    simp only [h] at h0 ⊢
    split at h0
    · simp at h0
    · rename_i h2
      rw [if_neg h2]
      exact get_upd (s := s.call) (g := fun f => { f with data := f.data ++ t }) (fun _ => rfl) h
theorem append_has {s : St} {n t : List UInt8} (h : Has s n) : Has (appendR s n t).1 n := by
  obtain ⟨f, h⟩ := h
  by_cases h0 : (appendR s n t).2 = 0
  · exact ⟨_, append_get h h0⟩
  · unfold appendR at h0 ⊢
    split
    · exact ⟨f, h⟩
    · rename_i h1
      rw [if_neg h1] at h0
      simp only [h] at h0 ⊢
      split
      · exact ⟨f, h⟩
      · rename_i h2
        rw [if_neg h2] at h0
        exact absurd rfl h0
theorem sync_get {s : St} {n : List UInt8} {f : F} (h : s.get n = some f) (h0 : (syncR s n).2 = 0) : (syncR s n).1.get n = some { f with kept := f.data.length } := by
  unfold syncR at h0 ⊢
  split at h0
  · simp at h0
  · rename_i h1
    rw [if_neg h1]
    simp only [h]
    exact get_upd (s := s.call) (g := fun f => { f with kept := f.data.length }) (fun _ => rfl) h
theorem sync_has {s : St} {n : List UInt8} (h : Has s n) : Has (syncR s n).1 n := by
  obtain ⟨f, h⟩ := h
  unfold syncR
  split
  · exact ⟨f, h⟩
  · simp only [h]
    exact ⟨_, get_upd (s := s.call) (g := fun f => { f with kept := f.data.length }) (fun _ => rfl) h⟩
theorem get_ins {n : List UInt8} {k : Nat} : ∀ {l : List F}, (l.find? fun f => f.name == n) = none → ((insF ⟨n, [], k⟩ l).find? fun f => f.name == n) = some ⟨n, [], k⟩
  | [], _ => by simp [insF]
  | y :: r, h => by
    rw [List.find?_cons] at h
    split at h
    · cases h
    · rename_i h1
      unfold insF
      split
      · rw [List.find?_cons]; simp
      · rw [List.find?_cons, h1]; exact get_ins h
theorem create_get {s : St} {n : List UInt8} (h0 : (createR s n).2 = 0) : (createR s n).1.get n = some ⟨n, [], 0⟩ := by
  unfold createR at h0 ⊢
  split at h0
  · simp at h0
  · rename_i h1
    rw [if_neg h1]
    cases hg : s.get n with
    | some f => rw [hg] at h0; simp at h0
    | none =>
      rw [hg] at h0
      simp only [] at h0 ⊢
      split at h0
      · simp at h0
      · rename_i h2
        rw [if_neg h2]
        exact get_ins hg
theorem createM_has {s : St} {b : Bu} {nm : ByteArray} {size : Int} (h0 : (createM s b nm size).2.2 = 0) : ∃ f, (createM s b nm size).1.get nm.data.toList = some f ∧ f.data = (headS size).data.toList ∧ sizeB size = true := by
  cases hz : sizeB size
  · unfold createM at h0; rw [if_pos hz] at h0; exact absurd h0 (by simp)
  · unfold createM at h0 ⊢
    rw [if_neg (by rw [hz]; decide)] at h0 ⊢
    split at h0
    · rename_i h1; exact absurd h0 h1
    · rename_i h1
      rw [if_neg h1]
      split at h0
      · rename_i h2; exact absurd h0 h2
      · rename_i h2
        rw [if_neg h2]
        split at h0
        · rename_i h3; exact absurd h0 h3
        · rename_i h3
          rw [if_neg h3]
          exact ⟨_, append_get (create_get (by omega)) (by omega), rfl, rfl⟩
theorem dropM_has {m : M3} {n : List UInt8} (h : Has m.s n) : Has (dropM m).s n := by
  unfold dropM; split <;> exact h
theorem layM_has {m : M3} {t : ByteArray} {n : List UInt8} (hn : m.x.nm.data.toList = n) (h : Has m.s n) : Has (layM m t).1.s n := by
  subst hn
  unfold layM
  split
  · exact append_has h
  · exact dropM_has (append_has h)
theorem putM_has {m : M3} {r : ByteArray} {n : List UInt8} (hn : m.x.nm.data.toList = n) (h : Has m.s n) : Has (putM m r).1.s n := by
  unfold putM
  split
  · exact h
  · split
    · exact h
    · split
      · exact h
      · exact layM_has (m := ⟨m.s, m.b, (m.x.put r).none⟩) hn h
theorem putM_nm (m : M3) (r : ByteArray) : (putM m r).1.x.nm = m.x.nm ∧ (putM m r).1.x.size = m.x.size := by
  unfold putM
  split
  · exact ⟨rfl, rfl⟩
  · split
    · exact ⟨rfl, rfl⟩
    · split
      · exact ⟨rfl, rfl⟩
      · unfold layM dropM
        split
        · exact ⟨rfl, rfl⟩
        · split <;> exact ⟨rfl, rfl⟩
theorem lay_nm (m : M3) (t : ByteArray) : (layM m t).1.x.nm = m.x.nm := by
  unfold layM dropM
  split
  · rfl
  · split <;> rfl
theorem flush_nm (m : M3) : (flushM m).1.x.nm = m.x.nm := by
  unfold flushM
  split
  · rfl
  · exact lay_nm _ _
theorem closeM_has {m : M3} {n : List UInt8} (hn : m.x.nm.data.toList = n) (h : Has m.s n) : Has (closeM m).1.s n := by
  have h1 : Has (flushM m).1.s n := by
    unfold flushM
    split
    · exact h
    · exact layM_has hn h
  have hn1 : (flushM m).1.x.nm.data.toList = n := by rw [flush_nm, hn]
  have h2 : Has (endM (flushM m).1).1.s n := by unfold endM; exact layM_has hn1 h1
  have hn2 : (endM (flushM m).1).1.x.nm.data.toList = n := by unfold endM; rw [lay_nm, hn1]
  unfold closeM
  split
  · exact h
  · split
    · exact h1
    · split
      · exact dropM_has h2
      · refine dropM_has ?_
        unfold syncM
        rw [hn2]
        exact sync_has h2
theorem closeM_calls (m : M3) : (closeM m).1.s.calls ≤ m.s.calls + 3 ∧ 0 ≤ (closeM m).1.s.calls - m.s.calls := by
  have h1 : (flushM m).1.s.calls ≤ m.s.calls + 1 ∧ m.s.calls ≤ (flushM m).1.s.calls := by
    unfold flushM
    split
    · simp only []; omega
    · rw [layM_calls]; omega
  have h2 : (endM (flushM m).1).1.s.calls = (flushM m).1.s.calls + 1 := by unfold endM; exact layM_calls _ _
  have h3 : (syncM (endM (flushM m).1).1).1.s.calls = (endM (flushM m).1).1.s.calls + 1 := sync_calls _ _
  unfold closeM
  split
  · simp only []; omega
  · split
    · omega
    · split
      · simp only [dropM_calls]; omega
      · simp only [dropM_calls]; omega
/-- Behind a rise: a file that is there is told whole. -/
theorem rise_get {s : St} (hs : s.ok) {n : List UInt8} (h : Has s n) : ∃ f, (riseR s []).get n = some f := by
  obtain ⟨f, h⟩ := h
  refine get_name ?_
  show n ∈ (riseN s [] s.fs.length).fs.map (·.name)
  rw [rise_names]
  have := get_mem h
  have hn : f.name = n := by simpa using List.find?_some h
  rw [← hn]; exact List.mem_map_of_mem this
theorem rise_told {s : St} (hs : s.ok) {n : List UInt8} (h : Has s n) : ∃ f, (riseR s []).get n = some f ∧ sizeR (riseR s []) n = ((f.data.length : Int), 0) ∧ readR (riseR s []).call n 0 f.data.length = (f.data, 0) := by
  obtain ⟨f, h⟩ := rise_get hs h
  have h1 : (riseR s []).call.down = false := rfl
  have h2 : (riseR s []).call.call.down = false := rfl
  refine ⟨f, h, ?_, ?_⟩
  · unfold sizeR
    rw [if_neg (by rw [h1]; decide), h]
  · unfold readR
    rw [if_neg (by rw [h2]; decide)]
    rw [show (riseR s []).call.get n = (riseR s []).get n from rfl, h]
    simp
theorem rise_calls (s : St) (ks : List Int) : (riseR s ks).calls = s.calls := by
  unfold riseR
  simp only []
  have : ∀ j, (riseN s ks j).calls = s.calls := fun j => by
    induction j with
    | zero => rfl
    | succ j ih => exact ih
  exact this _
end WrPlain
end Go.Proofs.YtpmglnghnelenaaGreat
/- Plain facts: what a writer lays is the file of its records; where there is room no call fails. -/
namespace Go.Proofs.YtpmglnghnelenaaGreat
open Go.RowKit FsPlain CrcPlain OctPlain FramePlain RecPlain
set_option linter.unusedVariables false
set_option linter.unusedSimpArgs false
set_option maxRecDepth 20000
namespace WrPlain
theorem four_old {l : List ByteArray} {r : ByteArray} {i : Nat} (h : 4 * i + 4 ≤ l.length) : four (l ++ [r]) i = four l i := by
  unfold four
  rw [List.drop_append_of_le_length (by omega), List.take_append_of_le_length (by rw [List.length_drop]; omega)]
theorem ups_old {l : List ByteArray} {r : ByteArray} : ∀ {j : Nat}, 4 * j ≤ l.length → ups (l ++ [r]) j = ups l j
  | 0, _ => rfl
  | j + 1, h => by rw [ups_succ, ups_succ, ups_old (j := j) (by omega), four_old (by omega)]
theorem four_last {l : List ByteArray} {j : Nat} (h : l.length ≤ 4 * j + 4) : four l j = l.drop (4 * j) := by
  unfold four
  rw [List.take_of_length_le (by rw [List.length_drop]; omega)]
/-- What stands in the file of a writer that is open. -/
structure Laid (m : M3) (j : Nat) (f : F) : Prop where
  get : m.s.get m.x.nm.data.toList = some f
  len : m.x.all.length = 4 * j + m.x.wait.length
  wait : m.x.wait = m.x.all.drop (4 * j)
  data : f.data = (headS m.x.size).data.toList ++ blks (ups m.x.all j)
theorem laid_new {s : St} {b : Bu} {nm : ByteArray} {size : Int} (h0 : (createM s b nm size).2.2 = 0) : ∃ f, Laid ⟨(createM s b nm size).1, (createM s b nm size).2.1, newWs nm size⟩ 0 f := by
  obtain ⟨f, h1, h2, _⟩ := createM_has h0
  exact ⟨f, h1, rfl, rfl, by rw [h2]; show _ = _ ++ blks (ups [] 0); rw [show ups ([] : List ByteArray) 0 = [] from rfl, blks_nil, List.append_nil]; rfl⟩
theorem layM_ok {m : M3} {t : ByteArray} (h : (layM m t).2 = 0) : (appendR m.s m.x.nm.data.toList t.data.toList).2 = 0 ∧ (layM m t).1 = ⟨(appendR m.s m.x.nm.data.toList t.data.toList).1, m.b, m.x⟩ := by
  unfold layM at h ⊢
  split at h
  · rename_i h1; rw [if_pos h1]; exact ⟨h1, rfl⟩
  · rename_i h1; exact absurd h h1
theorem blk_yes {m : M3} (hm : m.ok) {l : List ByteArray} (h1 : 1 ≤ l.length) (h4 : l.length ≤ 4) (hz : ∀ r ∈ l, (r.size : Int) = m.x.size) : blkS m.x.size l = cl (blk l) := by
  refine blkS_yes ?_
  unfold blkB
  rw [hm.z, decide_eq_true ⟨h1, h4⟩, allB_iff.2 hz]; rfl
theorem laid_put {m : M3} {r : ByteArray} {j : Nat} {f : F} (hm : m.ok) (h : Laid m j f) (ho : m.x.opn = true) (hz : (r.size : Int) = m.x.size) (h0 : (putM m r).2 = 0) : ∃ j f, Laid (putM m r).1 j f ∧ (putM m r).1.x.all = m.x.all ++ [r] ∧ (putM m r).1.x.opn = true := by
  unfold putM at h0 ⊢
  rw [if_neg (by rw [ho]; decide), if_neg (by simpa using hz)] at h0 ⊢
  split at h0
  · rename_i hl
    rw [if_pos hl]
    refine ⟨j, f, ⟨h.get, ?_, ?_, ?_⟩, rfl, ho⟩
    · show (m.x.all ++ [r]).length = _ + (m.x.wait ++ [r]).length
      rw [List.length_append, List.length_append, h.len]; simp; omega
    · show m.x.wait ++ [r] = (m.x.all ++ [r]).drop (4 * j)
      rw [List.drop_append_of_le_length (by have := h.len; omega), ← h.wait]
    · show f.data = (headS m.x.size).data.toList ++ blks (ups (m.x.all ++ [r]) j)
      rw [ups_old (by have := h.len; omega)]; exact h.data
  · rename_i hl
    rw [if_neg hl]
    have hwl : m.x.wait.length = 3 := by have := hm.wl; omega
    obtain ⟨h1, h2⟩ := layM_ok h0
    rw [h2]
    have hall : ∀ q ∈ m.x.wait ++ [r], (q.size : Int) = m.x.size := fun q hq => by
      rcases List.mem_append.1 hq with hq | hq
      · exact hm.wz q hq
      · rw [List.mem_singleton.1 hq]; exact hz
    have hb := blk_yes hm (l := m.x.wait ++ [r]) (by simp) (by simp; omega) hall
    have hlen : (m.x.all ++ [r]).length = 4 * j + 4 := by have := h.len; simp; omega
    have hd : (m.x.all ++ [r]).drop (4 * j) = m.x.wait ++ [r] := by rw [List.drop_append_of_le_length (by have := h.len; omega), ← h.wait]
    refine ⟨j + 1, _, ⟨append_get (s := m.s) h.get h1, ?_, ?_, ?_⟩, rfl, ho⟩
    · show (m.x.all ++ [r]).length = 4 * (j + 1) + 0; omega
    · show ([] : List ByteArray) = (m.x.all ++ [r]).drop (4 * (j + 1)); rw [List.drop_eq_nil_of_le (by omega)]
    · show f.data ++ (blkS m.x.size (m.x.wait ++ [r])).data.toList = (headS m.x.size).data.toList ++ blks (ups (m.x.all ++ [r]) (j + 1))
      rw [ups_succ, ups_old (by have := h.len; omega), four_last (by omega), hd, blks_app, blks_cons, blks_nil, h.data, hb, List.append_nil, List.append_assoc]
theorem laid_flush {m : M3} {j : Nat} {f : F} (hm : m.ok) (h : Laid m j f) (h0 : (flushM m).2 = 0) : ∃ f, (flushM m).1.s.get m.x.nm.data.toList = some f ∧ f.data = (headS m.x.size).data.toList ++ blks (ups m.x.all (cnt4 m.x.all)) ∧ (flushM m).1.x = m.x ∧ (flushM m).1.b = m.b := by
  unfold flushM at h0 ⊢
  split at h0
  · rename_i hw
    rw [if_pos hw]
    have : cnt4 m.x.all = j := by unfold cnt4; have := h.len; omega
    exact ⟨f, h.get, by rw [this]; exact h.data, rfl, rfl⟩
  · rename_i hw
    rw [if_neg hw]
    obtain ⟨h1, h2⟩ := layM_ok h0
    rw [h2]
    have hwl := hm.wl
    have hb := blk_yes hm (l := m.x.wait) (by omega) (by omega) hm.wz
    have : cnt4 m.x.all = j + 1 := by unfold cnt4; have := h.len; omega
    refine ⟨_, append_get (s := m.s) h.get h1, ?_, rfl, rfl⟩
    show f.data ++ (blkS m.x.size m.x.wait).data.toList = _
    rw [this, ups_succ, four_last (by have := h.len; omega), ← h.wait, blks_app, blks_cons, blks_nil, h.data, hb, List.append_nil, List.append_assoc]
theorem dropM_open {m : M3} (h : m.x.opn = true) : dropM m = ⟨m.s, m.b.give 4, { m.x with opn := false }⟩ := by unfold dropM; rw [if_pos h]
theorem laid_close {m : M3} {j : Nat} {f : F} (hm : m.ok) (hal : m.x.all.length ≤ 100000) (h : Laid m j f) (ho : m.x.opn = true) (h0 : (closeM m).2 = 0) : ∃ f, (closeM m).1.s.get m.x.nm.data.toList = some f ∧ f.data = layL m.x.size m.x.all ∧ f.kept = f.data.length ∧ (closeM m).1.b = m.b.give 4 ∧ (closeM m).1.x.opn = false ∧ (closeM m).1.x.all = m.x.all := by
  unfold closeM at h0 ⊢
  rw [if_neg (by rw [ho]; decide)] at h0 ⊢
  split at h0
  · rename_i h1; exact absurd h0 h1
  · rename_i h1
    rw [if_neg h1]
    obtain ⟨f2, g1, g2, g3, g4⟩ := laid_flush hm h (by omega)
    split at h0
    · rename_i h2; exact absurd h0 h2
    · rename_i h2
      rw [if_neg h2]
      have he : (layM (flushM m).1 (peS (flushM m).1.x.all.length (sumN (flushM m).1.x.all))).2 = 0 := by
        have : (endM (flushM m).1).2 = 0 := by omega
        exact this
      obtain ⟨k1, k2⟩ := layM_ok he
      have e1 : (endM (flushM m).1).1 = ⟨(appendR (flushM m).1.s m.x.nm.data.toList (peS m.x.all.length (sumN m.x.all)).data.toList).1, m.b, m.x⟩ := by
        unfold endM; rw [k2, g3, g4]
      rw [e1] at h0 ⊢
      rw [g3] at k1
      have k3 := append_get g1 k1
      have hs : (syncR (appendR (flushM m).1.s m.x.nm.data.toList (peS m.x.all.length (sumN m.x.all)).data.toList).1 m.x.nm.data.toList).2 = 0 := h0
      have k4 := sync_get k3 hs
      have hpe : peS m.x.all.length (sumN m.x.all) = cl (endS m.x.all.length (sumN m.x.all)) := by
        have hb : peB (m.x.all.length : Int) = true := by unfold peB; rw [decide_eq_true_iff]; omega
        rw [peS_yes hb]; rfl
      rw [dropM_open (m := (syncM _).1) (by exact ho)]
      refine ⟨_, k4, ?_, rfl, rfl, rfl, rfl⟩
      show f2.data ++ (peS m.x.all.length (sumN m.x.all)).data.toList = _
      rw [g2, hpe]
      unfold layL endL
      rw [List.append_assoc]
end WrPlain
end Go.Proofs.YtpmglnghnelenaaGreat
/- Plain facts: a machine that does not fall, and room enough: no call of a writer fails. -/
namespace Go.Proofs.YtpmglnghnelenaaGreat
open Go.RowKit FsPlain CrcPlain OctPlain FramePlain RecPlain
set_option linter.unusedVariables false
set_option linter.unusedSimpArgs false
set_option maxRecDepth 20000
namespace WrPlain
/-- The machine is up, and does not fall. -/
def Calm (s : St) : Prop := s.down = false ∧ s.ahead = -1
theorem calm_call {s : St} (h : Calm s) : Calm s.call ∧ s.call.down = false := by
  obtain ⟨h1, h2⟩ := h
  have e : s.call.down = false := by unfold St.call; simp [h1, h2]
  exact ⟨⟨e, by show max (s.ahead - 1) (-1) = -1; rw [h2]; decide⟩, e⟩
theorem append_calm {s : St} (hs : s.ok) (h : Calm s) {n t : List UInt8} {f : F} (hg : s.get n = some f) (hr : (used s.fs : Int) + t.length ≤ s.room) :
    (appendR s n t).2 = 0 ∧ Calm (appendR s n t).1 ∧ (appendR s n t).1.room = s.room ∧ used (appendR s n t).1.fs = used s.fs + t.length := by
  obtain ⟨hc, hd⟩ := calm_call h
  have e : appendR s n t = (s.call.upd n (fun f => { f with data := f.data ++ t }), 0) := by
    unfold appendR
    rw [if_neg (by rw [hd]; decide), hg]
    simp only []
    rw [if_neg (by omega)]
  rw [e]
  obtain ⟨A, C, e1, _, _, _, hu⟩ := get_split (s := s.call) (ok_call hs) (n := n) (f := f) hg
  refine ⟨rfl, hc, rfl, ?_⟩
  show used (s.call.upd n (fun f => { f with data := f.data ++ t })).fs = _
  rw [hu]
  have h2 := used_split A C f { f with data := f.data ++ t }
  have h3 : s.fs = A ++ f :: C := e1
  rw [h3]
  simp only [List.length_append] at h2
  omega
theorem sync_calm {s : St} (h : Calm s) {n : List UInt8} {f : F} (hg : s.get n = some f) : (syncR s n).2 = 0 := by
  obtain ⟨hc, hd⟩ := calm_call h
  unfold syncR
  rw [if_neg (by rw [hd]; decide), hg]
theorem blkS_len {m : M3} (hm : m.ok) {l : List ByteArray} (h4 : l.length ≤ 4) (hz : ∀ r ∈ l, (r.size : Int) = m.x.size) : (blkS m.x.size l).size ≤ 300 := by
  have hs : 1 ≤ m.x.size ∧ m.x.size ≤ 64 := by simpa [sizeB] using hm.z
  cases hb : blkB m.x.size l
  · rw [blkS_no hb]; decide
  · rw [blkS_yes hb, cl_size, blk_size]
    have := cat_le (l := l) fun s h => by have := hz s h; omega
    omega
theorem layM_calm {m : M3} {t : ByteArray} (hm : m.ok) (h : Calm m.s) {f : F} (hg : m.s.get m.x.nm.data.toList = some f) (hr : (used m.s.fs : Int) + t.size ≤ m.s.room) :
    (layM m t).2 = 0 ∧ Calm (layM m t).1.s ∧ (layM m t).1.s.room = m.s.room ∧ used (layM m t).1.s.fs = used m.s.fs + t.size := by
  have hl : t.data.toList.length = t.size := Array.length_toList
  obtain ⟨h1, h2, h3, h4⟩ := append_calm hm.s h hg (t := t.data.toList) (by rw [hl]; exact hr)
  have e : layM m t = (⟨(appendR m.s m.x.nm.data.toList t.data.toList).1, m.b, m.x⟩, 0) := by unfold layM; rw [if_pos h1]
  rw [e]
  exact ⟨rfl, h2, h3, by rw [← hl]; exact h4⟩
theorem put_calm {m : M3} {r : ByteArray} {j : Nat} {f : F} (hm : m.ok) (h : Calm m.s) (hL : Laid m j f) (ho : m.x.opn = true) (hz : (r.size : Int) = m.x.size) (hr : (used m.s.fs : Int) + 300 ≤ m.s.room) :
    (putM m r).2 = 0 ∧ Calm (putM m r).1.s ∧ (putM m r).1.s.room = m.s.room ∧ used (putM m r).1.s.fs ≤ used m.s.fs + 300 := by
  unfold putM
  rw [if_neg (by rw [ho]; decide), if_neg (by simpa using hz)]
  split
  · exact ⟨rfl, h, rfl, by show used m.s.fs ≤ _; omega⟩
  · have hall : ∀ q ∈ m.x.wait ++ [r], (q.size : Int) = m.x.size := fun q hq => by
      rcases List.mem_append.1 hq with hq | hq
      · exact hm.wz q hq
      · rw [List.mem_singleton.1 hq]; exact hz
    have hb := blkS_len hm (l := m.x.wait ++ [r]) (by have := hm.wl; simp; omega) hall
    have az : ∀ q ∈ m.x.all ++ [r], (q.size : Int) = m.x.size := fun q hq => by
      rcases List.mem_append.1 hq with hq | hq
      · exact hm.az q hq
      · rw [List.mem_singleton.1 hq]; exact hz
    obtain ⟨h1, h2, h3, h4⟩ := layM_calm (m := ⟨m.s, m.b, (m.x.put r).none⟩) (t := blkS m.x.size (m.x.wait ++ [r])) ⟨hm.s, hm.b, hm.n1, hm.n2, hm.z, Nat.zero_le _, (fun q hq => by cases hq), az⟩ h hL.get (by show (used m.s.fs : Int) + _ ≤ m.s.room; omega)
    exact ⟨h1, h2, h3, by rw [h4]; show used m.s.fs + _ ≤ _; omega⟩
theorem close_calm {m : M3} {j : Nat} {f : F} (hm : m.ok) (h : Calm m.s) (hL : Laid m j f) (ho : m.x.opn = true) (hr : (used m.s.fs : Int) + 600 ≤ m.s.room) : (closeM m).2 = 0 := by
  have hfl : (flushM m).2 = 0 ∧ Calm (flushM m).1.s ∧ (flushM m).1.s.room = m.s.room ∧ used (flushM m).1.s.fs ≤ used m.s.fs + 300 ∧ (flushM m).1.ok := by
    unfold flushM
    split
    · exact ⟨rfl, h, rfl, by show used m.s.fs ≤ _; omega, hm⟩
    · have hb := blkS_len hm (l := m.x.wait) (by have := hm.wl; omega) hm.wz
      obtain ⟨h1, h2, h3, h4⟩ := layM_calm hm h hL.get (t := blkS m.x.size m.x.wait) (by omega)
      exact ⟨h1, h2, h3, by rw [h4]; omega, ok_layM hm _⟩
  obtain ⟨f1, f2, f3, f4, f5⟩ := hfl
  obtain ⟨f', g1, g2, g3, g4⟩ := laid_flush hm hL f1
  have hp : (peS (flushM m).1.x.all.length (sumN (flushM m).1.x.all)).size ≤ 300 := by
    cases hb : peB ((flushM m).1.x.all.length : Int)
    · rw [peS_no hb]; decide
    · rw [peS_yes hb, cl_size, endS_size]; decide
  obtain ⟨e1, e2, e3, e4⟩ := layM_calm f5 f2 (f := f') (by rw [g3]; exact g1) (t := peS (flushM m).1.x.all.length (sumN (flushM m).1.x.all)) (by omega)
  have e1' : (endM (flushM m).1).2 = 0 := e1
  obtain ⟨_, k2⟩ := layM_ok (m := (flushM m).1) e1
  have hnm : (endM (flushM m).1).1.x = m.x := by
    show (layM (flushM m).1 _).1.x = _
    rw [k2, ← g3]
  unfold closeM
  rw [if_neg (by rw [ho]; decide), if_neg (by omega), if_neg (by omega)]
  show (syncR (endM (flushM m).1).1.s (endM (flushM m).1).1.x.nm.data.toList).2 = 0
  rw [hnm]
  have hg : ∃ q, (endM (flushM m).1).1.s.get m.x.nm.data.toList = some q := by
    show ∃ q, (layM (flushM m).1 _).1.s.get _ = some q
    obtain ⟨k1, k2⟩ := layM_ok (m := (flushM m).1) e1
    rw [k2]
    have := append_get (s := (flushM m).1.s) (n := (flushM m).1.x.nm.data.toList) (by rw [g3]; exact g1) k1
    rw [g3] at this ⊢
    exact ⟨_, this⟩
  obtain ⟨q, hq⟩ := hg
  exact sync_calm e2 hq
end WrPlain
end Go.Proofs.YtpmglnghnelenaaGreat

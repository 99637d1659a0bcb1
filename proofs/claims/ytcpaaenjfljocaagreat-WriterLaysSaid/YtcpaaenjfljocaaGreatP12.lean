/- In one text: Wr4, Rfs. -/
import Derived.Test.YtcpaaenjfljocaaGreatP11
import Derived.Test.YtcpaaenjfljocaaGreatP07
import Derived.Test.YtcpaaenjfljocaaGreatP00
import Derived.Laws.AppendOwn
import Derived.Laws.AppendOwnNone
import Derived.RegionTactic
import Derived.BigRegion
import Derived.Lib.Strings
import Derived.Sort.Walk0
/- The program's writer: finish; what a close comes to. -/
namespace Go.Proofs.YtcpaaenjfljocaaGreat
open Go.RowKit FsPlain CrcPlain OctPlain FramePlain RecPlain WrPlain
set_option linter.unusedVariables false
set_option linter.unusedSimpArgs false
/-- What addBlock makes of all, if some wait. -/
def addM (m : M3) (T : ByteArray) : M3 × Int := if m.x.wait.length = 0 then (m, 0) else (⟨(appendR m.s m.x.nm.data.toList T.data.toList).1, m.b, m.x.none⟩, (appendR m.s m.x.nm.data.toList T.data.toList).2)
def finM (m : M3) (T E : ByteArray) : M3 × Int := if ¬ (addM m T).2 = 0 then addM m T else (⟨(endR (addM m T).1.s m.x.nm.data.toList E.data.toList).1, m.b, (addM m T).1.x⟩, (endR (addM m T).1.s m.x.nm.data.toList E.data.toList).2)
theorem addM_x (m : M3) (T : ByteArray) : (addM m T).1.x.nm = m.x.nm ∧ (addM m T).1.x.all = m.x.all ∧ (addM m T).1.x.opn = m.x.opn ∧ (addM m T).1.b = m.b ∧ (addM m T).1.x.size = m.x.size := by
  unfold addM; split <;> exact ⟨rfl, rfl, rfl, rfl, rfl⟩
theorem finM_x (m : M3) (T E : ByteArray) : (finM m T E).1.x.all = m.x.all ∧ (finM m T E).1.x.opn = m.x.opn ∧ (finM m T E).1.b = m.b := by
  have h := addM_x m T
  unfold finM; split
  · exact ⟨h.2.1, h.2.2.1, h.2.2.2.1⟩
  · exact ⟨h.2.1, h.2.2.1, rfl⟩
theorem shut_same {x D P : Nat} {m m' : M3} {w : World} {B : Nat → Prop} (hs : m.s = m'.s) (hb : m.b = m'.b) (ha : m.x.all = m'.x.all) (ho : m.x.opn = false) (ho' : m'.x.opn = false) (h : W3 x D P m w B) : W3 x D P m' w B := by
  obtain ⟨B1, B2, h1, h2, a, e⟩ := h
  rcases h1 with ⟨h1, _⟩ | ⟨_, h1⟩
  · rw [ho] at h1; cases h1
  · exact ⟨B1, B2, .inr ⟨ho', by rw [← ha]; exact h1⟩, by rw [← hs, ← hb]; exact h2, a, e⟩
theorem dropM_up {m : M3} (ho : m.x.opn = true) : dropM m = ⟨m.s, m.b.give 4, { m.x with opn := false }⟩ := by unfold dropM; rw [if_pos ho]
/-- Close, by finish and Drop. -/
theorem fin_close {m : M3} {T E : ByteArray} (ho : m.x.opn = true) (hT : T = blkS m.x.size m.x.wait) (hE : E = peS m.x.all.length (sumN m.x.all)) :
    (dropM (finM m T E).1).s = (closeM m).1.s ∧ (dropM (finM m T E).1).b = (closeM m).1.b ∧ (dropM (finM m T E).1).x.all = (closeM m).1.x.all ∧ (dropM (finM m T E).1).x.opn = false ∧ (closeM m).1.x.opn = false ∧ (finM m T E).2 = (closeM m).2 := by
  have hfx := finM_x m T E
  have hd : dropM (finM m T E).1 = ⟨(finM m T E).1.s, m.b.give 4, { (finM m T E).1.x with opn := false }⟩ := by rw [dropM_up (by rw [hfx.2.1]; exact ho), hfx.2.2]
  rw [hd]
  simp only [hfx.1, true_and]
  have key : ∀ s x, x.opn = true → x.all = m.x.all → x.nm = m.x.nm → (closeM m = if ¬ (endM ⟨s, m.b, x⟩).2 = 0 then (dropM (endM ⟨s, m.b, x⟩).1, (endM ⟨s, m.b, x⟩).2) else (dropM (syncM (endM ⟨s, m.b, x⟩).1).1, (syncM (endM ⟨s, m.b, x⟩).1).2)) → (closeM m).1.s = (endR s m.x.nm.data.toList E.data.toList).1 ∧ (closeM m).1.b = m.b.give 4 ∧ (closeM m).1.x.all = m.x.all ∧ (closeM m).1.x.opn = false ∧ (closeM m).2 = (endR s m.x.nm.data.toList E.data.toList).2 := by
    intro s x hxo hxa hxn hcl
    have e0 : endM ⟨s, m.b, x⟩ = layM ⟨s, m.b, x⟩ E := by unfold endM; simp only [hxa]; rw [hE]
    rw [e0] at hcl
    have e1 : layM ⟨s, m.b, x⟩ E = if (appendR s m.x.nm.data.toList E.data.toList).2 = 0 then (⟨(appendR s m.x.nm.data.toList E.data.toList).1, m.b, x⟩, 0) else (dropM ⟨(appendR s m.x.nm.data.toList E.data.toList).1, m.b, x⟩, (appendR s m.x.nm.data.toList E.data.toList).2) := by
      unfold layM; simp only [hxn]
    rw [e1] at hcl
    unfold endR
    by_cases h0 : (appendR s m.x.nm.data.toList E.data.toList).2 = 0
    · rw [if_pos h0]
      rw [if_pos h0] at hcl
      simp only [not_true, if_false] at hcl
      rw [hcl, show dropM (syncM ⟨(appendR s m.x.nm.data.toList E.data.toList).1, m.b, x⟩).1 = ⟨(syncM ⟨(appendR s m.x.nm.data.toList E.data.toList).1, m.b, x⟩).1.s, m.b.give 4, { x with opn := false }⟩ from dropM_up hxo]
      unfold syncM
      simp only [hxn, hxa, and_true, true_and]
    · rw [if_neg h0]
      rw [if_neg h0] at hcl
      simp only [if_pos h0] at hcl
      have e2 : dropM ⟨(appendR s m.x.nm.data.toList E.data.toList).1, m.b, x⟩ = ⟨(appendR s m.x.nm.data.toList E.data.toList).1, m.b.give 4, { x with opn := false }⟩ := dropM_up hxo
      rw [e2] at hcl
      rw [hcl]
      simp [dropM, hxa, h0]
  have hcl0 : closeM m = if ¬ (flushM m).2 = 0 then flushM m else if ¬ (endM (flushM m).1).2 = 0 then (dropM (endM (flushM m).1).1, (endM (flushM m).1).2) else (dropM (syncM (endM (flushM m).1).1).1, (syncM (endM (flushM m).1).1).2) := by
    unfold closeM; rw [if_neg (by rw [ho]; decide)]
  by_cases hw : m.x.wait.length = 0
  · have hf : flushM m = (m, 0) := by unfold flushM; rw [if_pos hw]
    have ha : addM m T = (m, 0) := by unfold addM; rw [if_pos hw]
    rw [hf] at hcl0
    simp only [not_true, if_false] at hcl0
    obtain ⟨k1, k2, k3, k4, k5⟩ := key m.s m.x ho rfl rfl hcl0
    unfold finM
    rw [ha]
    simp only [not_true, if_false]
    exact ⟨k1.symm, k2.symm, k3.symm, k4, k5.symm⟩
  · by_cases h0 : (appendR m.s m.x.nm.data.toList T.data.toList).2 = 0
    · have hf : flushM m = (⟨(appendR m.s m.x.nm.data.toList T.data.toList).1, m.b, m.x⟩, 0) := by unfold flushM; rw [if_neg hw]; unfold layM; rw [← hT, if_pos h0]
      have ha : addM m T = (⟨(appendR m.s m.x.nm.data.toList T.data.toList).1, m.b, m.x.none⟩, 0) := by unfold addM; rw [if_neg hw, h0]
      rw [hf] at hcl0
      simp only [not_true, if_false] at hcl0
      obtain ⟨k1, k2, k3, k4, k5⟩ := key (appendR m.s m.x.nm.data.toList T.data.toList).1 m.x ho rfl rfl hcl0
      unfold finM
      rw [ha]
      simp only [not_true, if_false]
      exact ⟨k1.symm, k2.symm, k3.symm, k4, k5.symm⟩
    · have hf : flushM m = (dropM ⟨(appendR m.s m.x.nm.data.toList T.data.toList).1, m.b, m.x⟩, (appendR m.s m.x.nm.data.toList T.data.toList).2) := by unfold flushM; rw [if_neg hw]; unfold layM; rw [← hT, if_neg h0]
      have ha : addM m T = (⟨(appendR m.s m.x.nm.data.toList T.data.toList).1, m.b, m.x.none⟩, (appendR m.s m.x.nm.data.toList T.data.toList).2) := by unfold addM; rw [if_neg hw]
      rw [hf] at hcl0
      simp only [if_pos h0] at hcl0
      have e2 : dropM ⟨(appendR m.s m.x.nm.data.toList T.data.toList).1, m.b, m.x⟩ = ⟨(appendR m.s m.x.nm.data.toList T.data.toList).1, m.b.give 4, { m.x with opn := false }⟩ := dropM_up ho
      rw [hcl0, e2]
      unfold finM
      rw [ha]
      simp only [if_pos h0]
      simp
structure FinPre (m : M3) : Prop where
  n1 : m.x.nm.size ≤ 24
  n2 : rightB m.x.nm.data.toList = true
  c : m.s.calls ≤ 100000000000
set_option maxRecDepth 20000 in
set_option maxHeartbeats 4000000 in
theorem w_finish (x D P : Nat) (m : M3) (T E : ByteArray) (k s : Nat) (hT : T = blkS m.x.size m.x.wait) (hE : E = peS k s) (hTs : T.size ≤ 300) (hEs : E.size ≤ 300) (hk : k = m.x.all.length) (hs : s = sumN m.x.all) (hal : m.x.all.length ≤ 100000) (hm : m.ok) (hc : m.s.calls ≤ 100000000000) (w : World) (B : Nat → Prop) (h : WO x D P m w B) :
    Calls Tryz.prog 50 #[.pointer (some ⟨x, 0, none⟩), .agg #[.int .i64 (k : Nat), .int .u32 (s : Nat)]] w (Does w B (WO x D P (finM m T E).1) (.int .i64 (finM m T E).2)) := by
  obtain ⟨M, hM⟩ : ∃ M, M = finM m T E := ⟨_, rfl⟩
  rw [← hM]
  have hz := hm.z
  have hz2 : 1 ≤ m.x.size ∧ m.x.size ≤ 64 := by simpa [sizeB] using hz
  have HQ := Lib.hid (show FinPre m from ⟨hm.n1, hm.n2, hc⟩)
  have HES := Lib.hid (show E.size ≤ 1000000000 by omega)
  have CE := Lib.hid (fun u => by have := fputend_c k (by unfold I64; omega) s (by rw [hs]; exact sumN_lt _) u; rw [← hE] at this; exact this)
  have CB := Lib.hid (fun w1 B1 (h1 : WO x D P m w1 B1) => w_block x D P m T hT hTs hz2.1 hz2.2 hm.n1 hm.n2 (by have := hm.wl; omega) hm.wz (by omega) w1 B1 h1)
  obtain ⟨W, hW⟩ : ∃ W, W = w.alloc (.cells #[.int .i64 (k : Nat), .int .u32 (s : Nat)] 50) := ⟨_, rfl⟩
  have g : Gr w W := by rw [hW]; exact Below.alloc (Below.refl _ _) (Nat.le_refl _) _
  have hlt : w.heap.size < W.heap.size := by rw [hW, World.size_alloc]; omega
  have q0 : W.cell? ⟨w.heap.size, 0, none⟩ = some (.int .i64 (k : Nat)) := by rw [hW, World.cell?_alloc_mark]; rfl
  have q1 : W.cell? ⟨w.heap.size, 1, none⟩ = some (.int .u32 (s : Nat)) := by rw [hW, World.cell?_alloc_mark]; rfl
  have hnb : ¬ B w.heap.size := fun hb => by have := (fr_wo _ _ _ _).lo h _ hb; omega
  have hx0 : x < w.heap.size := by obtain ⟨vw, h⟩ := h; exact lt_of_block (wl_blk h)
  have h1 := star_gr (fr_wo x D P m) h g
  have HWO := Lib.hid h1
  obtain ⟨vw, h1⟩ := h1
  obtain ⟨_, hrw, _⟩ := part_at 1 rfl h1
  obtain ⟨aw, cw, rfl, _⟩ := rowE_shape hrw
  obtain ⟨n, hn⟩ : ∃ n, m.x.wait.length = n := ⟨_, rfl⟩
  have HN := Lib.hid hn
  have hb := wl_blk h1
  have hxl := lt_of_block hb
  have c4 : w.cell? ⟨x, 4, none⟩ = some (.slice aw n cw) := by rw [← g.cell (p := ⟨x, 4, none⟩) hx0, cells_at hb, ← hn]; rfl
  have HW := Lib.hid hW
  have HNB := Lib.hid hnb
  have H1 := Lib.hid h1
  have N1 := Lib.hid (Nx.gr (B := B) g)
  have HMM := Lib.hid hM
  clear hrw hn hb h1 hnb hW hM h hT hE hTs hEs hk hs hal hm hc hz hz2 g
  by_cases h0 : n = 0
  · subst h0
    have HM := Lib.hid (show M = (⟨(endR m.s m.x.nm.data.toList E.data.toList).1, m.b, m.x⟩, (endR m.s m.x.nm.data.toList E.data.toList).2) by
      rw [HMM.out]
      have ha : addM m T = (m, 0) := by unfold addM; rw [if_pos HN.out]
      unfold finM; rw [ha]; simp only [not_true, if_false])
    go_enter Tryz.func50, Tryz.ntmps50
    go_wp2_with fail
    rw [← HW.out]
    refine (CE.out _).mono ?_; rintro e u ⟨rfl, gu⟩
    have hu := stars_gr (frs_wl _ _ _ _ _ _ _ _) H1.out gu
    have hbu := wl_blk hu
    have z0 : u.cell? ⟨x, 0, none⟩ = some (.pointer (some ⟨D, 0, none⟩)) := by rw [cells_at hbu]; rfl
    have z1 : u.cell? ⟨x, 1, none⟩ = some (.string m.x.nm) := by rw [cells_at hbu]; rfl
    have CN := Lib.hid (does_at (f := 75) (Q := DiskA D (endR m.s m.x.nm.data.toList E.data.toList).1) 2 rfl (frs_wl _ _ _ _ _ _ _ _) hu fun B2 h2 => snk_end D m.s m.x.nm E HQ.out.n1 HQ.out.n2 (by have := HQ.out.c; omega) (by have := HQ.out.c; have := append_calls m.s m.x.nm.data.toList E.data.toList; omega) HES.out u B2 h2)
    have NU := Lib.hid (N1.out.trans (Nx.gr gu))
    clear hu hbu gu
    go_wp2_with fail
    refine CN.out.mono ?_; rintro e w9 hd
    obtain ⟨rfl, B9, h9, n9⟩ := hd
    have H9 := Lib.hid h9
    have N9 := Lib.hid (NU.out.trans n9)
    clear h9 n9 CN
    go_wp2_with fail
    go_ret
    refine ⟨?_, B9, ?_, N9.out⟩
    · rw [HM.out]; rfl
    · rw [HM.out]; exact ⟨_, H9.out⟩
  · have hpos : (0 : Int) < (n : Int) := by omega
    have hpos2 : ¬ m.x.wait.length = 0 := by have := HN.out; omega
    have HP2 := Lib.hid hpos2
    have CB1 := CB.out W B HWO.out
    obtain ⟨⟨s1, e1⟩, hR⟩ : ∃ R, R = appendR m.s m.x.nm.data.toList T.data.toList := ⟨_, rfl⟩
    rw [← hR] at CB1
    have CBH := Lib.hid CB1
    have HR := Lib.hid hR
    clear CB1 hR hpos2 h0
    by_cases h1 : e1 = 0
    · subst h1
      have HM := Lib.hid (show M = (⟨(endR s1 m.x.nm.data.toList E.data.toList).1, m.b, m.x.none⟩, (endR s1 m.x.nm.data.toList E.data.toList).2) by
        rw [HMM.out]
        have ha : addM m T = (⟨s1, m.b, m.x.none⟩, 0) := by unfold addM; rw [if_neg HP2.out, ← HR.out]
        unfold finM; rw [ha]; simp only [not_true, if_false])
      have HS1 := Lib.hid (show s1.calls = m.s.calls + 1 by have := append_calls m.s m.x.nm.data.toList T.data.toList; rw [← HR.out] at this; exact this)
      go_enter Tryz.func50, Tryz.ntmps50
      go_wp2_with fail
      rw [← HW.out]
      refine CBH.out.mono ?_; rintro e w2 hd
      obtain ⟨rfl, B2, h2, n2⟩ := hd
      have d0 := (n2.only.cell (p := ⟨w.heap.size, 0, none⟩) hlt HNB.out).trans q0
      have d1 := (n2.only.cell (p := ⟨w.heap.size, 1, none⟩) hlt HNB.out).trans q1
      obtain ⟨vw2, h2⟩ := h2
      have H2 := Lib.hid h2
      have N2 := Lib.hid (N1.out.trans n2)
      clear h2 n2 CBH q0 q1 c4 hlt
      go_wp2_with fail
      refine (CE.out _).mono ?_; rintro e u ⟨rfl, gu⟩
      have hu := stars_gr (frs_wl _ _ _ _ _ _ _ _) H2.out gu
      have hbu := wl_blk hu
      have z0 : u.cell? ⟨x, 0, none⟩ = some (.pointer (some ⟨D, 0, none⟩)) := by rw [cells_at hbu]; rfl
      have z1 : u.cell? ⟨x, 1, none⟩ = some (.string m.x.nm) := by rw [cells_at hbu]; rfl
      have CN := Lib.hid (does_at (f := 75) (Q := DiskA D (endR s1 m.x.nm.data.toList E.data.toList).1) 2 rfl (frs_wl _ _ _ _ _ _ _ _) hu fun B2 h2 => snk_end D s1 m.x.nm E HQ.out.n1 HQ.out.n2 (by have := HQ.out.c; have := HS1.out; omega) (by have := HQ.out.c; have := HS1.out; have := append_calls s1 m.x.nm.data.toList E.data.toList; omega) HES.out u B2 h2)
      have NU := Lib.hid (N2.out.trans (Nx.gr gu))
      clear hu hbu gu
      go_wp2_with fail
      refine CN.out.mono ?_; rintro e w9 hd
      obtain ⟨rfl, B9, h9, n9⟩ := hd
      have H9 := Lib.hid h9
      have N9 := Lib.hid (NU.out.trans n9)
      clear h9 n9 CN
      go_wp2_with fail
      go_ret
      refine ⟨?_, B9, ?_, N9.out⟩
      · rw [HM.out]; rfl
      · rw [HM.out]; exact ⟨_, H9.out⟩
    · have t1 : (e1 == 0) = false := by simpa using h1
      have t2 : (e1 != 0) = true := by simpa using h1
      have HM := Lib.hid (show M = (⟨s1, m.b, m.x.none⟩, e1) by
        rw [HMM.out]
        have ha : addM m T = (⟨s1, m.b, m.x.none⟩, e1) := by unfold addM; rw [if_neg HP2.out, ← HR.out]
        unfold finM; rw [ha]; simp only [if_pos h1])
      clear h1
      go_enter Tryz.func50, Tryz.ntmps50
      go_wp2_with fail
      rw [← HW.out]
      refine CBH.out.mono ?_; rintro e w2 hd
      obtain ⟨rfl, B2, h2, n2⟩ := hd
      have H2 := Lib.hid h2
      have N2 := Lib.hid (N1.out.trans n2)
      clear h2 n2 CBH q0 q1 c4
      go_wp2_with fail
      go_ret
      refine ⟨?_, B2, ?_, N2.out⟩
      · rw [HM.out]; rfl
      · rw [HM.out]; exact H2.out
end Go.Proofs.YtcpaaenjfljocaaGreat
/- The document's own disk: files in a slice, by their names' order; what lays one among others, and what leaves one out. -/
namespace Go.Proofs.YtcpaaenjfljocaaGreat
open Go.RowKit FsPlain
set_option linter.unusedVariables false
set_option linter.unusedSimpArgs false
def fcells (f : F) : List Value := [.string (bs f.name), .string (bs f.data), .int .i64 (f.kept : Int)]
def fagg (f : F) : Value := .agg #[.string (bs f.name), .string (bs f.data), .int .i64 (f.kept : Int)]
def fall3 (l : List F) : List Value := l.flatMap fcells
theorem fall3_snoc (l : List F) (f : F) : fall3 (l ++ [f]) = fall3 l ++ fcells f := by simp [fall3]
theorem fall3_app (a b : List F) : fall3 (a ++ b) = fall3 a ++ fall3 b := by simp [fall3]
theorem fall3_length : ∀ l : List F, (fall3 l).length = l.length * 3
  | [] => rfl
  | f :: r => by rw [show fall3 (f :: r) = fcells f ++ fall3 r from rfl, List.length_append, fall3_length r, List.length_cons]; simp [fcells]; omega
theorem fall3_at : ∀ (l : List F) (j : Nat) (f : F), l[j]? = some f → (fall3 l)[3 * j]? = some (.string (bs f.name)) ∧ (fall3 l)[3 * j + 1]? = some (.string (bs f.data)) ∧ (fall3 l)[3 * j + 2]? = some (.int .i64 (f.kept : Int))
  | [], j, f, h => by simp at h
  | g :: r, 0, f, h => by simp at h; subst h; exact ⟨rfl, rfl, rfl⟩
  | g :: r, j + 1, f, h => by
    have e : fall3 (g :: r) = fcells g ++ fall3 r := rfl
    have hl : (fcells g).length = 3 := rfl
    have := fall3_at r j f (by simpa using h)
    rw [e]
    refine ⟨?_, ?_, ?_⟩
    · rw [List.getElem?_append_right (by omega), hl, show 3 * (j + 1) - 3 = 3 * j by omega]; exact this.1
    · rw [List.getElem?_append_right (by omega), hl, show 3 * (j + 1) + 1 - 3 = 3 * j + 1 by omega]; exact this.2.1
    · rw [List.getElem?_append_right (by omega), hl, show 3 * (j + 1) + 2 - 3 = 3 * j + 2 by omega]; exact this.2.2
/-- Files lie at b, from off on. -/
def FCells (w : World) (b off : Nat) (l : List F) : Prop := b < w.heap.size ∧ ∀ j x, (fall3 l)[j]? = some x → w.cell? ⟨b, off + j, none⟩ = some x
theorem FCells.gr {w w' : World} {b off : Nat} {l : List F} (h : FCells w b off l) (g : Gr w w') : FCells w' b off l :=
  ⟨Nat.lt_of_lt_of_le h.1 g.size, fun j x hj => by rw [Below.cell g (p := ⟨b, off + j, none⟩) h.1]; exact h.2 j x hj⟩
/-- Where v lies is new since w. -/
def NewV (w : World) (v : Value) : Prop := ∀ x, v.ownBlock = some x → w.heap.size ≤ x
theorem own_len (a : Option Addr) (n m c : Nat) : (Value.slice a n c).ownBlock = (Value.slice a m c).ownBlock := by cases a <;> rfl
/-- v is a slice of these files. -/
def FLies (w : World) (v : Value) (l : List F) : Prop := (l = [] ∧ v = .slice none 0 0) ∨ ∃ b off c, v = .slice (some ⟨b, off, none⟩) l.length c ∧ l.length ≤ c ∧ FCells w b off l
theorem FLies.gr {w w' : World} {v : Value} {l : List F} (h : FLies w v l) (g : Gr w w') : FLies w' v l :=
  h.imp id fun ⟨b, off, c, h1, h2, h3⟩ => ⟨b, off, c, h1, h2, h3.gr g⟩
theorem flies_own {w : World} {B : Nat} {v : Value} {l : List F} (h : w.ownsRow B 92 3 v l.length (fall3 l)) : FLies w v l := by
  have hc := @World.ownsRow.cells w _ _ _ _ _ _ h
  have hl := h.lt
  obtain ⟨_, p⟩ := h
  rcases p with ⟨rfl, z⟩ | ⟨g, cap, cur, rfl, _, _, hn, _⟩
  · exact .inl ⟨List.eq_nil_of_length_eq_zero z, rfl⟩
  · refine .inr ⟨g, 0, cap, rfl, hn, (hl g rfl).2, fun j x hj => ?_⟩
    have := hc (g := g) rfl j x hj
    rw [Nat.zero_add]
    have ea : Addr.add ⟨g, 0, none⟩ j = ⟨g, j, none⟩ := by by_cases h : j = 0 <;> simp [Addr.add, h]
    rwa [ea] at this
theorem infoF : (Tryz.prog.info? 92).map (fun i => (i.zero, i.size, i.bytes)) = some (some (.agg #[.string ⟨#[]⟩, .string ⟨#[]⟩, .int .i64 0]), 3, 40) := by kernel_rfl
/-- Is a's name ahead of b's? -/
def lessF (a b : F) : Bool := Op.bytesLess a.name b.name
def putF (f : F) (l : List F) : List F := l.takeWhile (fun y => lessF y f) ++ f :: l.dropWhile (fun y => lessF y f)
theorem putF_at {f : F} {l : List F} {k : Nat} (h1 : ∀ y ∈ l.take k, lessF y f = true) (h2 : ∀ y, l[k]? = some y → lessF y f = false) : putF f l = l.take k ++ f :: l.drop k := by
  have e1 : l.takeWhile (fun y => lessF y f) = l.take k ∧ l.dropWhile (fun y => lessF y f) = l.drop k := by
    have : l.take k ++ l.drop k = l := List.take_append_drop k l
    constructor
    · conv => lhs; rw [← this]
      rw [List.takeWhile_append_of_pos h1]
      have : (l.drop k).takeWhile (fun y => lessF y f) = [] := by
        cases hd : l.drop k with
        | nil => rfl
        | cons y r =>
          have hy : l[k]? = some y := by have := congrArg List.head? hd; simpa using this
          rw [List.takeWhile_cons, h2 y hy]; rfl
      rw [this, List.append_nil]
    · conv => lhs; rw [← this]
      rw [List.dropWhile_append_of_pos h1]
      cases hd : l.drop k with
      | nil => rfl
      | cons y r =>
        have hy : l[k]? = some y := by have := congrArg List.head? hd; simpa using this
        rw [List.dropWhile_cons, h2 y hy]; rfl
  unfold putF
  rw [e1.1, e1.2]
theorem tail_run (b off n c k : Nat) (h1 : k ≤ n) (h2 : n ≤ c) : ∃ o, (k < n → o = off + 3 * k) ∧ ∀ w, (Instr.slice 45 (.slice (some ⟨b, off, none⟩) n c) (some (.int .i64 (k : Int))) none none).run Tryz.prog w = .ok (.slice (some ⟨b, o, none⟩) (n - k) (c - k)) w := by
  have h4 : (k : Int) ≤ (n : Int) := by omega
  have hz : Tryz.prog.cellsOf 92 = 3 := by kernel_rfl
  by_cases hc : c = k
  · refine ⟨off, fun h => by omega, fun w => ?_⟩
    simp [Instr.slice, Instr.sliceBounds, run_underlying Tryz.underlying45, run_underlying Tryz.underlying92, go_sem, sliced, hc, h4, hz]
  · refine ⟨off + 3 * k, fun h => rfl, fun w => ?_⟩
    have ea : Addr.add ⟨b, off, none⟩ (k * 3) = ⟨b, off + 3 * k, none⟩ := by
      rw [Nat.mul_comm k 3]
      by_cases h : 3 * k = 0
      · rw [h]; simp [Addr.add]
      · unfold Addr.add; simp [h]
    simp [Instr.slice, Instr.sliceBounds, run_underlying Tryz.underlying45, run_underlying Tryz.underlying92, go_sem, sliced, hc, h4, hz, h1, ea]
end Go.Proofs.YtcpaaenjfljocaaGreat

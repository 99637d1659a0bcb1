/- In one text: Wr5. -/
import Derived.Test.YtcpaaenjfljocaaGreatP12
import Derived.Test.YtcpaaenjfljocaaGreatP16
/- The program's writer: Put. -/
namespace Go.Proofs.YtcpaaenjfljocaaGreat
open Go.RowKit FsPlain CrcPlain OctPlain FramePlain RecPlain WrPlain
set_option linter.unusedVariables false
set_option linter.unusedSimpArgs false
theorem w_put_shut (x D P : Nat) (m : M3) (r : ByteArray) (ho : m.x.opn = false) (w : World) (B : Nat → Prop) (h : W3 x D P m w B) :
    Calls Tryz.prog 15 #[.pointer (some ⟨x, 0, none⟩), .string r] w (Does w B (W3 x D P (putM m r).1) (.int .i64 (putM m r).2)) := by
  have e : putM m r = (m, 14) := by unfold putM; rw [if_pos ho]
  rw [e]
  have H := Lib.hid h
  have CO := Lib.hid (wopen_no x w (by rw [cells_at (w3_shut ho h)]; rfl))
  clear h e ho
  go_enter Tryz.func15, Tryz.ntmps15
  go_wp2_with fail
  refine CO.out.mono ?_; rintro e w2 ⟨rfl, rfl⟩
  go_wp2_with fail
  go_ret
  exact ⟨rfl, B, H.out, Nx.refl _ _⟩
theorem w_put_bad (x D P : Nat) (m : M3) (r : ByteArray) (ho : m.x.opn = true) (hz : ¬ (r.size : Int) = m.x.size) (w : World) (B : Nat → Prop) (h : W3 x D P m w B) :
    Calls Tryz.prog 15 #[.pointer (some ⟨x, 0, none⟩), .string r] w (Does w B (W3 x D P (putM m r).1) (.int .i64 (putM m r).2)) := by
  have e : putM m r = (m, 1) := by unfold putM; rw [if_neg (by rw [ho]; decide), if_pos hz]
  rw [e]
  have H := Lib.hid h
  obtain ⟨vw, h1⟩ := w3_open ho h
  have hb := wl_blk h1
  have CO := Lib.hid (wopen_yes x ⟨D, 0, none⟩ w (by rw [cells_at hb]; rfl))
  have c3 : w.cell? ⟨x, 3, none⟩ = some (.int .i64 m.x.size) := by rw [cells_at hb]; rfl
  have t1 : ((r.size : Int) == m.x.size) = false := by simpa using hz
  have t2 : ((r.size : Int) != m.x.size) = true := by simpa using hz
  clear h h1 hb e ho
  go_enter Tryz.func15, Tryz.ntmps15
  go_wp2_with fail
  refine CO.out.mono ?_; rintro e w2 ⟨rfl, rfl⟩
  go_wp2_with fail
  go_ret
  exact ⟨rfl, B, H.out, Nx.refl _ _⟩
set_option maxRecDepth 20000 in
set_option maxHeartbeats 4000000 in
theorem w_put_in (x D P : Nat) (m : M3) (r : ByteArray) (hm : m.ok) (hal : m.x.all.length ≤ 100000) (hc : m.s.calls ≤ 100000000000) (ho : m.x.opn = true) (hz : (r.size : Int) = m.x.size) (w : World) (B : Nat → Prop) (h : W3 x D P m w B) :
    Calls Tryz.prog 15 #[.pointer (some ⟨x, 0, none⟩), .string r] w (Does w B (W3 x D P (putM m r).1) (.int .i64 (putM m r).2)) := by
  obtain ⟨M, hM⟩ : ∃ M, M = putM m r := ⟨_, rfl⟩
  rw [← hM]
  have HM := Lib.hid hM
  have hsz : 1 ≤ m.x.size ∧ m.x.size ≤ 64 := by have := hm.z; simpa [sizeB] using this
  have HO := Lib.hid ho
  have h1 := w3_open ho h
  have CQ := Lib.hid (w_queue x D P m r hm.wl hal (by omega) w B h1)
  obtain ⟨vw, h1⟩ := h1
  have hb := wl_blk h1
  have CO := Lib.hid (wopen_yes x ⟨D, 0, none⟩ w (by rw [cells_at hb]; rfl))
  have c3 : w.cell? ⟨x, 3, none⟩ = some (.int .i64 m.x.size) := by rw [cells_at hb]; rfl
  have t1 : ((r.size : Int) == m.x.size) = true := by simpa using hz
  have t2 : ((r.size : Int) != m.x.size) = false := by simpa using hz
  obtain ⟨n, hn⟩ : ∃ n, (m.x.wait ++ [r]).length = n := ⟨_, rfl⟩
  have hnl : n = m.x.wait.length + 1 := by rw [← hn, List.length_append]; rfl
  have HN := Lib.hid hn
  obtain ⟨T, hT⟩ : ∃ T, T = blkS m.x.size (m.x.wait ++ [r]) := ⟨_, rfl⟩
  have hTs : T.size ≤ 300 := by rw [hT]; exact blkS_le hm.z (by have := hm.wl; omega) (all_snoc hm hz)
  have CB := Lib.hid (fun w1 B1 (h1 : WO x D P ⟨m.s, m.b, m.x.put r⟩ w1 B1) => w_block x D P ⟨m.s, m.b, m.x.put r⟩ T hT hTs hsz.1 hsz.2 hm.n1 hm.n2 (by show (m.x.wait ++ [r]).length ≤ 1000; have := hm.wl; omega) (all_snoc hm hz) (by show m.s.calls ≤ _; omega) w1 B1 h1)
  have HP : Hid (M = if m.x.wait.length < 3 then (⟨m.s, m.b, m.x.put r⟩, 0) else layM ⟨m.s, m.b, (m.x.put r).none⟩ T) := Lib.hid (by
    rw [hM, hT]; unfold putM; rw [if_neg (by rw [ho]; decide), if_neg (by simpa using hz)])
  have HNL := Lib.hid hnl
  have hn4 : n ≤ 4 := by have := hm.wl; omega
  clear h h1 hb ho hz hM hn hnl hT hTs hm hal hc
  go_enter Tryz.func15, Tryz.ntmps15
  go_wp2_with fail
  refine CO.out.mono ?_; rintro e w2 ⟨rfl, rfl⟩
  go_wp2_with fail
  refine CQ.out.mono ?_; rintro e w3 hd
  obtain ⟨rfl, B3, h3, n3⟩ := hd
  have H3 := Lib.hid h3
  have N3 := Lib.hid n3
  obtain ⟨vw3, h3⟩ := h3
  obtain ⟨_, hrw, _⟩ := part_at 1 rfl h3
  obtain ⟨aw, cw, rfl, _⟩ := rowE_shape hrw
  have hb3 := wl_blk h3
  have c4 : w3.cell? ⟨x, 4, none⟩ = some (.slice aw n cw) := by rw [cells_at hb3, ← HN.out]; rfl
  clear h3 n3 hb3 hrw CQ CO c3
  by_cases hlt : n < 4
  · have hlt' : (n : Int) < 4 := by omega
    obtain rfl : M = (⟨m.s, m.b, m.x.put r⟩, 0) := by rw [HP.out, if_pos (by have := HNL.out; omega)]
    go_wp2_with fail
    go_ret
    exact ⟨rfl, B3, w3_close (m := ⟨m.s, m.b, m.x.put r⟩) HO.out H3.out, N3.out⟩
  · have hlt' : ¬ (n : Int) < 4 := by omega
    have hge : (4 : Int) ≤ (n : Int) := by omega
    have CB1 := CB.out w3 B3 H3.out
    have hM : M = layM ⟨m.s, m.b, (m.x.put r).none⟩ T := by rw [HP.out, if_neg (by have := HNL.out; omega)]
    unfold layM at hM
    obtain ⟨⟨s1, e1⟩, hR⟩ : ∃ R, R = appendR m.s m.x.nm.data.toList T.data.toList := ⟨_, rfl⟩
    have e1' : appendR (M3.mk m.s m.b (m.x.put r)).s (M3.mk m.s m.b (m.x.put r)).x.nm.data.toList T.data.toList = (s1, e1) := hR.symm
    have e2' : appendR (M3.mk m.s m.b (m.x.put r).none).s (M3.mk m.s m.b (m.x.put r).none).x.nm.data.toList T.data.toList = (s1, e1) := hR.symm
    rw [e1'] at CB1
    rw [e2'] at hM
    have CBH := Lib.hid CB1
    have HM2 := Lib.hid hM
    clear hM CB1 e1' e2' hR HM CB
    go_wp2_with fail
    refine CBH.out.mono ?_; rintro e w4 hd
    obtain ⟨rfl, B4, h4, n4⟩ := hd
    have h5 := w3_close (m := ⟨s1, m.b, (m.x.put r).none⟩) HO.out h4
    have H5 := Lib.hid h5
    have N5 := Lib.hid (N3.out.trans n4)
    have CD := Lib.hid (w_drop x D P ⟨s1, m.b, (m.x.put r).none⟩ w4 B4 h5)
    clear h4 n4 h5 CBH
    by_cases h0 : e1 = 0
    · subst h0
      obtain rfl : M = (⟨s1, m.b, (m.x.put r).none⟩, 0) := by rw [HM2.out, if_pos rfl]
      go_wp2_with fail
      go_ret
      exact ⟨rfl, B4, H5.out, N5.out⟩
    · have t3 : (e1 == 0) = false := by simpa using h0
      have t4 : (e1 != 0) = true := by simpa using h0
      obtain rfl : M = (dropM ⟨s1, m.b, (m.x.put r).none⟩, e1) := by rw [HM2.out, if_neg h0]
      clear h0
      go_wp2_with fail
      refine CD.out.mono ?_; rintro e w6 hd
      obtain ⟨rfl, B6, h6, n6⟩ := hd
      have H6 := Lib.hid h6
      have N6 := Lib.hid (N5.out.trans n6)
      clear h6 n6 CD
      go_wp2_with fail
      go_ret
      exact ⟨rfl, B6, H6.out, N6.out⟩
theorem w_put (x D P : Nat) (m : M3) (r : ByteArray) (hm : m.ok) (hal : m.x.all.length ≤ 100000) (hc : m.s.calls ≤ 100000000000) (w : World) (B : Nat → Prop) (h : W3 x D P m w B) :
    Calls Tryz.prog 15 #[.pointer (some ⟨x, 0, none⟩), .string r] w (Does w B (W3 x D P (putM m r).1) (.int .i64 (putM m r).2)) := by
  cases ho : m.x.opn
  · exact w_put_shut x D P m r ho w B h
  · by_cases hz : (r.size : Int) = m.x.size
    · exact w_put_in x D P m r hm hal hc ho hz w B h
    · exact w_put_bad x D P m r ho hz w B h
end Go.Proofs.YtcpaaenjfljocaaGreat

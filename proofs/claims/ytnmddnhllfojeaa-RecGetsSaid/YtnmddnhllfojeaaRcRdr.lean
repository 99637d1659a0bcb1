/- The program's reader of a record. -/
import Derived.Test.YtnmddnhllfojeaaRcPut2
import Derived.BigQuiet
namespace Go.Proofs.Ytnmddnhllfojeaa
open Go.RowKit OctPlain RcPlain
set_option linter.unusedVariables false
set_option linter.unusedSimpArgs false
set_option maxRecDepth 20000
def RdrAt (p : Nat) (s : ByteArray) (a : Int) (q : Bool) (w : World) : Prop := w.heap[p]? = some (.cells #[.string s, .int .i64 a, .bool q] 67 (0, 0))
theorem RdrAt.gr {p : Nat} {s : ByteArray} {a : Int} {q : Bool} {u v : World} (h : RdrAt p s a q u) (g : Gr u v) : RdrAt p s a q v := (g.block _ (lt_of_block h)).trans h
theorem RdrAt.at {p : Nat} {s : ByteArray} {a : Int} {q : Bool} {u : World} (h : RdrAt p s a q u) : (u.cell? ⟨p, 0, none⟩ = some (.string s) ∧ u.cell? ⟨p, 1, none⟩ = some (.int .i64 a) ∧ u.cell? ⟨p, 2, none⟩ = some (.bool q)) ∧
    u.frozen? ⟨p, 0, none⟩ = false ∧ u.frozen? ⟨p, 1, none⟩ = false ∧ u.frozen? ⟨p, 2, none⟩ = false := by
  unfold RdrAt at h
  refine ⟨⟨?_, ?_, ?_⟩, cells_free h 0, cells_free h 1, cells_free h 2⟩ <;> (rw [cells_at h]; rfl)
theorem RdrAt.set1 {p : Nat} {s : ByteArray} {a b : Int} {q : Bool} {u : World} (h : RdrAt p s a q u) : RdrAt p s b q (u.setCell ⟨p, 1, none⟩ (.int .i64 b)) := by
  unfold RdrAt at h ⊢
  simpa using cells_set h 1 (.int .i64 b)
theorem RdrAt.set2 {p : Nat} {s : ByteArray} {a : Int} {q r : Bool} {u : World} (h : RdrAt p s a q u) : RdrAt p s a r (u.setCell ⟨p, 2, none⟩ (.bool r)) := by
  unfold RdrAt at h ⊢
  simpa using cells_set h 2 (.bool r)
/-- What a step of the reader leaves. -/
def RdrNext (p : Nat) (s : ByteArray) (a : Int) (q : Bool) (w w' : World) : Prop := RdrAt p s a q w' ∧ Only (fun i => i = p) w w'
theorem ret_i14 {a b : Int} (h : a = b) : Ending.returned (.int .i64 a) = .returned (.int .i64 b) := by rw [h]
set_option maxHeartbeats 1000000 in
theorem rdr_note_c {p : Nat} {s : ByteArray} {a : Int} {q : Bool} (b : Bool) {w : World} (h : RdrAt p s a q w) :
    Calls Try.prog 37 #[.pointer (some ⟨p, 0, none⟩), .bool b] w fun e w' => e = .returned (.tuple #[]) ∧ RdrNext p s a (q || !b) w w' := by
  obtain ⟨⟨c0, c1, c2⟩, f0, f1, f2⟩ := h.at
  have H := Lib.hid (fun (r : Bool) => (⟨h.set2, Only.cell1 _ _ _ _⟩ : RdrNext p s a r w (w.setCell ⟨p, 2, none⟩ (.bool r))))
  have HS := Lib.hid (⟨h, Only.refl _ _⟩ : RdrNext p s a q w w)
  clear h
  cases q <;> cases b
  all_goals
    go_enter Try.func37, Try.ntmps37
    go_wp2_with fail
    exact bodyPost_end (results_none rfl _ _ _) rfl ⟨rfl, H.out _⟩
set_option maxHeartbeats 1000000 in
theorem rdr_number_c {p : Nat} {s : ByteArray} {a : Int} {q : Bool} (k : Int) (hk : 1 ≤ k ∧ k ≤ 8) (ha : 0 ≤ a ∧ a ≤ 1000) (hs : s.size ≤ 1000) {w : World} (h : RdrAt p s a q w) :
    Calls Try.prog 36 #[.pointer (some ⟨p, 0, none⟩), .int .i64 k] w fun e w' => e = .returned (.int .i64 (getN s a k)) ∧ RdrNext p s (a + k) (q || !getB s a k) w w' := by
  have C := fun u => get_c s a k (by unfold I64; omega) (by unfold I64; omega) u (by omega)
  generalize getN s a k = n at C ⊢
  generalize getB s a k = b at C ⊢
  obtain ⟨⟨c0, c1, c2⟩, f0, f1, f2⟩ := h.at
  have S := Lib.hid (fun u (g : Gr w u) => (⟨g, (h.gr g).at.1.1, (h.gr g).at.1.2.1⟩ : Gr w u ∧ u.cell? ⟨p, 0, none⟩ = some (.string s) ∧ u.cell? ⟨p, 1, none⟩ = some (.int .i64 a)))
  have CH := Lib.hid (fun u (g : Gr w u) => (C u).mono (fun e v hv => (⟨hv.1, S.out v (g.trans hv.2)⟩ : e = .returned (.tuple #[.int .i64 n, .bool b]) ∧ _)))
  have gd : Gr w w.drew := Below.drew (Gr.refl w)
  have HK := Lib.hid (fun u (g : Gr w u) => h.gr g)
  have hwr : wrap64 (a + k) = a + k := by unfold wrap64; omega
  have hlt := lt_of_block h
  clear C h
  go_enter Try.func36, Try.ntmps36
  go_wp2_with fail
  go_region_held3 (fun v => Gr w v ∧ v.cell? ⟨p, 0, none⟩ = some (.string s) ∧ v.cell? ⟨p, 1, none⟩ = some (.int .i64 a))
    (first | exact S.out _ gd | exact S.out _ (by assumption) | assumption | go_keep)
    ((go_at_call 45; (with_reducible refine (CH.out _ (by assumption)).mono ?_); rintro e t2 ⟨rfl, hg, hk0, hk1⟩))
  have h2 := HK.out _ hg
  obtain ⟨⟨d0, d1, d2⟩, e0, e1, e2⟩ := h2.at
  clear c0 c1 c2 f0 f1 f2
  have h3 : RdrAt p s (a + k) q (t2.setCell ⟨p, 1, none⟩ (.int .i64 (a + k))) := h2.set1
  have N := Lib.hid (rdr_note_c b h3)
  have O := Lib.hid ((Only.ofGr hg (B := fun i => i = p)).trans (Only.cell1 t2 p 1 (.int .i64 (a + k))))
  clear h2 h3
  go_wp2_with fail
  refine (N.out).mono ?_; rintro e u3 ⟨rfl, r3⟩
  go_wp2_with fail
  go_ret
  exact ⟨rfl, r3.1, O.out.trans r3.2⟩
set_option maxHeartbeats 1000000 in
theorem rdr_coord_c {p : Nat} {s : ByteArray} {a : Int} {q : Bool} (ha : 0 ≤ a ∧ a ≤ 1000) (hs : s.size ≤ 1000) {w : World} (h : RdrAt p s a q w) :
    Calls Try.prog 35 #[.pointer (some ⟨p, 0, none⟩)] w fun e w' => e = .returned (.int .i64 (gcN s a)) ∧ RdrNext p s (a + 4) (q || !getB s a 4) w w' := by
  have C := fun u => gcoord_c s a (by unfold I64; omega) u (by omega)
  generalize gcN s a = n at C ⊢
  generalize getB s a 4 = b at C ⊢
  obtain ⟨⟨c0, c1, c2⟩, f0, f1, f2⟩ := h.at
  have S := Lib.hid (fun u (g : Gr w u) => (⟨g, (h.gr g).at.1.1, (h.gr g).at.1.2.1⟩ : Gr w u ∧ u.cell? ⟨p, 0, none⟩ = some (.string s) ∧ u.cell? ⟨p, 1, none⟩ = some (.int .i64 a)))
  have CH := Lib.hid (fun u (g : Gr w u) => (C u).mono (fun e v hv => (⟨hv.1, S.out v (g.trans hv.2)⟩ : e = .returned (.tuple #[.int .i64 n, .bool b]) ∧ _)))
  have gd : Gr w w.drew := Below.drew (Gr.refl w)
  have HK := Lib.hid (fun u (g : Gr w u) => h.gr g)
  have hwr : wrap64 (a + 4) = a + 4 := by unfold wrap64; omega
  have hlt := lt_of_block h
  clear C h
  go_enter Try.func35, Try.ntmps35
  go_wp2_with fail
  go_region_held3 (fun v => Gr w v ∧ v.cell? ⟨p, 0, none⟩ = some (.string s) ∧ v.cell? ⟨p, 1, none⟩ = some (.int .i64 a))
    (first | exact S.out _ gd | exact S.out _ (by assumption) | assumption | go_keep)
    ((go_at_call 44; (with_reducible refine (CH.out _ (by assumption)).mono ?_); rintro e t2 ⟨rfl, hg, hk0, hk1⟩))
  have h2 := HK.out _ hg
  obtain ⟨⟨d0, d1, d2⟩, e0, e1, e2⟩ := h2.at
  clear c0 c1 c2 f0 f1 f2
  have h3 : RdrAt p s (a + 4) q (t2.setCell ⟨p, 1, none⟩ (.int .i64 (a + 4))) := h2.set1
  have N := Lib.hid (rdr_note_c b h3)
  have O := Lib.hid ((Only.ofGr hg (B := fun i => i = p)).trans (Only.cell1 t2 p 1 (.int .i64 (a + 4))))
  clear h2 h3
  go_wp2_with fail
  refine (N.out).mono ?_; rintro e u3 ⟨rfl, r3⟩
  go_wp2_with fail
  go_ret
  exact ⟨rfl, r3.1, O.out.trans r3.2⟩
set_option maxHeartbeats 1000000 in
theorem rdr_flag_c {p : Nat} {s : ByteArray} {a : Int} {q : Bool} (k : Int) (hk : 1 ≤ k ∧ k ≤ 8) (ha : 0 ≤ a ∧ a ≤ 1000) (hs : s.size ≤ 1000) {w : World} (h : RdrAt p s a q w) :
    Calls Try.prog 41 #[.pointer (some ⟨p, 0, none⟩), .int .i64 k] w fun e w' => e = .returned (.bool (decide (getN s a k = 1))) ∧ RdrNext p s (a + k) ((q || !getB s a k) || !decide (getN s a k ≤ 1)) w w' := by
  have C := Lib.hid (rdr_number_c k hk ha hs h)
  generalize getN s a k = n at C ⊢
  generalize getB s a k = b at C ⊢
  have fin : ∀ (e : Bool), e = decide (n ≤ 1) → ∀ u w', Only (fun i => i = p) w u → RdrNext p s (a + k) ((q || !b) || !e) u w' → RdrNext p s (a + k) ((q || !b) || !decide (n ≤ 1)) w w' := by
    rintro e rfl u w' o r; exact ⟨r.1, o.trans r.2⟩
  have FIN := Lib.hid fin
  clear fin h
  by_cases hn : n ≤ 1
  · have HD := Lib.hid (show true = decide (n ≤ 1) by simp [hn])
    have t1 : decide (n ≤ 1) = true := by simp [hn]
    by_cases h1 : n = 1
    · have HE := Lib.hid (show true = decide (n = 1) by simp [h1])
      go_enter Try.func41, Try.ntmps41
      go_wp2_with fail
      refine (C.out).mono ?_; rintro e u ⟨rfl, r⟩
      have O := Lib.hid r.2
      have N := Lib.hid (rdr_note_c true r.1)
      clear r
      go_wp2_with fail
      refine (N.out).mono ?_; rintro e u3 ⟨rfl, r3⟩
      have R3 := Lib.hid r3
      clear r3
      go_wp2_with fail
      go_ret
      exact ⟨by first | rfl | exact ret_b14 HE.out | exact ret_b14 (by simp), FIN.out true HD.out _ _ O.out R3.out⟩
    · have HE := Lib.hid (show false = decide (n = 1) by simp [h1])
      go_enter Try.func41, Try.ntmps41
      go_wp2_with fail
      refine (C.out).mono ?_; rintro e u ⟨rfl, r⟩
      have O := Lib.hid r.2
      have N := Lib.hid (rdr_note_c true r.1)
      clear r
      go_wp2_with fail
      refine (N.out).mono ?_; rintro e u3 ⟨rfl, r3⟩
      have R3 := Lib.hid r3
      clear r3
      go_wp2_with fail
      go_ret
      exact ⟨by first | rfl | exact ret_b14 HE.out | exact ret_b14 (by simp), FIN.out true HD.out _ _ O.out R3.out⟩
  · have HD := Lib.hid (show false = decide (n ≤ 1) by simp [hn])
    have h1 : ¬ n = 1 := by omega
    have t1 : decide (n ≤ 1) = false := by simp [hn]
    have t2 : (n == 1) = false := by simp [h1]
    have HE := Lib.hid (show false = decide (n = 1) by simp [h1])
    go_enter Try.func41, Try.ntmps41
    go_wp2_with fail
    refine (C.out).mono ?_; rintro e u ⟨rfl, r⟩
    have O := Lib.hid r.2
    have N := Lib.hid (rdr_note_c false r.1)
    clear r
    go_wp2_with fail
    refine (N.out).mono ?_; rintro e u3 ⟨rfl, r3⟩
    have R3 := Lib.hid r3
    clear r3
    go_wp2_with fail
    go_ret
    exact ⟨by first | rfl | exact ret_b14 HE.out | exact ret_b14 (by simp), FIN.out false HD.out _ _ O.out R3.out⟩
set_option maxHeartbeats 1000000 in
theorem rdr_right_c {p : Nat} {s : ByteArray} {a : Int} {q : Bool} (ha : 0 ≤ a ∧ a ≤ 1000) (hs : s.size ≤ 1000) {w : World} (h : RdrAt p s a q w) :
    Calls Try.prog 38 #[.pointer (some ⟨p, 0, none⟩)] w fun e w' => e = .returned (.bool (!q && decide (a = s.size))) ∧ Gr w w' := by
  obtain ⟨⟨c0, c1, c2⟩, f0, f1, f2⟩ := h.at
  have gd := Lib.hid (fun n => grN w n)
  clear h
  cases q
  · by_cases hz : a = s.size
    · have t1 : (a == (s.size : Int)) = true := by simpa using hz
      have HE := Lib.hid (show true = (!false && decide (a = (s.size : Int))) by simp [hz])
      clear hz
      go_enter Try.func38, Try.ntmps38
      go_wp2_with fail
      go_quiet (fail)
      go_wp2_with fail
      go_ret
      exact ⟨ret_b14 HE.out, gd.out _⟩
    · have t1 : (a == (s.size : Int)) = false := by simpa using hz
      have HE := Lib.hid (show false = (!false && decide (a = (s.size : Int))) by simp [hz])
      clear hz
      go_enter Try.func38, Try.ntmps38
      go_wp2_with fail
      go_quiet (fail)
      go_wp2_with fail
      go_ret
      exact ⟨ret_b14 HE.out, gd.out _⟩
  · go_enter Try.func38, Try.ntmps38
    go_wp2_with fail
    go_quiet (fail)
    go_wp2_with fail
    go_ret
    exact ⟨ret_b14 rfl, gd.out _⟩
end Go.Proofs.Ytnmddnhllfojeaa

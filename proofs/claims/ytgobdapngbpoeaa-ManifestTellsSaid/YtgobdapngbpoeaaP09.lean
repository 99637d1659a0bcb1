/- In one text: MnRef2, FsLetter, FsRight, RfsRight. -/
import Derived.Test.YtgobdapngbpoeaaP08
import Derived.Test.YtgobdapngbpoeaaP02
import Derived.WalkSpells
import Derived.Deep.QuietTactic
import Derived.BigQuiet
/- The document's answers of layer 19: Find. -/
namespace Go.Proofs.Ytgobdapngbpoeaa
open Go.RowKit FsPlain MnPlain
set_option linter.unusedVariables false
set_option linter.unusedSimpArgs false
set_option maxRecDepth 20000
def flV (f : Fl) : Value := .agg #[.string f.name, .int .i64 f.size, .int .i64 f.count, .int .u32 f.sum]
def flZ : Fl := ⟨⟨#[]⟩, 0, 0, 0⟩
theorem fl_results {fn : Func} {p u : Tmp} (hfn : fn.results = #[.cell p 27, .tmp u]) {tmps : Array Value} {o : Nat} {f : Fl} {v : Value} {w : World} (hp : tmps.getD p undef = .pointer (some ⟨o, 0, none⟩)) (hu : tmps.getD u undef = v) (c0 : w.cell? ⟨o, 0, none⟩ = some (.string f.name)) (c1 : w.cell? ⟨o, 1, none⟩ = some (.int .i64 f.size)) (c2 : w.cell? ⟨o, 2, none⟩ = some (.int .i64 f.count)) (c3 : w.cell? ⟨o, 3, none⟩ = some (.int .u32 f.sum)) :
    (results fn tmps).run Try.prog w = .ok (.tuple #[flV f, v]) w := by
  rw [results_cell_tmp hfn, hp, hu]
  simp [go_sem, c0, c1, c2, c3, flV]
set_option maxHeartbeats 2000000 in
theorem rfind_c (st ps : Int) (a : Option Addr) (n c : Nat) (l : List Fl) (nm : ByteArray) (w : World) (h : LiesFl w (.slice a n c) l) (hl : l.length ≤ maxLen) :
    Calls Try.prog 12 #[.agg #[.int .i64 st, .int .i64 ps, .slice a n c], .string nm] w fun e w' => e = .returned (.tuple #[flV ((findF nm l).getD flZ), .bool (findF nm l).isSome]) ∧ Gr w w' := by
  have hn : n = l.length := by
    obtain ⟨a', c', e, hc, _⟩ := h
    simp only [Value.slice.injEq] at e
    exact e.2.1
  obtain ⟨r, hr⟩ : ∃ r, findF nm l = r := ⟨_, rfl⟩
  rw [hr]
  unfold maxLen at hl
  have H := Lib.hid h
  have HR := Lib.hid hr
  clear h hr
  subst hn
  go_enter Try.func12, Try.ntmps12
  go_wp2_with fail
  go_loopw [6] (fun v wr => ∃ i : Nat, i ≤ l.length ∧ v = .int .i64 (i : Int) ∧ (∀ j (hj : j < l.length), j < i → l[j].name ≠ nm) ∧ wr = (w.alloc (.cells #[.int .i64 st, .int .i64 ps, .slice a l.length c] 24)).alloc (.cells #[.string ⟨#[]⟩, .int .i64 0, .int .i64 0, .int .u32 0] 27)) (fun v _ => l.length - (intOf v).toNat)
  case atStart => exact ⟨0, Nat.zero_le _, rfl, fun j _ hj => by omega, rfl⟩
  case round =>
    obtain ⟨i, hi1, rfl, hall, rfl⟩ := hrel
    have HA := Lib.hid hall
    clear hall
    by_cases hlt : i < l.length
    · obtain ⟨_, hc, b, o, rfl, hb, ⟨k0, k1, k2, k3⟩⟩ := fl_get H.out hlt
      have q1 : (i : Int) < (l.length : Int) := by omega
      by_cases hs : l[i].name = nm
      · have er : r = some l[i] := by rw [← HR.out, find_at hlt (fun j hj => HA.out j (by omega) hj), if_pos hs]
        subst er
        subst hs
        go_wp2_with fail
        exact bodyPost_ret (fl_results (f := l[i]) rfl rfl rfl (by simp [flZ]) (by simp [flZ]) (by simp [flZ]) (by simp [flZ])) rfl ⟨rfl, ((Gr.refl w).alloc (Nat.le_refl _) _).alloc (by simp) _⟩
      · have qs : (l[i].name.toList == nm.toList) = false := by
          rw [beq_eq_false_iff_ne]
          intro e
          exact hs (ByteArray.ext (Array.toList_inj.1 (by rw [← Lib.toList_data, ← Lib.toList_data, e])))
        have NX := Lib.hid (show ∀ j (hj : j < l.length), j < i + 1 → l[j].name ≠ nm from fun j hj hji => by
          by_cases e : j = i
          · subst e; exact hs
          · exact HA.out j hj (by omega))
        clear hs
        go_wp2_with fail
        go_roundw
        case rel => exact ⟨i + 1, by omega, by rw [show ((i + 1 : Nat) : Int) = (i : Int) + 1 by omega], NX.out, by first | rfl | trivial⟩
        case measure => simp [intOf]; omega
    · have er : r = none := by rw [← HR.out]; exact find_no fun j hj => HA.out j hj (by omega)
      subst er
      go_wp2_with fail
      exact bodyPost_ret (fl_results (f := flZ) rfl rfl rfl (by simp [flZ]) (by simp [flZ]) (by simp [flZ]) (by simp [flZ])) rfl ⟨rfl, ((Gr.refl w).alloc (Nat.le_refl _) _).alloc (by simp) _⟩
end Go.Proofs.Ytgobdapngbpoeaa
/- The contract of letter: is it a letter of a name? -/
namespace Go.Proofs.Ytgobdapngbpoeaa
open Go.RowKit FsPlain
set_option linter.unusedVariables false
set_option linter.unusedSimpArgs false
set_option maxRecDepth 20000

/-- A letter of a name. -/
theorem letter_c (c : UInt8) (w : World) : Calls Try.prog 54 #[.int .u8 c.toNat] w fun e w' => e = .returned (.bool (letterB c)) ∧ w = w' := by
  have hb : c.toNat < 256 := c.toNat_lt
  obtain ⟨n, hn⟩ : ∃ n, n = letterB c := ⟨_, rfl⟩
  have hn' := hn
  unfold letterB at hn'
  rw [← hn]
  have HN := Lib.hid hn
  have HN' := Lib.hid hn'
  clear hn hn'
  by_cases h1 : 97 ≤ (c.toNat : Int) <;> by_cases h2 : (c.toNat : Int) ≤ 122 <;> by_cases h3 : 48 ≤ (c.toNat : Int) <;> by_cases h4 : (c.toNat : Int) ≤ 57 <;> by_cases h5 : (c.toNat : Int) = 46
  all_goals first
    | (exfalso; omega)
    | (have t5 : ((c.toNat : Int) == 46) = true := by simp [h5]
       go_enter Try.func54, Try.ntmps54
       go_wp2_with fail
       go_ret
       exact ⟨by rw [HN'.out]; simp [*], rfl⟩)
    | (have t5 : ((c.toNat : Int) == 46) = false := by simp [h5]
       go_enter Try.func54, Try.ntmps54
       go_wp2_with fail
       go_ret
       exact ⟨by rw [HN'.out]; simp [*], rfl⟩)
end Go.Proofs.Ytgobdapngbpoeaa
/- The contract of Right: is it a name? By a walk of its loop. -/
namespace Go.Proofs.Ytgobdapngbpoeaa
open Go.RowKit FsPlain
set_option linter.unusedVariables false
set_option linter.unusedSimpArgs false
set_option maxRecDepth 20000

theorem ret_fb {a b : Bool} (h : a = b) : Ending.returned (.bool a) = .returned (.bool b) := by rw [h]
theorem all_take (l : List UInt8) (k : Nat) (h : k < l.length) : (l.take (k + 1)).all letterB = ((l.take k).all letterB && letterB l[k]) := by
  rw [List.take_succ_eq_append_getElem h, List.all_append]; simp
theorem all_no (l : List UInt8) (k : Nat) (h : k < l.length) (hl : letterB l[k] = false) : l.all letterB = false := by
  rw [List.all_eq_false]; exact ⟨l[k], List.getElem_mem h, by simp [hl]⟩
theorem right_len (l : List UInt8) (h : l.all letterB = true) : rightB l = decide (1 ≤ l.length ∧ l.length ≤ 24) := by unfold rightB; rw [h]; rfl
theorem right_no (l : List UInt8) (h : l.all letterB = false) : rightB l = false := by unfold rightB; rw [h]; rfl

set_option maxRecDepth 20000 in
set_option maxHeartbeats 1000000 in
theorem right_c (s : ByteArray) (hs : s.size ≤ maxLen) (w : World) :
    Calls Try.prog 46 #[.string s] w fun e w' => e = .returned (.bool (rightB s.data.toList)) ∧ w = w' := by
  have hsz : s.data.toList.length = s.size := rfl
  unfold maxLen at hs
  obtain ⟨r, hr⟩ : ∃ r, r = rightB s.data.toList := ⟨_, rfl⟩
  rw [← hr]
  have HR := Lib.hid hr
  have HSZ := Lib.hid hsz
  clear hr hsz
  go_enter Try.func46, Try.ntmps46
  go_wp2_with fail
  go_loop [6] (fun i => ∃ k : Nat, k ≤ s.size ∧ i = .int .i64 k ∧ (s.data.toList.take k).all letterB = true) (fun i => s.size - (intOf i).toNat)
  case atStart => exact ⟨0, Nat.zero_le _, rfl, rfl⟩
  case round =>
    obtain ⟨k, hk, rfl, hall⟩ := hrel
    have HALL := Lib.hid hall
    clear hall
    by_cases hlt : k < s.size
    · have hlt' : k < s.data.toList.length := by rw [HSZ.out]; exact hlt
      have hstep := all_take _ k hlt'
      have hno := all_no _ k hlt'
      have hsame : s.data.toList[k] = s[k] := by simp; rfl
      rw [hsame] at hstep hno
      rw [HALL.out] at hstep
      have C := fun w => letter_c s[k] w
      cases hl : letterB s[k]
      · rw [hl] at C
        have hrf := right_no _ (hno hl)
        rw [← HR.out] at hrf
        have HL := Lib.hid hl
        clear hl hstep hno hsame
        subst hrf
        go_wp2_with fail
        refine (C _).mono ?_; rintro e w2 ⟨rfl, rfl⟩
        go_wp2_with fail
        go_ret
        exact ⟨rfl, rfl⟩
      · rw [hl] at C hstep
        have HST := Lib.hid hstep
        clear hl hstep hno hsame
        go_wp2_with fail
        refine (C _).mono ?_; rintro e w2 ⟨rfl, rfl⟩
        go_wp2_with fail
        go_round
        case rel => exact ⟨k + 1, by omega, by go_num, HST.out⟩
        case measure => simp [intOf]; omega
    · have hke : k = s.size := by omega
      have hr2 := right_len s.data.toList (by have := HALL.out; rw [hke, ← HSZ.out, List.take_length] at this; exact this)
      rw [← HR.out, HSZ.out] at hr2
      have HR2 := Lib.hid hr2
      clear hr2 hke
      by_cases h1 : 1 ≤ s.size <;> by_cases h2 : s.size ≤ 24
      all_goals
        go_wp2_with fail
        all_goals
          go_ret
          exact ⟨ret_fb (by rw [HR2.out]; first | (rw [decide_eq_decide]; omega) | (rw [eq_comm, decide_eq_false_iff_not]; omega) | (rw [eq_comm, decide_eq_true_iff]; omega)), rfl⟩
end Go.Proofs.Ytgobdapngbpoeaa
/- The document's disk: is it a name? By a walk of its loop. -/
namespace Go.Proofs.Ytgobdapngbpoeaa
open Go.RowKit FsPlain
set_option linter.unusedVariables false
set_option linter.unusedSimpArgs false
set_option maxRecDepth 20000
set_option maxRecDepth 20000 in
set_option maxHeartbeats 4000000 in
theorem rright_c (s : ByteArray) (hs : s.size ≤ maxLen) (w : World) :
    Calls Try.prog 33 #[.string s] w fun e w' => e = .returned (.bool (rightB s.data.toList)) ∧ w = w' := by
  have hsz : s.data.toList.length = s.size := rfl
  unfold maxLen at hs
  obtain ⟨r, hr⟩ : ∃ r, r = rightB s.data.toList := ⟨_, rfl⟩
  rw [← hr]
  have HR := Lib.hid hr
  have HSZ := Lib.hid hsz
  clear hr hsz
  go_enter Try.func33, Try.ntmps33
  go_wp2_with fail
  go_loop [3] (fun i => ∃ k : Nat, k ≤ s.size ∧ i = .int .i64 k ∧ (s.data.toList.take k).all letterB = true) (fun i => s.size - (intOf i).toNat)
  case atStart => exact ⟨0, Nat.zero_le _, rfl, rfl⟩
  case round =>
    obtain ⟨k, hk, rfl, hall⟩ := hrel
    have HALL := Lib.hid hall
    clear hall
    by_cases hlt : k < s.size
    · have hlt' : k < s.data.toList.length := by rw [HSZ.out]; exact hlt
      have hstep := all_take _ k hlt'
      have hno := all_no _ k hlt'
      have hsame : s.data.toList[k] = s[k] := by simp; rfl
      rw [hsame] at hstep hno
      rw [HALL.out] at hstep
      have hb : s[k].toNat < 256 := s[k].toNat_lt
      cases hl : letterB s[k]
      · have hrf := right_no _ (hno hl)
        rw [← HR.out] at hrf
        unfold letterB at hl
        rw [decide_eq_false_iff_not] at hl
        have HL := Lib.hid hl
        clear hl hstep hno hsame
        subst hrf
        by_cases h5 : (s[k].toNat : Int) = 46
        · exfalso; exact HL.out (.inr (.inr h5))
        · have t5 : ((s[k].toNat : Int) != 46) = true := by simp [h5]
          go_wp2_with fail
          all_goals first
            | (exfalso; have := HL.out; omega)
            | (go_ret; exact ⟨rfl, rfl⟩)
      · have HST := Lib.hid (show (s.data.toList.take (k + 1)).all letterB = true by rw [hstep, hl]; rfl)
        unfold letterB at hl
        rw [decide_eq_true_eq] at hl
        have HL := Lib.hid hl
        clear hl hstep hno hsame
        by_cases h5 : (s[k].toNat : Int) = 46
        · have t5 : ((s[k].toNat : Int) != 46) = false := by simp [h5]
          go_wp2_with fail
          all_goals exact ⟨⟨k + 1, by omega, by go_num, HST.out⟩, by simp [intOf]; omega⟩
        · have t5 : ((s[k].toNat : Int) != 46) = true := by simp [h5]
          go_wp2_with fail
          all_goals first
            | exact ⟨⟨k + 1, by omega, by go_num, HST.out⟩, by simp [intOf]; omega⟩
            | (exfalso; have := HL.out; omega)
    · have hke : k = s.size := by omega
      have hr2 := right_len s.data.toList (by have := HALL.out; rw [hke, ← HSZ.out, List.take_length] at this; exact this)
      rw [← HR.out, HSZ.out] at hr2
      have HR2 := Lib.hid hr2
      clear hr2 hke
      by_cases h1 : 1 ≤ s.size <;> by_cases h2 : s.size ≤ 24
      all_goals
        go_wp2_with fail
        all_goals
          go_ret
          exact ⟨ret_fb (by rw [HR2.out]; first | (rw [decide_eq_decide]; omega) | (rw [eq_comm, decide_eq_false_iff_not]; omega) | (rw [eq_comm, decide_eq_true_iff]; omega)), rfl⟩
end Go.Proofs.Ytgobdapngbpoeaa

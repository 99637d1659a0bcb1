/- The law's Few; Parse of a file and of none; the chapter's example. -/
import Derived.Test.YtckgdnaocmefjaaRecRparse
import Derived.Test.YtckgdnaocmefjaaRecLen
namespace Go.Proofs.Ytckgdnaocmefjaa
open Go.RowKit CrcPlain OctPlain FramePlain RecPlain
set_option linter.unusedVariables false
set_option linter.unusedSimpArgs false
def few6 (l : List ByteArray) (m : Nat) : Bool := decide (l.length ≤ m) && (l.take m).all (fun s => decide (s.size ≤ 80))
theorem few6_yes {l : List ByteArray} {m : Nat} (h : few6 l m = true) : l.length ≤ m ∧ ∀ s ∈ l, s.size ≤ 80 := by
  unfold few6 at h
  simp only [Bool.and_eq_true, decide_eq_true_eq, List.all_eq_true] at h
  refine ⟨h.1, fun s hs => h.2 s ?_⟩
  rw [List.take_of_length_le h.1]; exact hs
def Few6At (l : List ByteArray) (m : Nat) (w : World) (i : Value) (wr : World) : Prop := ∃ j : Nat, j ≤ m ∧ j ≤ l.length ∧ i = .int .i64 j ∧ wr = w ∧ (l.take j).all (fun s => decide (s.size ≤ 80)) = true
theorem few6_c {w : World} {v : Value} {l : List ByteArray} (h : Lies w v l) (m : Nat) (hm : m ≤ 100) (hl : l.length ≤ 9223372036854775807) :
    Calls Try.prog 6 #[v, .int .i64 (m : Int)] w fun e w' => e = .returned (.bool (few6 l m)) ∧ w = w' := by
  obtain ⟨a, c, rfl, hc, h⟩ := h
  obtain ⟨n, hn⟩ : ∃ n, l.length = n := ⟨_, rfl⟩
  have HN := Lib.hid hn
  have H0 : 1 ≤ n → ∃ b off, a = some ⟨b, off, none⟩ ∧ SRow w b off l := fun h1 => h.elim (fun h0 => by rw [h0] at hn; simp at hn; omega) id
  have H := Lib.hid H0
  rw [hn] at hl ⊢
  have hl2 : (n : Int) ≤ 9223372036854775807 := by omega
  clear h hc hn H0 hl
  go_enter Try.func6, Try.ntmps6
  go_wp2_with fail
  go_loopw [5] (fun i wr => Few6At l m w i wr) (fun i _ => n - (intOf i).toNat)
  case atStart => exact ⟨0, Nat.zero_le _, Nat.zero_le _, rfl, rfl, rfl⟩
  case round =>
    obtain ⟨j, hjm, hj, rfl, rfl, hall⟩ := hrel
    have hln := HN.out
    by_cases hlt : j < n
    · by_cases h10 : j < m
      · obtain ⟨x, hx, hstep, hmem⟩ := take_at (l := l) (j := j) (by omega)
        obtain ⟨b, off, rfl, hr⟩ := H.out (by omega)
        have hcx := hr.2 j x hx
        by_cases hz : x.size ≤ 80
        · have hnext : (l.take (j + 1)).all (fun s => decide (s.size ≤ 80)) = true := by rw [hstep, List.all_append, hall]; simpa using hz
          have HX := Lib.hid hnext
          have hz2 : ¬ (80 : Int) < x.size := by omega
          have d1 : (j : Int) < (m : Int) := by omega
          clear hnext hstep hall hx hmem hz hr H
          go_wp2_with fail
          refine ⟨⟨j + 1, by omega, by have := HN.out; omega, rfl, rfl, HX.out⟩, ?_⟩
          simp [intOf]; omega
        · have hno : few6 l m = false := by
            unfold few6
            cases hd : decide (l.length ≤ m)
            · rfl
            · rw [decide_eq_true_iff] at hd
              rw [List.take_of_length_le hd, Bool.true_and, List.all_eq_false]
              exact ⟨x, hmem, by simpa using hz⟩
          have HX := Lib.hid hno
          have hz2 : (80 : Int) < x.size := by omega
          have d1 : (j : Int) < (m : Int) := by omega
          clear hno hstep hall hx hmem hz hr H
          go_wp2_with fail
          go_ret
          exact ⟨retb HX.out.symm, rfl⟩
      · obtain rfl : j = m := by omega
        have hno : few6 l j = false := by unfold few6; rw [decide_eq_false (by omega)]; rfl
        have HX := Lib.hid hno
        have hx2 : ¬ (n : Int) ≤ (j : Int) := by omega
        clear hno hall H
        go_wp2_with fail
        go_ret
        exact ⟨retb HX.out.symm, rfl⟩
    · obtain rfl : j = n := by omega
      have hyes : few6 l m = true := by
        unfold few6
        rw [decide_eq_true (by omega), List.take_of_length_le (by omega)]
        rw [List.take_of_length_le (by omega)] at hall
        rw [hall]; rfl
      have HX := Lib.hid hyes
      have hx2 : (j : Int) ≤ (m : Int) := by omega
      clear hyes hall H
      go_wp2_with fail
      go_ret
      exact ⟨retb HX.out.symm, rfl⟩
/-- What Parse of a file comes to. -/
def PFile (L : List ByteArray) (w : World) (e : Ending) (w' : World) : Prop := ∃ v, e = .returned (.tuple #[v, .agg #[.int .i64 (L.length : Nat), .int .u32 (sumN L : Nat)], .int .i64 0]) ∧ Lies w' v L ∧ Gr w w'
def PNone (w : World) (e : Ending) (w' : World) : Prop := e = .returned (.tuple #[.slice none 0 0, .agg #[.int .i64 0, .int .u32 0], .int .i64 6]) ∧ Gr w w'
theorem pgot_file {size : Int} {s : ByteArray} {L : List ByteArray} (h : IsFile size s L) {w : World} {e : Ending} {w' : World} (g : PGot size s w e w') : PFile L w e w' := by
  rcases g with ⟨L', v, h1, h2, h3, h4⟩ | ⟨h1, _⟩
  · obtain rfl := file_one h h1
    exact ⟨v, h2, h3, h4⟩
  · exact absurd h (h1 L)
theorem pgot_none {size : Int} {s : ByteArray} (h : ∀ L, ¬ IsFile size s L) {w : World} {e : Ending} {w' : World} (g : PGot size s w e w') : PNone w e w' := by
  rcases g with ⟨L', v, h1, _⟩ | ⟨_, h2, h3⟩
  · exact absurd h1 (h L')
  · exact ⟨h2, h3⟩
theorem parse_file {size : Int} (hk : I64 size) {s : ByteArray} (hz : s.size ≤ 100000) {L : List ByteArray} (h : IsFile size s L) (w : World) : Calls Try.prog 10 #[.int .i64 size, .string s] w (PFile L w) :=
  (parse_c size hk s hz w).mono fun e w' g => pgot_file h g
theorem parse_none {size : Int} (hk : I64 size) {s : ByteArray} (hz : s.size ≤ 100000) (h : ∀ L, ¬ IsFile size s L) (w : World) : Calls Try.prog 10 #[.int .i64 size, .string s] w (PNone w) :=
  (parse_c size hk s hz w).mono fun e w' g => pgot_none h g
theorem lies_nil (w : World) : Lies w (.slice none 0 0) [] := ⟨none, 0, rfl, Nat.le_refl _, .inl rfl⟩
/-- What is laid is a file. -/
theorem lay_file {size : Int} {L : List ByteArray} (h : layB size L = true) : IsFile size (layR size L) L := ⟨h, by rw [layR_yes h, bs_data]⟩
theorem lay_size {size : Int} {L : List ByteArray} (h : layB size L = true) : ((layR size L).size : Int) = 28 + 5 * (((L.length : Int) + 3) / 4) + L.length * size := by
  have hs := h
  unfold layB at hs
  rw [Bool.and_eq_true] at hs
  have h1 := hs.1
  simp only [sizeB, decide_eq_true_eq] at h1
  obtain ⟨m, rfl⟩ : ∃ m : Nat, size = m := ⟨size.toNat, by omega⟩
  rw [layR_yes h, bs_size, layL_length h]
  unfold cnt4
  rw [Int.natCast_add, Int.natCast_add, Int.natCast_mul]
  omega
theorem head_apart {a b : Int} {s : ByteArray} {l m : List ByteArray} (h1 : IsFile a s l) (h2 : IsFile b s m) : a = b := by
  have e := (file_head h1).1.symm.trans (file_head h2).1
  have e2 := List.append_cancel_right e
  have ha := h1.1
  have hb := h2.1
  unfold layB at ha hb
  rw [Bool.and_eq_true] at ha hb
  have ha := ha.1
  have hb := hb.1
  simp only [sizeB, decide_eq_true_eq] at ha hb
  unfold headS at e2
  rw [cl_data, cl_data, bs_data, bs_data] at e2
  have e3 := congrArg (fun l => l[6]?) e2
  simp [nameL] at e3
  have := congrArg UInt8.toNat e3
  rw [UInt8.toNat_ofNat', UInt8.toNat_ofNat'] at this
  omega
set_option maxHeartbeats 2000000 in
theorem awake6_c (w : World) : Calls Try.prog 7 #[] w fun e w' => e = .returned (.bool true) ∧ Gr w w' := by
  have k1 : layB 1 [] = true := by decide
  have LY := fun u => lay_c (lies_nil u) 1 (by unfold I64; omega) (by simp) (by simp)
  have hf := lay_file k1
  have hz := lay_size k1
  rw [k1] at LY
  obtain ⟨s, hs⟩ : ∃ s, s = layR 1 [] := ⟨_, rfl⟩
  rw [← hs] at LY hf hz
  have hz28 : s.size = 28 := by simp at hz; omega
  have P1 := fun u => parse_file (by unfold I64; omega) (by omega) hf u
  have P2 := fun u => parse_none (size := 2) (by unfold I64; omega) (show s.size ≤ 100000 by omega) (fun L hi => by have := head_apart hf hi; omega) u
  have LE := fun u => length_c 1 0 (by unfold I64; omega) (by unfold I64; omega) u
  rw [show lenN 1 0 = 28 by decide] at LE
  have hzi : ((s.size : Int) == 28) = true := by rw [hz28]; rfl
  have hzj : (s.size : Int) = 28 := by omega
  clear hs hf hz hz28 k1
  go_enter Try.func7, Try.ntmps7
  go_wp2_with fail
  refine (LY _).mono ?_; rintro e u1 ⟨rfl, g1⟩
  go_wp2_with fail
  refine (P1 _).mono ?_; rintro e u2 ⟨v, rfl, o2, g2⟩
  obtain ⟨a, c, rfl, _, _⟩ := o2
  go_wp2_with fail
  refine (P2 _).mono ?_; rintro e u3 ⟨rfl, g3⟩
  obtain ⟨x0, x1⟩ := (two_new _ _ _ _ g3).cells
  go_wp2_with fail
  refine (LE _).mono ?_; rintro e u4 ⟨rfl, rfl⟩
  obtain ⟨x0, x1⟩ := (two_new _ _ _ _ (g3.trans (gral u3 (.cells #[.int .i64 0, .int .u32 0] 29)))).cells
  go_wp2_with fail
  go_ret
  exact ⟨rfl, (((g1.trans g2).trans (gral _ _)).trans g3).trans (gral _ _)⟩
end Go.Proofs.Ytckgdnaocmefjaa

/- In one text: Lo, LoNew. -/
import Derived.Test.YtpmglnghnelenaaGreatP33
/- The program's tree: the contracts of its calls. -/
namespace Go.Proofs.YtpmglnghnelenaaGreat
open Go.RowKit LoPlain
set_option linter.unusedVariables false
set_option linter.unusedSimpArgs false
set_option maxRecDepth 20000
/-- The cells of a tree that New did not give. -/
def zv15 (i : Nat) : Value := if i < 2 then .int .i64 0 else if i < 130 then (if i % 2 = 0 then .string ⟨#[]⟩ else .bool false) else .int .i64 0
def loZ : Array Value := ((List.range 195).map zv15).toArray
theorem zero_tr (w : World) : (zeroValue 134).run Tryz.prog w = .ok (.agg loZ) w := by kernel_rfl
theorem loZ_at {i : Nat} (h : i < 195) : loZ[i]? = some (zv15 i) := by simp [loZ, h]
theorem loZ_size : loZ.size = 195 := by simp [loZ]
/-- The program's tree at p. -/
def LoA (p : Nat) (l : List Hd) : Asn := fun w B => l.length ≤ 64 ∧ ∃ f win, TrA p l.length (fun i => l[i]?) ((leftN l : Nat) : Int) f win w B ∧ (∀ q, 1 ≤ q → q < l.length → f q = (losA l.length (ahd l) q : Int)) ∧ (1 ≤ l.length → win = (winA l.length (ahd l) 1 : Int))
theorem fr_lo (p : Nat) (l : List Hd) : Fr (LoA p l) where
  fr := fun ⟨hl, f, win, h, a, b⟩ o d => ⟨hl, f, win, (fr_tr _ _ _ _ _ _).fr h o d, a, b⟩
  lo := fun ⟨_, f, win, h, _, _⟩ b hb => (fr_tr _ _ _ _ _ _).lo h b hb
theorem lo_of {p n : Nat} {l : List Hd} {f : Nat → Int} {win : Int} {w : World} {B : Nat → Prop} (hn : l.length = n) (hl : n ≤ 64) (h : TrA p n (fun i => l[i]?) ((leftN l : Nat) : Int) f win w B) (hf : ∀ q, 1 ≤ q → q < n → f q = (losA n (ahd l) q : Int)) (hw : 1 ≤ n → win = (winA n (ahd l) 1 : Int)) : LoA p l w B := by
  subst hn; exact ⟨hl, f, win, h, hf, hw⟩
theorem left_c {p n : Nat} {g : Nat → Option Hd} {left : Int} {f : Nat → Int} {win : Int} {w : World} {B : Nat → Prop} (h : TrA p n g left f win w B) :
    Calls Tryz.prog 85 #[.pointer (some ⟨p, 0, none⟩)] w fun e w' => e = .returned (.int .i64 left) ∧ w' = w := by
  obtain ⟨_, c1, hp⟩ := tr_n h
  clear h
  go_enter Tryz.func85, Tryz.ntmps85
  go_wp2_with fail
  go_ret
  exact ⟨rfl, rfl⟩
theorem lo_left_nil (w : World) : Calls Tryz.prog 85 #[.pointer none] w fun e w' => e = .returned (.int .i64 0) ∧ Gr w w' := by
  go_enter Tryz.func85, Tryz.ntmps85
  go_wp2_with fail
  go_ret
  exact ⟨rfl, Gr.refl _⟩
theorem least_c {p n : Nat} {g : Nat → Option Hd} {left : Int} {f : Nat → Int} {win : Int} {w : World} {B : Nat → Prop} (h : TrA p n g left f win w B) (hl : left ≠ 0) :
    Calls Tryz.prog 61 #[.pointer (some ⟨p, 0, none⟩)] w fun e w' => e = .returned (.tuple #[.int .i64 win, .bool true]) ∧ w' = w := by
  obtain ⟨c2, _⟩ := tr_win h 0
  have C := Lib.hid (left_c h)
  have t : (left == 0) = false := by simp [hl]
  clear h
  go_enter Tryz.func61, Tryz.ntmps61
  go_wp2_with fail
  refine C.out.mono ?_; rintro e u ⟨rfl, rfl⟩
  go_wp2_with fail
  go_ret2
  exact ⟨rfl, rfl⟩
theorem least_no {v : Value} {w : World} (C : Calls Tryz.prog 85 #[v] w fun e w' => e = .returned (.int .i64 0) ∧ Gr w w') :
    Calls Tryz.prog 61 #[v] w fun e w' => e = .returned (.tuple #[.int .i64 0, .bool false]) ∧ Gr w w' := by
  have H := Lib.hid C
  clear C
  go_enter Tryz.func61, Tryz.ntmps61
  go_wp2_with fail
  refine H.out.mono ?_; rintro e u ⟨rfl, g⟩
  go_wp2_with fail
  go_ret2
  exact ⟨rfl, g⟩
theorem lo_least_nil (w : World) : Calls Tryz.prog 61 #[.pointer none] w fun e w' => e = .returned (.tuple #[.int .i64 0, .bool false]) ∧ Gr w w' := least_no (lo_left_nil w)
theorem head_no {v : Value} {w : World} (C : Calls Tryz.prog 61 #[v] w fun e w' => e = .returned (.tuple #[.int .i64 0, .bool false]) ∧ Gr w w') :
    Calls Tryz.prog 62 #[v] w fun e w' => e = .returned (.string ⟨#[]⟩) ∧ Gr w w' := by
  have H := Lib.hid C
  clear C
  go_enter Tryz.func62, Tryz.ntmps62
  go_wp2_with fail
  refine H.out.mono ?_; rintro e u ⟨rfl, g⟩
  go_wp2_with fail
  go_ret
  exact ⟨rfl, g⟩
theorem next_no {v : Value} {s : ByteArray} {o : Bool} {w : World} (C : Calls Tryz.prog 61 #[v] w fun e w' => e = .returned (.tuple #[.int .i64 0, .bool false]) ∧ Gr w w') :
    Calls Tryz.prog 65 #[v, .string s, .bool o] w fun e w' => e = .returned (.tuple #[]) ∧ Gr w w' := by
  have H := Lib.hid C
  clear C
  go_enter Tryz.func65, Tryz.ntmps65
  go_wp2_with fail
  refine H.out.mono ?_; rintro e u ⟨rfl, g⟩
  go_wp2_with fail
  exact bodyPost_ret (results_none rfl _ _ _) rfl ⟨rfl, g⟩
theorem lo_head_nil (w : World) : Calls Tryz.prog 62 #[.pointer none] w fun e w' => e = .returned (.string ⟨#[]⟩) ∧ Gr w w' := head_no (lo_least_nil w)
theorem lo_next_nil (s : ByteArray) (o : Bool) (w : World) : Calls Tryz.prog 65 #[.pointer none, .string s, .bool o] w fun e w' => e = .returned (.tuple #[]) ∧ Gr w w' := next_no (lo_least_nil w)
theorem lo_least_zero {p : Nat} {w : World} (h : w.heap[p]? = some (.cells loZ 134 (0, 0))) : Calls Tryz.prog 61 #[.pointer (some ⟨p, 0, none⟩)] w fun e w' => e = .returned (.tuple #[.int .i64 0, .bool false]) ∧ Gr w w' := by
  refine least_no ?_
  have hp := lt_of_block h
  have c1 : w.cell? ⟨p, 1, none⟩ = some (.int .i64 0) := by rw [cells_at h, loZ_at (by omega)]; rfl
  clear h
  go_enter Tryz.func85, Tryz.ntmps85
  go_wp2_with fail
  go_ret
  exact ⟨rfl, Gr.refl _⟩
theorem does_of {p : Nat} {l : List Hd} {w : World} {B : Nat → Prop} (h : LoA p l w B) {f : FuncId} {args : Array Value} {v : Value} (C : Calls Tryz.prog f args w fun e w' => e = .returned v ∧ Gr w w') : Calls Tryz.prog f args w (Does w B (LoA p l) v) := by
  refine C.mono ?_
  rintro e u ⟨he, g⟩
  exact ⟨he, B, (fr_lo p l).fr h (Only.ofGr (B := fun _ => False) g) (fun _ _ e => e), Nx.gr g⟩
theorem left_gr {p n : Nat} {g : Nat → Option Hd} {f : Nat → Int} {win : Int} {w : World} {B : Nat → Prop} (h : TrA p n g 0 f win w B) :
    Calls Tryz.prog 85 #[.pointer (some ⟨p, 0, none⟩)] w fun e w' => e = .returned (.int .i64 0) ∧ Gr w w' :=
  (left_c h).mono fun e u k => ⟨k.1, by rw [k.2]; exact Gr.refl _⟩
theorem lo_least_c {p : Nat} {l : List Hd} (hl : l.length ≤ 64) {w : World} {B : Nat → Prop} (h : LoA p l w B) :
    Calls Tryz.prog 61 #[.pointer (some ⟨p, 0, none⟩)] w (Does w B (LoA p l) (.tuple #[.int .i64 (leastI l), .bool (leastB l)])) := by
  have h0 := h
  obtain ⟨_, f, win, ht, hf, hw⟩ := h
  by_cases hz : leftN l = 0
  · obtain ⟨a, b⟩ := left_zero hz
    rw [a, b]
    rw [hz] at ht
    exact does_of h0 (least_no (left_gr ht))
  · obtain ⟨a, b, c⟩ := win_least hz
    have hI : leastI l = win := by unfold leastI; rw [hw (by omega), a]; omega
    rw [hI, b]
    exact does_of h0 ((least_c ht (by omega)).mono fun e u k => ⟨k.1, by rw [k.2]; exact Gr.refl _⟩)
theorem lo_left_c {p : Nat} {l : List Hd} (hl : l.length ≤ 64) {w : World} {B : Nat → Prop} (h : LoA p l w B) :
    Calls Tryz.prog 85 #[.pointer (some ⟨p, 0, none⟩)] w (Does w B (LoA p l) (.int .i64 ((leftN l : Nat) : Int))) := by
  have h0 := h
  obtain ⟨_, f, win, ht, hf, hw⟩ := h
  exact does_of h0 ((left_c ht).mono fun e u k => ⟨k.1, by rw [k.2]; exact Gr.refl _⟩)
theorem lo_head_c {p : Nat} {l : List Hd} (hl : l.length ≤ 64) {w : World} {B : Nat → Prop} (h : LoA p l w B) :
    Calls Tryz.prog 62 #[.pointer (some ⟨p, 0, none⟩)] w (Does w B (LoA p l) (.string (headS l))) := by
  have h0 := h
  obtain ⟨_, f, win, ht, hf, hw⟩ := h
  by_cases hz : leftN l = 0
  · obtain ⟨a, b⟩ := left_zero hz
    have hh : headS l = ⟨#[]⟩ := by unfold headS; rw [if_neg (by rw [a]; simp)]
    rw [hh]
    rw [hz] at ht
    exact does_of h0 (head_no (least_no (left_gr ht)))
  · obtain ⟨a, b, c⟩ := win_least hz
    obtain ⟨i, hi⟩ : ∃ i, winA l.length (ahd l) 1 = i := ⟨_, rfl⟩
    rw [hw (by omega), hi] at ht
    rw [hi] at a c
    have hon := least_on b
    have hx : l[i]? = some l[i] := List.getElem?_eq_getElem c
    have hh : headS l = keptS l[i] := by
      unfold headS keptS
      rw [a, Int.toNat_natCast, oAt_at hx] at hon
      rw [if_pos b, if_neg (by rw [hon]; simp), a, Int.toNat_natCast, sAt_at hx]
    have hi64 : i < 64 := by omega
    have hiI : (i : Int) < 64 := by omega
    have C := Lib.hid (least_c ht (by omega))
    have c1 : w.cell? ⟨p, 2 + i * 2, none⟩ = some (.string (headS l)) := by
      obtain ⟨cs, ⟨hb, hB⟩, htc⟩ := ht
      rw [cells_at hb, hh]
      exact (htc.src i _ hi64 hx).1
    have D := Lib.hid h0
    generalize headS l = s at c1 ⊢
    clear hh hx hon a b c hi hw hf ht hz h0
    go_enter Tryz.func62, Tryz.ntmps62
    go_wp2_with fail
    refine C.out.mono ?_; rintro e u ⟨rfl, rfl⟩
    go_wp2_with fail
    go_ret
    exact ⟨rfl, B, D.out, Nx.refl _ _⟩
theorem set_get {l : List Hd} {i : Nat} (hi : i < l.length) (x : Hd) : setA (fun j => l[j]?) i x = fun j => (l.set i x)[j]? := by
  funext j
  unfold setA
  by_cases e : j = i
  · subst e; rw [if_pos rfl, List.getElem?_set_self hi]
  · rw [if_neg e, List.getElem?_set_ne (fun e2 => e e2.symm)]
theorem leftN_set : ∀ (l : List Hd) (i : Nat) (s : ByteArray) (o : Bool), oAt l i = false → leftN (l.set i ⟨s, o⟩) + (if o = true then 1 else 0) = leftN l
  | [], i, s, o, h => by simp [oAt] at h
  | x :: l, 0, s, o, h => by
    have hx : x.o = false := by simpa [oAt] using h
    unfold leftN
    rw [List.set_cons_zero, List.countP_cons, List.countP_cons, hx]
    cases o <;> simp
  | x :: l, i + 1, s, o, h => by
    have ih := leftN_set l i s o (by simpa [oAt] using h)
    unfold leftN at ih ⊢
    rw [List.set_cons_succ, List.countP_cons, List.countP_cons]
    omega
set_option maxHeartbeats 1000000 in
theorem lo_next_c {p : Nat} {l : List Hd} (hl : l.length ≤ 64) (s : ByteArray) (o : Bool) (hs : s.size ≤ 1000) {w : World} {B : Nat → Prop} (h : LoA p l w B) :
    Calls Tryz.prog 65 #[.pointer (some ⟨p, 0, none⟩), .string s, .bool o] w (Does w B (LoA p (nextL l s o)) (.tuple #[])) := by
  have h0 := h
  obtain ⟨_, f, win, ht, hf, hw⟩ := h
  by_cases hz : leftN l = 0
  · obtain ⟨a, b⟩ := left_zero hz
    have hh : nextL l s o = l := by unfold nextL; rw [if_neg (by rw [a]; simp)]
    rw [hh]
    rw [hz] at ht
    exact does_of h0 (next_no (least_no (left_gr ht)))
  · obtain ⟨a, b, c⟩ := win_least hz
    obtain ⟨i, hi⟩ : ∃ i, winA l.length (ahd l) 1 = i := ⟨_, rfl⟩
    rw [hw (by omega), hi] at ht
    rw [hi] at a c
    have hon := least_on b
    rw [a, Int.toNat_natCast] at hon
    have hh : nextL l s o = l.set i ⟨s, o⟩ := by unfold nextL; rw [if_pos b, a, Int.toNat_natCast]
    obtain ⟨l', hl'⟩ : ∃ l', l.set i ⟨s, o⟩ = l' := ⟨_, rfl⟩
    have hlen : l'.length = l.length := by rw [← hl']; simp
    have hleft := leftN_set l i s o hon
    rw [hl'] at hleft
    rw [hh, hl']
    have hle := leftN_le l
    obtain ⟨n, hn⟩ : ∃ n, l.length = n := ⟨_, rfl⟩
    rw [hn] at ht hf hi c hlen hl hle
    have hsg := set_get (by rw [hn]; exact c) (⟨s, o⟩ : Hd) (l := l)
    rw [hl'] at hsg
    have C := Lib.hid (least_c ht (by omega))
    have S : Calls Tryz.prog 89 #[.pointer (some ⟨p, 0, none⟩), .int .i64 i, .string s, .bool o] w (Does w B (TrA p n (fun j => l'[j]?) ((leftN l' : Nat) : Int) f (i : Int)) (.tuple #[])) := by
      rw [← hsg]
      cases o
      · have e : ((leftN l' : Nat) : Int) = ((leftN l : Nat) : Int) := by rw [if_neg (by simp)] at hleft; omega
        rw [e]
        exact set_head_c ht (by omega) s hs
      · have e : ((leftN l' : Nat) : Int) = ((leftN l : Nat) : Int) - 1 := by rw [if_pos rfl] at hleft; omega
        rw [e]
        exact set_over_c ht (by omega) (by omega) s
    have HS := Lib.hid S
    have N := next_step (ord_ahd n l) (ord_ahd n l') c hi (fun x y hx hy => by rw [← hl']; exact (ahd_set _ hx hy).symm) hf (i : Int)
    have hr : Rng15 n f := by
      intro q h1 h2
      rw [hf q h1 h2]
      have a1 := win_lt (lt := ahd l) (n := n) (c := 2 * q) (by omega) (by omega)
      have a2 := win_lt (lt := ahd l) (n := n) (c := 2 * q + 1) (by omega) (by omega)
      unfold losA
      split <;> omega
    have P := Lib.hid (fun (u : World) (B1 : Nat → Prop) (k : TrA p n (fun j => l'[j]?) ((leftN l' : Nat) : Int) f (i : Int) u B1) => play_c k hlen hl hr c)
    have E := Lib.hid (fun (u : World) (B1 : Nat → Prop) (k : TrA p n (fun j => l'[j]?) ((leftN l' : Nat) : Int) (playN (ahd l') f (i : Int) i ((n + i) / 2)).1 (playN (ahd l') f (i : Int) i ((n + i) / 2)).2 u B1) => lo_of hlen hl k N.1 (fun _ => N.2))
    clear N hr S hsg hle hleft hlen hl' hh hon a b hi hw hf ht hz h0 hn
    go_enter Tryz.func65, Tryz.ntmps65
    go_wp2_with fail
    refine C.out.mono ?_; rintro e u ⟨rfl, rfl⟩
    go_wp2_with fail
    refine HS.out.mono ?_; rintro e u1 ⟨rfl, B1, k1, n1⟩
    have K1 := Lib.hid k1
    have N1 := Lib.hid n1
    clear k1 n1
    go_wp2_with fail
    refine (P.out _ _ K1.out).mono ?_; rintro e u2 ⟨rfl, B2, k2, n2⟩
    have K2 := Lib.hid k2
    have N2 := Lib.hid n2
    clear k2 n2
    go_wp2_with fail
    refine bodyPost_end (results_none rfl _ _ _) rfl ⟨rfl, B2, E.out _ _ K2.out, N1.out.trans N2.out⟩
/-- A new one. -/
structure LoMade (l : List Hd) (w : World) (e : Ending) (w' : World) : Prop where
  made : ∃ p B, e = .returned (.pointer (some ⟨p, 0, none⟩)) ∧ LoA p l w' B ∧ ∀ b, B b → w.heap.size ≤ b
  gr : Gr w w'
theorem lo_new_no {w : World} {v1 v2 : Value} {hs : List ByteArray} {os : List Bool} (h1 : Lies w v1 hs) (h2 : LiesV w v2 (bools os)) (hn : 64 < hs.length) (hm : hs.length ≤ 1000000) :
    Calls Tryz.prog 84 #[v1, v2] w fun e w' => e = .returned (.pointer none) ∧ Gr w w' := by
  obtain ⟨a1, c1, rfl, hc1, _⟩ := h1
  obtain ⟨a2, c2, rfl, hc2, _⟩ := h2
  obtain ⟨n, hnn⟩ : ∃ n, hs.length = n := ⟨_, rfl⟩
  obtain ⟨m, hmm⟩ : ∃ m, (bools os).length = m := ⟨_, rfl⟩
  rw [hnn] at hn hm hc1 ⊢
  rw [hmm]
  have t : decide ((64 : Int) < (n : Int)) = true := by simp; omega
  clear hnn hmm hc1 hc2
  go_enter Tryz.func84, Tryz.ntmps84
  go_wp2_with fail
  go_ret
  exact ⟨rfl, Gr.refl _⟩
end Go.Proofs.YtpmglnghnelenaaGreat
/- The program's tree: New. -/
namespace Go.Proofs.YtpmglnghnelenaaGreat
open Go.RowKit LoPlain
set_option linter.unusedVariables false
set_option linter.unusedSimpArgs false
set_option maxRecDepth 20000
def ovN (l : List Hd) : Nat := l.countP (fun x => x.o)
theorem ov_left : ∀ l : List Hd, leftN l + ovN l = l.length
  | [] => rfl
  | x :: l => by
    have ih := ov_left l
    unfold leftN ovN at ih ⊢
    rw [List.countP_cons, List.countP_cons, List.length_cons]
    cases x.o <;> simp <;> omega
theorem ov_snoc (l : List Hd) (x : Hd) : ovN (l ++ [x]) = ovN l + (if x.o = true then 1 else 0) := by
  unfold ovN
  rw [List.countP_append]
  cases h : x.o <;> simp [h]
theorem ov_le (l : List Hd) : ovN l ≤ l.length := List.countP_le_length
theorem take_get {l : List Hd} {j : Nat} {x : Hd} (h : l[j]? = some x) : setA (fun i => (l.take j)[i]?) j x = fun i => (l.take (j + 1))[i]? := by
  have hj : j < l.length := by
    rcases Nat.lt_or_ge j l.length with h1 | h1
    · exact h1
    · rw [List.getElem?_eq_none h1] at h; cases h
  funext i
  unfold setA
  by_cases e : i = j
  · subst e; rw [if_pos rfl, List.getElem?_take, if_pos (by omega), h]
  · rw [if_neg e]
    show (l.take j)[i]? = (l.take (j + 1))[i]?
    rw [List.getElem?_take, List.getElem?_take]
    by_cases h1 : i < j
    · rw [if_pos h1, if_pos (by omega)]
    · rw [if_neg h1, if_neg (by omega)]
def fMk (j : Nat) : Nat → Int := fun q => if q < j then -1 else 0
theorem fMk_upd (j : Nat) : updA (fMk j) j (-1) = fMk (j + 1) := by
  funext q
  unfold updA fMk
  by_cases e : q = j
  · rw [if_pos e, if_pos (by omega)]
  · rw [if_neg e]
    by_cases h : q < j
    · rw [if_pos h, if_pos (by omega)]
    · rw [if_neg h, if_neg (by omega)]
/-- The loops of New. -/
def NwA (p n : Nat) (w : World) (i : Value) (wr : World) : Prop := ∃ (j : Nat) (B : Nat → Prop), j ≤ 64 ∧ i = .int .i64 (j : Int) ∧ TrA p n (fun _ => none) (n : Int) (fMk j) 0 wr B ∧ Nx (fun _ => False) w B wr
def NwB (p n : Nat) (l : List Hd) (w : World) (i : Value) (wr : World) : Prop := ∃ (j : Nat) (B : Nat → Prop), j ≤ n ∧ i = .int .i64 (j : Int) ∧ TrA p n (fun k => (l.take j)[k]?) ((n : Int) - ((ovN (l.take j) : Nat) : Int)) (fMk 64) 0 wr B ∧ Nx (fun _ => False) w B wr
def NwC (p n : Nat) (l : List Hd) (w : World) (i : Value) (wr : World) : Prop := ∃ (j : Nat) (B : Nat → Prop) (f : Nat → Int) (win : Int), j ≤ n ∧ i = .int .i64 (j : Int) ∧ TrA p n (fun k => l[k]?) ((leftN l : Nat) : Int) f win wr B ∧ Nx (fun _ => False) w B wr ∧ Mad15 n (ahd l) j f ∧ (j = n → 1 ≤ n → win = (winA n (ahd l) 1 : Int))
theorem tr_zero {n : Nat} {w : World} : TrA w.heap.size n (fun _ => none) (n : Int) (fMk 0) 0 (w.alloc (.cells ((loZ.setIfInBounds 0 (.int .i64 (n : Int))).setIfInBounds 1 (.int .i64 (n : Int))) 134)) (fun b => b = w.heap.size) := by
  refine ⟨_, ⟨heap_alloc_new w _, fun b => Iff.rfl⟩, ?_⟩
  have hs := loZ_size
  have k : ∀ j, ((loZ.setIfInBounds 0 (.int .i64 (n : Int))).setIfInBounds 1 (.int .i64 (n : Int)))[j]? = if 1 = j then some (.int .i64 (n : Int)) else if 0 = j then some (.int .i64 (n : Int)) else loZ[j]? := fun j => by
    rw [sib_get _ _ _ _ (by simp [hs]), sib_get _ _ _ _ (by omega)]
  refine ⟨by simp [hs], by rw [k]; rfl, by rw [k]; rfl, (fun i x _ h => by cases h), fun q hq => ?_, ?_⟩
  · rw [k, if_neg (by omega), if_neg (by omega), loZ_at (by omega)]
    unfold zv15 fMk
    rw [if_neg (by omega), if_neg (by omega), if_neg (by omega)]
  · rw [k, if_neg (by omega), if_neg (by omega), loZ_at (by omega)]
    rfl
set_option maxHeartbeats 4000000 in
theorem lo_new_c {w : World} {v1 v2 : Value} {hs : List ByteArray} {os : List Bool} (h1 : Lies w v1 hs) (h2 : LiesV w v2 (bools os)) (hn : hs.length ≤ 64) (ho : os.length ≤ 1000000) (hz : ∀ s ∈ hs, s.size ≤ 1000) :
    Calls Tryz.prog 84 #[v1, v2] w (LoMade (mkL hs os) w) := by
  obtain ⟨n, hnn⟩ : ∃ n, hs.length = n := ⟨_, rfl⟩
  obtain ⟨m, hmm⟩ : ∃ m, os.length = m := ⟨_, rfl⟩
  have hln : (mkL hs os).length = n := by rw [mkL_length, hnn]
  obtain ⟨ha, hc, rfl, hcap, hh⟩ := h1
  obtain ⟨oa, oc, rfl, ocap, oh⟩ := h2
  have hbl : (bools os).length = m := by simpa [bools] using hmm
  rw [hbl]
  rw [hnn] at hn ⊢
  rw [hmm] at ho
  have HH : 1 ≤ n → ∃ b off, ha = some ⟨b, off, none⟩ ∧ SRow w b off hs := fun k => hh.elim (fun e => by rw [e] at hnn; simp at hnn; omega) id
  have OH : 1 ≤ m → ∃ b off, oa = some ⟨b, off, none⟩ ∧ VRow w b off (bools os) := fun k => oh.elim (fun e => by rw [e] at hbl; simp at hbl; omega) id
  obtain ⟨l, hl⟩ : ∃ l, mkL hs os = l := ⟨_, rfl⟩
  rw [hl] at hln ⊢
  have HMK := Lib.hid (fun j s (h : hs[j]? = some s) => (show l[j]? = some (Hd.mk s ((os[j]?).getD false)) by rw [← hl]; exact mkL_at hs os j s h))
  have H1 := Lib.hid HH
  have H2 := Lib.hid OH
  have HL := Lib.hid hln
  have HN := Lib.hid hnn
  have HM := Lib.hid hmm
  have HZ := Lib.hid hz
  have hnI : (n : Int) ≤ 64 := by omega
  have t64 : decide ((64 : Int) < (n : Int)) = false := by simp; omega
  have z51 := zero_tr
  have TZ := Lib.hid (tr_zero (n := n) (w := w))
  obtain ⟨p, hp⟩ : ∃ p, w.heap.size = p := ⟨_, rfl⟩
  rw [hp] at TZ
  clear HH OH hh oh hln hnn hmm hbl hcap ocap hl hz
  go_enter Tryz.func84, Tryz.ntmps84
  go_wp2_with fail
  try rw [hp]
  generalize hcs : (loZ.setIfInBounds 0 (Value.int IntKind.i64 (n : Int))).setIfInBounds 1 (Value.int IntKind.i64 (n : Int)) = cz at *
  have G0 := Lib.hid (show Gr w (w.alloc (.cells cz 134)) from Gr.of (Below.alloc (Below.refl _ _) (Nat.le_refl _) _))
  clear z51 hcs
  go_loopw [19] (fun i wr => NwA p n w i wr) (fun i _ => 64 - (intOf i).toNat)
  case atStart =>
    exact ⟨0, fun b => b = p, Nat.zero_le _, rfl, TZ.out, Only.ofGr G0.out, fun b hb => .inr (by omega)⟩
  case round =>
    obtain ⟨j, B, hj, rfl, hT, nx⟩ := hrel
    by_cases hlt : j < 64
    · have hltI : (j : Int) < 64 := by omega
      obtain ⟨d1, d2, hT2, hN2⟩ := tr_put hT hlt (-1)
      rw [fMk_upd] at hT2
      have K := Lib.hid hT2
      have N := Lib.hid (nx.trans hN2)
      clear hT2 hN2 hT nx
      go_wp2_with fail
      refine ⟨⟨j + 1, B, by omega, rfl, K.out, N.out⟩, ?_⟩
      simp [intOf]; omega
    · have e64 : j = 64 := by omega
      have hge : ¬ (j : Int) < 64 := by omega
      rw [e64] at hT
      have K := Lib.hid hT
      have N := Lib.hid nx
      clear hT nx e64 hj
      go_wp2_with fail
      have KB := Lib.hid (show NwB p n l w (.int .i64 0) wr from ⟨0, B, Nat.zero_le _, rfl, by
        have h0 : (fun k => (l.take 0)[k]?) = (fun _ => none : Nat → Option Hd) := by funext k; simp
        rw [h0]
        have h1 : (n : Int) - ((ovN (l.take 0) : Nat) : Int) = (n : Int) := by simp [ovN]
        rw [h1]; exact K.out, N.out⟩)
      clear hge hlt
      go_loopw [30] (fun i wr => NwB p n l w i wr) (fun i _ => n - (intOf i).toNat)
      case atStart => exact KB.out
      case round =>
        obtain ⟨j, B, hj, rfl, hT, nx⟩ := hrel
        have hjn := HN.out
        by_cases hlt : j < n
        · have hltI : (j : Int) < (n : Int) := by omega
          obtain ⟨s, hs'⟩ : ∃ s, hs[j]? = some s := ⟨hs[j]'(by omega), List.getElem?_eq_getElem _⟩
          have hzs := HZ.out s (List.mem_of_getElem? hs')
          have hx := HMK.out j s hs'
          obtain ⟨hb, off, rfl, hrow⟩ := H1.out (by omega)
          have cs : wr.cell? ⟨hb, off + j, none⟩ = some (.string s) := by rw [nx.only.cell (p := ⟨hb, off + j, none⟩) hrow.1 (fun h => h)]; exact hrow.2 j s hs'
          have hov := ov_le (l.take j)
          have htk : (l.take j).length ≤ j := by rw [List.length_take]; omega
          have hstep : l.take (j + 1) = l.take j ++ [⟨s, (os[j]?).getD false⟩] := by rw [List.take_add_one, hx]; rfl
          have hov1 := ov_snoc (l.take j) ⟨s, (os[j]?).getD false⟩
          rw [← hstep] at hov1
          have S : ∀ o, (os[j]?).getD false = o → Calls Tryz.prog 89 #[.pointer (some ⟨p, 0, none⟩), .int .i64 j, .string s, .bool o] wr (Does wr B (TrA p n (fun k => (l.take (j + 1))[k]?) ((n : Int) - ((ovN (l.take (j + 1)) : Nat) : Int)) (fMk 64) 0) (.tuple #[])) := by
            intro o ho
            rw [ho] at hx hov1
            have hg := take_get hx
            rw [← hg, hov1]
            cases o
            · rw [if_neg (by simp), Nat.add_zero]
              exact set_head_c hT (by omega) s hzs
            · rw [if_pos rfl]
              have := set_over_c hT (by omega) (i := j) (by omega) s
              rwa [show (n : Int) - ((ovN (l.take j) : Nat) : Int) - 1 = (n : Int) - ((ovN (l.take j) + 1 : Nat) : Int) by omega] at this
          have HS := Lib.hid S
          have NX := Lib.hid nx
          clear S hT nx hov1 hov hstep htk hx hs' hrow hzs hjn K N KB
          by_cases hm : j < m
          · obtain ⟨o, ho'⟩ : ∃ o, os[j]? = some o := ⟨os[j]'(by have := HM.out; omega), List.getElem?_eq_getElem _⟩
            obtain ⟨ob, oo, rfl, orow⟩ := H2.out (by omega)
            have co : wr.cell? ⟨ob, oo + j, none⟩ = some (.bool o) := by rw [NX.out.only.cell (p := ⟨ob, oo + j, none⟩) orow.1 (fun h => h)]; exact orow.2 j (.bool o) (by simp [bools, ho'])
            have C := Lib.hid (HS.out o (by rw [ho']; rfl))
            have hmI : decide ((j : Int) < (m : Int)) = true := by simp; omega
            have hmI2 : (j : Int) < (m : Int) := by omega
            clear ho' orow
            go_wp2_with fail
            refine (C.out).mono ?_; rintro e u ⟨rfl, B1, k1, n1⟩
            have K1 := Lib.hid k1
            have N1 := Lib.hid (NX.out.trans n1)
            clear k1 n1
            go_wp2_with fail
            refine ⟨⟨j + 1, B1, by omega, rfl, K1.out, N1.out⟩, ?_⟩
            simp [intOf]; omega
          · have C := Lib.hid (HS.out false (by rw [List.getElem?_eq_none (by have := HM.out; omega)]; rfl))
            have hmI : decide ((j : Int) < (m : Int)) = false := by simp; omega
            have hmI2 : ¬ (j : Int) < (m : Int) := by omega
            go_wp2_with fail
            refine (C.out).mono ?_; rintro e u ⟨rfl, B1, k1, n1⟩
            have K1 := Lib.hid k1
            have N1 := Lib.hid (NX.out.trans n1)
            clear k1 n1
            go_wp2_with fail
            refine ⟨⟨j + 1, B1, by omega, rfl, K1.out, N1.out⟩, ?_⟩
            simp [intOf]; omega
        · obtain rfl : j = n := by omega
          have ht : l.take j = l := List.take_of_length_le (by rw [HL.out]; omega)
          rw [ht] at hT
          have hov := ov_left l
          have e : (j : Int) - ((ovN l : Nat) : Int) = ((leftN l : Nat) : Int) := by rw [HL.out] at hov; omega
          rw [e] at hT
          have KC := Lib.hid (show NwC p j l w (.int .i64 0) wr from ⟨0, B, fMk 64, 0, Nat.zero_le _, rfl, hT, nx, by
            intro q h1 h2
            have := mad_zero j (ahd l) q h1 h2
            rw [← this]
            unfold fMk
            rw [if_pos (by omega)], fun h h1 => by omega⟩)
          clear hT nx ht hov e K N KB hjn
          go_wp2_with fail
          go_loopw [52] (fun i wr => NwC p j l w i wr) (fun i _ => j - (intOf i).toNat)
          case atStart => exact KC.out
          case round =>
            obtain ⟨k, B, f, win, hk, rfl, hT, nx, hM, hw⟩ := hrel
            by_cases hlt : k < j
            · have M := mad_step (ord_ahd j l) hlt hM win
              have P := Lib.hid (play_c hT HL.out hn (mad_range hM) hlt)
              have HM2 := Lib.hid M
              have NX := Lib.hid nx
              clear M hT nx hM hw KC
              go_wp2_with fail
              refine (P.out).mono ?_; rintro e u ⟨rfl, B1, k1, n1⟩
              have K1 := Lib.hid k1
              have N1 := Lib.hid (NX.out.trans n1)
              clear k1 n1
              go_wp2_with fail
              refine ⟨⟨k + 1, B1, _, _, by omega, rfl, K1.out, N1.out, HM2.out.1, fun h _ => HM2.out.2 h⟩, ?_⟩
              simp [intOf]; omega
            · obtain rfl : k = j := by omega
              have E := Lib.hid (show LoA p l wr B from lo_of HL.out hn hT (mad_end hM) (hw rfl))
              have NX := Lib.hid nx
              clear hT nx hM hw KC
              go_wp2_with fail
              go_ret
              exact ⟨⟨p, B, rfl, E.out, fun b hb => by have := NX.out.new b hb; simpa using this⟩, nx_gr NX.out⟩
end Go.Proofs.YtpmglnghnelenaaGreat

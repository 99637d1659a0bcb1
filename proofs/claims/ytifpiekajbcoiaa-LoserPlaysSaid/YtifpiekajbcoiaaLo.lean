/- The program's tree: the contracts of its calls. -/
import Derived.Test.YtifpiekajbcoiaaLoUp
namespace Go.Proofs.Ytifpiekajbcoiaa
open Go.RowKit LoPlain
set_option linter.unusedVariables false
set_option linter.unusedSimpArgs false
set_option maxRecDepth 20000
/-- The cells of a tree that New did not give. -/
def zv15 (i : Nat) : Value := if i < 2 then .int .i64 0 else if i < 130 then (if i % 2 = 0 then .string ⟨#[]⟩ else .bool false) else .int .i64 0
def loZ : Array Value := ((List.range 195).map zv15).toArray
theorem zero_tr (w : World) : (zeroValue 51).run Try.prog w = .ok (.agg loZ) w := by kernel_rfl
theorem loZ_at {i : Nat} (h : i < 195) : loZ[i]? = some (zv15 i) := by simp [loZ, h]
theorem loZ_size : loZ.size = 195 := by simp [loZ]
/-- The program's tree at p. -/
def LoA (p : Nat) (l : List Hd) : Asn := fun w B => l.length ≤ 64 ∧ ∃ f win, TrA p l.length (fun i => l[i]?) ((leftN l : Nat) : Int) f win w B ∧ (∀ q, 1 ≤ q → q < l.length → f q = (losA l.length (ahd l) q : Int)) ∧ (1 ≤ l.length → win = (winA l.length (ahd l) 1 : Int))
theorem fr_lo (p : Nat) (l : List Hd) : Fr (LoA p l) where
  fr := fun ⟨hl, f, win, h, a, b⟩ o d => ⟨hl, f, win, (fr_tr _ _ _ _ _ _).fr h o d, a, b⟩
  lo := fun ⟨_, f, win, h, _, _⟩ b hb => (fr_tr _ _ _ _ _ _).lo h b hb
theorem lo_of {p n : Nat} {l : List Hd} {f : Nat → Int} {win : Int} {w : World} {B : Nat → Prop} (hn : l.length = n) (hl : n ≤ 64) (h : TrA p n (fun i => l[i]?) ((leftN l : Nat) : Int) f win w B) (hf : ∀ q, 1 ≤ q → q < n → f q = (losA n (ahd l) q : Int)) (hw : 1 ≤ n → win = (winA n (ahd l) 1 : Int)) : LoA p l w B := by
  subst hn; exact ⟨hl, f, win, h, hf, hw⟩
theorem left_c {p n : Nat} {g : Nat → Option Hd} {left : Int} {f : Nat → Int} {win : Int} {w : World} {B : Nat → Prop} (h : TrA p n g left f win w B) :
    Calls Try.prog 11 #[.pointer (some ⟨p, 0, none⟩)] w fun e w' => e = .returned (.int .i64 left) ∧ w' = w := by
  obtain ⟨_, c1, hp⟩ := tr_n h
  clear h
  go_enter Try.func11, Try.ntmps11
  go_wp2_with fail
  go_ret
  exact ⟨rfl, rfl⟩
theorem lo_left_nil (w : World) : Calls Try.prog 11 #[.pointer none] w fun e w' => e = .returned (.int .i64 0) ∧ Gr w w' := by
  go_enter Try.func11, Try.ntmps11
  go_wp2_with fail
  go_ret
  exact ⟨rfl, Gr.refl _⟩
theorem least_c {p n : Nat} {g : Nat → Option Hd} {left : Int} {f : Nat → Int} {win : Int} {w : World} {B : Nat → Prop} (h : TrA p n g left f win w B) (hl : left ≠ 0) :
    Calls Try.prog 9 #[.pointer (some ⟨p, 0, none⟩)] w fun e w' => e = .returned (.tuple #[.int .i64 win, .bool true]) ∧ w' = w := by
  obtain ⟨c2, _⟩ := tr_win h 0
  have C := Lib.hid (left_c h)
  have t : (left == 0) = false := by simp [hl]
  clear h
  go_enter Try.func9, Try.ntmps9
  go_wp2_with fail
  refine C.out.mono ?_; rintro e u ⟨rfl, rfl⟩
  go_wp2_with fail
  go_ret2
  exact ⟨rfl, rfl⟩
theorem least_no {v : Value} {w : World} (C : Calls Try.prog 11 #[v] w fun e w' => e = .returned (.int .i64 0) ∧ Gr w w') :
    Calls Try.prog 9 #[v] w fun e w' => e = .returned (.tuple #[.int .i64 0, .bool false]) ∧ Gr w w' := by
  have H := Lib.hid C
  clear C
  go_enter Try.func9, Try.ntmps9
  go_wp2_with fail
  refine H.out.mono ?_; rintro e u ⟨rfl, g⟩
  go_wp2_with fail
  go_ret2
  exact ⟨rfl, g⟩
theorem lo_least_nil (w : World) : Calls Try.prog 9 #[.pointer none] w fun e w' => e = .returned (.tuple #[.int .i64 0, .bool false]) ∧ Gr w w' := least_no (lo_left_nil w)
theorem head_no {v : Value} {w : World} (C : Calls Try.prog 9 #[v] w fun e w' => e = .returned (.tuple #[.int .i64 0, .bool false]) ∧ Gr w w') :
    Calls Try.prog 13 #[v] w fun e w' => e = .returned (.string ⟨#[]⟩) ∧ Gr w w' := by
  have H := Lib.hid C
  clear C
  go_enter Try.func13, Try.ntmps13
  go_wp2_with fail
  refine H.out.mono ?_; rintro e u ⟨rfl, g⟩
  go_wp2_with fail
  go_ret
  exact ⟨rfl, g⟩
theorem next_no {v : Value} {s : ByteArray} {o : Bool} {w : World} (C : Calls Try.prog 9 #[v] w fun e w' => e = .returned (.tuple #[.int .i64 0, .bool false]) ∧ Gr w w') :
    Calls Try.prog 14 #[v, .string s, .bool o] w fun e w' => e = .returned (.tuple #[]) ∧ Gr w w' := by
  have H := Lib.hid C
  clear C
  go_enter Try.func14, Try.ntmps14
  go_wp2_with fail
  refine H.out.mono ?_; rintro e u ⟨rfl, g⟩
  go_wp2_with fail
  exact bodyPost_ret (results_none rfl _ _ _) rfl ⟨rfl, g⟩
theorem lo_head_nil (w : World) : Calls Try.prog 13 #[.pointer none] w fun e w' => e = .returned (.string ⟨#[]⟩) ∧ Gr w w' := head_no (lo_least_nil w)
theorem lo_next_nil (s : ByteArray) (o : Bool) (w : World) : Calls Try.prog 14 #[.pointer none, .string s, .bool o] w fun e w' => e = .returned (.tuple #[]) ∧ Gr w w' := next_no (lo_least_nil w)
theorem lo_least_zero {p : Nat} {w : World} (h : w.heap[p]? = some (.cells loZ 51 (0, 0))) : Calls Try.prog 9 #[.pointer (some ⟨p, 0, none⟩)] w fun e w' => e = .returned (.tuple #[.int .i64 0, .bool false]) ∧ Gr w w' := by
  refine least_no ?_
  have hp := lt_of_block h
  have c1 : w.cell? ⟨p, 1, none⟩ = some (.int .i64 0) := by rw [cells_at h, loZ_at (by omega)]; rfl
  clear h
  go_enter Try.func11, Try.ntmps11
  go_wp2_with fail
  go_ret
  exact ⟨rfl, Gr.refl _⟩
theorem does_of {p : Nat} {l : List Hd} {w : World} {B : Nat → Prop} (h : LoA p l w B) {f : FuncId} {args : Array Value} {v : Value} (C : Calls Try.prog f args w fun e w' => e = .returned v ∧ Gr w w') : Calls Try.prog f args w (Does w B (LoA p l) v) := by
  refine C.mono ?_
  rintro e u ⟨he, g⟩
  exact ⟨he, B, (fr_lo p l).fr h (Only.ofGr (B := fun _ => False) g) (fun _ _ e => e), Nx.gr g⟩
theorem left_gr {p n : Nat} {g : Nat → Option Hd} {f : Nat → Int} {win : Int} {w : World} {B : Nat → Prop} (h : TrA p n g 0 f win w B) :
    Calls Try.prog 11 #[.pointer (some ⟨p, 0, none⟩)] w fun e w' => e = .returned (.int .i64 0) ∧ Gr w w' :=
  (left_c h).mono fun e u k => ⟨k.1, by rw [k.2]; exact Gr.refl _⟩
theorem lo_least_c {p : Nat} {l : List Hd} (hl : l.length ≤ 64) {w : World} {B : Nat → Prop} (h : LoA p l w B) :
    Calls Try.prog 9 #[.pointer (some ⟨p, 0, none⟩)] w (Does w B (LoA p l) (.tuple #[.int .i64 (leastI l), .bool (leastB l)])) := by
  have h0 := h
  obtain ⟨_, f, win, ht, hf, hw⟩ := h
  by_cases hz : leftN l = 0
  · obtain ⟨a, b⟩ := left_zero hz
    rw [a, b]
    rw [hz] at ht
    exact does_of h0 (least_no (left_gr ht))
  · obtain ⟨a, b, c⟩ := win_least hz
    have hI : leastI l = win := by unfold leastI; rw [hw (by omega), a]; omega
    rw [hI, b]
    exact does_of h0 ((least_c ht (by omega)).mono fun e u k => ⟨k.1, by rw [k.2]; exact Gr.refl _⟩)
theorem lo_left_c {p : Nat} {l : List Hd} (hl : l.length ≤ 64) {w : World} {B : Nat → Prop} (h : LoA p l w B) :
    Calls Try.prog 11 #[.pointer (some ⟨p, 0, none⟩)] w (Does w B (LoA p l) (.int .i64 ((leftN l : Nat) : Int))) := by
  have h0 := h
  obtain ⟨_, f, win, ht, hf, hw⟩ := h
  exact does_of h0 ((left_c ht).mono fun e u k => ⟨k.1, by rw [k.2]; exact Gr.refl _⟩)
theorem lo_head_c {p : Nat} {l : List Hd} (hl : l.length ≤ 64) {w : World} {B : Nat → Prop} (h : LoA p l w B) :
    Calls Try.prog 13 #[.pointer (some ⟨p, 0, none⟩)] w (Does w B (LoA p l) (.string (headS l))) := by
  have h0 := h
  obtain ⟨_, f, win, ht, hf, hw⟩ := h
  by_cases hz : leftN l = 0
  · obtain ⟨a, b⟩ := left_zero hz
    have hh : headS l = ⟨#[]⟩ := by unfold headS; rw [if_neg (by rw [a]; simp)]
    rw [hh]
    rw [hz] at ht
    exact does_of h0 (head_no (least_no (left_gr ht)))
  · obtain ⟨a, b, c⟩ := win_least hz
    obtain ⟨i, hi⟩ : ∃ i, winA l.length (ahd l) 1 = i := ⟨_, rfl⟩
    rw [hw (by omega), hi] at ht
    rw [hi] at a c
    have hon := least_on b
    have hx : l[i]? = some l[i] := List.getElem?_eq_getElem c
    have hh : headS l = keptS l[i] := by
      unfold headS keptS
      rw [a, Int.toNat_natCast, oAt_at hx] at hon
      rw [if_pos b, if_neg (by rw [hon]; simp), a, Int.toNat_natCast, sAt_at hx]
    have hi64 : i < 64 := by omega
    have hiI : (i : Int) < 64 := by omega
    have C := Lib.hid (least_c ht (by omega))
    have c1 : w.cell? ⟨p, 2 + i * 2, none⟩ = some (.string (headS l)) := by
      obtain ⟨cs, ⟨hb, hB⟩, htc⟩ := ht
      rw [cells_at hb, hh]
      exact (htc.src i _ hi64 hx).1
    have D := Lib.hid h0
    generalize headS l = s at c1 ⊢
    clear hh hx hon a b c hi hw hf ht hz h0
    go_enter Try.func13, Try.ntmps13
    go_wp2_with fail
    refine C.out.mono ?_; rintro e u ⟨rfl, rfl⟩
    go_wp2_with fail
    go_ret
    exact ⟨rfl, B, D.out, Nx.refl _ _⟩
theorem set_get {l : List Hd} {i : Nat} (hi : i < l.length) (x : Hd) : setA (fun j => l[j]?) i x = fun j => (l.set i x)[j]? := by
  funext j
  unfold setA
  by_cases e : j = i
  · subst e; rw [if_pos rfl, List.getElem?_set_self hi]
  · rw [if_neg e, List.getElem?_set_ne (fun e2 => e e2.symm)]
theorem leftN_set : ∀ (l : List Hd) (i : Nat) (s : ByteArray) (o : Bool), oAt l i = false → leftN (l.set i ⟨s, o⟩) + (if o = true then 1 else 0) = leftN l
  | [], i, s, o, h => by simp [oAt] at h
  | x :: l, 0, s, o, h => by
    have hx : x.o = false := by simpa [oAt] using h
    unfold leftN
    rw [List.set_cons_zero, List.countP_cons, List.countP_cons, hx]
    cases o <;> simp
  | x :: l, i + 1, s, o, h => by
    have ih := leftN_set l i s o (by simpa [oAt] using h)
    unfold leftN at ih ⊢
    rw [List.set_cons_succ, List.countP_cons, List.countP_cons]
    omega
set_option maxHeartbeats 1000000 in
theorem lo_next_c {p : Nat} {l : List Hd} (hl : l.length ≤ 64) (s : ByteArray) (o : Bool) (hs : s.size ≤ 1000) {w : World} {B : Nat → Prop} (h : LoA p l w B) :
    Calls Try.prog 14 #[.pointer (some ⟨p, 0, none⟩), .string s, .bool o] w (Does w B (LoA p (nextL l s o)) (.tuple #[])) := by
  have h0 := h
  obtain ⟨_, f, win, ht, hf, hw⟩ := h
  by_cases hz : leftN l = 0
  · obtain ⟨a, b⟩ := left_zero hz
    have hh : nextL l s o = l := by unfold nextL; rw [if_neg (by rw [a]; simp)]
    rw [hh]
    rw [hz] at ht
    exact does_of h0 (next_no (least_no (left_gr ht)))
  · obtain ⟨a, b, c⟩ := win_least hz
    obtain ⟨i, hi⟩ : ∃ i, winA l.length (ahd l) 1 = i := ⟨_, rfl⟩
    rw [hw (by omega), hi] at ht
    rw [hi] at a c
    have hon := least_on b
    rw [a, Int.toNat_natCast] at hon
    have hh : nextL l s o = l.set i ⟨s, o⟩ := by unfold nextL; rw [if_pos b, a, Int.toNat_natCast]
    obtain ⟨l', hl'⟩ : ∃ l', l.set i ⟨s, o⟩ = l' := ⟨_, rfl⟩
    have hlen : l'.length = l.length := by rw [← hl']; simp
    have hleft := leftN_set l i s o hon
    rw [hl'] at hleft
    rw [hh, hl']
    have hle := leftN_le l
    obtain ⟨n, hn⟩ : ∃ n, l.length = n := ⟨_, rfl⟩
    rw [hn] at ht hf hi c hlen hl hle
    have hsg := set_get (by rw [hn]; exact c) (⟨s, o⟩ : Hd) (l := l)
    rw [hl'] at hsg
    have C := Lib.hid (least_c ht (by omega))
    have S : Calls Try.prog 17 #[.pointer (some ⟨p, 0, none⟩), .int .i64 i, .string s, .bool o] w (Does w B (TrA p n (fun j => l'[j]?) ((leftN l' : Nat) : Int) f (i : Int)) (.tuple #[])) := by
      rw [← hsg]
      cases o
      · have e : ((leftN l' : Nat) : Int) = ((leftN l : Nat) : Int) := by rw [if_neg (by simp)] at hleft; omega
        rw [e]
        exact set_head_c ht (by omega) s hs
      · have e : ((leftN l' : Nat) : Int) = ((leftN l : Nat) : Int) - 1 := by rw [if_pos rfl] at hleft; omega
        rw [e]
        exact set_over_c ht (by omega) (by omega) s
    have HS := Lib.hid S
    have N := next_step (ord_ahd n l) (ord_ahd n l') c hi (fun x y hx hy => by rw [← hl']; exact (ahd_set _ hx hy).symm) hf (i : Int)
    have hr : Rng15 n f := by
      intro q h1 h2
      rw [hf q h1 h2]
      have a1 := win_lt (lt := ahd l) (n := n) (c := 2 * q) (by omega) (by omega)
      have a2 := win_lt (lt := ahd l) (n := n) (c := 2 * q + 1) (by omega) (by omega)
      unfold losA
      split <;> omega
    have P := Lib.hid (fun (u : World) (B1 : Nat → Prop) (k : TrA p n (fun j => l'[j]?) ((leftN l' : Nat) : Int) f (i : Int) u B1) => play_c k hlen hl hr c)
    have E := Lib.hid (fun (u : World) (B1 : Nat → Prop) (k : TrA p n (fun j => l'[j]?) ((leftN l' : Nat) : Int) (playN (ahd l') f (i : Int) i ((n + i) / 2)).1 (playN (ahd l') f (i : Int) i ((n + i) / 2)).2 u B1) => lo_of hlen hl k N.1 (fun _ => N.2))
    clear N hr S hsg hle hleft hlen hl' hh hon a b hi hw hf ht hz h0 hn
    go_enter Try.func14, Try.ntmps14
    go_wp2_with fail
    refine C.out.mono ?_; rintro e u ⟨rfl, rfl⟩
    go_wp2_with fail
    refine HS.out.mono ?_; rintro e u1 ⟨rfl, B1, k1, n1⟩
    have K1 := Lib.hid k1
    have N1 := Lib.hid n1
    clear k1 n1
    go_wp2_with fail
    refine (P.out _ _ K1.out).mono ?_; rintro e u2 ⟨rfl, B2, k2, n2⟩
    have K2 := Lib.hid k2
    have N2 := Lib.hid n2
    clear k2 n2
    go_wp2_with fail
    refine bodyPost_end (results_none rfl _ _ _) rfl ⟨rfl, B2, E.out _ _ K2.out, N1.out.trans N2.out⟩
/-- A new one. -/
structure LoMade (l : List Hd) (w : World) (e : Ending) (w' : World) : Prop where
  made : ∃ p B, e = .returned (.pointer (some ⟨p, 0, none⟩)) ∧ LoA p l w' B ∧ ∀ b, B b → w.heap.size ≤ b
  gr : Gr w w'
theorem lo_new_no {w : World} {v1 v2 : Value} {hs : List ByteArray} {os : List Bool} (h1 : Lies w v1 hs) (h2 : LiesV w v2 (bools os)) (hn : 64 < hs.length) (hm : hs.length ≤ 1000000) :
    Calls Try.prog 7 #[v1, v2] w fun e w' => e = .returned (.pointer none) ∧ Gr w w' := by
  obtain ⟨a1, c1, rfl, hc1, _⟩ := h1
  obtain ⟨a2, c2, rfl, hc2, _⟩ := h2
  obtain ⟨n, hnn⟩ : ∃ n, hs.length = n := ⟨_, rfl⟩
  obtain ⟨m, hmm⟩ : ∃ m, (bools os).length = m := ⟨_, rfl⟩
  rw [hnn] at hn hm hc1 ⊢
  rw [hmm]
  have t : decide ((64 : Int) < (n : Int)) = true := by simp; omega
  clear hnn hmm hc1 hc2
  go_enter Try.func7, Try.ntmps7
  go_wp2_with fail
  go_ret
  exact ⟨rfl, Gr.refl _⟩
end Go.Proofs.Ytifpiekajbcoiaa

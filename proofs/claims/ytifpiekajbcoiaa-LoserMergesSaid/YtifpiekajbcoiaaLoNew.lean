/- The program's tree: New. -/
import Derived.Test.YtifpiekajbcoiaaLo
namespace Go.Proofs.Ytifpiekajbcoiaa
open Go.RowKit LoPlain
set_option linter.unusedVariables false
set_option linter.unusedSimpArgs false
set_option maxRecDepth 20000
def ovN (l : List Hd) : Nat := l.countP (fun x => x.o)
theorem ov_left : ∀ l : List Hd, leftN l + ovN l = l.length
  | [] => rfl
  | x :: l => by
    have ih := ov_left l
    unfold leftN ovN at ih ⊢
    rw [List.countP_cons, List.countP_cons, List.length_cons]
    cases x.o <;> simp <;> omega
theorem ov_snoc (l : List Hd) (x : Hd) : ovN (l ++ [x]) = ovN l + (if x.o = true then 1 else 0) := by
  unfold ovN
  rw [List.countP_append]
  cases h : x.o <;> simp [h]
theorem ov_le (l : List Hd) : ovN l ≤ l.length := List.countP_le_length
theorem take_get {l : List Hd} {j : Nat} {x : Hd} (h : l[j]? = some x) : setA (fun i => (l.take j)[i]?) j x = fun i => (l.take (j + 1))[i]? := by
  have hj : j < l.length := by
    rcases Nat.lt_or_ge j l.length with h1 | h1
    · exact h1
    · rw [List.getElem?_eq_none h1] at h; cases h
  funext i
  unfold setA
  by_cases e : i = j
  · subst e; rw [if_pos rfl, List.getElem?_take, if_pos (by omega), h]
  · rw [if_neg e]
    show (l.take j)[i]? = (l.take (j + 1))[i]?
    rw [List.getElem?_take, List.getElem?_take]
    by_cases h1 : i < j
    · rw [if_pos h1, if_pos (by omega)]
    · rw [if_neg h1, if_neg (by omega)]
def fMk (j : Nat) : Nat → Int := fun q => if q < j then -1 else 0
theorem fMk_upd (j : Nat) : updA (fMk j) j (-1) = fMk (j + 1) := by
  funext q
  unfold updA fMk
  by_cases e : q = j
  · rw [if_pos e, if_pos (by omega)]
  · rw [if_neg e]
    by_cases h : q < j
    · rw [if_pos h, if_pos (by omega)]
    · rw [if_neg h, if_neg (by omega)]
/-- The loops of New. -/
def NwA (p n : Nat) (w : World) (i : Value) (wr : World) : Prop := ∃ (j : Nat) (B : Nat → Prop), j ≤ 64 ∧ i = .int .i64 (j : Int) ∧ TrA p n (fun _ => none) (n : Int) (fMk j) 0 wr B ∧ Nx (fun _ => False) w B wr
def NwB (p n : Nat) (l : List Hd) (w : World) (i : Value) (wr : World) : Prop := ∃ (j : Nat) (B : Nat → Prop), j ≤ n ∧ i = .int .i64 (j : Int) ∧ TrA p n (fun k => (l.take j)[k]?) ((n : Int) - ((ovN (l.take j) : Nat) : Int)) (fMk 64) 0 wr B ∧ Nx (fun _ => False) w B wr
def NwC (p n : Nat) (l : List Hd) (w : World) (i : Value) (wr : World) : Prop := ∃ (j : Nat) (B : Nat → Prop) (f : Nat → Int) (win : Int), j ≤ n ∧ i = .int .i64 (j : Int) ∧ TrA p n (fun k => l[k]?) ((leftN l : Nat) : Int) f win wr B ∧ Nx (fun _ => False) w B wr ∧ Mad15 n (ahd l) j f ∧ (j = n → 1 ≤ n → win = (winA n (ahd l) 1 : Int))
theorem tr_zero {n : Nat} {w : World} : TrA w.heap.size n (fun _ => none) (n : Int) (fMk 0) 0 (w.alloc (.cells ((loZ.setIfInBounds 0 (.int .i64 (n : Int))).setIfInBounds 1 (.int .i64 (n : Int))) 51)) (fun b => b = w.heap.size) := by
  refine ⟨_, ⟨heap_alloc_new w _, fun b => Iff.rfl⟩, ?_⟩
  have hs := loZ_size
  have k : ∀ j, ((loZ.setIfInBounds 0 (.int .i64 (n : Int))).setIfInBounds 1 (.int .i64 (n : Int)))[j]? = if 1 = j then some (.int .i64 (n : Int)) else if 0 = j then some (.int .i64 (n : Int)) else loZ[j]? := fun j => by
    rw [sib_get _ _ _ _ (by simp [hs]), sib_get _ _ _ _ (by omega)]
  refine ⟨by simp [hs], by rw [k]; rfl, by rw [k]; rfl, (fun i x _ h => by cases h), fun q hq => ?_, ?_⟩
  · rw [k, if_neg (by omega), if_neg (by omega), loZ_at (by omega)]
    unfold zv15 fMk
    rw [if_neg (by omega), if_neg (by omega), if_neg (by omega)]
  · rw [k, if_neg (by omega), if_neg (by omega), loZ_at (by omega)]
    rfl
set_option maxHeartbeats 4000000 in
theorem lo_new_c {w : World} {v1 v2 : Value} {hs : List ByteArray} {os : List Bool} (h1 : Lies w v1 hs) (h2 : LiesV w v2 (bools os)) (hn : hs.length ≤ 64) (ho : os.length ≤ 1000000) (hz : ∀ s ∈ hs, s.size ≤ 1000) :
    Calls Try.prog 7 #[v1, v2] w (LoMade (mkL hs os) w) := by
  obtain ⟨n, hnn⟩ : ∃ n, hs.length = n := ⟨_, rfl⟩
  obtain ⟨m, hmm⟩ : ∃ m, os.length = m := ⟨_, rfl⟩
  have hln : (mkL hs os).length = n := by rw [mkL_length, hnn]
  obtain ⟨ha, hc, rfl, hcap, hh⟩ := h1
  obtain ⟨oa, oc, rfl, ocap, oh⟩ := h2
  have hbl : (bools os).length = m := by simpa [bools] using hmm
  rw [hbl]
  rw [hnn] at hn ⊢
  rw [hmm] at ho
  have HH : 1 ≤ n → ∃ b off, ha = some ⟨b, off, none⟩ ∧ SRow w b off hs := fun k => hh.elim (fun e => by rw [e] at hnn; simp at hnn; omega) id
  have OH : 1 ≤ m → ∃ b off, oa = some ⟨b, off, none⟩ ∧ VRow w b off (bools os) := fun k => oh.elim (fun e => by rw [e] at hbl; simp at hbl; omega) id
  obtain ⟨l, hl⟩ : ∃ l, mkL hs os = l := ⟨_, rfl⟩
  rw [hl] at hln ⊢
  have HMK := Lib.hid (fun j s (h : hs[j]? = some s) => (show l[j]? = some (Hd.mk s ((os[j]?).getD false)) by rw [← hl]; exact mkL_at hs os j s h))
  have H1 := Lib.hid HH
  have H2 := Lib.hid OH
  have HL := Lib.hid hln
  have HN := Lib.hid hnn
  have HM := Lib.hid hmm
  have HZ := Lib.hid hz
  have hnI : (n : Int) ≤ 64 := by omega
  have t64 : decide ((64 : Int) < (n : Int)) = false := by simp; omega
  have z51 := zero_tr
  have TZ := Lib.hid (tr_zero (n := n) (w := w))
  obtain ⟨p, hp⟩ : ∃ p, w.heap.size = p := ⟨_, rfl⟩
  rw [hp] at TZ
  clear HH OH hh oh hln hnn hmm hbl hcap ocap hl hz
  go_enter Try.func7, Try.ntmps7
  go_wp2_with fail
  try rw [hp]
  generalize hcs : (loZ.setIfInBounds 0 (Value.int IntKind.i64 (n : Int))).setIfInBounds 1 (Value.int IntKind.i64 (n : Int)) = cz at *
  have G0 := Lib.hid (show Gr w (w.alloc (.cells cz 51)) from Gr.of (Below.alloc (Below.refl _ _) (Nat.le_refl _) _))
  clear z51 hcs
  go_loopw [19] (fun i wr => NwA p n w i wr) (fun i _ => 64 - (intOf i).toNat)
  case atStart =>
    exact ⟨0, fun b => b = p, Nat.zero_le _, rfl, TZ.out, Only.ofGr G0.out, fun b hb => .inr (by omega)⟩
  case round =>
    obtain ⟨j, B, hj, rfl, hT, nx⟩ := hrel
    by_cases hlt : j < 64
    · have hltI : (j : Int) < 64 := by omega
      obtain ⟨d1, d2, hT2, hN2⟩ := tr_put hT hlt (-1)
      rw [fMk_upd] at hT2
      have K := Lib.hid hT2
      have N := Lib.hid (nx.trans hN2)
      clear hT2 hN2 hT nx
      go_wp2_with fail
      refine ⟨⟨j + 1, B, by omega, rfl, K.out, N.out⟩, ?_⟩
      simp [intOf]; omega
    · have e64 : j = 64 := by omega
      have hge : ¬ (j : Int) < 64 := by omega
      rw [e64] at hT
      have K := Lib.hid hT
      have N := Lib.hid nx
      clear hT nx e64 hj
      go_wp2_with fail
      have KB := Lib.hid (show NwB p n l w (.int .i64 0) wr from ⟨0, B, Nat.zero_le _, rfl, by
        have h0 : (fun k => (l.take 0)[k]?) = (fun _ => none : Nat → Option Hd) := by funext k; simp
        rw [h0]
        have h1 : (n : Int) - ((ovN (l.take 0) : Nat) : Int) = (n : Int) := by simp [ovN]
        rw [h1]; exact K.out, N.out⟩)
      clear hge hlt
      go_loopw [30] (fun i wr => NwB p n l w i wr) (fun i _ => n - (intOf i).toNat)
      case atStart => exact KB.out
      case round =>
        obtain ⟨j, B, hj, rfl, hT, nx⟩ := hrel
        have hjn := HN.out
        by_cases hlt : j < n
        · have hltI : (j : Int) < (n : Int) := by omega
          obtain ⟨s, hs'⟩ : ∃ s, hs[j]? = some s := ⟨hs[j]'(by omega), List.getElem?_eq_getElem _⟩
          have hzs := HZ.out s (List.mem_of_getElem? hs')
          have hx := HMK.out j s hs'
          obtain ⟨hb, off, rfl, hrow⟩ := H1.out (by omega)
          have cs : wr.cell? ⟨hb, off + j, none⟩ = some (.string s) := by rw [nx.only.cell (p := ⟨hb, off + j, none⟩) hrow.1 (fun h => h)]; exact hrow.2 j s hs'
          have hov := ov_le (l.take j)
          have htk : (l.take j).length ≤ j := by rw [List.length_take]; omega
          have hstep : l.take (j + 1) = l.take j ++ [⟨s, (os[j]?).getD false⟩] := by rw [List.take_add_one, hx]; rfl
          have hov1 := ov_snoc (l.take j) ⟨s, (os[j]?).getD false⟩
          rw [← hstep] at hov1
          have S : ∀ o, (os[j]?).getD false = o → Calls Try.prog 17 #[.pointer (some ⟨p, 0, none⟩), .int .i64 j, .string s, .bool o] wr (Does wr B (TrA p n (fun k => (l.take (j + 1))[k]?) ((n : Int) - ((ovN (l.take (j + 1)) : Nat) : Int)) (fMk 64) 0) (.tuple #[])) := by
            intro o ho
            rw [ho] at hx hov1
            have hg := take_get hx
            rw [← hg, hov1]
            cases o
            · rw [if_neg (by simp), Nat.add_zero]
              exact set_head_c hT (by omega) s hzs
            · rw [if_pos rfl]
              have := set_over_c hT (by omega) (i := j) (by omega) s
              rwa [show (n : Int) - ((ovN (l.take j) : Nat) : Int) - 1 = (n : Int) - ((ovN (l.take j) + 1 : Nat) : Int) by omega] at this
          have HS := Lib.hid S
          have NX := Lib.hid nx
          clear S hT nx hov1 hov hstep htk hx hs' hrow hzs hjn K N KB
          by_cases hm : j < m
          · obtain ⟨o, ho'⟩ : ∃ o, os[j]? = some o := ⟨os[j]'(by have := HM.out; omega), List.getElem?_eq_getElem _⟩
            obtain ⟨ob, oo, rfl, orow⟩ := H2.out (by omega)
            have co : wr.cell? ⟨ob, oo + j, none⟩ = some (.bool o) := by rw [NX.out.only.cell (p := ⟨ob, oo + j, none⟩) orow.1 (fun h => h)]; exact orow.2 j (.bool o) (by simp [bools, ho'])
            have C := Lib.hid (HS.out o (by rw [ho']; rfl))
            have hmI : decide ((j : Int) < (m : Int)) = true := by simp; omega
            have hmI2 : (j : Int) < (m : Int) := by omega
            clear ho' orow
            go_wp2_with fail
            refine (C.out).mono ?_; rintro e u ⟨rfl, B1, k1, n1⟩
            have K1 := Lib.hid k1
            have N1 := Lib.hid (NX.out.trans n1)
            clear k1 n1
            go_wp2_with fail
            refine ⟨⟨j + 1, B1, by omega, rfl, K1.out, N1.out⟩, ?_⟩
            simp [intOf]; omega
          · have C := Lib.hid (HS.out false (by rw [List.getElem?_eq_none (by have := HM.out; omega)]; rfl))
            have hmI : decide ((j : Int) < (m : Int)) = false := by simp; omega
            have hmI2 : ¬ (j : Int) < (m : Int) := by omega
            go_wp2_with fail
            refine (C.out).mono ?_; rintro e u ⟨rfl, B1, k1, n1⟩
            have K1 := Lib.hid k1
            have N1 := Lib.hid (NX.out.trans n1)
            clear k1 n1
            go_wp2_with fail
            refine ⟨⟨j + 1, B1, by omega, rfl, K1.out, N1.out⟩, ?_⟩
            simp [intOf]; omega
        · obtain rfl : j = n := by omega
          have ht : l.take j = l := List.take_of_length_le (by rw [HL.out]; omega)
          rw [ht] at hT
          have hov := ov_left l
          have e : (j : Int) - ((ovN l : Nat) : Int) = ((leftN l : Nat) : Int) := by rw [HL.out] at hov; omega
          rw [e] at hT
          have KC := Lib.hid (show NwC p j l w (.int .i64 0) wr from ⟨0, B, fMk 64, 0, Nat.zero_le _, rfl, hT, nx, by
            intro q h1 h2
            have := mad_zero j (ahd l) q h1 h2
            rw [← this]
            unfold fMk
            rw [if_pos (by omega)], fun h h1 => by omega⟩)
          clear hT nx ht hov e K N KB hjn
          go_wp2_with fail
          go_loopw [52] (fun i wr => NwC p j l w i wr) (fun i _ => j - (intOf i).toNat)
          case atStart => exact KC.out
          case round =>
            obtain ⟨k, B, f, win, hk, rfl, hT, nx, hM, hw⟩ := hrel
            by_cases hlt : k < j
            · have M := mad_step (ord_ahd j l) hlt hM win
              have P := Lib.hid (play_c hT HL.out hn (mad_range hM) hlt)
              have HM2 := Lib.hid M
              have NX := Lib.hid nx
              clear M hT nx hM hw KC
              go_wp2_with fail
              refine (P.out).mono ?_; rintro e u ⟨rfl, B1, k1, n1⟩
              have K1 := Lib.hid k1
              have N1 := Lib.hid (NX.out.trans n1)
              clear k1 n1
              go_wp2_with fail
              refine ⟨⟨k + 1, B1, _, _, by omega, rfl, K1.out, N1.out, HM2.out.1, fun h _ => HM2.out.2 h⟩, ?_⟩
              simp [intOf]; omega
            · obtain rfl : k = j := by omega
              have E := Lib.hid (show LoA p l wr B from lo_of HL.out hn hT (mad_end hM) (hw rfl))
              have NX := Lib.hid nx
              clear hT nx hM hw KC
              go_wp2_with fail
              go_ret
              exact ⟨⟨p, B, rfl, E.out, fun b hb => by have := NX.out.new b hb; simpa using this⟩, nx_gr NX.out⟩
end Go.Proofs.Ytifpiekajbcoiaa

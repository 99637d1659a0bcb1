/- In one text: LoNew, MgParts, MgWay. -/
import Derived.Test.YtjplkmmhjfpdaaaGreatDoorF35
import Derived.Test.YtjplkmmhjfpdaaaGreatDoorF32
import Derived.Test.YtjplkmmhjfpdaaaGreatDoorF26
import Derived.Laws.MakeOwn
import Derived.Test.YtjplkmmhjfpdaaaGreatDoorF27
/- The program's tree: New. -/
namespace Go.Proofs.YtjplkmmhjfpdaaaGreatDoor
open Go.RowKit LoPlain
set_option linter.unusedVariables false
set_option linter.unusedSimpArgs false
set_option maxRecDepth 20000
def ovN (l : List Hd) : Nat := l.countP (fun x => x.o)
theorem ov_left : ∀ l : List Hd, leftN l + ovN l = l.length
  | [] => rfl
  | x :: l => by
    have ih := ov_left l
    unfold leftN ovN at ih ⊢
    rw [List.countP_cons, List.countP_cons, List.length_cons]
    cases x.o <;> simp <;> omega
theorem ov_snoc (l : List Hd) (x : Hd) : ovN (l ++ [x]) = ovN l + (if x.o = true then 1 else 0) := by
  unfold ovN
  rw [List.countP_append]
  cases h : x.o <;> simp [h]
theorem ov_le (l : List Hd) : ovN l ≤ l.length := List.countP_le_length
theorem take_get {l : List Hd} {j : Nat} {x : Hd} (h : l[j]? = some x) : setA (fun i => (l.take j)[i]?) j x = fun i => (l.take (j + 1))[i]? := by
  have hj : j < l.length := by
    rcases Nat.lt_or_ge j l.length with h1 | h1
    · exact h1
    · rw [List.getElem?_eq_none h1] at h; cases h
  funext i
  unfold setA
  by_cases e : i = j
  · subst e; rw [if_pos rfl, List.getElem?_take, if_pos (by omega), h]
  · rw [if_neg e]
    show (l.take j)[i]? = (l.take (j + 1))[i]?
    rw [List.getElem?_take, List.getElem?_take]
    by_cases h1 : i < j
    · rw [if_pos h1, if_pos (by omega)]
    · rw [if_neg h1, if_neg (by omega)]
def fMk (j : Nat) : Nat → Int := fun q => if q < j then -1 else 0
theorem fMk_upd (j : Nat) : updA (fMk j) j (-1) = fMk (j + 1) := by
  funext q
  unfold updA fMk
  by_cases e : q = j
  · rw [if_pos e, if_pos (by omega)]
  · rw [if_neg e]
    by_cases h : q < j
    · rw [if_pos h, if_pos (by omega)]
    · rw [if_neg h, if_neg (by omega)]
def NwA (p n : Nat) (w : World) (i : Value) (wr : World) : Prop := ∃ (j : Nat) (B : Nat → Prop), j ≤ 64 ∧ i = .int .i64 (j : Int) ∧ TrA p n (fun _ => none) (n : Int) (fMk j) 0 wr B ∧ Nx (fun _ => False) w B wr
def NwB (p n : Nat) (l : List Hd) (w : World) (i : Value) (wr : World) : Prop := ∃ (j : Nat) (B : Nat → Prop), j ≤ n ∧ i = .int .i64 (j : Int) ∧ TrA p n (fun k => (l.take j)[k]?) ((n : Int) - ((ovN (l.take j) : Nat) : Int)) (fMk 64) 0 wr B ∧ Nx (fun _ => False) w B wr
def NwC (p n : Nat) (l : List Hd) (w : World) (i : Value) (wr : World) : Prop := ∃ (j : Nat) (B : Nat → Prop) (f : Nat → Int) (win : Int), j ≤ n ∧ i = .int .i64 (j : Int) ∧ TrA p n (fun k => l[k]?) ((leftN l : Nat) : Int) f win wr B ∧ Nx (fun _ => False) w B wr ∧ Mad15 n (ahd l) j f ∧ (j = n → 1 ≤ n → win = (winA n (ahd l) 1 : Int))
theorem tr_zero {n : Nat} {w : World} : TrA w.heap.size n (fun _ => none) (n : Int) (fMk 0) 0 (w.alloc (.cells ((loZ.setIfInBounds 0 (.int .i64 (n : Int))).setIfInBounds 1 (.int .i64 (n : Int))) 209)) (fun b => b = w.heap.size) := by
  refine ⟨_, ⟨heap_alloc_new w _, fun b => Iff.rfl⟩, ?_⟩
  have hs := loZ_size
  have k : ∀ j, ((loZ.setIfInBounds 0 (.int .i64 (n : Int))).setIfInBounds 1 (.int .i64 (n : Int)))[j]? = if 1 = j then some (.int .i64 (n : Int)) else if 0 = j then some (.int .i64 (n : Int)) else loZ[j]? := fun j => by
    rw [sib_get _ _ _ _ (by simp [hs]), sib_get _ _ _ _ (by omega)]
  refine ⟨by simp [hs], by rw [k]; rfl, by rw [k]; rfl, (fun i x _ h => by cases h), fun q hq => ?_, ?_⟩
  · rw [k, if_neg (by omega), if_neg (by omega), loZ_at (by omega)]
    unfold zv15 fMk
    rw [if_neg (by omega), if_neg (by omega), if_neg (by omega)]
  · rw [k, if_neg (by omega), if_neg (by omega), loZ_at (by omega)]
    rfl
set_option maxHeartbeats 4000000 in
theorem lo_new_c {w : World} {v1 v2 : Value} {hs : List ByteArray} {os : List Bool} (h1 : Lies w v1 hs) (h2 : LiesV w v2 (bools os)) (hn : hs.length ≤ 64) (ho : os.length ≤ 1000000) (hz : ∀ s ∈ hs, s.size ≤ 1000) :
    Calls Tryz.prog 177 #[v1, v2] w (LoMade (mkL hs os) w) := by
  obtain ⟨n, hnn⟩ : ∃ n, hs.length = n := ⟨_, rfl⟩
  obtain ⟨m, hmm⟩ : ∃ m, os.length = m := ⟨_, rfl⟩
  have hln : (mkL hs os).length = n := by rw [mkL_length, hnn]
  obtain ⟨ha, hc, rfl, hcap, hh⟩ := h1
  obtain ⟨oa, oc, rfl, ocap, oh⟩ := h2
  have hbl : (bools os).length = m := by simpa [bools] using hmm
  rw [hbl]
  rw [hnn] at hn ⊢
  rw [hmm] at ho
  have HH : 1 ≤ n → ∃ b off, ha = some ⟨b, off, none⟩ ∧ SRow w b off hs := fun k => hh.elim (fun e => by rw [e] at hnn; simp at hnn; omega) id
  have OH : 1 ≤ m → ∃ b off, oa = some ⟨b, off, none⟩ ∧ VRow w b off (bools os) := fun k => oh.elim (fun e => by rw [e] at hbl; simp at hbl; omega) id
  obtain ⟨l, hl⟩ : ∃ l, mkL hs os = l := ⟨_, rfl⟩
  rw [hl] at hln ⊢
  have HMK := Lib.hid (fun j s (h : hs[j]? = some s) => (show l[j]? = some (Hd.mk s ((os[j]?).getD false)) by rw [← hl]; exact mkL_at hs os j s h))
  have H1 := Lib.hid HH
  have H2 := Lib.hid OH
  have HL := Lib.hid hln
  have HN := Lib.hid hnn
  have HM := Lib.hid hmm
  have HZ := Lib.hid hz
  have hnI : (n : Int) ≤ 64 := by omega
  have t64 : decide ((64 : Int) < (n : Int)) = false := by simp; omega
  have z51 := zero_tr
  have TZ := Lib.hid (tr_zero (n := n) (w := w))
  obtain ⟨p, hp⟩ : ∃ p, w.heap.size = p := ⟨_, rfl⟩
  rw [hp] at TZ
  clear HH OH hh oh hln hnn hmm hbl hcap ocap hl hz
  go_enter Tryz.func177, Tryz.ntmps177
  go_wp2_with fail
  try rw [hp]
  generalize hcs : (loZ.setIfInBounds 0 (Value.int IntKind.i64 (n : Int))).setIfInBounds 1 (Value.int IntKind.i64 (n : Int)) = cz at *
  have G0 := Lib.hid (show Gr w (w.alloc (.cells cz 209)) from Gr.of (Below.alloc (Below.refl _ _) (Nat.le_refl _) _))
  clear z51 hcs
  go_loopw [19] (fun i wr => NwA p n w i wr) (fun i _ => 64 - (intOf i).toNat)
  case atStart =>
    exact ⟨0, fun b => b = p, Nat.zero_le _, rfl, TZ.out, Only.ofGr G0.out, fun b hb => .inr (by omega)⟩
  case round =>
    obtain ⟨j, B, hj, rfl, hT, nx⟩ := hrel
    by_cases hlt : j < 64
    · have hltI : (j : Int) < 64 := by omega
      obtain ⟨d1, d2, hT2, hN2⟩ := tr_put hT hlt (-1)
      rw [fMk_upd] at hT2
      have K := Lib.hid hT2
      have N := Lib.hid (nx.trans hN2)
      clear hT2 hN2 hT nx
      go_wp2_with fail
      refine ⟨⟨j + 1, B, by omega, rfl, K.out, N.out⟩, ?_⟩
      simp [intOf]; omega
    · have e64 : j = 64 := by omega
      have hge : ¬ (j : Int) < 64 := by omega
      rw [e64] at hT
      have K := Lib.hid hT
      have N := Lib.hid nx
      clear hT nx e64 hj
      go_wp2_with fail
      have KB := Lib.hid (show NwB p n l w (.int .i64 0) wr from ⟨0, B, Nat.zero_le _, rfl, by
        have h0 : (fun k => (l.take 0)[k]?) = (fun _ => none : Nat → Option Hd) := by funext k; simp
        rw [h0]
        have h1 : (n : Int) - ((ovN (l.take 0) : Nat) : Int) = (n : Int) := by simp [ovN]
        rw [h1]; exact K.out, N.out⟩)
      clear hge hlt
      go_loopw [30] (fun i wr => NwB p n l w i wr) (fun i _ => n - (intOf i).toNat)
      case atStart => exact KB.out
      case round =>
        obtain ⟨j, B, hj, rfl, hT, nx⟩ := hrel
        have hjn := HN.out
        by_cases hlt : j < n
        · have hltI : (j : Int) < (n : Int) := by omega
          obtain ⟨s, hs'⟩ : ∃ s, hs[j]? = some s := ⟨hs[j]'(by omega), List.getElem?_eq_getElem _⟩
          have hzs := HZ.out s (List.mem_of_getElem? hs')
          have hx := HMK.out j s hs'
          obtain ⟨hb, off, rfl, hrow⟩ := H1.out (by omega)
          have cs : wr.cell? ⟨hb, off + j, none⟩ = some (.string s) := by rw [nx.only.cell (p := ⟨hb, off + j, none⟩) hrow.1 (fun h => h)]; exact hrow.2 j s hs'
          have hov := ov_le (l.take j)
          have htk : (l.take j).length ≤ j := by rw [List.length_take]; omega
          have hstep : l.take (j + 1) = l.take j ++ [⟨s, (os[j]?).getD false⟩] := by rw [List.take_add_one, hx]; rfl
          have hov1 := ov_snoc (l.take j) ⟨s, (os[j]?).getD false⟩
          rw [← hstep] at hov1
          have S : ∀ o, (os[j]?).getD false = o → Calls Tryz.prog 179 #[.pointer (some ⟨p, 0, none⟩), .int .i64 j, .string s, .bool o] wr (Does wr B (TrA p n (fun k => (l.take (j + 1))[k]?) ((n : Int) - ((ovN (l.take (j + 1)) : Nat) : Int)) (fMk 64) 0) (.tuple #[])) := by
            intro o ho
            rw [ho] at hx hov1
            have hg := take_get hx
            rw [← hg, hov1]
            cases o
            · rw [if_neg (by simp), Nat.add_zero]
              exact set_head_c hT (by omega) s hzs
            · rw [if_pos rfl]
              have := set_over_c hT (by omega) (i := j) (by omega) s
              rwa [show (n : Int) - ((ovN (l.take j) : Nat) : Int) - 1 = (n : Int) - ((ovN (l.take j) + 1 : Nat) : Int) by omega] at this
          have HS := Lib.hid S
          have NX := Lib.hid nx
          clear S hT nx hov1 hov hstep htk hx hs' hrow hzs hjn K N KB
          by_cases hm : j < m
          · obtain ⟨o, ho'⟩ : ∃ o, os[j]? = some o := ⟨os[j]'(by have := HM.out; omega), List.getElem?_eq_getElem _⟩
            obtain ⟨ob, oo, rfl, orow⟩ := H2.out (by omega)
            have co : wr.cell? ⟨ob, oo + j, none⟩ = some (.bool o) := by rw [NX.out.only.cell (p := ⟨ob, oo + j, none⟩) orow.1 (fun h => h)]; exact orow.2 j (.bool o) (by simp [bools, ho'])
            have C := Lib.hid (HS.out o (by rw [ho']; rfl))
            have hmI : decide ((j : Int) < (m : Int)) = true := by simp; omega
            have hmI2 : (j : Int) < (m : Int) := by omega
            clear ho' orow
            go_wp2_with fail
            refine (C.out).mono ?_; rintro e u ⟨rfl, B1, k1, n1⟩
            have K1 := Lib.hid k1
            have N1 := Lib.hid (NX.out.trans n1)
            clear k1 n1
            go_wp2_with fail
            refine ⟨⟨j + 1, B1, by omega, rfl, K1.out, N1.out⟩, ?_⟩
            simp [intOf]; omega
          · have C := Lib.hid (HS.out false (by rw [List.getElem?_eq_none (by have := HM.out; omega)]; rfl))
            have hmI : decide ((j : Int) < (m : Int)) = false := by simp; omega
            have hmI2 : ¬ (j : Int) < (m : Int) := by omega
            go_wp2_with fail
            refine (C.out).mono ?_; rintro e u ⟨rfl, B1, k1, n1⟩
            have K1 := Lib.hid k1
            have N1 := Lib.hid (NX.out.trans n1)
            clear k1 n1
            go_wp2_with fail
            refine ⟨⟨j + 1, B1, by omega, rfl, K1.out, N1.out⟩, ?_⟩
            simp [intOf]; omega
        · obtain rfl : j = n := by omega
          have ht : l.take j = l := List.take_of_length_le (by rw [HL.out]; omega)
          rw [ht] at hT
          have hov := ov_left l
          have e : (j : Int) - ((ovN l : Nat) : Int) = ((leftN l : Nat) : Int) := by rw [HL.out] at hov; omega
          rw [e] at hT
          have KC := Lib.hid (show NwC p j l w (.int .i64 0) wr from ⟨0, B, fMk 64, 0, Nat.zero_le _, rfl, hT, nx, by
            intro q h1 h2
            have := mad_zero j (ahd l) q h1 h2
            rw [← this]
            unfold fMk
            rw [if_pos (by omega)], fun h h1 => by omega⟩)
          clear hT nx ht hov e K N KB hjn
          go_wp2_with fail
          go_loopw [52] (fun i wr => NwC p j l w i wr) (fun i _ => j - (intOf i).toNat)
          case atStart => exact KC.out
          case round =>
            obtain ⟨k, B, f, win, hk, rfl, hT, nx, hM, hw⟩ := hrel
            by_cases hlt : k < j
            · have M := mad_step (ord_ahd j l) hlt hM win
              have P := Lib.hid (play_c hT HL.out hn (mad_range hM) hlt)
              have HM2 := Lib.hid M
              have NX := Lib.hid nx
              clear M hT nx hM hw KC
              go_wp2_with fail
              refine (P.out).mono ?_; rintro e u ⟨rfl, B1, k1, n1⟩
              have K1 := Lib.hid k1
              have N1 := Lib.hid (NX.out.trans n1)
              clear k1 n1
              go_wp2_with fail
              refine ⟨⟨k + 1, B1, _, _, by omega, rfl, K1.out, N1.out, HM2.out.1, fun h _ => HM2.out.2 h⟩, ?_⟩
              simp [intOf]; omega
            · obtain rfl : k = j := by omega
              have E := Lib.hid (show LoA p l wr B from lo_of HL.out hn hT (mad_end hM) (hw rfl))
              have NX := Lib.hid nx
              clear hT nx hM hw KC
              go_wp2_with fail
              go_ret
              exact ⟨⟨p, B, rfl, E.out, fun b hb => by have := NX.out.new b hb; simpa using this⟩, nx_gr NX.out⟩
end Go.Proofs.YtjplkmmhjfpdaaaGreatDoor
/- A merge's parts: readers, a disk, a budget, a tree, a writer; calls on each of them. -/
namespace Go.Proofs.YtjplkmmhjfpdaaaGreatDoor
open Go.RowKit FsPlain CrcPlain OctPlain FramePlain RecPlain RdPlain RnPlain LoPlain WrPlain
set_option linter.unusedVariables false
set_option linter.unusedSimpArgs false
set_option maxRecDepth 20000
def ptrs17 (xs : List Nat) : List Value := xs.map fun x => .pointer (some ⟨x, 0, none⟩)
theorem ptrs_at {xs : List Nat} {i x : Nat} (h : xs[i]? = some x) : (ptrs17 xs)[i]? = some (.pointer (some ⟨x, 0, none⟩)) := by unfold ptrs17; rw [List.getElem?_map, h]; rfl
theorem fst_set {rs : List (Nat × Rs)} {i x : Nat} {y : Rs} (h : rs[i]? = some (x, y)) (y' : Rs) : (rs.set i (x, y')).map (·.1) = rs.map (·.1) := by
  refine List.ext_getElem? fun j => ?_
  rw [List.getElem?_map, List.getElem?_map]
  by_cases e : j = i
  · subst e
    rw [List.getElem?_set_self (List.getElem?_eq_some_iff.1 h).1, h]; rfl
  · rw [List.getElem?_set_ne (Ne.symm e)]
theorem snd_set (rs : List (Nat × Rs)) (i x : Nat) (y' : Rs) : (rs.set i (x, y')).map (·.2) = (rs.map (·.2)).set i y' := by rw [List.map_set]
theorem rs_at {rs : List (Nat × Rs)} {xs : List Nat} (h : rs.map (·.1) = xs) {i : Nat} (hi : i < rs.length) : ∃ x y, rs[i]? = some (x, y) ∧ xs[i]? = some x ∧ (rs.map (·.2))[i]? = some y := by
  refine ⟨rs[i].1, rs[i].2, List.getElem?_eq_getElem hi, ?_, ?_⟩
  · rw [← h, List.getElem?_map, List.getElem?_eq_getElem hi]; rfl
  · rw [List.getElem?_map, List.getElem?_eq_getElem hi]; rfl
theorem perm_in (R K M : List Asn) (a : Asn) : (R ++ (K ++ (a :: M))).Perm (a :: (R ++ (K ++ M))) := by
  rw [← List.append_assoc, ← List.append_assoc]
  exact List.perm_middle
theorem does_in {Pr : Program} {f : FuncId} {args : Array Value} {v : Value} {R K M : List Asn} {a a' : Asn} {w : World} {B : Nat → Prop} (hR : Frs R) (hK : Frs K) (ha : Fr a) (hM : Frs M) (h : stars (R ++ (K ++ (a :: M))) w B) (k : ∀ B1, a w B1 → Calls Pr f args w (Does w B1 a' v)) : Calls Pr f args w (Does w B (stars (R ++ (K ++ (a' :: M)))) v) :=
  (does_at (L := a :: (R ++ (K ++ M))) (Q := a') 0 rfl ⟨ha, frs_app hR (frs_app hK hM)⟩ (stars_perm (perm_in R K M a) h) k).mono fun e w' hd => hd.imp fun B' q => stars_perm (perm_in R K M a').symm q
theorem frs_db17 (D P : Nat) (s : St) (b : Bu) : Frs [DiskA D s, BuA P b] := ⟨fr_disk _ _, fr_bu _ _, trivial⟩
theorem frs_all17 (D P : Nat) (rs : List (Nat × Rs)) (s : St) (b : Bu) {M : List Asn} (hM : Frs M) : Frs (rdsA D P rs ++ ([DiskA D s, BuA P b] ++ M)) := frs_app (frs_rds D P rs) (frs_app (frs_db17 D P s b) hM)
theorem rest17 {R K M : List Asn} {w : World} {B : Nat → Prop} (h : stars (R ++ (K ++ M)) w B) : ∃ B', stars M w B' := by
  obtain ⟨_, B2, _, h2, _⟩ := stars_app.1 h
  obtain ⟨_, B3, _, h3, _⟩ := stars_app.1 h2
  exact ⟨B3, h3⟩
theorem tail17 {a : Asn} {M : List Asn} {w : World} {B : Nat → Prop} (h : stars (a :: M) w B) : ∃ B', stars M w B' := by
  obtain ⟨_, B2, _, h2, _⟩ := h
  exact ⟨B2, h2⟩
theorem drop_in {R K M : List Asn} {a : Asn} {w : World} {B : Nat → Prop} (h : stars (R ++ (K ++ (a :: M))) w B) : ∃ B', stars (R ++ (K ++ M)) w B' ∧ Nx B w B' w := stars_drop (stars_perm (perm_in R K M a) h)
theorem perm_wr (R : List Asn) (d b : Asn) (K M : List Asn) (a : Asn) : (R ++ ([d, b] ++ (K ++ (a :: M)))).Perm ([a, d, b] ++ (R ++ (K ++ M))) := by
  have h1 : (R ++ ([d, b] ++ (K ++ (a :: M)))).Perm ([d, b] ++ (R ++ (K ++ (a :: M)))) := by
    rw [← List.append_assoc R, ← List.append_assoc [d, b] R]
    exact List.perm_append_comm.append_right _
  have h2 : ([d, b] ++ (R ++ (K ++ (a :: M)))).Perm (a :: ([d, b] ++ (R ++ (K ++ M)))) := by
    have e1 : [d, b] ++ (R ++ (K ++ (a :: M))) = ([d, b] ++ (R ++ K)) ++ (a :: M) := by simp
    have e2 : [d, b] ++ (R ++ (K ++ M)) = ([d, b] ++ (R ++ K)) ++ M := by simp
    rw [e1, e2]
    exact List.perm_middle
  exact h1.trans h2
theorem mput_c {x D P : Nat} {rs : List (Nat × Rs)} {s : St} {b : Bu} {wx : Ws} (K : List Asn) (r : ByteArray) (hm : M3.ok ⟨s, b, wx⟩) (hal : wx.all.length ≤ 100000) (hc : s.calls ≤ 100000000000) {w : World} {B : Nat → Prop} {M : List Asn} (hK : Frs K) (hM : Frs M) (h : stars (rdsA D P rs ++ ([DiskA D s, BuA P b] ++ (K ++ (WrA x D P wx :: M)))) w B) :
    Calls Tryz.prog 117 #[.pointer (some ⟨x, 0, none⟩), .string r] w (Does w B (stars (rdsA D P rs ++ ([DiskA D (putM ⟨s, b, wx⟩ r).1.s, BuA P (putM ⟨s, b, wx⟩ r).1.b] ++ (K ++ (WrA x D P (putM ⟨s, b, wx⟩ r).1.x :: M))))) (.int .i64 (putM ⟨s, b, wx⟩ r).2)) :=
  (wr_put (m := ⟨s, b, wx⟩) r hm hal hc (frs_app (frs_rds D P rs) (frs_app hK hM)) (stars_perm (perm_wr _ _ _ K M _) h)).mono fun e w' hd => hd.imp fun B' q => stars_perm (perm_wr _ _ _ K M _).symm q
theorem mclose_c {x D P : Nat} {rs : List (Nat × Rs)} {s : St} {b : Bu} {wx : Ws} (hm : M3.ok ⟨s, b, wx⟩) (hal : wx.all.length ≤ 100000) (hc : s.calls ≤ 100000000000) {w : World} {B : Nat → Prop} {M : List Asn} (hM : Frs M) (h : stars (rdsA D P rs ++ ([DiskA D s, BuA P b] ++ (WrA x D P wx :: M))) w B) :
    Calls Tryz.prog 118 #[.pointer (some ⟨x, 0, none⟩)] w (Does w B (stars (rdsA D P rs ++ ([DiskA D (closeM ⟨s, b, wx⟩).1.s, BuA P (closeM ⟨s, b, wx⟩).1.b] ++ (WrA x D P (closeM ⟨s, b, wx⟩).1.x :: M)))) (closeV ⟨s, b, wx⟩ (closeM ⟨s, b, wx⟩).2)) :=
  (wr_close (m := ⟨s, b, wx⟩) hm hal hc (frs_app (frs_rds D P rs) hM) (stars_perm (perm_wr _ _ _ [] M _) h)).mono fun e w' hd => hd.imp fun B' q => stars_perm (perm_wr _ _ _ [] M _).symm q
theorem mdrop_d {x D P : Nat} {rs : List (Nat × Rs)} {s : St} {b : Bu} {wx : Ws} (u : FrameMode) {w : World} {B : Nat → Prop} {M : List Asn} (hM : Frs M) (h : stars (rdsA D P rs ++ ([DiskA D s, BuA P b] ++ (WrA x D P wx :: M))) w B) :
    CallsD Tryz.prog 116 #[.pointer (some ⟨x, 0, none⟩)] u w fun e u' w' => u' = u ∧ Does w B (stars (rdsA D P rs ++ ([DiskA D (dropM ⟨s, b, wx⟩).s, BuA P (dropM ⟨s, b, wx⟩).b] ++ (WrA x D P (dropM ⟨s, b, wx⟩).x :: M)))) (.tuple #[]) e w' :=
  (wr_drop_d (m := ⟨s, b, wx⟩) u (frs_app (frs_rds D P rs) hM) (stars_perm (perm_wr _ _ _ [] M _) h)).mono fun e u' w' hd => ⟨hd.1, hd.2.imp fun B' q => stars_perm (perm_wr _ _ _ [] M _).symm q⟩
theorem forget17 {R K M : List Asn} {w : World} {B : Nat → Prop} (h : stars (R ++ (K ++ M)) w B) : ∃ B', stars (K ++ M) w B' ∧ Nx B w B' w := by
  obtain ⟨B1, B2, _, h2, _, e⟩ := stars_app.1 h
  exact ⟨B2, h2, Only.refl _ _, fun b hb => .inl ((e b).2 (.inr hb))⟩
def texts17 (H : List Hd) : Array Value := (H.map fun z => Value.string z.s).toArray
def overs17 (H : List Hd) : Array Value := (H.map fun z => Value.bool z.o).toArray
theorem texts_set (H : List Hd) (j : Nat) (z : Hd) : (texts17 H).setIfInBounds j (.string z.s) = texts17 (H.set j z) := by unfold texts17; rw [List.setIfInBounds_toArray, List.map_set]
theorem overs_set (H : List Hd) (j : Nat) (z : Hd) : (overs17 H).setIfInBounds j (.bool z.o) = overs17 (H.set j z) := by unfold overs17; rw [List.setIfInBounds_toArray, List.map_set]
theorem texts_lies {g n : Nat} {H : List Hd} {w : World} (hn : H.length = n) (h : w.heap[g]? = some (.cells (texts17 H) 9 (0, 0))) : Lies w (.slice (some ⟨g, 0, none⟩) n n) (H.map (·.s)) := by
  refine ⟨_, n, by rw [List.length_map, hn], by rw [List.length_map, hn]; exact Nat.le_refl _, .inr ⟨g, 0, rfl, lt_of_block h, fun j r hj => ?_⟩⟩
  rw [List.getElem?_map, Option.map_eq_some_iff] at hj
  obtain ⟨z, hz, rfl⟩ := hj
  rw [cells_at h]
  unfold texts17
  rw [List.getElem?_toArray, List.getElem?_map, Nat.zero_add, hz]; rfl
theorem overs_lies {g n : Nat} {H : List Hd} {w : World} (hn : H.length = n) (h : w.heap[g]? = some (.cells (overs17 H) 4 (0, 0))) : LiesV w (.slice (some ⟨g, 0, none⟩) n n) (bools (H.map (·.o))) := by
  have hl : (bools (H.map (·.o))).length = n := by unfold bools; rw [List.length_map, List.length_map, hn]
  refine ⟨_, n, by rw [hl], by rw [hl]; exact Nat.le_refl _, .inr ⟨g, 0, rfl, lt_of_block h, fun j r hj => ?_⟩⟩
  unfold bools at hj
  rw [List.getElem?_map, List.getElem?_map, Option.map_map, Option.map_eq_some_iff] at hj
  obtain ⟨z, hz, rfl⟩ := hj
  rw [cells_at h]
  unfold overs17
  rw [List.getElem?_toArray, List.getElem?_map, Nat.zero_add, hz]; rfl
theorem mkL_of : ∀ H : List Hd, mkL (H.map (·.s)) (H.map (·.o)) = H
  | [] => rfl
  | z :: H => by simp only [List.map_cons, mkL]; rw [mkL_of H]
structure PlH (n j : Nat) (G : List (List ByteArray × Bool)) (H : List Hd) : Prop where
  len : H.length = n
  glen : G.length = n
  old : ∀ (i : Nat) (z : Hd), i < j → H[i]? = some z → G[i]? = some (if z.o = true then [] else [z.s], z.o)
  new : ∀ i, j ≤ i → i < n → G[i]? = some ([], false)
  few : ∀ z ∈ H, z.s.size ≤ 64
theorem plH_start (n : Nat) : PlH n 0 (List.replicate n ([], false)) (List.replicate n ⟨⟨#[]⟩, false⟩) :=
  ⟨by simp, by simp, fun i z hi => by omega, fun i _ hi => by rw [List.getElem?_replicate, if_pos hi], fun z hz => by rw [(List.mem_replicate.1 hz).2]; show (0 : Nat) ≤ 64; omega⟩
theorem PlH.step {n j : Nat} {G : List (List ByteArray × Bool)} {H : List Hd} (h : PlH n j G H) (hj : j < n) (r : ByteArray) (o : Bool) (hr : r.size ≤ 64) : PlH n (j + 1) (G.set j (if o = true then [] else [r], o)) (H.set j ⟨r, o⟩) := by
  refine ⟨by rw [List.length_set]; exact h.len, by rw [List.length_set]; exact h.glen, fun i z hi hz => ?_, fun i hi hn => ?_, fun z hz => ?_⟩
  · by_cases e : i = j
    · subst e
      rw [List.getElem?_set_self (by rw [h.len]; exact hj)] at hz
      cases hz
      rw [List.getElem?_set_self (by rw [h.glen]; exact hj)]
    · rw [List.getElem?_set_ne (Ne.symm e)] at hz ⊢
      exact h.old i z (by omega) hz
  · rw [List.getElem?_set_ne (by omega)]
    exact h.new i (by omega) hn
  · rcases List.mem_or_eq_of_mem_set hz with k | k
    · exact h.few z k
    · rw [k]; exact hr
end Go.Proofs.YtjplkmmhjfpdaaaGreatDoor
/- Plain facts: a merge that ends by an error, ahead of what was put off. -/
namespace Go.Proofs.YtjplkmmhjfpdaaaGreatDoor
open Go.RowKit FsPlain CrcPlain OctPlain FramePlain RecPlain RdPlain RnPlain LoPlain WrPlain
set_option linter.unusedVariables false
set_option linter.unusedSimpArgs false
set_option maxRecDepth 20000
structure MgOut (s0 : St) (b0 : Bu) (F : List (ByteArray × ByteArray)) (out : ByteArray) (size : Int) (s : St) (b : Bu) (wx : Ws) (ys : List Rs) (er : Int) : Prop where
  ne : er ≠ 0
  ok : s.ok
  bok : b.ok
  inv : ∀ y ∈ ys, N3.inv ⟨s, b, y⟩
  now : b.now = b0.now + (if wx.opn = true then 4 else 0) + 4 * (opnN ys : Nat)
  bm : b.m = b0.m
  n0 : 0 ≤ b0.now
  calls : s.calls ≤ s0.calls + 1000000
  oth : ∃ d, d ≤ 1 ∧ Oth out.data.toList d s0 s
  code : ∀ Ls, FilesAre size F Ls → F.length ≤ 64 → sizeB size = true → 4 * (F.length : Int) + 4 ≤ b0.m - b0.now → er = 4 ∨ er = 5 ∨ (er = 13 ∧ ¬ ∀ L ∈ Ls, Srt L)
  calm : ∀ Ls, FilesAre size F Ls → F.length ≤ 64 → sizeB size = true → 4 * (F.length : Int) + 4 ≤ b0.m - b0.now → WrPlain.Calm s0 → s0.fs.length ≤ 150 → (used s0.fs : Int) + 28 + 69 * (Ls.flatten.length : Nat) ≤ s0.room → er = 13 ∧ WrPlain.Calm s
theorem srcs_inv {s : St} {b : Bu} {size : Int} {F : List (ByteArray × ByteArray)} {ys : List Rs} {G : List (List ByteArray × Bool)} (h : Srcs s b size F ys G) (s' : St) (b' : Bu) : ∀ y ∈ ys, N3.inv ⟨s', b', y⟩ := fun y hy => by
  obtain ⟨i, hi, rfl⟩ := List.mem_iff_getElem.1 hy
  have hG : i < G.length := by rw [← h.len]; exact hi
  have hF : i < F.length := Nat.lt_of_lt_of_le hi h.le
  exact inv_other (h.src i _ _ _ _ _ (List.getElem?_eq_getElem hF) (List.getElem?_eq_getElem hi) (List.getElem?_eq_getElem hG)).inv
theorem firsts_le : ∀ G : List (List ByteArray × Bool), (G.map (·.1)).flatten.length ≤ callsG G
  | [] => Nat.zero_le _
  | g :: G => by
    have ih := firsts_le G
    unfold callsG at ih ⊢
    simp only [List.map_cons, List.flatten_cons, List.length_append, List.sum_cons]
    omega
theorem MgT.few {u : Bool} {G : List (List ByteArray × Bool)} {T : List (List ByteArray)} {H : List Hd} {done : List ByteArray} (h : MgT u G T H done) : done.length ≤ callsG G := by
  refine Nat.le_trans (done_le17 h.mid) (Nat.le_trans (flat_le (B := G.map (·.1)) (by rw [List.length_map, h.len]; exact Nat.le_refl _) fun i a b ha hb => ?_) (firsts_le G))
  have hi := (List.getElem?_eq_some_iff.1 ha).1
  have hH : H[i]? = some (H[i]'(by rw [h.mid.len]; exact hi)) := List.getElem?_eq_getElem _
  have hG := h.rel i a _ ha hH
  rw [List.getElem?_map, hG] at hb
  simp only [Option.map_some, Option.some.injEq] at hb
  subst hb
  split
  · exact Nat.le_refl _
  · rw [List.length_append]; omega
theorem MgS.calls17 {s0 : St} {b0 : Bu} {F : List (ByteArray × ByteArray)} {out : ByteArray} {size : Int} {s : St} {b : Bu} {wx : Ws} {ys : List Rs} {G : List (List ByteArray × Bool)} {done : List ByteArray} (h : MgS s0 b0 F out size s b wx ys G done) (hF : FilesOk s0 F out) (hl : F.length ≤ 64) (hd : done.length ≤ callsG G) : s.calls ≤ s0.calls + 700000 := by
  have h1 := h.calls
  have h2 := h.src.calls (fun p hp => (hF p hp).2.1) hl
  have h3 := h.src.le
  omega
theorem MgS.opened {s0 : St} {b0 : Bu} {F : List (ByteArray × ByteArray)} {out : ByteArray} {size : Int} {s : St} {b : Bu} {wx : Ws} {ys : List Rs} {G : List (List ByteArray × Bool)} {done : List ByteArray} (h : MgS s0 b0 F out size s b wx ys G done) : wx.opn = true := h.wr.opn
theorem isfile_at {size : Int} {F : List (ByteArray × ByteArray)} {Ls : List (List ByteArray)} (hL : FilesAre size F Ls) {i : Nat} {nm C : ByteArray} (hi : F[i]? = some (nm, C)) : ∃ L, L ∈ Ls ∧ IsFile size C L := by
  have h1 : i < Ls.length := by rw [hL.1]; exact (List.getElem?_eq_some_iff.1 hi).1
  exact ⟨Ls[i], List.getElem_mem h1, hL.2 i nm C _ hi (List.getElem?_eq_getElem h1)⟩
theorem MgS.out_open {s0 : St} {b0 : Bu} {F : List (ByteArray × ByteArray)} {out : ByteArray} {size : Int} {s : St} {b : Bu} {wx : Ws} {ys : List Rs} {G : List (List ByteArray × Bool)} (h : MgS s0 b0 F out size s b wx ys G []) (hF : FilesOk s0 F out) (hl : F.length ≤ 64) {nm C : ByteArray} (hi : F[ys.length]? = some (nm, C)) (h0 : (openN s b nm size).2.2.1 ≠ 0) (hN : NoOpen s b C size (openN s b nm size)) :
    MgOut s0 b0 F out size (openN s b nm size).1 (openN s b nm size).2.1 wx ys (openN s b nm size).2.2.1 := by
  have hc := (openN_calls s b nm size).2
  have hcs := h.calls17 hF hl (Nat.zero_le _)
  have hlt : ys.length < F.length := (List.getElem?_eq_some_iff.1 hi).1
  have hop := opn_le ys
  have hnow := h.now
  have hn0 := h.n0
  have hb : (openN s b nm size).2.1.ok ∧ (openN s b nm size).2.1.now = b.now ∧ (openN s b nm size).2.1.m = b.m := by
    rcases hN.how with ⟨_, e, _⟩ | ⟨_, e1, e⟩ | ⟨e1, e, _⟩
    · rw [e]; exact ⟨h.wr.ok.b, rfl, rfl⟩
    · rw [e, (take_no e1).1]; exact ⟨h.wr.ok.b, rfl, rfl⟩
    · obtain ⟨_, t1, t2⟩ := take_yes e1 (by decide)
      obtain ⟨g1, g2⟩ := give_now (b := b.take 4) (n := 4) (by decide)
      rw [e]
      exact ⟨Bu.give_ok (Bu.take_ok h.wr.ok.b 4) 4, by rw [g1, t1]; omega, by rw [g2, t2]⟩
  have key : ∀ Ls, FilesAre size F Ls → 4 * (F.length : Int) + 4 ≤ b0.m - b0.now → (openN s b nm size).2.2.1 = 5 ∧ ¬ (s.down = false ∧ s.ahead = -1) := fun Ls hL hm => by
    obtain ⟨L, _, hf⟩ := isfile_at hL hi
    rcases hN.how with ⟨_, _, e⟩ | ⟨_, e1, _⟩ | ⟨_, _, e | e⟩
    · exact absurd hf (e L)
    · have := ((take_no e1).2 (by decide)).1
      have hbm := h.bm
      omega
    · exact absurd hf (e.2 L)
    · exact e
  refine ⟨h0, hN.ok, hb.1, srcs_inv h.src _ _, ?_, by rw [hb.2.2]; exact h.bm, hn0, by omega, ⟨1, Nat.le_refl _, h.oth.trans (oth_quiet _ hN.disk)⟩, fun Ls hL _ _ hm => .inr (.inl (key Ls hL hm).1), fun Ls hL _ _ hm h1 h2 h3 => ?_⟩
  · rw [hb.2.1, h.opened, hnow]; simp
  · have := h.calm h1 h2 (by simp; omega)
    exact absurd this.1 (key Ls hL hm).2
theorem MgS.out_next {s0 : St} {b0 : Bu} {F : List (ByteArray × ByteArray)} {out : ByteArray} {size : Int} {s : St} {b : Bu} {wx : Ws} {ys : List Rs} {G : List (List ByteArray × Bool)} {done : List ByteArray} (h : MgS s0 b0 F out size s b wx ys G done) (hF : FilesOk s0 F out) (hl : F.length ≤ 64) (hd : done.length ≤ callsG G) (hdl : ∀ Ls, FilesAre size F Ls → done.length ≤ Ls.flatten.length) {i : Nat} {y : Rs} {nm C : ByteArray} (hi : F[i]? = some (nm, C)) (hy : ys[i]? = some y) (hyo : y.opn = true)
    (q : Quiet s (nextN ⟨s, b, y⟩).1.s) (hok : (nextN ⟨s, b, y⟩).1.s.ok) (hv : N3.inv (nextN ⟨s, b, y⟩).1) (hc : (nextN ⟨s, b, y⟩).1.s.calls ≤ s.calls + 1) (hb : (nextN ⟨s, b, y⟩).1.b = b.give 4) (ho : (nextN ⟨s, b, y⟩).1.x.opn = false) {er : Int} (he : (er = 6 ∧ ∀ L, ¬ IsFile size C L) ∨ (er = 5 ∧ ¬ WrPlain.Calm s)) :
    MgOut s0 b0 F out size (nextN ⟨s, b, y⟩).1.s (nextN ⟨s, b, y⟩).1.b wx (ys.set i (nextN ⟨s, b, y⟩).1.x) er := by
  have hcs := h.calls17 hF hl hd
  have hnow := h.now
  have hn0 := h.n0
  have hop := opn_set (y' := (nextN ⟨s, b, y⟩).1.x) hy
  rw [hyo, ho] at hop
  simp only [if_true, Bool.false_eq_true, if_false] at hop
  obtain ⟨g1, g2⟩ := give_now (b := b) (n := 4) (by decide)
  have key : ∀ Ls, FilesAre size F Ls → er = 5 ∧ ¬ WrPlain.Calm s := fun Ls hL => by
    obtain ⟨L, _, hf⟩ := isfile_at hL hi
    rcases he with ⟨_, e⟩ | e
    · exact absurd hf (e L)
    · exact e
  refine ⟨by rcases he with ⟨e, _⟩ | ⟨e, _⟩ <;> rw [e] <;> decide, hok, by rw [hb]; exact Bu.give_ok h.wr.ok.b 4, fun r hr => ?_, ?_, by rw [hb, g2]; exact h.bm, hn0, by omega, ⟨1, Nat.le_refl _, h.oth.trans (oth_quiet _ q)⟩, fun Ls hL _ _ hm => .inr (.inl (key Ls hL).1), fun Ls hL _ _ hm h1 h2 h3 => ?_⟩
  · rcases List.mem_or_eq_of_mem_set hr with k | k
    · exact srcs_inv h.src _ _ r k
    · rw [k]; exact hv
  · rw [hb, g1, h.opened]; simp only [if_true]; omega
  · have hz := hdl Ls hL
    have := h.calm h1 h2 (by omega)
    exact absurd this.1 (key Ls hL).2
theorem MgS.out_order {s0 : St} {b0 : Bu} {F : List (ByteArray × ByteArray)} {out : ByteArray} {size : Int} {s : St} {b : Bu} {wx : Ws} {ys : List Rs} {G : List (List ByteArray × Bool)} {done : List ByteArray} (h : MgS s0 b0 F out size s b wx ys G done) (hF : FilesOk s0 F out) (hl : F.length ≤ 64) (hd : done.length ≤ callsG G) (hdl : ∀ Ls, FilesAre size F Ls → done.length ≤ Ls.flatten.length) {i : Nat} {t : List ByteArray} {x z : ByteArray} {o : Bool} (hg : G[i]? = some (t ++ [x, z], o)) (hlt : ltT z x = true) :
    MgOut s0 b0 F out size s b wx ys 13 := by
  have hcs := h.calls17 hF hl hd
  have hiG := (List.getElem?_eq_some_iff.1 hg).1
  have hiy : i < ys.length := by rw [h.src.len]; exact hiG
  have hiF : i < F.length := Nat.lt_of_lt_of_le hiy h.src.le
  have key : ∀ Ls, FilesAre size F Ls → ¬ ∀ L ∈ Ls, Srt L := fun Ls hL =>
    not_rise hL (List.getElem?_eq_getElem hiF) (h.src.src i _ _ _ _ _ (List.getElem?_eq_getElem hiF) (List.getElem?_eq_getElem hiy) hg) (hF _ (List.getElem_mem hiF)).2.1 hlt
  refine ⟨by decide, h.wr.ok.s, h.wr.ok.b, srcs_inv h.src _ _, by rw [h.opened]; exact h.now, h.bm, h.n0, by omega, ⟨1, Nat.le_refl _, h.oth⟩, fun Ls hL _ _ _ => .inr (.inr ⟨rfl, key Ls hL⟩), fun Ls hL _ _ hm h1 h2 h3 => ⟨rfl, ?_⟩⟩
  have hz := hdl Ls hL
  exact (h.calm h1 h2 (by omega)).1
theorem MgS.out_put {s0 : St} {b0 : Bu} {F : List (ByteArray × ByteArray)} {out : ByteArray} {size : Int} {s : St} {b : Bu} {wx : Ws} {ys : List Rs} {G : List (List ByteArray × Bool)} {done : List ByteArray} (h : MgS s0 b0 F out size s b wx ys G done) (hF : FilesOk s0 F out) (hl : F.length ≤ 64) (hd : done.length ≤ callsG G) {n : Nat} {M : M3} {er : Int} (he : er = 4 ∨ er = 5) (hG : Gone ⟨s, b, wx⟩ M out er) (hc : M.s.calls ≤ s.calls + 3) (hn : ∀ Ls, FilesAre size F Ls → n ≤ Ls.flatten.length) (hx : ¬ (WrPlain.Calm s0 ∧ s0.fs.length ≤ 150 ∧ (used s0.fs : Int) + 28 + 69 * (n : Int) ≤ s0.room)) :
    MgOut s0 b0 F out size M.s M.b M.x ys er := by
  have hcs := h.calls17 hF hl hd
  have hnow := h.now
  have hn0 := h.n0
  obtain ⟨g1, g2⟩ := give_now (b := b) (n := 4) (by decide)
  have hb : M.b = b.give 4 := hG.bud
  refine ⟨by rcases he with e | e <;> rw [e] <;> decide, hG.ok.s, hG.ok.b, srcs_inv h.src _ _, ?_, by rw [hb, g2]; exact h.bm, hn0, by omega, ⟨1, Nat.le_refl _, h.oth.trans hG.oth⟩, fun Ls hL _ _ hm => by rcases he with e | e; exact .inl e; exact .inr (.inl e), fun Ls hL _ _ hm h1 h2 h3 => ?_⟩
  · rw [hb, g1, hG.opn]
    simp only [Bool.false_eq_true, if_false]
    omega
  · have hz := hn Ls hL
    exact absurd ⟨h1, h2, by omega⟩ hx
theorem MgOut.end {s0 : St} {b0 : Bu} {F : List (ByteArray × ByteArray)} {out : ByteArray} {size : Int} {s : St} {b : Bu} {wx : Ws} {ys : List Rs} {er : Int} (u : Bool) (h : MgOut s0 b0 F out size s b wx ys er) {b1 : Bu} (hL : Left b b1 (opnN ys)) :
    MergeR s0 b0 F out size u (dropM ⟨s, b1, wx⟩).s (dropM ⟨s, b1, wx⟩).b 0 0 er := by
  have h1 := hL.now
  have h2 := h.now
  have hd : (dropM ⟨s, b1, wx⟩).s = s ∧ (dropM ⟨s, b1, wx⟩).b.now = b0.now ∧ (dropM ⟨s, b1, wx⟩).b.m = b0.m := by
    obtain ⟨g1, g2⟩ := give_now (b := b1) (n := 4) (by decide)
    have hn0 := h.n0
    cases ho : wx.opn
    · have e : dropM ⟨s, b1, wx⟩ = ⟨s, b1, wx⟩ := by unfold dropM; rw [if_neg (by show ¬ wx.opn = true; rw [ho]; decide)]
      rw [ho] at h2
      simp only [Bool.false_eq_true, if_false] at h2
      rw [e]
      exact ⟨rfl, by show b1.now = _; omega, hL.m.trans h.bm⟩
    · have e : (dropM ⟨s, b1, wx⟩).s = s ∧ (dropM ⟨s, b1, wx⟩).b = b1.give 4 := by unfold dropM; rw [if_pos (by exact ho)]; exact ⟨rfl, rfl⟩
      rw [ho] at h2
      simp only [if_true] at h2
      rw [e.1, e.2]
      exact ⟨rfl, by rw [g1]; omega, by rw [g2]; exact hL.m.trans h.bm⟩
  rw [hd.1]
  exact mg_err h.ne h.ok hd.2.1 hd.2.2 h.calls h.oth h.code h.calm
theorem mg_create {s : St} {b : Bu} {F : List (ByteArray × ByteArray)} {out : ByteArray} {size : Int} (u : Bool) (hs : s.ok) (hb : b.ok) (hn : out.size ≤ 24) (hm : rightB out.data.toList = true) (hg : s.get out.data.toList = none) (h0 : (createM s b out size).2.2 ≠ 0) :
    MergeR s b F out size u (createM s b out size).1 (createM s b out size).2.1 0 0 (createM s b out size).2.2 := by
  have hc := createM_calls s b out size
  cases hz : sizeB size
  · have e : createM s b out size = (s, b, 1) := by unfold createM; rw [if_pos (by simp [hz])]
    rw [e] at h0 ⊢
    exact mg_err h0 hs rfl rfl (by show s.calls ≤ _; omega) ⟨0, by decide, Oth.refl _ _⟩ (fun Ls _ _ k _ => by rw [hz] at k; cases k) (fun Ls _ _ k _ => by rw [hz] at k; cases k)
  · rcases create_f hs hb hn hm hz hg with ⟨e, _⟩ | ⟨e, h4, e1, e2⟩ | ⟨e, h1, h4, e2, hO⟩
    · exact absurd e h0
    · have ht := take_no h4
      have key : 4 * (F.length : Int) + 4 ≤ b.m - b.now → False := fun k => by have := (ht.2 (by decide)).1; omega
      rw [e1, e2, ht.1]
      exact mg_err h0 hs rfl rfl (by omega) ⟨0, by decide, Oth.refl _ _⟩ (fun Ls _ _ _ k => (key k).elim) (fun Ls _ _ _ k => (key k).elim)
    · obtain ⟨_, t1, t2⟩ := take_yes h4 (by decide)
      obtain ⟨g1, g2⟩ := give_now (b := b.take 4) (n := 4) (by decide)
      have hn0 := hb.n0
      refine mg_err h0 h1 (by rw [e2, g1, t1]; omega) (by rw [e2, g2, t2]) (by omega) hO (fun Ls _ _ _ k => by rcases e with e | e; exact .inl e; exact .inr (.inl e)) (fun Ls _ _ _ k a1 a2 a3 => ?_)
      have := (create_fits (b := b) (nn := size) hs h4 a1 hz hg hn (by omega) (by omega)).1
      exact absurd this h0
end Go.Proofs.YtjplkmmhjfpdaaaGreatDoor

/- In one text: MgPour. -/
import Derived.Test.YtjplkmmhjfpdaaaGreatDoorQ36
import Derived.Deep.LoopGhost
/- The program's pour: all records, in order, for the writer. -/
namespace Go.Proofs.YtjplkmmhjfpdaaaGreatDoor
open Go.RowKit FsPlain CrcPlain OctPlain FramePlain RecPlain RdPlain RnPlain LoPlain WrPlain
set_option linter.unusedVariables false
set_option linter.unusedSimpArgs false
set_option maxRecDepth 20000
def lastS (done : List ByteArray) : ByteArray := (done.getLast?).getD ⟨#[]⟩
theorem last_put (u : Bool) (done : List ByteArray) (x : ByteArray) : lastS (putEnd u done x) = x := by
  unfold lastS putEnd
  split
  · rename_i h; rw [h.2]; rfl
  · simp
theorem MgT.headsize {u : Bool} {G : List (List ByteArray × Bool)} {T : List (List ByteArray)} {H : List Hd} {done t : List ByteArray} {i : Nat} {x : ByteArray} (ht : MgT u G T H done) (p : PickM T H i t x) {s0 : St} {b0 : Bu} {F : List (ByteArray × ByteArray)} {out : ByteArray} {size : Int} {s : St} {b : Bu} {wx : Ws} {ys : List Rs} {dn : List ByteArray} (h : MgS s0 b0 F out size s b wx ys G dn) : (x.size : Int) = size ∧ i < ys.length := by
  have hG := ht.head p
  have hi : i < ys.length := by rw [h.src.len]; exact (List.getElem?_eq_some_iff.1 hG).1
  obtain ⟨_, _, _, hS⟩ := h.srcs (List.getElem?_eq_getElem hi) hG
  exact ⟨hS.sizes x (by simp), hi⟩
theorem put_test {done : List ByteArray} {x : ByteArray} (hx : 1 ≤ x.size) : ((x.toList == (lastS done).toList) = true ∧ (x.toList != (lastS done).toList) = false ∧ x = lastS done ∧ putEnd true done x = done) ∨ ((x.toList == (lastS done).toList) = false ∧ (x.toList != (lastS done).toList) = true ∧ putEnd true done x = done ++ [x]) := by
  by_cases h : done.getLast? = some x
  · left
    have e : lastS done = x := by unfold lastS; rw [h]; rfl
    rw [e]
    exact ⟨by simp, by simp, rfl, by unfold putEnd; rw [if_pos ⟨rfl, h⟩]⟩
  · right
    have hne : x ≠ lastS done := by
      intro e
      unfold lastS at e
      cases hl : done.getLast? with
      | none =>
        rw [hl] at e
        rw [e] at hx
        exact absurd hx (by show ¬ 1 ≤ (0 : Nat); omega)
      | some z =>
        rw [hl] at e
        exact h (by rw [hl, e]; rfl)
    have hl : x.toList ≠ (lastS done).toList := fun e => hne (toList_inj e)
    refine ⟨by simpa using hl, by simpa using hl, ?_⟩
    unfold putEnd
    rw [if_neg (fun k => h k.2)]
def PourGot (D P xw : Nat) (s0 : St) (b0 : Bu) (F : List (ByteArray × ByteArray)) (out : ByteArray) (size : Int) (u : Bool) (xs : List Nat) (M : List Asn) (w : World) (B : Nat → Prop) (e : Ending) (w' : World) : Prop :=
  (∃ s b wx rs G T H done B', e = .returned (.int .i64 0) ∧ rs.map (·.1) = xs ∧ MgS s0 b0 F out size s b wx (rs.map (·.2)) G done ∧ MgT u G T H done ∧ leastB H = false ∧ stars (rdsA D P rs ++ ([DiskA D s, BuA P b] ++ (WrA xw D P wx :: M))) w' B' ∧ Nx B w B' w') ∨
  (∃ er s b wx rs B', e = .returned (.int .i64 er) ∧ rs.map (·.1) = xs ∧ MgOut s0 b0 F out size s b wx (rs.map (·.2)) er ∧ stars (rdsA D P rs ++ ([DiskA D s, BuA P b] ++ (WrA xw D P wx :: M))) w' B' ∧ Nx B w B' w')
def PoAt (D P xw : Nat) (s0 : St) (b0 : Bu) (F : List (ByteArray × ByteArray)) (out : ByteArray) (size : Int) (u : Bool) (xs : List Nat) (p : Nat) (M : List Asn) (w : World) (B : Nat → Prop) (k : Nat) (v : Value) (wr : World) : Prop :=
  ∃ s b wx rs G T H done B', v = .string (lastS done) ∧ rs.map (·.1) = xs ∧ MgS s0 b0 F out size s b wx (rs.map (·.2)) G done ∧ MgT u G T H done ∧ H.length ≤ 64 ∧ callsG G + k = 90065 ∧ stars (rdsA D P rs ++ ([DiskA D s, BuA P b] ++ (LoA p H :: WrA xw D P wx :: M))) wr B' ∧ Nx B w B' wr
theorem pour_next {D P : Nat} {u : Bool} {s0 : St} {b0 : Bu} {F : List (ByteArray × ByteArray)} {out : ByteArray} {size : Int} {wx : Ws} {s : St} {b : Bu} {rs : List (Nat × Rs)} {G : List (List ByteArray × Bool)} {T : List (List ByteArray)} {H : List Hd} {done dn t : List ByteArray} {i xi : Nat} {x : ByteArray} {y : Rs} {M : List Asn} {w : World} {B : Nat → Prop} (hF : FilesOk s0 F out) (hl : F.length ≤ 64) (hc : s0.calls ≤ 10000000000) (ht : MgT u G T H done) (p : PickM T H i t x) (hd : dn = putEnd u done x) (hS : MgS s0 b0 F out size s b wx (rs.map (·.2)) G dn) (hr : rs[i]? = some (xi, y)) (hy : (rs.map (·.2))[i]? = some y) (hM : Frs M) (h : stars (rdsA D P rs ++ ([DiskA D s, BuA P b] ++ M)) w B) {X : N3 × ByteArray × Bool × Int} (hX : nextN ⟨s, b, y⟩ = X) :
    Calls Tryz.prog 149 #[.agg #[.pointer (some ⟨xi, 0, none⟩)], .string x] w (Does w B (stars (rdsA D P (rs.set i (xi, X.1.x)) ++ ([DiskA D X.1.s, BuA P X.1.b] ++ M))) (ansM x X.2)) := by
  obtain ⟨hok, hinv, htold, _⟩ := hS.ready hy (ht.head p)
  have hcs := hS.calls17 hF hl (by rw [hd]; exact Nat.le_trans (putEnd_le _ _ _) (ht.few1 p))
  have C := mnext_c x hr hok hinv htold (by omega) hM h
  rw [hX] at C
  exact C
set_option maxHeartbeats 16000000 in
theorem pour17_c {D P xw : Nat} {s0 : St} {b0 : Bu} {F : List (ByteArray × ByteArray)} {out : ByteArray} {size : Int} {s : St} {b : Bu} {wx : Ws} {rs : List (Nat × Rs)} {xs : List Nat} (u : Bool) (hxs : rs.map (·.1) = xs) (hF : FilesOk s0 F out) (hl : F.length ≤ 64) (hsum : (F.map fun p => p.2.size).sum ≤ 90000) (hc : s0.calls ≤ 10000000000) (hS : MgS s0 b0 F out size s b wx (rs.map (·.2)) (List.replicate xs.length ([], false)) []) {v : Value} {w : World} {B : Nat → Prop} {M : List Asn} (hM : Frs M) (hv : ∀ (wr : World) (B' : Nat → Prop), stars M wr B' → LiesV wr v (ptrs17 xs)) (h : stars (rdsA D P rs ++ ([DiskA D s, BuA P b] ++ (WrA xw D P wx :: M))) w B) :
    Calls Tryz.prog 121 #[v, .pointer (some ⟨xw, 0, none⟩), .bool u] w (PourGot D P xw s0 b0 F out size u xs M w B) := by
  obtain ⟨n, hn⟩ : ∃ n, xs.length = n := ⟨_, rfl⟩
  have hpl : (ptrs17 xs).length = n := by unfold ptrs17; rw [List.length_map, hn]
  have sh : ∃ a c, v = .slice a n c := by
    obtain ⟨B2, h2⟩ := rest17 h
    obtain ⟨B3, h3⟩ := tail17 h2
    obtain ⟨a, c, e, _⟩ := hv w B3 h3
    rw [hpl] at e
    exact ⟨a, c, e⟩
  obtain ⟨va, vc, rfl⟩ := sh
  have hn64 : n ≤ 64 := by have := hS.src.le; rw [List.length_map] at this; have : rs.length = n := by rw [← hn, ← hxs, List.length_map]
                           omega
  have CP := Lib.hid (plant17_c hxs hF hl hc hS (M := WrA xw D P wx :: M) ⟨fr_wr _ _ _ _, hM⟩ (fun wr B' k => by obtain ⟨B3, h3⟩ := tail17 k; exact hv wr B3 h3) h)
  have HV := Lib.hid hv
  have HF := Lib.hid hF
  have HL := Lib.hid hl
  have HU := Lib.hid hsum
  have HC := Lib.hid hc
  have HM := Lib.hid hM
  have HN := Lib.hid (show xs.length = n ∧ n ≤ 64 from ⟨hn, hn64⟩)
  clear hv hF hl hsum hc hS hxs hM h hn hpl hn64
  go_enter Tryz.func121, Tryz.ntmps121
  go_wp2_with fail
  refine CP.out.mono ?_
  rintro e w1 (⟨p, s1, b1, rs1, G, H, B1, rfl, hx, hS, hT, hHl, hst, nx⟩ | ⟨er, s1, b1, rs1, B1, rfl, hx, hO, hst, nx⟩)
  · have hcg := hS.src.few17 HU.out HL.out
    obtain ⟨k0, hk0⟩ : ∃ k, callsG G + k = 90065 := ⟨90065 - callsG G, by omega⟩
    have START := Lib.hid (show PoAt D P xw s0 b0 F out size u xs p M w B k0 (.string ⟨#[]⟩) w1 from ⟨s1, b1, wx, rs1, G, _, H, [], B1, rfl, hx, hS, hT u, by rw [hHl, HN.out.1]; exact HN.out.2, hk0, hst, nx⟩)
    clear hx hS hT hHl hst nx hcg hk0 CP
    go_wp2_with fail
    go_loopg [9] k0 (fun k v wr => PoAt D P xw s0 b0 F out size u xs p M w B k v wr)
    case atStart => exact START.out
    case round =>
      clear START
      obtain ⟨s1, b1, wx1, rs1, G, T, H, done, B', rfl, hx, hS, hT, hH, hk, hst, nx⟩ := hrel
      have hrl : rs1.length = n := by rw [← HN.out.1, ← hx, List.length_map]
      have FM1 : Frs (WrA xw D P wx1 :: M) := ⟨fr_wr _ _ _ _, HM.out⟩
      have CL := does_in (Pr := Tryz.prog) (frs_rds D P rs1) (frs_db17 D P s1 b1) (fr_lo p H) FM1 hst (fun B1 h1 => lo_least_c hH h1)
      have CH := fun (u : World) (B2 : Nat → Prop) (k : stars (rdsA D P rs1 ++ ([DiskA D s1, BuA P b1] ++ (LoA p H :: WrA xw D P wx1 :: M))) u B2) => does_in (Pr := Tryz.prog) (frs_rds D P rs1) (frs_db17 D P s1 b1) (fr_lo p H) FM1 k (fun B1 h1 => lo_head_c hH h1)
      cases hb : leastB H
      · rw [hb] at CL
        have CLH := Lib.hid CL
        have REL := Lib.hid (show rs1.map (·.1) = xs ∧ MgS s0 b0 F out size s1 b1 wx1 (rs1.map (·.2)) G done ∧ MgT u G T H done ∧ leastB H = false ∧ Nx B w B' wr from ⟨hx, hS, hT, hb, nx⟩)
        obtain ⟨li, hli⟩ : ∃ li, leastI H = li := ⟨_, rfl⟩
        rw [hli] at CLH
        clear hx hS hT hH hk hst nx CL CH hb hli hrl
        go_wp2_with fail
        refine CLH.out.mono ?_; rintro e u2 ⟨rfl, B2, h2, n2⟩
        obtain ⟨B3, h3, n3⟩ := drop_in h2
        have H3 := Lib.hid h3
        have N3 := Lib.hid ((REL.out.2.2.2.2.trans n2).trans n3)
        clear h2 n2 h3 n3 CLH
        go_wp2_with fail
        go_ret
        exact .inl ⟨s1, b1, wx1, rs1, G, T, H, done, B3, rfl, REL.out.1, REL.out.2.1, REL.out.2.2.1, REL.out.2.2.2.1, H3.out, N3.out⟩
      · obtain ⟨i, t, x, pk⟩ := hT.mid.pick hb
        have hi : leastI H = (i : Int) := by unfold leastI; rw [pk.n]; omega
        have hhd : headS H = x := pk.head
        obtain ⟨hxs, hil⟩ := hT.headsize pk hS
        rw [List.length_map] at hil
        obtain ⟨xi, y, hr, hxx, hy⟩ := rs_at hx hil
        have hin : i < n := by omega
        rw [hb, hi] at CL
        simp only [hhd] at CH
        have CLH := Lib.hid CL
        have CHH := Lib.hid CH
        have hsz := hS.size
        have hx1 : 1 ≤ x.size := by omega
        have LI := Lib.hid (fun (wr : World) (B' : Nat → Prop) (wy : Ws) (s : St) (b : Bu) (k : stars (rdsA D P rs1 ++ ([DiskA D s, BuA P b] ++ (LoA p H :: WrA xw D P wy :: M))) wr B') => (by
          obtain ⟨B2, h2⟩ := rest17 k
          obtain ⟨B3, h3⟩ := tail17 h2
          obtain ⟨B4, h4⟩ := tail17 h3
          exact lies_ptr (HV.out wr B4 h4) (ptrs_at hxx) : ∃ b off, va = some ⟨b, off, none⟩ ∧ wr.cell? ⟨b, off + i, none⟩ = some (.pointer (some ⟨xi, 0, none⟩)) ∧ b < wr.heap.size))
        have REL := Lib.hid (show rs1.map (·.1) = xs ∧ MgS s0 b0 F out size s1 b1 wx1 (rs1.map (·.2)) G done ∧ MgT u G T H done ∧ PickM T H i t x ∧ rs1[i]? = some (xi, y) ∧ (rs1.map (·.2))[i]? = some y ∧ H.length ≤ 64 ∧ callsG G + gk = 90065 ∧ callsG G ≤ 90064 ∧ Nx B w B' wr from ⟨hx, hS, hT, pk, hr, hy, hH, hk, hS.src.few17 HU.out HL.out, nx⟩)
        have PT := Lib.hid (put_test (done := done) hx1)
        clear hx hS hT hH hk hst nx CL CH hb hi hhd hxs hil hr hxx hy hrl hsz hx1 pk
        go_wp2_with fail
        refine CLH.out.mono ?_; rintro e u2 ⟨rfl, B2, h2, n2⟩
        have C2 := Lib.hid (CHH.out u2 B2 h2)
        have N2 := Lib.hid (REL.out.2.2.2.2.2.2.2.2.2.trans n2)
        clear h2 n2 CLH
        go_wp2_with fail
        refine C2.out.mono ?_; rintro e u3 ⟨rfl, B3, h3, n3⟩
        have H3 := Lib.hid h3
        have N3 := Lib.hid (N2.out.trans n3)
        clear h3 n3 C2 N2 CHH
        obtain ⟨lst, hlst⟩ : ∃ l, lastS done = l := ⟨_, rfl⟩
        rw [hlst] at PT
        have HLST := Lib.hid hlst
        rw [hlst]
        clear hlst
        cases u
        · have PE : putEnd false done x = done ++ [x] := by unfold putEnd; rw [if_neg (fun k => by cases k.1)]
          have HS0 := REL.out.2.1
          have hdone := HS0.wr.all
          have hfw := REL.out.2.2.1.few
          have hfw2 := REL.out.2.2.2.2.2.2.2.2.1
          obtain ⟨⟨m4, e4⟩, hm4⟩ : ∃ X, putM ⟨s1, b1, wx1⟩ x = X := ⟨_, rfl⟩
          have CU := mput_c (D := D) (P := P) (rs := rs1) [LoA p H] x HS0.wr.ok (by rw [hdone]; omega) (by have := HS0.calls17 HF.out HL.out hfw; have := HC.out; omega) ⟨fr_lo _ _, trivial⟩ HM.out H3.out
          rw [hm4] at CU
          have KU := HS0.put17 HF.out HL.out REL.out.2.2.1 REL.out.2.2.2.1 hm4
          have CUH := Lib.hid CU
          clear CU HS0 hdone hfw hfw2 hm4
          rcases KU with ⟨rfl, k4⟩ | ⟨k4, k5⟩
          · have HS := Lib.hid k4
            clear k4
            go_wp2_with fail
            refine CUH.out.mono ?_; rintro e u4 ⟨rfl, B4, h4, n4⟩
            obtain ⟨s2, b2, wx2⟩ := m4
            have H4 := Lib.hid h4
            have N4 := Lib.hid (N3.out.trans n4)
            clear h4 n4 CUH H3 N3
            have HS2 : MgS s0 b0 F out size s2 b2 wx2 (rs1.map (·.2)) G (putEnd false done x) := by rw [PE]; exact HS.out
            obtain ⟨⟨N, r, o, er⟩, hX⟩ : ∃ X, nextN ⟨s2, b2, y⟩ = X := ⟨_, rfl⟩
            have FM2 : Frs (LoA p H :: WrA xw D P wx2 :: M) := ⟨fr_lo _ _, fr_wr _ _ _ _, HM.out⟩
            have CN := pour_next HF.out HL.out HC.out REL.out.2.2.1 REL.out.2.2.2.1 rfl HS2 REL.out.2.2.2.2.1 REL.out.2.2.2.2.2.1 FM2 H4.out hX
            have KN := MgS.read17 REL.out.2.2.1 REL.out.2.2.2.1 rfl HS2 HF.out HL.out REL.out.2.2.2.2.2.1 hX
            obtain ⟨bq, off, hva, hcell, hbq⟩ := LI.out _ _ _ _ _ H4.out
            subst hva
            have hinI : (i : Int) < (n : Int) := by omega
            simp only at CN KN
            clear HS2 FM2 hX HS H4
            rcases KN with ⟨rfl, k5, k6, G', k7, k8, k9⟩ | ⟨k5, k6⟩ | ⟨rfl, k5, k6⟩
            · have e : ansM x (r, o, 0) = ansV (r, o, 0) := if_neg (by rw [k5]; decide)
              rw [e] at CN
              unfold ansV at CN
              have CNH := Lib.hid CN
              have REL2 := Lib.hid (show MgS s0 b0 F out size N.s N.b wx2 ((rs1.map (·.2)).set i N.x) G' (putEnd false done x) ∧ MgT false G' (T.set i (t ++ [x])) (nextL H r (!o)) (putEnd false done x) ∧ callsG G' = callsG G + 1 ∧ r.size ≤ 64 from ⟨k7, k8, k9, k6⟩)
              clear e CN k5 k6 k7 k8 k9
              go_wp2_with fail
              refine CNH.out.mono ?_; rintro e u5 ⟨rfl, B5, h5, n5⟩
              have FM3 : Frs (WrA xw D P wx2 :: M) := ⟨fr_wr _ _ _ _, HM.out⟩
              have CT := Lib.hid (does_in (Pr := Tryz.prog) (a' := LoA p (nextL H r (!o))) (frs_rds D P (rs1.set i (xi, N.x))) (frs_db17 D P N.s N.b) (fr_lo p H) FM3 h5 (fun B1 h1 => lo_next_c REL.out.2.2.2.2.2.2.1 r (!o) (by have := REL2.out.2.2.2; omega) h1))
              have N5 := Lib.hid (N4.out.trans n5)
              clear h5 n5 CNH FM3 hcell
              go_wp2_with fail
              refine CT.out.mono ?_; rintro e u6 ⟨rfl, B6, h6, n6⟩
              have H6 := Lib.hid h6
              have N6 := Lib.hid (N5.out.trans n6)
              clear h6 n6 CT
              go_wp2_with fail
              go_roundg (gk - 1)
              case measure => have := REL.out.2.2.2.2.2.2.2.1; have := REL.out.2.2.2.2.2.2.2.2.1; omega
              case rel =>
                refine ⟨N.s, N.b, wx2, rs1.set i (xi, N.x), G', T.set i (t ++ [x]), nextL H r (!o), putEnd false done x, B6, ?_, (fst_set REL.out.2.2.2.2.1 _).trans REL.out.1, by rw [snd_set]; exact REL2.out.1, REL2.out.2.1, by rw [nextL_length]; exact REL.out.2.2.2.2.2.2.1, ?_, H6.out, N6.out⟩
                · rw [last_put]
                · have h1 := REL2.out.2.2.1
                  have h2 := REL.out.2.2.2.2.2.2.2.1
                  have h3 := REL.out.2.2.2.2.2.2.2.2.1
                  omega
            · have e : ansM x (r, o, er) = .tuple #[.string ⟨#[]⟩, .bool false, .int .i64 13] := if_pos k5
              rw [e] at CN
              have CNH := Lib.hid CN
              have KB := Lib.hid k6
              clear e CN k5 k6
              go_wp2_with fail
              refine CNH.out.mono ?_; rintro e u5 ⟨rfl, B5, h5, n5⟩
              obtain ⟨B6, h6, n6⟩ := drop_in h5
              have H6 := Lib.hid h6
              have N6 := Lib.hid ((N4.out.trans n5).trans n6)
              clear h5 n5 h6 n6 CNH hcell
              go_wp2_with fail
              go_ret
              exact .inr ⟨13, N.s, N.b, wx2, rs1.set i (xi, N.x), B6, rfl, (fst_set REL.out.2.2.2.2.1 _).trans REL.out.1, by rw [snd_set]; exact KB.out, H6.out, N6.out⟩
            · have e : ansM x (r, false, er) = ansV (r, false, er) := if_neg (by rw [Bool.false_and]; decide)
              rw [e] at CN
              unfold ansV at CN
              have CNH := Lib.hid CN
              have KB := Lib.hid k6
              have he : (er != 0) = true := by simpa using k5
              clear e CN k5 k6
              go_wp2_with fail
              refine CNH.out.mono ?_; rintro e u5 ⟨rfl, B5, h5, n5⟩
              obtain ⟨B6, h6, n6⟩ := drop_in h5
              have H6 := Lib.hid h6
              have N6 := Lib.hid ((N4.out.trans n5).trans n6)
              clear h5 n5 h6 n6 CNH hcell
              go_wp2_with fail
              go_ret
              exact .inr ⟨er, N.s, N.b, wx2, rs1.set i (xi, N.x), B6, rfl, (fst_set REL.out.2.2.2.2.1 _).trans REL.out.1, by rw [snd_set]; exact KB.out, H6.out, N6.out⟩
          · have KB := Lib.hid k5
            have he : (e4 != 0) = true := by simpa using k4
            clear k4 k5
            go_wp2_with fail
            refine CUH.out.mono ?_; rintro e u4 ⟨rfl, B4, h4, n4⟩
            obtain ⟨B5, h5, n5⟩ := drop_in h4
            have H5 := Lib.hid h5
            have N5 := Lib.hid ((N3.out.trans n4).trans n5)
            clear h4 n4 h5 n5 CUH H3 N3
            go_wp2_with fail
            go_ret
            exact .inr ⟨e4, m4.s, m4.b, m4.x, rs1, B5, rfl, REL.out.1, KB.out, H5.out, N5.out⟩
        · rcases PT.out with ⟨q1, q2, rfl, PE⟩ | ⟨q1, q2, PE⟩
          · obtain ⟨s2, b2, wx2, es, eb, ew⟩ : ∃ s2 b2 wx2, s1 = s2 ∧ b1 = b2 ∧ wx1 = wx2 := ⟨_, _, _, rfl, rfl, rfl⟩
            subst es eb ew
            have HS := Lib.hid REL.out.2.1
            have H4 := H3
            have N4 := N3
            have PE := PE
            clear H3 N3
            have HS2 : MgS s0 b0 F out size s1 b1 wx1 (rs1.map (·.2)) G (putEnd true done x) := by rw [PE]; exact HS.out
            obtain ⟨⟨N, r, o, er⟩, hX⟩ : ∃ X, nextN ⟨s1, b1, y⟩ = X := ⟨_, rfl⟩
            have FM2 : Frs (LoA p H :: WrA xw D P wx1 :: M) := ⟨fr_lo _ _, fr_wr _ _ _ _, HM.out⟩
            have CN := pour_next HF.out HL.out HC.out REL.out.2.2.1 REL.out.2.2.2.1 rfl HS2 REL.out.2.2.2.2.1 REL.out.2.2.2.2.2.1 FM2 H4.out hX
            have KN := MgS.read17 REL.out.2.2.1 REL.out.2.2.2.1 rfl HS2 HF.out HL.out REL.out.2.2.2.2.2.1 hX
            obtain ⟨bq, off, hva, hcell, hbq⟩ := LI.out _ _ _ _ _ H4.out
            subst hva
            have hinI : (i : Int) < (n : Int) := by omega
            simp only at CN KN
            clear HS2 FM2 hX HS H4
            rcases KN with ⟨rfl, k5, k6, G', k7, k8, k9⟩ | ⟨k5, k6⟩ | ⟨rfl, k5, k6⟩
            · have e : ansM x (r, o, 0) = ansV (r, o, 0) := if_neg (by rw [k5]; decide)
              rw [e] at CN
              unfold ansV at CN
              have CNH := Lib.hid CN
              have REL2 := Lib.hid (show MgS s0 b0 F out size N.s N.b wx1 ((rs1.map (·.2)).set i N.x) G' (putEnd true done x) ∧ MgT true G' (T.set i (t ++ [x])) (nextL H r (!o)) (putEnd true done x) ∧ callsG G' = callsG G + 1 ∧ r.size ≤ 64 from ⟨k7, k8, k9, k6⟩)
              clear e CN k5 k6 k7 k8 k9
              go_wp2_with fail
              refine CNH.out.mono ?_; rintro e u5 ⟨rfl, B5, h5, n5⟩
              have FM3 : Frs (WrA xw D P wx1 :: M) := ⟨fr_wr _ _ _ _, HM.out⟩
              have CT := Lib.hid (does_in (Pr := Tryz.prog) (a' := LoA p (nextL H r (!o))) (frs_rds D P (rs1.set i (xi, N.x))) (frs_db17 D P N.s N.b) (fr_lo p H) FM3 h5 (fun B1 h1 => lo_next_c REL.out.2.2.2.2.2.2.1 r (!o) (by have := REL2.out.2.2.2; omega) h1))
              have N5 := Lib.hid (N4.out.trans n5)
              clear h5 n5 CNH FM3 hcell
              go_wp2_with fail
              refine CT.out.mono ?_; rintro e u6 ⟨rfl, B6, h6, n6⟩
              have H6 := Lib.hid h6
              have N6 := Lib.hid (N5.out.trans n6)
              clear h6 n6 CT
              go_wp2_with fail
              go_roundg (gk - 1)
              case measure => have := REL.out.2.2.2.2.2.2.2.1; have := REL.out.2.2.2.2.2.2.2.2.1; omega
              case rel =>
                refine ⟨N.s, N.b, wx1, rs1.set i (xi, N.x), G', T.set i (t ++ [x]), nextL H r (!o), putEnd true done x, B6, ?_, (fst_set REL.out.2.2.2.2.1 _).trans REL.out.1, by rw [snd_set]; exact REL2.out.1, REL2.out.2.1, by rw [nextL_length]; exact REL.out.2.2.2.2.2.2.1, ?_, H6.out, N6.out⟩
                · rw [last_put]
                · have h1 := REL2.out.2.2.1
                  have h2 := REL.out.2.2.2.2.2.2.2.1
                  have h3 := REL.out.2.2.2.2.2.2.2.2.1
                  omega
            · have e : ansM x (r, o, er) = .tuple #[.string ⟨#[]⟩, .bool false, .int .i64 13] := if_pos k5
              rw [e] at CN
              have CNH := Lib.hid CN
              have KB := Lib.hid k6
              clear e CN k5 k6
              go_wp2_with fail
              refine CNH.out.mono ?_; rintro e u5 ⟨rfl, B5, h5, n5⟩
              obtain ⟨B6, h6, n6⟩ := drop_in h5
              have H6 := Lib.hid h6
              have N6 := Lib.hid ((N4.out.trans n5).trans n6)
              clear h5 n5 h6 n6 CNH hcell
              go_wp2_with fail
              go_ret
              exact .inr ⟨13, N.s, N.b, wx1, rs1.set i (xi, N.x), B6, rfl, (fst_set REL.out.2.2.2.2.1 _).trans REL.out.1, by rw [snd_set]; exact KB.out, H6.out, N6.out⟩
            · have e : ansM x (r, false, er) = ansV (r, false, er) := if_neg (by rw [Bool.false_and]; decide)
              rw [e] at CN
              unfold ansV at CN
              have CNH := Lib.hid CN
              have KB := Lib.hid k6
              have he : (er != 0) = true := by simpa using k5
              clear e CN k5 k6
              go_wp2_with fail
              refine CNH.out.mono ?_; rintro e u5 ⟨rfl, B5, h5, n5⟩
              obtain ⟨B6, h6, n6⟩ := drop_in h5
              have H6 := Lib.hid h6
              have N6 := Lib.hid ((N4.out.trans n5).trans n6)
              clear h5 n5 h6 n6 CNH hcell
              go_wp2_with fail
              go_ret
              exact .inr ⟨er, N.s, N.b, wx1, rs1.set i (xi, N.x), B6, rfl, (fst_set REL.out.2.2.2.2.1 _).trans REL.out.1, by rw [snd_set]; exact KB.out, H6.out, N6.out⟩
          · clear PT
            have HS0 := REL.out.2.1
            have hdone := HS0.wr.all
            have hfw := REL.out.2.2.1.few
            have hfw2 := REL.out.2.2.2.2.2.2.2.2.1
            obtain ⟨⟨m4, e4⟩, hm4⟩ : ∃ X, putM ⟨s1, b1, wx1⟩ x = X := ⟨_, rfl⟩
            have CU := mput_c (D := D) (P := P) (rs := rs1) [LoA p H] x HS0.wr.ok (by rw [hdone]; omega) (by have := HS0.calls17 HF.out HL.out hfw; have := HC.out; omega) ⟨fr_lo _ _, trivial⟩ HM.out H3.out
            rw [hm4] at CU
            have KU := HS0.put17 HF.out HL.out REL.out.2.2.1 REL.out.2.2.2.1 hm4
            have CUH := Lib.hid CU
            clear CU HS0 hdone hfw hfw2 hm4
            rcases KU with ⟨rfl, k4⟩ | ⟨k4, k5⟩
            · have HS := Lib.hid k4
              clear k4
              go_wp2_with fail
              refine CUH.out.mono ?_; rintro e u4 ⟨rfl, B4, h4, n4⟩
              obtain ⟨s2, b2, wx2⟩ := m4
              have H4 := Lib.hid h4
              have N4 := Lib.hid (N3.out.trans n4)
              clear h4 n4 CUH H3 N3
              have HS2 : MgS s0 b0 F out size s2 b2 wx2 (rs1.map (·.2)) G (putEnd true done x) := by rw [PE]; exact HS.out
              obtain ⟨⟨N, r, o, er⟩, hX⟩ : ∃ X, nextN ⟨s2, b2, y⟩ = X := ⟨_, rfl⟩
              have FM2 : Frs (LoA p H :: WrA xw D P wx2 :: M) := ⟨fr_lo _ _, fr_wr _ _ _ _, HM.out⟩
              have CN := pour_next HF.out HL.out HC.out REL.out.2.2.1 REL.out.2.2.2.1 rfl HS2 REL.out.2.2.2.2.1 REL.out.2.2.2.2.2.1 FM2 H4.out hX
              have KN := MgS.read17 REL.out.2.2.1 REL.out.2.2.2.1 rfl HS2 HF.out HL.out REL.out.2.2.2.2.2.1 hX
              obtain ⟨bq, off, hva, hcell, hbq⟩ := LI.out _ _ _ _ _ H4.out
              subst hva
              have hinI : (i : Int) < (n : Int) := by omega
              simp only at CN KN
              clear HS2 FM2 hX HS H4
              rcases KN with ⟨rfl, k5, k6, G', k7, k8, k9⟩ | ⟨k5, k6⟩ | ⟨rfl, k5, k6⟩
              · have e : ansM x (r, o, 0) = ansV (r, o, 0) := if_neg (by rw [k5]; decide)
                rw [e] at CN
                unfold ansV at CN
                have CNH := Lib.hid CN
                have REL2 := Lib.hid (show MgS s0 b0 F out size N.s N.b wx2 ((rs1.map (·.2)).set i N.x) G' (putEnd true done x) ∧ MgT true G' (T.set i (t ++ [x])) (nextL H r (!o)) (putEnd true done x) ∧ callsG G' = callsG G + 1 ∧ r.size ≤ 64 from ⟨k7, k8, k9, k6⟩)
                clear e CN k5 k6 k7 k8 k9
                go_wp2_with fail
                refine CNH.out.mono ?_; rintro e u5 ⟨rfl, B5, h5, n5⟩
                have FM3 : Frs (WrA xw D P wx2 :: M) := ⟨fr_wr _ _ _ _, HM.out⟩
                have CT := Lib.hid (does_in (Pr := Tryz.prog) (a' := LoA p (nextL H r (!o))) (frs_rds D P (rs1.set i (xi, N.x))) (frs_db17 D P N.s N.b) (fr_lo p H) FM3 h5 (fun B1 h1 => lo_next_c REL.out.2.2.2.2.2.2.1 r (!o) (by have := REL2.out.2.2.2; omega) h1))
                have N5 := Lib.hid (N4.out.trans n5)
                clear h5 n5 CNH FM3 hcell
                go_wp2_with fail
                refine CT.out.mono ?_; rintro e u6 ⟨rfl, B6, h6, n6⟩
                have H6 := Lib.hid h6
                have N6 := Lib.hid (N5.out.trans n6)
                clear h6 n6 CT
                go_wp2_with fail
                go_roundg (gk - 1)
                case measure => have := REL.out.2.2.2.2.2.2.2.1; have := REL.out.2.2.2.2.2.2.2.2.1; omega
                case rel =>
                  refine ⟨N.s, N.b, wx2, rs1.set i (xi, N.x), G', T.set i (t ++ [x]), nextL H r (!o), putEnd true done x, B6, ?_, (fst_set REL.out.2.2.2.2.1 _).trans REL.out.1, by rw [snd_set]; exact REL2.out.1, REL2.out.2.1, by rw [nextL_length]; exact REL.out.2.2.2.2.2.2.1, ?_, H6.out, N6.out⟩
                  · rw [last_put]
                  · have h1 := REL2.out.2.2.1
                    have h2 := REL.out.2.2.2.2.2.2.2.1
                    have h3 := REL.out.2.2.2.2.2.2.2.2.1
                    omega
              · have e : ansM x (r, o, er) = .tuple #[.string ⟨#[]⟩, .bool false, .int .i64 13] := if_pos k5
                rw [e] at CN
                have CNH := Lib.hid CN
                have KB := Lib.hid k6
                clear e CN k5 k6
                go_wp2_with fail
                refine CNH.out.mono ?_; rintro e u5 ⟨rfl, B5, h5, n5⟩
                obtain ⟨B6, h6, n6⟩ := drop_in h5
                have H6 := Lib.hid h6
                have N6 := Lib.hid ((N4.out.trans n5).trans n6)
                clear h5 n5 h6 n6 CNH hcell
                go_wp2_with fail
                go_ret
                exact .inr ⟨13, N.s, N.b, wx2, rs1.set i (xi, N.x), B6, rfl, (fst_set REL.out.2.2.2.2.1 _).trans REL.out.1, by rw [snd_set]; exact KB.out, H6.out, N6.out⟩
              · have e : ansM x (r, false, er) = ansV (r, false, er) := if_neg (by rw [Bool.false_and]; decide)
                rw [e] at CN
                unfold ansV at CN
                have CNH := Lib.hid CN
                have KB := Lib.hid k6
                have he : (er != 0) = true := by simpa using k5
                clear e CN k5 k6
                go_wp2_with fail
                refine CNH.out.mono ?_; rintro e u5 ⟨rfl, B5, h5, n5⟩
                obtain ⟨B6, h6, n6⟩ := drop_in h5
                have H6 := Lib.hid h6
                have N6 := Lib.hid ((N4.out.trans n5).trans n6)
                clear h5 n5 h6 n6 CNH hcell
                go_wp2_with fail
                go_ret
                exact .inr ⟨er, N.s, N.b, wx2, rs1.set i (xi, N.x), B6, rfl, (fst_set REL.out.2.2.2.2.1 _).trans REL.out.1, by rw [snd_set]; exact KB.out, H6.out, N6.out⟩
            · have KB := Lib.hid k5
              have he : (e4 != 0) = true := by simpa using k4
              clear k4 k5
              go_wp2_with fail
              refine CUH.out.mono ?_; rintro e u4 ⟨rfl, B4, h4, n4⟩
              obtain ⟨B5, h5, n5⟩ := drop_in h4
              have H5 := Lib.hid h5
              have N5 := Lib.hid ((N3.out.trans n4).trans n5)
              clear h4 n4 h5 n5 CUH H3 N3
              go_wp2_with fail
              go_ret
              exact .inr ⟨e4, m4.s, m4.b, m4.x, rs1, B5, rfl, REL.out.1, KB.out, H5.out, N5.out⟩
  · have RB := Lib.hid (show rs1.map (·.1) = xs ∧ True from ⟨hx, trivial⟩)
    have KB := Lib.hid hO
    obtain ⟨Bz, hz, nz⟩ : ∃ B', stars (rdsA D P rs1 ++ ([DiskA D s1, BuA P b1] ++ (WrA xw D P wx :: M))) w1 B' ∧ Nx B w B' w1 := ⟨B1, hst, nx⟩
    have HZ := Lib.hid hz
    have NZ := Lib.hid nz
    have he : (er != 0) = true := by simpa using hO.ne
    clear hx hO hst nx hz nz CP
    go_wp2_with fail
    go_ret
    exact .inr ⟨er, s1, b1, wx, rs1, Bz, rfl, RB.out.1, KB.out, HZ.out, NZ.out⟩
end Go.Proofs.YtjplkmmhjfpdaaaGreatDoor

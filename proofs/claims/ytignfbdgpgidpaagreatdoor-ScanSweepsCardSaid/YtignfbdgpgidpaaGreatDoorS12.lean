/- In one text: ScList, FsLs, FsFall, FsRise. -/
import Derived.Test.YtignfbdgpgidpaaGreatDoorS09
import Derived.Test.YtignfbdgpgidpaaGreatDoorS11
import Derived.Test.YtignfbdgpgidpaaGreatDoorS07
import Derived.StillTailTactics
/- The document's disk: List. -/
namespace Go.Proofs.YtignfbdgpgidpaaGreatDoor
open Go.RowKit FsPlain ScPlain
set_option linter.unusedVariables false
set_option linter.unusedSimpArgs false
set_option maxRecDepth 20000
def LsGot (T : Asn) (s : St) (B : Nat → Prop) (w : World) (e : Ending) (w' : World) : Prop := ∃ (a : Option Addr) (c : Nat), e = .returned (.tuple #[.slice a (listL s).length c, .int .i64 s.call.code]) ∧ ∃ B', star (SlA (.slice a (listL s).length c) (listL s)) T w' B' ∧ Nx B w B' w'
theorem ls_down {T : Asn} {s : St} {B B1 : Nat → Prop} {w w' : World} (h : s.call.down = true) (t : T w' B1) (n : Nx B w B1 w') : LsGot T s B w (.returned (.tuple #[.slice none 0 0, .int .i64 5])) w' := by
  have e : listL s = [] := by unfold listL; rw [if_pos h]
  have ec : s.call.code = 5 := by rw [code_down, if_pos h]
  refine ⟨none, 0, by rw [e, ec]; rfl, B1, ?_, n⟩
  rw [e]
  exact ⟨fun _ => False, B1, ⟨⟨none, 0, rfl, Nat.le_refl _, .inl rfl⟩, fun _ h => h.elim, .inl rfl⟩, t, fun _ h => h.elim, fun b => (false_or _).symm ▸ Iff.rfl⟩
theorem ls_up {T : Asn} {s : St} {B B1 : Nat → Prop} {w u w' : World} {v : Value} (h : s.call.down = false) (hl : Lies w' v (namesL s)) (hn : ∀ x, v.ownBlock = some x → u.heap.size ≤ x) (low : ∀ b, B1 b → b < u.heap.size) (g : w.heap.size ≤ u.heap.size) (t : T w' B1) (n : Nx B w B1 w') : LsGot T s B w (.returned (.tuple #[v, .int .i64 0])) w' := by
  have e : listL s = namesL s := by unfold listL; rw [h]; rfl
  have ec : s.call.code = 0 := by rw [code_down, h]; rfl
  obtain ⟨a, c, rfl, _⟩ := id hl
  obtain ⟨B2, k, hk⟩ := sl_new hl hn
  refine ⟨a, c, by rw [e, ec], fun b => B2 b ∨ B1 b, ?_, n.only, fun b hb => ?_⟩
  · rw [e]
    exact ⟨B2, B1, k, t, fun b h2 h1 => by have := hk b h2; have := low b h1; omega, fun _ => Iff.rfl⟩
  · rcases hb with hb | hb
    · have := hk b hb; exact .inr (by omega)
    · exact n.new b hb
def LsAt (l : List F) (w : World) (o i : Value) (wr : World) : Prop :=
  ∃ k : Nat, k ≤ l.length ∧ i = .int .i64 k ∧ wr.ownsRow w.heap.size 9 1 o k (strs ((l.take k).map fun f => bs f.name)) ∧ Below w.heap.size w wr
set_option maxHeartbeats 4000000 in
theorem rlist_c (d : Nat) (s : St) (w : World) {B : Nat → Prop} (hd : RDisk w d s B) (hc : s.calls ≤ 1000000000000) :
    Calls Tryz.prog 45 #[.pointer (some ⟨d, 0, none⟩)] w (LsGot (RDiskA d s.call) s B w) := by
  obtain ⟨hok, hsort, v, hat, hB⟩ := hd
  have C := rcall_yes d s v w hat.1 (by have := hok.c0; omega) hc (by have := hok.a0; omega) (by have := hok.a1; omega)
  have HC := Lib.hid (fun w2 (k : RCalled d s v w w2) => (show RAt w2 d s.call v ∧ (∃ B', RDiskA d s.call w2 B' ∧ Nx B w B' w2) from by
    have r := RAt.called hat k
    exact ⟨r, rd_keep hB (ok_call hok) hsort r k.2⟩))
  have H200 := Lib.hid hok.m
  cases hdn : s.call.down with
  | true =>
    have ec : s.call.code = 5 := by rw [code_down, if_pos hdn]
    rw [ec] at C
    have HD := Lib.hid hdn
    have C := Lib.hid C
    clear hok hsort hat hB hdn ec
    go_enter Tryz.func45, Tryz.ntmps45
    go_wp2_with fail
    refine C.out.mono ?_; rintro e w2 ⟨rfl, k⟩
    have K := Lib.hid (HC.out w2 k)
    clear k C
    go_wp2_with fail
    go_ret2
    obtain ⟨B1, h1, n1⟩ := K.out.2
    exact ls_down HD.out h1 n1
  | false =>
    have ec : s.call.code = 0 := by rw [code_down, hdn]; rfl
    rw [ec] at C
    have HD := Lib.hid hdn
    have C := Lib.hid C
    have HFL := Lib.hid hat.2
    clear hok hsort hat hB hdn ec
    go_enter Tryz.func45, Tryz.ntmps45
    go_wp2_with fail
    refine C.out.mono ?_; rintro e w2 ⟨rfl, k⟩
    have K := Lib.hid (HC.out w2 k)
    clear k C
    obtain ⟨l, hl⟩ : ∃ l, s.fs = l := ⟨_, rfl⟩
    have HL := Lib.hid hl
    obtain ⟨n, hn⟩ : ∃ n, l.length = n := ⟨_, rfl⟩
    have HN := Lib.hid hn
    have h300 : n ≤ 300 := by rw [← hn, ← hl]; have := H200.out; omega
    have hst : LsAt l w2 (.slice none 0 0) (.int .i64 0) w2 := ⟨0, Nat.zero_le _, rfl, World.ownsRow_nil _ _ _ _, Below.refl _ _⟩
    have HST := Lib.hid hst
    have sh : ∃ a c, v = .slice a n c := by
      rcases K.out.1.2 with ⟨e, rfl⟩ | ⟨b, off, c, rfl, _⟩
      · refine ⟨none, 0, ?_⟩
        have : l = [] := by rw [← hl]; exact e
        rw [← hn, this]; rfl
      · exact ⟨some ⟨b, off, none⟩, c, by rw [← hn, ← hl]; rfl⟩
    obtain ⟨va, vc, hv⟩ := sh
    clear hl hn hst
    go_wp2_with fail
    go_loopw [5, 6] (fun o i wr => LsAt l w2 o i wr) (fun _ i _ => n - (intOf i).toNat)
    case atStart => exact HST.out
    case round =>
      obtain ⟨k, hk, rfl, ho, hb⟩ := hrel
      have hln := HN.out
      obtain ⟨i0, hi, hz0, hz1, hz2⟩ := info_parts infoS
      have HB := Lib.hid hb
      have HO := Lib.hid ho
      have c1 : wr.cell? ⟨d, 1, none⟩ = some (.slice va n vc) := by
        rw [cells_at (by rw [(Gr.of hb).block d (blk_lt2 K.out.1.1)]; exact K.out.1.1)]
        rw [hv]; rfl
      by_cases hlt : k < n
      · obtain ⟨y, hy⟩ : ∃ y, l[k]? = some y := ⟨_, List.getElem?_eq_getElem (by omega)⟩
        obtain ⟨b, off, hva, hrow⟩ : ∃ b off, va = some ⟨b, off, none⟩ ∧ FCells w2 b off l := by
          rcases K.out.1.2 with ⟨e, _⟩ | ⟨b, off, c, e, _, hr⟩
          · have : l = [] := by rw [← HL.out]; exact e
            rw [this] at hy; cases hy
          · rw [hv] at e
            simp only [Value.slice.injEq] at e
            exact ⟨b, off, e.1, by rw [← HL.out]; exact hr⟩
        obtain ⟨q0, q1, q2⟩ := fall3_at l k y hy
        have hrw := hrow.gr (Gr.of hb)
        rw [Nat.mul_comm 3 k] at q0
        have y0 := hrw.2 _ _ q0
        have htk : (l.take (k + 1)).map (fun f => bs f.name) = (l.take k).map (fun f => bs f.name) ++ [bs y.name] := by rw [List.take_add_one, hy]; simp
        have HTK := Lib.hid htk
        subst hva
        have q : (k : Int) < (n : Int) := by omega
        obtain ⟨V, hV⟩ : ∃ V, V = wr := ⟨_, rfl⟩
        rw [← hV]
        have hoV : V.ownsRow w2.heap.size 9 1 u5 k (strs ((l.take k).map fun f => bs f.name)) := by rw [hV]; exact HO.out
        have HBV := Lib.hid (show Below w2.heap.size w2 V by rw [hV]; exact HB.out)
        have z0 : V.cell? ⟨b, off + k * 3, none⟩ = some (.string (bs y.name)) := by rw [hV]; exact y0
        have z1 : V.cell? ⟨d, 1, none⟩ = some (.slice (some ⟨b, off, none⟩) n vc) := by rw [hV]; exact c1
        have hVs := HBV.out.size
        have hslen : (strs ((l.take k).map fun f => bs f.name)).length = k := by unfold strs; rw [List.length_map, List.length_map, List.length_take]; omega
        clear hV y0 c1 hy q0 q1 q2 hrw hrow hb ho htk hv
        go_wp2_with (first | (at_builtin; refine wpList_append_own _ rfl _ _ 23 rfl w2.heap.size 9 i0 (.string ⟨#[]⟩) 1 16 Tryz.underlying23 hi hz0 hz1 hz2 rfl (by decide) _ _ _ rfl (hoV.alloc _) ⟨V.heap.size, 0, none⟩ 1 1 [.string (bs y.name)] rfl rfl ?c1 ?c2 (by unfold maxLen; omega) (by omega) (by rw [World.size_alloc]; omega) ?_) | go_in)
        case c1 =>
          intro jj u hj
          match jj, hj with
          | 0, hj => simp at hj; subst hj; simp [Addr.add]
        case c2 => intro u hu; simp at hu; subst hu; rfl
        intro v' w' hw hg _
        have HB' := Lib.hid ((HBV.out.alloc hVs _).grown hg (by simp only [World.size_alloc]; omega) (fun q hq => (hoV.lt q hq).1))
        have HO' := Lib.hid hw
        clear hw hg z0 z1 hoV
        go_wp2_with fail
        refine ⟨⟨k + 1, by omega, by simp, ?_, HB'.out⟩, ?_⟩
        · have h := HO'.out
          rw [HTK.out]
          unfold strs at h ⊢
          rw [List.map_append]
          simpa [List.map_take] using h
        · simp [intOf]; omega
      · obtain rfl : k = n := by omega
        clear hb ho
        go_wp2_with fail
        go_ret2
        obtain ⟨B1, h1, n1⟩ := K.out.2
        have e0 : (l.take k).map (fun f => bs f.name) = namesL s := by unfold namesL; rw [HL.out, List.take_of_length_le (by omega)]
        have hO := HO.out
        have hx := hO.lt
        rw [e0] at hO
        have hnl : (namesL s).length = k := by unfold namesL; rw [List.length_map, HL.out, HN.out]
        exact ls_up (u := w2) HD.out (lies_own (by rw [hnl]; exact hO)) (fun x hq => (hx x hq).1) (fun b hb => (fr_rdisk d s.call).lo h1 b hb) n1.only.size ((fr_rdisk d s.call).fr h1 (Only.ofGr (B := fun _ => False) (Gr.of HB.out)) fun _ _ e => e) (n1.trans (Nx.gr (Gr.of HB.out)))
end Go.Proofs.YtignfbdgpgidpaaGreatDoor
/- The program's disk: List, its row apart from the disk. -/
namespace Go.Proofs.YtignfbdgpgidpaaGreatDoor
open Go.RowKit FsPlain
set_option linter.unusedVariables false
set_option linter.unusedSimpArgs false
set_option maxRecDepth 20000
def Listed18 (p : Nat) (s : St) (B : Nat → Prop) (w : World) (e : Ending) (w' : World) : Prop :=
  (s.call.down = true ∧ e = .returned (.tuple #[.slice none 0 0, .int .i64 5]) ∧ Next w p s.call B w') ∨
    (s.call.down = false ∧ ∃ v, e = .returned (.tuple #[v, .int .i64 0]) ∧ ∃ B', star (DiskA p s.call) (RowA v (listN s)) w' B' ∧ Nx B w B' w')
set_option maxHeartbeats 1000000 in
theorem list18_c (p : Nat) (s : St) (B : Nat → Prop) (w : World) (h : Disk w p s B) (h1 : s.calls ≤ 1000000000000) :
    Calls Tryz.prog 24 #[.pointer (some ⟨p, 0, none⟩)] w (Listed18 p s B w) := by
  obtain ⟨hs, m, L, hD⟩ := h
  have C := call_yes p m s w hD.heap (by have := hs.c0; omega) h1 (by have := hs.a0; omega) (by have := hs.a1; omega)
  have HS := Lib.hid hs
  have HD := Lib.hid hD
  clear hD hs
  have hc : s.call.code = if s.call.down = true then 5 else 0 := rfl
  cases hd : s.call.down
  · rw [hd] at hc
    rw [show s.call.code = 0 from hc] at C
    have HDN := Lib.hid hd
    clear hc hd
    go_enter Tryz.func24, Tryz.ntmps24
    go_wp2_with fail
    refine C.mono ?_; rintro e w2 ⟨rfl, k⟩
    have HK := Lib.hid k
    have D2 := Lib.hid (HD.out.called k)
    have N2 := Lib.hid (next_called HS.out D2.out k.2)
    have CN := Lib.hid (names_c p m s.call B L w2 (ok_call HS.out) D2.out)
    clear k C
    go_wp2_with fail
    refine (CN.out).mono ?_; rintro e w3 ⟨v, rfl, ho, g⟩
    have HO := Lib.hid ho
    have G := Lib.hid g
    have sh : ∃ a n c, v = .slice a n c := by
      rcases ho.2 with ⟨e, _⟩ | ⟨g, cap, cur, e, _⟩
      · exact ⟨none, 0, 0, e⟩
      · exact ⟨_, _, _, e⟩
    obtain ⟨a, n, c, rfl⟩ := sh
    clear ho g
    go_wp2_with fail
    go_ret2
    refine .inr ⟨HDN.out, _, rfl, ?_⟩
    obtain ⟨B', hdk, hol, hnw⟩ := N2.out
    have hfs : (L.map fun x => x.f.name) = s.fs.map fun f => f.name := by
      have h := D2.out.fs
      have h2 := congrArg (List.map fun f : F => f.name) h
      rw [List.map_map] at h2
      exact h2
    have ho := HO.out
    rw [hfs] at ho
    have e1 : strs (listN s) = ((s.fs.map fun f => f.name).mergeSort (fun x y => decide (x ≤ y))).map encStr := by
      unfold strs listN
      rw [List.map_map]
      rfl
    have e2 : (listN s).length = ((s.fs.map fun f => f.name).mergeSort (fun x y => decide (x ≤ y))).length := by unfold listN; rw [List.length_map]
    rw [← e1, ← e2] at ho
    obtain ⟨B2, k2, n2⟩ := row_of_own ho
    have hlow := fun b hb => Disk.low hdk b hb
    have hws : w.heap.size ≤ w2.heap.size := HK.out.2.size
    refine ⟨fun b => B' b ∨ B2 b, ⟨B', B2, hdk.only (Only.ofGr (B := fun _ => False) G.out) (fun _ _ e => e), k2, fun b h1 h2 => by have := hlow b h1; have := n2 b h2; omega, fun _ => Iff.rfl⟩, hol.trans (Only.ofGr G.out), fun b hb => ?_⟩
    rcases hb with hb | hb
    · exact hnw b hb
    · exact .inr (Nat.le_trans hws (n2 b hb))
  · rw [hd] at hc
    rw [show s.call.code = 5 from hc] at C
    have HDN := Lib.hid hd
    clear hc hd
    go_enter Tryz.func24, Tryz.ntmps24
    go_wp2_with fail
    refine C.mono ?_; rintro e w2 ⟨rfl, k⟩
    have N2 := Lib.hid (next_called HS.out (HD.out.called k) k.2)
    clear k C
    go_wp2_with fail
    go_ret2
    exact .inl ⟨HDN.out, rfl, N2.out⟩
end Go.Proofs.YtignfbdgpgidpaaGreatDoor
/- The contract of a file's fall; the order of the names. -/
namespace Go.Proofs.YtignfbdgpgidpaaGreatDoor
open Go.RowKit Go.Maps FsPlain
set_option linter.unusedVariables false
set_option linter.unusedSimpArgs false
set_option maxRecDepth 20000
theorem before_le : ∀ a b : List UInt8, bytesBefore a b = true → a ≤ b
  | [], b, _ => List.nil_le b
  | _ :: _, [], h => by simp [bytesBefore] at h
  | x :: r, y :: q, h => by
    simp only [bytesBefore, Bool.or_eq_true, Bool.and_eq_true, decide_eq_true_eq, beq_iff_eq] at h
    rw [List.cons_le_cons_iff]
    rcases h with h | ⟨h1, h2⟩
    · exact .inl h
    · exact .inr ⟨h1, before_le r q h2⟩
theorem DiskAt.sorted {w : World} {p m : Nat} {s : St} {B : Nat → Prop} {L : List Pl} (h : DiskAt w p s B m L) : (L.map fun x => x.f.name).mergeSort (fun x y => decide (x ≤ y)) = L.map fun x => x.f.name := by
  obtain ⟨es, clock, _, F, _, hD⟩ := h.own
  have hp := sorted_sorted lawS.one _ (fit_keys F) (fit_apart lawS F)
  unfold ents at hD
  simp only [DataW.map.injEq] at hD
  rw [← hD] at hp
  rw [List.pairwise_map] at hp
  refine List.mergeSort_of_pairwise ?_
  rw [List.pairwise_map]
  exact hp.imp fun h => by simpa using before_le _ _ h
def stays (f : F) (k : Int) : Nat := f.kept + min (max k 0).toNat (f.data.length - f.kept)
end Go.Proofs.YtignfbdgpgidpaaGreatDoor
/- The contract of Rise: by a walk of its loop over the names. -/
namespace Go.Proofs.YtignfbdgpgidpaaGreatDoor
open Go.RowKit Go.Maps FsPlain
set_option linter.unusedVariables false
set_option linter.unusedSimpArgs false
set_option maxRecDepth 20000
end Go.Proofs.YtignfbdgpgidpaaGreatDoor

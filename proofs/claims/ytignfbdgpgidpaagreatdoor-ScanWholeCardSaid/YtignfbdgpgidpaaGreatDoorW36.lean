/- In one text: ScRt. -/
import Derived.Test.YtignfbdgpgidpaaGreatDoorW35
import Derived.Test.YtignfbdgpgidpaaGreatDoorW31
import Derived.Deep.RegionHeld3
/- The program's layer 22: a file read through; Whole. -/
namespace Go.Proofs.YtignfbdgpgidpaaGreatDoor
open Go.RowKit FsPlain CrcPlain OctPlain FramePlain RecPlain RdPlain ScPlain
set_option linter.unusedVariables false
set_option linter.unusedSimpArgs false
set_option maxRecDepth 20000
section
variable {A : Nat → Prop} {x p q : Nat} {s : St} {b : Bu} {m : N3} {N : List Asn} {w u : World}
theorem open22 (h : Qs A (DiskA p s :: BuA q b :: N) w u) (nm : ByteArray) (size : Int) (hz : I64 size) (hn : nm.size ≤ 24) (hm : rightB nm.data.toList = true) (hc : s.calls ≤ 100000000000) (R : St × Bu × Int × Nat) (hR : openN s b nm size = R) :
    Calls Tryz.prog 102 #[.pointer (some ⟨p, 0, none⟩), .pointer (some ⟨q, 0, none⟩), .string nm, .int .i64 size] u fun e w' =>
      (R.2.2.1 = 0 ∧ ∃ x, e = .returned (.tuple #[.pointer (some ⟨x, 0, none⟩), .int .i64 0]) ∧ Qs A (RP3 x p q ⟨R.1, R.2.1, newRs nm size R.2.2.2⟩ :: N) w w') ∨
      (R.2.2.1 ≠ 0 ∧ e = .returned (.tuple #[.pointer none, .int .i64 R.2.2.1]) ∧ Qs A (DiskA p R.1 :: BuA q R.2.1 :: N) w w') := by
  subst hR
  have hs : s.ok := by obtain ⟨_, k⟩ := h.part 0 rfl; exact k.1
  obtain ⟨B, k, K⟩ := Qs.pre (K := [DiskA p s, BuA q b]) (M := N) h
  refine (rp_open p q s b nm size hz hs hn hm hc u B k).mono ?_
  rintro e w' (⟨h0, x, rfl, B', h1, h2⟩ | ⟨h0, rfl, B', h1, h2⟩)
  · exact .inl ⟨h0, x, rfl, K [_] w' B' ⟨fr_rp3 _ _ _ _, trivial⟩ (stars_one h1) h2⟩
  · exact .inr ⟨h0, rfl, K [DiskA p _, BuA q _] w' B' ⟨fr_disk _ _, fr_bu _ _, trivial⟩ h1 h2⟩
theorem next22 (h : Qs A (RP3 x p q m :: N) w u) (hok : m.ok) (hi : m.inv) (ht : m.x.told ≤ 50000) (hc : m.s.calls ≤ 1000000000000) :
    Calls Tryz.prog 103 #[.pointer (some ⟨x, 0, none⟩)] u fun e w' => e = .returned (ansV (nextN m).2) ∧ Qs A (RP3 x p q (nextN m).1 :: N) w w' :=
  Qs.call0 (X := fun e _ => e = .returned (ansV (nextN m).2)) h (fr_rp3 _ _ _ _) fun B1 k => rp_next x p q m hok hi ht hc u B1 k
theorem info22 (h : Qs A (RP3 x p q m :: N) w u) (hi : m.inv) :
    Calls Tryz.prog 104 #[.pointer (some ⟨x, 0, none⟩)] u fun e w' => e = .returned (.tuple #[.agg #[.int .i64 m.x.ec, .int .u32 m.x.em], .bool m.x.whole]) ∧ Qs A (RP3 x p q m :: N) w w' := by
  obtain ⟨B, k⟩ := h.part 0 rfl
  exact (rp_info x p q m hi u B k).mono fun e w' ⟨he, g⟩ => ⟨he, h.on g⟩
end
theorem info_nil22 (w : World) : Calls Tryz.prog 104 #[.pointer none] w fun e w' => e = .returned (.tuple #[.agg #[.int .i64 0, .int .u32 0], .bool false]) ∧ Gr w w' := by
  have hb := heap_alloc_new w (.cells #[.int .i64 0, .int .u32 0] 50)
  obtain ⟨W, hW⟩ : ∃ W, w.alloc (.cells #[.int .i64 0, .int .u32 0] 50) = W := ⟨_, rfl⟩
  have gW : Gr w W := by rw [← hW]; exact gr22 w _
  rw [hW] at hb
  obtain ⟨b0, b1, f0, f1⟩ := info_cells hb
  have HW := Lib.hid hW
  have HG := Lib.hid gW
  clear hb hW gW
  go_enter Tryz.func104, Tryz.ntmps104
  go_wp2_with fail
  rw [HW.out]
  exact bodyPost_ret (v := .tuple #[.agg #[.int .i64 0, .int .u32 0], .bool false]) (two_ret Tryz.results104 rfl rfl b0 b1) rfl ⟨rfl, HG.out⟩
def mea22 (x : Nat) (v : Value) (wr : World) : Nat := match v with
  | .bool true => 4001 - (match wr.cell? ⟨x, 8, none⟩ with
    | some (.int _ k) => k.toNat
    | _ => 0)
  | _ => 0
theorem mea_is {A : Nat → Prop} {x p q : Nat} {m : N3} {N : List Asn} {w u : World} (h : Qs A (RP3 x p q m :: N) w u) (hi : m.inv) : mea22 x (.bool true) u = 4001 - m.x.told := by
  obtain ⟨B, k⟩ := h.part 0 rfl
  obtain ⟨_, c8, _⟩ := rp_cells hi k
  unfold mea22
  simp only [c8, Int.toNat_natCast]
def RtAt (A : Nat → Prop) (x p q : Nat) (s : St) (b : Bu) (D : ByteArray) (size : Int) (N : List Asn) (w : World) (v10 v9 : Value) (wr : World) : Prop :=
  ∃ (m : N3) (more : Bool) (code : Int), v10 = .bool more ∧ v9 = .int .i64 code ∧ Qs A (RP3 x p q m :: N) w wr ∧ ((more = true ∧ code = 0 ∧ ∃ got, RtN s b D size m got) ∨ (more = false ∧ RtE s b D size m code))
theorem info_set {u : World} {q : Nat} {x0 y0 : Value} (hc : u.heap[q]? = some (.cells #[x0, y0] 50 (0, 0))) (x y : Value) :
    ((u.setCell ⟨q, 0, none⟩ x).setCell ⟨q, 1, none⟩ y).heap[q]? = some (.cells #[x, y] 50 (0, 0)) := by
  rw [cells_set (cells_set hc 0 _) 1 _]; rfl
theorem info_results {fn : Func} {p q : Tmp} (hfn : fn.results = #[.cell p 50, .tmp q]) {tmps : Array Value} {o : Nat} {x y v : Value} {w : World} (hp : tmps.getD p undef = .pointer (some ⟨o, 0, none⟩)) (hv : tmps.getD q undef = v) (hb : w.heap[o]? = some (.cells #[x, y] 50 (0, 0))) :
    (results fn tmps).run Tryz.prog w = .ok (.tuple #[.agg #[x, y], v]) w := by
  have c0 : w.cell? ⟨o, 0, none⟩ = some x := by rw [cells_at hb]; rfl
  have c1 : w.cell? ⟨o, 1, none⟩ = some y := by rw [cells_at hb]; rfl
  rw [results_cell_tmp hfn, hp, hv]
  simp [go_sem, c0, c1]
theorem info_ret1 {fn : Func} {p : Tmp} (hfn : fn.results = #[.cell p 50]) {tmps : Array Value} {o : Nat} {x y : Value} {w : World} (hp : tmps.getD p undef = .pointer (some ⟨o, 0, none⟩)) (hb : w.heap[o]? = some (.cells #[x, y] 50 (0, 0))) :
    (results fn tmps).run Tryz.prog w = .ok (.agg #[x, y]) w := by
  have c0 : w.cell? ⟨o, 0, none⟩ = some x := by rw [cells_at hb]; rfl
  have c1 : w.cell? ⟨o, 1, none⟩ = some y := by rw [cells_at hb]; rfl
  have hp2 := hp
  rw [Array.getD_eq_getD_getElem?] at hp2
  simp [results, hfn, hp2, go_sem, c0, c1]
theorem rt_store {A : Nat → Prop} {r : Nat} {N : List Asn} {w u : World} {c d : Value} (h : Qs A (Blk r #[.int .i64 0, .int .u32 0] 50 :: N) w u) :
    (u.alloc (.cells #[c, d] 50)).frozen? ⟨r, 0, none⟩ = false ∧ (u.alloc (.cells #[c, d] 50)).frozen? ⟨r, 1, none⟩ = false ∧ (u.alloc (.cells #[c, d] 50)).cell? ⟨r, 0, none⟩ = some (.int .i64 0) ∧ (u.alloc (.cells #[c, d] 50)).cell? ⟨r, 1, none⟩ = some (.int .u32 0) ∧
    (((u.alloc (.cells #[c, d] 50)).setCell ⟨r, 0, none⟩ c).setCell ⟨r, 1, none⟩ d).heap[r]? = some (.cells #[c, d] 50 (0, 0)) ∧ Qs A N w (((u.alloc (.cells #[c, d] 50)).setCell ⟨r, 0, none⟩ c).setCell ⟨r, 1, none⟩ d) := by
  have h1 := h.on (gr22 u (.cells #[c, d] 50))
  have hb := h1.blk 0 rfl
  have h2 := (h1.set 0 rfl 0 c).set 0 rfl 1 d
  obtain ⟨a0, a1, a2, a3⟩ := info_cells hb
  exact ⟨a2, a3, a0, a1, info_set hb c d, h2.tail⟩
def RtGot (A : Nat → Prop) (p q : Nat) (s : St) (b : Bu) (nm : ByteArray) (size : Int) (M : List Asn) (w : World) (e : Ending) (w' : World) : Prop :=
  ∃ (s' : St) (b' : Bu) (ec em code : Int), e = .returned (.tuple #[.agg #[.int .i64 ec, .int .u32 em], .int .i64 code]) ∧ Quiet s s' ∧ s'.calls ≤ s.calls + 100000 ∧ (b'.m = b.m ∧ b'.now = b.now ∧ b'.high ≤ max b.high (b.now + 4)) ∧ RtSays s nm.data.toList size ec em code ∧ Qs A (DiskA p s' :: BuA q b' :: M) w w'
set_option maxHeartbeats 4000000 in
theorem rthrough_c {A : Nat → Prop} {M : List Asn} {w u : World} {p q : Nat} {s : St} {b : Bu} {nm : ByteArray} {size count sum : Int} (h : Qs A (DiskA p s :: BuA q b :: M) w u) (hd : s.down = false) (ha : s.ahead = -1) (hc : s.calls ≤ 1000000000) (hb : b.now + 4 ≤ b.m) (hz : (bytes22 s nm.data.toList).length ≤ 3000) (hn : rightB nm.data.toList = true) (hk : I64 size) :
    Calls Tryz.prog 66 #[.pointer (some ⟨p, 0, none⟩), .pointer (some ⟨q, 0, none⟩), .agg #[.string nm, .int .i64 size, .int .i64 count, .int .u32 sum]] u (RtGot A p q s b nm size M w) := by
  have hs : s.ok := by obtain ⟨_, k⟩ := h.part 0 rfl; exact k.1
  have hbok : b.ok := by obtain ⟨_, k⟩ := h.part 1 rfl; exact k.1
  have hnm : nm.size ≤ 24 := by
    have := hn
    unfold rightB at this
    simp only [Bool.and_eq_true, decide_eq_true_eq] at this
    exact this.2.2
  -- the argument's block, and the result's
  have d1 := (Qs.blk_new h #[.string nm, .int .i64 size, .int .i64 count, .int .u32 sum] 48 rfl)
  obtain ⟨V1, hV1⟩ : ∃ V, u.alloc (.cells #[.string nm, .int .i64 size, .int .i64 count, .int .u32 sum] 48) = V := ⟨_, rfl⟩
  rw [hV1] at d1
  have d2 := (Qs.blk_new d1 #[.int .i64 0, .int .u32 0] 50 rfl)
  obtain ⟨V2, hV2⟩ : ∃ V, V1.alloc (.cells #[.int .i64 0, .int .u32 0] 50) = V := ⟨_, rfl⟩
  rw [hV2] at d2
  have hVs : V1.heap.size = u.heap.size + 1 := by rw [← hV1]; simp
  rw [hVs] at d2
  obtain ⟨f, hf⟩ : ∃ f, u.heap.size = f := ⟨_, rfl⟩
  rw [hf] at d2
  have HF := Lib.hid hf
  have HV := Lib.hid (show (u.alloc (.cells #[.string nm, .int .i64 size, .int .i64 count, .int .u32 sum] 48)).alloc (.cells #[.int .i64 0, .int .u32 0] 50) = V2 from by rw [hV1, hV2])
  have d3 : Qs A (DiskA p s :: BuA q b :: Blk (f + 1) #[.int .i64 0, .int .u32 0] 50 :: Blk f #[.string nm, .int .i64 size, .int .i64 count, .int .u32 sum] 48 :: M) w V2 :=
    d2.perm ((List.perm_append_comm (l₁ := [Blk (f + 1) #[.int .i64 0, .int .u32 0] 50, Blk f #[.string nm, .int .i64 size, .int .i64 count, .int .u32 sum] 48]) (l₂ := [DiskA p s, BuA q b])).append_right M)
  have kb := d3.blk 3 rfl
  have c0 : V2.cell? ⟨f, 0, none⟩ = some (.string nm) := by rw [cells_at kb]; rfl
  have c1 : V2.cell? ⟨f, 1, none⟩ = some (.int .i64 size) := by rw [cells_at kb]; rfl
  obtain ⟨R, hR⟩ : ∃ R, openN s b nm size = R := ⟨_, rfl⟩
  have OP := Lib.hid (open22 d3 nm size hk hnm hn (by omega) R hR)
  have n0 := hbok.n0
  have TG := Lib.hid (take_give n0 hb)
  -- what Open tells
  have HOW : (R.2.2.1 ≠ 0 ∧ Quiet s R.1 ∧ R.1.calls ≤ s.calls + 2 ∧ (R.2.1.m = b.m ∧ R.2.1.now = b.now ∧ R.2.1.high ≤ max b.high (b.now + 4)) ∧ RtSays s nm.data.toList size 0 0 R.2.2.1) ∨ (R.2.2.1 = 0 ∧ (sizeB size = true ∧ (s.get nm.data.toList).isSome = true) ∧ RtN s b (bs (bytes22 s nm.data.toList)) size ⟨R.1, R.2.1, newRs nm size R.2.2.2⟩ []) := by
    cases hsz : sizeB size with
    | false =>
      have e : R = (s, b, 1, 0) := by rw [← hR]; unfold openN; rw [if_pos hsz]
      rw [e]
      exact .inl ⟨by show (1 : Int) ≠ 0; decide, Quiet.refl s, by show s.calls ≤ s.calls + 2; omega, ⟨rfl, rfl, by show b.high ≤ _; omega⟩, .inl ⟨hsz, rfl⟩⟩
    | true =>
      cases hg : s.get nm.data.toList with
      | none =>
        have e : R = (s.call, (b.take 4).give 4, 2, 0) := by rw [← hR]; exact open_none hd ha hg hsz n0 hb
        rw [e]
        exact .inl ⟨by show (2 : Int) ≠ 0; decide, quiet_call s, by show s.calls + 1 ≤ s.calls + 2; omega, TG.out, .inr (.inl ⟨hsz, hg, rfl⟩)⟩
      | some y =>
        have hD : HasD s nm.data.toList (bs (bytes22 s nm.data.toList)) := ⟨y, hg, by unfold bytes22; rw [hg]; simp [bs]⟩
        obtain ⟨k1, k2, ⟨k3, k4⟩ | ⟨k3, k4, k5⟩⟩ := rt_open hs hbok hd ha hD hnm hn hsz hb R hR
        · exact .inr ⟨k3, ⟨rfl, rfl⟩, k4⟩
        · refine .inl ⟨by rw [k3]; decide, k1, k2, by rw [k5]; exact TG.out, .inr (.inr (.inl ⟨hsz, by rw [hg]; rfl, k4, k3⟩))⟩
  have HD := Lib.hid hd
  have HA := Lib.hid ha
  have HC := Lib.hid hc
  have HDS : (bs (bytes22 s nm.data.toList)).size ≤ 3000 := by rw [bs_size]; exact hz
  clear h hs hbok d1 hV1 d2 hV2 hVs d3 kb hR n0 hf hd ha hz hn hb hc hk hnm
  rcases HOW with ⟨h0, hq, hcl, hbu, hsy⟩ | ⟨h0, hsz, hrt⟩
  · have HB := Lib.hid (And.intro hq (And.intro hcl (And.intro hbu hsy)))
    obtain ⟨code, hcode⟩ : ∃ c, R.2.2.1 = c := ⟨_, rfl⟩
    rw [hcode] at OP h0 HB
    have e0 : (code == 0) = false := by simpa using h0
    clear hq hcl hbu hsy hcode TG HDS
    go_enter Tryz.func66, Tryz.ntmps66
    go_wp2_with fail
    rw [HF.out, HV.out]
    refine OP.out.mono ?_; rintro e w2 (⟨k0, _⟩ | ⟨_, rfl, q2⟩)
    · exact absurd k0 h0
    have Q2 := Lib.hid q2
    have IN := Lib.hid (info_nil22 w2)
    clear q2 OP h0 c0 c1
    go_wp2_with fail
    go_loopw [10, 9] (fun a c wr => a = .bool false ∧ c = .int .i64 code ∧ wr = w2) (fun _ _ _ => 0)
    case atStart => exact ⟨rfl, rfl, rfl⟩
    case round =>
      obtain ⟨rfl, rfl, rfl⟩ := hrel
      go_wp2_with fail
      refine IN.out.mono ?_; rintro e w3 ⟨rfl, g3⟩
      have Q3 := Lib.hid ((Q2.out.on g3).perm (List.perm_middle (l₁ := [DiskA p R.1, BuA q R.2.1])))
      obtain ⟨z0, z1, z2, z3, ST⟩ := rt_store (c := .int .i64 0) (d := .int .u32 0) Q3.out
      have ST := Lib.hid ST
      clear g3 IN Q2
      go_wp2_with fail
      refine bodyPost_ret (by exact info_results rfl rfl rfl ST.out.1) rfl ⟨R.1, R.2.1, 0, 0, code, rfl, HB.out.1, by have := HB.out.2.1; omega, HB.out.2.2.1, HB.out.2.2.2, ?_⟩
      exact (ST.out.2.perm (List.perm_middle (l₁ := [DiskA p R.1, BuA q R.2.1]))).tail
  · obtain ⟨D, hDq⟩ : ∃ D, bs (bytes22 s nm.data.toList) = D := ⟨_, rfl⟩
    rw [hDq] at hrt HDS
    have HDQ := Lib.hid hDq
    have HSZ := Lib.hid hsz
    have HRT := Lib.hid hrt
    have HDS := Lib.hid HDS
    clear hDq hsz hrt
    go_enter Tryz.func66, Tryz.ntmps66
    go_wp2_with fail
    rw [HF.out, HV.out]
    refine OP.out.mono ?_; rintro e w2 (⟨_, x, rfl, q2⟩ | ⟨k0, _⟩)
    rotate_left
    · exact absurd h0 k0
    have HST := Lib.hid (show RtAt A x p q s b D size (Blk (f + 1) #[.int .i64 0, .int .u32 0] 50 :: Blk f #[.string nm, .int .i64 size, .int .i64 count, .int .u32 sum] 48 :: M) w (.bool true) (.int .i64 0) w2 from ⟨_, true, 0, rfl, rfl, q2, .inl ⟨rfl, rfl, [], HRT.out⟩⟩)
    clear q2 OP h0 HRT c0 c1
    go_wp2_with fail
    go_loopw [10, 9] (fun a c wr => RtAt A x p q s b D size (Blk (f + 1) #[.int .i64 0, .int .u32 0] 50 :: Blk f #[.string nm, .int .i64 size, .int .i64 count, .int .u32 sum] 48 :: M) w a c wr) (fun a _ wr => mea22 x a wr)
    case atStart => exact HST.out
    case round =>
      obtain ⟨m, more, code, rfl, rfl, hQ, hor⟩ := hrel
      rcases hor with ⟨rfl, rfl, got, hr⟩ | ⟨rfl, hE⟩
      · have hfew := hr.rd.few
        have htold := hr.rd.told
        have hds := HDS.out
        have hcl := hr.calls
        have hcc := HC.out
        have NX := Lib.hid (next22 hQ hr.rd.ok hr.rd.inv (by omega) (by omega))
        have ME := Lib.hid (mea_is hQ hr.rd.inv)
        have nx := rt_next hr HD.out HA.out HDS.out
        have TD := Lib.hid (show m.x.told = got.length ∧ got.length ≤ 3000 from ⟨htold, by omega⟩)
        obtain ⟨⟨M', a, pp, er⟩, hM⟩ : ∃ X, nextN m = X := ⟨_, rfl⟩
        rw [hM] at NX nx
        unfold ansV at NX
        clear hM hQ hr HST hfew htold hds hcl hcc
        rcases nx with ⟨rfl, rfl, hr'⟩ | ⟨rfl, hE'⟩
        · have HR := Lib.hid hr'
          clear hr'
          go_wp2_with fail
          refine NX.out.mono ?_; rintro e w3 ⟨rfl, q3⟩
          have Q3 := Lib.hid q3
          clear q3 NX
          go_wp2_with fail
          refine ⟨⟨M', true, 0, rfl, rfl, Q3.out, .inl ⟨rfl, rfl, _, HR.out⟩⟩, ?_⟩
          rw [mea_is Q3.out HR.out.rd.inv, ME.out, HR.out.rd.told, TD.out.1, List.length_append, List.length_singleton]
          have := TD.out.2
          omega
        · have HR := Lib.hid hE'
          clear hE'
          go_wp2_with fail
          refine NX.out.mono ?_; rintro e w3 ⟨rfl, q3⟩
          have Q3 := Lib.hid q3
          clear q3 NX
          go_wp2_with fail
          refine ⟨⟨M', false, er, rfl, rfl, Q3.out, .inr ⟨rfl, HR.out⟩⟩, ?_⟩
          rw [ME.out, TD.out.1]
          have := TD.out.2
          show 0 < _
          omega
      · have IN := Lib.hid (info22 hQ hE.inv)
        have HE := Lib.hid hE
        obtain ⟨ec, hec⟩ : ∃ k, m.x.ec = k := ⟨_, rfl⟩
        obtain ⟨em, hem⟩ : ∃ k, m.x.em = k := ⟨_, rfl⟩
        obtain ⟨wh, hwh⟩ : ∃ k, m.x.whole = k := ⟨_, rfl⟩
        rw [hec, hem, hwh] at IN
        have HEC := Lib.hid (And.intro hec hem)
        clear hQ hE HST hec hem hwh
        go_wp2_with fail
        refine IN.out.mono ?_; rintro e w3 ⟨rfl, q3⟩
        have Q3 := Lib.hid (q3.perm (List.Perm.swap _ _ _))
        obtain ⟨z0, z1, z2, z3, ST⟩ := rt_store (c := .int .i64 ec) (d := .int .u32 em) Q3.out
        have ST := Lib.hid ST
        clear q3 IN Q3
        go_wp2_with fail
        refine bodyPost_ret (by exact info_results rfl rfl rfl ST.out.1) rfl ⟨m.s, m.b, ec, em, code, rfl, HE.out.disk, ?_, by rw [HE.out.bud]; exact TG.out, ?_, ?_⟩
        · have := HE.out.calls
          have := HDS.out
          omega
        · obtain ⟨k1, k2⟩ := HSZ.out
          rcases HE.out.how with ⟨k3, L, k4, k5, k6⟩ | ⟨k3, k4⟩
          · exact .inr (.inr (.inr ⟨k1, k2, ⟨L, by rw [HDQ.out]; exact k4, by rw [← HEC.out.1]; exact k5, by rw [← HEC.out.2]; exact k6⟩, k3⟩))
          · exact .inr (.inr (.inl ⟨k1, k2, by rw [HDQ.out]; exact k4, k3⟩))
        · exact rp_back HE.out.opn ((ST.out.2.perm (List.Perm.swap _ _ _)).tail)
theorem told22_c (nm : ByteArray) (size count sum : Int) (w : World) : Calls Tryz.prog 67 #[.agg #[.string nm, .int .i64 size, .int .i64 count, .int .u32 sum]] w fun e w' => e = .returned (.agg #[.int .i64 count, .int .u32 sum]) ∧ Gr w w' := by
  have y0 := heap_alloc_new w (.cells #[.string nm, .int .i64 size, .int .i64 count, .int .u32 sum] 48)
  have g1 := gr22 w (.cells #[.string nm, .int .i64 size, .int .i64 count, .int .u32 sum] 48)
  obtain ⟨V, hV⟩ : ∃ V, w.alloc (.cells #[.string nm, .int .i64 size, .int .i64 count, .int .u32 sum] 48) = V := ⟨_, rfl⟩
  have hVz : V.heap.size = w.heap.size + 1 := by rw [← hV]; simp
  rw [hV] at y0 g1
  have y1 := heap_alloc_new V (.cells #[.int .i64 count, .int .u32 sum] 50)
  have g2 := gr22 V (.cells #[.int .i64 count, .int .u32 sum] 50)
  rw [hVz] at y1
  have x2 : V.cell? ⟨w.heap.size, 2, none⟩ = some (.int .i64 count) := by rw [cells_at y0]; rfl
  have x3 : V.cell? ⟨w.heap.size, 3, none⟩ = some (.int .u32 sum) := by rw [cells_at y0]; rfl
  have ST := Lib.hid y1
  have GF := Lib.hid (g1.trans g2)
  have HV := Lib.hid hV
  clear y0 g1 hV hVz y1 g2
  go_enter Tryz.func67, Tryz.ntmps67
  go_wp2_with fail
  rw [HV.out]
  exact bodyPost_ret (by exact info_ret1 rfl rfl ST.out) rfl ⟨rfl, GF.out⟩
theorem info_eqd (n m n' m' : Int) (r : Bool) (h : decide (n = n' ∧ m = m') = r) (w : World) : (binOp .eql 50 (.agg #[.int .i64 n, .int .u32 m]) (.agg #[.int .i64 n', .int .u32 m'])).run Tryz.prog w = .ok (.bool r) w := by
  subst h
  rw [run_eql_struct]
  by_cases h : n = n' ∧ m = m'
  · rw [h.1, h.2, info_same]
    simp [go_sem]
  · rw [info_off n m n' m' h, decide_eq_false h]
    rfl
set_option maxHeartbeats 4000000 in
theorem pwhole22_c {A : Nat → Prop} {M : List Asn} {w u : World} {p q : Nat} {s : St} {b : Bu} {nm : ByteArray} {size count sum : Int} (h : Qs A (DiskA p s :: BuA q b :: M) w u) (hd : s.down = false) (ha : s.ahead = -1) (hc : s.calls ≤ 1000000000) (hb : b.now + 4 ≤ b.m) (hz : (bytes22 s nm.data.toList).length ≤ 3000) (hn : rightB nm.data.toList = true) (hk : I64 size) (hj : I64 count) :
    Calls Tryz.prog 33 #[.pointer (some ⟨p, 0, none⟩), .pointer (some ⟨q, 0, none⟩), .agg #[.string nm, .int .i64 size, .int .i64 count, .int .u32 sum]] u fun e w' => ∃ (s' : St) (b' : Bu) (r : Bool), e = .returned (.tuple #[.bool r, .int .i64 (if sizeB size = true then 0 else 1)]) ∧ RdPlain.Quiet s s' ∧ s'.calls ≤ s.calls + 100000 ∧ (b'.m = b.m ∧ b'.now = b.now ∧ b'.high ≤ max b.high (b.now + 4)) ∧ (r = true ↔ WholeIs s nm.data.toList size count sum) ∧ Qs A (DiskA p s' :: BuA q b' :: M) w w' := by
  have d1 := (Qs.blk_new h #[.string nm, .int .i64 size, .int .i64 count, .int .u32 sum] 48 rfl)
  obtain ⟨V, hV⟩ : ∃ V, u.alloc (.cells #[.string nm, .int .i64 size, .int .i64 count, .int .u32 sum] 48) = V := ⟨_, rfl⟩
  rw [hV] at d1
  obtain ⟨f, hf⟩ : ∃ f, u.heap.size = f := ⟨_, rfl⟩
  rw [hf] at d1
  have d2 : Qs A (DiskA p s :: BuA q b :: Blk f #[.string nm, .int .i64 size, .int .i64 count, .int .u32 sum] 48 :: M) w V := d1.perm (List.perm_middle (l₁ := [DiskA p s, BuA q b])).symm
  have RT := Lib.hid (rthrough_c (count := count) (sum := sum) d2 hd ha hc hb hz hn hk)
  have kb := d2.blk 2 rfl
  have c0 : V.cell? ⟨f, 0, none⟩ = some (.string nm) := by rw [cells_at kb]; rfl
  have c1 : V.cell? ⟨f, 1, none⟩ = some (.int .i64 size) := by rw [cells_at kb]; rfl
  have c2 : V.cell? ⟨f, 2, none⟩ = some (.int .i64 count) := by rw [cells_at kb]; rfl
  have c3 : V.cell? ⟨f, 3, none⟩ = some (.int .u32 sum) := by rw [cells_at kb]; rfl
  have HV := Lib.hid hV
  have HF := Lib.hid hf
  obtain ⟨rc, hrc⟩ : ∃ k : Int, (if sizeB size = true then 0 else 1) = k := ⟨_, rfl⟩
  rw [hrc]
  have HRC := Lib.hid hrc
  clear h hd ha hc hb hz hn hk hj d1 hV hf d2 kb hrc
  go_enter Tryz.func33, Tryz.ntmps33
  go_wp2_with fail
  rw [HF.out, HV.out]
  refine RT.out.mono ?_; rintro e w2 ⟨s', b', ec, em, code, rfl, hq, hcl, hbu, hsy, q2⟩
  have HB := Lib.hid (And.intro hq (And.intro hcl hbu))
  have Q2 := Lib.hid q2
  have HS := Lib.hid hsy
  have FIN := Lib.hid (fun u (g : Gr w2 u) => ((q2.on g).perm (List.perm_middle (l₁ := [DiskA p s', BuA q b']))).tail)
  have hcd := rt_code hsy
  clear hq hcl hbu RT c0 c1 c2 c3
  -- the end's own block
  have eb := heap_alloc_new w2 (.cells #[.int .i64 ec, .int .u32 em] 50)
  have ge := gr22 w2 (.cells #[.int .i64 ec, .int .u32 em] 50)
  have fb := (q2.on ge).blk 2 rfl
  clear q2 hsy
  obtain ⟨X, hX⟩ : ∃ X, w2.alloc (.cells #[.int .i64 ec, .int .u32 em] 50) = X := ⟨_, rfl⟩
  obtain ⟨y, hy⟩ : ∃ y, w2.heap.size = y := ⟨_, rfl⟩
  rw [hX] at eb ge fb
  rw [hy] at eb
  have SX := Lib.hid (show ∀ v, Gr X v → (Gr X v ∧ v.cell? ⟨y, 0, none⟩ = some (.int .i64 ec) ∧ v.cell? ⟨y, 1, none⟩ = some (.int .u32 em) ∧ v.cell? ⟨f, 0, none⟩ = some (.string nm) ∧ v.cell? ⟨f, 1, none⟩ = some (.int .i64 size) ∧ v.cell? ⟨f, 2, none⟩ = some (.int .i64 count) ∧ v.cell? ⟨f, 3, none⟩ = some (.int .u32 sum)) from fun v g => by
    have e1 := (Below.block g y (lt_of_block eb)).trans eb
    have f1 := (Below.block g f (lt_of_block fb)).trans fb
    obtain ⟨z0, z1, _, _⟩ := info_cells e1
    exact ⟨g, z0, z1, by rw [cells_at f1]; rfl, by rw [cells_at f1]; rfl, by rw [cells_at f1]; rfl, by rw [cells_at f1]; rfl⟩)
  have GE := Lib.hid ge
  have HX := Lib.hid hX
  have HY := Lib.hid hy
  have TL := Lib.hid (fun v => told22_c nm size count sum v)
  clear eb ge fb hX hy
  by_cases h0 : code = 0
  · subst h0
    have hrc0 : rc = 0 := by
      rcases hcd with ⟨_, h⟩ | ⟨h, _⟩
      · cases h
      · rw [← HRC.out, if_pos h]
    subst hrc0
    have hw := rt_whole HS.out count sum
    obtain ⟨r, hr⟩ : ∃ r : Bool, decide (ec = count ∧ em = sum) = r := ⟨_, rfl⟩
    have IE := info_eqd ec em count sum r hr
    have HR := Lib.hid (show r = true ↔ WholeIs s nm.data.toList size count sum from by rw [← hr, decide_eq_true_iff]; exact hw)
    obtain ⟨GX, x0, x1, x2, x3, x4, x5⟩ := SX.out X (Gr.refl _)
    clear hw hr hcd
    go_wp2_with fail
    rw [HX.out]
    rw [HY.out]
    go_region_held3 (fun v => Gr X v ∧ v.cell? ⟨y, 0, none⟩ = some (.int .i64 ec) ∧ v.cell? ⟨y, 1, none⟩ = some (.int .u32 em) ∧ v.cell? ⟨f, 0, none⟩ = some (.string nm) ∧ v.cell? ⟨f, 1, none⟩ = some (.int .i64 size) ∧ v.cell? ⟨f, 2, none⟩ = some (.int .i64 count) ∧ v.cell? ⟨f, 3, none⟩ = some (.int .u32 sum))
      (first | exact SX.out _ (grd22 (by assumption)) | exact SX.out _ (by assumption) | go_keep)
      ((go_at_call 67; (with_reducible refine (TL.out _).mono ?_); rintro e t4 ⟨rfl, g4⟩; have q4 : Gr X t4 := Gr.trans (by first | exact grd22 (by assumption) | assumption) g4))
    go_wp2_with fail
    go_ret2
    exact ⟨s', b', r, rfl, HB.out.1, HB.out.2.1, HB.out.2.2, HR.out, FIN.out _ (GE.out.trans q4)⟩
  · have HN := Lib.hid (show (false = true ↔ WholeIs s nm.data.toList size count sum) from ⟨fun h => (by cases h), fun h => absurd h (rt_not HS.out h0 count sum)⟩)
    have hcase : (code = 1 ∧ rc = 1) ∨ ((code = 2 ∨ code = 6) ∧ rc = 0) := by
      rcases hcd with ⟨h1, h2⟩ | ⟨h1, h2 | h2⟩
      · exact .inl ⟨h2, by rw [← HRC.out, h1]; rfl⟩
      · exact absurd h2 h0
      · exact .inr ⟨h2, by rw [← HRC.out, h1]; rfl⟩
    clear hcd h0
    rcases hcase with ⟨rfl, rfl⟩ | ⟨rfl | rfl, rfl⟩
    all_goals
      go_wp2_with fail
      rw [HX.out]
      go_ret2
      exact ⟨s', b', false, rfl, HB.out.1, HB.out.2.1, HB.out.2.2, HN.out, FIN.out _ GE.out⟩
end Go.Proofs.YtignfbdgpgidpaaGreatDoor

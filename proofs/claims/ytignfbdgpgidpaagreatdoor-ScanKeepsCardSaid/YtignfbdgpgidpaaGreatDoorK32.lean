/- In one text: ScSt, ScSet. -/
import Derived.Test.YtignfbdgpgidpaaGreatDoorK31
import Derived.Test.YtignfbdgpgidpaaGreatDoorK06
import Derived.Test.YtignfbdgpgidpaaGreatDoorK14
import Derived.Test.YtignfbdgpgidpaaGreatDoorK15
import Derived.Test.YtignfbdgpgidpaaGreatDoorK23
import Derived.Test.YtignfbdgpgidpaaGreatDoorK08
import Derived.Test.YtignfbdgpgidpaaGreatDoorK09
import Derived.Test.YtignfbdgpgidpaaGreatDoorK01
import Derived.Maps.OwnSet
/- The program's Stands, of a file that stands on a disk that does not fall; of all. -/
namespace Go.Proofs.YtignfbdgpgidpaaGreatDoor
open Go.RowKit FsPlain CrcPlain OctPlain FramePlain RecPlain RdPlain MnPlain ScPlain
set_option linter.unusedVariables false
set_option linter.unusedSimpArgs false
set_option maxRecDepth 20000
namespace ScPlain
theorem file_tail22 {size : Int} {D : ByteArray} {L : List ByteArray} (h : IsFile size D L) (hl : L.length ≤ 1000000) : 17 ≤ D.size ∧ lenN size L.length = (D.size : Int) ∧ (D.data.toList.drop (D.size - 17)).take 17 = endL L := by
  obtain ⟨h1, h2⟩ := h
  have hs := h1
  unfold layB at hs
  rw [Bool.and_eq_true] at hs
  have hz := hs.1
  simp only [sizeB, decide_eq_true_eq] at hz
  obtain ⟨m, rfl⟩ : ∃ m : Nat, size = m := ⟨size.toNat, by omega⟩
  have hlen := layL_length h1
  have hd : D.size = (layL (m : Int) L).length := by rw [← h2, data_length]
  have hb : lenB (m : Int) L.length = true := by unfold lenB; rw [hs.1, Bool.true_and, decide_eq_true_iff]; omega
  refine ⟨by omega, ?_, ?_⟩
  · rw [lenN_yes hb, hd, hlen]
    unfold cnt4
    rw [Int.natCast_add, Int.natCast_add, Int.natCast_mul, Int.natCast_mul]
    omega
  · have he := endL_length L
    have e : layL (m : Int) L = ((headS (m : Int)).data.toList ++ blks (ups L (cnt4 L))) ++ endL L := by unfold layL; rw [List.append_assoc]
    rw [h2, hd, e, List.length_append, he, Nat.add_sub_cancel, List.drop_left, List.take_of_length_le (by omega)]
def StandF (s : St) (f : Fl) : Prop := rightB f.name.data.toList = true ∧ ∃ (y : F) (L : List ByteArray), s.get f.name.data.toList = some y ∧ IsFile f.size (bs y.data) L ∧ L.length ≤ 1000000 ∧ f.count = (L.length : Int) ∧ f.sum = ((sumN L : Nat) : Int)
theorem StandF.quiet {s t : St} {f : Fl} (h : StandF s f) (q : Quiet s t) : StandF t f := by
  obtain ⟨h0, y, L, h1, h2⟩ := h
  exact ⟨h0, y, L, by rw [q.get]; exact h1, h2⟩
end ScPlain
theorem name24 {n : ByteArray} (h : rightB n.data.toList = true) : n.size ≤ 24 := by
  unfold rightB at h
  simp only [Bool.and_eq_true, decide_eq_true_eq] at h
  exact h.2.2
set_option maxHeartbeats 4000000 in
theorem stands22_c {A : Nat → Prop} {M : List Asn} {w u : World} {p : Nat} {s : St} (f : Fl) (h : Qs A (DiskA p s :: M) w u) (hd : s.down = false) (ha : s.ahead = -1) (hc : s.calls ≤ 100000000000) (hS : StandF s f) :
    Calls Tryz.prog 99 #[.pointer (some ⟨p, 0, none⟩), .agg #[.string f.name, .int .i64 f.size, .int .i64 f.count, .int .u32 f.sum]] u fun e w' => e = .returned (.tuple #[.bool true, .int .i64 0]) ∧ Qs A (DiskA p s.call.call :: M) w w' := by
  obtain ⟨hn, y, L, hg, hi, hl, hcnt, hsum⟩ := hS
  obtain ⟨t1, t2, t3⟩ := file_tail22 hi hl
  obtain ⟨D, hD⟩ : ∃ D, bs y.data = D := ⟨_, rfl⟩
  rw [hD] at hi t1 t2 t3
  have hst : Stands s f.name.data.toList D := ⟨⟨y, hg, by rw [← hD, bs_data]⟩, hd, ha⟩
  have hnz := name24 hn
  have hok : s.ok := by obtain ⟨_, k⟩ := h.part 0 rfl; exact k.1
  have hk : I64 f.size := by
    have hs := hi.1
    unfold layB at hs
    rw [Bool.and_eq_true] at hs
    have hz := hs.1
    simp only [sizeB, decide_eq_true_eq] at hz
    unfold I64; omega
  have hj : I64 f.count := by unfold I64; omega
  have hDz : (D.size : Int) ≤ 16777216 := by
    have h1 := hst.size
    have h2 := sizeR_le hok f.name.data.toList
    rw [h1] at h2
    exact h2
  obtain ⟨k, hkz⟩ : ∃ k, D.size = k + 17 := ⟨D.size - 17, by omega⟩
  have hk17 : D.size - 17 = k := by omega
  rw [hk17] at t3
  have hpe : peB f.count = true := by unfold peB; rw [decide_eq_true_iff]; omega
  -- the file's own block
  have d1 := (Qs.blk_new h #[.string f.name, .int .i64 f.size, .int .i64 f.count, .int .u32 f.sum] 48 rfl)
  obtain ⟨V, hV⟩ : ∃ V, u.alloc (.cells #[.string f.name, .int .i64 f.size, .int .i64 f.count, .int .u32 f.sum] 48) = V := ⟨_, rfl⟩
  rw [hV] at d1
  obtain ⟨q, hq⟩ : ∃ q, u.heap.size = q := ⟨_, rfl⟩
  rw [hq] at d1
  have C1 := Lib.hid (by
    have h := Qs.call1 (X := fun e _ => e = .returned (.tuple #[.int .i64 (sizeR s f.name.data.toList).1, .int .i64 (sizeR s f.name.data.toList).2])) d1 (fr_disk p s.call) fun B1 k => d_size p s f.name (by omega) hn (by omega) V B1 k
    rw [hst.size, hkz, Int.natCast_add] at h
    exact h)
  have C2 := Lib.hid (fun v (d2 : Qs A (Blk q #[.string f.name, .int .i64 f.size, .int .i64 f.count, .int .u32 f.sum] 48 :: DiskA p s.call :: M) w v) => by
    have h := Qs.call1 (X := fun e _ => e = .returned (.tuple #[.string (bs (readR s.call f.name.data.toList k 17).1), .int .i64 (readR s.call f.name.data.toList k 17).2])) d2 (fr_disk p s.call.call) fun B1 b => d_read p s.call f.name k 17 (by omega) hn (by show s.calls + 1 ≤ _; omega) (by omega) (by decide) v B1 b
    rw [hst.call.1.readAt k 17 (by omega), t3] at h
    exact h)
  have e1 : bs (endL L) = cl (endS f.count.toNat (sumN L)) := by
    apply ext_toList
    rw [bs_data, hcnt, Int.toNat_natCast]
    rfl
  rw [e1] at C2
  have C3 := Lib.hid (fun v => by
    have h := endback_c (n := f.count) (m := sumN L) hpe (sumN_lt L) v
    rw [← hsum] at h
    exact h)
  have LN := Lib.hid (fun v => by
    have h := length_c f.size f.count hk hj v
    rw [show lenN f.size f.count = ((k : Int) + 17) by rw [hcnt, t2, hkz, Int.natCast_add]; rfl] at h
    exact h)
  have CB := Lib.hid (fun v M' (d : Qs A (Blk q #[.string f.name, .int .i64 f.size, .int .i64 f.count, .int .u32 f.sum] 48 :: M') w v) => by
    have b := d.blk 0 rfl
    exact (⟨by rw [cells_at b]; rfl, by rw [cells_at b]; rfl, by rw [cells_at b]; rfl, by rw [cells_at b]; rfl⟩ : v.cell? ⟨q, 0, none⟩ = some (.string f.name) ∧ v.cell? ⟨q, 1, none⟩ = some (.int .i64 f.size) ∧ v.cell? ⟨q, 2, none⟩ = some (.int .i64 f.count) ∧ v.cell? ⟨q, 3, none⟩ = some (.int .u32 f.sum)))
  have TL := Lib.hid (fun v => told22_c f.name f.size f.count f.sum v)
  have HV := Lib.hid hV
  have HQ := Lib.hid hq
  have IE := info_eqd f.count f.sum f.count f.sum true (decide_eq_true ⟨rfl, rfl⟩)
  obtain ⟨x, hx⟩ : ∃ x, cl (endS f.count.toNat (sumN L)) = x := ⟨_, rfl⟩
  rw [hx] at C2 C3
  have hk0 : (k : Int) ≤ 16777216 := by omega
  obtain ⟨c0, c1, c2, c3⟩ := CB.out V _ d1
  clear h hd ha hc hn hg hi hl hcnt hsum t1 t2 t3 hD hst hnz hok hk hj hDz hkz hk17 hpe d1 hV hq e1 hx
  obtain ⟨nm, size, count, sum⟩ := f
  simp only at *
  go_enter Tryz.func99, Tryz.ntmps99
  go_wp2_with fail
  rw [HQ.out, HV.out]
  refine C1.out.mono ?_; rintro e w2 ⟨rfl, d2⟩
  obtain ⟨b0, b1, b2, b3⟩ := CB.out w2 _ d2
  have D2 := Lib.hid (C2.out w2 d2)
  clear d2 C1 C2 c0 c1 c2 c3
  go_wp2_with fail
  refine (LN.out w2).mono ?_; rintro e w2' ⟨rfl, rfl⟩
  go_wp2_with fail
  refine D2.out.mono ?_; rintro e w3 ⟨rfl, d3⟩
  have D3 := Lib.hid d3
  clear d3 D2 b0 b1 b2 b3
  go_wp2_with fail
  refine (C3.out w3).mono ?_; rintro e w4 ⟨rfl, g4⟩
  have d4 := D3.out.on g4
  have d5 := d4.on (gr22 w4 (.cells #[.int .i64 count, .int .u32 sum] 50))
  have eb := heap_alloc_new w4 (.cells #[.int .i64 count, .int .u32 sum] 50)
  have fb := d5.blk 0 rfl
  obtain ⟨X, hX⟩ : ∃ X, w4.alloc (.cells #[.int .i64 count, .int .u32 sum] 50) = X := ⟨_, rfl⟩
  obtain ⟨z, hz⟩ : ∃ z, w4.heap.size = z := ⟨_, rfl⟩
  rw [hX] at d5 eb fb
  rw [hz] at eb
  have SX := Lib.hid (show ∀ v, Gr X v → (Gr X v ∧ v.cell? ⟨z, 0, none⟩ = some (.int .i64 count) ∧ v.cell? ⟨z, 1, none⟩ = some (.int .u32 sum) ∧ v.cell? ⟨q, 0, none⟩ = some (.string nm) ∧ v.cell? ⟨q, 1, none⟩ = some (.int .i64 size) ∧ v.cell? ⟨q, 2, none⟩ = some (.int .i64 count) ∧ v.cell? ⟨q, 3, none⟩ = some (.int .u32 sum)) from fun v g => by
    have e1 := (Below.block g z (lt_of_block eb)).trans eb
    have f1 := (Below.block g q (lt_of_block fb)).trans fb
    obtain ⟨z0, z1, _, _⟩ := info_cells e1
    exact ⟨g, z0, z1, by rw [cells_at f1]; rfl, by rw [cells_at f1]; rfl, by rw [cells_at f1]; rfl, by rw [cells_at f1]; rfl⟩)
  have FIN := Lib.hid (fun v (g : Gr X v) => (d5.on g).tail)
  have HX := Lib.hid hX
  have HZ := Lib.hid hz
  obtain ⟨GX, x0, x1, x2, x3, x4, x5⟩ := SX.out X (Gr.refl _)
  clear d4 d5 eb fb hX hz g4 D3 C3
  go_wp2_with fail
  rw [HX.out]
  rw [HZ.out]
  go_region_held3 (fun v => Gr X v ∧ v.cell? ⟨z, 0, none⟩ = some (.int .i64 count) ∧ v.cell? ⟨z, 1, none⟩ = some (.int .u32 sum) ∧ v.cell? ⟨q, 0, none⟩ = some (.string nm) ∧ v.cell? ⟨q, 1, none⟩ = some (.int .i64 size) ∧ v.cell? ⟨q, 2, none⟩ = some (.int .i64 count) ∧ v.cell? ⟨q, 3, none⟩ = some (.int .u32 sum))
    (first | exact SX.out _ (grd22 (by assumption)) | exact SX.out _ (by assumption) | go_keep)
    ((go_at_call 67; (with_reducible refine (TL.out _).mono ?_); rintro e t4 ⟨rfl, g4⟩; have q4 : Gr X t4 := Gr.trans (by first | exact grd22 (by assumption) | assumption) g4))
  go_wp2_with fail
  go_ret2
  exact ⟨rfl, FIN.out _ q4⟩
def AsAt (p : Nat) (s : St) (l : List Fl) (M : List Asn) (w : World) (v : Value) (wr : World) : Prop := ∃ (i : Nat) (t : St), i ≤ l.length ∧ v = .int .i64 (i : Int) ∧ Quiet s t ∧ t.calls ≤ s.calls + 2 * (i : Int) ∧ Ps (DiskA p t :: M) w wr
set_option maxHeartbeats 4000000 in
theorem allstand22_c {M : List Asn} {w u : World} {p : Nat} {s : St} {a : Option Addr} {n c : Nat} (l : List Fl) (h : Ps (DiskA p s :: M) w u) (hfl : ∀ (P : Asn) (wr : World), Ps (P :: M) w wr → LiesFl wr (.slice a n c) l) (hl : l.length ≤ 1000000) (hd : s.down = false) (ha : s.ahead = -1) (hc : s.calls ≤ 10000000000) (hS : ∀ f ∈ l, StandF s f) :
    Calls Tryz.prog 58 #[.pointer (some ⟨p, 0, none⟩), .slice a n c] u fun e w' => e = .returned (.int .i64 0) ∧ ∃ t, Quiet s t ∧ t.calls ≤ s.calls + 2 * (l.length : Int) ∧ Ps (DiskA p t :: M) w w' := by
  have hn := lies_len (hfl _ _ h)
  subst hn
  have ST := Lib.hid (show AsAt p s l M w (.int .i64 0) u from ⟨0, s, Nat.zero_le _, rfl, Quiet.refl s, by simp, h⟩)
  have HF := Lib.hid hfl
  have HS := Lib.hid hS
  have HD := Lib.hid (And.intro hd (And.intro ha hc))
  clear h hfl hS hd ha hc
  go_enter Tryz.func58, Tryz.ntmps58
  go_wp2_with fail
  go_loopw [11] (fun v wr => AsAt p s l M w v wr) (fun v _ => l.length - (intOf v).toNat)
  case atStart => exact ST.out
  case round =>
    clear ST
    obtain ⟨i, t, hi1, rfl, hq, hcl, hQ⟩ := hrel
    by_cases hlt : i < l.length
    · have q1 : (i : Int) < (l.length : Int) := by omega
      obtain ⟨_, hcp, b, o, rfl, hbl, ⟨k0, k1, k2, k3⟩⟩ := fl_get (HF.out _ _ hQ) hlt
      have hSf := HS.out _ (List.getElem_mem hlt)
      obtain ⟨f, hf⟩ : ∃ f, l[i] = f := ⟨_, rfl⟩
      rw [hf] at k0 k1 k2 k3 hSf
      have hcalm := hq.calm HD.out.1 HD.out.2.1
      have g1 := gr22 wr (.cells #[.string f.name, .int .i64 f.size, .int .i64 f.count, .int .u32 f.sum] 48)
      have SC := Lib.hid (stands22_c f (hQ.on g1) hcalm.1 hcalm.2 (by have := HD.out.2.2; omega) (hSf.quiet hq))
      have NX := Lib.hid (fun v (d : Ps (DiskA p t.call.call :: M) w v) => show AsAt p s l M w (.int .i64 ((i : Int) + 1)) v from ⟨i + 1, t.call.call, by omega, rfl, (hq.trans (quiet_call t)).trans (quiet_call _), by show t.calls + 1 + 1 ≤ _; rw [Int.natCast_add]; simp only [Int.natCast_one]; omega, d⟩)
      have hmx : (l.length : Int) ≤ 1000000 := by omega
      clear hSf hcalm hQ hq hcl g1 hf
      go_wp2_with fail
      refine SC.out.mono ?_; rintro e w2 ⟨rfl, d2⟩
      have N2 := Lib.hid (NX.out w2 d2)
      clear d2 SC NX
      go_wp2_with fail
      refine ⟨N2.out, ?_⟩
      simp [intOf]; omega
    · obtain rfl : i = l.length := by omega
      have q1 : ¬ (l.length : Int) < (l.length : Int) := by omega
      have HQ := Lib.hid hQ
      have HQ2 := Lib.hid (And.intro hq hcl)
      clear hQ hq hcl
      go_wp2_with fail
      go_ret
      exact ⟨rfl, t, HQ2.out.1, HQ2.out.2, HQ.out⟩
end Go.Proofs.YtignfbdgpgidpaaGreatDoor
/- A set of strings, a map in a function: what it is; made of a slice. -/
namespace Go.Proofs.YtignfbdgpgidpaaGreatDoor
open Go.RowKit FsPlain ScPlain Go.Maps
set_option linter.unusedVariables false
set_option linter.unusedSimpArgs false
set_option maxRecDepth 20000
theorem zeroU22 (w : World) : (zeroValue 90).run Tryz.prog w = .ok (.agg #[]) w := by kernel_rfl
theorem set_only {w w' : World} {b n : Nat} {D : DataW Unit} {C : Nat → Prop} (h : w.ownsMap Tryz.prog 9 unitElem b n D) (g : Only C w w') (hC : ¬ C b) : w'.ownsMap Tryz.prog 9 unitElem b n D := by
  have hlt := h.lt
  obtain ⟨es, clock, hb, r⟩ := h
  exact ⟨es, clock, by rw [g.block b hlt hC]; exact hb, r⟩
def SetAt (w : World) (b : Nat) (l : List ByteArray) : Prop := ∃ (n : Nat) (D : DataW Unit), w.ownsMap Tryz.prog 9 unitElem b n D ∧ IsMap D ∧ ∀ x : ByteArray, Maps.has D (.string x.data.toList) = hasB l x
def SetA (b : Nat) (l : List ByteArray) : Asn := fun w B => SetAt w b l ∧ ∀ i, B i ↔ i = b
theorem fr_set22 (b : Nat) (l : List ByteArray) : Fr (SetA b l) where
  fr := fun {w w' B C} ⟨⟨n, D, h, k⟩, hB⟩ o d => ⟨⟨n, D, set_only h o (d b ((hB b).2 rfl)), k⟩, hB⟩
  lo := fun ⟨⟨n, D, h, k⟩, hB⟩ i hi => by rw [(hB i).1 hi]; exact h.lt
theorem SetAt.gr {w w' : World} {b : Nat} {l : List ByteArray} (h : SetAt w b l) (g : Gr w w') : SetAt w' b l := by
  obtain ⟨n, D, h, k⟩ := h
  exact ⟨n, D, set_only h (Only.ofGr (B := fun _ => False) g) (fun e => e), k⟩
theorem hasB_snoc (l : List ByteArray) (y x : ByteArray) : hasB (l ++ [y]) x = (hasB l x || decide (y = x)) := by simp [hasB]
theorem lit_ne22 {x y : ByteArray} (h : ¬ y = x) : (Lit.string x.data.toList) ≠ .string y.data.toList := by
  intro e
  simp only [Lit.string.injEq] at e
  exact h (ByteArray.ext (Array.toList_inj.1 e.symm))
theorem has_put22 {D : DataW Unit} (hD : IsMap D) (y x : ByteArray) (d : DataW Unit) : Maps.has (D.put (.string y.data.toList) d) (.string x.data.toList) = (Maps.has D (.string x.data.toList) || decide (y = x)) := by
  by_cases h : y = x
  · subst h
    rw [has_put_same hD (show WideAt.IsKeyLit (.string y.data.toList) from trivial), decide_eq_true rfl, Bool.or_true]
  · rw [has_put_other (lit_ne22 h), decide_eq_false h, Bool.or_false]
def St22 (w : World) (l : List ByteArray) (v : Value) (wr : World) : Prop := ∃ (k : Nat) (D : DataW Unit), k ≤ l.length ∧ v = .int .i64 (k : Int) ∧ wr.ownsMap Tryz.prog 9 unitElem w.heap.size k D ∧ IsMap D ∧ (∀ x : ByteArray, Maps.has D (.string x.data.toList) = hasB (l.take k) x) ∧ Gr w wr
set_option maxHeartbeats 2000000 in
theorem set22_c (v : Value) (l : List ByteArray) (w : World) (h : Lies w v l) (hl : l.length ≤ 1000000) (hs : ∀ x ∈ l, x.size ≤ maxLen) :
    Calls Tryz.prog 43 #[v] w fun e w' => ∃ b, e = .returned (.map (some b)) ∧ SetAt w' b l ∧ w.heap.size ≤ b ∧ Gr w w' := by
  have hmm := @run_makeMap Tryz.prog
  obtain ⟨a, c, rfl, hc, hr⟩ := id h
  have H := Lib.hid hr
  have HS := Lib.hid hs
  obtain ⟨n, hn⟩ : ∃ n, l.length = n := ⟨_, rfl⟩
  have HN := Lib.hid hn
  rw [hn] at hl hc ⊢
  have g1 : Gr w (w.alloc (.map #[] 0)) := (Below.refl _ _).alloc (Nat.le_refl _) _
  have ST := Lib.hid (show St22 w l (.int .i64 0) (w.alloc (.map #[] 0)) from ⟨0, .map [], Nat.zero_le _, rfl, World.ownsMap_made _ _ _ _, isMap_empty, (fun x => rfl), g1⟩)
  clear h hr hn hs g1
  go_enter Tryz.func43, Tryz.ntmps43
  go_wp2_with fail
  go_loopw [9] (fun v wr => St22 w l v wr) (fun v _ => n - (intOf v).toNat)
  case atStart => exact ST.out
  case round =>
    obtain ⟨k, D, hk, rfl, hown, hD, hhas, hg⟩ := hrel
    rw [HN.out] at hk
    have HO := Lib.hid hown
    have HD := Lib.hid hD
    have HH := Lib.hid hhas
    have HG := Lib.hid hg
    clear hown hD hhas hg ST
    by_cases hlt : k < n
    · have hlt2 : k < l.length := by rw [HN.out]; exact hlt
      obtain ⟨b, off, rfl, hrow⟩ : ∃ b off, a = some ⟨b, off, none⟩ ∧ SRow wr b off l := by
        obtain ⟨b, off, e, hrow⟩ := H.out.resolve_left (fun e => by rw [e] at hlt2; cases hlt2)
        exact ⟨b, off, e, hrow.gr HG.out⟩
      have k0 := hrow.2 k _ (List.getElem?_eq_getElem hlt2)
      obtain ⟨y, hy⟩ : ∃ y, l[k] = y := ⟨_, rfl⟩
      rw [hy] at k0
      have hys : y.size ≤ maxLen := HS.out y (by rw [← hy]; exact List.getElem_mem hlt2)
      have hkey := WideMaps.keyOf_string_mk (P := Tryz.prog) (k := 9) Tryz.underlying9 hys
      have HTK := Lib.hid (show l.take (k + 1) = l.take k ++ [y] by rw [List.take_succ_eq_append_getElem hlt2, hy])
      have q1 : (k : Int) < (n : Int) := by omega
      clear hy hrow hlt2 hys
      go_wp2_with (first
        | (at_mapUpdate; refine wpList_mapUpdate_own _ rfl _ _ _ 88 rfl 9 90 lawS Tryz.underlying88 (unitElem (H := Unit)) w.heap.size k D rfl (by first | exact HO.out | exact HO.out.alloc _) (by unfold maxLen; omega) _ _ _ rfl rfl hkey _ [] unitElem_mk ?_; intro w1 hown1 hgrow1)
        | go_in)
      have NX := Lib.hid (show St22 w l (.int .i64 ((k : Int) + 1)) w1 from ⟨k + 1, _, by rw [HN.out]; omega, by rw [Int.natCast_add]; rfl, hown1, HD.out.put _ _, fun x => by rw [has_put22 HD.out, HH.out, HTK.out, hasB_snoc], by
        refine Below.trans HG.out ?_
        exact (Only.grown hgrow1 (B := fun i => i = w.heap.size) (fun j hj => by cases hj; rfl)).toBelow HG.out.size (fun i hi => by omega)⟩)
      clear hown1 hgrow1
      go_wp2_with fail
      refine ⟨NX.out, ?_⟩
      simp [intOf]; omega
    · obtain rfl : k = n := by omega
      go_wp2_with fail
      go_ret
      refine ⟨_, rfl, ⟨k, D, HO.out, HD.out, fun x => ?_⟩, Nat.le_refl _, HG.out⟩
      rw [HH.out, List.take_of_length_le (by rw [HN.out]; exact Nat.le_refl _)]
end Go.Proofs.YtignfbdgpgidpaaGreatDoor

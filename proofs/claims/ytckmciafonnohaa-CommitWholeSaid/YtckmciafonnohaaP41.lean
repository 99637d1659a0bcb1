/- In one text: FsRise, FsA, CmFew. -/
import Derived.Test.YtckmciafonnohaaP40
import Derived.Test.YtckmciafonnohaaP08
import Derived.Test.YtckmciafonnohaaP39
import Derived.Test.YtckmciafonnohaaP18
import Derived.Test.YtckmciafonnohaaP12
/- The contract of Rise: by a walk of its loop over the names. -/
namespace Go.Proofs.Ytckmciafonnohaa
open Go.RowKit Go.Maps FsPlain
set_option linter.unusedVariables false
set_option linter.unusedSimpArgs false
set_option maxRecDepth 20000

/-- A row of numbers that is only read. -/
def KeepAt (w : World) (B : Nat → Prop) (a : Option Addr) (ks : List Int) : Prop :=
  ks = [] ∨ ∃ kb ko, a = some ⟨kb, ko, none⟩ ∧ kb < w.heap.size ∧ ¬ B kb ∧ ∀ j k, ks[j]? = some k → w.cell? ⟨kb, ko + j, none⟩ = some (.int .i64 k)

structure RiseAt (p m : Nat) (s : St) (B : Nat → Prop) (ks : List Int) (w1 : World) (i : Value) (wr : World) (j : Nat) : Prop where
  ival : i = .int .i64 (j : Int)
  jle : j ≤ s.fs.length
  ok : (riseN s ks j).ok
  d : ∃ Bj L, DiskAt wr p (riseN s ks j) Bj m L ∧ ∀ b, Bj b → B b ∨ w1.heap.size ≤ b
  o : Only B w1 wr

def RiseIn (p m : Nat) (s : St) (B : Nat → Prop) (ks : List Int) (w1 : World) (i : Value) (wr : World) : Prop := ∃ j, RiseAt p m s B ks w1 i wr j

theorem bs_list (l : List UInt8) : (bs l).data.toList = l := rfl

theorem fell_next {p m : Nat} {s : St} {B : Nat → Prop} {L : List Pl} {x : Pl} {n : List UInt8} {k : Int} {w w' : World} {e : Ending} (h : DiskAt w p s B m L) (hf : L.find? (fun x => x.f.name == n) = some x) (k' : Fell w x k e w') :
    ∃ L', DiskAt w' p (s.upd n (fun f => fall f k)) (fun b => B b ∨ (w.heap.size ≤ b ∧ b < w'.heap.size)) m L' := by
  obtain ⟨_, o, v', hF, hv⟩ := k'
  exact h.put hf (x' := ⟨fall x.f k, x.blk, v'⟩) (g := fun f => fall f k) rfl rfl rfl hF (o.mono fun i e => by subst e; simp [plBlocks]) (fun i hi => .inl (by rw [← hv]; exact hi))

theorem rise_step {p m : Nat} {s : St} {B : Nat → Prop} {ks : List Int} {w1 wr w' : World} {i : Value} {j : Nat} {e : Ending} {Bj : Nat → Prop} {L : List Pl} {x : Pl} (h : RiseAt p m s B ks w1 i wr j) (hj : j < s.fs.length)
    (hD : DiskAt wr p (riseN s ks j) Bj m L) (hB : ∀ b, Bj b → B b ∨ w1.heap.size ≤ b) (hf : L.find? (fun x => x.f.name == nameAt s.fs j) = some x) (hk : Fell wr x (ks.getD j 0) e w') :
    RiseAt p m s B ks w1 (.int .i64 ((j : Int) + 1)) w' (j + 1) := by
  have hg : (riseN s ks j).get (nameAt s.fs j) = some x.f := by
    unfold St.get; rw [← hD.fs, List.find?_map]
    have : ((fun f : F => f.name == nameAt s.fs j) ∘ fun x : Pl => x.f) = fun x : Pl => x.f.name == nameAt s.fs j := rfl
    rw [this, hf]; rfl
  obtain ⟨L', hD'⟩ := fell_next hD hf hk
  refine ⟨rfl, hj, ok_fall h.ok hg _, ⟨_, L', hD', fun b hb => ?_⟩, ?_⟩
  · rcases hb with hb | hb
    · exact hB b hb
    · exact .inr (Nat.le_trans h.o.size hb.1)
  · exact h.o.andThen hk.2.1 fun b e => by
      subst e
      exact hB _ (plBlocks_B hD (List.mem_of_find?_eq_some hf) _ (by simp [plBlocks]))

set_option maxRecDepth 20000 in
set_option maxHeartbeats 2000000 in
theorem rise_c (p : Nat) (s : St) (B : Nat → Prop) (a : Option Addr) (ks : List Int) (kc : Nat) (w : World) (h : Disk w p s B) (hK : KeepAt w B a ks) (hks : ∀ k ∈ ks, I64 k) (hkl : (ks.length : Int) ≤ 1000000000000) :
    Calls Try.prog 9 #[.pointer (some ⟨p, 0, none⟩), .slice a ks.length kc] w (Tells w p (riseR s ks) B (.tuple #[])) := by
  obtain ⟨hs, m, L, hD⟩ := h
  have C0 := made_c p m s w hD.heap
  have CN := names_c p m s B L w hs hD
  rw [hD.sorted] at CN
  have HS := Lib.hid hs
  have HD := Lib.hid hD
  have HK := Lib.hid hK
  have HKS := Lib.hid hks
  have hLl : L.length = s.fs.length := by rw [← hD.fs]; simp
  have hnm : (L.map fun x => x.f.name) = s.fs.map (·.name) := by rw [← hD.fs, List.map_map]; rfl
  rw [hnm] at CN
  have h200 : (s.fs.length : Int) ≤ 200 := by have := hs.m; omega
  have HLl := Lib.hid hLl
  clear hD hs hK hks hnm hLl
  go_enter Try.func9, Try.ntmps9
  go_wp2_with fail
  refine C0.mono ?_; rintro e w2 ⟨rfl, rfl⟩
  go_wp2_with fail
  refine CN.mono ?_; rintro e w1 ⟨v, rfl, hrow, hg⟩
  rw [List.length_map] at hrow
  have hD1 := HD.out.gr hg
  obtain ⟨va, vc, rfl, hva⟩ : ∃ va vc, v = .slice va s.fs.length vc ∧ (0 < s.fs.length → ∃ g, va = some ⟨g, 0, none⟩ ∧ w.heap.size ≤ g ∧ g < w1.heap.size ∧ ∀ j n, (s.fs.map (·.name))[j]? = some n → w1.cell? ⟨g, j, none⟩ = some (.string (bs n))) := by
    rcases hrow.2 with ⟨h1, h2⟩ | ⟨g, cap, cur, rfl, h1, h2, _⟩
    · exact ⟨none, 0, by rw [h1, h2], fun h => by omega⟩
    · refine ⟨_, _, rfl, fun _ => ⟨g, rfl, h1, (Array.getElem?_eq_some_iff.1 h2).1, fun j n hj => ?_⟩⟩
      have := hrow.cells (g := g) rfl j (.string (bs n)) (by rw [List.getElem?_map, hj]; rfl)
      rw [Addr.add_lit, Nat.zero_add] at this
      exact this
  have HVA := Lib.hid hva
  have HG := Lib.hid hg
  have HD1 := Lib.hid hD1
  clear hva hg hD1 hrow
  go_wp2_with fail
  go_loopw [13] (fun i wr => RiseIn p m s B ks w1 i wr) (fun i _ => s.fs.length - (intOf i).toNat)
  case atStart => exact ⟨0, rfl, Nat.zero_le _, HS.out, ⟨B, L, HD1.out, fun b hb => .inl hb⟩, Only.refl _ _⟩
  case round =>
    obtain ⟨j, hR⟩ := hrel
    obtain rfl := hR.ival
    have hj := hR.jle
    obtain ⟨Bj, Lj, hDj, hBj⟩ := hR.d
    have HR := Lib.hid hR
    have HDj := Lib.hid hDj
    have HBj := Lib.hid hBj
    by_cases hlt : j < s.fs.length
    · obtain ⟨g, rfl, hg1, hg2, hcn⟩ := HVA.out (by omega)
      obtain ⟨n, hn⟩ : ∃ n, nameAt s.fs j = n := ⟨_, rfl⟩
      have hnj : (s.fs.map (·.name))[j]? = some n := by
        rw [← hn]; unfold nameAt; rw [List.getD_eq_getElem?_getD, List.getElem?_eq_getElem (by simpa using hlt)]; rfl
      have hnB : ¬ B g := fun e => by have := HD.out.low g e; omega
      have cn : wr.cell? ⟨g, j, none⟩ = some (.string (bs n)) := by rw [hR.o.cell hg2 hnB]; exact hcn j n hnj
      have hnmem : n ∈ (riseN s ks j).fs.map (·.name) := by rw [rise_names]; exact List.mem_of_getElem? hnj
      have hn24 : n.length ≤ 24 := by
        obtain ⟨f, hf, rfl⟩ := List.mem_map.1 hnmem
        exact hR.ok.n f hf
      obtain ⟨f, hget⟩ := get_name hnmem
      rcases hDj.look (bs n) (by rw [bs_size]; unfold maxLen; omega) with ⟨hno, _, _⟩ | ⟨x, hx, hfx, hlx⟩
      · rw [bs_list, hget] at hno; cases hno
      · rw [bs_list] at hx hfx
        have hmem := List.mem_of_find?_eq_some hfx
        have hxs := get_mem hx
        have hxl : x.f.data.length ≤ 16777216 := by have h1 := used_le hxs; have h2 := hR.ok.u; have h3 := hR.ok.r1; omega
        have cfs : wr.cell? ⟨p, 1, none⟩ = some (.map (some m)) := by rw [cells_at hDj.heap]; rfl
        have hlk := hlx wr hDj.own
        have HFX := Lib.hid hfx
        have CFa := fun k h1 h2 => fall_c x k wr h1 h2 (hDj.file x hmem) (hDj.row_ne hmem) (hR.ok.k _ hxs) hxl
        by_cases hjk : j < ks.length
        · rcases HK.out with h0 | ⟨kb, ko, rfl, hkb, hkB, hkc⟩
          · rw [h0] at hjk; simp at hjk
          · obtain ⟨k, hk⟩ : ∃ k, ks[j]? = some k := ⟨_, List.getElem?_eq_getElem hjk⟩
            have hkd : ks.getD j 0 = k := by rw [List.getD_eq_getElem?_getD, hk]; rfl
            have ck : wr.cell? ⟨kb, ko + j, none⟩ = some (.int .i64 k) := by
              rw [hR.o.cell (by exact Nat.lt_of_lt_of_le hkb HG.out.size) hkB, HG.out.cell (by exact hkb)]; exact hkc j k hk
            have hk64 := HKS.out k (List.mem_of_getElem? hk)
            unfold I64 at hk64
            have CF := CFa k hk64.1 hk64.2
            have HN := Lib.hid hn
            have HKD := Lib.hid hkd
            clear hR hDj hBj hcn hn hnj hnmem hget hx hfx hlx hxs hxl CFa hk hkd hkc hmem hn24 hg1 hg2 hnB
            go_wp2_with fail
            refine CF.mono ?_; rintro e w3 hfell
            obtain rfl := hfell.1
            have HFE := Lib.hid hfell
            clear hfell
            go_wp2_with fail
            go_roundw
            case rel => exact ⟨j + 1, rise_step HR.out hlt HDj.out HBj.out (by rw [HN.out]; exact HFX.out) (by rw [HKD.out]; exact HFE.out)⟩
            case measure => simp [intOf]; omega
        · have hkd : ks.getD j 0 = 0 := by rw [List.getD_eq_getElem?_getD, List.getElem?_eq_none (by omega)]; rfl
          have CF := CFa 0 (by omega) (by omega)
          have HN := Lib.hid hn
          have HKD := Lib.hid hkd
          clear hR hDj hBj hcn hn hnj hnmem hget hx hfx hlx hxs hxl CFa hkd hmem hn24 hg1 hg2 hnB
          go_wp2_with fail
          refine CF.mono ?_; rintro e w3 hfell
          obtain rfl := hfell.1
          have HFE := Lib.hid hfell
          clear hfell
          go_wp2_with fail
          go_roundw
          case rel => exact ⟨j + 1, rise_step HR.out hlt HDj.out HBj.out (by rw [HN.out]; exact HFX.out) (by rw [HKD.out]; exact HFE.out)⟩
          case measure => simp [intOf]; omega
    · have hje : j = s.fs.length := by omega
      have c3 : wr.cell? ⟨p, 3, none⟩ = some (.int .i64 (riseN s ks j).ahead) := by rw [cells_at hDj.heap]; rfl
      have c4 : wr.cell? ⟨p, 4, none⟩ = some (.bool (riseN s ks j).down) := by rw [cells_at hDj.heap]; rfl
      have f3 := cells_free hDj.heap 3
      have f4 := cells_free hDj.heap 4
      have key : Next w p (riseR s ks) B ((wr.setCell ⟨p, 4, none⟩ (.bool false)).setCell ⟨p, 3, none⟩ (.int .i64 (-1))) := by
        have o := (Only.cell1 wr p 4 (.bool false)).trans (Only.cell1 _ p 3 (.int .i64 (-1)))
        have hD2 := hDj.own_block o (s' := { riseN s ks j with down := false, ahead := -1 }) (by rw [cells_set (cells_set hDj.heap 4 _) 3 _]; rfl) rfl
        have hk := hR.ok
        have hrr : riseR s ks = { riseN s ks j with down := false, ahead := -1 } := by rw [hje]; rfl
        rw [hrr]
        refine ⟨Bj, ⟨⟨hk.r0, hk.r1, hk.c0, Int.le_refl _, by show (-1 : Int) ≤ _; omega, hk.u, hk.k, hk.n, hk.m, hk.d⟩, m, Lj, hD2⟩, ?_, fun b hb => ?_⟩
        · exact ((Only.ofGr HG.out).trans hR.o).andThen o fun i e => by
            have hpB := hDj.mine p (by simp)
            rw [show i = p from e]
            rcases hBj p hpB with h1 | h1
            · exact .inl h1
            · exact .inr (Nat.le_trans HG.out.size h1)
        · rcases hBj b hb with h1 | h1
          · exact .inl h1
          · exact .inr (Nat.le_trans HG.out.size h1)
      have HKEY := Lib.hid key
      clear key hR hDj hBj hje
      go_wp2_with fail
      go_end0
      exact ⟨rfl, HKEY.out⟩
end Go.Proofs.Ytckmciafonnohaa
/- The program's disk as a part of a world: what its other calls leave. -/
namespace Go.Proofs.Ytckmciafonnohaa
open Go.RowKit Go.Maps FsPlain
set_option linter.unusedVariables false
set_option linter.unusedSimpArgs false
set_option maxRecDepth 20000
theorem d_arm (p : Nat) (s : St) (n : Int) (h0 : -9223372036854775808 ≤ n) (h1 : n ≤ 9223372036854775807) (w : World) (B : Nat → Prop) (h : DiskA p s w B) :
    Calls Try.prog 7 #[.pointer (some ⟨p, 0, none⟩), .int .i64 n] w (Does w B (DiskA p (armed s n)) (.tuple #[])) :=
  (arm_c p s B n w h h0 h1).mono fun _ _ => tells_does
/-- Rise(nil). -/
theorem d_rise (p : Nat) (s : St) (w : World) (B : Nat → Prop) (h : DiskA p s w B) :
    Calls Try.prog 9 #[.pointer (some ⟨p, 0, none⟩), .slice none 0 0] w (Does w B (DiskA p (riseR s [])) (.tuple #[])) :=
  (rise_c p s B none [] 0 w h (.inl rfl) (by simp) (by simp)).mono fun _ _ => tells_does
end Go.Proofs.Ytckmciafonnohaa
/- Few tries; what else a law of commit asks of both disks. -/
namespace Go.Proofs.Ytckmciafonnohaa
open Go.RowKit FsPlain MnPlain
set_option linter.unusedVariables false
set_option linter.unusedSimpArgs false
set_option maxRecDepth 20000
def oneTy (x : Ty) : Bool := fewB x.m.files && decide (x.keep.length ≤ 10)
def fewTy (l : List Ty) : Bool := (l.take 8).all oneTy && decide (l.length ≤ 8)
theorem few_ty {l : List Ty} (h : fewTy l = true) : l.length ≤ 8 ∧ ∀ x ∈ l, fewB x.m.files = true ∧ x.keep.length ≤ 10 := by
  unfold fewTy at h
  rw [Bool.and_eq_true, decide_eq_true_iff, List.all_eq_true] at h
  refine ⟨h.2, fun x hx => ?_⟩
  have := h.1 x (by rw [List.take_of_length_le h.2]; exact hx)
  unfold oneTy at this
  rw [Bool.and_eq_true, decide_eq_true_iff] at this
  exact this
def FtAt (l : List Ty) (w : World) (v : Value) (wr : World) : Prop := ∃ i : Nat, i ≤ l.length ∧ i ≤ 8 ∧ v = .int .i64 (i : Int) ∧ (∀ j (hj : j < l.length), j < i → oneTy l[j] = true) ∧ Gr w wr
set_option maxHeartbeats 2000000 in
theorem few20_c {a : Option Addr} {n c : Nat} {l : List Ty} (w : World) (h : LiesTy w (.slice a n c) l) (hl : l.length ≤ maxLen) (hK : ∀ x ∈ l, tyK x) :
    Calls Try.prog 4 #[.slice a n c] w fun e w' => e = .returned (.bool (fewTy l)) ∧ Gr w w' := by
  have hn : n = l.length := by
    obtain ⟨a', c', e, hc, _⟩ := h
    simp only [Value.slice.injEq] at e
    exact e.2.1
  obtain ⟨r, hr⟩ : ∃ r, fewTy l = r := ⟨_, rfl⟩
  rw [hr]
  unfold maxLen at hl
  have H := Lib.hid h
  have HK := Lib.hid hK
  have HR := Lib.hid hr
  clear h hr hK
  subst hn
  go_enter Try.func4, Try.ntmps4
  go_wp2_with fail
  go_loopw [3] (fun v wr => FtAt l w v wr) (fun v _ => l.length - (intOf v).toNat)
  case atStart => exact ⟨0, Nat.zero_le _, by decide, rfl, fun j _ hj => by omega, Gr.refl _⟩
  case round =>
    obtain ⟨i, hi1, hi2, rfl, hall, g1⟩ := hrel
    have HA := Lib.hid hall
    clear hall
    by_cases hlt : i < l.length ∧ i < 8
    · obtain ⟨_, hc, b, o, rfl, hb, fa, fc, ka, kc, k0, k1, k2, k3, k4, k5, k6⟩ := ty_get (H.out.gr g1) hlt.1
      have q1 : (i : Int) < (l.length : Int) := by omega
      have q2 : (i : Int) < 8 := by omega
      have hkx := HK.out _ (List.getElem_mem hlt.1)
      have RF0 := rfew_c l[i].m.stage l[i].m.pass fa l[i].m.files.length fc l[i].m.files wr k5 hkx.1.1
      obtain ⟨x, hx⟩ : ∃ x, l[i] = x := ⟨_, rfl⟩
      rw [hx] at k0 k1 k2 k3 k4 RF0
      have hno : oneTy x = false → r = false := fun hf => by
        rw [← HR.out]
        unfold fewTy
        rw [Bool.and_eq_false_iff, List.all_eq_false]
        left
        exact ⟨l[i], by rw [List.mem_iff_getElem]; exact ⟨i, by rw [List.length_take]; omega, by rw [List.getElem_take]⟩, by rw [hx, hf]; simp⟩
      have hyes : oneTy x = true → ∀ j (hj : j < l.length), j < i + 1 → oneTy l[j] = true := fun ht j hj hji => by
        by_cases e : j = i
        · subst e; rw [hx]; exact ht
        · exact HA.out j hj (by omega)
      cases hfb : fewB x.m.files
      · rw [hfb] at RF0
        have RF := Lib.hid RF0
        obtain rfl : r = false := hno (by unfold oneTy; rw [hfb]; rfl)
        clear RF0 hno hyes hkx hx hfb hlt k5 k6
        go_wp2_with fail
        refine RF.out.mono ?_; rintro e u ⟨rfl, g2⟩
        go_wp2_with fail
        go_ret
        exact ⟨rfl, g1.trans g2⟩
      · rw [hfb] at RF0
        have RF := Lib.hid RF0
        have KC := Lib.hid (fun u (g : Gr wr u) => (Below.cell g (p := ⟨b, o + i * 5 + 4, none⟩) hb).trans k4)
        by_cases hk10 : x.keep.length ≤ 10
        · have q3 : ¬ (10 : Int) < (x.keep.length : Int) := by omega
          have NX := Lib.hid (hyes (by unfold oneTy; rw [hfb, decide_eq_true hk10]; rfl))
          clear RF0 hno hyes hkx hx hfb hlt k5 k6 hk10
          go_wp2_with fail
          refine RF.out.mono ?_; rintro e u ⟨rfl, g2⟩
          have k4 := KC.out u g2
          go_wp2_with fail
          go_roundw
          case rel => exact ⟨i + 1, by omega, by omega, by rw [show ((i + 1 : Nat) : Int) = (i : Int) + 1 by omega], NX.out, g1.trans g2⟩
          case measure => simp [intOf]; omega
        · have q3 : (10 : Int) < (x.keep.length : Int) := by omega
          obtain rfl : r = false := hno (by unfold oneTy; rw [hfb, decide_eq_false hk10]; rfl)
          clear RF0 hno hyes hkx hx hfb hlt k5 k6 hk10
          go_wp2_with fail
          refine RF.out.mono ?_; rintro e u ⟨rfl, g2⟩
          have k4 := KC.out u g2
          go_wp2_with fail
          go_ret
          exact ⟨rfl, g1.trans g2⟩
    · have er : r = decide ((l.length : Int) ≤ 8) := by
        rw [← HR.out]
        unfold fewTy
        have e1 : (l.take 8).all oneTy = true := by
          rw [List.all_eq_true]
          intro f hf
          obtain ⟨j, hj, rfl⟩ := List.mem_iff_getElem.1 hf
          rw [List.length_take] at hj
          rw [List.getElem_take]
          exact HA.out j (by omega) (by omega)
        rw [e1, Bool.true_and]
        exact decide_eq_decide.2 (by omega)
      subst er
      by_cases q1 : (i : Int) < (l.length : Int)
      · have q2 : ¬ (i : Int) < 8 := by omega
        clear hlt
        go_wp2_with fail
        go_ret
        exact ⟨rfl, g1⟩
      · clear hlt
        go_wp2_with fail
        go_ret
        exact ⟨rfl, g1⟩
/-- Both disks' Rise with whatever stays; Arm and Used of the document's. -/
theorem d_risek (p : Nat) (s : St) (ka : Option Addr) (ks : List Int) (kc : Nat) (w : World) (B : Nat → Prop) (h : DiskA p s w B) (hK : KeepR w ka ks) (hkB : ∀ b o, ka = some ⟨b, o, none⟩ → ¬ B b) (hks : ∀ k ∈ ks, I64 k) (hkl : ks.length ≤ 1000000) :
    Calls Try.prog 9 #[.pointer (some ⟨p, 0, none⟩), .slice ka ks.length kc] w (Does w B (DiskA p (riseR s ks)) (.tuple #[])) :=
  (rise_c p s B ka ks kc w h (hK.imp id fun ⟨kb, ko, e, hb, hc⟩ => ⟨kb, ko, e, hb, hkB kb ko e, hc⟩) hks (by omega)).mono fun _ _ => tells_does
end Go.Proofs.Ytckmciafonnohaa

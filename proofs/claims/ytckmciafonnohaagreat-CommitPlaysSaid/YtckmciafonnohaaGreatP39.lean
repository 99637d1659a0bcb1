/- In one text: FsFall, FsRise, FsA. -/
import Derived.Test.YtckmciafonnohaaGreatP38
import Derived.StillTailTactics
import Derived.Test.YtckmciafonnohaaGreatP05
/- The contract of a file's fall; the order of the names. -/
namespace Go.Proofs.YtckmciafonnohaaGreat
open Go.RowKit Go.Maps FsPlain
set_option linter.unusedVariables false
set_option linter.unusedSimpArgs false
set_option maxRecDepth 20000

theorem before_le : ∀ a b : List UInt8, bytesBefore a b = true → a ≤ b
  | [], b, _ => List.nil_le b
  | _ :: _, [], h => by simp [bytesBefore] at h
  | x :: r, y :: q, h => by
    simp only [bytesBefore, Bool.or_eq_true, Bool.and_eq_true, decide_eq_true_eq, beq_iff_eq] at h
    rw [List.cons_le_cons_iff]
    rcases h with h | ⟨h1, h2⟩
    · exact .inl h
    · exact .inr ⟨h1, before_le r q h2⟩

theorem DiskAt.sorted {w : World} {p m : Nat} {s : St} {B : Nat → Prop} {L : List Pl} (h : DiskAt w p s B m L) : (L.map fun x => x.f.name).mergeSort (fun x y => decide (x ≤ y)) = L.map fun x => x.f.name := by
  obtain ⟨es, clock, _, F, _, hD⟩ := h.own
  have hp := sorted_sorted lawS.one _ (fit_keys F) (fit_apart lawS F)
  unfold ents at hD
  simp only [DataW.map.injEq] at hD
  rw [← hD] at hp
  rw [List.pairwise_map] at hp
  refine List.mergeSort_of_pairwise ?_
  rw [List.pairwise_map]
  exact hp.imp fun h => by simpa using before_le _ _ h

theorem row_cut {w : World} {a : Option Addr} {n c : Nat} {l : List UInt8} (h : w.ownsRow 0 5 1 (.slice a n c) n (Lib.byteCells l)) (k : Nat) (hk : k ≤ n) : w.ownsRow 0 5 1 (.slice a k c) k (Lib.byteCells (l.take k)) := by
  have hl : l.length = n := by have := h.1; simpa [Lib.byteCells_length] using this
  refine ⟨by rw [Lib.byteCells_length, List.length_take]; omega, ?_⟩
  rcases h.2 with ⟨h1, h2⟩ | ⟨g, cap, cur, hv, hb, hg, hn, hc, hs, ht⟩
  · simp only [Value.slice.injEq] at h1
    obtain ⟨rfl, _, rfl⟩ := h1
    have : k = 0 := by omega
    subst this
    exact .inl ⟨rfl, rfl⟩
  · simp only [Value.slice.injEq] at hv
    obtain ⟨rfl, _, rfl⟩ := hv
    refine .inr ⟨g, _, cur, rfl, hb, hg, by omega, hc, hs, ?_⟩
    have : (Lib.byteCells l).take k = Lib.byteCells (l.take k) := by simp [Lib.byteCells, List.map_take]
    rw [← this, ← ht, List.take_take]
    congr 1
    omega

theorem own_blk (a : Option Addr) (n c n' c' : Nat) : (Value.slice a n c).ownBlock = (Value.slice a n' c').ownBlock := by cases a <;> rfl
def stays (f : F) (k : Int) : Nat := f.kept + min (max k 0).toNat (f.data.length - f.kept)

def Fell (w : World) (x : Pl) (k : Int) (e : Ending) (w' : World) : Prop :=
  e = .returned (.tuple #[]) ∧ Only (fun i => i = x.blk) w w' ∧ ∃ v', FileAt w' ⟨fall x.f k, x.blk, v'⟩ ∧ v'.ownBlock = x.v.ownBlock

set_option maxRecDepth 20000 in
set_option maxHeartbeats 2000000 in
theorem fall_c (x : Pl) (k : Int) (w : World) (hk0 : -9223372036854775808 ≤ k) (hk1 : k ≤ 9223372036854775807) (hF : FileAt w x) (hne : x.v.ownBlock ≠ some x.blk) (hkl : x.f.kept ≤ x.f.data.length) (hl : x.f.data.length ≤ 16777216) :
    Calls Tryz.prog 49 #[.pointer (some ⟨x.blk, 0, none⟩), .int .i64 k] w (Fell w x k) := by
  obtain ⟨a, c, hv, _⟩ := row_shape hF.2
  have hc : x.f.data.length ≤ c := by
    rcases hF.2.2 with ⟨h1, h2⟩ | ⟨g, cap, cur, h1, _, _, h2, _⟩
    · omega
    · rw [hv] at h1; simp only [Value.slice.injEq] at h1; omega
  have c0 : w.cell? ⟨x.blk, 0, none⟩ = some (.slice a x.f.data.length c) := by rw [cells_at hF.1, ← hv]; rfl
  have c1 : w.cell? ⟨x.blk, 1, none⟩ = some (.int .i64 (x.f.kept : Int)) := by rw [cells_at hF.1]; rfl
  have f0 := cells_free hF.1 0
  have f1 := cells_free hF.1 1
  obtain ⟨r, hr⟩ : ∃ r, r = stays x.f k := ⟨_, rfl⟩
  have hr2 : r ≤ x.f.data.length := by rw [hr]; unfold stays; omega
  have key : ∀ w1 : World, w1.heap = ((w.setCell ⟨x.blk, 1, none⟩ (.int .i64 (r : Int))).setCell ⟨x.blk, 0, none⟩ (.slice a r c)).heap → w1.os = w.os → w1.tape = w.tape → w1.output = w.output → Fell w x k (.returned (.tuple #[])) w1 := by
    intro w1 e eo et ep
    have o2 := (Only.cell1 w x.blk 1 (.int .i64 (r : Int))).trans (Only.cell1 _ x.blk 0 (.slice a r c))
    refine ⟨rfl, ⟨eo, et, ep, by rw [e]; exact o2.size, fun k hk hb => by rw [e]; exact o2.block k hk hb⟩, .slice a r c, ⟨?_, ?_⟩, by rw [hv]; exact own_blk _ _ _ _ _⟩
    · rw [e, cells_set (cells_set hF.1 1 _) 0 _]
      rw [hr]; rfl
    · have h1 := row_cut (hv ▸ hF.2) r hr2
      have hne' : (Value.slice a r c).ownBlock ≠ some x.blk := by rw [hv] at hne; rw [own_blk a r c x.f.data.length c]; exact hne
      have h2 := ownsRow_setCell_other (ownsRow_setCell_other h1 (a := ⟨x.blk, 1, none⟩) hne' (.int .i64 (r : Int))) (a := ⟨x.blk, 0, none⟩) hne' (.slice a r c)
      have h3 : (fall x.f k).data = x.f.data.take r := by rw [hr]; rfl
      have h4 : (x.f.data.take r).length = r := by rw [List.length_take]; omega
      show World.ownsRow _ 0 _ 1 (.slice a r c) (fall x.f k).data.length (Lib.byteCells (fall x.f k).data)
      rw [h3, h4]
      unfold World.ownsRow at h2 ⊢
      rw [e]
      exact h2
  have HK := Lib.hid key
  have HR := Lib.hid hr
  clear key hF hv hne hr
  unfold stays at HR
  generalize x.f.data.length = q at *
  generalize x.f.kept = t at *
  have hsl : ∀ w, (Instr.slice 60 (.slice a q c) none (some (.int .i64 (r : Int))) none).run Tryz.prog w = .ok (.slice a r c) w := by
    intro w
    have hsz : ∀ w, (sizeOf (Tryz.prog.elem 60)).run Tryz.prog w = .ok 1 w := fun w => by kernel_rfl
    rw [run_slice_h w _ _ _ _ (by kernel_rfl) .i64 _ (by omega) (by omega), hsz]
    simp only [Result.andThen, sliced, Int.toNat_natCast, Nat.sub_zero, Nat.zero_mul]
    congr 1
    by_cases hc0 : c = 0
    · rw [if_pos hc0]
    · rw [if_neg hc0]; cases a <;> simp [Addr.add]
  have e3 : (t : Int) + min (max k 0) ((q : Int) - (t : Int)) = (r : Int) := by have := HR.out; omega
  have e1 : IntKind.i64.wrap ((q : Int) - (t : Int)) = (q : Int) - (t : Int) := IntWalk.i64_in _ (by omega)
  have e2 : IntKind.i64.wrap (r : Int) = (r : Int) := IntWalk.i64_in _ (by omega)
  go_enter Tryz.func49, Tryz.ntmps49
  go_wp2_with fail
  go_still_tail 20, (by kernel_rfl)
  change wpList _ _ _ _ _ w.drew
  go_wp2_with fail
  obtain ⟨W, hW⟩ : ∃ W, W = (w.setCell ⟨x.blk, 1, none⟩ (.int .i64 (r : Int))).drew := ⟨_, rfl⟩
  have d0 : W.cell? ⟨x.blk, 0, none⟩ = some (.slice a q c) := by rw [hW]; simp [World.cell?_setCell_other, c0]
  have d1 : W.cell? ⟨x.blk, 1, none⟩ = some (.int .i64 (r : Int)) := by rw [hW]; simp [World.cell?_setCell_same _ _ _ c1]
  have g0 : W.frozen? ⟨x.blk, 0, none⟩ = false := by rw [hW]; simp [f0]
  rw [← hW]
  have HW := Lib.hid hW
  clear hW e1 e2 e3 c0 c1 f0 f1
  go_region
  all_goals
    go_wp2_with fail
    go_end0
    exact HK.out _ (by rw [HW.out]; rfl) (by rw [HW.out]; rfl) (by rw [HW.out]; rfl) (by rw [HW.out]; rfl)
end Go.Proofs.YtckmciafonnohaaGreat
/- The contract of Rise: by a walk of its loop over the names. -/
namespace Go.Proofs.YtckmciafonnohaaGreat
open Go.RowKit Go.Maps FsPlain
set_option linter.unusedVariables false
set_option linter.unusedSimpArgs false
set_option maxRecDepth 20000

/-- A row of numbers that is only read. -/
def KeepAt (w : World) (B : Nat → Prop) (a : Option Addr) (ks : List Int) : Prop :=
  ks = [] ∨ ∃ kb ko, a = some ⟨kb, ko, none⟩ ∧ kb < w.heap.size ∧ ¬ B kb ∧ ∀ j k, ks[j]? = some k → w.cell? ⟨kb, ko + j, none⟩ = some (.int .i64 k)

structure RiseAt (p m : Nat) (s : St) (B : Nat → Prop) (ks : List Int) (w1 : World) (i : Value) (wr : World) (j : Nat) : Prop where
  ival : i = .int .i64 (j : Int)
  jle : j ≤ s.fs.length
  ok : (riseN s ks j).ok
  d : ∃ Bj L, DiskAt wr p (riseN s ks j) Bj m L ∧ ∀ b, Bj b → B b ∨ w1.heap.size ≤ b
  o : Only B w1 wr

def RiseIn (p m : Nat) (s : St) (B : Nat → Prop) (ks : List Int) (w1 : World) (i : Value) (wr : World) : Prop := ∃ j, RiseAt p m s B ks w1 i wr j

theorem bs_list (l : List UInt8) : (bs l).data.toList = l := rfl

theorem fell_next {p m : Nat} {s : St} {B : Nat → Prop} {L : List Pl} {x : Pl} {n : List UInt8} {k : Int} {w w' : World} {e : Ending} (h : DiskAt w p s B m L) (hf : L.find? (fun x => x.f.name == n) = some x) (k' : Fell w x k e w') :
    ∃ L', DiskAt w' p (s.upd n (fun f => fall f k)) (fun b => B b ∨ (w.heap.size ≤ b ∧ b < w'.heap.size)) m L' := by
  obtain ⟨_, o, v', hF, hv⟩ := k'
  exact h.put hf (x' := ⟨fall x.f k, x.blk, v'⟩) (g := fun f => fall f k) rfl rfl rfl hF (o.mono fun i e => by subst e; simp [plBlocks]) (fun i hi => .inl (by rw [← hv]; exact hi))

theorem rise_step {p m : Nat} {s : St} {B : Nat → Prop} {ks : List Int} {w1 wr w' : World} {i : Value} {j : Nat} {e : Ending} {Bj : Nat → Prop} {L : List Pl} {x : Pl} (h : RiseAt p m s B ks w1 i wr j) (hj : j < s.fs.length)
    (hD : DiskAt wr p (riseN s ks j) Bj m L) (hB : ∀ b, Bj b → B b ∨ w1.heap.size ≤ b) (hf : L.find? (fun x => x.f.name == nameAt s.fs j) = some x) (hk : Fell wr x (ks.getD j 0) e w') :
    RiseAt p m s B ks w1 (.int .i64 ((j : Int) + 1)) w' (j + 1) := by
  have hg : (riseN s ks j).get (nameAt s.fs j) = some x.f := by
    unfold St.get; rw [← hD.fs, List.find?_map]
    have : ((fun f : F => f.name == nameAt s.fs j) ∘ fun x : Pl => x.f) = fun x : Pl => x.f.name == nameAt s.fs j := rfl
    rw [this, hf]; rfl
  obtain ⟨L', hD'⟩ := fell_next hD hf hk
  refine ⟨rfl, hj, ok_fall h.ok hg _, ⟨_, L', hD', fun b hb => ?_⟩, ?_⟩
  · rcases hb with hb | hb
    · exact hB b hb
    · exact .inr (Nat.le_trans h.o.size hb.1)
  · exact h.o.andThen hk.2.1 fun b e => by
      subst e
      exact hB _ (plBlocks_B hD (List.mem_of_find?_eq_some hf) _ (by simp [plBlocks]))

set_option maxRecDepth 20000 in
set_option maxHeartbeats 2000000 in
theorem rise_c (p : Nat) (s : St) (B : Nat → Prop) (a : Option Addr) (ks : List Int) (kc : Nat) (w : World) (h : Disk w p s B) (hK : KeepAt w B a ks) (hks : ∀ k ∈ ks, I64 k) (hkl : (ks.length : Int) ≤ 1000000000000) :
    Calls Tryz.prog 20 #[.pointer (some ⟨p, 0, none⟩), .slice a ks.length kc] w (Tells w p (riseR s ks) B (.tuple #[])) := by
  obtain ⟨hs, m, L, hD⟩ := h
  have C0 := made_c p m s w hD.heap
  have CN := names_c p m s B L w hs hD
  rw [hD.sorted] at CN
  have HS := Lib.hid hs
  have HD := Lib.hid hD
  have HK := Lib.hid hK
  have HKS := Lib.hid hks
  have hLl : L.length = s.fs.length := by rw [← hD.fs]; simp
  have hnm : (L.map fun x => x.f.name) = s.fs.map (·.name) := by rw [← hD.fs, List.map_map]; rfl
  rw [hnm] at CN
  have h200 : (s.fs.length : Int) ≤ 200 := by have := hs.m; omega
  have HLl := Lib.hid hLl
  clear hD hs hK hks hnm hLl
  go_enter Tryz.func20, Tryz.ntmps20
  go_wp2_with fail
  refine C0.mono ?_; rintro e w2 ⟨rfl, rfl⟩
  go_wp2_with fail
  refine CN.mono ?_; rintro e w1 ⟨v, rfl, hrow, hg⟩
  rw [List.length_map] at hrow
  have hD1 := HD.out.gr hg
  obtain ⟨va, vc, rfl, hva⟩ : ∃ va vc, v = .slice va s.fs.length vc ∧ (0 < s.fs.length → ∃ g, va = some ⟨g, 0, none⟩ ∧ w.heap.size ≤ g ∧ g < w1.heap.size ∧ ∀ j n, (s.fs.map (·.name))[j]? = some n → w1.cell? ⟨g, j, none⟩ = some (.string (bs n))) := by
    rcases hrow.2 with ⟨h1, h2⟩ | ⟨g, cap, cur, rfl, h1, h2, _⟩
    · exact ⟨none, 0, by rw [h1, h2], fun h => by omega⟩
    · refine ⟨_, _, rfl, fun _ => ⟨g, rfl, h1, (Array.getElem?_eq_some_iff.1 h2).1, fun j n hj => ?_⟩⟩
      have := hrow.cells (g := g) rfl j (.string (bs n)) (by rw [List.getElem?_map, hj]; rfl)
      rw [Addr.add_lit, Nat.zero_add] at this
      exact this
  have HVA := Lib.hid hva
  have HG := Lib.hid hg
  have HD1 := Lib.hid hD1
  clear hva hg hD1 hrow
  go_wp2_with fail
  go_loopw [13] (fun i wr => RiseIn p m s B ks w1 i wr) (fun i _ => s.fs.length - (intOf i).toNat)
  case atStart => exact ⟨0, rfl, Nat.zero_le _, HS.out, ⟨B, L, HD1.out, fun b hb => .inl hb⟩, Only.refl _ _⟩
  case round =>
    obtain ⟨j, hR⟩ := hrel
    obtain rfl := hR.ival
    have hj := hR.jle
    obtain ⟨Bj, Lj, hDj, hBj⟩ := hR.d
    have HR := Lib.hid hR
    have HDj := Lib.hid hDj
    have HBj := Lib.hid hBj
    by_cases hlt : j < s.fs.length
    · obtain ⟨g, rfl, hg1, hg2, hcn⟩ := HVA.out (by omega)
      obtain ⟨n, hn⟩ : ∃ n, nameAt s.fs j = n := ⟨_, rfl⟩
      have hnj : (s.fs.map (·.name))[j]? = some n := by
        rw [← hn]; unfold nameAt; rw [List.getD_eq_getElem?_getD, List.getElem?_eq_getElem (by simpa using hlt)]; rfl
      have hnB : ¬ B g := fun e => by have := HD.out.low g e; omega
      have cn : wr.cell? ⟨g, j, none⟩ = some (.string (bs n)) := by rw [hR.o.cell hg2 hnB]; exact hcn j n hnj
      have hnmem : n ∈ (riseN s ks j).fs.map (·.name) := by rw [rise_names]; exact List.mem_of_getElem? hnj
      have hn24 : n.length ≤ 24 := by
        obtain ⟨f, hf, rfl⟩ := List.mem_map.1 hnmem
        exact hR.ok.n f hf
      obtain ⟨f, hget⟩ := get_name hnmem
      rcases hDj.look (bs n) (by rw [bs_size]; unfold maxLen; omega) with ⟨hno, _, _⟩ | ⟨x, hx, hfx, hlx⟩
      · rw [bs_list, hget] at hno; cases hno
      · rw [bs_list] at hx hfx
        have hmem := List.mem_of_find?_eq_some hfx
        have hxs := get_mem hx
        have hxl : x.f.data.length ≤ 16777216 := by have h1 := used_le hxs; have h2 := hR.ok.u; have h3 := hR.ok.r1; omega
        have cfs : wr.cell? ⟨p, 1, none⟩ = some (.map (some m)) := by rw [cells_at hDj.heap]; rfl
        have hlk := hlx wr hDj.own
        have HFX := Lib.hid hfx
        have CFa := fun k h1 h2 => fall_c x k wr h1 h2 (hDj.file x hmem) (hDj.row_ne hmem) (hR.ok.k _ hxs) hxl
        by_cases hjk : j < ks.length
        · rcases HK.out with h0 | ⟨kb, ko, rfl, hkb, hkB, hkc⟩
          · rw [h0] at hjk; simp at hjk
          · obtain ⟨k, hk⟩ : ∃ k, ks[j]? = some k := ⟨_, List.getElem?_eq_getElem hjk⟩
            have hkd : ks.getD j 0 = k := by rw [List.getD_eq_getElem?_getD, hk]; rfl
            have ck : wr.cell? ⟨kb, ko + j, none⟩ = some (.int .i64 k) := by
              rw [hR.o.cell (by exact Nat.lt_of_lt_of_le hkb HG.out.size) hkB, HG.out.cell (by exact hkb)]; exact hkc j k hk
            have hk64 := HKS.out k (List.mem_of_getElem? hk)
            unfold I64 at hk64
            have CF := CFa k hk64.1 hk64.2
            have HN := Lib.hid hn
            have HKD := Lib.hid hkd
            clear hR hDj hBj hcn hn hnj hnmem hget hx hfx hlx hxs hxl CFa hk hkd hkc hmem hn24 hg1 hg2 hnB
            go_wp2_with fail
            refine CF.mono ?_; rintro e w3 hfell
            obtain rfl := hfell.1
            have HFE := Lib.hid hfell
            clear hfell
            go_wp2_with fail
            go_roundw
            case rel => exact ⟨j + 1, rise_step HR.out hlt HDj.out HBj.out (by rw [HN.out]; exact HFX.out) (by rw [HKD.out]; exact HFE.out)⟩
            case measure => simp [intOf]; omega
        · have hkd : ks.getD j 0 = 0 := by rw [List.getD_eq_getElem?_getD, List.getElem?_eq_none (by omega)]; rfl
          have CF := CFa 0 (by omega) (by omega)
          have HN := Lib.hid hn
          have HKD := Lib.hid hkd
          clear hR hDj hBj hcn hn hnj hnmem hget hx hfx hlx hxs hxl CFa hkd hmem hn24 hg1 hg2 hnB
          go_wp2_with fail
          refine CF.mono ?_; rintro e w3 hfell
          obtain rfl := hfell.1
          have HFE := Lib.hid hfell
          clear hfell
          go_wp2_with fail
          go_roundw
          case rel => exact ⟨j + 1, rise_step HR.out hlt HDj.out HBj.out (by rw [HN.out]; exact HFX.out) (by rw [HKD.out]; exact HFE.out)⟩
          case measure => simp [intOf]; omega
    · have hje : j = s.fs.length := by omega
      have c3 : wr.cell? ⟨p, 3, none⟩ = some (.int .i64 (riseN s ks j).ahead) := by rw [cells_at hDj.heap]; rfl
      have c4 : wr.cell? ⟨p, 4, none⟩ = some (.bool (riseN s ks j).down) := by rw [cells_at hDj.heap]; rfl
      have f3 := cells_free hDj.heap 3
      have f4 := cells_free hDj.heap 4
      have key : Next w p (riseR s ks) B ((wr.setCell ⟨p, 4, none⟩ (.bool false)).setCell ⟨p, 3, none⟩ (.int .i64 (-1))) := by
        have o := (Only.cell1 wr p 4 (.bool false)).trans (Only.cell1 _ p 3 (.int .i64 (-1)))
        have hD2 := hDj.own_block o (s' := { riseN s ks j with down := false, ahead := -1 }) (by rw [cells_set (cells_set hDj.heap 4 _) 3 _]; rfl) rfl
        have hk := hR.ok
        have hrr : riseR s ks = { riseN s ks j with down := false, ahead := -1 } := by rw [hje]; rfl
        rw [hrr]
        refine ⟨Bj, ⟨⟨hk.r0, hk.r1, hk.c0, Int.le_refl _, by show (-1 : Int) ≤ _; omega, hk.u, hk.k, hk.n, hk.m, hk.d⟩, m, Lj, hD2⟩, ?_, fun b hb => ?_⟩
        · exact ((Only.ofGr HG.out).trans hR.o).andThen o fun i e => by
            have hpB := hDj.mine p (by simp)
            rw [show i = p from e]
            rcases hBj p hpB with h1 | h1
            · exact .inl h1
            · exact .inr (Nat.le_trans HG.out.size h1)
        · rcases hBj b hb with h1 | h1
          · exact .inl h1
          · exact .inr (Nat.le_trans HG.out.size h1)
      have HKEY := Lib.hid key
      clear key hR hDj hBj hje
      go_wp2_with fail
      go_end0
      exact ⟨rfl, HKEY.out⟩
end Go.Proofs.YtckmciafonnohaaGreat
/- The program's disk as a part of a world: what its other calls leave. -/
namespace Go.Proofs.YtckmciafonnohaaGreat
open Go.RowKit Go.Maps FsPlain
set_option linter.unusedVariables false
set_option linter.unusedSimpArgs false
set_option maxRecDepth 20000
theorem d_arm (p : Nat) (s : St) (n : Int) (h0 : -9223372036854775808 ≤ n) (h1 : n ≤ 9223372036854775807) (w : World) (B : Nat → Prop) (h : DiskA p s w B) :
    Calls Tryz.prog 12 #[.pointer (some ⟨p, 0, none⟩), .int .i64 n] w (Does w B (DiskA p (armed s n)) (.tuple #[])) :=
  (arm_c p s B n w h h0 h1).mono fun _ _ => tells_does
/-- Rise(nil). -/
theorem d_rise (p : Nat) (s : St) (w : World) (B : Nat → Prop) (h : DiskA p s w B) :
    Calls Tryz.prog 20 #[.pointer (some ⟨p, 0, none⟩), .slice none 0 0] w (Does w B (DiskA p (riseR s [])) (.tuple #[])) :=
  (rise_c p s B none [] 0 w h (.inl rfl) (by simp) (by simp)).mono fun _ _ => tells_does
theorem d_calls (p : Nat) (s : St) (w : World) (B : Nat → Prop) (h : DiskA p s w B) : Calls Tryz.prog 16 #[.pointer (some ⟨p, 0, none⟩)] w fun e w' => e = .returned (.int .i64 s.calls) ∧ w = w' := calls_c p s B w h
end Go.Proofs.YtckmciafonnohaaGreat

/- In one text: FsFall, FsRise, Sep, FsA. -/
import Derived.Test.YtcpaaenjfljocaaGreatP03
import Derived.StillTailTactics
import Derived.Test.YtcpaaenjfljocaaGreatP00
/- The contract of a file's fall; the order of the names. -/
namespace Go.Proofs.YtcpaaenjfljocaaGreat
open Go.RowKit Go.Maps FsPlain
set_option linter.unusedVariables false
set_option linter.unusedSimpArgs false

theorem before_le : ∀ a b : List UInt8, bytesBefore a b = true → a ≤ b
  | [], b, _ => List.nil_le b
  | _ :: _, [], h => by simp [bytesBefore] at h
  | x :: r, y :: q, h => by
    simp only [bytesBefore, Bool.or_eq_true, Bool.and_eq_true, decide_eq_true_eq, beq_iff_eq] at h
    rw [List.cons_le_cons_iff]
    rcases h with h | ⟨h1, h2⟩
    · exact .inl h
    · exact .inr ⟨h1, before_le r q h2⟩

theorem DiskAt.sorted {w : World} {p m : Nat} {s : St} {B : Nat → Prop} {L : List Pl} (h : DiskAt w p s B m L) : (L.map fun x => x.f.name).mergeSort (fun x y => decide (x ≤ y)) = L.map fun x => x.f.name := by
  obtain ⟨es, clock, _, F, _, hD⟩ := h.own
  have hp := sorted_sorted lawS.one _ (fit_keys F) (fit_apart lawS F)
  unfold ents at hD
  simp only [DataW.map.injEq] at hD
  rw [← hD] at hp
  rw [List.pairwise_map] at hp
  refine List.mergeSort_of_pairwise ?_
  rw [List.pairwise_map]
  exact hp.imp fun h => by simpa using before_le _ _ h

theorem row_cut {w : World} {a : Option Addr} {n c : Nat} {l : List UInt8} (h : w.ownsRow 0 5 1 (.slice a n c) n (Lib.byteCells l)) (k : Nat) (hk : k ≤ n) : w.ownsRow 0 5 1 (.slice a k c) k (Lib.byteCells (l.take k)) := by
  have hl : l.length = n := by have := h.1; simpa [Lib.byteCells_length] using this
  refine ⟨by rw [Lib.byteCells_length, List.length_take]; omega, ?_⟩
  rcases h.2 with ⟨h1, h2⟩ | ⟨g, cap, cur, hv, hb, hg, hn, hc, hs, ht⟩
  · simp only [Value.slice.injEq] at h1
    obtain ⟨rfl, _, rfl⟩ := h1
    have : k = 0 := by omega
    subst this
    exact .inl ⟨rfl, rfl⟩
  · simp only [Value.slice.injEq] at hv
    obtain ⟨rfl, _, rfl⟩ := hv
    refine .inr ⟨g, _, cur, rfl, hb, hg, by omega, hc, hs, ?_⟩
    have : (Lib.byteCells l).take k = Lib.byteCells (l.take k) := by simp [Lib.byteCells, List.map_take]
    rw [← this, ← ht, List.take_take]
    congr 1
    omega

theorem own_blk (a : Option Addr) (n c n' c' : Nat) : (Value.slice a n c).ownBlock = (Value.slice a n' c').ownBlock := by cases a <;> rfl
def stays (f : F) (k : Int) : Nat := f.kept + min (max k 0).toNat (f.data.length - f.kept)

def Fell (w : World) (x : Pl) (k : Int) (e : Ending) (w' : World) : Prop :=
  e = .returned (.tuple #[]) ∧ Only (fun i => i = x.blk) w w' ∧ ∃ v', FileAt w' ⟨fall x.f k, x.blk, v'⟩ ∧ v'.ownBlock = x.v.ownBlock

set_option maxRecDepth 20000 in
set_option maxHeartbeats 2000000 in
theorem fall_c (x : Pl) (k : Int) (w : World) (hk0 : -9223372036854775808 ≤ k) (hk1 : k ≤ 9223372036854775807) (hF : FileAt w x) (hne : x.v.ownBlock ≠ some x.blk) (hkl : x.f.kept ≤ x.f.data.length) (hl : x.f.data.length ≤ 16777216) :
    Calls Tryz.prog 54 #[.pointer (some ⟨x.blk, 0, none⟩), .int .i64 k] w (Fell w x k) := by
  obtain ⟨a, c, hv, _⟩ := row_shape hF.2
  have hc : x.f.data.length ≤ c := by
    rcases hF.2.2 with ⟨h1, h2⟩ | ⟨g, cap, cur, h1, _, _, h2, _⟩
    · omega
    · rw [hv] at h1; simp only [Value.slice.injEq] at h1; omega
  have c0 : w.cell? ⟨x.blk, 0, none⟩ = some (.slice a x.f.data.length c) := by rw [cells_at hF.1, ← hv]; rfl
  have c1 : w.cell? ⟨x.blk, 1, none⟩ = some (.int .i64 (x.f.kept : Int)) := by rw [cells_at hF.1]; rfl
  have f0 := cells_free hF.1 0
  have f1 := cells_free hF.1 1
  obtain ⟨r, hr⟩ : ∃ r, r = stays x.f k := ⟨_, rfl⟩
  have hr2 : r ≤ x.f.data.length := by rw [hr]; unfold stays; omega
  have key : ∀ w1 : World, w1.heap = ((w.setCell ⟨x.blk, 1, none⟩ (.int .i64 (r : Int))).setCell ⟨x.blk, 0, none⟩ (.slice a r c)).heap → w1.os = w.os → w1.tape = w.tape → w1.output = w.output → Fell w x k (.returned (.tuple #[])) w1 := by
    intro w1 e eo et ep
    have o2 := (Only.cell1 w x.blk 1 (.int .i64 (r : Int))).trans (Only.cell1 _ x.blk 0 (.slice a r c))
    refine ⟨rfl, ⟨eo, et, ep, by rw [e]; exact o2.size, fun k hk hb => by rw [e]; exact o2.block k hk hb⟩, .slice a r c, ⟨?_, ?_⟩, by rw [hv]; exact own_blk _ _ _ _ _⟩
    · rw [e, cells_set (cells_set hF.1 1 _) 0 _]
      rw [hr]; rfl
    · have h1 := row_cut (hv ▸ hF.2) r hr2
      have hne' : (Value.slice a r c).ownBlock ≠ some x.blk := by rw [hv] at hne; rw [own_blk a r c x.f.data.length c]; exact hne
      have h2 := ownsRow_setCell_other (ownsRow_setCell_other h1 (a := ⟨x.blk, 1, none⟩) hne' (.int .i64 (r : Int))) (a := ⟨x.blk, 0, none⟩) hne' (.slice a r c)
      have h3 : (fall x.f k).data = x.f.data.take r := by rw [hr]; rfl
      have h4 : (x.f.data.take r).length = r := by rw [List.length_take]; omega
      show World.ownsRow _ 0 _ 1 (.slice a r c) (fall x.f k).data.length (Lib.byteCells (fall x.f k).data)
      rw [h3, h4]
      unfold World.ownsRow at h2 ⊢
      rw [e]
      exact h2
  have HK := Lib.hid key
  have HR := Lib.hid hr
  clear key hF hv hne hr
  unfold stays at HR
  generalize x.f.data.length = q at *
  generalize x.f.kept = t at *
  have hsl : ∀ w, (Instr.slice 88 (.slice a q c) none (some (.int .i64 (r : Int))) none).run Tryz.prog w = .ok (.slice a r c) w := by
    intro w
    have hsz : ∀ w, (sizeOf (Tryz.prog.elem 88)).run Tryz.prog w = .ok 1 w := fun w => by kernel_rfl
    rw [run_slice_h w _ _ _ _ (by kernel_rfl) .i64 _ (by omega) (by omega), hsz]
    simp only [Result.andThen, sliced, Int.toNat_natCast, Nat.sub_zero, Nat.zero_mul]
    congr 1
    by_cases hc0 : c = 0
    · rw [if_pos hc0]
    · rw [if_neg hc0]; cases a <;> simp [Addr.add]
  have e3 : (t : Int) + min (max k 0) ((q : Int) - (t : Int)) = (r : Int) := by have := HR.out; omega
  have e1 : IntKind.i64.wrap ((q : Int) - (t : Int)) = (q : Int) - (t : Int) := IntWalk.i64_in _ (by omega)
  have e2 : IntKind.i64.wrap (r : Int) = (r : Int) := IntWalk.i64_in _ (by omega)
  go_enter Tryz.func54, Tryz.ntmps54
  go_wp2_with fail
  go_still_tail 20, (by kernel_rfl)
  change wpList _ _ _ _ _ w.drew
  go_wp2_with fail
  obtain ⟨W, hW⟩ : ∃ W, W = (w.setCell ⟨x.blk, 1, none⟩ (.int .i64 (r : Int))).drew := ⟨_, rfl⟩
  have d0 : W.cell? ⟨x.blk, 0, none⟩ = some (.slice a q c) := by rw [hW]; simp [World.cell?_setCell_other, c0]
  have d1 : W.cell? ⟨x.blk, 1, none⟩ = some (.int .i64 (r : Int)) := by rw [hW]; simp [World.cell?_setCell_same _ _ _ c1]
  have g0 : W.frozen? ⟨x.blk, 0, none⟩ = false := by rw [hW]; simp [f0]
  rw [← hW]
  have HW := Lib.hid hW
  clear hW e1 e2 e3 c0 c1 f0 f1
  go_region
  all_goals
    go_wp2_with fail
    go_end0
    exact HK.out _ (by rw [HW.out]; rfl) (by rw [HW.out]; rfl) (by rw [HW.out]; rfl) (by rw [HW.out]; rfl)
end Go.Proofs.YtcpaaenjfljocaaGreat
/- The contract of Rise: by a walk of its loop over the names. -/
namespace Go.Proofs.YtcpaaenjfljocaaGreat
open Go.RowKit Go.Maps FsPlain
set_option linter.unusedVariables false
set_option linter.unusedSimpArgs false

/-- A row of numbers that is only read. -/
def KeepAt (w : World) (B : Nat → Prop) (a : Option Addr) (ks : List Int) : Prop :=
  ks = [] ∨ ∃ kb ko, a = some ⟨kb, ko, none⟩ ∧ kb < w.heap.size ∧ ¬ B kb ∧ ∀ j k, ks[j]? = some k → w.cell? ⟨kb, ko + j, none⟩ = some (.int .i64 k)

structure RiseAt (p m : Nat) (s : St) (B : Nat → Prop) (ks : List Int) (w1 : World) (i : Value) (wr : World) (j : Nat) : Prop where
  ival : i = .int .i64 (j : Int)
  jle : j ≤ s.fs.length
  ok : (riseN s ks j).ok
  d : ∃ Bj L, DiskAt wr p (riseN s ks j) Bj m L ∧ ∀ b, Bj b → B b ∨ w1.heap.size ≤ b
  o : Only B w1 wr

def RiseIn (p m : Nat) (s : St) (B : Nat → Prop) (ks : List Int) (w1 : World) (i : Value) (wr : World) : Prop := ∃ j, RiseAt p m s B ks w1 i wr j

theorem bs_list (l : List UInt8) : (bs l).data.toList = l := rfl

theorem fell_next {p m : Nat} {s : St} {B : Nat → Prop} {L : List Pl} {x : Pl} {n : List UInt8} {k : Int} {w w' : World} {e : Ending} (h : DiskAt w p s B m L) (hf : L.find? (fun x => x.f.name == n) = some x) (k' : Fell w x k e w') :
    ∃ L', DiskAt w' p (s.upd n (fun f => fall f k)) (fun b => B b ∨ (w.heap.size ≤ b ∧ b < w'.heap.size)) m L' := by
  obtain ⟨_, o, v', hF, hv⟩ := k'
  exact h.put hf (x' := ⟨fall x.f k, x.blk, v'⟩) (g := fun f => fall f k) rfl rfl rfl hF (o.mono fun i e => by subst e; simp [plBlocks]) (fun i hi => .inl (by rw [← hv]; exact hi))

theorem rise_step {p m : Nat} {s : St} {B : Nat → Prop} {ks : List Int} {w1 wr w' : World} {i : Value} {j : Nat} {e : Ending} {Bj : Nat → Prop} {L : List Pl} {x : Pl} (h : RiseAt p m s B ks w1 i wr j) (hj : j < s.fs.length)
    (hD : DiskAt wr p (riseN s ks j) Bj m L) (hB : ∀ b, Bj b → B b ∨ w1.heap.size ≤ b) (hf : L.find? (fun x => x.f.name == nameAt s.fs j) = some x) (hk : Fell wr x (ks.getD j 0) e w') :
    RiseAt p m s B ks w1 (.int .i64 ((j : Int) + 1)) w' (j + 1) := by
  have hg : (riseN s ks j).get (nameAt s.fs j) = some x.f := by
    unfold St.get; rw [← hD.fs, List.find?_map]
    have : ((fun f : F => f.name == nameAt s.fs j) ∘ fun x : Pl => x.f) = fun x : Pl => x.f.name == nameAt s.fs j := rfl
    rw [this, hf]; rfl
  obtain ⟨L', hD'⟩ := fell_next hD hf hk
  refine ⟨rfl, hj, ok_fall h.ok hg _, ⟨_, L', hD', fun b hb => ?_⟩, ?_⟩
  · rcases hb with hb | hb
    · exact hB b hb
    · exact .inr (Nat.le_trans h.o.size hb.1)
  · exact h.o.andThen hk.2.1 fun b e => by
      subst e
      exact hB _ (plBlocks_B hD (List.mem_of_find?_eq_some hf) _ (by simp [plBlocks]))

set_option maxRecDepth 20000 in
set_option maxHeartbeats 2000000 in
theorem rise_c (p : Nat) (s : St) (B : Nat → Prop) (a : Option Addr) (ks : List Int) (kc : Nat) (w : World) (h : Disk w p s B) (hK : KeepAt w B a ks) (hks : ∀ k ∈ ks, I64 k) (hkl : (ks.length : Int) ≤ 1000000000000) :
    Calls Tryz.prog 24 #[.pointer (some ⟨p, 0, none⟩), .slice a ks.length kc] w (Tells w p (riseR s ks) B (.tuple #[])) := by
  obtain ⟨hs, m, L, hD⟩ := h
  have C0 := made_c p m s w hD.heap
  have CN := names_c p m s B L w hs hD
  rw [hD.sorted] at CN
  have HS := Lib.hid hs
  have HD := Lib.hid hD
  have HK := Lib.hid hK
  have HKS := Lib.hid hks
  have hLl : L.length = s.fs.length := by rw [← hD.fs]; simp
  have hnm : (L.map fun x => x.f.name) = s.fs.map (·.name) := by rw [← hD.fs, List.map_map]; rfl
  rw [hnm] at CN
  have h200 : (s.fs.length : Int) ≤ 200 := by have := hs.m; omega
  have HLl := Lib.hid hLl
  clear hD hs hK hks hnm hLl
  go_enter Tryz.func24, Tryz.ntmps24
  go_wp2_with fail
  refine C0.mono ?_; rintro e w2 ⟨rfl, rfl⟩
  go_wp2_with fail
  refine CN.mono ?_; rintro e w1 ⟨v, rfl, hrow, hg⟩
  rw [List.length_map] at hrow
  have hD1 := HD.out.gr hg
  obtain ⟨va, vc, rfl, hva⟩ : ∃ va vc, v = .slice va s.fs.length vc ∧ (0 < s.fs.length → ∃ g, va = some ⟨g, 0, none⟩ ∧ w.heap.size ≤ g ∧ g < w1.heap.size ∧ ∀ j n, (s.fs.map (·.name))[j]? = some n → w1.cell? ⟨g, j, none⟩ = some (.string (bs n))) := by
    rcases hrow.2 with ⟨h1, h2⟩ | ⟨g, cap, cur, rfl, h1, h2, _⟩
    · exact ⟨none, 0, by rw [h1, h2], fun h => by omega⟩
    · refine ⟨_, _, rfl, fun _ => ⟨g, rfl, h1, (Array.getElem?_eq_some_iff.1 h2).1, fun j n hj => ?_⟩⟩
      have := hrow.cells (g := g) rfl j (.string (bs n)) (by rw [List.getElem?_map, hj]; rfl)
      rw [Addr.add_lit, Nat.zero_add] at this
      exact this
  have HVA := Lib.hid hva
  have HG := Lib.hid hg
  have HD1 := Lib.hid hD1
  clear hva hg hD1 hrow
  go_wp2_with fail
  go_loopw [13] (fun i wr => RiseIn p m s B ks w1 i wr) (fun i _ => s.fs.length - (intOf i).toNat)
  case atStart => exact ⟨0, rfl, Nat.zero_le _, HS.out, ⟨B, L, HD1.out, fun b hb => .inl hb⟩, Only.refl _ _⟩
  case round =>
    obtain ⟨j, hR⟩ := hrel
    obtain rfl := hR.ival
    have hj := hR.jle
    obtain ⟨Bj, Lj, hDj, hBj⟩ := hR.d
    have HR := Lib.hid hR
    have HDj := Lib.hid hDj
    have HBj := Lib.hid hBj
    by_cases hlt : j < s.fs.length
    · obtain ⟨g, rfl, hg1, hg2, hcn⟩ := HVA.out (by omega)
      obtain ⟨n, hn⟩ : ∃ n, nameAt s.fs j = n := ⟨_, rfl⟩
      have hnj : (s.fs.map (·.name))[j]? = some n := by
        rw [← hn]; unfold nameAt; rw [List.getD_eq_getElem?_getD, List.getElem?_eq_getElem (by simpa using hlt)]; rfl
      have hnB : ¬ B g := fun e => by have := HD.out.low g e; omega
      have cn : wr.cell? ⟨g, j, none⟩ = some (.string (bs n)) := by rw [hR.o.cell hg2 hnB]; exact hcn j n hnj
      have hnmem : n ∈ (riseN s ks j).fs.map (·.name) := by rw [rise_names]; exact List.mem_of_getElem? hnj
      have hn24 : n.length ≤ 24 := by
        obtain ⟨f, hf, rfl⟩ := List.mem_map.1 hnmem
        exact hR.ok.n f hf
      obtain ⟨f, hget⟩ := get_name hnmem
      rcases hDj.look (bs n) (by rw [bs_size]; unfold maxLen; omega) with ⟨hno, _, _⟩ | ⟨x, hx, hfx, hlx⟩
      · rw [bs_list, hget] at hno; cases hno
      · rw [bs_list] at hx hfx
        have hmem := List.mem_of_find?_eq_some hfx
        have hxs := get_mem hx
        have hxl : x.f.data.length ≤ 16777216 := by have h1 := used_le hxs; have h2 := hR.ok.u; have h3 := hR.ok.r1; omega
        have cfs : wr.cell? ⟨p, 1, none⟩ = some (.map (some m)) := by rw [cells_at hDj.heap]; rfl
        have hlk := hlx wr hDj.own
        have HFX := Lib.hid hfx
        have CFa := fun k h1 h2 => fall_c x k wr h1 h2 (hDj.file x hmem) (hDj.row_ne hmem) (hR.ok.k _ hxs) hxl
        by_cases hjk : j < ks.length
        · rcases HK.out with h0 | ⟨kb, ko, rfl, hkb, hkB, hkc⟩
          · rw [h0] at hjk; simp at hjk
          · obtain ⟨k, hk⟩ : ∃ k, ks[j]? = some k := ⟨_, List.getElem?_eq_getElem hjk⟩
            have hkd : ks.getD j 0 = k := by rw [List.getD_eq_getElem?_getD, hk]; rfl
            have ck : wr.cell? ⟨kb, ko + j, none⟩ = some (.int .i64 k) := by
              rw [hR.o.cell (by exact Nat.lt_of_lt_of_le hkb HG.out.size) hkB, HG.out.cell (by exact hkb)]; exact hkc j k hk
            have hk64 := HKS.out k (List.mem_of_getElem? hk)
            unfold I64 at hk64
            have CF := CFa k hk64.1 hk64.2
            have HN := Lib.hid hn
            have HKD := Lib.hid hkd
            clear hR hDj hBj hcn hn hnj hnmem hget hx hfx hlx hxs hxl CFa hk hkd hkc hmem hn24 hg1 hg2 hnB
            go_wp2_with fail
            refine CF.mono ?_; rintro e w3 hfell
            obtain rfl := hfell.1
            have HFE := Lib.hid hfell
            clear hfell
            go_wp2_with fail
            go_roundw
            case rel => exact ⟨j + 1, rise_step HR.out hlt HDj.out HBj.out (by rw [HN.out]; exact HFX.out) (by rw [HKD.out]; exact HFE.out)⟩
            case measure => simp [intOf]; omega
        · have hkd : ks.getD j 0 = 0 := by rw [List.getD_eq_getElem?_getD, List.getElem?_eq_none (by omega)]; rfl
          have CF := CFa 0 (by omega) (by omega)
          have HN := Lib.hid hn
          have HKD := Lib.hid hkd
          clear hR hDj hBj hcn hn hnj hnmem hget hx hfx hlx hxs hxl CFa hkd hmem hn24 hg1 hg2 hnB
          go_wp2_with fail
          refine CF.mono ?_; rintro e w3 hfell
          obtain rfl := hfell.1
          have HFE := Lib.hid hfell
          clear hfell
          go_wp2_with fail
          go_roundw
          case rel => exact ⟨j + 1, rise_step HR.out hlt HDj.out HBj.out (by rw [HN.out]; exact HFX.out) (by rw [HKD.out]; exact HFE.out)⟩
          case measure => simp [intOf]; omega
    · have hje : j = s.fs.length := by omega
      have c3 : wr.cell? ⟨p, 3, none⟩ = some (.int .i64 (riseN s ks j).ahead) := by rw [cells_at hDj.heap]; rfl
      have c4 : wr.cell? ⟨p, 4, none⟩ = some (.bool (riseN s ks j).down) := by rw [cells_at hDj.heap]; rfl
      have f3 := cells_free hDj.heap 3
      have f4 := cells_free hDj.heap 4
      have key : Next w p (riseR s ks) B ((wr.setCell ⟨p, 4, none⟩ (.bool false)).setCell ⟨p, 3, none⟩ (.int .i64 (-1))) := by
        have o := (Only.cell1 wr p 4 (.bool false)).trans (Only.cell1 _ p 3 (.int .i64 (-1)))
        have hD2 := hDj.own_block o (s' := { riseN s ks j with down := false, ahead := -1 }) (by rw [cells_set (cells_set hDj.heap 4 _) 3 _]; rfl) rfl
        have hk := hR.ok
        have hrr : riseR s ks = { riseN s ks j with down := false, ahead := -1 } := by rw [hje]; rfl
        rw [hrr]
        refine ⟨Bj, ⟨⟨hk.r0, hk.r1, hk.c0, Int.le_refl _, by show (-1 : Int) ≤ _; omega, hk.u, hk.k, hk.n, hk.m, hk.d⟩, m, Lj, hD2⟩, ?_, fun b hb => ?_⟩
        · exact ((Only.ofGr HG.out).trans hR.o).andThen o fun i e => by
            have hpB := hDj.mine p (by simp)
            rw [show i = p from e]
            rcases hBj p hpB with h1 | h1
            · exact .inl h1
            · exact .inr (Nat.le_trans HG.out.size h1)
        · rcases hBj b hb with h1 | h1
          · exact .inl h1
          · exact .inr (Nat.le_trans HG.out.size h1)
      have HKEY := Lib.hid key
      clear key hR hDj hBj hje
      go_wp2_with fail
      go_end0
      exact ⟨rfl, HKEY.out⟩
end Go.Proofs.YtcpaaenjfljocaaGreat
/- What holds of a world in some of its blocks, and of two parts that lie apart: a call that turns the one part leaves the other. -/
namespace Go.Proofs.YtcpaaenjfljocaaGreat
open Go.RowKit
set_option linter.unusedVariables false
set_option linter.unusedSimpArgs false
/-- Said of a world, and of the blocks in which it lies. -/
abbrev Asn := World → (Nat → Prop) → Prop
/-- It stays while other blocks are written, and its blocks are there. -/
structure Fr (P : Asn) : Prop where
  fr : ∀ {w w' : World} {B C : Nat → Prop}, P w B → Only C w w' → (∀ b, B b → ¬ C b) → P w' B
  lo : ∀ {w : World} {B : Nat → Prop}, P w B → ∀ b, B b → b < w.heap.size
/-- Behind a call that may write B's blocks: at most they were, and what lies in B' is theirs, or new. -/
structure Nx (B : Nat → Prop) (w : World) (B' : Nat → Prop) (w' : World) : Prop where
  only : Only B w w'
  new : ∀ b, B' b → B b ∨ w.heap.size ≤ b
theorem Nx.refl (B : Nat → Prop) (w : World) : Nx B w B w := ⟨Only.refl _ _, fun _ h => .inl h⟩
theorem Nx.trans {B B1 B2 : Nat → Prop} {w w1 w2 : World} (h : Nx B w B1 w1) (k : Nx B1 w1 B2 w2) : Nx B w B2 w2 :=
  ⟨h.only.andThen k.only h.new, fun b hb => by
    rcases k.new b hb with h1 | h1
    · exact h.new b h1
    · exact .inr (Nat.le_trans h.only.size h1)⟩
theorem Nx.gr {B : Nat → Prop} {w w' : World} (g : Gr w w') : Nx B w B w' := ⟨Only.ofGr g, fun _ h => .inl h⟩
theorem Nx.of {B C : Nat → Prop} {w w' : World} (g : Only C w w') (hC : ∀ b, C b → B b) : Nx B w B w' := ⟨g.mono hC, fun _ h => .inl h⟩
/-- Parts that lie apart. -/
def star (P Q : Asn) : Asn := fun w B => ∃ B1 B2, P w B1 ∧ Q w B2 ∧ (∀ b, B1 b → ¬ B2 b) ∧ ∀ b, B b ↔ B1 b ∨ B2 b
theorem Fr.star {P Q : Asn} (h : Fr P) (k : Fr Q) : Fr (star P Q) where
  fr := fun ⟨B1, B2, p, q, a, e⟩ o d => ⟨B1, B2, h.fr p o fun b hb => d b ((e b).2 (.inl hb)), k.fr q o fun b hb => d b ((e b).2 (.inr hb)), a, e⟩
  lo := fun ⟨B1, B2, p, q, a, e⟩ b hb => by
    rcases (e b).1 hb with h1 | h1
    · exact h.lo p b h1
    · exact k.lo q b h1
theorem star_swap {P Q : Asn} {w : World} {B : Nat → Prop} (h : star P Q w B) : star Q P w B := by
  obtain ⟨B1, B2, p, q, a, e⟩ := h
  exact ⟨B2, B1, q, p, fun b h2 h1 => a b h1 h2, fun b => (e b).trans Or.comm⟩
theorem star_left {P Q R : Asn} {w : World} {B : Nat → Prop} (h : star (star P Q) R w B) : star P (star Q R) w B := by
  obtain ⟨B1, B2, ⟨C1, C2, p, q, a1, e1⟩, r, a, e⟩ := h
  refine ⟨C1, fun b => C2 b ∨ B2 b, p, ⟨C2, B2, q, r, fun b h2 => a b ((e1 b).2 (.inr h2)), fun _ => Iff.rfl⟩, fun b h1 h2 => ?_, fun b => ?_⟩
  · rcases h2 with h2 | h2
    · exact a1 b h1 h2
    · exact a b ((e1 b).2 (.inl h1)) h2
  · rw [e b, e1 b, or_assoc]
theorem star_right {P Q R : Asn} {w : World} {B : Nat → Prop} (h : star P (star Q R) w B) : star (star P Q) R w B :=
  star_swap (star_left (star_swap (star_left (star_swap h))))
/-- The second of three comes ahead. -/
theorem star_two {P Q R : Asn} {w : World} {B : Nat → Prop} (h : star P (star Q R) w B) : star Q (star P R) w B := by
  obtain ⟨B1, B2, p, ⟨C1, C2, q, r, a1, e1⟩, a, e⟩ := h
  refine ⟨C1, fun b => B1 b ∨ C2 b, q, ⟨B1, C2, p, r, fun b h1 h2 => a b h1 ((e1 b).2 (.inr h2)), fun _ => Iff.rfl⟩, fun b h1 h2 => ?_, fun b => ?_⟩
  · rcases h2 with h2 | h2
    · exact a b h2 ((e1 b).2 (.inl h1))
    · exact a1 b h1 h2
  · rw [e b, e1 b]; exact ⟨fun h => by rcases h with h | h | h <;> simp [h], fun h => by rcases h with h | h | h <;> simp [h]⟩
theorem star_mono {P P' Q : Asn} {w : World} {B : Nat → Prop} (h : star P Q w B) (k : ∀ B1, P w B1 → P' w B1) : star P' Q w B := by
  obtain ⟨B1, B2, p, q, a, e⟩ := h
  exact ⟨B1, B2, k _ p, q, a, e⟩
/-- What a call leaves of the part that it may turn. -/
def Does (w : World) (B : Nat → Prop) (Q : Asn) (v : Value) (e : Ending) (w' : World) : Prop := e = .returned v ∧ ∃ B', Q w' B' ∧ Nx B w B' w'
theorem star_of {Q R : Asn} (hR : Fr R) {w w' : World} {B B1 B2 B' : Nat → Prop} (r : R w B2) (a : ∀ b, B1 b → ¬ B2 b) (e : ∀ b, B b ↔ B1 b ∨ B2 b) (q : Q w' B') (n : Nx B1 w B' w') : ∃ B', star Q R w' B' ∧ Nx B w B' w' := by
  refine ⟨fun b => B' b ∨ B2 b, ⟨B', B2, q, hR.fr r n.only fun b h2 h1 => a b h1 h2, fun b h1 h2 => ?_, fun _ => Iff.rfl⟩, n.only.mono fun b h1 => (e b).2 (.inl h1), fun b hb => ?_⟩
  · rcases n.new b h1 with h3 | h3
    · exact a b h3 h2
    · have := hR.lo r b h2; omega
  · rcases hb with hb | hb
    · rcases n.new b hb with h3 | h3
      · exact .inl ((e b).2 (.inl h3))
      · exact .inr h3
    · exact .inl ((e b).2 (.inr hb))
/-- Of the part that a step turns, and the other one. -/
theorem star_step {P Q R : Asn} (hR : Fr R) {w w' : World} {B : Nat → Prop} (h : star P R w B) (k : ∀ B1, P w B1 → ∃ B', Q w' B' ∧ Nx B1 w B' w') : ∃ B', star Q R w' B' ∧ Nx B w B' w' := by
  obtain ⟨B1, B2, p, r, a, e⟩ := h
  obtain ⟨B', q, n⟩ := k B1 p
  exact star_of hR r a e q n
/-- A call on the first of two parts. -/
theorem does_star {Pr : Program} {P Q R : Asn} {w : World} {B : Nat → Prop} {f : FuncId} {args : Array Value} {v : Value} (hR : Fr R) (h : star P R w B) (k : ∀ B1, P w B1 → Calls Pr f args w (Does w B1 Q v)) :
    Calls Pr f args w (Does w B (star Q R) v) := by
  obtain ⟨B1, B2, p, r, a, e⟩ := h
  refine (k B1 p).mono ?_
  rintro x w' ⟨he, B', q, n⟩
  exact ⟨he, star_of hR r a e q n⟩
/-- A part that is read, in whatever world has at most new blocks. -/
theorem star_gr {P : Asn} (hP : Fr P) {w w' : World} {B : Nat → Prop} (h : P w B) (g : Gr w w') : P w' B := hP.fr h (Only.ofGr (B := fun _ => False) g) (fun _ _ e => e)
/-- A block known whole. -/
def Blk (p : Nat) (c : Array Value) (T : TypeId) : Asn := fun w B => w.heap[p]? = some (.cells c T (0, 0)) ∧ ∀ b, B b ↔ b = p
theorem fr_blk (p : Nat) (c : Array Value) (T : TypeId) : Fr (Blk p c T) where
  fr := fun ⟨h, e⟩ o d => ⟨by rw [o.block p (lt_of_block h) (d p ((e p).2 rfl))]; exact h, e⟩
  lo := fun ⟨h, e⟩ b hb => by rw [(e b).1 hb]; exact lt_of_block h
theorem Does.imp {w w' : World} {B : Nat → Prop} {Q Q' : Asn} {v : Value} {e : Ending} (h : Does w B Q v e w') (k : ∀ B', Q w' B' → Q' w' B') : Does w B Q' v e w' := by
  obtain ⟨he, B', q, n⟩ := h
  exact ⟨he, B', k _ q, n⟩
/-- What another call leaves, behind this one. -/
theorem Does.behind {w w1 w' : World} {B B1 : Nat → Prop} {Q : Asn} {v : Value} {e : Ending} (h : Nx B w B1 w1) (k : Does w1 B1 Q v e w') : Does w B Q v e w' := by
  obtain ⟨he, B', q, n⟩ := k
  exact ⟨he, B', q, h.trans n⟩
/-! Parts in a list. -/
def emp : Asn := fun _ B => ∀ b, ¬ B b
theorem fr_emp : Fr emp := ⟨fun h _ _ => h, fun h b hb => absurd hb (h b)⟩
def stars : List Asn → Asn
  | [] => emp
  | P :: L => star P (stars L)
def Frs : List Asn → Prop
  | [] => True
  | P :: L => Fr P ∧ Frs L
theorem fr_stars : ∀ {L : List Asn}, Frs L → Fr (stars L)
  | [], _ => fr_emp
  | _ :: _, h => h.1.star (fr_stars h.2)
/-- A call on the part at i. -/
theorem does_at {Pr : Program} {f : FuncId} {args : Array Value} {v : Value} {w : World} {P Q : Asn} : ∀ {L : List Asn} (i : Nat) {B : Nat → Prop}, L[i]? = some P → Frs L → stars L w B → (∀ B1, P w B1 → Calls Pr f args w (Does w B1 Q v)) → Calls Pr f args w (Does w B (stars (L.set i Q)) v)
  | [], i, B, hi, _, _, _ => by simp at hi
  | A :: L, 0, B, hi, hF, h, k => by
    obtain rfl : A = P := by simpa using hi
    exact does_star (fr_stars hF.2) h k
  | A :: L, i + 1, B, hi, hF, h, k =>
    (does_star (P := stars L) (Q := stars (L.set i Q)) hF.1 (star_swap h) fun B1 h1 => does_at i (by simpa using hi) hF.2 h1 k).mono fun e w' hd => hd.imp fun B' q => star_swap q
/-- A step on the part at i. -/
theorem step_at {w w' : World} {P Q : Asn} : ∀ {L : List Asn} (i : Nat) {B : Nat → Prop}, L[i]? = some P → Frs L → stars L w B → (∀ B1, P w B1 → ∃ B', Q w' B' ∧ Nx B1 w B' w') → ∃ B', stars (L.set i Q) w' B' ∧ Nx B w B' w'
  | [], i, B, hi, _, _, _ => by simp at hi
  | A :: L, 0, B, hi, hF, h, k => by
    obtain rfl : A = P := by simpa using hi
    exact star_step (fr_stars hF.2) h k
  | A :: L, i + 1, B, hi, hF, h, k => by
    obtain ⟨B', q, n⟩ := star_step (P := stars L) (Q := stars (L.set i Q)) hF.1 (star_swap h) fun B1 h1 => step_at i (by simpa using hi) hF.2 h1 k
    exact ⟨B', star_swap q, n⟩
/-- The part at i. -/
theorem part_at {w : World} {P : Asn} : ∀ {L : List Asn} (i : Nat) {B : Nat → Prop}, L[i]? = some P → stars L w B → ∃ B1, P w B1 ∧ ∀ b, B1 b → B b
  | [], i, B, hi, _ => by simp at hi
  | A :: L, 0, B, hi, h => by
    obtain rfl : A = P := by simpa using hi
    obtain ⟨B1, B2, p, _, _, e⟩ := h
    exact ⟨B1, p, fun b hb => (e b).2 (.inl hb)⟩
  | A :: L, i + 1, B, hi, h => by
    obtain ⟨B1, B2, _, q, _, e⟩ := h
    obtain ⟨B3, p, hB⟩ := part_at i (by simpa using hi) q
    exact ⟨B3, p, fun b hb => (e b).2 (.inr (hB b hb))⟩
theorem stars_gr {L : List Asn} (hF : Frs L) {w w' : World} {B : Nat → Prop} (h : stars L w B) (g : Gr w w') : stars L w' B := star_gr (fr_stars hF) h g
theorem stars_app : ∀ {L M : List Asn} {w : World} {B : Nat → Prop}, stars (L ++ M) w B ↔ star (stars L) (stars M) w B
  | [], M, w, B => ⟨fun h => ⟨fun _ => False, B, (fun b h => h), h, (fun b h => h.elim), fun b => (false_or _).symm ▸ Iff.rfl⟩, fun ⟨B1, B2, p, q, _, e⟩ => by
      have : B2 = B := by funext b; rw [eq_iff_iff, e b]; exact ⟨.inr, fun h => h.resolve_left (p b)⟩
      rw [← this]; exact q⟩
  | A :: L, M, w, B => ⟨fun ⟨B1, B2, p, q, a, e⟩ => star_right ⟨B1, B2, p, stars_app.1 q, a, e⟩, fun h => by
      obtain ⟨B1, B2, p, q, a, e⟩ := star_left h
      exact ⟨B1, B2, p, stars_app.2 q, a, e⟩⟩
/-- A call on the first parts. -/
theorem does_pre {Pr : Program} {f : FuncId} {args : Array Value} {v : Value} {w : World} {B : Nat → Prop} (L : List Asn) {L' M : List Asn} (hM : Frs M) (h : stars (L ++ M) w B) (k : ∀ B1, stars L w B1 → Calls Pr f args w (Does w B1 (stars L') v)) : Calls Pr f args w (Does w B (stars (L' ++ M)) v) :=
  (does_star (fr_stars hM) (stars_app.1 h) k).mono fun e w' hd => hd.imp fun B' q => stars_app.2 q
/-- A call on the last parts. -/
theorem does_suf {Pr : Program} {f : FuncId} {args : Array Value} {v : Value} {w : World} {B : Nat → Prop} (L : List Asn) {M M' : List Asn} (hL : Frs L) (h : stars (L ++ M) w B) (k : ∀ B1, stars M w B1 → Calls Pr f args w (Does w B1 (stars M') v)) : Calls Pr f args w (Does w B (stars (L ++ M')) v) :=
  (does_star (fr_stars hL) (star_swap (stars_app.1 h)) k).mono fun e w' hd => hd.imp fun B' q => stars_app.2 (star_swap q)
/-- The first parts, and what a step on them leaves of all. -/
theorem pre_next {w : World} {B : Nat → Prop} (L : List Asn) {M : List Asn} (hM : Frs M) (h : stars (L ++ M) w B) : ∃ B1, stars L w B1 ∧ ∀ {L' : List Asn} {w' : World} {B' : Nat → Prop}, stars L' w' B' → Nx B1 w B' w' → ∃ B3, stars (L' ++ M) w' B3 ∧ Nx B w B3 w' := by
  obtain ⟨B1, B2, h1, h2, a, e⟩ := stars_app.1 h
  refine ⟨B1, h1, fun {L' w' B'} q n => ?_⟩
  obtain ⟨B3, r, n3⟩ := star_of (fr_stars hM) h2 a e q n
  exact ⟨B3, stars_app.2 r, n3⟩
theorem suf_next {w : World} {B : Nat → Prop} (L : List Asn) {M : List Asn} (hL : Frs L) (h : stars (L ++ M) w B) : ∃ B1, stars M w B1 ∧ ∀ {M' : List Asn} {w' : World} {B' : Nat → Prop}, stars M' w' B' → Nx B1 w B' w' → ∃ B3, stars (L ++ M') w' B3 ∧ Nx B w B3 w' := by
  obtain ⟨B1, B2, h1, h2, a, e⟩ := stars_app.1 h
  refine ⟨B2, h2, fun {M' w' B'} q n => ?_⟩
  obtain ⟨B3, r, n3⟩ := star_of (fr_stars hL) h1 (fun b x y => a b y x) (fun b => (e b).trans Or.comm) q n
  exact ⟨B3, stars_app.2 (star_swap r), n3⟩
/-- A new part. -/
theorem part_new {w w' : World} {P : Asn} {L : List Asn} {B B' : Nat → Prop} (hL : Frs L) (h : stars L w B) (g : Gr w w') (p : P w' B') (hn : ∀ b, B' b → w.heap.size ≤ b) : ∃ B2, stars (P :: L) w' B2 ∧ Nx B w B2 w' :=
  ⟨fun b => B' b ∨ B b, ⟨B', B, p, stars_gr hL h g, fun b h1 h2 => by have := hn b h1; have := (fr_stars hL).lo h b h2; omega, fun _ => Iff.rfl⟩, Only.ofGr g, fun b hb => hb.elim (fun h1 => .inr (hn b h1)) .inl⟩
theorem stars_perm {L M : List Asn} (h : L.Perm M) : ∀ {w : World} {B : Nat → Prop}, stars L w B → stars M w B := by
  induction h with
  | nil => exact fun h => h
  | cons P _ ih => exact fun ⟨B1, B2, p, q, a, e⟩ => ⟨B1, B2, p, ih q, a, e⟩
  | swap P Q L => exact fun h => star_two h
  | trans _ _ h1 h2 => exact fun h => h2 (h1 h)
theorem nx_gr {w w' : World} {B : Nat → Prop} (h : Nx (fun _ => False) w B w') : Gr w w' := h.only.toBelow (Nat.le_refl _) fun _ h => h.elim
end Go.Proofs.YtcpaaenjfljocaaGreat
/- The program's disk as a part of a world: what its calls leave. -/
namespace Go.Proofs.YtcpaaenjfljocaaGreat
open Go.RowKit Go.Maps FsPlain
set_option linter.unusedVariables false
set_option linter.unusedSimpArgs false
def DiskA (p : Nat) (s : St) : Asn := fun w B => Disk w p s B
theorem fr_disk (p : Nat) (s : St) : Fr (DiskA p s) := ⟨fun h o d => Disk.only h o d, fun h => Disk.low h⟩
theorem tells_does {w w' : World} {p : Nat} {s : St} {B : Nat → Prop} {v : Value} {e : Ending} (h : Tells w p s B v e w') : Does w B (DiskA p s) v e w' := by
  obtain ⟨he, B', d, o, f⟩ := h
  exact ⟨he, B', d, o, f⟩
theorem d_create (p : Nat) (s : St) (n : ByteArray) (hn : n.size ≤ 1000) (hm : rightB n.data.toList = true) (h1 : s.calls ≤ 1000000000000) (w : World) (B : Nat → Prop) (h : DiskA p s w B) :
    Calls Tryz.prog 63 #[.pointer (some ⟨p, 0, none⟩), .string n] w (Does w B (DiskA p (createR s n.data.toList).1) (.int .i64 (createR s n.data.toList).2)) :=
  (create_c p s B n w h (by unfold maxLen; omega) hm h1).mono fun _ _ => tells_does
theorem d_append (p : Nat) (s : St) (n t : ByteArray) (hn : n.size ≤ 1000) (hm : rightB n.data.toList = true) (h1 : s.calls ≤ 1000000000000) (ht : t.size ≤ 1000000000) (w : World) (B : Nat → Prop) (h : DiskA p s w B) :
    Calls Tryz.prog 85 #[.pointer (some ⟨p, 0, none⟩), .string n, .string t] w (Does w B (DiskA p (appendR s n.data.toList t.data.toList).1) (.int .i64 (appendR s n.data.toList t.data.toList).2)) :=
  (append_c p s B n t w h (by unfold maxLen; omega) hm h1 (by omega)).mono fun _ _ => tells_does
theorem d_sync (p : Nat) (s : St) (n : ByteArray) (hn : n.size ≤ 1000) (hm : rightB n.data.toList = true) (h1 : s.calls ≤ 1000000000000) (w : World) (B : Nat → Prop) (h : DiskA p s w B) :
    Calls Tryz.prog 92 #[.pointer (some ⟨p, 0, none⟩), .string n] w (Does w B (DiskA p (syncR s n.data.toList).1) (.int .i64 (syncR s n.data.toList).2)) :=
  (sync_c p s B n w h (by unfold maxLen; omega) hm h1).mono fun _ _ => tells_does
theorem d_size (p : Nat) (s : St) (n : ByteArray) (hn : n.size ≤ 1000) (hm : rightB n.data.toList = true) (h1 : s.calls ≤ 1000000000000) (w : World) (B : Nat → Prop) (h : DiskA p s w B) :
    Calls Tryz.prog 25 #[.pointer (some ⟨p, 0, none⟩), .string n] w (Does w B (DiskA p s.call) (.tuple #[.int .i64 (sizeR s n.data.toList).1, .int .i64 (sizeR s n.data.toList).2])) :=
  (size_c p s B n w h (by unfold maxLen; omega) hm h1).mono fun _ _ => tells_does
theorem d_read (p : Nat) (s : St) (n : ByteArray) (i k : Nat) (hn : n.size ≤ 1000) (hm : rightB n.data.toList = true) (h1 : s.calls ≤ 1000000000000) (hi : i ≤ 1000000000) (hk : k ≤ 1000000000) (w : World) (B : Nat → Prop) (h : DiskA p s w B) :
    Calls Tryz.prog 26 #[.pointer (some ⟨p, 0, none⟩), .string n, .int .i64 (i : Int), .int .i64 (k : Int)] w (Does w B (DiskA p s.call) (.tuple #[.string (bs (readR s n.data.toList i k).1), .int .i64 (readR s n.data.toList i k).2])) :=
  (read_c p s B n i k w h (by unfold maxLen; omega) hm h1 (by omega) (by omega)).mono fun _ _ => tells_does
theorem d_arm (p : Nat) (s : St) (n : Int) (h0 : -9223372036854775808 ≤ n) (h1 : n ≤ 9223372036854775807) (w : World) (B : Nat → Prop) (h : DiskA p s w B) :
    Calls Tryz.prog 10 #[.pointer (some ⟨p, 0, none⟩), .int .i64 n] w (Does w B (DiskA p (armed s n)) (.tuple #[])) :=
  (arm_c p s B n w h h0 h1).mono fun _ _ => tells_does
/-- Rise(nil). -/
theorem d_rise (p : Nat) (s : St) (w : World) (B : Nat → Prop) (h : DiskA p s w B) :
    Calls Tryz.prog 24 #[.pointer (some ⟨p, 0, none⟩), .slice none 0 0] w (Does w B (DiskA p (riseR s [])) (.tuple #[])) :=
  (rise_c p s B none [] 0 w h (.inl rfl) (by simp) (by simp)).mono fun _ _ => tells_does
theorem d_calls (p : Nat) (s : St) (w : World) (B : Nat → Prop) (h : DiskA p s w B) : Calls Tryz.prog 19 #[.pointer (some ⟨p, 0, none⟩)] w fun e w' => e = .returned (.int .i64 s.calls) ∧ w = w' := calls_c p s B w h
end Go.Proofs.YtcpaaenjfljocaaGreat

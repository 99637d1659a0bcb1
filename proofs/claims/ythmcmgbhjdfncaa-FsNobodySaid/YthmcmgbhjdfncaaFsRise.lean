/- The contract of Rise: by a walk of its loop over the names. -/
import Derived.Test.YthmcmgbhjdfncaaFsFall
namespace Go.Proofs.Ythmcmgbhjdfncaa
open Go.RowKit Go.Maps FsPlain
set_option linter.unusedVariables false
set_option linter.unusedSimpArgs false

/-- A row of numbers that is only read. -/
def KeepAt (w : World) (B : Nat → Prop) (a : Option Addr) (ks : List Int) : Prop :=
  ks = [] ∨ ∃ kb ko, a = some ⟨kb, ko, none⟩ ∧ kb < w.heap.size ∧ ¬ B kb ∧ ∀ j k, ks[j]? = some k → w.cell? ⟨kb, ko + j, none⟩ = some (.int .i64 k)

structure RiseAt (p m : Nat) (s : St) (B : Nat → Prop) (ks : List Int) (w1 : World) (i : Value) (wr : World) (j : Nat) : Prop where
  ival : i = .int .i64 (j : Int)
  jle : j ≤ s.fs.length
  ok : (riseN s ks j).ok
  d : ∃ Bj L, DiskAt wr p (riseN s ks j) Bj m L ∧ ∀ b, Bj b → B b ∨ w1.heap.size ≤ b
  o : Only B w1 wr

def RiseIn (p m : Nat) (s : St) (B : Nat → Prop) (ks : List Int) (w1 : World) (i : Value) (wr : World) : Prop := ∃ j, RiseAt p m s B ks w1 i wr j

theorem bs_list (l : List UInt8) : (bs l).data.toList = l := rfl

theorem fell_next {p m : Nat} {s : St} {B : Nat → Prop} {L : List Pl} {x : Pl} {n : List UInt8} {k : Int} {w w' : World} {e : Ending} (h : DiskAt w p s B m L) (hf : L.find? (fun x => x.f.name == n) = some x) (k' : Fell w x k e w') :
    ∃ L', DiskAt w' p (s.upd n (fun f => fall f k)) (fun b => B b ∨ (w.heap.size ≤ b ∧ b < w'.heap.size)) m L' := by
  obtain ⟨_, o, v', hF, hv⟩ := k'
  exact h.put hf (x' := ⟨fall x.f k, x.blk, v'⟩) (g := fun f => fall f k) rfl rfl rfl hF (o.mono fun i e => by subst e; simp [plBlocks]) (fun i hi => .inl (by rw [← hv]; exact hi))

theorem rise_step {p m : Nat} {s : St} {B : Nat → Prop} {ks : List Int} {w1 wr w' : World} {i : Value} {j : Nat} {e : Ending} {Bj : Nat → Prop} {L : List Pl} {x : Pl} (h : RiseAt p m s B ks w1 i wr j) (hj : j < s.fs.length)
    (hD : DiskAt wr p (riseN s ks j) Bj m L) (hB : ∀ b, Bj b → B b ∨ w1.heap.size ≤ b) (hf : L.find? (fun x => x.f.name == nameAt s.fs j) = some x) (hk : Fell wr x (ks.getD j 0) e w') :
    RiseAt p m s B ks w1 (.int .i64 ((j : Int) + 1)) w' (j + 1) := by
  have hg : (riseN s ks j).get (nameAt s.fs j) = some x.f := by
    unfold St.get; rw [← hD.fs, List.find?_map]
    have : ((fun f : F => f.name == nameAt s.fs j) ∘ fun x : Pl => x.f) = fun x : Pl => x.f.name == nameAt s.fs j := rfl
    rw [this, hf]; rfl
  obtain ⟨L', hD'⟩ := fell_next hD hf hk
  refine ⟨rfl, hj, ok_fall h.ok hg _, ⟨_, L', hD', fun b hb => ?_⟩, ?_⟩
  · rcases hb with hb | hb
    · exact hB b hb
    · exact .inr (Nat.le_trans h.o.size hb.1)
  · exact h.o.andThen hk.2.1 fun b e => by
      subst e
      exact hB _ (plBlocks_B hD (List.mem_of_find?_eq_some hf) _ (by simp [plBlocks]))

set_option maxHeartbeats 2000000 in
theorem rise_c (p : Nat) (s : St) (B : Nat → Prop) (a : Option Addr) (ks : List Int) (kc : Nat) (w : World) (h : Disk w p s B) (hK : KeepAt w B a ks) (hks : ∀ k ∈ ks, I64 k) (hkl : (ks.length : Int) ≤ 1000000000000) :
    Calls Try.prog 12 #[.pointer (some ⟨p, 0, none⟩), .slice a ks.length kc] w (Tells w p (riseR s ks) B (.tuple #[])) := by
  obtain ⟨hs, m, L, hD⟩ := h
  have C0 := made_c p m s w hD.heap
  have CN := names_c p m s B L w hs hD
  rw [hD.sorted] at CN
  have HS := Lib.hid hs
  have HD := Lib.hid hD
  have HK := Lib.hid hK
  have HKS := Lib.hid hks
  have hLl : L.length = s.fs.length := by rw [← hD.fs]; simp
  have hnm : (L.map fun x => x.f.name) = s.fs.map (·.name) := by rw [← hD.fs, List.map_map]; rfl
  rw [hnm] at CN
  have h200 : (s.fs.length : Int) ≤ 200 := by have := hs.m; omega
  have HLl := Lib.hid hLl
  clear hD hs hK hks hnm hLl
  go_enter Try.func12, Try.ntmps12
  go_wp2_with fail
  refine C0.mono ?_; rintro e w2 ⟨rfl, rfl⟩
  go_wp2_with fail
  refine CN.mono ?_; rintro e w1 ⟨v, rfl, hrow, hg⟩
  rw [List.length_map] at hrow
  have hD1 := HD.out.gr hg
  obtain ⟨va, vc, rfl, hva⟩ : ∃ va vc, v = .slice va s.fs.length vc ∧ (0 < s.fs.length → ∃ g, va = some ⟨g, 0, none⟩ ∧ w.heap.size ≤ g ∧ g < w1.heap.size ∧ ∀ j n, (s.fs.map (·.name))[j]? = some n → w1.cell? ⟨g, j, none⟩ = some (.string (bs n))) := by
    rcases hrow.2 with ⟨h1, h2⟩ | ⟨g, cap, cur, rfl, h1, h2, _⟩
    · exact ⟨none, 0, by rw [h1, h2], fun h => by omega⟩
    · refine ⟨_, _, rfl, fun _ => ⟨g, rfl, h1, (Array.getElem?_eq_some_iff.1 h2).1, fun j n hj => ?_⟩⟩
      have := hrow.cells (g := g) rfl j (.string (bs n)) (by rw [List.getElem?_map, hj]; rfl)
      rw [Addr.add_lit, Nat.zero_add] at this
      exact this
  have HVA := Lib.hid hva
  have HG := Lib.hid hg
  have HD1 := Lib.hid hD1
  clear hva hg hD1 hrow
  go_wp2_with fail
  go_loopw [13] (fun i wr => RiseIn p m s B ks w1 i wr) (fun i _ => s.fs.length - (intOf i).toNat)
  case atStart => exact ⟨0, rfl, Nat.zero_le _, HS.out, ⟨B, L, HD1.out, fun b hb => .inl hb⟩, Only.refl _ _⟩
  case round =>
    obtain ⟨j, hR⟩ := hrel
    obtain rfl := hR.ival
    have hj := hR.jle
    obtain ⟨Bj, Lj, hDj, hBj⟩ := hR.d
    have HR := Lib.hid hR
    have HDj := Lib.hid hDj
    have HBj := Lib.hid hBj
    by_cases hlt : j < s.fs.length
    · obtain ⟨g, rfl, hg1, hg2, hcn⟩ := HVA.out (by omega)
      obtain ⟨n, hn⟩ : ∃ n, nameAt s.fs j = n := ⟨_, rfl⟩
      have hnj : (s.fs.map (·.name))[j]? = some n := by
        rw [← hn]; unfold nameAt; rw [List.getD_eq_getElem?_getD, List.getElem?_eq_getElem (by simpa using hlt)]; rfl
      have hnB : ¬ B g := fun e => by have := HD.out.low g e; omega
      have cn : wr.cell? ⟨g, j, none⟩ = some (.string (bs n)) := by rw [hR.o.cell hg2 hnB]; exact hcn j n hnj
      have hnmem : n ∈ (riseN s ks j).fs.map (·.name) := by rw [rise_names]; exact List.mem_of_getElem? hnj
      have hn24 : n.length ≤ 24 := by
        obtain ⟨f, hf, rfl⟩ := List.mem_map.1 hnmem
        exact hR.ok.n f hf
      obtain ⟨f, hget⟩ := get_name hnmem
      rcases hDj.look (bs n) (by rw [bs_size]; unfold maxLen; omega) with ⟨hno, _, _⟩ | ⟨x, hx, hfx, hlx⟩
      · rw [bs_list, hget] at hno; cases hno
      · rw [bs_list] at hx hfx
        have hmem := List.mem_of_find?_eq_some hfx
        have hxs := get_mem hx
        have hxl : x.f.data.length ≤ 16777216 := by have h1 := used_le hxs; have h2 := hR.ok.u; have h3 := hR.ok.r1; omega
        have cfs : wr.cell? ⟨p, 1, none⟩ = some (.map (some m)) := by rw [cells_at hDj.heap]; rfl
        have hlk := hlx wr hDj.own
        have HFX := Lib.hid hfx
        have CFa := fun k h1 h2 => fall_c x k wr h1 h2 (hDj.file x hmem) (hDj.row_ne hmem) (hR.ok.k _ hxs) hxl
        by_cases hjk : j < ks.length
        · rcases HK.out with h0 | ⟨kb, ko, rfl, hkb, hkB, hkc⟩
          · rw [h0] at hjk; simp at hjk
          · obtain ⟨k, hk⟩ : ∃ k, ks[j]? = some k := ⟨_, List.getElem?_eq_getElem hjk⟩
            have hkd : ks.getD j 0 = k := by rw [List.getD_eq_getElem?_getD, hk]; rfl
            have ck : wr.cell? ⟨kb, ko + j, none⟩ = some (.int .i64 k) := by
              rw [hR.o.cell (by exact Nat.lt_of_lt_of_le hkb HG.out.size) hkB, HG.out.cell (by exact hkb)]; exact hkc j k hk
            have hk64 := HKS.out k (List.mem_of_getElem? hk)
            unfold I64 at hk64
            have CF := CFa k hk64.1 hk64.2
            have HN := Lib.hid hn
            have HKD := Lib.hid hkd
            clear hR hDj hBj hcn hn hnj hnmem hget hx hfx hlx hxs hxl CFa hk hkd hkc hmem hn24 hg1 hg2 hnB
            go_wp2_with fail
            refine CF.mono ?_; rintro e w3 hfell
            obtain rfl := hfell.1
            have HFE := Lib.hid hfell
            clear hfell
            go_wp2_with fail
            go_roundw
            case rel => exact ⟨j + 1, rise_step HR.out hlt HDj.out HBj.out (by rw [HN.out]; exact HFX.out) (by rw [HKD.out]; exact HFE.out)⟩
            case measure => simp [intOf]; omega
        · have hkd : ks.getD j 0 = 0 := by rw [List.getD_eq_getElem?_getD, List.getElem?_eq_none (by omega)]; rfl
          have CF := CFa 0 (by omega) (by omega)
          have HN := Lib.hid hn
          have HKD := Lib.hid hkd
          clear hR hDj hBj hcn hn hnj hnmem hget hx hfx hlx hxs hxl CFa hkd hmem hn24 hg1 hg2 hnB
          go_wp2_with fail
          refine CF.mono ?_; rintro e w3 hfell
          obtain rfl := hfell.1
          have HFE := Lib.hid hfell
          clear hfell
          go_wp2_with fail
          go_roundw
          case rel => exact ⟨j + 1, rise_step HR.out hlt HDj.out HBj.out (by rw [HN.out]; exact HFX.out) (by rw [HKD.out]; exact HFE.out)⟩
          case measure => simp [intOf]; omega
    · have hje : j = s.fs.length := by omega
      have c3 : wr.cell? ⟨p, 3, none⟩ = some (.int .i64 (riseN s ks j).ahead) := by rw [cells_at hDj.heap]; rfl
      have c4 : wr.cell? ⟨p, 4, none⟩ = some (.bool (riseN s ks j).down) := by rw [cells_at hDj.heap]; rfl
      have f3 := cells_free hDj.heap 3
      have f4 := cells_free hDj.heap 4
      have key : Next w p (riseR s ks) B ((wr.setCell ⟨p, 4, none⟩ (.bool false)).setCell ⟨p, 3, none⟩ (.int .i64 (-1))) := by
        have o := (Only.cell1 wr p 4 (.bool false)).trans (Only.cell1 _ p 3 (.int .i64 (-1)))
        have hD2 := hDj.own_block o (s' := { riseN s ks j with down := false, ahead := -1 }) (by rw [cells_set (cells_set hDj.heap 4 _) 3 _]; rfl) rfl
        have hk := hR.ok
        have hrr : riseR s ks = { riseN s ks j with down := false, ahead := -1 } := by rw [hje]; rfl
        rw [hrr]
        refine ⟨Bj, ⟨⟨hk.r0, hk.r1, hk.c0, Int.le_refl _, by show (-1 : Int) ≤ _; omega, hk.u, hk.k, hk.n, hk.m, hk.d⟩, m, Lj, hD2⟩, ?_, fun b hb => ?_⟩
        · exact ((Only.ofGr HG.out).trans hR.o).andThen o fun i e => by
            have hpB := hDj.mine p (by simp)
            rw [show i = p from e]
            rcases hBj p hpB with h1 | h1
            · exact .inl h1
            · exact .inr (Nat.le_trans HG.out.size h1)
        · rcases hBj b hb with h1 | h1
          · exact .inl h1
          · exact .inr (Nat.le_trans HG.out.size h1)
      have HKEY := Lib.hid key
      clear key hR hDj hBj hje
      go_wp2_with fail
      go_end0
      exact ⟨rfl, HKEY.out⟩
end Go.Proofs.Ythmcmgbhjdfncaa

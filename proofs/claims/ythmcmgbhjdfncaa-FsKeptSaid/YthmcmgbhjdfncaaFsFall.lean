/- The contract of a file's fall; the order of the names. -/
import Derived.Test.YthmcmgbhjdfncaaFsNames
import Derived.StillTailTactics
namespace Go.Proofs.Ythmcmgbhjdfncaa
open Go.RowKit Go.Maps FsPlain
set_option linter.unusedVariables false
set_option linter.unusedSimpArgs false

theorem before_le : ∀ a b : List UInt8, bytesBefore a b = true → a ≤ b
  | [], b, _ => List.nil_le b
  | _ :: _, [], h => by simp [bytesBefore] at h
  | x :: r, y :: q, h => by
    simp only [bytesBefore, Bool.or_eq_true, Bool.and_eq_true, decide_eq_true_eq, beq_iff_eq] at h
    rw [List.cons_le_cons_iff]
    rcases h with h | ⟨h1, h2⟩
    · exact .inl h
    · exact .inr ⟨h1, before_le r q h2⟩

theorem DiskAt.sorted {w : World} {p m : Nat} {s : St} {B : Nat → Prop} {L : List Pl} (h : DiskAt w p s B m L) : (L.map fun x => x.f.name).mergeSort (fun x y => decide (x ≤ y)) = L.map fun x => x.f.name := by
  obtain ⟨es, clock, _, F, _, hD⟩ := h.own
  have hp := sorted_sorted lawS.one _ (fit_keys F) (fit_apart lawS F)
  unfold ents at hD
  simp only [DataW.map.injEq] at hD
  rw [← hD] at hp
  rw [List.pairwise_map] at hp
  refine List.mergeSort_of_pairwise ?_
  rw [List.pairwise_map]
  exact hp.imp fun h => by simpa using before_le _ _ h

theorem row_cut {w : World} {a : Option Addr} {n c : Nat} {l : List UInt8} (h : w.ownsRow 0 5 1 (.slice a n c) n (Lib.byteCells l)) (k : Nat) (hk : k ≤ n) : w.ownsRow 0 5 1 (.slice a k c) k (Lib.byteCells (l.take k)) := by
  have hl : l.length = n := by have := h.1; simpa [Lib.byteCells_length] using this
  refine ⟨by rw [Lib.byteCells_length, List.length_take]; omega, ?_⟩
  rcases h.2 with ⟨h1, h2⟩ | ⟨g, cap, cur, hv, hb, hg, hn, hc, hs, ht⟩
  · simp only [Value.slice.injEq] at h1
    obtain ⟨rfl, _, rfl⟩ := h1
    have : k = 0 := by omega
    subst this
    exact .inl ⟨rfl, rfl⟩
  · simp only [Value.slice.injEq] at hv
    obtain ⟨rfl, _, rfl⟩ := hv
    refine .inr ⟨g, _, cur, rfl, hb, hg, by omega, hc, hs, ?_⟩
    have : (Lib.byteCells l).take k = Lib.byteCells (l.take k) := by simp [Lib.byteCells, List.map_take]
    rw [← this, ← ht, List.take_take]
    congr 1
    omega

theorem own_blk (a : Option Addr) (n c n' c' : Nat) : (Value.slice a n c).ownBlock = (Value.slice a n' c').ownBlock := by cases a <;> rfl
def stays (f : F) (k : Int) : Nat := f.kept + min (max k 0).toNat (f.data.length - f.kept)

def Fell (w : World) (x : Pl) (k : Int) (e : Ending) (w' : World) : Prop :=
  e = .returned (.tuple #[]) ∧ Only (fun i => i = x.blk) w w' ∧ ∃ v', FileAt w' ⟨fall x.f k, x.blk, v'⟩ ∧ v'.ownBlock = x.v.ownBlock

set_option maxHeartbeats 2000000 in
theorem fall_c (x : Pl) (k : Int) (w : World) (hk0 : -9223372036854775808 ≤ k) (hk1 : k ≤ 9223372036854775807) (hF : FileAt w x) (hne : x.v.ownBlock ≠ some x.blk) (hkl : x.f.kept ≤ x.f.data.length) (hl : x.f.data.length ≤ 16777216) :
    Calls Try.prog 28 #[.pointer (some ⟨x.blk, 0, none⟩), .int .i64 k] w (Fell w x k) := by
  obtain ⟨a, c, hv, _⟩ := row_shape hF.2
  have hc : x.f.data.length ≤ c := by
    rcases hF.2.2 with ⟨h1, h2⟩ | ⟨g, cap, cur, h1, _, _, h2, _⟩
    · omega
    · rw [hv] at h1; simp only [Value.slice.injEq] at h1; omega
  have c0 : w.cell? ⟨x.blk, 0, none⟩ = some (.slice a x.f.data.length c) := by rw [cells_at hF.1, ← hv]; rfl
  have c1 : w.cell? ⟨x.blk, 1, none⟩ = some (.int .i64 (x.f.kept : Int)) := by rw [cells_at hF.1]; rfl
  have f0 := cells_free hF.1 0
  have f1 := cells_free hF.1 1
  obtain ⟨r, hr⟩ : ∃ r, r = stays x.f k := ⟨_, rfl⟩
  have hr2 : r ≤ x.f.data.length := by rw [hr]; unfold stays; omega
  have key : ∀ w1 : World, w1.heap = ((w.setCell ⟨x.blk, 1, none⟩ (.int .i64 (r : Int))).setCell ⟨x.blk, 0, none⟩ (.slice a r c)).heap → w1.os = w.os → w1.tape = w.tape → w1.output = w.output → Fell w x k (.returned (.tuple #[])) w1 := by
    intro w1 e eo et ep
    have o2 := (Only.cell1 w x.blk 1 (.int .i64 (r : Int))).trans (Only.cell1 _ x.blk 0 (.slice a r c))
    refine ⟨rfl, ⟨eo, et, ep, by rw [e]; exact o2.size, fun k hk hb => by rw [e]; exact o2.block k hk hb⟩, .slice a r c, ⟨?_, ?_⟩, by rw [hv]; exact own_blk _ _ _ _ _⟩
    · rw [e, cells_set (cells_set hF.1 1 _) 0 _]
      rw [hr]; rfl
    · have h1 := row_cut (hv ▸ hF.2) r hr2
      have hne' : (Value.slice a r c).ownBlock ≠ some x.blk := by rw [hv] at hne; rw [own_blk a r c x.f.data.length c]; exact hne
      have h2 := ownsRow_setCell_other (ownsRow_setCell_other h1 (a := ⟨x.blk, 1, none⟩) hne' (.int .i64 (r : Int))) (a := ⟨x.blk, 0, none⟩) hne' (.slice a r c)
      have h3 : (fall x.f k).data = x.f.data.take r := by rw [hr]; rfl
      have h4 : (x.f.data.take r).length = r := by rw [List.length_take]; omega
      show World.ownsRow _ 0 _ 1 (.slice a r c) (fall x.f k).data.length (Lib.byteCells (fall x.f k).data)
      rw [h3, h4]
      unfold World.ownsRow at h2 ⊢
      rw [e]
      exact h2
  have HK := Lib.hid key
  have HR := Lib.hid hr
  clear key hF hv hne hr
  unfold stays at HR
  generalize x.f.data.length = q at *
  generalize x.f.kept = t at *
  have hsl : ∀ w, (Instr.slice 56 (.slice a q c) none (some (.int .i64 (r : Int))) none).run Try.prog w = .ok (.slice a r c) w := by
    intro w
    have hsz : ∀ w, (sizeOf (Try.prog.elem 56)).run Try.prog w = .ok 1 w := fun w => by kernel_rfl
    rw [run_slice_h w _ _ _ _ (by kernel_rfl) .i64 _ (by omega) (by omega), hsz]
    simp only [Result.andThen, sliced, Int.toNat_natCast, Nat.sub_zero, Nat.zero_mul]
    congr 1
    by_cases hc0 : c = 0
    · rw [if_pos hc0]
    · rw [if_neg hc0]; cases a <;> simp [Addr.add]
  have e3 : (t : Int) + min (max k 0) ((q : Int) - (t : Int)) = (r : Int) := by have := HR.out; omega
  have e1 : IntKind.i64.wrap ((q : Int) - (t : Int)) = (q : Int) - (t : Int) := IntWalk.i64_in _ (by omega)
  have e2 : IntKind.i64.wrap (r : Int) = (r : Int) := IntWalk.i64_in _ (by omega)
  go_enter Try.func28, Try.ntmps28
  go_wp2_with fail
  go_still_tail 20, (by kernel_rfl)
  change wpList _ _ _ _ _ w.drew
  go_wp2_with fail
  obtain ⟨W, hW⟩ : ∃ W, W = (w.setCell ⟨x.blk, 1, none⟩ (.int .i64 (r : Int))).drew := ⟨_, rfl⟩
  have d0 : W.cell? ⟨x.blk, 0, none⟩ = some (.slice a q c) := by rw [hW]; simp [World.cell?_setCell_other, c0]
  have d1 : W.cell? ⟨x.blk, 1, none⟩ = some (.int .i64 (r : Int)) := by rw [hW]; simp [World.cell?_setCell_same _ _ _ c1]
  have g0 : W.frozen? ⟨x.blk, 0, none⟩ = false := by rw [hW]; simp [f0]
  rw [← hW]
  have HW := Lib.hid hW
  clear hW e1 e2 e3 c0 c1 f0 f1
  go_region
  all_goals
    go_wp2_with fail
    go_end0
    exact HK.out _ (by rw [HW.out]; rfl) (by rw [HW.out]; rfl) (by rw [HW.out]; rfl) (by rw [HW.out]; rfl)
end Go.Proofs.Ythmcmgbhjdfncaa

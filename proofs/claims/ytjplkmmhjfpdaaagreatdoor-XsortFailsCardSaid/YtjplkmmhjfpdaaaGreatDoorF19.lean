/- In one text: XsClear, Que, FsFall, FsRise, FsA, Rd1. -/
import Derived.Test.YtjplkmmhjfpdaaaGreatDoorF14
import Derived.Test.YtjplkmmhjfpdaaaGreatDoorF15
import Derived.Test.YtjplkmmhjfpdaaaGreatDoorF18
import Derived.Test.YtjplkmmhjfpdaaaGreatDoorF07
import Derived.Test.YtjplkmmhjfpdaaaGreatDoorF16
import Derived.Test.YtjplkmmhjfpdaaaGreatDoorF01
import Derived.StillTailTactics
import Derived.Test.YtjplkmmhjfpdaaaGreatDoorF13
import Derived.Test.YtjplkmmhjfpdaaaGreatDoorF08
import Derived.Test.YtjplkmmhjfpdaaaGreatDoorF12
import Derived.Deep.RegionHeld3
/- Plain facts: files removed and renamed, whatever the machine does. -/
namespace Go.Proofs.YtjplkmmhjfpdaaaGreatDoor
open Go.RowKit FsPlain CrcPlain OctPlain FramePlain RecPlain RdPlain RnPlain WrPlain
set_option linter.unusedVariables false
set_option linter.unusedSimpArgs false
set_option maxRecDepth 20000
namespace XsPlain
structure Off (N : List UInt8 → Prop) (s s' : St) : Prop where
  get : ∀ n, ¬ N n → s'.get n = s.get n
  room : s'.room = s.room
  cm : s.down = false → s.ahead = -1 → s'.down = false ∧ s'.ahead = -1
theorem Off.refl (N : List UInt8 → Prop) (s : St) : Off N s s := ⟨fun _ _ => rfl, rfl, fun a b => ⟨a, b⟩⟩
theorem Off.trans {N : List UInt8 → Prop} {a b c : St} (h : Off N a b) (k : Off N b c) : Off N a c :=
  ⟨fun n hn => (k.get n hn).trans (h.get n hn), k.room.trans h.room, fun x y => by obtain ⟨p, q⟩ := h.cm x y; exact k.cm p q⟩
theorem Off.more {N N' : List UInt8 → Prop} {a b : St} (h : Off N a b) (hs : ∀ n, N n → N' n) : Off N' a b := ⟨fun n hn => h.get n fun k => hn (hs n k), h.room, h.cm⟩
theorem off_oth {n : List UInt8} {d : Nat} {s s' : St} (h : Oth n d s s') : Off (fun x => x = n) s s' := ⟨fun x hx => h.get x hx, h.room, h.calm⟩
theorem off_quiet (N : List UInt8 → Prop) {s s' : St} (h : Quiet s s') : Off N s s' := ⟨fun x _ => h.get x, h.room, h.calm⟩
theorem off_call (N : List UInt8 → Prop) (s : St) : Off N s s.call := off_quiet N (quiet_call s)
theorem off_form {s s' : St} {out : ByteArray} (h : FormO s s' out) : Off (fun x => ∃ i : Nat, x = (nameN out (i : Int)).data.toList) s s' := ⟨fun n hn => h.oth n fun i e => hn ⟨i, e⟩, h.room, h.cm⟩
theorem off_remove (s : St) (n : List UInt8) : Off (fun x => x = n) s (removeR s n).1 := by
  unfold removeR
  split
  · exact off_call _ s
  · split
    · exact off_call _ s
    · exact (off_call _ s).trans ⟨fun x hx => drop_get_ne _ hx, rfl, fun a b => ⟨a, b⟩⟩
theorem remove_code {s : St} {n : List UInt8} (hg : ∃ f, s.get n = some f) : ((removeR s n).2 = 0 ∧ (removeR s n).1 = s.call.drop n) ∨ ((removeR s n).2 = 5 ∧ s.call.down = true) := by
  obtain ⟨f, hf⟩ := hg
  unfold removeR
  by_cases hd : s.call.down = true
  · rw [if_pos hd]; exact .inr ⟨rfl, hd⟩
  · rw [if_neg hd, hf]; exact .inl ⟨rfl, rfl⟩
theorem off_clear : ∀ (l : List (List UInt8)) (s : St), Off (fun x => x ∈ l) s (clearR s l).1
  | [], s => Off.refl _ _
  | n :: r, s => by
    have h1 := (off_remove s n).more (N' := fun x => x ∈ n :: r) fun x hx => by rw [hx]; simp
    have h2 := (off_clear r (removeR s n).1).more (N' := fun x => x ∈ n :: r) fun x hx => by simp [hx]
    show Off _ s (if (removeR s n).2 = 0 then clearR (removeR s n).1 r else removeR s n).1
    split
    · exact h1.trans h2
    · exact h1
theorem clear_code : ∀ (l : List (List UInt8)) {s : St}, s.ok → l.Nodup → (∀ n ∈ l, ∃ f, s.get n = some f) → ((clearR s l).2 = 0 ∧ (∀ n ∈ l, (clearR s l).1.get n = none) ∧ (clearR s l).1.fs.length + l.length = s.fs.length ∧ used (clearR s l).1.fs ≤ used s.fs) ∨ (clearR s l).2 = 5
  | [], s, _, _, _ => .inl ⟨rfl, fun n hn => by simp at hn, rfl, Nat.le_refl _⟩
  | n :: r, s, hs, hn, hg => by
    rw [List.nodup_cons] at hn
    have hcl : clearR s (n :: r) = if (removeR s n).2 = 0 then clearR (removeR s n).1 r else removeR s n := rfl
    rcases remove_code (hg n (by simp)) with ⟨h0, e⟩ | ⟨h5, _⟩
    · rw [hcl, if_pos h0, e]
      have hok1 : (s.call.drop n).ok := ok_drop (ok_call hs) n
      have hl := drop_len (s := s.call) (ok_call hs) (hg n (by simp))
      have hu : used (s.call.drop n).fs ≤ used s.fs := used_filter _ _
      rcases clear_code r hok1 hn.2 (fun n' h' => by
        rw [drop_get_ne _ (fun e2 : n' = n => hn.1 (by rw [← e2]; exact h'))]
        exact hg n' (by simp [h'])) with ⟨k1, k2, k3, k4⟩ | k
      · left
        refine ⟨k1, fun x hx => ?_, ?_, Nat.le_trans k4 hu⟩
        · rcases List.mem_cons.1 hx with rfl | hx
          · rw [(off_clear r _).get _ hn.1]
            exact drop_get _ _
          · exact k2 x hx
        · have : s.call.fs.length = s.fs.length := rfl
          simp only [List.length_cons]; omega
      · exact .inr k
    · right
      rw [hcl, if_neg (by rw [h5]; decide)]
      exact h5
theorem off_rename (s : St) (a b : List UInt8) : Off (fun x => x = a ∨ x = b) s (renameR s a b).1 := by
  unfold renameR
  split
  · exact off_call _ s
  · split
    · exact off_call _ s
    · rename_i f hf
      exact (off_call _ s).trans ⟨fun x hx => move_get_ne _ _ (fun e => hx (.inr e)) (fun e => hx (.inl e)), rfl, fun a b => ⟨a, b⟩⟩
theorem rename_code {s : St} {a b : List UInt8} {D : ByteArray} (hg : HasD s a D) : ((renameR s a b).2 = 0 ∧ HasD (renameR s a b).1 b D ∧ (a ≠ b → (renameR s a b).1.get a = none) ∧ s.call.down = false) ∨ ((renameR s a b).2 = 5 ∧ s.call.down = true) := by
  obtain ⟨f, hf, hd⟩ := hg
  unfold renameR
  by_cases h5 : s.call.down = true
  · rw [if_pos h5]; exact .inr ⟨rfl, h5⟩
  · rw [if_neg h5, hf]
    refine .inl ⟨rfl, ⟨_, move_get _ _ _ _, hd⟩, fun hab => move_get_old _ _ hab, by cases h : s.call.down; rfl; exact absurd h h5⟩
theorem Off.has {N : List UInt8 → Prop} {s s' : St} (h : Off N s s') {n : List UInt8} {D : ByteArray} (hn : ¬ N n) (hg : HasD s n D) : HasD s' n D := by
  obtain ⟨f, hf, hd⟩ := hg
  exact ⟨f, by rw [h.get n hn]; exact hf, hd⟩
end XsPlain
end Go.Proofs.YtjplkmmhjfpdaaaGreatDoor
/- A slice of strings that nobody writes any more, as a part of a world; what a reader's Next hands out. -/
namespace Go.Proofs.YtjplkmmhjfpdaaaGreatDoor
open Go.RowKit FsPlain CrcPlain OctPlain FramePlain RecPlain RdPlain
set_option linter.unusedVariables false
set_option linter.unusedSimpArgs false
set_option maxRecDepth 20000
def QueA (v : Value) (l : List ByteArray) : Asn := fun w B => Lies w v l ∧ (∀ b off n c, v = .slice (some ⟨b, off, none⟩) n c → B b) ∧ ∀ b, B b → b < w.heap.size
theorem fr_que (v : Value) (l : List ByteArray) : Fr (QueA v l) where
  fr := fun {w w' B C} ⟨⟨a, c, e, hc, h⟩, hB, hl⟩ o d => by
    refine ⟨⟨a, c, e, hc, h.imp id ?_⟩, hB, fun b hb => Nat.lt_of_lt_of_le (hl b hb) o.size⟩
    rintro ⟨b, off, rfl, hr⟩
    have hb := hB b off _ _ e
    refine ⟨b, off, rfl, Nat.lt_of_lt_of_le hr.1 o.size, fun j x hj => ?_⟩
    rw [o.cell (p := ⟨b, off + j, none⟩) hr.1 (d b hb)]
    exact hr.2 j x hj
  lo := fun ⟨_, _, hl⟩ => hl
theorem que_nil (w : World) : QueA (.slice none 0 0) [] w (fun _ => False) := ⟨⟨none, 0, rfl, Nat.le_refl _, .inl rfl⟩, (fun b off n c e => by cases e), fun b hb => hb.elim⟩
theorem que_new {w w' : World} {v : Value} {l : List ByteArray} (h : w'.ownsRow w.heap.size 9 1 v l.length (strs l)) : QueA v l w' (fun b => v.ownBlock = some b) ∧ ∀ b, v.ownBlock = some b → w.heap.size ≤ b := by
  have hl := h.lt
  have L := lies_own h
  refine ⟨⟨L, fun b off n c e => ?_, fun b hb => (hl b hb).2⟩, fun b hb => (hl b hb).1⟩
  rw [e]; rfl
def ansV (a : Ans) : Value := .tuple #[.string a.1, .bool a.2.1, .int .i64 a.2.2]
theorem que_open {v : Value} {l : List ByteArray} {w : World} {B : Nat → Prop} (h : QueA v l w B) (hl : l ≠ []) : ∃ b off c, v = .slice (some ⟨b, off, none⟩) l.length c ∧ l.length ≤ c ∧ SRow w b off l ∧ B b := by
  obtain ⟨⟨a, c, e, hc, hh⟩, hB, _⟩ := h
  rcases hh with h0 | ⟨b, off, rfl, hr⟩
  · exact absurd h0 hl
  · exact ⟨b, off, c, e, hc, hr, hB b off _ _ e⟩
theorem que_tail {b off n c : Nat} {r : ByteArray} {l : List ByteArray} {w : World} {B : Nat → Prop} (h : QueA (.slice (some ⟨b, off, none⟩) n c) (r :: l) w B) (a : Option Addr) (m k : Nat) (hm : m = l.length) (hk : m ≤ k) (ha : 1 ≤ l.length → a = some ⟨b, off + 1, none⟩) (hz : ∀ b' off', a = some ⟨b', off', none⟩ → b' = b) : QueA (.slice a m k) l w B := by
  have hnil : (r :: l) ≠ [] := by simp
  obtain ⟨b2, off2, c2, e, hc, hr, hb⟩ := que_open h hnil
  simp only [Value.slice.injEq, Option.some.injEq, Addr.mk.injEq, and_true] at e
  obtain ⟨⟨rfl, rfl⟩, _, _⟩ := e
  subst hm
  refine ⟨⟨a, k, rfl, hk, ?_⟩, fun b3 off3 n3 c3 e3 => ?_, h.2.2⟩
  · rcases Nat.eq_zero_or_pos l.length with h0 | h0
    · exact .inl (List.eq_nil_of_length_eq_zero h0)
    · refine .inr ⟨b, off + 1, ha h0, hr.1, fun j x hj => ?_⟩
      have := hr.2 (j + 1) x (by rw [List.getElem?_cons_succ]; exact hj)
      rw [Nat.add_right_comm, Nat.add_assoc]
      rwa [← Nat.add_assoc] at this ⊢
  · simp only [Value.slice.injEq] at e3
    rw [hz b3 off3 e3.1]; exact hb
end Go.Proofs.YtjplkmmhjfpdaaaGreatDoor
/- The contract of a file's fall; the order of the names. -/
namespace Go.Proofs.YtjplkmmhjfpdaaaGreatDoor
open Go.RowKit Go.Maps FsPlain
set_option linter.unusedVariables false
set_option linter.unusedSimpArgs false
set_option maxRecDepth 20000
theorem before_le : ∀ a b : List UInt8, bytesBefore a b = true → a ≤ b
  | [], b, _ => List.nil_le b
  | _ :: _, [], h => by simp [bytesBefore] at h
  | x :: r, y :: q, h => by
    simp only [bytesBefore, Bool.or_eq_true, Bool.and_eq_true, decide_eq_true_eq, beq_iff_eq] at h
    rw [List.cons_le_cons_iff]
    rcases h with h | ⟨h1, h2⟩
    · exact .inl h
    · exact .inr ⟨h1, before_le r q h2⟩
theorem DiskAt.sorted {w : World} {p m : Nat} {s : St} {B : Nat → Prop} {L : List Pl} (h : DiskAt w p s B m L) : (L.map fun x => x.f.name).mergeSort (fun x y => decide (x ≤ y)) = L.map fun x => x.f.name := by
  obtain ⟨es, clock, _, F, _, hD⟩ := h.own
  have hp := sorted_sorted lawS.one _ (fit_keys F) (fit_apart lawS F)
  unfold ents at hD
  simp only [DataW.map.injEq] at hD
  rw [← hD] at hp
  rw [List.pairwise_map] at hp
  refine List.mergeSort_of_pairwise ?_
  rw [List.pairwise_map]
  exact hp.imp fun h => by simpa using before_le _ _ h
theorem row_cut {w : World} {a : Option Addr} {n c : Nat} {l : List UInt8} (h : w.ownsRow 0 5 1 (.slice a n c) n (Lib.byteCells l)) (k : Nat) (hk : k ≤ n) : w.ownsRow 0 5 1 (.slice a k c) k (Lib.byteCells (l.take k)) := by
  have hl : l.length = n := by have := h.1; simpa [Lib.byteCells_length] using this
  refine ⟨by rw [Lib.byteCells_length, List.length_take]; omega, ?_⟩
  rcases h.2 with ⟨h1, h2⟩ | ⟨g, cap, cur, hv, hb, hg, hn, hc, hs, ht⟩
  · simp only [Value.slice.injEq] at h1
    obtain ⟨rfl, _, rfl⟩ := h1
    have : k = 0 := by omega
    subst this
    exact .inl ⟨rfl, rfl⟩
  · simp only [Value.slice.injEq] at hv
    obtain ⟨rfl, _, rfl⟩ := hv
    refine .inr ⟨g, _, cur, rfl, hb, hg, by omega, hc, hs, ?_⟩
    have : (Lib.byteCells l).take k = Lib.byteCells (l.take k) := by simp [Lib.byteCells, List.map_take]
    rw [← this, ← ht, List.take_take]
    congr 1
    omega
theorem own_blk (a : Option Addr) (n c n' c' : Nat) : (Value.slice a n c).ownBlock = (Value.slice a n' c').ownBlock := by cases a <;> rfl
def stays (f : F) (k : Int) : Nat := f.kept + min (max k 0).toNat (f.data.length - f.kept)
def Fell (w : World) (x : Pl) (k : Int) (e : Ending) (w' : World) : Prop :=
  e = .returned (.tuple #[]) ∧ Only (fun i => i = x.blk) w w' ∧ ∃ v', FileAt w' ⟨fall x.f k, x.blk, v'⟩ ∧ v'.ownBlock = x.v.ownBlock
set_option maxRecDepth 20000 in
set_option maxHeartbeats 2000000 in
theorem fall_c (x : Pl) (k : Int) (w : World) (hk0 : -9223372036854775808 ≤ k) (hk1 : k ≤ 9223372036854775807) (hF : FileAt w x) (hne : x.v.ownBlock ≠ some x.blk) (hkl : x.f.kept ≤ x.f.data.length) (hl : x.f.data.length ≤ 16777216) :
    Calls Tryz.prog 54 #[.pointer (some ⟨x.blk, 0, none⟩), .int .i64 k] w (Fell w x k) := by
  obtain ⟨a, c, hv, _⟩ := row_shape hF.2
  have hc : x.f.data.length ≤ c := by
    rcases hF.2.2 with ⟨h1, h2⟩ | ⟨g, cap, cur, h1, _, _, h2, _⟩
    · omega
    · rw [hv] at h1; simp only [Value.slice.injEq] at h1; omega
  have c0 : w.cell? ⟨x.blk, 0, none⟩ = some (.slice a x.f.data.length c) := by rw [cells_at hF.1, ← hv]; rfl
  have c1 : w.cell? ⟨x.blk, 1, none⟩ = some (.int .i64 (x.f.kept : Int)) := by rw [cells_at hF.1]; rfl
  have f0 := cells_free hF.1 0
  have f1 := cells_free hF.1 1
  obtain ⟨r, hr⟩ : ∃ r, r = stays x.f k := ⟨_, rfl⟩
  have hr2 : r ≤ x.f.data.length := by rw [hr]; unfold stays; omega
  have key : ∀ w1 : World, w1.heap = ((w.setCell ⟨x.blk, 1, none⟩ (.int .i64 (r : Int))).setCell ⟨x.blk, 0, none⟩ (.slice a r c)).heap → w1.os = w.os → w1.tape = w.tape → w1.output = w.output → Fell w x k (.returned (.tuple #[])) w1 := by
    intro w1 e eo et ep
    have o2 := (Only.cell1 w x.blk 1 (.int .i64 (r : Int))).trans (Only.cell1 _ x.blk 0 (.slice a r c))
    refine ⟨rfl, ⟨eo, et, ep, by rw [e]; exact o2.size, fun k hk hb => by rw [e]; exact o2.block k hk hb⟩, .slice a r c, ⟨?_, ?_⟩, by rw [hv]; exact own_blk _ _ _ _ _⟩
    · rw [e, cells_set (cells_set hF.1 1 _) 0 _]
      rw [hr]; rfl
    · have h1 := row_cut (hv ▸ hF.2) r hr2
      have hne' : (Value.slice a r c).ownBlock ≠ some x.blk := by rw [hv] at hne; rw [own_blk a r c x.f.data.length c]; exact hne
      have h2 := ownsRow_setCell_other (ownsRow_setCell_other h1 (a := ⟨x.blk, 1, none⟩) hne' (.int .i64 (r : Int))) (a := ⟨x.blk, 0, none⟩) hne' (.slice a r c)
      have h3 : (fall x.f k).data = x.f.data.take r := by rw [hr]; rfl
      have h4 : (x.f.data.take r).length = r := by rw [List.length_take]; omega
      show World.ownsRow _ 0 _ 1 (.slice a r c) (fall x.f k).data.length (Lib.byteCells (fall x.f k).data)
      rw [h3, h4]
      unfold World.ownsRow at h2 ⊢
      rw [e]
      exact h2
  have HK := Lib.hid key
  have HR := Lib.hid hr
  clear key hF hv hne hr
  unfold stays at HR
  generalize x.f.data.length = q at *
  generalize x.f.kept = t at *
  have hsl : ∀ w, (Instr.slice 71 (.slice a q c) none (some (.int .i64 (r : Int))) none).run Tryz.prog w = .ok (.slice a r c) w := by
    intro w
    have hsz : ∀ w, (sizeOf (Tryz.prog.elem 71)).run Tryz.prog w = .ok 1 w := fun w => by kernel_rfl
    rw [run_slice_h w _ _ _ _ (by kernel_rfl) .i64 _ (by omega) (by omega), hsz]
    simp only [Result.andThen, sliced, Int.toNat_natCast, Nat.sub_zero, Nat.zero_mul]
    congr 1
    by_cases hc0 : c = 0
    · rw [if_pos hc0]
    · rw [if_neg hc0]; cases a <;> simp [Addr.add]
  have e3 : (t : Int) + min (max k 0) ((q : Int) - (t : Int)) = (r : Int) := by have := HR.out; omega
  have e1 : IntKind.i64.wrap ((q : Int) - (t : Int)) = (q : Int) - (t : Int) := IntWalk.i64_in _ (by omega)
  have e2 : IntKind.i64.wrap (r : Int) = (r : Int) := IntWalk.i64_in _ (by omega)
  go_enter Tryz.func54, Tryz.ntmps54
  go_wp2_with fail
  go_still_tail 20, (by kernel_rfl)
  change wpList _ _ _ _ _ w.drew
  go_wp2_with fail
  obtain ⟨W, hW⟩ : ∃ W, W = (w.setCell ⟨x.blk, 1, none⟩ (.int .i64 (r : Int))).drew := ⟨_, rfl⟩
  have d0 : W.cell? ⟨x.blk, 0, none⟩ = some (.slice a q c) := by rw [hW]; simp [World.cell?_setCell_other, c0]
  have d1 : W.cell? ⟨x.blk, 1, none⟩ = some (.int .i64 (r : Int)) := by rw [hW]; simp [World.cell?_setCell_same _ _ _ c1]
  have g0 : W.frozen? ⟨x.blk, 0, none⟩ = false := by rw [hW]; simp [f0]
  rw [← hW]
  have HW := Lib.hid hW
  clear hW e1 e2 e3 c0 c1 f0 f1
  go_region
  all_goals
    go_wp2_with fail
    go_end0
    exact HK.out _ (by rw [HW.out]; rfl) (by rw [HW.out]; rfl) (by rw [HW.out]; rfl) (by rw [HW.out]; rfl)
end Go.Proofs.YtjplkmmhjfpdaaaGreatDoor
/- The contract of Rise: by a walk of its loop over the names. -/
namespace Go.Proofs.YtjplkmmhjfpdaaaGreatDoor
open Go.RowKit Go.Maps FsPlain
set_option linter.unusedVariables false
set_option linter.unusedSimpArgs false
set_option maxRecDepth 20000
def KeepAt (w : World) (B : Nat → Prop) (a : Option Addr) (ks : List Int) : Prop :=
  ks = [] ∨ ∃ kb ko, a = some ⟨kb, ko, none⟩ ∧ kb < w.heap.size ∧ ¬ B kb ∧ ∀ j k, ks[j]? = some k → w.cell? ⟨kb, ko + j, none⟩ = some (.int .i64 k)
structure RiseAt (p m : Nat) (s : St) (B : Nat → Prop) (ks : List Int) (w1 : World) (i : Value) (wr : World) (j : Nat) : Prop where
  ival : i = .int .i64 (j : Int)
  jle : j ≤ s.fs.length
  ok : (riseN s ks j).ok
  d : ∃ Bj L, DiskAt wr p (riseN s ks j) Bj m L ∧ ∀ b, Bj b → B b ∨ w1.heap.size ≤ b
  o : Only B w1 wr
def RiseIn (p m : Nat) (s : St) (B : Nat → Prop) (ks : List Int) (w1 : World) (i : Value) (wr : World) : Prop := ∃ j, RiseAt p m s B ks w1 i wr j
theorem bs_list (l : List UInt8) : (bs l).data.toList = l := rfl
theorem fell_next {p m : Nat} {s : St} {B : Nat → Prop} {L : List Pl} {x : Pl} {n : List UInt8} {k : Int} {w w' : World} {e : Ending} (h : DiskAt w p s B m L) (hf : L.find? (fun x => x.f.name == n) = some x) (k' : Fell w x k e w') :
    ∃ L', DiskAt w' p (s.upd n (fun f => fall f k)) (fun b => B b ∨ (w.heap.size ≤ b ∧ b < w'.heap.size)) m L' := by
  obtain ⟨_, o, v', hF, hv⟩ := k'
  exact h.put hf (x' := ⟨fall x.f k, x.blk, v'⟩) (g := fun f => fall f k) rfl rfl rfl hF (o.mono fun i e => by subst e; simp [plBlocks]) (fun i hi => .inl (by rw [← hv]; exact hi))
theorem rise_step {p m : Nat} {s : St} {B : Nat → Prop} {ks : List Int} {w1 wr w' : World} {i : Value} {j : Nat} {e : Ending} {Bj : Nat → Prop} {L : List Pl} {x : Pl} (h : RiseAt p m s B ks w1 i wr j) (hj : j < s.fs.length)
    (hD : DiskAt wr p (riseN s ks j) Bj m L) (hB : ∀ b, Bj b → B b ∨ w1.heap.size ≤ b) (hf : L.find? (fun x => x.f.name == nameAt s.fs j) = some x) (hk : Fell wr x (ks.getD j 0) e w') :
    RiseAt p m s B ks w1 (.int .i64 ((j : Int) + 1)) w' (j + 1) := by
  have hg : (riseN s ks j).get (nameAt s.fs j) = some x.f := by
    unfold St.get; rw [← hD.fs, List.find?_map]
    have : ((fun f : F => f.name == nameAt s.fs j) ∘ fun x : Pl => x.f) = fun x : Pl => x.f.name == nameAt s.fs j := rfl
    rw [this, hf]; rfl
  obtain ⟨L', hD'⟩ := fell_next hD hf hk
  refine ⟨rfl, hj, ok_fall h.ok hg _, ⟨_, L', hD', fun b hb => ?_⟩, ?_⟩
  · rcases hb with hb | hb
    · exact hB b hb
    · exact .inr (Nat.le_trans h.o.size hb.1)
  · exact h.o.andThen hk.2.1 fun b e => by
      subst e
      exact hB _ (plBlocks_B hD (List.mem_of_find?_eq_some hf) _ (by simp [plBlocks]))
set_option maxRecDepth 20000 in
set_option maxHeartbeats 2000000 in
theorem rise_c (p : Nat) (s : St) (B : Nat → Prop) (a : Option Addr) (ks : List Int) (kc : Nat) (w : World) (h : Disk w p s B) (hK : KeepAt w B a ks) (hks : ∀ k ∈ ks, I64 k) (hkl : (ks.length : Int) ≤ 1000000000000) :
    Calls Tryz.prog 23 #[.pointer (some ⟨p, 0, none⟩), .slice a ks.length kc] w (Tells w p (riseR s ks) B (.tuple #[])) := by
  obtain ⟨hs, m, L, hD⟩ := h
  have C0 := made_c p m s w hD.heap
  have CN := names_c p m s B L w hs hD
  rw [hD.sorted] at CN
  have HS := Lib.hid hs
  have HD := Lib.hid hD
  have HK := Lib.hid hK
  have HKS := Lib.hid hks
  have hLl : L.length = s.fs.length := by rw [← hD.fs]; simp
  have hnm : (L.map fun x => x.f.name) = s.fs.map (·.name) := by rw [← hD.fs, List.map_map]; rfl
  rw [hnm] at CN
  have h200 : (s.fs.length : Int) ≤ 200 := by have := hs.m; omega
  have HLl := Lib.hid hLl
  clear hD hs hK hks hnm hLl
  go_enter Tryz.func23, Tryz.ntmps23
  go_wp2_with fail
  refine C0.mono ?_; rintro e w2 ⟨rfl, rfl⟩
  go_wp2_with fail
  refine CN.mono ?_; rintro e w1 ⟨v, rfl, hrow, hg⟩
  rw [List.length_map] at hrow
  have hD1 := HD.out.gr hg
  obtain ⟨va, vc, rfl, hva⟩ : ∃ va vc, v = .slice va s.fs.length vc ∧ (0 < s.fs.length → ∃ g, va = some ⟨g, 0, none⟩ ∧ w.heap.size ≤ g ∧ g < w1.heap.size ∧ ∀ j n, (s.fs.map (·.name))[j]? = some n → w1.cell? ⟨g, j, none⟩ = some (.string (bs n))) := by
    rcases hrow.2 with ⟨h1, h2⟩ | ⟨g, cap, cur, rfl, h1, h2, _⟩
    · exact ⟨none, 0, by rw [h1, h2], fun h => by omega⟩
    · refine ⟨_, _, rfl, fun _ => ⟨g, rfl, h1, (Array.getElem?_eq_some_iff.1 h2).1, fun j n hj => ?_⟩⟩
      have := hrow.cells (g := g) rfl j (.string (bs n)) (by rw [List.getElem?_map, hj]; rfl)
      rw [Addr.add_lit, Nat.zero_add] at this
      exact this
  have HVA := Lib.hid hva
  have HG := Lib.hid hg
  have HD1 := Lib.hid hD1
  clear hva hg hD1 hrow
  go_wp2_with fail
  go_loopw [13] (fun i wr => RiseIn p m s B ks w1 i wr) (fun i _ => s.fs.length - (intOf i).toNat)
  case atStart => exact ⟨0, rfl, Nat.zero_le _, HS.out, ⟨B, L, HD1.out, fun b hb => .inl hb⟩, Only.refl _ _⟩
  case round =>
    obtain ⟨j, hR⟩ := hrel
    obtain rfl := hR.ival
    have hj := hR.jle
    obtain ⟨Bj, Lj, hDj, hBj⟩ := hR.d
    have HR := Lib.hid hR
    have HDj := Lib.hid hDj
    have HBj := Lib.hid hBj
    by_cases hlt : j < s.fs.length
    · obtain ⟨g, rfl, hg1, hg2, hcn⟩ := HVA.out (by omega)
      obtain ⟨n, hn⟩ : ∃ n, nameAt s.fs j = n := ⟨_, rfl⟩
      have hnj : (s.fs.map (·.name))[j]? = some n := by
        rw [← hn]; unfold nameAt; rw [List.getD_eq_getElem?_getD, List.getElem?_eq_getElem (by simpa using hlt)]; rfl
      have hnB : ¬ B g := fun e => by have := HD.out.low g e; omega
      have cn : wr.cell? ⟨g, j, none⟩ = some (.string (bs n)) := by rw [hR.o.cell hg2 hnB]; exact hcn j n hnj
      have hnmem : n ∈ (riseN s ks j).fs.map (·.name) := by rw [rise_names]; exact List.mem_of_getElem? hnj
      have hn24 : n.length ≤ 24 := by
        obtain ⟨f, hf, rfl⟩ := List.mem_map.1 hnmem
        exact hR.ok.n f hf
      obtain ⟨f, hget⟩ := get_name hnmem
      rcases hDj.look (bs n) (by rw [bs_size]; unfold maxLen; omega) with ⟨hno, _, _⟩ | ⟨x, hx, hfx, hlx⟩
      · rw [bs_list, hget] at hno; cases hno
      · rw [bs_list] at hx hfx
        have hmem := List.mem_of_find?_eq_some hfx
        have hxs := get_mem hx
        have hxl : x.f.data.length ≤ 16777216 := by have h1 := used_le hxs; have h2 := hR.ok.u; have h3 := hR.ok.r1; omega
        have cfs : wr.cell? ⟨p, 1, none⟩ = some (.map (some m)) := by rw [cells_at hDj.heap]; rfl
        have hlk := hlx wr hDj.own
        have HFX := Lib.hid hfx
        have CFa := fun k h1 h2 => fall_c x k wr h1 h2 (hDj.file x hmem) (hDj.row_ne hmem) (hR.ok.k _ hxs) hxl
        by_cases hjk : j < ks.length
        · rcases HK.out with h0 | ⟨kb, ko, rfl, hkb, hkB, hkc⟩
          · rw [h0] at hjk; simp at hjk
          · obtain ⟨k, hk⟩ : ∃ k, ks[j]? = some k := ⟨_, List.getElem?_eq_getElem hjk⟩
            have hkd : ks.getD j 0 = k := by rw [List.getD_eq_getElem?_getD, hk]; rfl
            have ck : wr.cell? ⟨kb, ko + j, none⟩ = some (.int .i64 k) := by
              rw [hR.o.cell (by exact Nat.lt_of_lt_of_le hkb HG.out.size) hkB, HG.out.cell (by exact hkb)]; exact hkc j k hk
            have hk64 := HKS.out k (List.mem_of_getElem? hk)
            unfold I64 at hk64
            have CF := CFa k hk64.1 hk64.2
            have HN := Lib.hid hn
            have HKD := Lib.hid hkd
            clear hR hDj hBj hcn hn hnj hnmem hget hx hfx hlx hxs hxl CFa hk hkd hkc hmem hn24 hg1 hg2 hnB
            go_wp2_with fail
            refine CF.mono ?_; rintro e w3 hfell
            obtain rfl := hfell.1
            have HFE := Lib.hid hfell
            clear hfell
            go_wp2_with fail
            go_roundw
            case rel => exact ⟨j + 1, rise_step HR.out hlt HDj.out HBj.out (by rw [HN.out]; exact HFX.out) (by rw [HKD.out]; exact HFE.out)⟩
            case measure => simp [intOf]; omega
        · have hkd : ks.getD j 0 = 0 := by rw [List.getD_eq_getElem?_getD, List.getElem?_eq_none (by omega)]; rfl
          have CF := CFa 0 (by omega) (by omega)
          have HN := Lib.hid hn
          have HKD := Lib.hid hkd
          clear hR hDj hBj hcn hn hnj hnmem hget hx hfx hlx hxs hxl CFa hkd hmem hn24 hg1 hg2 hnB
          go_wp2_with fail
          refine CF.mono ?_; rintro e w3 hfell
          obtain rfl := hfell.1
          have HFE := Lib.hid hfell
          clear hfell
          go_wp2_with fail
          go_roundw
          case rel => exact ⟨j + 1, rise_step HR.out hlt HDj.out HBj.out (by rw [HN.out]; exact HFX.out) (by rw [HKD.out]; exact HFE.out)⟩
          case measure => simp [intOf]; omega
    · have hje : j = s.fs.length := by omega
      have c3 : wr.cell? ⟨p, 3, none⟩ = some (.int .i64 (riseN s ks j).ahead) := by rw [cells_at hDj.heap]; rfl
      have c4 : wr.cell? ⟨p, 4, none⟩ = some (.bool (riseN s ks j).down) := by rw [cells_at hDj.heap]; rfl
      have f3 := cells_free hDj.heap 3
      have f4 := cells_free hDj.heap 4
      have key : Next w p (riseR s ks) B ((wr.setCell ⟨p, 4, none⟩ (.bool false)).setCell ⟨p, 3, none⟩ (.int .i64 (-1))) := by
        have o := (Only.cell1 wr p 4 (.bool false)).trans (Only.cell1 _ p 3 (.int .i64 (-1)))
        have hD2 := hDj.own_block o (s' := { riseN s ks j with down := false, ahead := -1 }) (by rw [cells_set (cells_set hDj.heap 4 _) 3 _]; rfl) rfl
        have hk := hR.ok
        have hrr : riseR s ks = { riseN s ks j with down := false, ahead := -1 } := by rw [hje]; rfl
        rw [hrr]
        refine ⟨Bj, ⟨⟨hk.r0, hk.r1, hk.c0, Int.le_refl _, by show (-1 : Int) ≤ _; omega, hk.u, hk.k, hk.n, hk.m, hk.d⟩, m, Lj, hD2⟩, ?_, fun b hb => ?_⟩
        · exact ((Only.ofGr HG.out).trans hR.o).andThen o fun i e => by
            have hpB := hDj.mine p (by simp)
            rw [show i = p from e]
            rcases hBj p hpB with h1 | h1
            · exact .inl h1
            · exact .inr (Nat.le_trans HG.out.size h1)
        · rcases hBj b hb with h1 | h1
          · exact .inl h1
          · exact .inr (Nat.le_trans HG.out.size h1)
      have HKEY := Lib.hid key
      clear key hR hDj hBj hje
      go_wp2_with fail
      go_end0
      exact ⟨rfl, HKEY.out⟩
end Go.Proofs.YtjplkmmhjfpdaaaGreatDoor
/- The program's disk as a part of a world: what its other calls leave. -/
namespace Go.Proofs.YtjplkmmhjfpdaaaGreatDoor
open Go.RowKit Go.Maps FsPlain
set_option linter.unusedVariables false
set_option linter.unusedSimpArgs false
set_option maxRecDepth 20000
theorem d_arm (p : Nat) (s : St) (n : Int) (h0 : -9223372036854775808 ≤ n) (h1 : n ≤ 9223372036854775807) (w : World) (B : Nat → Prop) (h : DiskA p s w B) :
    Calls Tryz.prog 22 #[.pointer (some ⟨p, 0, none⟩), .int .i64 n] w (Does w B (DiskA p (armed s n)) (.tuple #[])) :=
  (arm_c p s B n w h h0 h1).mono fun _ _ => tells_does
theorem d_rise (p : Nat) (s : St) (w : World) (B : Nat → Prop) (h : DiskA p s w B) :
    Calls Tryz.prog 23 #[.pointer (some ⟨p, 0, none⟩), .slice none 0 0] w (Does w B (DiskA p (riseR s [])) (.tuple #[])) :=
  (rise_c p s B none [] 0 w h (.inl rfl) (by simp) (by simp)).mono fun _ _ => tells_does
end Go.Proofs.YtjplkmmhjfpdaaaGreatDoor
/- The program's reader: where its bytes come from (look, pass); its parts. -/
namespace Go.Proofs.YtjplkmmhjfpdaaaGreatDoor
open Go.RowKit FsPlain CrcPlain OctPlain FramePlain RecPlain RdPlain
set_option linter.unusedVariables false
set_option linter.unusedSimpArgs false
set_option maxRecDepth 20000
structure IsSrc (c : Array Value) (D : Nat) (nm : ByteArray) (pos left : Nat) : Prop where
  c0 : c[0]? = some (.pointer (some ⟨D, 0, none⟩))
  c1 : c[1]? = some (.string nm)
  c2 : c[2]? = some (.int .i64 (pos : Nat))
  c3 : c[3]? = some (.int .i64 (left : Nat))
theorem frs_sd (q D : Nat) (c : Array Value) (T : TypeId) (s : St) : Frs [Blk q c T, DiskA D s] := ⟨fr_blk _ _ _, fr_disk _ _, trivial⟩
theorem sd_blk {q D : Nat} {c : Array Value} {T : TypeId} {s : St} {w : World} {B : Nat → Prop} (h : stars [Blk q c T, DiskA D s] w B) : w.heap[q]? = some (.cells c T (0, 0)) := by
  obtain ⟨_, h, _⟩ := part_at 0 rfl h
  exact h.1
def SrcAt (q D : Nat) (nm : ByteArray) (pos left : Nat) (w : World) : Prop := w.cell? ⟨q, 0, none⟩ = some (.pointer (some ⟨D, 0, none⟩)) ∧ w.cell? ⟨q, 1, none⟩ = some (.string nm) ∧ w.cell? ⟨q, 2, none⟩ = some (.int .i64 (pos : Nat)) ∧ w.cell? ⟨q, 3, none⟩ = some (.int .i64 (left : Nat))
theorem src_at {q D : Nat} {c : Array Value} {T : TypeId} {nm : ByteArray} {pos left : Nat} {w : World} (hc : IsSrc c D nm pos left) (hb : w.heap[q]? = some (.cells c T (0, 0))) : SrcAt q D nm pos left w :=
  ⟨by rw [cells_at hb, hc.c0], by rw [cells_at hb, hc.c1], by rw [cells_at hb, hc.c2], by rw [cells_at hb, hc.c3]⟩
set_option maxHeartbeats 2000000 in
theorem src_look (q D : Nat) (c : Array Value) (T : TypeId) (s : St) (nm : ByteArray) (pos left n : Nat) (hc : IsSrc c D nm pos left) (hn : nm.size ≤ 24) (hm : rightB nm.data.toList = true) (hk : s.calls ≤ 1000000000000) (hp : pos + left ≤ 16777216) (hnn : n ≤ 1000000) (w : World) (B : Nat → Prop) (h : stars [Blk q c T, DiskA D s] w B) :
    Calls Tryz.prog 133 #[.pointer (some ⟨q, 0, none⟩), .int .i64 (n : Nat)] w (Does w B (stars [Blk q c T, DiskA D s.call]) (.tuple #[.string (bs (readR s nm.data.toList pos (min n left)).1), .int .i64 (readR s nm.data.toList pos (min n left)).2])) := by
  obtain ⟨t, ht⟩ : ∃ t, t = bs (readR s nm.data.toList pos (min n left)).1 := ⟨_, rfl⟩
  obtain ⟨er, her⟩ : ∃ er, er = (readR s nm.data.toList pos (min n left)).2 := ⟨_, rfl⟩
  obtain ⟨ak, hak⟩ : ∃ ak, ak = min n left := ⟨_, rfl⟩
  have K0 : ∀ u, Gr w u → SrcAt q D nm pos left u := fun u g => src_at hc (sd_blk (stars_gr (frs_sd _ _ _ _ _) h g))
  have CR : ∀ u, Gr w u → Calls Tryz.prog 16 #[.pointer (some ⟨D, 0, none⟩), .string nm, .int .i64 (pos : Nat), .int .i64 (ak : Nat)] u fun e w' => e = .returned (.tuple #[.string t, .int .i64 er]) ∧ (∃ B', stars [Blk q c T, DiskA D s.call] w' B' ∧ Nx B w B' w') ∧ SrcAt q D nm pos left w' := fun u g => by
    rw [ht, her, hak]
    have C := does_at (f := 16) (Q := DiskA D s.call) 1 rfl (frs_sd _ _ _ _ _) (stars_gr (frs_sd _ _ _ _ _) h g) fun B2 h2 => d_read D s nm pos (min n left) (by omega) hm hk (by omega) (by omega) u B2 h2
    refine C.mono ?_
    rintro e w' ⟨he, B', h', n'⟩
    exact ⟨he, ⟨B', h', (Nx.gr g).trans n'⟩, src_at hc (sd_blk h')⟩
  rw [← ht, ← her]
  have ai : min (n : Int) (left : Int) = (ak : Nat) := by omega
  have hmin : min (n : Int) (left : Int) = n ∨ min (n : Int) (left : Int) = left := by omega
  have hk2 : (ak : Int) ≤ 1000000000 := by omega
  have KS := Lib.hid K0
  have CRH := Lib.hid CR
  have gU := Gr.refl w
  have gUd : Gr w w.drew := Below.drew gU
  clear h K0 CR ht her hak hc hn hm hk
  go_enter Tryz.func133, Tryz.ntmps133
  go_wp2_with fail
  go_region_held3 (fun w' => w'.cell? ⟨q, 0, none⟩ = some (.pointer (some ⟨D, 0, none⟩)) ∧ w'.cell? ⟨q, 1, none⟩ = some (.string nm) ∧ w'.cell? ⟨q, 2, none⟩ = some (.int .i64 (pos : Nat)) ∧ w'.cell? ⟨q, 3, none⟩ = some (.int .i64 (left : Nat))) (first | exact KS.out _ gUd | exact KS.out _ (by assumption) | assumption | go_keep)
    ((go_at_call 16; refine (CRH.out _ (by assumption)).mono ?_; rintro e t2 ⟨rfl, hst, hks⟩))
  obtain ⟨B2, h2, n2⟩ := hst
  have H2 := Lib.hid h2
  have N2 := Lib.hid n2
  clear h2 n2 hks
  go_wp2_with fail
  go_ret2
  exact ⟨rfl, B2, H2.out, N2.out⟩
set_option maxHeartbeats 2000000 in
theorem src_pass (q : Nat) (c c' : Array Value) (T : TypeId) (pos left n pos' left' : Nat) (h2 : c[2]? = some (.int .i64 (pos : Nat))) (h3 : c[3]? = some (.int .i64 (left : Nat))) (hp : pos' = pos + n) (hl : left = left' + n) (hb : pos + left ≤ 16777216) (hc' : (c.setIfInBounds 2 (.int .i64 (pos' : Nat))).setIfInBounds 3 (.int .i64 (left' : Nat)) = c') (w : World) (B : Nat → Prop) (h : Blk q c T w B) :
    Calls Tryz.prog 135 #[.pointer (some ⟨q, 0, none⟩), .int .i64 (n : Nat)] w (Does w B (Blk q c' T) (.tuple #[])) := by
  have c2 : w.cell? ⟨q, 2, none⟩ = some (.int .i64 (pos : Nat)) := by rw [cells_at h.1, h2]
  have f2 := cells_free h.1 2
  have e1 : (pos : Int) + n = (pos' : Nat) := by omega
  have e2 : (left : Int) - n = (left' : Nat) := by omega
  have b1 : (pos' : Int) ≤ 16777216 := by omega
  have b2 : (left' : Int) ≤ 16777216 := by omega
  have c3 : w.cell? ⟨q, 3, none⟩ = some (.int .i64 (left : Nat)) := by rw [cells_at h.1, h3]
  have f3 := cells_free h.1 3
  obtain ⟨B1, k1, n1⟩ := blk_next (i := 2) h (.int .i64 (pos' : Nat))
  obtain ⟨B2, k2, n2⟩ := blk_next (i := 3) k1 (.int .i64 (left' : Nat))
  rw [hc'] at k2
  have K2 := Lib.hid k2
  have N2 := Lib.hid (n1.trans n2)
  clear h h2 h3 k1 k2 n1 n2 hp hl hb hc'
  go_enter Tryz.func135, Tryz.ntmps135
  go_wp2_with fail
  go_end0
  exact ⟨rfl, B2, K2.out, N2.out⟩
def rdc (D P : Nat) (y : Rs) (vq : Value) (k : Nat) (t : Bool) : Array Value := #[.pointer (some ⟨D, 0, none⟩), .string y.nm, .int .i64 (y.pos : Nat), .int .i64 (y.left : Nat), .pointer (some ⟨P, 0, none⟩), .int .i64 y.size, vq, .bool y.short, .int .i64 (y.told : Nat), .int .u32 (k : Nat), .bool t]
def rdshut (n k : Nat) (t : Bool) : Array Value := #[.pointer none, .string ⟨#[]⟩, .int .i64 0, .int .i64 0, .pointer none, .int .i64 0, .slice none 0 0, .bool false, .int .i64 (n : Nat), .int .u32 (k : Nat), .bool t]
def rol (x D P : Nat) (s : St) (b : Bu) (c : Array Value) (vq : Value) (queue : List ByteArray) : List Asn := [Blk x c 146, DiskA D s, QueA vq queue, BuA P b]
theorem frs_rol (x D P : Nat) (s : St) (b : Bu) (c : Array Value) (vq : Value) (queue : List ByteArray) : Frs (rol x D P s b c vq queue) := ⟨fr_blk _ _ _, fr_disk _ _, fr_que _ _, fr_bu _ _, trivial⟩
theorem rol_blk {x D P : Nat} {s : St} {b : Bu} {c : Array Value} {vq : Value} {queue : List ByteArray} {w : World} {B : Nat → Prop} (h : stars (rol x D P s b c vq queue) w B) : w.heap[x]? = some (.cells c 146 (0, 0)) := by
  obtain ⟨_, h, _⟩ := part_at 0 rfl h
  exact h.1
theorem rol_set {x D P : Nat} {s : St} {b : Bu} {c c' : Array Value} {vq : Value} {queue : List ByteArray} {w : World} {B : Nat → Prop} (i : Nat) (u : Value) (h : stars (rol x D P s b c vq queue) w B) (hc : c.setIfInBounds i u = c') :
    ∃ B', stars (rol x D P s b c' vq queue) (w.setCell ⟨x, i, none⟩ u) B' ∧ Nx B w B' (w.setCell ⟨x, i, none⟩ u) :=
  step_at (Q := Blk x c' 146) 0 rfl (frs_rol _ _ _ _ _ _ _ _) h fun B1 h1 => by rw [← hc]; exact blk_next h1 u
theorem rol_none {x D P : Nat} {s : St} {b : Bu} {c : Array Value} {vq : Value} {queue : List ByteArray} {w : World} {B : Nat → Prop} (h : stars (rol x D P s b c vq queue) w B) :
    ∃ B', stars (rol x D P s b c (.slice none 0 0) []) w B' ∧ Nx B w B' w :=
  step_at (Q := QueA (.slice none 0 0) []) 2 rfl (frs_rol _ _ _ _ _ _ _ _) h fun B1 h1 => ⟨_, que_nil w, Only.refl _ _, fun b hb => hb.elim⟩
theorem src_rdc (D P : Nat) (y : Rs) (vq : Value) (k : Nat) (t : Bool) : IsSrc (rdc D P y vq k t) D y.nm y.pos y.left := ⟨rfl, rfl, rfl, rfl⟩
def RO (x D P : Nat) (m : N3) (t : Bool) : Asn := fun w B => ∃ vq, stars (rol x D P m.s m.b (rdc D P m.x vq (sumN m.x.all) t) vq m.x.queue) w B
theorem fr_ro (x D P : Nat) (m : N3) (t : Bool) : Fr (RO x D P m t) := ⟨fun ⟨vq, h⟩ o d => ⟨vq, (fr_stars (frs_rol _ _ _ _ _ _ _ _)).fr h o d⟩, fun ⟨vq, h⟩ => (fr_stars (frs_rol _ _ _ _ _ _ _ _)).lo h⟩
def RSh (x D P : Nat) (s : St) (b : Bu) (n k : Nat) (t : Bool) : Asn := stars (rol x D P s b (rdshut n k t) (.slice none 0 0) [])
def RP3 (x D P : Nat) (m : N3) : Asn := fun w B => (m.x.opn = true ∧ RO x D P m false w B) ∨ (m.x.opn = false ∧ RSh x D P m.s m.b m.x.told (sumN m.x.all) m.x.whole w B)
theorem rp3_open {x D P : Nat} {m : N3} {w : World} {B : Nat → Prop} (ho : m.x.opn = true) (h : RP3 x D P m w B) : RO x D P m false w B := by
  rcases h with ⟨_, h⟩ | ⟨h1, _⟩
  · exact h
  · rw [ho] at h1; cases h1
theorem rp3_shut {x D P : Nat} {m : N3} {w : World} {B : Nat → Prop} (ho : m.x.opn = false) (h : RP3 x D P m w B) : RSh x D P m.s m.b m.x.told (sumN m.x.all) m.x.whole w B := by
  rcases h with ⟨h1, _⟩ | ⟨_, h⟩
  · rw [ho] at h1; cases h1
  · exact h
end Go.Proofs.YtjplkmmhjfpdaaaGreatDoor

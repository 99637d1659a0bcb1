/- In one text: FsRename, XsClear, Que, FsFall, FsRise, FsA, Rd1. -/
import Derived.Test.YtjplkmmhjfpdaaaGreatDoorQ13
import Derived.Test.YtjplkmmhjfpdaaaGreatDoorQ11
import Derived.Test.YtjplkmmhjfpdaaaGreatDoorQ14
import Derived.Test.YtjplkmmhjfpdaaaGreatDoorQ07
import Derived.Test.YtjplkmmhjfpdaaaGreatDoorQ16
import Derived.Test.YtjplkmmhjfpdaaaGreatDoorQ01
import Derived.StillTailTactics
import Derived.Test.YtjplkmmhjfpdaaaGreatDoorQ12
import Derived.Test.YtjplkmmhjfpdaaaGreatDoorQ08
import Derived.Deep.RegionHeld3
/- The contract of Rename. -/
namespace Go.Proofs.YtjplkmmhjfpdaaaGreatDoor
open Go.RowKit FsPlain Go.Maps
set_option linter.unusedVariables false
set_option linter.unusedSimpArgs false
set_option maxRecDepth 20000
namespace FsPlain
def St.move (s : St) (a b : List UInt8) (f : F) : St := { s with fs := insF ⟨b, f.data, f.kept⟩ ((s.drop a).drop b).fs }
def renameR (s : St) (a b : List UInt8) : St × Int := if s.call.down = true then (s.call, 5) else match s.get a with | none => (s.call, 2) | some f => (s.call.move a b f, 0)
theorem ins_find2 {x : F} {n' : List UInt8} (h : n' ≠ x.name) : ∀ l : List F, ((insF x l).find? fun f => f.name == n') = l.find? fun f => f.name == n'
  | [] => by
    unfold insF
    rw [List.find?_cons_of_neg (by simpa using fun e => h e.symm)]
  | y :: r => by
    unfold insF
    split
    · rw [List.find?_cons_of_neg (by simpa using fun e => h e.symm)]
    · rw [List.find?_cons, List.find?_cons, ins_find2 h r]
theorem get_ins2 {x : F} : ∀ {l : List F}, (l.find? fun f => f.name == x.name) = none → ((insF x l).find? fun f => f.name == x.name) = some x
  | [], _ => by unfold insF; simp
  | y :: r, h => by
    rw [List.find?_cons] at h
    split at h
    · cases h
    · rename_i hy
      unfold insF
      split
      · simp
      · rw [List.find?_cons, hy, get_ins2 h]
theorem move_get (s : St) (a b : List UInt8) (f : F) : (s.move a b f).get b = some ⟨b, f.data, f.kept⟩ := by
  have h := drop_get (s.drop a) b
  exact get_ins2 (x := ⟨b, f.data, f.kept⟩) h
theorem move_get_ne (s : St) {a b n : List UInt8} (f : F) (hb : n ≠ b) (ha : n ≠ a) : (s.move a b f).get n = s.get n := by
  have h1 : (s.move a b f).get n = ((s.drop a).drop b).get n := ins_find2 (x := ⟨b, f.data, f.kept⟩) hb _
  rw [h1, drop_get_ne _ hb, drop_get_ne _ ha]
theorem move_get_old (s : St) {a b : List UInt8} (f : F) (hab : a ≠ b) : (s.move a b f).get a = none := by
  have h1 : (s.move a b f).get a = ((s.drop a).drop b).get a := ins_find2 (x := ⟨b, f.data, f.kept⟩) hab _
  rw [h1, drop_get_ne _ hab, drop_get]
theorem used_move {s : St} (h : s.ok) {a b : List UInt8} {f : F} (hf : s.get a = some f) : used (s.move a b f).fs ≤ used s.fs ∧ (s.move a b f).fs.length ≤ s.fs.length := by
  obtain ⟨A, C, e, h1, hA, hC, _⟩ := get_split h hf
  have e2 : (s.drop a).fs = A ++ C := by
    show s.fs.filter _ = _
    rw [e, List.filter_append, List.filter_cons]
    have : (!(f.name == a)) = false := by simp [h1]
    rw [if_neg (by rw [this]; decide), List.filter_eq_self.2 fun y hy => by simpa using hA y hy, List.filter_eq_self.2 fun y hy => by simpa using hC y hy]
  have hp := insF_perm ⟨b, f.data, f.kept⟩ ((s.drop a).drop b).fs
  have h3 : used ((s.drop a).drop b).fs ≤ used (s.drop a).fs := used_filter _ _
  have h4 : ((s.drop a).drop b).fs.length ≤ (s.drop a).fs.length := List.length_filter_le _ _
  have h5 := used_perm hp
  have h6 := hp.length_eq
  have h7 := used_split A C f f
  have hs : used s.fs = used (A ++ C) + f.data.length := by
    rw [e]
    unfold used
    simp only [List.map_append, List.map_cons, List.sum_append, List.sum_cons]
    omega
  have hl : s.fs.length = (A ++ C).length + 1 := by rw [e]; simp; omega
  rw [e2] at h3 h4
  constructor
  · show used (insF _ _) ≤ _
    rw [h5, hs]
    unfold used at h3 ⊢
    simp only [List.map_cons, List.sum_cons]
    omega
  · show (insF _ _).length ≤ _
    rw [h6, hl, List.length_cons]
    omega
theorem ok_move {s : St} (h : s.ok) {a b : List UInt8} (hb : b.length ≤ 24) {f : F} (hf : s.get a = some f) : (s.move a b f).ok := by
  obtain ⟨u1, u2⟩ := used_move (b := b) h hf
  have h2 := ok_drop (ok_drop h a) b
  have hp := insF_perm ⟨b, f.data, f.kept⟩ ((s.drop a).drop b).fs
  have hg := drop_get (s.drop a) b
  have hne : ∀ y ∈ ((s.drop a).drop b).fs, y.name ≠ b := fun y hy e => by
    have := List.find?_eq_none.1 hg y hy
    simp [e] at this
  refine ⟨h.r0, h.r1, h.c0, h.a0, h.a1, ?_, ?_, ?_, ?_, ?_⟩
  · have := h.u
    show ((used (s.move a b f).fs : Nat) : Int) ≤ s.room
    omega
  · intro y hy
    rcases List.mem_cons.1 (hp.mem_iff.1 hy) with rfl | hy
    · exact h.k f (get_mem hf)
    · exact h2.k y hy
  · intro y hy
    rcases List.mem_cons.1 (hp.mem_iff.1 hy) with rfl | hy
    · exact hb
    · exact h2.n y hy
  · exact Nat.le_trans u2 h.m
  · show (insF _ _).Pairwise _
    rw [hp.pairwise_iff (fun {a b} (h : a.name ≠ b.name) => h.symm)]
    exact List.pairwise_cons.2 ⟨fun y hy e => hne y hy e.symm, h2.d⟩
theorem ok_rename {s : St} (h : s.ok) (a : List UInt8) {b : List UInt8} (hb : b.length ≤ 24) : (renameR s a b).1.ok := by
  unfold renameR
  split
  · exact ok_call h
  · split
    · exact ok_call h
    · rename_i f hf
      exact ok_move (ok_call h) hb (show s.call.get a = some f from hf)
end FsPlain
theorem put_filter (L : List Pl) (n : List UInt8) (v : DataW Unit) : (ents (L.filter fun x => !(x.f.name == n))).put (.string n) v = (ents L).put (.string n) v := by
  have key : ((L.filter fun x => !(x.f.name == n)).map fun x => ((.string x.f.name : Lit), (DataW.lit (.int .i64 (x.blk : Int)) : DataW Unit))).filter (fun p => !p.1.sameKey (.string n)) = (L.map fun x => ((.string x.f.name : Lit), (DataW.lit (.int .i64 (x.blk : Int)) : DataW Unit))).filter (fun p => !p.1.sameKey (.string n)) := by
    rw [List.filter_map, List.filter_map, List.filter_filter]
    congr 1
    refine List.filter_congr fun x _ => ?_
    simp only [Function.comp, Lit.sameKey]
    cases h : x.f.name == n
    · simp
    · have e : x.f.name = n := by simpa using h
      simp [e]
  unfold ents DataW.put
  dsimp only
  rw [key]
theorem DiskAt.moved {w w' : World} {p m k : Nat} {s : St} {B : Nat → Prop} {L : List Pl} {x : Pl} {a b : List UInt8} (h : DiskAt w p s B m L) (hf : L.find? (fun y => y.f.name == a) = some x) (ho : Own m k (((ents L).del (.string a)).put (.string b) (.lit (.int .i64 (x.blk : Int)))) w') (g : Only (fun i => i = m) w w') :
    DiskAt w' p (s.move a b x.f) B m (insL ⟨⟨b, x.f.data, x.f.kept⟩, x.blk, x.v⟩ ((L.filter fun y => !(y.f.name == a)).filter fun y => !(y.f.name == b))) := by
  obtain ⟨A, C, e, hx, hA⟩ := find_split hf
  have hap := h.apart
  have hpm : p ≠ m := fun e => by
    simp only [List.nodup_cons, List.mem_cons, not_or] at hap; exact hap.1.1 e
  have hperm := insL_perm ⟨⟨b, x.f.data, x.f.kept⟩, x.blk, x.v⟩ ((L.filter fun y => !(y.f.name == a)).filter fun y => !(y.f.name == b))
  have hfe : L.filter (fun y => !(y.f.name == a)) = A ++ C.filter fun y => !(y.f.name == a) := by
    rw [e, List.filter_append, List.filter_cons]
    have : (!(x.f.name == a)) = false := by simpa using hx
    rw [if_neg (by rw [this]; decide), List.filter_eq_self.2 fun y hy => by rw [hA y hy]; rfl]
  have hs1 : (blocks ((L.filter fun y => !(y.f.name == a)).filter fun y => !(y.f.name == b))).Sublist (blocks (A ++ C)) := by
    refine (blocks_sub _ _).trans ?_
    rw [hfe]
    unfold blocks
    rw [List.flatMap_append, List.flatMap_append]
    exact (List.Sublist.refl _).append (blocks_sub _ C)
  have hbl : (blocks L).Perm (plBlocks x ++ blocks (A ++ C)) := by
    rw [e]
    unfold blocks
    rw [List.flatMap_append, List.flatMap_append, List.flatMap_cons, ← List.append_assoc, ← List.append_assoc]
    exact List.perm_append_comm.append_right _
  have hbp : (blocks (insL ⟨⟨b, x.f.data, x.f.kept⟩, x.blk, x.v⟩ ((L.filter fun y => !(y.f.name == a)).filter fun y => !(y.f.name == b)))).Perm (plBlocks x ++ blocks ((L.filter fun y => !(y.f.name == a)).filter fun y => !(y.f.name == b))) := by
    refine (hperm.flatMap_right _).trans ?_
    show (List.flatMap plBlocks (_ :: _)).Perm _
    rw [List.flatMap_cons]
    exact List.Perm.refl _
  have hsub : (plBlocks x ++ blocks ((L.filter fun y => !(y.f.name == a)).filter fun y => !(y.f.name == b))).Sublist (plBlocks x ++ blocks (A ++ C)) := (List.Sublist.refl _).append hs1
  have hmem : x ∈ L := by rw [e]; simp
  have hin : ∀ i ∈ blocks (insL ⟨⟨b, x.f.data, x.f.kept⟩, x.blk, x.v⟩ ((L.filter fun y => !(y.f.name == a)).filter fun y => !(y.f.name == b))), i ∈ blocks L := fun i hi => hbl.mem_iff.2 (hsub.subset (hbp.mem_iff.1 hi))
  have hstay : ∀ y ∈ L, FileAt w' y := fun y hy => (h.file y hy).only g fun b hb e => by
    have e2 : b = m := e
    subst e2
    simp only [List.nodup_cons] at hap
    exact hap.2.1 (mem_blocks hy hb)
  refine ⟨?_, ?_, ?_, ?_, ?_, ?_, ?_⟩
  · rw [g.block p (lt_of_block h.heap) hpm]; exact h.heap
  · rw [del_ents] at ho
    have e1 := ents_put (x := ⟨⟨b, x.f.data, x.f.kept⟩, x.blk, x.v⟩) (L := (L.filter fun y => !(y.f.name == a)).filter fun y => !(y.f.name == b)) (List.find?_eq_none.2 fun y hy => by
      have := (List.mem_filter.1 hy).2
      simpa using this)
    rw [← put_filter, ← e1] at ho
    have := tight ho
    rwa [ents_size] at this
  · rw [insL_map]
    show insF _ _ = insF _ _
    congr 1
    show ((L.filter _).filter _).map (·.f) = (s.fs.filter _).filter _
    rw [← h.fs, List.filter_map, List.filter_map]
    rfl
  · intro y hy
    rcases List.mem_cons.1 (hperm.mem_iff.1 hy) with rfl | hy
    · exact hstay x hmem
    · exact hstay y (List.mem_filter.1 (List.mem_filter.1 hy).1).1
  · refine List.Perm.nodup (((hbp.cons m).cons p).symm) ?_
    refine List.Nodup.sublist ((hsub.cons_cons m).cons_cons p) ?_
    exact List.Perm.nodup ((hbl.cons m).cons p) hap
  · intro i hi
    refine h.mine i ?_
    simp only [List.mem_cons] at hi ⊢
    rcases hi with hi | hi | hi
    · exact .inl hi
    · exact .inr (.inl hi)
    · exact .inr (.inr (hin i hi))
  · exact fun i hi => Nat.lt_of_lt_of_le (h.low i hi) g.size
set_option maxRecDepth 20000 in
set_option maxHeartbeats 1000000 in
theorem rename_c (p : Nat) (s : St) (B : Nat → Prop) (a b : ByteArray) (w : World) (h : Disk w p s B) (ha : a.size ≤ 1000) (hma : rightB a.data.toList = true) (hb : b.size ≤ 1000) (hmb : rightB b.data.toList = true) (h1 : s.calls ≤ 1000000000000) :
    Calls Tryz.prog 72 #[.pointer (some ⟨p, 0, none⟩), .string a, .string b] w (Tells w p (renameR s a.data.toList b.data.toList).1 B (.int .i64 (renameR s a.data.toList b.data.toList).2)) := by
  obtain ⟨hs, m, L, hD⟩ := h
  have R := fun u => right_c b (by unfold maxLen; omega) u
  rw [hmb] at R
  have C := find_yes p m s B L a w hs hD (by unfold maxLen; omega) hma h1
  have HS := Lib.hid hs
  have hb24 : b.data.toList.length ≤ 24 := by
    unfold rightB at hmb; simp only [Bool.and_eq_true, decide_eq_true_eq] at hmb; exact hmb.2.2
  have HB24 := Lib.hid hb24
  have hkey := WideMaps.keyOf_string_mk (P := Tryz.prog) (k := 9) Tryz.underlying9 (show a.size ≤ maxLen by unfold maxLen; omega)
  clear hD hma hmb hs hb24
  go_enter Tryz.func72, Tryz.ntmps72
  go_wp2_with fail
  refine (R _).mono ?_; rintro e w1 ⟨rfl, rfl⟩
  go_wp2_with fail
  refine C.mono ?_; rintro e w2 ⟨hD, hO, hcase⟩
  have HN := Lib.hid (next_called HS.out hD hO)
  have HD := Lib.hid hD
  have HO := Lib.hid hO
  clear hD hO R
  rcases hcase with ⟨hd, rfl⟩ | ⟨hd, hg, rfl⟩ | ⟨hd, x, hg, hf, rfl⟩
  · have HR : Hid (renameR s a.data.toList b.data.toList = (s.call, 5)) := Lib.hid (by simp [renameR, hd])
    clear hd hkey
    go_wp2_with fail
    go_ret
    exact ⟨by rw [HR.out] <;> rfl, by rw [HR.out]; exact HN.out⟩
  · have HR : Hid (renameR s a.data.toList b.data.toList = (s.call, 2)) := Lib.hid (by simp [renameR, hd, hg])
    clear hd hg hkey
    go_wp2_with fail
    go_ret
    exact ⟨by rw [HR.out] <;> rfl, by rw [HR.out]; exact HN.out⟩
  · have HR : Hid (renameR s a.data.toList b.data.toList = (s.call.move a.data.toList b.data.toList x.f, 0)) := Lib.hid (by simp [renameR, hd, hg])
    have HG := Lib.hid (show s.call.get a.data.toList = some x.f from hg)
    have HF := Lib.hid hf
    have c1 : w2.cell? ⟨p, 1, none⟩ = some (.map (some m)) := by rw [cells_at HD.out.heap]; rfl
    have hown := HD.out.own
    have HW := Lib.hid hown
    have HK := Lib.hid hkey
    have hLl : L.length ≤ 200 := by
      have h3 : L.length = s.fs.length := by
        have h2 := congrArg List.length HD.out.fs
        rwa [List.length_map] at h2
      have h2 := HS.out.m
      omega
    have HLl := Lib.hid hLl
    clear hLl
    have hpm : p ≠ m := fun e => by
      have hap := HD.out.apart
      simp only [List.nodup_cons, List.mem_cons, not_or] at hap; exact hap.1.1 e
    have HP := Lib.hid hpm
    clear hd hg hf hown hkey hpm
    go_wp2_with (first
      | (at_delete; refine wpList_delete_own _ rfl _ _ 64 9 rfl 69 lawS Tryz.underlying64 ptrElem m L.length (ents L) rfl HW.out _ _ rfl HK.out ?_; intro w3 ho3 ht3; have O3 := Lib.hid ho3; have T3 := Lib.hid ht3; clear ho3 ht3)
      | fail)
    have CP := fun (k : Nat) (hk : k ≤ 1000000) (ho : Own m k ((ents L).del (.string a.data.toList)) w3) => place_c p m x.blk k s.call ((ents L).del (.string a.data.toList)) b w3 (by rw [(turned_only T3.out).block p (lt_of_block HD.out.heap) HP.out]; exact HD.out.heap) HP.out ho hb hk
    have CP1 := Lib.hid (CP _ (by have := HLl.out; omega) O3.out)
    clear CP
    go_wp2_with fail
    refine CP1.out.mono ?_; rintro e w4 ⟨rfl, ho4, g4⟩
    have O4 := Lib.hid ho4
    have G4 := Lib.hid ((turned_only T3.out).trans g4)
    clear ho4 g4 CP1
    go_wp2_with fail
    go_ret
    refine ⟨by rw [HR.out] <;> rfl, ?_⟩
    rw [HR.out]
    have hD4 := HD.out.moved HF.out O4.out G4.out
    refine ⟨B, ⟨ok_move (ok_call HS.out) HB24.out HG.out, m, _, hD4⟩, ?_, fun i hi => .inl hi⟩
    exact (HO.out.mono (fun i e => by subst e; exact HD.out.mine _ (by simp))).trans (G4.out.mono fun i e => by subst e; exact HD.out.mine _ (by simp))
theorem d_rename (p : Nat) (s : St) (a b : ByteArray) (ha : a.size ≤ 1000) (hma : rightB a.data.toList = true) (hb : b.size ≤ 1000) (hmb : rightB b.data.toList = true) (h1 : s.calls ≤ 1000000000000) (w : World) (B : Nat → Prop) (h : DiskA p s w B) :
    Calls Tryz.prog 72 #[.pointer (some ⟨p, 0, none⟩), .string a, .string b] w (Does w B (DiskA p (renameR s a.data.toList b.data.toList).1) (.int .i64 (renameR s a.data.toList b.data.toList).2)) :=
  (rename_c p s B a b w h ha hma hb hmb h1).mono fun e w' k => tells_does k
end Go.Proofs.YtjplkmmhjfpdaaaGreatDoor
/- Plain facts: files removed and renamed, whatever the machine does. -/
namespace Go.Proofs.YtjplkmmhjfpdaaaGreatDoor
open Go.RowKit FsPlain CrcPlain OctPlain FramePlain RecPlain RdPlain RnPlain WrPlain
set_option linter.unusedVariables false
set_option linter.unusedSimpArgs false
set_option maxRecDepth 20000
namespace XsPlain
structure Off (N : List UInt8 → Prop) (s s' : St) : Prop where
  get : ∀ n, ¬ N n → s'.get n = s.get n
  room : s'.room = s.room
  cm : s.down = false → s.ahead = -1 → s'.down = false ∧ s'.ahead = -1
theorem Off.refl (N : List UInt8 → Prop) (s : St) : Off N s s := ⟨fun _ _ => rfl, rfl, fun a b => ⟨a, b⟩⟩
theorem Off.trans {N : List UInt8 → Prop} {a b c : St} (h : Off N a b) (k : Off N b c) : Off N a c :=
  ⟨fun n hn => (k.get n hn).trans (h.get n hn), k.room.trans h.room, fun x y => by obtain ⟨p, q⟩ := h.cm x y; exact k.cm p q⟩
theorem Off.more {N N' : List UInt8 → Prop} {a b : St} (h : Off N a b) (hs : ∀ n, N n → N' n) : Off N' a b := ⟨fun n hn => h.get n fun k => hn (hs n k), h.room, h.cm⟩
theorem off_oth {n : List UInt8} {d : Nat} {s s' : St} (h : Oth n d s s') : Off (fun x => x = n) s s' := ⟨fun x hx => h.get x hx, h.room, h.calm⟩
theorem off_quiet (N : List UInt8 → Prop) {s s' : St} (h : Quiet s s') : Off N s s' := ⟨fun x _ => h.get x, h.room, h.calm⟩
theorem off_call (N : List UInt8 → Prop) (s : St) : Off N s s.call := off_quiet N (quiet_call s)
theorem off_form {s s' : St} {out : ByteArray} (h : FormO s s' out) : Off (fun x => ∃ i : Nat, x = (nameN out (i : Int)).data.toList) s s' := ⟨fun n hn => h.oth n fun i e => hn ⟨i, e⟩, h.room, h.cm⟩
theorem off_remove (s : St) (n : List UInt8) : Off (fun x => x = n) s (removeR s n).1 := by
  unfold removeR
  split
  · exact off_call _ s
  · split
    · exact off_call _ s
    · exact (off_call _ s).trans ⟨fun x hx => drop_get_ne _ hx, rfl, fun a b => ⟨a, b⟩⟩
theorem remove_code {s : St} {n : List UInt8} (hg : ∃ f, s.get n = some f) : ((removeR s n).2 = 0 ∧ (removeR s n).1 = s.call.drop n) ∨ ((removeR s n).2 = 5 ∧ s.call.down = true) := by
  obtain ⟨f, hf⟩ := hg
  unfold removeR
  by_cases hd : s.call.down = true
  · rw [if_pos hd]; exact .inr ⟨rfl, hd⟩
  · rw [if_neg hd, hf]; exact .inl ⟨rfl, rfl⟩
theorem off_clear : ∀ (l : List (List UInt8)) (s : St), Off (fun x => x ∈ l) s (clearR s l).1
  | [], s => Off.refl _ _
  | n :: r, s => by
    have h1 := (off_remove s n).more (N' := fun x => x ∈ n :: r) fun x hx => by rw [hx]; simp
    have h2 := (off_clear r (removeR s n).1).more (N' := fun x => x ∈ n :: r) fun x hx => by simp [hx]
    show Off _ s (if (removeR s n).2 = 0 then clearR (removeR s n).1 r else removeR s n).1
    split
    · exact h1.trans h2
    · exact h1
theorem clear_code : ∀ (l : List (List UInt8)) {s : St}, s.ok → l.Nodup → (∀ n ∈ l, ∃ f, s.get n = some f) → ((clearR s l).2 = 0 ∧ (∀ n ∈ l, (clearR s l).1.get n = none) ∧ (clearR s l).1.fs.length + l.length = s.fs.length ∧ used (clearR s l).1.fs ≤ used s.fs) ∨ (clearR s l).2 = 5
  | [], s, _, _, _ => .inl ⟨rfl, fun n hn => by simp at hn, rfl, Nat.le_refl _⟩
  | n :: r, s, hs, hn, hg => by
    rw [List.nodup_cons] at hn
    have hcl : clearR s (n :: r) = if (removeR s n).2 = 0 then clearR (removeR s n).1 r else removeR s n := rfl
    rcases remove_code (hg n (by simp)) with ⟨h0, e⟩ | ⟨h5, _⟩
    · rw [hcl, if_pos h0, e]
      have hok1 : (s.call.drop n).ok := ok_drop (ok_call hs) n
      have hl := drop_len (s := s.call) (ok_call hs) (hg n (by simp))
      have hu : used (s.call.drop n).fs ≤ used s.fs := used_filter _ _
      rcases clear_code r hok1 hn.2 (fun n' h' => by
        rw [drop_get_ne _ (fun e2 : n' = n => hn.1 (by rw [← e2]; exact h'))]
        exact hg n' (by simp [h'])) with ⟨k1, k2, k3, k4⟩ | k
      · left
        refine ⟨k1, fun x hx => ?_, ?_, Nat.le_trans k4 hu⟩
        · rcases List.mem_cons.1 hx with rfl | hx
          · rw [(off_clear r _).get _ hn.1]
            exact drop_get _ _
          · exact k2 x hx
        · have : s.call.fs.length = s.fs.length := rfl
          simp only [List.length_cons]; omega
      · exact .inr k
    · right
      rw [hcl, if_neg (by rw [h5]; decide)]
      exact h5
theorem off_rename (s : St) (a b : List UInt8) : Off (fun x => x = a ∨ x = b) s (renameR s a b).1 := by
  unfold renameR
  split
  · exact off_call _ s
  · split
    · exact off_call _ s
    · rename_i f hf
      exact (off_call _ s).trans ⟨fun x hx => move_get_ne _ _ (fun e => hx (.inr e)) (fun e => hx (.inl e)), rfl, fun a b => ⟨a, b⟩⟩
theorem rename_code {s : St} {a b : List UInt8} {D : ByteArray} (hg : HasD s a D) : ((renameR s a b).2 = 0 ∧ HasD (renameR s a b).1 b D ∧ (a ≠ b → (renameR s a b).1.get a = none) ∧ s.call.down = false) ∨ ((renameR s a b).2 = 5 ∧ s.call.down = true) := by
  obtain ⟨f, hf, hd⟩ := hg
  unfold renameR
  by_cases h5 : s.call.down = true
  · rw [if_pos h5]; exact .inr ⟨rfl, h5⟩
  · rw [if_neg h5, hf]
    refine .inl ⟨rfl, ⟨_, move_get _ _ _ _, hd⟩, fun hab => move_get_old _ _ hab, by cases h : s.call.down; rfl; exact absurd h h5⟩
theorem Off.has {N : List UInt8 → Prop} {s s' : St} (h : Off N s s') {n : List UInt8} {D : ByteArray} (hn : ¬ N n) (hg : HasD s n D) : HasD s' n D := by
  obtain ⟨f, hf, hd⟩ := hg
  exact ⟨f, by rw [h.get n hn]; exact hf, hd⟩
end XsPlain
end Go.Proofs.YtjplkmmhjfpdaaaGreatDoor
/- A slice of strings that nobody writes any more, as a part of a world; what a reader's Next hands out. -/
namespace Go.Proofs.YtjplkmmhjfpdaaaGreatDoor
open Go.RowKit FsPlain CrcPlain OctPlain FramePlain RecPlain RdPlain
set_option linter.unusedVariables false
set_option linter.unusedSimpArgs false
set_option maxRecDepth 20000
def QueA (v : Value) (l : List ByteArray) : Asn := fun w B => Lies w v l ∧ (∀ b off n c, v = .slice (some ⟨b, off, none⟩) n c → B b) ∧ ∀ b, B b → b < w.heap.size
theorem fr_que (v : Value) (l : List ByteArray) : Fr (QueA v l) where
  fr := fun {w w' B C} ⟨⟨a, c, e, hc, h⟩, hB, hl⟩ o d => by
    refine ⟨⟨a, c, e, hc, h.imp id ?_⟩, hB, fun b hb => Nat.lt_of_lt_of_le (hl b hb) o.size⟩
    rintro ⟨b, off, rfl, hr⟩
    have hb := hB b off _ _ e
    refine ⟨b, off, rfl, Nat.lt_of_lt_of_le hr.1 o.size, fun j x hj => ?_⟩
    rw [o.cell (p := ⟨b, off + j, none⟩) hr.1 (d b hb)]
    exact hr.2 j x hj
  lo := fun ⟨_, _, hl⟩ => hl
theorem que_nil (w : World) : QueA (.slice none 0 0) [] w (fun _ => False) := ⟨⟨none, 0, rfl, Nat.le_refl _, .inl rfl⟩, (fun b off n c e => by cases e), fun b hb => hb.elim⟩
theorem que_new {w w' : World} {v : Value} {l : List ByteArray} (h : w'.ownsRow w.heap.size 9 1 v l.length (strs l)) : QueA v l w' (fun b => v.ownBlock = some b) ∧ ∀ b, v.ownBlock = some b → w.heap.size ≤ b := by
  have hl := h.lt
  have L := lies_own h
  refine ⟨⟨L, fun b off n c e => ?_, fun b hb => (hl b hb).2⟩, fun b hb => (hl b hb).1⟩
  rw [e]; rfl
def ansV (a : Ans) : Value := .tuple #[.string a.1, .bool a.2.1, .int .i64 a.2.2]
theorem que_open {v : Value} {l : List ByteArray} {w : World} {B : Nat → Prop} (h : QueA v l w B) (hl : l ≠ []) : ∃ b off c, v = .slice (some ⟨b, off, none⟩) l.length c ∧ l.length ≤ c ∧ SRow w b off l ∧ B b := by
  obtain ⟨⟨a, c, e, hc, hh⟩, hB, _⟩ := h
  rcases hh with h0 | ⟨b, off, rfl, hr⟩
  · exact absurd h0 hl
  · exact ⟨b, off, c, e, hc, hr, hB b off _ _ e⟩
theorem que_tail {b off n c : Nat} {r : ByteArray} {l : List ByteArray} {w : World} {B : Nat → Prop} (h : QueA (.slice (some ⟨b, off, none⟩) n c) (r :: l) w B) (a : Option Addr) (m k : Nat) (hm : m = l.length) (hk : m ≤ k) (ha : 1 ≤ l.length → a = some ⟨b, off + 1, none⟩) (hz : ∀ b' off', a = some ⟨b', off', none⟩ → b' = b) : QueA (.slice a m k) l w B := by
  have hnil : (r :: l) ≠ [] := by simp
  obtain ⟨b2, off2, c2, e, hc, hr, hb⟩ := que_open h hnil
  simp only [Value.slice.injEq, Option.some.injEq, Addr.mk.injEq, and_true] at e
  obtain ⟨⟨rfl, rfl⟩, _, _⟩ := e
  subst hm
  refine ⟨⟨a, k, rfl, hk, ?_⟩, fun b3 off3 n3 c3 e3 => ?_, h.2.2⟩
  · rcases Nat.eq_zero_or_pos l.length with h0 | h0
    · exact .inl (List.eq_nil_of_length_eq_zero h0)
    · refine .inr ⟨b, off + 1, ha h0, hr.1, fun j x hj => ?_⟩
      have := hr.2 (j + 1) x (by rw [List.getElem?_cons_succ]; exact hj)
      rw [Nat.add_right_comm, Nat.add_assoc]
      rwa [← Nat.add_assoc] at this ⊢
  · simp only [Value.slice.injEq] at e3
    rw [hz b3 off3 e3.1]; exact hb
end Go.Proofs.YtjplkmmhjfpdaaaGreatDoor
/- The contract of a file's fall; the order of the names. -/
namespace Go.Proofs.YtjplkmmhjfpdaaaGreatDoor
open Go.RowKit Go.Maps FsPlain
set_option linter.unusedVariables false
set_option linter.unusedSimpArgs false
set_option maxRecDepth 20000
def stays (f : F) (k : Int) : Nat := f.kept + min (max k 0).toNat (f.data.length - f.kept)
end Go.Proofs.YtjplkmmhjfpdaaaGreatDoor
/- The contract of Rise: by a walk of its loop over the names. -/
namespace Go.Proofs.YtjplkmmhjfpdaaaGreatDoor
open Go.RowKit Go.Maps FsPlain
set_option linter.unusedVariables false
set_option linter.unusedSimpArgs false
set_option maxRecDepth 20000
end Go.Proofs.YtjplkmmhjfpdaaaGreatDoor
/- The program's disk as a part of a world: what its other calls leave. -/
namespace Go.Proofs.YtjplkmmhjfpdaaaGreatDoor
open Go.RowKit Go.Maps FsPlain
set_option linter.unusedVariables false
set_option linter.unusedSimpArgs false
set_option maxRecDepth 20000
end Go.Proofs.YtjplkmmhjfpdaaaGreatDoor
/- The program's reader: where its bytes come from (look, pass); its parts. -/
namespace Go.Proofs.YtjplkmmhjfpdaaaGreatDoor
open Go.RowKit FsPlain CrcPlain OctPlain FramePlain RecPlain RdPlain
set_option linter.unusedVariables false
set_option linter.unusedSimpArgs false
set_option maxRecDepth 20000
structure IsSrc (c : Array Value) (D : Nat) (nm : ByteArray) (pos left : Nat) : Prop where
  c0 : c[0]? = some (.pointer (some ⟨D, 0, none⟩))
  c1 : c[1]? = some (.string nm)
  c2 : c[2]? = some (.int .i64 (pos : Nat))
  c3 : c[3]? = some (.int .i64 (left : Nat))
theorem frs_sd (q D : Nat) (c : Array Value) (T : TypeId) (s : St) : Frs [Blk q c T, DiskA D s] := ⟨fr_blk _ _ _, fr_disk _ _, trivial⟩
theorem sd_blk {q D : Nat} {c : Array Value} {T : TypeId} {s : St} {w : World} {B : Nat → Prop} (h : stars [Blk q c T, DiskA D s] w B) : w.heap[q]? = some (.cells c T (0, 0)) := by
  obtain ⟨_, h, _⟩ := part_at 0 rfl h
  exact h.1
def SrcAt (q D : Nat) (nm : ByteArray) (pos left : Nat) (w : World) : Prop := w.cell? ⟨q, 0, none⟩ = some (.pointer (some ⟨D, 0, none⟩)) ∧ w.cell? ⟨q, 1, none⟩ = some (.string nm) ∧ w.cell? ⟨q, 2, none⟩ = some (.int .i64 (pos : Nat)) ∧ w.cell? ⟨q, 3, none⟩ = some (.int .i64 (left : Nat))
theorem src_at {q D : Nat} {c : Array Value} {T : TypeId} {nm : ByteArray} {pos left : Nat} {w : World} (hc : IsSrc c D nm pos left) (hb : w.heap[q]? = some (.cells c T (0, 0))) : SrcAt q D nm pos left w :=
  ⟨by rw [cells_at hb, hc.c0], by rw [cells_at hb, hc.c1], by rw [cells_at hb, hc.c2], by rw [cells_at hb, hc.c3]⟩
set_option maxHeartbeats 2000000 in
theorem src_look (q D : Nat) (c : Array Value) (T : TypeId) (s : St) (nm : ByteArray) (pos left n : Nat) (hc : IsSrc c D nm pos left) (hn : nm.size ≤ 24) (hm : rightB nm.data.toList = true) (hk : s.calls ≤ 1000000000000) (hp : pos + left ≤ 16777216) (hnn : n ≤ 1000000) (w : World) (B : Nat → Prop) (h : stars [Blk q c T, DiskA D s] w B) :
    Calls Tryz.prog 133 #[.pointer (some ⟨q, 0, none⟩), .int .i64 (n : Nat)] w (Does w B (stars [Blk q c T, DiskA D s.call]) (.tuple #[.string (bs (readR s nm.data.toList pos (min n left)).1), .int .i64 (readR s nm.data.toList pos (min n left)).2])) := by
  obtain ⟨t, ht⟩ : ∃ t, t = bs (readR s nm.data.toList pos (min n left)).1 := ⟨_, rfl⟩
  obtain ⟨er, her⟩ : ∃ er, er = (readR s nm.data.toList pos (min n left)).2 := ⟨_, rfl⟩
  obtain ⟨ak, hak⟩ : ∃ ak, ak = min n left := ⟨_, rfl⟩
  have K0 : ∀ u, Gr w u → SrcAt q D nm pos left u := fun u g => src_at hc (sd_blk (stars_gr (frs_sd _ _ _ _ _) h g))
  have CR : ∀ u, Gr w u → Calls Tryz.prog 16 #[.pointer (some ⟨D, 0, none⟩), .string nm, .int .i64 (pos : Nat), .int .i64 (ak : Nat)] u fun e w' => e = .returned (.tuple #[.string t, .int .i64 er]) ∧ (∃ B', stars [Blk q c T, DiskA D s.call] w' B' ∧ Nx B w B' w') ∧ SrcAt q D nm pos left w' := fun u g => by
    rw [ht, her, hak]
    have C := does_at (f := 16) (Q := DiskA D s.call) 1 rfl (frs_sd _ _ _ _ _) (stars_gr (frs_sd _ _ _ _ _) h g) fun B2 h2 => d_read D s nm pos (min n left) (by omega) hm hk (by omega) (by omega) u B2 h2
    refine C.mono ?_
    rintro e w' ⟨he, B', h', n'⟩
    exact ⟨he, ⟨B', h', (Nx.gr g).trans n'⟩, src_at hc (sd_blk h')⟩
  rw [← ht, ← her]
  have ai : min (n : Int) (left : Int) = (ak : Nat) := by omega
  have hmin : min (n : Int) (left : Int) = n ∨ min (n : Int) (left : Int) = left := by omega
  have hk2 : (ak : Int) ≤ 1000000000 := by omega
  have KS := Lib.hid K0
  have CRH := Lib.hid CR
  have gU := Gr.refl w
  have gUd : Gr w w.drew := Below.drew gU
  clear h K0 CR ht her hak hc hn hm hk
  go_enter Tryz.func133, Tryz.ntmps133
  go_wp2_with fail
  go_region_held3 (fun w' => w'.cell? ⟨q, 0, none⟩ = some (.pointer (some ⟨D, 0, none⟩)) ∧ w'.cell? ⟨q, 1, none⟩ = some (.string nm) ∧ w'.cell? ⟨q, 2, none⟩ = some (.int .i64 (pos : Nat)) ∧ w'.cell? ⟨q, 3, none⟩ = some (.int .i64 (left : Nat))) (first | exact KS.out _ gUd | exact KS.out _ (by assumption) | assumption | go_keep)
    ((go_at_call 16; refine (CRH.out _ (by assumption)).mono ?_; rintro e t2 ⟨rfl, hst, hks⟩))
  obtain ⟨B2, h2, n2⟩ := hst
  have H2 := Lib.hid h2
  have N2 := Lib.hid n2
  clear h2 n2 hks
  go_wp2_with fail
  go_ret2
  exact ⟨rfl, B2, H2.out, N2.out⟩
set_option maxHeartbeats 2000000 in
theorem src_pass (q : Nat) (c c' : Array Value) (T : TypeId) (pos left n pos' left' : Nat) (h2 : c[2]? = some (.int .i64 (pos : Nat))) (h3 : c[3]? = some (.int .i64 (left : Nat))) (hp : pos' = pos + n) (hl : left = left' + n) (hb : pos + left ≤ 16777216) (hc' : (c.setIfInBounds 2 (.int .i64 (pos' : Nat))).setIfInBounds 3 (.int .i64 (left' : Nat)) = c') (w : World) (B : Nat → Prop) (h : Blk q c T w B) :
    Calls Tryz.prog 135 #[.pointer (some ⟨q, 0, none⟩), .int .i64 (n : Nat)] w (Does w B (Blk q c' T) (.tuple #[])) := by
  have c2 : w.cell? ⟨q, 2, none⟩ = some (.int .i64 (pos : Nat)) := by rw [cells_at h.1, h2]
  have f2 := cells_free h.1 2
  have e1 : (pos : Int) + n = (pos' : Nat) := by omega
  have e2 : (left : Int) - n = (left' : Nat) := by omega
  have b1 : (pos' : Int) ≤ 16777216 := by omega
  have b2 : (left' : Int) ≤ 16777216 := by omega
  have c3 : w.cell? ⟨q, 3, none⟩ = some (.int .i64 (left : Nat)) := by rw [cells_at h.1, h3]
  have f3 := cells_free h.1 3
  obtain ⟨B1, k1, n1⟩ := blk_next (i := 2) h (.int .i64 (pos' : Nat))
  obtain ⟨B2, k2, n2⟩ := blk_next (i := 3) k1 (.int .i64 (left' : Nat))
  rw [hc'] at k2
  have K2 := Lib.hid k2
  have N2 := Lib.hid (n1.trans n2)
  clear h h2 h3 k1 k2 n1 n2 hp hl hb hc'
  go_enter Tryz.func135, Tryz.ntmps135
  go_wp2_with fail
  go_end0
  exact ⟨rfl, B2, K2.out, N2.out⟩
def rdc (D P : Nat) (y : Rs) (vq : Value) (k : Nat) (t : Bool) : Array Value := #[.pointer (some ⟨D, 0, none⟩), .string y.nm, .int .i64 (y.pos : Nat), .int .i64 (y.left : Nat), .pointer (some ⟨P, 0, none⟩), .int .i64 y.size, vq, .bool y.short, .int .i64 (y.told : Nat), .int .u32 (k : Nat), .bool t]
def rdshut (n k : Nat) (t : Bool) : Array Value := #[.pointer none, .string ⟨#[]⟩, .int .i64 0, .int .i64 0, .pointer none, .int .i64 0, .slice none 0 0, .bool false, .int .i64 (n : Nat), .int .u32 (k : Nat), .bool t]
def rol (x D P : Nat) (s : St) (b : Bu) (c : Array Value) (vq : Value) (queue : List ByteArray) : List Asn := [Blk x c 146, DiskA D s, QueA vq queue, BuA P b]
theorem frs_rol (x D P : Nat) (s : St) (b : Bu) (c : Array Value) (vq : Value) (queue : List ByteArray) : Frs (rol x D P s b c vq queue) := ⟨fr_blk _ _ _, fr_disk _ _, fr_que _ _, fr_bu _ _, trivial⟩
theorem rol_blk {x D P : Nat} {s : St} {b : Bu} {c : Array Value} {vq : Value} {queue : List ByteArray} {w : World} {B : Nat → Prop} (h : stars (rol x D P s b c vq queue) w B) : w.heap[x]? = some (.cells c 146 (0, 0)) := by
  obtain ⟨_, h, _⟩ := part_at 0 rfl h
  exact h.1
theorem rol_set {x D P : Nat} {s : St} {b : Bu} {c c' : Array Value} {vq : Value} {queue : List ByteArray} {w : World} {B : Nat → Prop} (i : Nat) (u : Value) (h : stars (rol x D P s b c vq queue) w B) (hc : c.setIfInBounds i u = c') :
    ∃ B', stars (rol x D P s b c' vq queue) (w.setCell ⟨x, i, none⟩ u) B' ∧ Nx B w B' (w.setCell ⟨x, i, none⟩ u) :=
  step_at (Q := Blk x c' 146) 0 rfl (frs_rol _ _ _ _ _ _ _ _) h fun B1 h1 => by rw [← hc]; exact blk_next h1 u
theorem rol_none {x D P : Nat} {s : St} {b : Bu} {c : Array Value} {vq : Value} {queue : List ByteArray} {w : World} {B : Nat → Prop} (h : stars (rol x D P s b c vq queue) w B) :
    ∃ B', stars (rol x D P s b c (.slice none 0 0) []) w B' ∧ Nx B w B' w :=
  step_at (Q := QueA (.slice none 0 0) []) 2 rfl (frs_rol _ _ _ _ _ _ _ _) h fun B1 h1 => ⟨_, que_nil w, Only.refl _ _, fun b hb => hb.elim⟩
theorem src_rdc (D P : Nat) (y : Rs) (vq : Value) (k : Nat) (t : Bool) : IsSrc (rdc D P y vq k t) D y.nm y.pos y.left := ⟨rfl, rfl, rfl, rfl⟩
def RO (x D P : Nat) (m : N3) (t : Bool) : Asn := fun w B => ∃ vq, stars (rol x D P m.s m.b (rdc D P m.x vq (sumN m.x.all) t) vq m.x.queue) w B
theorem fr_ro (x D P : Nat) (m : N3) (t : Bool) : Fr (RO x D P m t) := ⟨fun ⟨vq, h⟩ o d => ⟨vq, (fr_stars (frs_rol _ _ _ _ _ _ _ _)).fr h o d⟩, fun ⟨vq, h⟩ => (fr_stars (frs_rol _ _ _ _ _ _ _ _)).lo h⟩
def RSh (x D P : Nat) (s : St) (b : Bu) (n k : Nat) (t : Bool) : Asn := stars (rol x D P s b (rdshut n k t) (.slice none 0 0) [])
def RP3 (x D P : Nat) (m : N3) : Asn := fun w B => (m.x.opn = true ∧ RO x D P m false w B) ∨ (m.x.opn = false ∧ RSh x D P m.s m.b m.x.told (sumN m.x.all) m.x.whole w B)
theorem rp3_open {x D P : Nat} {m : N3} {w : World} {B : Nat → Prop} (ho : m.x.opn = true) (h : RP3 x D P m w B) : RO x D P m false w B := by
  rcases h with ⟨_, h⟩ | ⟨h1, _⟩
  · exact h
  · rw [ho] at h1; cases h1
theorem rp3_shut {x D P : Nat} {m : N3} {w : World} {B : Nat → Prop} (ho : m.x.opn = false) (h : RP3 x D P m w B) : RSh x D P m.s m.b m.x.told (sumN m.x.all) m.x.whole w B := by
  rcases h with ⟨h1, _⟩ | ⟨_, h⟩
  · rw [ho] at h1; cases h1
  · exact h
end Go.Proofs.YtjplkmmhjfpdaaaGreatDoor

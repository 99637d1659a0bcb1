/- In one text: FsRename, CmPlain. -/
import Derived.Test.YtignfbdgpgidpaaGreatDoorK06
import Derived.Test.YtignfbdgpgidpaaGreatDoorK05
/- The contract of Rename. -/
namespace Go.Proofs.YtignfbdgpgidpaaGreatDoor
open Go.RowKit FsPlain Go.Maps
set_option linter.unusedVariables false
set_option linter.unusedSimpArgs false
set_option maxRecDepth 20000
namespace FsPlain
def St.move (s : St) (a b : List UInt8) (f : F) : St := { s with fs := insF ⟨b, f.data, f.kept⟩ ((s.drop a).drop b).fs }
def renameR (s : St) (a b : List UInt8) : St × Int := if s.call.down = true then (s.call, 5) else match s.get a with | none => (s.call, 2) | some f => (s.call.move a b f, 0)
theorem ins_find2 {x : F} {n' : List UInt8} (h : n' ≠ x.name) : ∀ l : List F, ((insF x l).find? fun f => f.name == n') = l.find? fun f => f.name == n'
  | [] => by
    unfold insF
    rw [List.find?_cons_of_neg (by simpa using fun e => h e.symm)]
  | y :: r => by
    unfold insF
    split
    · rw [List.find?_cons_of_neg (by simpa using fun e => h e.symm)]
    · rw [List.find?_cons, List.find?_cons, ins_find2 h r]
theorem get_ins2 {x : F} : ∀ {l : List F}, (l.find? fun f => f.name == x.name) = none → ((insF x l).find? fun f => f.name == x.name) = some x
  | [], _ => by unfold insF; simp
  | y :: r, h => by
    rw [List.find?_cons] at h
    split at h
    · cases h
    · rename_i hy
      unfold insF
      split
      · simp
      · rw [List.find?_cons, hy, get_ins2 h]
theorem move_get (s : St) (a b : List UInt8) (f : F) : (s.move a b f).get b = some ⟨b, f.data, f.kept⟩ := by
  have h := drop_get (s.drop a) b
  exact get_ins2 (x := ⟨b, f.data, f.kept⟩) h
theorem move_get_ne (s : St) {a b n : List UInt8} (f : F) (hb : n ≠ b) (ha : n ≠ a) : (s.move a b f).get n = s.get n := by
  have h1 : (s.move a b f).get n = ((s.drop a).drop b).get n := ins_find2 (x := ⟨b, f.data, f.kept⟩) hb _
  rw [h1, drop_get_ne _ hb, drop_get_ne _ ha]
theorem move_get_old (s : St) {a b : List UInt8} (f : F) (hab : a ≠ b) : (s.move a b f).get a = none := by
  have h1 : (s.move a b f).get a = ((s.drop a).drop b).get a := ins_find2 (x := ⟨b, f.data, f.kept⟩) hab _
  rw [h1, drop_get_ne _ hab, drop_get]
theorem used_move {s : St} (h : s.ok) {a b : List UInt8} {f : F} (hf : s.get a = some f) : used (s.move a b f).fs ≤ used s.fs ∧ (s.move a b f).fs.length ≤ s.fs.length := by
  obtain ⟨A, C, e, h1, hA, hC, _⟩ := get_split h hf
  have e2 : (s.drop a).fs = A ++ C := by
    show s.fs.filter _ = _
    rw [e, List.filter_append, List.filter_cons]
    have : (!(f.name == a)) = false := by simp [h1]
    rw [if_neg (by rw [this]; decide), List.filter_eq_self.2 fun y hy => by simpa using hA y hy, List.filter_eq_self.2 fun y hy => by simpa using hC y hy]
  have hp := insF_perm ⟨b, f.data, f.kept⟩ ((s.drop a).drop b).fs
  have h3 : used ((s.drop a).drop b).fs ≤ used (s.drop a).fs := used_filter _ _
  have h4 : ((s.drop a).drop b).fs.length ≤ (s.drop a).fs.length := List.length_filter_le _ _
  have h5 := used_perm hp
  have h6 := hp.length_eq
  have h7 := used_split A C f f
  have hs : used s.fs = used (A ++ C) + f.data.length := by
    rw [e]
    unfold used
    simp only [List.map_append, List.map_cons, List.sum_append, List.sum_cons]
    omega
  have hl : s.fs.length = (A ++ C).length + 1 := by rw [e]; simp; omega
  rw [e2] at h3 h4
  constructor
  · show used (insF _ _) ≤ _
    rw [h5, hs]
    unfold used at h3 ⊢
    simp only [List.map_cons, List.sum_cons]
    omega
  · show (insF _ _).length ≤ _
    rw [h6, hl, List.length_cons]
    omega
theorem ok_move {s : St} (h : s.ok) {a b : List UInt8} (hb : b.length ≤ 24) {f : F} (hf : s.get a = some f) : (s.move a b f).ok := by
  obtain ⟨u1, u2⟩ := used_move (b := b) h hf
  have h2 := ok_drop (ok_drop h a) b
  have hp := insF_perm ⟨b, f.data, f.kept⟩ ((s.drop a).drop b).fs
  have hg := drop_get (s.drop a) b
  have hne : ∀ y ∈ ((s.drop a).drop b).fs, y.name ≠ b := fun y hy e => by
    have := List.find?_eq_none.1 hg y hy
    simp [e] at this
  refine ⟨h.r0, h.r1, h.c0, h.a0, h.a1, ?_, ?_, ?_, ?_, ?_⟩
  · have := h.u
    show ((used (s.move a b f).fs : Nat) : Int) ≤ s.room
    omega
  · intro y hy
    rcases List.mem_cons.1 (hp.mem_iff.1 hy) with rfl | hy
    · exact h.k f (get_mem hf)
    · exact h2.k y hy
  · intro y hy
    rcases List.mem_cons.1 (hp.mem_iff.1 hy) with rfl | hy
    · exact hb
    · exact h2.n y hy
  · exact Nat.le_trans u2 h.m
  · show (insF _ _).Pairwise _
    rw [hp.pairwise_iff (fun {a b} (h : a.name ≠ b.name) => h.symm)]
    exact List.pairwise_cons.2 ⟨fun y hy e => hne y hy e.symm, h2.d⟩
end FsPlain
theorem put_filter (L : List Pl) (n : List UInt8) (v : DataW Unit) : (ents (L.filter fun x => !(x.f.name == n))).put (.string n) v = (ents L).put (.string n) v := by
  have key : ((L.filter fun x => !(x.f.name == n)).map fun x => ((.string x.f.name : Lit), (DataW.lit (.int .i64 (x.blk : Int)) : DataW Unit))).filter (fun p => !p.1.sameKey (.string n)) = (L.map fun x => ((.string x.f.name : Lit), (DataW.lit (.int .i64 (x.blk : Int)) : DataW Unit))).filter (fun p => !p.1.sameKey (.string n)) := by
    rw [List.filter_map, List.filter_map, List.filter_filter]
    congr 1
    refine List.filter_congr fun x _ => ?_
    simp only [Function.comp, Lit.sameKey]
    cases h : x.f.name == n
    · simp
    · have e : x.f.name = n := by simpa using h
      simp [e]
  unfold ents DataW.put
  dsimp only
  rw [key]
theorem DiskAt.moved {w w' : World} {p m k : Nat} {s : St} {B : Nat → Prop} {L : List Pl} {x : Pl} {a b : List UInt8} (h : DiskAt w p s B m L) (hf : L.find? (fun y => y.f.name == a) = some x) (ho : Own m k (((ents L).del (.string a)).put (.string b) (.lit (.int .i64 (x.blk : Int)))) w') (g : Only (fun i => i = m) w w') :
    DiskAt w' p (s.move a b x.f) B m (insL ⟨⟨b, x.f.data, x.f.kept⟩, x.blk, x.v⟩ ((L.filter fun y => !(y.f.name == a)).filter fun y => !(y.f.name == b))) := by
  obtain ⟨A, C, e, hx, hA⟩ := find_split hf
  have hap := h.apart
  have hpm : p ≠ m := fun e => by
    simp only [List.nodup_cons, List.mem_cons, not_or] at hap; exact hap.1.1 e
  have hperm := insL_perm ⟨⟨b, x.f.data, x.f.kept⟩, x.blk, x.v⟩ ((L.filter fun y => !(y.f.name == a)).filter fun y => !(y.f.name == b))
  have hfe : L.filter (fun y => !(y.f.name == a)) = A ++ C.filter fun y => !(y.f.name == a) := by
    rw [e, List.filter_append, List.filter_cons]
    have : (!(x.f.name == a)) = false := by simpa using hx
    rw [if_neg (by rw [this]; decide), List.filter_eq_self.2 fun y hy => by rw [hA y hy]; rfl]
  have hs1 : (blocks ((L.filter fun y => !(y.f.name == a)).filter fun y => !(y.f.name == b))).Sublist (blocks (A ++ C)) := by
    refine (blocks_sub _ _).trans ?_
    rw [hfe]
    unfold blocks
    rw [List.flatMap_append, List.flatMap_append]
    exact (List.Sublist.refl _).append (blocks_sub _ C)
  have hbl : (blocks L).Perm (plBlocks x ++ blocks (A ++ C)) := by
    rw [e]
    unfold blocks
    rw [List.flatMap_append, List.flatMap_append, List.flatMap_cons, ← List.append_assoc, ← List.append_assoc]
    exact List.perm_append_comm.append_right _
  have hbp : (blocks (insL ⟨⟨b, x.f.data, x.f.kept⟩, x.blk, x.v⟩ ((L.filter fun y => !(y.f.name == a)).filter fun y => !(y.f.name == b)))).Perm (plBlocks x ++ blocks ((L.filter fun y => !(y.f.name == a)).filter fun y => !(y.f.name == b))) := by
    refine (hperm.flatMap_right _).trans ?_
    show (List.flatMap plBlocks (_ :: _)).Perm _
    rw [List.flatMap_cons]
    exact List.Perm.refl _
  have hsub : (plBlocks x ++ blocks ((L.filter fun y => !(y.f.name == a)).filter fun y => !(y.f.name == b))).Sublist (plBlocks x ++ blocks (A ++ C)) := (List.Sublist.refl _).append hs1
  have hmem : x ∈ L := by rw [e]; simp
  have hin : ∀ i ∈ blocks (insL ⟨⟨b, x.f.data, x.f.kept⟩, x.blk, x.v⟩ ((L.filter fun y => !(y.f.name == a)).filter fun y => !(y.f.name == b))), i ∈ blocks L := fun i hi => hbl.mem_iff.2 (hsub.subset (hbp.mem_iff.1 hi))
  have hstay : ∀ y ∈ L, FileAt w' y := fun y hy => (h.file y hy).only g fun b hb e => by
    have e2 : b = m := e
    subst e2
    simp only [List.nodup_cons] at hap
    exact hap.2.1 (mem_blocks hy hb)
  refine ⟨?_, ?_, ?_, ?_, ?_, ?_, ?_⟩
  · rw [g.block p (lt_of_block h.heap) hpm]; exact h.heap
  · rw [del_ents] at ho
    have e1 := ents_put (x := ⟨⟨b, x.f.data, x.f.kept⟩, x.blk, x.v⟩) (L := (L.filter fun y => !(y.f.name == a)).filter fun y => !(y.f.name == b)) (List.find?_eq_none.2 fun y hy => by
      have := (List.mem_filter.1 hy).2
      simpa using this)
    rw [← put_filter, ← e1] at ho
    have := tight ho
    rwa [ents_size] at this
  · rw [insL_map]
    show insF _ _ = insF _ _
    congr 1
    show ((L.filter _).filter _).map (·.f) = (s.fs.filter _).filter _
    rw [← h.fs, List.filter_map, List.filter_map]
    rfl
  · intro y hy
    rcases List.mem_cons.1 (hperm.mem_iff.1 hy) with rfl | hy
    · exact hstay x hmem
    · exact hstay y (List.mem_filter.1 (List.mem_filter.1 hy).1).1
  · refine List.Perm.nodup (((hbp.cons m).cons p).symm) ?_
    refine List.Nodup.sublist ((hsub.cons_cons m).cons_cons p) ?_
    exact List.Perm.nodup ((hbl.cons m).cons p) hap
  · intro i hi
    refine h.mine i ?_
    simp only [List.mem_cons] at hi ⊢
    rcases hi with hi | hi | hi
    · exact .inl hi
    · exact .inr (.inl hi)
    · exact .inr (.inr (hin i hi))
  · exact fun i hi => Nat.lt_of_lt_of_le (h.low i hi) g.size
set_option maxRecDepth 20000 in
set_option maxHeartbeats 1000000 in
theorem rename_c (p : Nat) (s : St) (B : Nat → Prop) (a b : ByteArray) (w : World) (h : Disk w p s B) (ha : a.size ≤ 1000) (hma : rightB a.data.toList = true) (hb : b.size ≤ 1000) (hmb : rightB b.data.toList = true) (h1 : s.calls ≤ 1000000000000) :
    Calls Tryz.prog 96 #[.pointer (some ⟨p, 0, none⟩), .string a, .string b] w (Tells w p (renameR s a.data.toList b.data.toList).1 B (.int .i64 (renameR s a.data.toList b.data.toList).2)) := by
  obtain ⟨hs, m, L, hD⟩ := h
  have R := fun u => right_c b (by unfold maxLen; omega) u
  rw [hmb] at R
  have C := find_yes p m s B L a w hs hD (by unfold maxLen; omega) hma h1
  have HS := Lib.hid hs
  have hb24 : b.data.toList.length ≤ 24 := by
    unfold rightB at hmb; simp only [Bool.and_eq_true, decide_eq_true_eq] at hmb; exact hmb.2.2
  have HB24 := Lib.hid hb24
  have hkey := WideMaps.keyOf_string_mk (P := Tryz.prog) (k := 9) Tryz.underlying9 (show a.size ≤ maxLen by unfold maxLen; omega)
  clear hD hma hmb hs hb24
  go_enter Tryz.func96, Tryz.ntmps96
  go_wp2_with fail
  refine (R _).mono ?_; rintro e w1 ⟨rfl, rfl⟩
  go_wp2_with fail
  refine C.mono ?_; rintro e w2 ⟨hD, hO, hcase⟩
  have HN := Lib.hid (next_called HS.out hD hO)
  have HD := Lib.hid hD
  have HO := Lib.hid hO
  clear hD hO R
  rcases hcase with ⟨hd, rfl⟩ | ⟨hd, hg, rfl⟩ | ⟨hd, x, hg, hf, rfl⟩
  · have HR : Hid (renameR s a.data.toList b.data.toList = (s.call, 5)) := Lib.hid (by simp [renameR, hd])
    clear hd hkey
    go_wp2_with fail
    go_ret
    exact ⟨by rw [HR.out] <;> rfl, by rw [HR.out]; exact HN.out⟩
  · have HR : Hid (renameR s a.data.toList b.data.toList = (s.call, 2)) := Lib.hid (by simp [renameR, hd, hg])
    clear hd hg hkey
    go_wp2_with fail
    go_ret
    exact ⟨by rw [HR.out] <;> rfl, by rw [HR.out]; exact HN.out⟩
  · have HR : Hid (renameR s a.data.toList b.data.toList = (s.call.move a.data.toList b.data.toList x.f, 0)) := Lib.hid (by simp [renameR, hd, hg])
    have HG := Lib.hid (show s.call.get a.data.toList = some x.f from hg)
    have HF := Lib.hid hf
    have c1 : w2.cell? ⟨p, 1, none⟩ = some (.map (some m)) := by rw [cells_at HD.out.heap]; rfl
    have hown := HD.out.own
    have HW := Lib.hid hown
    have HK := Lib.hid hkey
    have hLl : L.length ≤ 200 := by
      have h3 : L.length = s.fs.length := by
        have h2 := congrArg List.length HD.out.fs
        rwa [List.length_map] at h2
      have h2 := HS.out.m
      omega
    have HLl := Lib.hid hLl
    clear hLl
    have hpm : p ≠ m := fun e => by
      have hap := HD.out.apart
      simp only [List.nodup_cons, List.mem_cons, not_or] at hap; exact hap.1.1 e
    have HP := Lib.hid hpm
    clear hd hg hf hown hkey hpm
    go_wp2_with (first
      | (at_delete; refine wpList_delete_own _ rfl _ _ 83 9 rfl 93 lawS Tryz.underlying83 ptrElem m L.length (ents L) rfl HW.out _ _ rfl HK.out ?_; intro w3 ho3 ht3; have O3 := Lib.hid ho3; have T3 := Lib.hid ht3; clear ho3 ht3)
      | fail)
    have CP := fun (k : Nat) (hk : k ≤ 1000000) (ho : Own m k ((ents L).del (.string a.data.toList)) w3) => place_c p m x.blk k s.call ((ents L).del (.string a.data.toList)) b w3 (by rw [(turned_only T3.out).block p (lt_of_block HD.out.heap) HP.out]; exact HD.out.heap) HP.out ho hb hk
    have CP1 := Lib.hid (CP _ (by have := HLl.out; omega) O3.out)
    clear CP
    go_wp2_with fail
    refine CP1.out.mono ?_; rintro e w4 ⟨rfl, ho4, g4⟩
    have O4 := Lib.hid ho4
    have G4 := Lib.hid ((turned_only T3.out).trans g4)
    clear ho4 g4 CP1
    go_wp2_with fail
    go_ret
    refine ⟨by rw [HR.out] <;> rfl, ?_⟩
    rw [HR.out]
    have hD4 := HD.out.moved HF.out O4.out G4.out
    refine ⟨B, ⟨ok_move (ok_call HS.out) HB24.out HG.out, m, _, hD4⟩, ?_, fun i hi => .inl hi⟩
    exact (HO.out.mono (fun i e => by subst e; exact HD.out.mine _ (by simp))).trans (G4.out.mono fun i e => by subst e; exact HD.out.mine _ (by simp))
theorem d_rename (p : Nat) (s : St) (a b : ByteArray) (ha : a.size ≤ 1000) (hma : rightB a.data.toList = true) (hb : b.size ≤ 1000) (hmb : rightB b.data.toList = true) (h1 : s.calls ≤ 1000000000000) (w : World) (B : Nat → Prop) (h : DiskA p s w B) :
    Calls Tryz.prog 96 #[.pointer (some ⟨p, 0, none⟩), .string a, .string b] w (Does w B (DiskA p (renameR s a.data.toList b.data.toList).1) (.int .i64 (renameR s a.data.toList b.data.toList).2)) :=
  (rename_c p s B a b w h ha hma hb hmb h1).mono fun e w' k => tells_does k
end Go.Proofs.YtignfbdgpgidpaaGreatDoor
/- Plain facts of commit: what Save and Load make of a disk; what a fall leaves of the manifest's file. -/
namespace Go.Proofs.YtignfbdgpgidpaaGreatDoor
open Go.RowKit FsPlain
set_option linter.unusedVariables false
set_option linter.unusedSimpArgs false
namespace CmPlain
def nameL : List UInt8 := [109, 97, 110, 105, 102, 101, 115, 116]
def wayL : List UInt8 := [109, 97, 110, 105, 102, 101, 115, 116, 46, 110, 101, 119]
theorem way_ne : nameL ≠ wayL := by decide
theorem name_right : rightB nameL = true := by decide
theorem way_right : rightB wayL = true := by decide
def thenR (a : St × Int) (f : St → St × Int) : St × Int := if a.2 = 0 then f a.1 else a
def goneR (s : St) : St × Int := if (sizeR s wayL).2 = 0 then removeR s.call wayL else if (sizeR s wayL).2 = 2 then (s.call, 0) else (s.call, (sizeR s wayL).2)
def saveS (s : St) (x : List UInt8) : St × Int := thenR (thenR (thenR (thenR (goneR s) fun t => createR t wayL) fun t => appendR t wayL x) fun t => syncR t wayL) fun t => renameR t wayL nameL
def loadT (s : St) : St := if (sizeR s nameL).2 = 0 then s.call.call else s.call
def loadE (s : St) : Int × Option (List UInt8) := if (sizeR s nameL).2 = 2 then (0, none) else if (sizeR s nameL).2 ≠ 0 then ((sizeR s nameL).2, none) else
  if (readR s.call nameL 0 (sizeR s nameL).1.toNat).2 ≠ 0 then ((readR s.call nameL 0 (sizeR s nameL).1.toNat).2, none) else (0, some (readR s.call nameL 0 (sizeR s nameL).1.toNat).1)
theorem thenR_no {a : St × Int} {f : St → St × Int} (h : a.2 ≠ 0) : thenR a f = a := if_neg h
theorem thenR_yes {a : St × Int} {f : St → St × Int} (h : a.2 = 0) : thenR a f = f a.1 := if_pos h
theorem upd_ne {s : St} {n k : List UInt8} {g : F → F} (h : k ≠ n) (hg : ∀ f, (g f).name = f.name) : (s.upd n g).get k = s.get k := by
  have : ∀ l : List F, (l.map fun f => if f.name = n then g f else f).find? (fun f => f.name == k) = l.find? fun f => f.name == k := by
    intro l
    induction l with
    | nil => rfl
    | cons y r ih =>
      rw [List.map_cons, List.find?_cons, List.find?_cons, ih]
      by_cases hy : y.name = n
      · rw [if_pos hy, hg y]
        have e : (y.name == k) = false := by rw [hy]; simpa using fun e => h e.symm
        rw [e]
      · rw [if_neg hy]
  exact this s.fs
theorem upd_eq {s : St} {n : List UInt8} {g : F → F} {f : F} (h : s.get n = some f) (hg : ∀ f, (g f).name = f.name) : (s.upd n g).get n = some (g f) := by
  have : ∀ l : List F, l.find? (fun f => f.name == n) = some f → (l.map fun f => if f.name = n then g f else f).find? (fun f => f.name == n) = some (g f) := by
    intro l
    induction l with
    | nil => intro h; cases h
    | cons y r ih =>
      intro h
      rw [List.map_cons, List.find?_cons]
      rw [List.find?_cons] at h
      by_cases hy : y.name = n
      · have e : (y.name == n) = true := by simpa using hy
        rw [e] at h
        rw [if_pos hy, hg y, e]
        cases h
        rfl
      · have e : (y.name == n) = false := by simpa using hy
        rw [e] at h
        rw [if_neg hy, e]
        exact ih h
  exact this s.fs h
theorem create_ne {s : St} {n k : List UInt8} (h : k ≠ n) : (createR s n).1.get k = s.get k := by
  unfold createR
  split
  · rfl
  · split
    · rfl
    · split
      · rfl
      · exact ins_find2 (x := ⟨n, [], 0⟩) h s.fs
theorem create_eq {s : St} {n : List UInt8} (h : (createR s n).2 = 0) : (createR s n).1.get n = some ⟨n, [], 0⟩ := by
  unfold createR at h ⊢
  split
  · next k => rw [if_pos k] at h; cases h
  · next k =>
    rw [if_neg k] at h
    split
    · next f hf => rw [hf] at h; cases h
    · next hf =>
      rw [hf] at h
      dsimp only at h
      split
      · next l => rw [if_pos l] at h; cases h
      · exact get_ins2 (x := ⟨n, [], 0⟩) hf
theorem append_ne {s : St} {n k t : List UInt8} (h : k ≠ n) : (appendR s n t).1.get k = s.get k := by
  unfold appendR
  split
  · rfl
  · split
    · rfl
    · split
      · rfl
      · exact upd_ne (s := s.call) h fun f => rfl
theorem append_eq {s : St} {n t : List UInt8} {f : F} (hf : s.get n = some f) (h : (appendR s n t).2 = 0) : (appendR s n t).1.get n = some { f with data := f.data ++ t } := by
  unfold appendR at h ⊢
  rw [hf] at h ⊢
  split
  · next k => rw [if_pos k] at h; cases h
  · next k =>
    rw [if_neg k] at h
    dsimp only at h ⊢
    split
    · next l => rw [if_pos l] at h; cases h
    · exact upd_eq (s := s.call) hf fun f => rfl
theorem sync_ne {s : St} {n k : List UInt8} (h : k ≠ n) : (syncR s n).1.get k = s.get k := by
  unfold syncR
  split
  · rfl
  · split
    · rfl
    · exact upd_ne (s := s.call) h fun f => rfl
theorem sync_eq {s : St} {n : List UInt8} {f : F} (hf : s.get n = some f) (h : (syncR s n).2 = 0) : (syncR s n).1.get n = some { f with kept := f.data.length } := by
  unfold syncR at h ⊢
  rw [hf] at h ⊢
  split
  · next k => rw [if_pos k] at h; cases h
  · exact upd_eq (s := s.call) hf fun f => rfl
def Keeps (s : St) (o : Option (List UInt8)) : Prop := s.get nameL = o.map fun x => ⟨nameL, x, x.length⟩
theorem calls_create (s : St) (n : List UInt8) : (createR s n).1.calls = s.calls + 1 := by
  unfold createR
  split
  · rfl
  · split
    · rfl
    · split <;> rfl
theorem calls_append (s : St) (n t : List UInt8) : (appendR s n t).1.calls = s.calls + 1 := by
  unfold appendR
  split
  · rfl
  · split
    · rfl
    · split <;> rfl
theorem calls_sync (s : St) (n : List UInt8) : (syncR s n).1.calls = s.calls + 1 := by
  unfold syncR
  split
  · rfl
  · split <;> rfl
theorem calls_remove (s : St) (n : List UInt8) : (removeR s n).1.calls = s.calls + 1 := by
  unfold removeR
  split
  · rfl
  · split <;> rfl
theorem calls_rename (s : St) (a b : List UInt8) : (renameR s a b).1.calls = s.calls + 1 := by
  unfold renameR
  split
  · rfl
  · split <;> rfl
end CmPlain
end Go.Proofs.YtignfbdgpgidpaaGreatDoor

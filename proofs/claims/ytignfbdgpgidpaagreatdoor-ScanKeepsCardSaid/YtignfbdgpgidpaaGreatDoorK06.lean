/- In one text: Sep, FsA0, FsRemove. -/
import Derived.Test.YtignfbdgpgidpaaGreatDoorK01
import Derived.Test.YtignfbdgpgidpaaGreatDoorK05
import Derived.Test.YtignfbdgpgidpaaGreatDoorK04
/- What holds of a world in some of its blocks, and of two parts that lie apart: a call that turns the one part leaves the other. -/
namespace Go.Proofs.YtignfbdgpgidpaaGreatDoor
open Go.RowKit
set_option linter.unusedVariables false
set_option linter.unusedSimpArgs false
set_option maxRecDepth 20000
abbrev Asn := World → (Nat → Prop) → Prop
structure Fr (P : Asn) : Prop where
  fr : ∀ {w w' : World} {B C : Nat → Prop}, P w B → Only C w w' → (∀ b, B b → ¬ C b) → P w' B
  lo : ∀ {w : World} {B : Nat → Prop}, P w B → ∀ b, B b → b < w.heap.size
structure Nx (B : Nat → Prop) (w : World) (B' : Nat → Prop) (w' : World) : Prop where
  only : Only B w w'
  new : ∀ b, B' b → B b ∨ w.heap.size ≤ b
theorem Nx.refl (B : Nat → Prop) (w : World) : Nx B w B w := ⟨Only.refl _ _, fun _ h => .inl h⟩
theorem Nx.trans {B B1 B2 : Nat → Prop} {w w1 w2 : World} (h : Nx B w B1 w1) (k : Nx B1 w1 B2 w2) : Nx B w B2 w2 :=
  ⟨h.only.andThen k.only h.new, fun b hb => by
    rcases k.new b hb with h1 | h1
    · exact h.new b h1
    · exact .inr (Nat.le_trans h.only.size h1)⟩
theorem Nx.gr {B : Nat → Prop} {w w' : World} (g : Gr w w') : Nx B w B w' := ⟨Only.ofGr g, fun _ h => .inl h⟩
theorem Nx.of {B C : Nat → Prop} {w w' : World} (g : Only C w w') (hC : ∀ b, C b → B b) : Nx B w B w' := ⟨g.mono hC, fun _ h => .inl h⟩
def star (P Q : Asn) : Asn := fun w B => ∃ B1 B2, P w B1 ∧ Q w B2 ∧ (∀ b, B1 b → ¬ B2 b) ∧ ∀ b, B b ↔ B1 b ∨ B2 b
theorem Fr.star {P Q : Asn} (h : Fr P) (k : Fr Q) : Fr (star P Q) where
  fr := fun ⟨B1, B2, p, q, a, e⟩ o d => ⟨B1, B2, h.fr p o fun b hb => d b ((e b).2 (.inl hb)), k.fr q o fun b hb => d b ((e b).2 (.inr hb)), a, e⟩
  lo := fun ⟨B1, B2, p, q, a, e⟩ b hb => by
    rcases (e b).1 hb with h1 | h1
    · exact h.lo p b h1
    · exact k.lo q b h1
theorem star_swap {P Q : Asn} {w : World} {B : Nat → Prop} (h : star P Q w B) : star Q P w B := by
  obtain ⟨B1, B2, p, q, a, e⟩ := h
  exact ⟨B2, B1, q, p, fun b h2 h1 => a b h1 h2, fun b => (e b).trans Or.comm⟩
theorem star_left {P Q R : Asn} {w : World} {B : Nat → Prop} (h : star (star P Q) R w B) : star P (star Q R) w B := by
  obtain ⟨B1, B2, ⟨C1, C2, p, q, a1, e1⟩, r, a, e⟩ := h
  refine ⟨C1, fun b => C2 b ∨ B2 b, p, ⟨C2, B2, q, r, fun b h2 => a b ((e1 b).2 (.inr h2)), fun _ => Iff.rfl⟩, fun b h1 h2 => ?_, fun b => ?_⟩
  · rcases h2 with h2 | h2
    · exact a1 b h1 h2
    · exact a b ((e1 b).2 (.inl h1)) h2
  · rw [e b, e1 b, or_assoc]
theorem star_two {P Q R : Asn} {w : World} {B : Nat → Prop} (h : star P (star Q R) w B) : star Q (star P R) w B := by
  obtain ⟨B1, B2, p, ⟨C1, C2, q, r, a1, e1⟩, a, e⟩ := h
  refine ⟨C1, fun b => B1 b ∨ C2 b, q, ⟨B1, C2, p, r, fun b h1 h2 => a b h1 ((e1 b).2 (.inr h2)), fun _ => Iff.rfl⟩, fun b h1 h2 => ?_, fun b => ?_⟩
  · rcases h2 with h2 | h2
    · exact a b h2 ((e1 b).2 (.inl h1))
    · exact a1 b h1 h2
  · rw [e b, e1 b]; exact ⟨fun h => by rcases h with h | h | h <;> simp [h], fun h => by rcases h with h | h | h <;> simp [h]⟩
def Does (w : World) (B : Nat → Prop) (Q : Asn) (v : Value) (e : Ending) (w' : World) : Prop := e = .returned v ∧ ∃ B', Q w' B' ∧ Nx B w B' w'
theorem star_of {Q R : Asn} (hR : Fr R) {w w' : World} {B B1 B2 B' : Nat → Prop} (r : R w B2) (a : ∀ b, B1 b → ¬ B2 b) (e : ∀ b, B b ↔ B1 b ∨ B2 b) (q : Q w' B') (n : Nx B1 w B' w') : ∃ B', star Q R w' B' ∧ Nx B w B' w' := by
  refine ⟨fun b => B' b ∨ B2 b, ⟨B', B2, q, hR.fr r n.only fun b h2 h1 => a b h1 h2, fun b h1 h2 => ?_, fun _ => Iff.rfl⟩, n.only.mono fun b h1 => (e b).2 (.inl h1), fun b hb => ?_⟩
  · rcases n.new b h1 with h3 | h3
    · exact a b h3 h2
    · have := hR.lo r b h2; omega
  · rcases hb with hb | hb
    · rcases n.new b hb with h3 | h3
      · exact .inl ((e b).2 (.inl h3))
      · exact .inr h3
    · exact .inl ((e b).2 (.inr hb))
theorem star_step {P Q R : Asn} (hR : Fr R) {w w' : World} {B : Nat → Prop} (h : star P R w B) (k : ∀ B1, P w B1 → ∃ B', Q w' B' ∧ Nx B1 w B' w') : ∃ B', star Q R w' B' ∧ Nx B w B' w' := by
  obtain ⟨B1, B2, p, r, a, e⟩ := h
  obtain ⟨B', q, n⟩ := k B1 p
  exact star_of hR r a e q n
theorem star_gr {P : Asn} (hP : Fr P) {w w' : World} {B : Nat → Prop} (h : P w B) (g : Gr w w') : P w' B := hP.fr h (Only.ofGr (B := fun _ => False) g) (fun _ _ e => e)
def Blk (p : Nat) (c : Array Value) (T : TypeId) : Asn := fun w B => w.heap[p]? = some (.cells c T (0, 0)) ∧ ∀ b, B b ↔ b = p
theorem fr_blk (p : Nat) (c : Array Value) (T : TypeId) : Fr (Blk p c T) where
  fr := fun ⟨h, e⟩ o d => ⟨by rw [o.block p (lt_of_block h) (d p ((e p).2 rfl))]; exact h, e⟩
  lo := fun ⟨h, e⟩ b hb => by rw [(e b).1 hb]; exact lt_of_block h
theorem Does.imp {w w' : World} {B : Nat → Prop} {Q Q' : Asn} {v : Value} {e : Ending} (h : Does w B Q v e w') (k : ∀ B', Q w' B' → Q' w' B') : Does w B Q' v e w' := by
  obtain ⟨he, B', q, n⟩ := h
  exact ⟨he, B', k _ q, n⟩
def emp : Asn := fun _ B => ∀ b, ¬ B b
theorem fr_emp : Fr emp := ⟨fun h _ _ => h, fun h b hb => absurd hb (h b)⟩
def stars : List Asn → Asn
  | [] => emp
  | P :: L => star P (stars L)
def Frs : List Asn → Prop
  | [] => True
  | P :: L => Fr P ∧ Frs L
theorem fr_stars : ∀ {L : List Asn}, Frs L → Fr (stars L)
  | [], _ => fr_emp
  | _ :: _, h => h.1.star (fr_stars h.2)
theorem step_at {w w' : World} {P Q : Asn} : ∀ {L : List Asn} (i : Nat) {B : Nat → Prop}, L[i]? = some P → Frs L → stars L w B → (∀ B1, P w B1 → ∃ B', Q w' B' ∧ Nx B1 w B' w') → ∃ B', stars (L.set i Q) w' B' ∧ Nx B w B' w'
  | [], i, B, hi, _, _, _ => by simp at hi
  | A :: L, 0, B, hi, hF, h, k => by
    obtain rfl : A = P := by simpa using hi
    exact star_step (fr_stars hF.2) h k
  | A :: L, i + 1, B, hi, hF, h, k => by
    obtain ⟨B', q, n⟩ := star_step (P := stars L) (Q := stars (L.set i Q)) hF.1 (star_swap h) fun B1 h1 => step_at i (by simpa using hi) hF.2 h1 k
    exact ⟨B', star_swap q, n⟩
theorem part_at {w : World} {P : Asn} : ∀ {L : List Asn} (i : Nat) {B : Nat → Prop}, L[i]? = some P → stars L w B → ∃ B1, P w B1 ∧ ∀ b, B1 b → B b
  | [], i, B, hi, _ => by simp at hi
  | A :: L, 0, B, hi, h => by
    obtain rfl : A = P := by simpa using hi
    obtain ⟨B1, B2, p, _, _, e⟩ := h
    exact ⟨B1, p, fun b hb => (e b).2 (.inl hb)⟩
  | A :: L, i + 1, B, hi, h => by
    obtain ⟨B1, B2, _, q, _, e⟩ := h
    obtain ⟨B3, p, hB⟩ := part_at i (by simpa using hi) q
    exact ⟨B3, p, fun b hb => (e b).2 (.inr (hB b hb))⟩
theorem stars_gr {L : List Asn} (hF : Frs L) {w w' : World} {B : Nat → Prop} (h : stars L w B) (g : Gr w w') : stars L w' B := star_gr (fr_stars hF) h g
theorem part_new {w w' : World} {P : Asn} {L : List Asn} {B B' : Nat → Prop} (hL : Frs L) (h : stars L w B) (g : Gr w w') (p : P w' B') (hn : ∀ b, B' b → w.heap.size ≤ b) : ∃ B2, stars (P :: L) w' B2 ∧ Nx B w B2 w' :=
  ⟨fun b => B' b ∨ B b, ⟨B', B, p, stars_gr hL h g, fun b h1 h2 => by have := hn b h1; have := (fr_stars hL).lo h b h2; omega, fun _ => Iff.rfl⟩, Only.ofGr g, fun b hb => hb.elim (fun h1 => .inr (hn b h1)) .inl⟩
theorem stars_perm {L M : List Asn} (h : L.Perm M) : ∀ {w : World} {B : Nat → Prop}, stars L w B → stars M w B := by
  induction h with
  | nil => exact fun h => h
  | cons P _ ih => exact fun ⟨B1, B2, p, q, a, e⟩ => ⟨B1, B2, p, ih q, a, e⟩
  | swap P Q L => exact fun h => star_two h
  | trans _ _ h1 h2 => exact fun h => h2 (h1 h)
theorem nx_gr {w w' : World} {B : Nat → Prop} (h : Nx (fun _ => False) w B w') : Gr w w' := h.only.toBelow (Nat.le_refl _) fun _ h => h.elim
end Go.Proofs.YtignfbdgpgidpaaGreatDoor
/- The program's disk as a part of a world: what Create, Append, Sync, Size, Read leave. -/
namespace Go.Proofs.YtignfbdgpgidpaaGreatDoor
open Go.RowKit Go.Maps FsPlain
set_option linter.unusedVariables false
set_option linter.unusedSimpArgs false
set_option maxRecDepth 20000
def DiskA (p : Nat) (s : St) : Asn := fun w B => Disk w p s B
theorem fr_disk (p : Nat) (s : St) : Fr (DiskA p s) := ⟨fun h o d => Disk.only h o d, fun h => Disk.low h⟩
theorem tells_does {w w' : World} {p : Nat} {s : St} {B : Nat → Prop} {v : Value} {e : Ending} (h : Tells w p s B v e w') : Does w B (DiskA p s) v e w' := by
  obtain ⟨he, B', d, o, f⟩ := h
  exact ⟨he, B', d, o, f⟩
theorem d_create (p : Nat) (s : St) (n : ByteArray) (hn : n.size ≤ 1000) (hm : rightB n.data.toList = true) (h1 : s.calls ≤ 1000000000000) (w : World) (B : Nat → Prop) (h : DiskA p s w B) :
    Calls Tryz.prog 19 #[.pointer (some ⟨p, 0, none⟩), .string n] w (Does w B (DiskA p (createR s n.data.toList).1) (.int .i64 (createR s n.data.toList).2)) :=
  (create_c p s B n w h (by unfold maxLen; omega) hm h1).mono fun _ _ => tells_does
theorem d_append (p : Nat) (s : St) (n t : ByteArray) (hn : n.size ≤ 1000) (hm : rightB n.data.toList = true) (h1 : s.calls ≤ 1000000000000) (ht : t.size ≤ 1000000000) (w : World) (B : Nat → Prop) (h : DiskA p s w B) :
    Calls Tryz.prog 20 #[.pointer (some ⟨p, 0, none⟩), .string n, .string t] w (Does w B (DiskA p (appendR s n.data.toList t.data.toList).1) (.int .i64 (appendR s n.data.toList t.data.toList).2)) :=
  (append_c p s B n t w h (by unfold maxLen; omega) hm h1 (by omega)).mono fun _ _ => tells_does
theorem d_sync (p : Nat) (s : St) (n : ByteArray) (hn : n.size ≤ 1000) (hm : rightB n.data.toList = true) (h1 : s.calls ≤ 1000000000000) (w : World) (B : Nat → Prop) (h : DiskA p s w B) :
    Calls Tryz.prog 94 #[.pointer (some ⟨p, 0, none⟩), .string n] w (Does w B (DiskA p (syncR s n.data.toList).1) (.int .i64 (syncR s n.data.toList).2)) :=
  (sync_c p s B n w h (by unfold maxLen; omega) hm h1).mono fun _ _ => tells_does
theorem d_size (p : Nat) (s : St) (n : ByteArray) (hn : n.size ≤ 1000) (hm : rightB n.data.toList = true) (h1 : s.calls ≤ 1000000000000) (w : World) (B : Nat → Prop) (h : DiskA p s w B) :
    Calls Tryz.prog 117 #[.pointer (some ⟨p, 0, none⟩), .string n] w (Does w B (DiskA p s.call) (.tuple #[.int .i64 (sizeR s n.data.toList).1, .int .i64 (sizeR s n.data.toList).2])) :=
  (size_c p s B n w h (by unfold maxLen; omega) hm h1).mono fun _ _ => tells_does
theorem d_read (p : Nat) (s : St) (n : ByteArray) (i k : Nat) (hn : n.size ≤ 1000) (hm : rightB n.data.toList = true) (h1 : s.calls ≤ 1000000000000) (hi : i ≤ 1000000000) (hk : k ≤ 1000000000) (w : World) (B : Nat → Prop) (h : DiskA p s w B) :
    Calls Tryz.prog 118 #[.pointer (some ⟨p, 0, none⟩), .string n, .int .i64 (i : Int), .int .i64 (k : Int)] w (Does w B (DiskA p s.call) (.tuple #[.string (bs (readR s n.data.toList i k).1), .int .i64 (readR s n.data.toList i k).2])) :=
  (read_c p s B n i k w h (by unfold maxLen; omega) hm h1 (by omega) (by omega)).mono fun _ _ => tells_does
end Go.Proofs.YtignfbdgpgidpaaGreatDoor
/- The contract of Remove. -/
namespace Go.Proofs.YtignfbdgpgidpaaGreatDoor
open Go.RowKit FsPlain Go.Maps
set_option linter.unusedVariables false
set_option linter.unusedSimpArgs false
set_option maxRecDepth 20000
namespace FsPlain
def St.drop (s : St) (n : List UInt8) : St := { s with fs := s.fs.filter fun f => !(f.name == n) }
def removeR (s : St) (n : List UInt8) : St × Int := if s.call.down = true then (s.call, 5) else match s.get n with | none => (s.call, 2) | some _ => (s.call.drop n, 0)
theorem used_filter (p : F → Bool) : ∀ l : List F, used (l.filter p) ≤ used l
  | [] => Nat.le_refl _
  | x :: l => by
    have ih := used_filter p l
    unfold used at ih ⊢
    rw [List.filter_cons]
    split
    · simp only [List.map_cons, List.sum_cons]; omega
    · simp only [List.map_cons, List.sum_cons]; omega
theorem ok_drop {s : St} (h : s.ok) (n : List UInt8) : (s.drop n).ok :=
  ⟨h.r0, h.r1, h.c0, h.a0, h.a1, by
    have h1 := used_filter (fun f => !(f.name == n)) s.fs
    have h2 := h.u
    show ((used (s.fs.filter _) : Nat) : Int) ≤ s.room
    omega, fun f hf => h.k f (List.mem_filter.1 hf).1, fun f hf => h.n f (List.mem_filter.1 hf).1, Nat.le_trans (List.length_filter_le _ _) h.m, h.d.filter _⟩
theorem drop_get (s : St) (n : List UInt8) : (s.drop n).get n = none := by
  unfold St.get St.drop
  rw [List.find?_filter]
  refine List.find?_eq_none.2 fun f _ => ?_
  cases h : f.name == n <;> simp
theorem drop_get_ne (s : St) {n n' : List UInt8} (h : n' ≠ n) : (s.drop n).get n' = s.get n' := by
  unfold St.get St.drop
  rw [List.find?_filter]
  congr 1
  funext f
  cases h2 : f.name == n'
  · simp
  · have e : f.name = n' := by simpa using h2
    have : (f.name == n) = false := by simp [e, h]
    simp [this]
end FsPlain
theorem del_ents (L : List Pl) (n : List UInt8) : (ents L).del (.string n) = ents (L.filter fun x => !(x.f.name == n)) := by
  unfold ents DataW.del
  simp only [DataW.map.injEq]
  rw [List.filter_map]
  rfl
theorem turned_only {w w' : World} {b : Nat} (h : w.mapTurned w' b) : Only (fun i => i = b) w w' := by
  obtain ⟨es, clock, es', clock', hb, rfl⟩ := h
  refine ⟨rfl, rfl, rfl, by simp [ChangeMaps.setBlock], fun k hk hne => ?_⟩
  show (w.heap.setIfInBounds b _)[k]? = _
  rw [Array.getElem?_setIfInBounds, if_neg (fun e => hne e.symm)]
theorem blocks_sub (p : Pl → Bool) : ∀ L : List Pl, (blocks (L.filter p)).Sublist (blocks L)
  | [] => List.Sublist.refl _
  | x :: L => by
    have ih := blocks_sub p L
    rw [List.filter_cons]
    unfold blocks at ih ⊢
    split
    · simp only [List.flatMap_cons]
      exact (List.Sublist.refl _).append ih
    · simp only [List.flatMap_cons]
      exact ih.trans (List.sublist_append_right _ _)
theorem DiskAt.dropped {w w' : World} {p m : Nat} {s : St} {B : Nat → Prop} {L : List Pl} {k : Nat} (h : DiskAt w p s B m L) (n : List UInt8) (ho : w'.ownsMap Tryz.prog 9 ptrElem m k ((ents L).del (.string n))) (g : Only (fun i => i = m) w w') : DiskAt w' p (s.drop n) B m (L.filter fun x => !(x.f.name == n)) := by
  have hap := h.apart
  have hpm : p ≠ m := fun e => by
    simp only [List.nodup_cons, List.mem_cons, not_or] at hap; exact hap.1.1 e
  have hsub : (blocks (L.filter fun x => !(x.f.name == n))).Sublist (blocks L) := blocks_sub _ L
  refine ⟨?_, ?_, ?_, ?_, ?_, ?_, ?_⟩
  · rw [g.block p (lt_of_block h.heap) hpm]; exact h.heap
  · have := tight ho
    rw [del_ents, ents_size] at this
    exact this
  · show (L.filter _).map (·.f) = s.fs.filter _
    rw [← h.fs, List.filter_map]
    rfl
  · intro x hx
    have hx := (List.mem_filter.1 hx).1
    exact (h.file x hx).only g fun b hb e => by
      have e2 : b = m := e
      subst e2
      simp only [List.nodup_cons] at hap
      exact hap.2.1 (mem_blocks hx hb)
  · exact hap.sublist ((hsub.cons_cons m).cons_cons p)
  · intro b hb
    refine h.mine b ?_
    exact ((hsub.cons_cons m).cons_cons p).subset hb
  · exact fun b hb => Nat.lt_of_lt_of_le (h.low b hb) g.size
set_option maxRecDepth 20000 in
set_option maxHeartbeats 1000000 in
theorem remove_c (p : Nat) (s : St) (B : Nat → Prop) (n : ByteArray) (w : World) (h : Disk w p s B) (hn : n.size ≤ 1000) (hm : rightB n.data.toList = true) (h1 : s.calls ≤ 1000000000000) :
    Calls Tryz.prog 44 #[.pointer (some ⟨p, 0, none⟩), .string n] w (Tells w p (removeR s n.data.toList).1 B (.int .i64 (removeR s n.data.toList).2)) := by
  obtain ⟨hs, m, L, hD⟩ := h
  have C := find_yes p m s B L n w hs hD (by unfold maxLen; omega) hm h1
  have HS := Lib.hid hs
  have hkey := WideMaps.keyOf_string_mk (P := Tryz.prog) (k := 9) Tryz.underlying9 (show n.size ≤ maxLen by unfold maxLen; omega)
  clear hD hm hs
  go_enter Tryz.func44, Tryz.ntmps44
  go_wp2_with fail
  refine C.mono ?_; rintro e w2 ⟨hD, hO, hcase⟩
  have HN := Lib.hid (next_called HS.out hD hO)
  have HD := Lib.hid hD
  have HO := Lib.hid hO
  clear hD hO
  rcases hcase with ⟨hd, rfl⟩ | ⟨hd, hg, rfl⟩ | ⟨hd, x, hg, hf, rfl⟩
  · have HR : Hid (removeR s n.data.toList = (s.call, 5)) := Lib.hid (by simp [removeR, hd])
    clear hd hkey
    go_wp2_with fail
    go_ret
    exact ⟨by rw [HR.out] <;> rfl, by rw [HR.out]; exact HN.out⟩
  · have HR : Hid (removeR s n.data.toList = (s.call, 2)) := Lib.hid (by simp [removeR, hd, hg])
    clear hd hg hkey
    go_wp2_with fail
    go_ret
    exact ⟨by rw [HR.out] <;> rfl, by rw [HR.out]; exact HN.out⟩
  · have HR : Hid (removeR s n.data.toList = (s.call.drop n.data.toList, 0)) := Lib.hid (by simp [removeR, hd, hg])
    have c1 : w2.cell? ⟨p, 1, none⟩ = some (.map (some m)) := by rw [cells_at HD.out.heap]; rfl
    have hown := HD.out.own
    have HW := Lib.hid hown
    have HK := Lib.hid hkey
    clear hd hg hf hown hkey
    go_wp2_with (at_delete; refine wpList_delete_own _ rfl _ _ 83 9 rfl 93 lawS Tryz.underlying83 ptrElem m L.length (ents L) rfl HW.out _ _ rfl HK.out ?_; intro w3 ho3 ht3; have O3 := Lib.hid ho3; have T3 := Lib.hid ht3; clear ho3 ht3)
    go_ret
    refine ⟨by rw [HR.out] <;> rfl, ?_⟩
    rw [HR.out]
    have hD3 := HD.out.dropped n.data.toList O3.out (turned_only T3.out)
    refine ⟨B, ⟨ok_drop (ok_call HS.out) _, m, _, hD3⟩, ?_, fun b hb => .inl hb⟩
    exact (HO.out.mono (fun i e => by subst e; exact HD.out.mine _ (by simp))).trans ((turned_only T3.out).mono fun i e => by subst e; exact HD.out.mine _ (by simp))
theorem d_remove (p : Nat) (s : St) (n : ByteArray) (hn : n.size ≤ 1000) (hm : rightB n.data.toList = true) (h1 : s.calls ≤ 1000000000000) (w : World) (B : Nat → Prop) (h : DiskA p s w B) :
    Calls Tryz.prog 44 #[.pointer (some ⟨p, 0, none⟩), .string n] w (Does w B (DiskA p (removeR s n.data.toList).1) (.int .i64 (removeR s n.data.toList).2)) :=
  (remove_c p s B n w h hn hm h1).mono fun e w' k => tells_does k
end Go.Proofs.YtignfbdgpgidpaaGreatDoor

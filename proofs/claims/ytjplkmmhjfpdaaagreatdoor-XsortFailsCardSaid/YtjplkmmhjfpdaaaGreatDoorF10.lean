/- In one text: Sep, SepMore, FsHeap, FsCall, FsRight, FsFind. -/
import Derived.Test.YtjplkmmhjfpdaaaGreatDoorF05
import Derived.Test.YtjplkmmhjfpdaaaGreatDoorF00
import Derived.OneCell
import Derived.Maps.RangeWalk
import Derived.Maps.Ext
import Derived.Lib.UnsafeStr
import Derived.Sort.KeysCollected
import Derived.WalkSpells
import Derived.Deep.QuietTactic
import Derived.BigQuiet
/- What holds of a world in some of its blocks, and of two parts that lie apart: a call that turns the one part leaves the other. -/
namespace Go.Proofs.YtjplkmmhjfpdaaaGreatDoor
open Go.RowKit
set_option linter.unusedVariables false
set_option linter.unusedSimpArgs false
set_option maxRecDepth 20000
abbrev Asn := World → (Nat → Prop) → Prop
structure Fr (P : Asn) : Prop where
  fr : ∀ {w w' : World} {B C : Nat → Prop}, P w B → Only C w w' → (∀ b, B b → ¬ C b) → P w' B
  lo : ∀ {w : World} {B : Nat → Prop}, P w B → ∀ b, B b → b < w.heap.size
structure Nx (B : Nat → Prop) (w : World) (B' : Nat → Prop) (w' : World) : Prop where
  only : Only B w w'
  new : ∀ b, B' b → B b ∨ w.heap.size ≤ b
theorem Nx.refl (B : Nat → Prop) (w : World) : Nx B w B w := ⟨Only.refl _ _, fun _ h => .inl h⟩
theorem Nx.trans {B B1 B2 : Nat → Prop} {w w1 w2 : World} (h : Nx B w B1 w1) (k : Nx B1 w1 B2 w2) : Nx B w B2 w2 :=
  ⟨h.only.andThen k.only h.new, fun b hb => by
    rcases k.new b hb with h1 | h1
    · exact h.new b h1
    · exact .inr (Nat.le_trans h.only.size h1)⟩
theorem Nx.gr {B : Nat → Prop} {w w' : World} (g : Gr w w') : Nx B w B w' := ⟨Only.ofGr g, fun _ h => .inl h⟩
theorem Nx.of {B C : Nat → Prop} {w w' : World} (g : Only C w w') (hC : ∀ b, C b → B b) : Nx B w B w' := ⟨g.mono hC, fun _ h => .inl h⟩
def star (P Q : Asn) : Asn := fun w B => ∃ B1 B2, P w B1 ∧ Q w B2 ∧ (∀ b, B1 b → ¬ B2 b) ∧ ∀ b, B b ↔ B1 b ∨ B2 b
theorem Fr.star {P Q : Asn} (h : Fr P) (k : Fr Q) : Fr (star P Q) where
  fr := fun ⟨B1, B2, p, q, a, e⟩ o d => ⟨B1, B2, h.fr p o fun b hb => d b ((e b).2 (.inl hb)), k.fr q o fun b hb => d b ((e b).2 (.inr hb)), a, e⟩
  lo := fun ⟨B1, B2, p, q, a, e⟩ b hb => by
    rcases (e b).1 hb with h1 | h1
    · exact h.lo p b h1
    · exact k.lo q b h1
theorem star_swap {P Q : Asn} {w : World} {B : Nat → Prop} (h : star P Q w B) : star Q P w B := by
  obtain ⟨B1, B2, p, q, a, e⟩ := h
  exact ⟨B2, B1, q, p, fun b h2 h1 => a b h1 h2, fun b => (e b).trans Or.comm⟩
theorem star_left {P Q R : Asn} {w : World} {B : Nat → Prop} (h : star (star P Q) R w B) : star P (star Q R) w B := by
  obtain ⟨B1, B2, ⟨C1, C2, p, q, a1, e1⟩, r, a, e⟩ := h
  refine ⟨C1, fun b => C2 b ∨ B2 b, p, ⟨C2, B2, q, r, fun b h2 => a b ((e1 b).2 (.inr h2)), fun _ => Iff.rfl⟩, fun b h1 h2 => ?_, fun b => ?_⟩
  · rcases h2 with h2 | h2
    · exact a1 b h1 h2
    · exact a b ((e1 b).2 (.inl h1)) h2
  · rw [e b, e1 b, or_assoc]
theorem star_right {P Q R : Asn} {w : World} {B : Nat → Prop} (h : star P (star Q R) w B) : star (star P Q) R w B :=
  star_swap (star_left (star_swap (star_left (star_swap h))))
theorem star_two {P Q R : Asn} {w : World} {B : Nat → Prop} (h : star P (star Q R) w B) : star Q (star P R) w B := by
  obtain ⟨B1, B2, p, ⟨C1, C2, q, r, a1, e1⟩, a, e⟩ := h
  refine ⟨C1, fun b => B1 b ∨ C2 b, q, ⟨B1, C2, p, r, fun b h1 h2 => a b h1 ((e1 b).2 (.inr h2)), fun _ => Iff.rfl⟩, fun b h1 h2 => ?_, fun b => ?_⟩
  · rcases h2 with h2 | h2
    · exact a b h2 ((e1 b).2 (.inl h1))
    · exact a1 b h1 h2
  · rw [e b, e1 b]; exact ⟨fun h => by rcases h with h | h | h <;> simp [h], fun h => by rcases h with h | h | h <;> simp [h]⟩
def Does (w : World) (B : Nat → Prop) (Q : Asn) (v : Value) (e : Ending) (w' : World) : Prop := e = .returned v ∧ ∃ B', Q w' B' ∧ Nx B w B' w'
theorem star_of {Q R : Asn} (hR : Fr R) {w w' : World} {B B1 B2 B' : Nat → Prop} (r : R w B2) (a : ∀ b, B1 b → ¬ B2 b) (e : ∀ b, B b ↔ B1 b ∨ B2 b) (q : Q w' B') (n : Nx B1 w B' w') : ∃ B', star Q R w' B' ∧ Nx B w B' w' := by
  refine ⟨fun b => B' b ∨ B2 b, ⟨B', B2, q, hR.fr r n.only fun b h2 h1 => a b h1 h2, fun b h1 h2 => ?_, fun _ => Iff.rfl⟩, n.only.mono fun b h1 => (e b).2 (.inl h1), fun b hb => ?_⟩
  · rcases n.new b h1 with h3 | h3
    · exact a b h3 h2
    · have := hR.lo r b h2; omega
  · rcases hb with hb | hb
    · rcases n.new b hb with h3 | h3
      · exact .inl ((e b).2 (.inl h3))
      · exact .inr h3
    · exact .inl ((e b).2 (.inr hb))
theorem star_step {P Q R : Asn} (hR : Fr R) {w w' : World} {B : Nat → Prop} (h : star P R w B) (k : ∀ B1, P w B1 → ∃ B', Q w' B' ∧ Nx B1 w B' w') : ∃ B', star Q R w' B' ∧ Nx B w B' w' := by
  obtain ⟨B1, B2, p, r, a, e⟩ := h
  obtain ⟨B', q, n⟩ := k B1 p
  exact star_of hR r a e q n
theorem does_star {Pr : Program} {P Q R : Asn} {w : World} {B : Nat → Prop} {f : FuncId} {args : Array Value} {v : Value} (hR : Fr R) (h : star P R w B) (k : ∀ B1, P w B1 → Calls Pr f args w (Does w B1 Q v)) :
    Calls Pr f args w (Does w B (star Q R) v) := by
  obtain ⟨B1, B2, p, r, a, e⟩ := h
  refine (k B1 p).mono ?_
  rintro x w' ⟨he, B', q, n⟩
  exact ⟨he, star_of hR r a e q n⟩
theorem star_gr {P : Asn} (hP : Fr P) {w w' : World} {B : Nat → Prop} (h : P w B) (g : Gr w w') : P w' B := hP.fr h (Only.ofGr (B := fun _ => False) g) (fun _ _ e => e)
def Blk (p : Nat) (c : Array Value) (T : TypeId) : Asn := fun w B => w.heap[p]? = some (.cells c T (0, 0)) ∧ ∀ b, B b ↔ b = p
theorem fr_blk (p : Nat) (c : Array Value) (T : TypeId) : Fr (Blk p c T) where
  fr := fun ⟨h, e⟩ o d => ⟨by rw [o.block p (lt_of_block h) (d p ((e p).2 rfl))]; exact h, e⟩
  lo := fun ⟨h, e⟩ b hb => by rw [(e b).1 hb]; exact lt_of_block h
theorem Does.imp {w w' : World} {B : Nat → Prop} {Q Q' : Asn} {v : Value} {e : Ending} (h : Does w B Q v e w') (k : ∀ B', Q w' B' → Q' w' B') : Does w B Q' v e w' := by
  obtain ⟨he, B', q, n⟩ := h
  exact ⟨he, B', k _ q, n⟩
def emp : Asn := fun _ B => ∀ b, ¬ B b
theorem fr_emp : Fr emp := ⟨fun h _ _ => h, fun h b hb => absurd hb (h b)⟩
def stars : List Asn → Asn
  | [] => emp
  | P :: L => star P (stars L)
def Frs : List Asn → Prop
  | [] => True
  | P :: L => Fr P ∧ Frs L
theorem fr_stars : ∀ {L : List Asn}, Frs L → Fr (stars L)
  | [], _ => fr_emp
  | _ :: _, h => h.1.star (fr_stars h.2)
theorem does_at {Pr : Program} {f : FuncId} {args : Array Value} {v : Value} {w : World} {P Q : Asn} : ∀ {L : List Asn} (i : Nat) {B : Nat → Prop}, L[i]? = some P → Frs L → stars L w B → (∀ B1, P w B1 → Calls Pr f args w (Does w B1 Q v)) → Calls Pr f args w (Does w B (stars (L.set i Q)) v)
  | [], i, B, hi, _, _, _ => by simp at hi
  | A :: L, 0, B, hi, hF, h, k => by
    obtain rfl : A = P := by simpa using hi
    exact does_star (fr_stars hF.2) h k
  | A :: L, i + 1, B, hi, hF, h, k =>
    (does_star (P := stars L) (Q := stars (L.set i Q)) hF.1 (star_swap h) fun B1 h1 => does_at i (by simpa using hi) hF.2 h1 k).mono fun e w' hd => hd.imp fun B' q => star_swap q
theorem step_at {w w' : World} {P Q : Asn} : ∀ {L : List Asn} (i : Nat) {B : Nat → Prop}, L[i]? = some P → Frs L → stars L w B → (∀ B1, P w B1 → ∃ B', Q w' B' ∧ Nx B1 w B' w') → ∃ B', stars (L.set i Q) w' B' ∧ Nx B w B' w'
  | [], i, B, hi, _, _, _ => by simp at hi
  | A :: L, 0, B, hi, hF, h, k => by
    obtain rfl : A = P := by simpa using hi
    exact star_step (fr_stars hF.2) h k
  | A :: L, i + 1, B, hi, hF, h, k => by
    obtain ⟨B', q, n⟩ := star_step (P := stars L) (Q := stars (L.set i Q)) hF.1 (star_swap h) fun B1 h1 => step_at i (by simpa using hi) hF.2 h1 k
    exact ⟨B', star_swap q, n⟩
theorem part_at {w : World} {P : Asn} : ∀ {L : List Asn} (i : Nat) {B : Nat → Prop}, L[i]? = some P → stars L w B → ∃ B1, P w B1 ∧ ∀ b, B1 b → B b
  | [], i, B, hi, _ => by simp at hi
  | A :: L, 0, B, hi, h => by
    obtain rfl : A = P := by simpa using hi
    obtain ⟨B1, B2, p, _, _, e⟩ := h
    exact ⟨B1, p, fun b hb => (e b).2 (.inl hb)⟩
  | A :: L, i + 1, B, hi, h => by
    obtain ⟨B1, B2, _, q, _, e⟩ := h
    obtain ⟨B3, p, hB⟩ := part_at i (by simpa using hi) q
    exact ⟨B3, p, fun b hb => (e b).2 (.inr (hB b hb))⟩
theorem stars_gr {L : List Asn} (hF : Frs L) {w w' : World} {B : Nat → Prop} (h : stars L w B) (g : Gr w w') : stars L w' B := star_gr (fr_stars hF) h g
theorem stars_app : ∀ {L M : List Asn} {w : World} {B : Nat → Prop}, stars (L ++ M) w B ↔ star (stars L) (stars M) w B
  | [], M, w, B => ⟨fun h => ⟨fun _ => False, B, (fun b h => h), h, (fun b h => h.elim), fun b => (false_or _).symm ▸ Iff.rfl⟩, fun ⟨B1, B2, p, q, _, e⟩ => by
      have : B2 = B := by funext b; rw [eq_iff_iff, e b]; exact ⟨.inr, fun h => h.resolve_left (p b)⟩
      rw [← this]; exact q⟩
  | A :: L, M, w, B => ⟨fun ⟨B1, B2, p, q, a, e⟩ => star_right ⟨B1, B2, p, stars_app.1 q, a, e⟩, fun h => by
      obtain ⟨B1, B2, p, q, a, e⟩ := star_left h
      exact ⟨B1, B2, p, stars_app.2 q, a, e⟩⟩
theorem does_pre {Pr : Program} {f : FuncId} {args : Array Value} {v : Value} {w : World} {B : Nat → Prop} (L : List Asn) {L' M : List Asn} (hM : Frs M) (h : stars (L ++ M) w B) (k : ∀ B1, stars L w B1 → Calls Pr f args w (Does w B1 (stars L') v)) : Calls Pr f args w (Does w B (stars (L' ++ M)) v) :=
  (does_star (fr_stars hM) (stars_app.1 h) k).mono fun e w' hd => hd.imp fun B' q => stars_app.2 q
theorem does_suf {Pr : Program} {f : FuncId} {args : Array Value} {v : Value} {w : World} {B : Nat → Prop} (L : List Asn) {M M' : List Asn} (hL : Frs L) (h : stars (L ++ M) w B) (k : ∀ B1, stars M w B1 → Calls Pr f args w (Does w B1 (stars M') v)) : Calls Pr f args w (Does w B (stars (L ++ M')) v) :=
  (does_star (fr_stars hL) (star_swap (stars_app.1 h)) k).mono fun e w' hd => hd.imp fun B' q => stars_app.2 (star_swap q)
theorem pre_next {w : World} {B : Nat → Prop} (L : List Asn) {M : List Asn} (hM : Frs M) (h : stars (L ++ M) w B) : ∃ B1, stars L w B1 ∧ ∀ {L' : List Asn} {w' : World} {B' : Nat → Prop}, stars L' w' B' → Nx B1 w B' w' → ∃ B3, stars (L' ++ M) w' B3 ∧ Nx B w B3 w' := by
  obtain ⟨B1, B2, h1, h2, a, e⟩ := stars_app.1 h
  refine ⟨B1, h1, fun {L' w' B'} q n => ?_⟩
  obtain ⟨B3, r, n3⟩ := star_of (fr_stars hM) h2 a e q n
  exact ⟨B3, stars_app.2 r, n3⟩
theorem part_new {w w' : World} {P : Asn} {L : List Asn} {B B' : Nat → Prop} (hL : Frs L) (h : stars L w B) (g : Gr w w') (p : P w' B') (hn : ∀ b, B' b → w.heap.size ≤ b) : ∃ B2, stars (P :: L) w' B2 ∧ Nx B w B2 w' :=
  ⟨fun b => B' b ∨ B b, ⟨B', B, p, stars_gr hL h g, fun b h1 h2 => by have := hn b h1; have := (fr_stars hL).lo h b h2; omega, fun _ => Iff.rfl⟩, Only.ofGr g, fun b hb => hb.elim (fun h1 => .inr (hn b h1)) .inl⟩
theorem stars_perm {L M : List Asn} (h : L.Perm M) : ∀ {w : World} {B : Nat → Prop}, stars L w B → stars M w B := by
  induction h with
  | nil => exact fun h => h
  | cons P _ ih => exact fun ⟨B1, B2, p, q, a, e⟩ => ⟨B1, B2, p, ih q, a, e⟩
  | swap P Q L => exact fun h => star_two h
  | trans _ _ h1 h2 => exact fun h => h2 (h1 h)
theorem nx_gr {w w' : World} {B : Nat → Prop} (h : Nx (fun _ => False) w B w') : Gr w w' := h.only.toBelow (Nat.le_refl _) fun _ h => h.elim
end Go.Proofs.YtjplkmmhjfpdaaaGreatDoor
/- A name; more on parts that lie apart. -/
namespace Go.Proofs.YtjplkmmhjfpdaaaGreatDoor
open Go.RowKit FsPlain
set_option linter.unusedVariables false
set_option linter.unusedSimpArgs false
set_option maxRecDepth 20000
def nmA : ByteArray := ⟨#[97]⟩
theorem nmA_right : rightB nmA.data.toList = true := by decide
theorem nmA_size : nmA.size ≤ 24 := by decide
theorem pre_nx {w : World} {B : Nat → Prop} (L : List Asn) {M : List Asn} (hM : Frs M) (h : stars (L ++ M) w B) : ∃ B1, stars L w B1 ∧ ∀ (L' : List Asn) (w' : World) (B' : Nat → Prop), stars L' w' B' → Nx B1 w B' w' → ∃ B3, stars (L' ++ M) w' B3 ∧ Nx B w B3 w' := by
  obtain ⟨B1, h1, k⟩ := pre_next L hM h
  exact ⟨B1, h1, fun _ _ _ => k⟩
theorem frs_app : ∀ {L M : List Asn}, Frs L → Frs M → Frs (L ++ M)
  | [], _, _, h => h
  | _ :: _, _, h, k => ⟨h.1, frs_app h.2 k⟩
theorem stars_one {P : Asn} {w : World} {B : Nat → Prop} (h : P w B) : stars [P] w B := ⟨B, fun _ => False, h, (fun _ h => h), (fun _ _ h => h), fun b => (or_false _).symm ▸ Iff.rfl⟩
theorem stars_drop {P : Asn} {L : List Asn} {w : World} {B : Nat → Prop} (h : stars (P :: L) w B) : ∃ B', stars L w B' ∧ Nx B w B' w := by
  obtain ⟨B1, B2, _, q, _, e⟩ := h
  exact ⟨B2, q, Only.refl _ _, fun b hb => .inl ((e b).2 (.inr hb))⟩
end Go.Proofs.YtjplkmmhjfpdaaaGreatDoor
/- A disk in memory: its block, the map of its files, each file's block and row; what a call may write, and what stays. -/
namespace Go.Proofs.YtjplkmmhjfpdaaaGreatDoor
open Go.RowKit FsPlain Go.Maps
set_option linter.unusedVariables false
set_option linter.unusedSimpArgs false
set_option maxRecDepth 20000
def ptrElem : Value → Option (DataW Unit × List MemPlace)
  | .pointer (some ⟨b, 0, none⟩) => some (.lit (.int .i64 (b : Int)), [])
  | .pointer none => some (.lit (.int .i64 (-1)), [])
  | _ => none
theorem ptr_mk (b : Nat) : ptrElem (.pointer (some ⟨b, 0, none⟩)) = some (.lit (.int .i64 (b : Int)), []) := rfl
theorem ptr_nil : ptrElem (.pointer none) = some (.lit (.int .i64 (-1)), []) := rfl
theorem ptr_inv {v : Value} {y : DataW Unit × List MemPlace} (h : ptrElem v = some y) : (∃ b : Nat, v = .pointer (some ⟨b, 0, none⟩) ∧ y = (.lit (.int .i64 (b : Int)), [])) ∨ (v = .pointer none ∧ y = (.lit (.int .i64 (-1)), [])) := by
  unfold ptrElem at h
  split at h
  · cases h; exact .inl ⟨_, rfl, rfl⟩
  · cases h; exact .inr ⟨rfl, rfl⟩
  · cases h
theorem ptr_some {v : Value} {b : Nat} {ps : List MemPlace} (h : ptrElem v = some (.lit (.int .i64 (b : Int)), ps)) : v = .pointer (some ⟨b, 0, none⟩) := by
  rcases ptr_inv h with ⟨c, rfl, e⟩ | ⟨rfl, e⟩
  · simp at e; have e2 : b = c := by omega
    rw [e2]
  · simp at e
theorem ptr_none {v : Value} {ps : List MemPlace} (h : ptrElem v = some (.lit (.int .i64 (-1)), ps)) : v = .pointer none := by
  rcases ptr_inv h with ⟨c, rfl, e⟩ | ⟨rfl, e⟩
  · simp at e
  · rfl
theorem lawS : Keyed Tryz.prog 9 := string_keyed Tryz.underlying9
theorem zeroP (w : World) : (zeroValue 69).run Tryz.prog w = .ok (.pointer none) w := by kernel_rfl
theorem infoB : (Tryz.prog.info? 5).map (fun i => (i.zero, i.size, i.bytes)) = some (some (.int .u8 0), 1, 1) := by kernel_rfl
structure Pl where
  f : F
  blk : Nat
  v : Value
def plBlocks (x : Pl) : List Nat := x.blk :: x.v.ownBlock.toList
def ents (L : List Pl) : DataW Unit := .map (L.map fun x => (.string x.f.name, .lit (.int .i64 (x.blk : Int))))
def FileAt (w : World) (x : Pl) : Prop :=
  w.heap[x.blk]? = some (.cells #[x.v, .int .i64 (x.f.kept : Int)] 73 (0, 0)) ∧ w.ownsRow 0 5 1 x.v x.f.data.length (Lib.byteCells x.f.data)
def dcells (s : St) (m : Nat) : Array Value := #[.int .i64 s.room, .map (some m), .int .i64 s.calls, .int .i64 s.ahead, .bool s.down]
def blocks (L : List Pl) : List Nat := L.flatMap plBlocks
theorem mem_blocks {L : List Pl} {x : Pl} {b : Nat} (hx : x ∈ L) (hb : b ∈ plBlocks x) : b ∈ blocks L := List.mem_flatMap.2 ⟨x, hx, hb⟩
structure DiskAt (w : World) (p : Nat) (s : St) (B : Nat → Prop) (m : Nat) (L : List Pl) : Prop where
  heap : w.heap[p]? = some (.cells (dcells s m) 66 (0, 0))
  own : w.ownsMap Tryz.prog 9 ptrElem m L.length (ents L)
  fs : L.map (·.f) = s.fs
  file : ∀ x ∈ L, FileAt w x
  apart : (p :: m :: blocks L).Nodup
  mine : ∀ b ∈ p :: m :: blocks L, B b
  low : ∀ b, B b → b < w.heap.size
def Disk (w : World) (p : Nat) (s : St) (B : Nat → Prop) : Prop := s.ok ∧ ∃ m L, DiskAt w p s B m L
theorem row_shape {w : World} {v : Value} {n : Nat} {xs : List Value} (h : w.ownsRow 0 5 1 v n xs) : ∃ a c, v = .slice a n c ∧ (a = none → n = 0) ∧ ∀ b, a = some b → b.off = 0 ∧ b.spot = none ∧ b.block < w.heap.size := by
  rcases h.2 with ⟨rfl, rfl⟩ | ⟨g, cap, cur, rfl, _, hg, _⟩
  · exact ⟨none, 0, rfl, fun _ => rfl, fun b hb => by cases hb⟩
  · exact ⟨some ⟨g, 0, none⟩, cap, rfl, (fun h => by cases h), fun b hb => by cases hb; exact ⟨rfl, rfl, (Array.getElem?_eq_some_iff.1 hg).1⟩⟩
theorem FileAt.only {w w' : World} {x : Pl} {C : Nat → Prop} (h : FileAt w x) (g : Only C w w') (hC : ∀ b ∈ plBlocks x, ¬ C b) : FileAt w' x := by
  obtain ⟨h1, h2⟩ := h
  have hb1 : x.blk ∈ plBlocks x := by simp [plBlocks]
  refine ⟨by rw [g.block _ (lt_of_block h1) (hC _ hb1)]; exact h1, h2.1, ?_⟩
  rcases h2.2 with h3 | ⟨r, cap, cur, hv, h4, h5, h6⟩
  · exact .inl h3
  · refine .inr ⟨r, cap, cur, hv, h4, ?_, h6⟩
    rw [g.block _ (lt_of_block h5) (hC _ (by simp [plBlocks, hv, Value.ownBlock]))]; exact h5
theorem own_only {w w' : World} {b n : Nat} {D : DataW Unit} {C : Nat → Prop} (h : w.ownsMap Tryz.prog 9 ptrElem b n D) (g : Only C w w') (hC : ¬ C b) : w'.ownsMap Tryz.prog 9 ptrElem b n D := by
  have hlt := h.lt
  obtain ⟨es, clock, hb, r⟩ := h
  exact ⟨es, clock, by rw [g.block b hlt hC]; exact hb, r⟩
theorem tight {w : World} {b n : Nat} {D : DataW Unit} (h : w.ownsMap Tryz.prog 9 ptrElem b n D) : w.ownsMap Tryz.prog 9 ptrElem b (Maps.size D) D := by
  obtain ⟨es, clock, hb, F, hs, rfl⟩ := h
  exact ⟨es, clock, hb, F, by simp [Maps.size, length_sorted], rfl⟩
theorem ents_size (L : List Pl) : Maps.size (ents L) = L.length := by simp [ents, Maps.size]
theorem DiskAt.only {w w' : World} {p m : Nat} {s : St} {B C : Nat → Prop} {L : List Pl} (h : DiskAt w p s B m L) (g : Only C w w') (hC : ∀ b, B b → ¬ C b) : DiskAt w' p s B m L :=
  ⟨by rw [g.block p (lt_of_block h.heap) (hC _ (h.mine p (by simp)))]; exact h.heap, own_only h.own g (hC _ (h.mine m (by simp))), h.fs,
    fun x hx => (h.file x hx).only g fun b hb => hC b (h.mine b (List.mem_cons_of_mem _ (List.mem_cons_of_mem _ (mem_blocks hx hb)))), h.apart, h.mine, fun b hb => Nat.lt_of_lt_of_le (h.low b hb) g.size⟩
theorem Disk.only {w w' : World} {p : Nat} {s : St} {B C : Nat → Prop} (h : Disk w p s B) (g : Only C w w') (hC : ∀ b, B b → ¬ C b) : Disk w' p s B := by
  obtain ⟨h0, m, L, h⟩ := h
  exact ⟨h0, m, L, h.only g hC⟩
theorem Disk.low {w : World} {p : Nat} {s : St} {B : Nat → Prop} (h : Disk w p s B) (b : Nat) (hb : B b) : b < w.heap.size := by obtain ⟨_, m, L, d⟩ := h; exact d.low b hb
theorem DiskAt.own_block {w w' : World} {p m : Nat} {s s' : St} {B : Nat → Prop} {L : List Pl} (h : DiskAt w p s B m L) (g : Only (fun i => i = p) w w') (hp : w'.heap[p]? = some (.cells (dcells s' m) 66 (0, 0))) (hf : s'.fs = s.fs) : DiskAt w' p s' B m L := by
  have ha := h.apart
  simp only [List.nodup_cons, List.mem_cons, not_or] at ha
  refine ⟨hp, own_only h.own g (fun e => ha.1.1 e.symm), by rw [hf]; exact h.fs, fun x hx => (h.file x hx).only g fun b hb e => ?_, h.apart, h.mine, fun b hb => Nat.lt_of_lt_of_le (h.low b hb) g.size⟩
  subst e
  exact ha.1.2 (mem_blocks hx hb)
theorem names_apart {w : World} {b n : Nat} {L : List Pl} (h : w.ownsMap Tryz.prog 9 ptrElem b n (ents L)) : L.Pairwise (fun x y => x.f.name ≠ y.f.name) := by
  obtain ⟨es, he, hp, _⟩ := h.entries lawS
  unfold ents at he
  simp only [DataW.map.injEq] at he
  subst he
  rw [List.pairwise_map] at hp
  exact hp.imp fun h e => h (by rw [e])
theorem at_some {L : List Pl} {x : Pl} {n : List UInt8} (h : L.find? (fun x => x.f.name == n) = some x) (z : DataW Unit) : (ents L).atKey (.string n) z = .lit (.int .i64 (x.blk : Int)) := by
  have e : ((L.map fun x : Pl => ((.string x.f.name : Lit), (DataW.lit (.int .i64 (x.blk : Int)) : DataW Unit))).find? fun p => p.1.sameKey (.string n)) = some (.string x.f.name, .lit (.int .i64 (x.blk : Int))) := by
    rw [List.find?_map]
    have : ((fun p : Lit × DataW Unit => p.1.sameKey (.string n)) ∘ fun x : Pl => ((.string x.f.name : Lit), (DataW.lit (.int .i64 (x.blk : Int)) : DataW Unit))) = fun x : Pl => x.f.name == n := by funext y; rfl
    rw [this, h]; rfl
  unfold ents DataW.atKey
  simp only [e]
theorem at_none {L : List Pl} {n : List UInt8} (h : L.find? (fun x => x.f.name == n) = none) (z : DataW Unit) : (ents L).atKey (.string n) z = z := by
  have e : ((L.map fun x : Pl => ((.string x.f.name : Lit), (DataW.lit (.int .i64 (x.blk : Int)) : DataW Unit))).find? fun p => p.1.sameKey (.string n)) = none := by
    rw [List.find?_map]
    have : ((fun p : Lit × DataW Unit => p.1.sameKey (.string n)) ∘ fun x : Pl => ((.string x.f.name : Lit), (DataW.lit (.int .i64 (x.blk : Int)) : DataW Unit))) = fun x : Pl => x.f.name == n := by funext y; rfl
    rw [this, h]; rfl
  unfold ents DataW.atKey
  simp only [e]
theorem has_is (L : List Pl) (n : List UInt8) : Maps.has (ents L) (.string n) = L.any (fun x => x.f.name == n) := by
  unfold ents
  rw [has_eq, List.any_map]; rfl
theorem DiskAt.look {w : World} {p m : Nat} {s : St} {B : Nat → Prop} {L : List Pl} (h : DiskAt w p s B m L) (n : ByteArray) (hn : n.size ≤ maxLen) :
    (s.get n.data.toList = none ∧ L.find? (fun x => x.f.name == n.data.toList) = none ∧ ∀ w2 : World, w2.ownsMap Tryz.prog 9 ptrElem m L.length (ents L) → (Instr.lookup 64 (.map (some m)) (.string n) false).run Tryz.prog w2 = .ok (.pointer none) w2) ∨
    ∃ x, s.get n.data.toList = some x.f ∧ L.find? (fun x => x.f.name == n.data.toList) = some x ∧ ∀ w2 : World, w2.ownsMap Tryz.prog 9 ptrElem m L.length (ents L) → (Instr.lookup 64 (.map (some m)) (.string n) false).run Tryz.prog w2 = .ok (.pointer (some ⟨x.blk, 0, none⟩)) w2 := by
  have hkey := WideMaps.keyOf_string_mk (P := Tryz.prog) (k := 9) Tryz.underlying9 hn
  have hget : s.get n.data.toList = (L.find? (fun x => x.f.name == n.data.toList)).map (·.f) := by
    unfold St.get; rw [← h.fs, List.find?_map]; rfl
  cases hf : L.find? (fun x => x.f.name == n.data.toList) with
  | none =>
    refine .inl ⟨by rw [hget, hf]; rfl, rfl, fun w2 h2 => ?_⟩
    obtain ⟨v, ps, hrun, hv⟩ := h2.lookup lawS Tryz.underlying64 (zeroP w2) ptr_nil hkey
    rw [at_none hf] at hv
    rw [hrun, ptr_none hv]
  | some x =>
    refine .inr ⟨x, by rw [hget, hf]; rfl, rfl, fun w2 h2 => ?_⟩
    obtain ⟨v, ps, hrun, hv⟩ := h2.lookup lawS Tryz.underlying64 (zeroP w2) ptr_nil hkey
    rw [at_some hf] at hv
    rw [hrun, ptr_some hv]
end Go.Proofs.YtjplkmmhjfpdaaaGreatDoor
/- Contracts of made, call, letter and Right: by walks of their texts. -/
namespace Go.Proofs.YtjplkmmhjfpdaaaGreatDoor
open Go.RowKit FsPlain
set_option linter.unusedVariables false
set_option linter.unusedSimpArgs false
set_option maxRecDepth 20000
theorem made_c (p m : Nat) (s : St) (w : World) (h : w.heap[p]? = some (.cells (dcells s m) 66 (0, 0))) :
    Calls Tryz.prog 53 #[.pointer (some ⟨p, 0, none⟩)] w fun e w' => e = .returned (.bool true) ∧ w = w' := by
  have c1 : w.cell? ⟨p, 1, none⟩ = some (.map (some m)) := by rw [cells_at h]; rfl
  have nm := run_neq_map_nil (P := Tryz.prog) w 64 _ _ (some m) Tryz.underlying64
  clear h
  go_enter Tryz.func53, Tryz.ntmps53
  go_wp2_with fail
  go_ret
  exact ⟨rfl, rfl⟩
def Called (p m : Nat) (s : St) (w w' : World) : Prop := w'.heap[p]? = some (.cells (dcells s.call m) 66 (0, 0)) ∧ Only (fun i => i = p) w w'
theorem called_of {p m : Nat} {s : St} {w : World} (h : w.heap[p]? = some (.cells (dcells s m) 66 (0, 0))) {c a : Int} {d : Bool} (hc : c = s.calls + 1) (ha : a = max (s.ahead - 1) (-1)) (hd : d = (s.down || decide (s.ahead = 0))) :
    Called p m s w (((w.setCell ⟨p, 2, none⟩ (.int .i64 c)).setCell ⟨p, 4, none⟩ (.bool d)).setCell ⟨p, 3, none⟩ (.int .i64 a)) := by
  subst hc ha hd
  refine ⟨?_, ?_⟩
  · rw [cells_set (cells_set (cells_set h 2 _) 4 _) 3 _]; rfl
  · exact ((Only.cell1 _ _ _ _).trans (Only.cell1 _ _ _ _)).trans (Only.cell1 _ _ _ _)
theorem called_of2 {p m : Nat} {s : St} {w : World} (h : w.heap[p]? = some (.cells (dcells s m) 66 (0, 0))) {c a : Int} (hc : c = s.calls + 1) (ha : a = max (s.ahead - 1) (-1)) (hd : s.ahead ≠ 0) :
    Called p m s w ((w.setCell ⟨p, 2, none⟩ (.int .i64 c)).setCell ⟨p, 3, none⟩ (.int .i64 a)) := by
  subst hc ha
  refine ⟨?_, ?_⟩
  · rw [cells_set (cells_set h 2 _) 3 _]
    unfold dcells St.call
    simp [hd]
  · exact (Only.cell1 _ _ _ _).trans (Only.cell1 _ _ _ _)
set_option maxRecDepth 20000 in
set_option maxHeartbeats 1000000 in
theorem call_yes (p m : Nat) (s : St) (w : World) (h : w.heap[p]? = some (.cells (dcells s m) 66 (0, 0))) (h0 : 0 ≤ s.calls) (h1 : s.calls ≤ 1000000000000) (a0 : -1 ≤ s.ahead) (a1 : s.ahead ≤ 9223372036854775807) :
    Calls Tryz.prog 34 #[.pointer (some ⟨p, 0, none⟩), .bool true] w fun e w' => e = .returned (.int .i64 s.call.code) ∧ Called p m s w w' := by
  have c1 : w.cell? ⟨p, 1, none⟩ = some (.map (some m)) := by rw [cells_at h]; rfl
  have c2 : w.cell? ⟨p, 2, none⟩ = some (.int .i64 s.calls) := by rw [cells_at h]; rfl
  have c3 : w.cell? ⟨p, 3, none⟩ = some (.int .i64 s.ahead) := by rw [cells_at h]; rfl
  have c4 : w.cell? ⟨p, 4, none⟩ = some (.bool s.down) := by rw [cells_at h]; rfl
  have f2 := cells_free h 2
  have f3 := cells_free h 3
  have f4 := cells_free h 4
  have C0 := made_c p m s w h
  have H := Lib.hid h
  have K1 := fun c d a => called_of (c := c) (d := d) (a := a) h
  have K2 := fun c a => called_of2 (c := c) (a := a) h
  have HK1 := Lib.hid K1
  have HK2 := Lib.hid K2
  clear h K1 K2
  by_cases ha : s.ahead = 0
  · have t1 : (s.ahead == 0) = true := by simp [ha]
    go_enter Tryz.func34, Tryz.ntmps34
    go_wp2_with fail
    refine (C0).mono ?_; rintro e w2 ⟨rfl, rfl⟩
    go_wp2_with fail
    go_ret
    exact ⟨ret_i (by simp [St.code, St.call, ha]), HK1.out _ _ _ rfl (by omega) (by simp [ha])⟩
  · have t1 : (s.ahead == 0) = false := by simp [ha]
    cases hd : s.down
    · go_enter Tryz.func34, Tryz.ntmps34
      go_wp2_with fail
      refine (C0).mono ?_; rintro e w2 ⟨rfl, rfl⟩
      go_wp2_with fail
      all_goals
        go_ret
        exact ⟨ret_i (by simp [St.code, St.call, ha, hd]), HK2.out _ _ rfl (by omega) ha⟩
    · go_enter Tryz.func34, Tryz.ntmps34
      go_wp2_with fail
      refine (C0).mono ?_; rintro e w2 ⟨rfl, rfl⟩
      go_wp2_with fail
      all_goals
        go_ret
        exact ⟨ret_i (by simp [St.code, St.call, ha, hd]), HK2.out _ _ rfl (by omega) ha⟩
theorem letter_c (c : UInt8) (w : World) : Calls Tryz.prog 61 #[.int .u8 c.toNat] w fun e w' => e = .returned (.bool (letterB c)) ∧ w = w' := by
  have hb : c.toNat < 256 := c.toNat_lt
  obtain ⟨n, hn⟩ : ∃ n, n = letterB c := ⟨_, rfl⟩
  have hn' := hn
  unfold letterB at hn'
  rw [← hn]
  have HN := Lib.hid hn
  have HN' := Lib.hid hn'
  clear hn hn'
  by_cases h1 : 97 ≤ (c.toNat : Int) <;> by_cases h2 : (c.toNat : Int) ≤ 122 <;> by_cases h3 : 48 ≤ (c.toNat : Int) <;> by_cases h4 : (c.toNat : Int) ≤ 57 <;> by_cases h5 : (c.toNat : Int) = 46
  all_goals first
    | (exfalso; omega)
    | (have t5 : ((c.toNat : Int) == 46) = true := by simp [h5]
       go_enter Tryz.func61, Tryz.ntmps61
       go_wp2_with fail
       go_ret
       exact ⟨by rw [HN'.out]; simp [*], rfl⟩)
    | (have t5 : ((c.toNat : Int) == 46) = false := by simp [h5]
       go_enter Tryz.func61, Tryz.ntmps61
       go_wp2_with fail
       go_ret
       exact ⟨by rw [HN'.out]; simp [*], rfl⟩)
end Go.Proofs.YtjplkmmhjfpdaaaGreatDoor
/- The contract of Right: is it a name? By a walk of its loop. -/
namespace Go.Proofs.YtjplkmmhjfpdaaaGreatDoor
open Go.RowKit FsPlain
set_option linter.unusedVariables false
set_option linter.unusedSimpArgs false
set_option maxRecDepth 20000
theorem ret_fb {a b : Bool} (h : a = b) : Ending.returned (.bool a) = .returned (.bool b) := by rw [h]
theorem all_take (l : List UInt8) (k : Nat) (h : k < l.length) : (l.take (k + 1)).all letterB = ((l.take k).all letterB && letterB l[k]) := by
  rw [List.take_succ_eq_append_getElem h, List.all_append]; simp
theorem all_no (l : List UInt8) (k : Nat) (h : k < l.length) (hl : letterB l[k] = false) : l.all letterB = false := by
  rw [List.all_eq_false]; exact ⟨l[k], List.getElem_mem h, by simp [hl]⟩
theorem right_len (l : List UInt8) (h : l.all letterB = true) : rightB l = decide (1 ≤ l.length ∧ l.length ≤ 24) := by unfold rightB; rw [h]; rfl
theorem right_no (l : List UInt8) (h : l.all letterB = false) : rightB l = false := by unfold rightB; rw [h]; rfl
set_option maxRecDepth 20000 in
set_option maxHeartbeats 1000000 in
theorem right_c (s : ByteArray) (hs : s.size ≤ maxLen) (w : World) :
    Calls Tryz.prog 35 #[.string s] w fun e w' => e = .returned (.bool (rightB s.data.toList)) ∧ w = w' := by
  have hsz : s.data.toList.length = s.size := rfl
  unfold maxLen at hs
  obtain ⟨r, hr⟩ : ∃ r, r = rightB s.data.toList := ⟨_, rfl⟩
  rw [← hr]
  have HR := Lib.hid hr
  have HSZ := Lib.hid hsz
  clear hr hsz
  go_enter Tryz.func35, Tryz.ntmps35
  go_wp2_with fail
  go_loop [6] (fun i => ∃ k : Nat, k ≤ s.size ∧ i = .int .i64 k ∧ (s.data.toList.take k).all letterB = true) (fun i => s.size - (intOf i).toNat)
  case atStart => exact ⟨0, Nat.zero_le _, rfl, rfl⟩
  case round =>
    obtain ⟨k, hk, rfl, hall⟩ := hrel
    have HALL := Lib.hid hall
    clear hall
    by_cases hlt : k < s.size
    · have hlt' : k < s.data.toList.length := by rw [HSZ.out]; exact hlt
      have hstep := all_take _ k hlt'
      have hno := all_no _ k hlt'
      have hsame : s.data.toList[k] = s[k] := by simp; rfl
      rw [hsame] at hstep hno
      rw [HALL.out] at hstep
      have C := fun w => letter_c s[k] w
      cases hl : letterB s[k]
      · rw [hl] at C
        have hrf := right_no _ (hno hl)
        rw [← HR.out] at hrf
        have HL := Lib.hid hl
        clear hl hstep hno hsame
        subst hrf
        go_wp2_with fail
        refine (C _).mono ?_; rintro e w2 ⟨rfl, rfl⟩
        go_wp2_with fail
        go_ret
        exact ⟨rfl, rfl⟩
      · rw [hl] at C hstep
        have HST := Lib.hid hstep
        clear hl hstep hno hsame
        go_wp2_with fail
        refine (C _).mono ?_; rintro e w2 ⟨rfl, rfl⟩
        go_wp2_with fail
        go_round
        case rel => exact ⟨k + 1, by omega, by go_num, HST.out⟩
        case measure => simp [intOf]; omega
    · have hke : k = s.size := by omega
      have hr2 := right_len s.data.toList (by have := HALL.out; rw [hke, ← HSZ.out, List.take_length] at this; exact this)
      rw [← HR.out, HSZ.out] at hr2
      have HR2 := Lib.hid hr2
      clear hr2 hke
      by_cases h1 : 1 ≤ s.size <;> by_cases h2 : s.size ≤ 24
      all_goals
        go_wp2_with fail
        all_goals
          go_ret
          exact ⟨ret_fb (by rw [HR2.out]; first | (rw [decide_eq_decide]; omega) | (rw [eq_comm, decide_eq_false_iff_not]; omega) | (rw [eq_comm, decide_eq_true_iff]; omega)), rfl⟩
end Go.Proofs.YtjplkmmhjfpdaaaGreatDoor
/- The contract of find: a call that asks for a file. -/
namespace Go.Proofs.YtjplkmmhjfpdaaaGreatDoor
open Go.RowKit FsPlain
set_option linter.unusedVariables false
set_option linter.unusedSimpArgs false
set_option maxRecDepth 20000
theorem DiskAt.called {w w' : World} {p m : Nat} {s : St} {B : Nat → Prop} {L : List Pl} (h : DiskAt w p s B m L) (k : Called p m s w w') : DiskAt w' p s.call B m L :=
  h.own_block k.2 k.1 rfl
def Found (p m : Nat) (s : St) (B : Nat → Prop) (L : List Pl) (n : List UInt8) (w : World) (e : Ending) (w' : World) : Prop :=
  DiskAt w' p s.call B m L ∧ Only (fun i => i = p) w w' ∧
  ((s.call.down = true ∧ e = .returned (.tuple #[.pointer none, .int .i64 5])) ∨
   (s.call.down = false ∧ s.get n = none ∧ e = .returned (.tuple #[.pointer none, .int .i64 2])) ∨
   (s.call.down = false ∧ ∃ x, s.get n = some x.f ∧ L.find? (fun x => x.f.name == n) = some x ∧ e = .returned (.tuple #[.pointer (some ⟨x.blk, 0, none⟩), .int .i64 0])))
set_option maxRecDepth 20000 in
set_option maxHeartbeats 1000000 in
theorem find_yes (p m : Nat) (s : St) (B : Nat → Prop) (L : List Pl) (n : ByteArray) (w : World) (hs : s.ok) (h : DiskAt w p s B m L) (hn : n.size ≤ maxLen) (hm : rightB n.data.toList = true) (h1 : s.calls ≤ 1000000000000) :
    Calls Tryz.prog 37 #[.pointer (some ⟨p, 0, none⟩), .string n, .bool true] w (Found p m s B L n.data.toList w) := by
  have C1 := fun w => right_c n hn w
  rw [hm] at C1
  have C2 := call_yes p m s w h.heap hs.c0 h1 hs.a0 hs.a1
  obtain ⟨c, hc⟩ : ∃ c, c = s.call.code := ⟨_, rfl⟩
  rw [← hc] at C2
  have HC := Lib.hid hc
  have HM := Lib.hid hm
  have HD := Lib.hid h
  clear hc hm h
  cases hd : s.call.down
  · have c0 : c = 0 := by rw [HC.out]; simp [St.code, hd]
    subst c0
    have HDN := Lib.hid hd
    clear hd
    rcases HD.out.look n hn with ⟨hg, hf, hl⟩ | ⟨x, hg, hf, hl⟩
    · have HG := Lib.hid hg
      have HF := Lib.hid hf
      have HL := Lib.hid hl
      clear hg hf hl
      go_enter Tryz.func37, Tryz.ntmps37
      go_wp2_with fail
      refine (C1 _).mono ?_; rintro e w2 ⟨rfl, rfl⟩
      go_wp2_with fail
      refine (C2).mono ?_; rintro e w2 ⟨rfl, k⟩
      have D2 := HD.out.called k
      have c1 : w2.cell? ⟨p, 1, none⟩ = some (.map (some m)) := by rw [cells_at k.1]; rfl
      have hlk := HL.out w2 D2.own
      have HK := Lib.hid k
      have HD2 := Lib.hid D2
      clear k D2
      go_wp2_with fail
      go_ret2
      exact ⟨HD2.out, HK.out.2, .inr (.inl ⟨HDN.out, HG.out, rfl⟩)⟩
    · have HG := Lib.hid hg
      have HF := Lib.hid hf
      have HL := Lib.hid hl
      clear hg hf hl
      go_enter Tryz.func37, Tryz.ntmps37
      go_wp2_with fail
      refine (C1 _).mono ?_; rintro e w2 ⟨rfl, rfl⟩
      go_wp2_with fail
      refine (C2).mono ?_; rintro e w2 ⟨rfl, k⟩
      have D2 := HD.out.called k
      have c1 : w2.cell? ⟨p, 1, none⟩ = some (.map (some m)) := by rw [cells_at k.1]; rfl
      have hlk := HL.out w2 D2.own
      have HK := Lib.hid k
      have HD2 := Lib.hid D2
      clear k D2
      go_wp2_with fail
      go_ret2
      exact ⟨HD2.out, HK.out.2, .inr (.inr ⟨HDN.out, x, HG.out, HF.out, rfl⟩)⟩
  · have c0 : c = 5 := by rw [HC.out]; simp [St.code, hd]
    subst c0
    have HDN := Lib.hid hd
    clear hd
    go_enter Tryz.func37, Tryz.ntmps37
    go_wp2_with fail
    refine (C1 _).mono ?_; rintro e w2 ⟨rfl, rfl⟩
    go_wp2_with fail
    refine (C2).mono ?_; rintro e w2 ⟨rfl, k⟩
    have D2 := HD.out.called k
    have HK := Lib.hid k
    have HD2 := Lib.hid D2
    clear k D2
    go_wp2_with fail
    go_ret2
    exact ⟨HD2.out, HK.out.2, .inl ⟨HDN.out, rfl⟩⟩
end Go.Proofs.YtjplkmmhjfpdaaaGreatDoor

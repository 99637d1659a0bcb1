/- In one text: Sep, RfsDisk, RfsLook. -/
import Derived.Test.YtignfbdgpgidpaaGreatDoorW02
/- What holds of a world in some of its blocks, and of two parts that lie apart: a call that turns the one part leaves the other. -/
namespace Go.Proofs.YtignfbdgpgidpaaGreatDoor
open Go.RowKit
set_option linter.unusedVariables false
set_option linter.unusedSimpArgs false
set_option maxRecDepth 20000
abbrev Asn := World → (Nat → Prop) → Prop
structure Fr (P : Asn) : Prop where
  fr : ∀ {w w' : World} {B C : Nat → Prop}, P w B → Only C w w' → (∀ b, B b → ¬ C b) → P w' B
  lo : ∀ {w : World} {B : Nat → Prop}, P w B → ∀ b, B b → b < w.heap.size
structure Nx (B : Nat → Prop) (w : World) (B' : Nat → Prop) (w' : World) : Prop where
  only : Only B w w'
  new : ∀ b, B' b → B b ∨ w.heap.size ≤ b
theorem Nx.refl (B : Nat → Prop) (w : World) : Nx B w B w := ⟨Only.refl _ _, fun _ h => .inl h⟩
theorem Nx.trans {B B1 B2 : Nat → Prop} {w w1 w2 : World} (h : Nx B w B1 w1) (k : Nx B1 w1 B2 w2) : Nx B w B2 w2 :=
  ⟨h.only.andThen k.only h.new, fun b hb => by
    rcases k.new b hb with h1 | h1
    · exact h.new b h1
    · exact .inr (Nat.le_trans h.only.size h1)⟩
theorem Nx.gr {B : Nat → Prop} {w w' : World} (g : Gr w w') : Nx B w B w' := ⟨Only.ofGr g, fun _ h => .inl h⟩
theorem Nx.of {B C : Nat → Prop} {w w' : World} (g : Only C w w') (hC : ∀ b, C b → B b) : Nx B w B w' := ⟨g.mono hC, fun _ h => .inl h⟩
def star (P Q : Asn) : Asn := fun w B => ∃ B1 B2, P w B1 ∧ Q w B2 ∧ (∀ b, B1 b → ¬ B2 b) ∧ ∀ b, B b ↔ B1 b ∨ B2 b
theorem Fr.star {P Q : Asn} (h : Fr P) (k : Fr Q) : Fr (star P Q) where
  fr := fun ⟨B1, B2, p, q, a, e⟩ o d => ⟨B1, B2, h.fr p o fun b hb => d b ((e b).2 (.inl hb)), k.fr q o fun b hb => d b ((e b).2 (.inr hb)), a, e⟩
  lo := fun ⟨B1, B2, p, q, a, e⟩ b hb => by
    rcases (e b).1 hb with h1 | h1
    · exact h.lo p b h1
    · exact k.lo q b h1
theorem star_swap {P Q : Asn} {w : World} {B : Nat → Prop} (h : star P Q w B) : star Q P w B := by
  obtain ⟨B1, B2, p, q, a, e⟩ := h
  exact ⟨B2, B1, q, p, fun b h2 h1 => a b h1 h2, fun b => (e b).trans Or.comm⟩
theorem star_left {P Q R : Asn} {w : World} {B : Nat → Prop} (h : star (star P Q) R w B) : star P (star Q R) w B := by
  obtain ⟨B1, B2, ⟨C1, C2, p, q, a1, e1⟩, r, a, e⟩ := h
  refine ⟨C1, fun b => C2 b ∨ B2 b, p, ⟨C2, B2, q, r, fun b h2 => a b ((e1 b).2 (.inr h2)), fun _ => Iff.rfl⟩, fun b h1 h2 => ?_, fun b => ?_⟩
  · rcases h2 with h2 | h2
    · exact a1 b h1 h2
    · exact a b ((e1 b).2 (.inl h1)) h2
  · rw [e b, e1 b, or_assoc]
theorem star_right {P Q R : Asn} {w : World} {B : Nat → Prop} (h : star P (star Q R) w B) : star (star P Q) R w B :=
  star_swap (star_left (star_swap (star_left (star_swap h))))
theorem star_two {P Q R : Asn} {w : World} {B : Nat → Prop} (h : star P (star Q R) w B) : star Q (star P R) w B := by
  obtain ⟨B1, B2, p, ⟨C1, C2, q, r, a1, e1⟩, a, e⟩ := h
  refine ⟨C1, fun b => B1 b ∨ C2 b, q, ⟨B1, C2, p, r, fun b h1 h2 => a b h1 ((e1 b).2 (.inr h2)), fun _ => Iff.rfl⟩, fun b h1 h2 => ?_, fun b => ?_⟩
  · rcases h2 with h2 | h2
    · exact a b h2 ((e1 b).2 (.inl h1))
    · exact a1 b h1 h2
  · rw [e b, e1 b]; exact ⟨fun h => by rcases h with h | h | h <;> simp [h], fun h => by rcases h with h | h | h <;> simp [h]⟩
def Does (w : World) (B : Nat → Prop) (Q : Asn) (v : Value) (e : Ending) (w' : World) : Prop := e = .returned v ∧ ∃ B', Q w' B' ∧ Nx B w B' w'
theorem star_of {Q R : Asn} (hR : Fr R) {w w' : World} {B B1 B2 B' : Nat → Prop} (r : R w B2) (a : ∀ b, B1 b → ¬ B2 b) (e : ∀ b, B b ↔ B1 b ∨ B2 b) (q : Q w' B') (n : Nx B1 w B' w') : ∃ B', star Q R w' B' ∧ Nx B w B' w' := by
  refine ⟨fun b => B' b ∨ B2 b, ⟨B', B2, q, hR.fr r n.only fun b h2 h1 => a b h1 h2, fun b h1 h2 => ?_, fun _ => Iff.rfl⟩, n.only.mono fun b h1 => (e b).2 (.inl h1), fun b hb => ?_⟩
  · rcases n.new b h1 with h3 | h3
    · exact a b h3 h2
    · have := hR.lo r b h2; omega
  · rcases hb with hb | hb
    · rcases n.new b hb with h3 | h3
      · exact .inl ((e b).2 (.inl h3))
      · exact .inr h3
    · exact .inl ((e b).2 (.inr hb))
theorem star_step {P Q R : Asn} (hR : Fr R) {w w' : World} {B : Nat → Prop} (h : star P R w B) (k : ∀ B1, P w B1 → ∃ B', Q w' B' ∧ Nx B1 w B' w') : ∃ B', star Q R w' B' ∧ Nx B w B' w' := by
  obtain ⟨B1, B2, p, r, a, e⟩ := h
  obtain ⟨B', q, n⟩ := k B1 p
  exact star_of hR r a e q n
theorem does_star {Pr : Program} {P Q R : Asn} {w : World} {B : Nat → Prop} {f : FuncId} {args : Array Value} {v : Value} (hR : Fr R) (h : star P R w B) (k : ∀ B1, P w B1 → Calls Pr f args w (Does w B1 Q v)) :
    Calls Pr f args w (Does w B (star Q R) v) := by
  obtain ⟨B1, B2, p, r, a, e⟩ := h
  refine (k B1 p).mono ?_
  rintro x w' ⟨he, B', q, n⟩
  exact ⟨he, star_of hR r a e q n⟩
theorem star_gr {P : Asn} (hP : Fr P) {w w' : World} {B : Nat → Prop} (h : P w B) (g : Gr w w') : P w' B := hP.fr h (Only.ofGr (B := fun _ => False) g) (fun _ _ e => e)
def Blk (p : Nat) (c : Array Value) (T : TypeId) : Asn := fun w B => w.heap[p]? = some (.cells c T (0, 0)) ∧ ∀ b, B b ↔ b = p
theorem fr_blk (p : Nat) (c : Array Value) (T : TypeId) : Fr (Blk p c T) where
  fr := fun ⟨h, e⟩ o d => ⟨by rw [o.block p (lt_of_block h) (d p ((e p).2 rfl))]; exact h, e⟩
  lo := fun ⟨h, e⟩ b hb => by rw [(e b).1 hb]; exact lt_of_block h
theorem Does.imp {w w' : World} {B : Nat → Prop} {Q Q' : Asn} {v : Value} {e : Ending} (h : Does w B Q v e w') (k : ∀ B', Q w' B' → Q' w' B') : Does w B Q' v e w' := by
  obtain ⟨he, B', q, n⟩ := h
  exact ⟨he, B', k _ q, n⟩
def emp : Asn := fun _ B => ∀ b, ¬ B b
theorem fr_emp : Fr emp := ⟨fun h _ _ => h, fun h b hb => absurd hb (h b)⟩
def stars : List Asn → Asn
  | [] => emp
  | P :: L => star P (stars L)
def Frs : List Asn → Prop
  | [] => True
  | P :: L => Fr P ∧ Frs L
theorem fr_stars : ∀ {L : List Asn}, Frs L → Fr (stars L)
  | [], _ => fr_emp
  | _ :: _, h => h.1.star (fr_stars h.2)
theorem does_at {Pr : Program} {f : FuncId} {args : Array Value} {v : Value} {w : World} {P Q : Asn} : ∀ {L : List Asn} (i : Nat) {B : Nat → Prop}, L[i]? = some P → Frs L → stars L w B → (∀ B1, P w B1 → Calls Pr f args w (Does w B1 Q v)) → Calls Pr f args w (Does w B (stars (L.set i Q)) v)
  | [], i, B, hi, _, _, _ => by simp at hi
  | A :: L, 0, B, hi, hF, h, k => by
    obtain rfl : A = P := by simpa using hi
    exact does_star (fr_stars hF.2) h k
  | A :: L, i + 1, B, hi, hF, h, k =>
    (does_star (P := stars L) (Q := stars (L.set i Q)) hF.1 (star_swap h) fun B1 h1 => does_at i (by simpa using hi) hF.2 h1 k).mono fun e w' hd => hd.imp fun B' q => star_swap q
theorem step_at {w w' : World} {P Q : Asn} : ∀ {L : List Asn} (i : Nat) {B : Nat → Prop}, L[i]? = some P → Frs L → stars L w B → (∀ B1, P w B1 → ∃ B', Q w' B' ∧ Nx B1 w B' w') → ∃ B', stars (L.set i Q) w' B' ∧ Nx B w B' w'
  | [], i, B, hi, _, _, _ => by simp at hi
  | A :: L, 0, B, hi, hF, h, k => by
    obtain rfl : A = P := by simpa using hi
    exact star_step (fr_stars hF.2) h k
  | A :: L, i + 1, B, hi, hF, h, k => by
    obtain ⟨B', q, n⟩ := star_step (P := stars L) (Q := stars (L.set i Q)) hF.1 (star_swap h) fun B1 h1 => step_at i (by simpa using hi) hF.2 h1 k
    exact ⟨B', star_swap q, n⟩
theorem part_at {w : World} {P : Asn} : ∀ {L : List Asn} (i : Nat) {B : Nat → Prop}, L[i]? = some P → stars L w B → ∃ B1, P w B1 ∧ ∀ b, B1 b → B b
  | [], i, B, hi, _ => by simp at hi
  | A :: L, 0, B, hi, h => by
    obtain rfl : A = P := by simpa using hi
    obtain ⟨B1, B2, p, _, _, e⟩ := h
    exact ⟨B1, p, fun b hb => (e b).2 (.inl hb)⟩
  | A :: L, i + 1, B, hi, h => by
    obtain ⟨B1, B2, _, q, _, e⟩ := h
    obtain ⟨B3, p, hB⟩ := part_at i (by simpa using hi) q
    exact ⟨B3, p, fun b hb => (e b).2 (.inr (hB b hb))⟩
theorem stars_gr {L : List Asn} (hF : Frs L) {w w' : World} {B : Nat → Prop} (h : stars L w B) (g : Gr w w') : stars L w' B := star_gr (fr_stars hF) h g
theorem stars_app : ∀ {L M : List Asn} {w : World} {B : Nat → Prop}, stars (L ++ M) w B ↔ star (stars L) (stars M) w B
  | [], M, w, B => ⟨fun h => ⟨fun _ => False, B, (fun b h => h), h, (fun b h => h.elim), fun b => (false_or _).symm ▸ Iff.rfl⟩, fun ⟨B1, B2, p, q, _, e⟩ => by
      have : B2 = B := by funext b; rw [eq_iff_iff, e b]; exact ⟨.inr, fun h => h.resolve_left (p b)⟩
      rw [← this]; exact q⟩
  | A :: L, M, w, B => ⟨fun ⟨B1, B2, p, q, a, e⟩ => star_right ⟨B1, B2, p, stars_app.1 q, a, e⟩, fun h => by
      obtain ⟨B1, B2, p, q, a, e⟩ := star_left h
      exact ⟨B1, B2, p, stars_app.2 q, a, e⟩⟩
theorem does_pre {Pr : Program} {f : FuncId} {args : Array Value} {v : Value} {w : World} {B : Nat → Prop} (L : List Asn) {L' M : List Asn} (hM : Frs M) (h : stars (L ++ M) w B) (k : ∀ B1, stars L w B1 → Calls Pr f args w (Does w B1 (stars L') v)) : Calls Pr f args w (Does w B (stars (L' ++ M)) v) :=
  (does_star (fr_stars hM) (stars_app.1 h) k).mono fun e w' hd => hd.imp fun B' q => stars_app.2 q
theorem pre_next {w : World} {B : Nat → Prop} (L : List Asn) {M : List Asn} (hM : Frs M) (h : stars (L ++ M) w B) : ∃ B1, stars L w B1 ∧ ∀ {L' : List Asn} {w' : World} {B' : Nat → Prop}, stars L' w' B' → Nx B1 w B' w' → ∃ B3, stars (L' ++ M) w' B3 ∧ Nx B w B3 w' := by
  obtain ⟨B1, B2, h1, h2, a, e⟩ := stars_app.1 h
  refine ⟨B1, h1, fun {L' w' B'} q n => ?_⟩
  obtain ⟨B3, r, n3⟩ := star_of (fr_stars hM) h2 a e q n
  exact ⟨B3, stars_app.2 r, n3⟩
theorem part_new {w w' : World} {P : Asn} {L : List Asn} {B B' : Nat → Prop} (hL : Frs L) (h : stars L w B) (g : Gr w w') (p : P w' B') (hn : ∀ b, B' b → w.heap.size ≤ b) : ∃ B2, stars (P :: L) w' B2 ∧ Nx B w B2 w' :=
  ⟨fun b => B' b ∨ B b, ⟨B', B, p, stars_gr hL h g, fun b h1 h2 => by have := hn b h1; have := (fr_stars hL).lo h b h2; omega, fun _ => Iff.rfl⟩, Only.ofGr g, fun b hb => hb.elim (fun h1 => .inr (hn b h1)) .inl⟩
theorem stars_perm {L M : List Asn} (h : L.Perm M) : ∀ {w : World} {B : Nat → Prop}, stars L w B → stars M w B := by
  induction h with
  | nil => exact fun h => h
  | cons P _ ih => exact fun ⟨B1, B2, p, q, a, e⟩ => ⟨B1, B2, p, ih q, a, e⟩
  | swap P Q L => exact fun h => star_two h
  | trans _ _ h1 h2 => exact fun h => h2 (h1 h)
theorem nx_gr {w w' : World} {B : Nat → Prop} (h : Nx (fun _ => False) w B w') : Gr w w' := h.only.toBelow (Nat.le_refl _) fun _ h => h.elim
end Go.Proofs.YtignfbdgpgidpaaGreatDoor
/- The document's disk: its block, a call, a file's place. -/
namespace Go.Proofs.YtignfbdgpgidpaaGreatDoor
open Go.RowKit FsPlain
set_option linter.unusedVariables false
set_option linter.unusedSimpArgs false
set_option maxRecDepth 20000
def rcells (s : St) (v : Value) : Array Value := #[.int .i64 s.room, v, .int .i64 s.ahead, .bool s.down, .int .i64 s.calls]
theorem FLies.only {w w' : World} {v : Value} {l : List F} {d : Nat} {s : St} {u : Value} (h : FLies w v l) (hd : w.heap[d]? = some (.cells (rcells s u) 87 (0, 0))) (hu : ∃ a n c, u = .slice a n c) (g : Only (fun i => i = d) w w') : FLies w' v l := by
  rcases h with h | ⟨b, off, c, rfl, hc, hb, hl⟩
  · exact .inl h
  · refine .inr ⟨b, off, c, rfl, hc, Nat.lt_of_lt_of_le hb g.size, fun j x hj => ?_⟩
    by_cases hbd : b = d
    · exfalso
      subst hbd
      cases l with
      | nil => simp [fall3] at hj
      | cons f r =>
        have h0 := hl 0 (.string (bs f.name)) rfl
        rw [cells_at hd] at h0
        obtain ⟨a, n, c, rfl⟩ := hu
        unfold rcells at h0
        rw [Nat.add_zero] at h0
        match off, h0 with
        | 0, h => simp at h
        | 1, h => simp at h
        | 2, h => simp at h
        | 3, h => simp at h
        | 4, h => simp at h
        | off + 5, h => simp at h
    · rw [g.cell (p := ⟨b, off + j, none⟩) hb hbd]; exact hl j x hj
def RAt (w : World) (d : Nat) (s : St) (v : Value) : Prop := w.heap[d]? = some (.cells (rcells s v) 87 (0, 0)) ∧ FLies w v s.fs
def RB (w : World) (d : Nat) (v : Value) (B : Nat → Prop) : Prop := (∀ x, B x → x < w.heap.size) ∧ B d ∧ ∀ x, v.ownBlock = some x → B x
def RDisk (w : World) (d : Nat) (s : St) (B : Nat → Prop) : Prop := s.ok ∧ SortF s.fs ∧ ∃ v, RAt w d s v ∧ RB w d v B
theorem FLies.slice {w : World} {v : Value} {l : List F} (h : FLies w v l) : ∃ a c, v = .slice a l.length c := by
  rcases h with ⟨rfl, rfl⟩ | ⟨b, off, c, rfl, _⟩
  · exact ⟨_, _, rfl⟩
  · exact ⟨_, _, rfl⟩
theorem RAt.gr {w w' : World} {d : Nat} {s : St} {v : Value} (h : RAt w d s v) (g : Gr w w') : RAt w' d s v :=
  ⟨by rw [g.block d (blk_lt2 h.1)]; exact h.1, h.2.gr g⟩
theorem RAt.put {w w' : World} {d : Nat} {s s' : St} {v v' : Value} (h : RAt w d s v) (hv : FLies w v' s'.fs) (g : Only (fun i => i = d) w w') (hh : w'.heap[d]? = some (.cells (rcells s' v') 87 (0, 0))) : RAt w' d s' v' := by
  obtain ⟨a, c, e⟩ := h.2.slice
  exact ⟨hh, hv.only h.1 ⟨a, _, c, e⟩ g⟩
theorem RAt.slice_lt {w : World} {d : Nat} {s : St} {v : Value} (h : RAt w d s v) : ∀ x, v.ownBlock = some x → x < w.heap.size := by
  intro x hx
  rcases h.2 with ⟨_, rfl⟩ | ⟨b, off, c, rfl, _, hb, _⟩
  · cases hx
  · simp [Value.ownBlock] at hx; subst hx; exact hb
theorem RAt.only {w w' : World} {d : Nat} {s : St} {v : Value} {B C : Nat → Prop} (h : RAt w d s v) (hB : RB w d v B) (g : Only C w w') (hC : ∀ b, B b → ¬ C b) : RAt w' d s v := by
  refine ⟨by rw [g.block d (blk_lt2 h.1) (hC d hB.2.1)]; exact h.1, ?_⟩
  rcases h.2 with h2 | ⟨b, off, c, rfl, hc, hb, hl⟩
  · exact .inl h2
  · exact .inr ⟨b, off, c, rfl, hc, Nat.lt_of_lt_of_le hb g.size, fun j x hj => by rw [g.cell (p := ⟨b, off + j, none⟩) hb (hC b (hB.2.2 b rfl))]; exact hl j x hj⟩
def RDiskA (d : Nat) (s : St) : Asn := fun w B => RDisk w d s B
theorem fr_rdisk (d : Nat) (s : St) : Fr (RDiskA d s) where
  fr := fun ⟨h0, h1, v, h, hB⟩ g hC => ⟨h0, h1, v, h.only hB g hC, fun x hx => Nat.lt_of_lt_of_le (hB.1 x hx) g.size, hB.2⟩
  lo := fun ⟨_, _, _, _, hB⟩ => hB.1
theorem rd_keep {w w' : World} {d : Nat} {s' : St} {v : Value} {B : Nat → Prop} (hB : RB w d v B) (hok : s'.ok) (hs : SortF s'.fs) (h : RAt w' d s' v) (g : Only (fun i => i = d) w w') : ∃ B', RDiskA d s' w' B' ∧ Nx B w B' w' :=
  ⟨B, ⟨hok, hs, v, h, fun x hx => Nat.lt_of_lt_of_le (hB.1 x hx) g.size, hB.2⟩, Nx.of g fun b hb => by rw [hb]; exact hB.2.1⟩
theorem rd_new {w w' : World} {d : Nat} {s' : St} {v v' : Value} {B : Nat → Prop} (hB : RB w d v B) (hok : s'.ok) (hs : SortF s'.fs) (h : RAt w' d s' v') (g : Only (fun i => i = d) w w') (hn : NewV w v') : ∃ B', RDiskA d s' w' B' ∧ Nx B w B' w' := by
  refine ⟨fun x => x = d ∨ v'.ownBlock = some x, ⟨hok, hs, v', h, fun x hx => ?_, .inl rfl, fun x hx => .inr hx⟩, g.mono fun b hb => by rw [hb]; exact hB.2.1, fun x hx => ?_⟩
  · rcases hx with rfl | hx
    · exact blk_lt2 h.1
    · exact h.slice_lt x hx
  · rcases hx with rfl | hx
    · exact .inl hB.2.1
    · exact .inr (hn x hx)
def RCalled (d : Nat) (s : St) (v : Value) (w w' : World) : Prop := w'.heap[d]? = some (.cells (rcells s.call v) 87 (0, 0)) ∧ Only (fun i => i = d) w w'
theorem rcalled_of {p : Nat} {s : St} {v : Value} {w : World} (h : w.heap[p]? = some (.cells (rcells s v) 87 (0, 0))) {c a : Int} {d : Bool} (hc : c = s.calls + 1) (ha : a = max (s.ahead - 1) (-1)) (hd : d = (s.down || decide (s.ahead = 0))) :
    RCalled p s v w (((w.setCell ⟨p, 4, none⟩ (.int .i64 c)).setCell ⟨p, 3, none⟩ (.bool d)).setCell ⟨p, 2, none⟩ (.int .i64 a)) := by
  subst hc ha hd
  refine ⟨?_, ?_⟩
  · rw [cells_set (cells_set (cells_set h 4 _) 3 _) 2 _]; rfl
  · exact ((Only.cell1 _ _ _ _).trans (Only.cell1 _ _ _ _)).trans (Only.cell1 _ _ _ _)
theorem rcalled_of2 {p : Nat} {s : St} {v : Value} {w : World} (h : w.heap[p]? = some (.cells (rcells s v) 87 (0, 0))) {c a : Int} (hc : c = s.calls + 1) (ha : a = max (s.ahead - 1) (-1)) (hd : s.ahead ≠ 0) :
    RCalled p s v w ((w.setCell ⟨p, 4, none⟩ (.int .i64 c)).setCell ⟨p, 2, none⟩ (.int .i64 a)) := by
  subst hc ha
  refine ⟨?_, ?_⟩
  · rw [cells_set (cells_set h 4 _) 2 _]
    unfold rcells St.call
    simp [hd]
  · exact (Only.cell1 _ _ _ _).trans (Only.cell1 _ _ _ _)
theorem rcall_no (p : Nat) (w : World) :
    Calls Tryz.prog 60 #[.pointer (some ⟨p, 0, none⟩), .bool false] w fun e w' => e = .returned (.int .i64 1) ∧ w = w' := by
  go_enter Tryz.func60, Tryz.ntmps60
  go_wp2_with fail
  go_ret
  exact ⟨rfl, rfl⟩
set_option maxRecDepth 20000 in
set_option maxHeartbeats 1000000 in
theorem rcall_yes (p : Nat) (s : St) (v : Value) (w : World) (h : w.heap[p]? = some (.cells (rcells s v) 87 (0, 0))) (h0 : 0 ≤ s.calls) (h1 : s.calls ≤ 1000000000000) (a0 : -1 ≤ s.ahead) (a1 : s.ahead ≤ 9223372036854775807) :
    Calls Tryz.prog 60 #[.pointer (some ⟨p, 0, none⟩), .bool true] w fun e w' => e = .returned (.int .i64 s.call.code) ∧ RCalled p s v w w' := by
  have c2 : w.cell? ⟨p, 2, none⟩ = some (.int .i64 s.ahead) := by rw [cells_at h]; rfl
  have c3 : w.cell? ⟨p, 3, none⟩ = some (.bool s.down) := by rw [cells_at h]; rfl
  have c4 : w.cell? ⟨p, 4, none⟩ = some (.int .i64 s.calls) := by rw [cells_at h]; rfl
  have f2 := cells_free h 2
  have f3 := cells_free h 3
  have f4 := cells_free h 4
  have HK1 := Lib.hid (fun c d a => rcalled_of (c := c) (d := d) (a := a) h)
  have HK2 := Lib.hid (fun c a => rcalled_of2 (c := c) (a := a) h)
  clear h
  by_cases ha : s.ahead = 0
  · have t1 : (s.ahead == 0) = true := by simp [ha]
    go_enter Tryz.func60, Tryz.ntmps60
    go_wp2_with fail
    go_ret
    exact ⟨ret_i (by simp [St.code, St.call, ha]), HK1.out _ _ _ rfl (by omega) (by simp [ha])⟩
  · have t1 : (s.ahead == 0) = false := by simp [ha]
    cases hd : s.down
    · go_enter Tryz.func60, Tryz.ntmps60
      go_wp2_with fail
      all_goals
        go_ret
        exact ⟨ret_i (by simp [St.code, St.call, ha, hd]), HK2.out _ _ rfl (by omega) ha⟩
    · go_enter Tryz.func60, Tryz.ntmps60
      go_wp2_with fail
      all_goals
        go_ret
        exact ⟨ret_i (by simp [St.code, St.call, ha, hd]), HK2.out _ _ rfl (by omega) ha⟩
end Go.Proofs.YtignfbdgpgidpaaGreatDoor
/- The document's disk: a file's place, its bytes, what is used. -/
namespace Go.Proofs.YtignfbdgpgidpaaGreatDoor
open Go.RowKit FsPlain
set_option linter.unusedVariables false
set_option linter.unusedSimpArgs false
set_option maxRecDepth 20000
def placeF (n : List UInt8) (l : List F) : Int := if l.any (fun y => y.name == n) then (l.findIdx (fun y => y.name == n) : Int) else -1
theorem place_none {n : List UInt8} {l : List F} (h : ∀ y ∈ l, y.name ≠ n) : placeF n l = -1 := by
  unfold placeF
  rw [if_neg (by simpa using h)]
theorem place_some {n : List UInt8} {l : List F} {k : Nat} {y : F} (h : ∀ y ∈ l.take k, y.name ≠ n) (hy : l[k]? = some y) (hn : y.name = n) : placeF n l = k := by
  have hk := (List.getElem?_eq_some_iff.1 hy).1
  have hs : l = l.take k ++ y :: l.drop (k + 1) := by
    conv => lhs; rw [← List.take_append_drop k l]
    congr 1
    rw [List.drop_eq_getElem_cons hk]
    rw [(List.getElem?_eq_some_iff.1 hy).2]
  unfold placeF
  rw [if_pos (by simp only [List.any_eq_true]; exact ⟨y, List.mem_of_getElem? hy, by simp [hn]⟩)]
  rw [hs, List.findIdx_append, if_neg]
  · have : (l.take k).length = k := by rw [List.length_take]; omega
    rw [List.findIdx_cons]; simp [hn]; omega
  · rw [List.findIdx_lt_length]; simpa using h
theorem str_eq (a b : List UInt8) : ((bs a).toList == (bs b).toList) = decide (a = b) := by rw [Lib.toList_data, Lib.toList_data]; by_cases h : a = b <;> simp [bs, h]
def PlAt (n : List UInt8) (l : List F) (w : World) (i : Value) (wr : World) : Prop := ∃ k : Nat, k ≤ l.length ∧ i = .int .i64 k ∧ (∀ y ∈ l.take k, y.name ≠ n) ∧ Gr w wr
set_option maxRecDepth 20000 in
set_option maxHeartbeats 4000000 in
theorem rat_some (d : Nat) (s : St) (nm : List UInt8) (b off c : Nat) (w : World) (hm : s.fs.length ≤ 300) (hd : w.heap[d]? = some (.cells (rcells s (.slice (some ⟨b, off, none⟩) s.fs.length c)) 87 (0, 0))) (hc : s.fs.length ≤ c) (hr : FCells w b off s.fs) :
    Calls Tryz.prog 64 #[.pointer (some ⟨d, 0, none⟩), .string (bs nm)] w fun e w' => e = .returned (.int .i64 (placeF nm s.fs)) ∧ Gr w w' := by
  have hst : PlAt nm s.fs w (.int .i64 0) w := ⟨0, Nat.zero_le _, rfl, by simp, Gr.refl _⟩
  obtain ⟨l, hl⟩ : ∃ l, s.fs = l := ⟨_, rfl⟩
  rw [hl] at hd hc hr hst ⊢ hm
  obtain ⟨n, hn⟩ : ∃ n, l.length = n := ⟨_, rfl⟩
  have HN := Lib.hid hn
  have HR := Lib.hid hr
  have HD := Lib.hid hd
  have HST := Lib.hid hst
  rw [hn] at hc hm
  clear hn hr hst hd hl
  go_enter Tryz.func64, Tryz.ntmps64
  go_wp2_with fail
  go_loopw [5] (fun i wr => PlAt nm l w i wr) (fun i _ => n - (intOf i).toNat)
  case atStart => exact HST.out
  case round =>
    obtain ⟨k, hk, rfl, hls, hg⟩ := hrel
    have hln := HN.out
    have c1 : wr.cell? ⟨d, 1, none⟩ = some (.slice (some ⟨b, off, none⟩) n c) := by rw [cells_at (by rw [hg.block d (blk_lt2 HD.out)]; exact HD.out)]; rw [← hln]; rfl
    have HG := Lib.hid hg
    by_cases hlt : k < n
    · obtain ⟨y, hy⟩ : ∃ y, l[k]? = some y := ⟨_, List.getElem?_eq_getElem (by omega)⟩
      obtain ⟨q0, q1, q2⟩ := fall3_at l k y hy
      have hrw := HR.out.gr hg
      rw [Nat.mul_comm 3 k] at q0
      have y0 := hrw.2 _ _ q0
      have htk : l.take (k + 1) = l.take k ++ [y] := by rw [List.take_add_one, hy]; rfl
      have HTK := Lib.hid htk
      have HY := Lib.hid hy
      have HLS := Lib.hid hls
      clear hy q0 q1 q2 hrw htk hls hg
      by_cases heq : y.name = nm
      · have hbe : ((bs y.name).toList == (bs nm).toList) = true := by rw [str_eq]; simp [heq]
        go_wp2_with fail
        go_ret
        exact ⟨ret_i (place_some HLS.out HY.out heq).symm, HG.out⟩
      · have hbe : ((bs y.name).toList == (bs nm).toList) = false := by rw [str_eq]; simp [heq]
        go_wp2_with fail
        refine ⟨⟨k + 1, by omega, by simp, ?_, HG.out⟩, ?_⟩
        · rw [HTK.out]
          intro z hz
          rcases List.mem_append.1 hz with h | h
          · exact HLS.out z h
          · rw [List.mem_singleton.1 h]; exact heq
        · simp [intOf]; omega
    · have hall : ∀ y ∈ l, y.name ≠ nm := by
        have : l.take k = l := List.take_of_length_le (by omega)
        rwa [this] at hls
      have hp := Lib.hid (place_none hall)
      clear hls hg hall
      go_wp2_with fail
      go_ret
      exact ⟨ret_i hp.out.symm, HG.out⟩
theorem rat_nil (d : Nat) (s : St) (nm : List UInt8) (w : World) (hm : s.fs = []) (hd : w.heap[d]? = some (.cells (rcells s (.slice none 0 0)) 87 (0, 0))) :
    Calls Tryz.prog 64 #[.pointer (some ⟨d, 0, none⟩), .string (bs nm)] w fun e w' => e = .returned (.int .i64 (-1)) ∧ Gr w w' := by
  have c1 : w.cell? ⟨d, 1, none⟩ = some (.slice none 0 0) := by rw [cells_at hd]; rfl
  clear hd
  go_enter Tryz.func64, Tryz.ntmps64
  go_wp2_with fail
  go_loopw [5] (fun i wr => i = .int .i64 0 ∧ wr = w) (fun i _ => 0)
  case atStart => exact ⟨rfl, rfl⟩
  case round =>
    obtain ⟨rfl, rfl⟩ := hrel
    go_wp2_with fail
    go_ret
    exact ⟨rfl, Gr.refl _⟩
theorem rat_c (d : Nat) (s : St) (nm : List UInt8) (v : Value) (w : World) (hm : s.fs.length ≤ 300) (h : RAt w d s v) :
    Calls Tryz.prog 64 #[.pointer (some ⟨d, 0, none⟩), .string (bs nm)] w fun e w' => e = .returned (.int .i64 (placeF nm s.fs)) ∧ Gr w w' := by
  obtain ⟨hd, ⟨h1, rfl⟩ | ⟨b, off, c, rfl, hc, hr⟩⟩ := h
  · rw [h1, place_none (by simp)]; exact rat_nil d s nm w h1 hd
  · exact rat_some d s nm b off c w hm hd hc hr
end Go.Proofs.YtignfbdgpgidpaaGreatDoor

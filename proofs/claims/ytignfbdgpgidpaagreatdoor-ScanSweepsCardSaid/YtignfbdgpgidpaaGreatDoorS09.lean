/- In one text: RfsOut, RfsFacts, ScPlain, Row, Parts, SlPart. -/
import Derived.Test.YtignfbdgpgidpaaGreatDoorS08
import Derived.WideAt
import Derived.WideShapes
import Derived.Test.YtignfbdgpgidpaaGreatDoorS06
import Derived.Test.YtignfbdgpgidpaaGreatDoorS07
import Derived.Test.YtignfbdgpgidpaaGreatDoorS05
import Derived.Maps.AppendAt
/- The document's disk: files without one, and a file's place. -/
namespace Go.Proofs.YtignfbdgpgidpaaGreatDoor
open Go.RowKit FsPlain
set_option linter.unusedVariables false
set_option linter.unusedSimpArgs false
set_option maxRecDepth 20000
def outF (n : List UInt8) (l : List F) : List F := l.filter fun y => decide (y.name ≠ n)
def OutAt (n : List UInt8) (l : List F) (w : World) (out i : Value) (wr : World) : Prop :=
  ∃ k : Nat, k ≤ l.length ∧ i = .int .i64 k ∧ wr.ownsRow w.heap.size 56 3 out (outF n (l.take k)).length (fall3 (outF n (l.take k))) ∧ Below w.heap.size w wr
theorem outF_len (n : List UInt8) (l : List F) (k : Nat) : (outF n (l.take k)).length ≤ l.length := by
  refine Nat.le_trans (List.length_filter_le _ _) ?_
  rw [List.length_take]; omega
set_option maxRecDepth 20000 in
set_option maxHeartbeats 4000000 in
theorem out_some (nm : List UInt8) (l : List F) (b off c : Nat) (w : World) (hl : l.length ≤ 300) (hc : l.length ≤ c) (hr : FCells w b off l) :
    Calls Tryz.prog 65 #[.slice (some ⟨b, off, none⟩) l.length c, .string (bs nm)] w fun e w' => ∃ v, e = .returned v ∧ FLies w' v (outF nm l) ∧ Gr w w' ∧ NewV w v := by
  have hst : OutAt nm l w (.slice none 0 0) (.int .i64 0) w := ⟨0, Nat.zero_le _, rfl, World.ownsRow_nil _ _ _ _, Below.refl _ _⟩
  obtain ⟨n, hn⟩ : ∃ n, l.length = n := ⟨_, rfl⟩
  have HN := Lib.hid hn
  have HR := Lib.hid hr
  have HST := Lib.hid hst
  rw [hn] at hl hc ⊢
  clear hn hr hst
  go_enter Tryz.func65, Tryz.ntmps65
  go_wp2_with fail
  go_loopw [5, 6] (fun o i wr => OutAt nm l w o i wr) (fun _ i _ => n - (intOf i).toNat)
  case atStart => exact HST.out
  case round =>
    obtain ⟨k, hk, rfl, ho, hb⟩ := hrel
    have hln := HN.out
    obtain ⟨i0, hi, hz0, hz1, hz2⟩ := info_parts infoF
    have HB := Lib.hid hb
    have HO := Lib.hid ho
    by_cases hlt : k < n
    · obtain ⟨y, hy⟩ : ∃ y, l[k]? = some y := ⟨_, List.getElem?_eq_getElem (by omega)⟩
      obtain ⟨q0, q1, q2⟩ := fall3_at l k y hy
      have hrw := HR.out.gr (Gr.of hb)
      rw [Nat.mul_comm 3 k] at q0 q1 q2
      have y0 := hrw.2 _ _ q0
      have y1 := hrw.2 _ _ q1
      have y2 := hrw.2 _ _ q2
      rw [← Nat.add_assoc] at y1 y2
      have htk : l.take (k + 1) = l.take k ++ [y] := by rw [List.take_add_one, hy]; rfl
      have HTK := Lib.hid htk
      have hle := outF_len nm l k
      clear hy q0 q1 q2 hrw hb ho htk
      by_cases heq : y.name = nm
      · have hf := Lib.hid (show outF nm (l.take (k + 1)) = outF nm (l.take k) by rw [HTK.out]; simp [outF, heq])
        subst heq
        go_wp2_with fail
        refine ⟨⟨k + 1, by omega, by simp, ?_, HB.out⟩, ?_⟩
        · rw [hf.out]; exact HO.out
        · simp [intOf]; omega
      · have hbe : ((bs y.name).toList == (bs nm).toList) = false := by rw [Lib.toList_data, Lib.toList_data]; simp [bs, heq]
        have hf := Lib.hid (show outF nm (l.take (k + 1)) = outF nm (l.take k) ++ [y] by rw [HTK.out]; simp [outF, heq])
        obtain ⟨V, hV⟩ : ∃ V, V = wr := ⟨_, rfl⟩
        rw [← hV]
        have hoV : V.ownsRow w.heap.size 56 3 u5 (outF nm (l.take k)).length (fall3 (outF nm (l.take k))) := by rw [hV]; exact HO.out
        have HBV := Lib.hid (show Below w.heap.size w V by rw [hV]; exact HB.out)
        have z0 : V.cell? ⟨b, off + k * 3, none⟩ = some (.string (bs y.name)) := by rw [hV]; exact y0
        have z1 : V.cell? ⟨b, off + k * 3 + 1, none⟩ = some (.string (bs y.data)) := by rw [hV]; exact y1
        have z2 : V.cell? ⟨b, off + k * 3 + 2, none⟩ = some (.int .i64 (y.kept : Int)) := by rw [hV]; exact y2
        have hVs := HBV.out.size
        clear hV y0 y1 y2
        go_wp2_with (first | (at_builtin; refine wpList_append_own _ rfl _ _ 22 rfl w.heap.size 56 i0 (.agg #[.string ⟨#[]⟩, .string ⟨#[]⟩, .int .i64 0]) 3 40 Tryz.underlying22 hi hz0 hz1 hz2 rfl (by decide) _ _ _ rfl (hoV.alloc _) ⟨V.heap.size, 0, none⟩ 1 1 (fcells y) rfl rfl ?c1 ?c2 (by unfold maxLen; omega) (by omega) (by rw [World.size_alloc]; omega) ?_) | go_in)
        case c1 =>
          intro jj u hj
          match jj, hj with
          | 0, hj => simp [fcells] at hj; subst hj; simp [Addr.add]
          | 1, hj => simp [fcells] at hj; subst hj; simp [Addr.add]
          | 2, hj => simp [fcells] at hj; subst hj; simp [Addr.add]
        case c2 => intro u hu; simp [fcells] at hu; rcases hu with rfl | rfl | rfl <;> rfl
        intro v' w' hw hg _
        have HB' := Lib.hid ((HBV.out.alloc hVs _).grown hg (by simp only [World.size_alloc]; omega) (fun q hq => (hoV.lt q hq).1))
        have HO' := Lib.hid hw
        clear hw hg z0 z1 z2 hoV
        go_wp2_with fail
        refine ⟨⟨k + 1, by omega, by simp, ?_, HB'.out⟩, ?_⟩
        · rw [hf.out, fall3_snoc, List.length_append]; exact HO'.out
        · simp [intOf]; omega
    · have hkn : k = n := by omega
      have he := Lib.hid (show outF nm (l.take k) = outF nm l by rw [hkn, ← hln, List.take_length])
      clear hb ho
      go_wp2_with fail
      go_ret
      have h1 := HO.out
      rw [he.out] at h1
      exact ⟨_, rfl, flies_own h1, Gr.of HB.out, fun x hx => (HO.out.lt x hx).1⟩
theorem out_nil (nm : List UInt8) (w : World) : Calls Tryz.prog 65 #[.slice none 0 0, .string (bs nm)] w fun e w' => ∃ v, e = .returned v ∧ FLies w' v [] ∧ Gr w w' ∧ NewV w v := by
  go_enter Tryz.func65, Tryz.ntmps65
  go_wp2_with fail
  go_loopw [5, 6] (fun o i wr => o = .slice none 0 0 ∧ i = .int .i64 0 ∧ wr = w) (fun _ i _ => 0)
  case atStart => exact ⟨rfl, rfl, rfl⟩
  case round =>
    obtain ⟨rfl, rfl, rfl⟩ := hrel
    go_wp2_with fail
    go_ret
    exact ⟨_, rfl, .inl ⟨rfl, rfl⟩, Gr.refl _, fun x hx => by cases hx⟩
theorem out_c (nm : List UInt8) (l : List F) (v : Value) (w : World) (hl : l.length ≤ 300) (h : FLies w v l) : Calls Tryz.prog 65 #[v, .string (bs nm)] w fun e w' => ∃ v, e = .returned v ∧ FLies w' v (outF nm l) ∧ Gr w w' ∧ NewV w v := by
  rcases h with ⟨rfl, rfl⟩ | ⟨b, off, c, rfl, hc, hr⟩
  · exact out_nil nm w
  · exact out_some nm l b off c w hl hc hr
end Go.Proofs.YtignfbdgpgidpaaGreatDoor
/- Plain facts on files by their names' order. -/
namespace Go.Proofs.YtignfbdgpgidpaaGreatDoor
open FsPlain Go.WideAt
set_option linter.unusedVariables false
set_option linter.unusedSimpArgs false
set_option maxRecDepth 20000
theorem less_before : ∀ a b : List UInt8, Op.bytesLess a b = bytesBefore a b
  | [], [] => rfl
  | [], _ :: _ => rfl
  | _ :: _, [] => rfl
  | a :: r, b :: t => by unfold Op.bytesLess bytesBefore; rw [less_before r t]
theorem lessF_before (a b : F) : lessF a b = bytesBefore a.name b.name := less_before _ _
theorem lessF_irrefl (a : F) : lessF a a = false := by rw [lessF_before]; exact bytes_irrefl _
theorem lessF_trans {a b c : F} (h : lessF a b = true) (k : lessF b c = true) : lessF a c = true := by rw [lessF_before] at *; exact WideShapes.bytes_trans _ _ _ h k
theorem lessF_asymm {a b : F} (h : lessF a b = true) : lessF b a = false := by
  cases k : lessF b a
  · rfl
  · have := lessF_trans h k; rw [lessF_irrefl] at this; cases this
theorem lessF_name {a b c : F} (h : b.name = c.name) : lessF a b = lessF a c := by unfold lessF; rw [h]
theorem lessF_name' {a b c : F} (h : b.name = c.name) : lessF b a = lessF c a := by unfold lessF; rw [h]
def SortF (l : List F) : Prop := l.Pairwise fun a b => lessF a b = true
theorem ins_put (f : F) : ∀ l : List F, (∀ y ∈ l, y.name ≠ f.name) → insF f l = putF f l
  | [], _ => rfl
  | y :: r, h => by
    have hb : (Lit.string f.name).before (.string y.name) = bytesBefore f.name y.name := rfl
    unfold insF
    by_cases hc : bytesBefore f.name y.name = true
    · rw [if_pos (by rw [hb]; exact hc)]
      have : lessF y f = false := lessF_asymm (by rw [lessF_before]; exact hc)
      unfold putF
      simp [this]
    · rw [if_neg (by rw [hb]; exact hc), ins_put f r fun z hz => h z (List.mem_cons_of_mem _ hz)]
      have : lessF y f = true := by
        rw [lessF_before]
        exact (bytes_total y.name f.name (h y (List.mem_cons_self ..))).resolve_right hc
      unfold putF
      simp [this]
theorem put_mid {f : F} {A C : List F} (hA : ∀ y ∈ A, lessF y f = true) (hC : ∀ y ∈ C, lessF f y = true) : putF f (A ++ C) = A ++ f :: C := by
  have h1 : (A ++ C).take A.length = A := by simp
  have h2 : (A ++ C).drop A.length = C := by simp
  have := putF_at (f := f) (l := A ++ C) (k := A.length) (by rw [h1]; exact hA) (fun y hy => by
    rw [List.getElem?_append_right (Nat.le_refl _), Nat.sub_self] at hy
    exact lessF_asymm (hC y (List.mem_of_getElem? hy)))
  rw [h1, h2] at this
  exact this
theorem out_mid {n : List UInt8} {f : F} {A C : List F} (hf : f.name = n) (hA : ∀ y ∈ A, y.name ≠ n) (hC : ∀ y ∈ C, y.name ≠ n) : outF n (A ++ f :: C) = A ++ C := by
  have e : ∀ l : List F, (∀ y ∈ l, y.name ≠ n) → outF n l = l := fun l h => List.filter_eq_self.2 fun y hy => by simpa using h y hy
  unfold outF
  rw [List.filter_append, List.filter_cons_of_neg (by simp [hf])]
  have := e A hA
  have := e C hC
  unfold outF at *
  simp only [*]
theorem upd_put {s : St} (h : s.ok) (hs : SortF s.fs) {n : List UInt8} {f : F} (hf : s.get n = some f) (g : F → F) (hg : (g f).name = f.name) : putF (g f) (outF n s.fs) = (s.upd n g).fs ∧ SortF (s.upd n g).fs := by
  obtain ⟨A, C, he, hn, hA, hC, hu⟩ := get_split h hf
  unfold SortF at hs
  rw [he] at hs
  have hp := List.pairwise_append.1 hs
  have h1 : ∀ y ∈ A, lessF y (g f) = true := fun y hy => by rw [lessF_name hg]; exact hp.2.2 y hy f (List.mem_cons_self ..)
  have h2 : ∀ y ∈ C, lessF (g f) y = true := fun y hy => by rw [lessF_name' hg]; exact (List.pairwise_cons.1 hp.2.1).1 y hy
  rw [hu g, he, out_mid hn hA hC]
  refine ⟨put_mid h1 h2, ?_⟩
  unfold SortF
  refine List.pairwise_append.2 ⟨hp.1, List.pairwise_cons.2 ⟨h2, (List.pairwise_cons.1 hp.2.1).2⟩, fun a ha b hb => ?_⟩
  rcases List.mem_cons.1 hb with rfl | hb
  · exact h1 a ha
  · exact hp.2.2 a ha b (List.mem_cons_of_mem _ hb)
theorem sort_put {f : F} : ∀ {l : List F}, SortF l → (∀ y ∈ l, y.name ≠ f.name) → SortF (putF f l)
  | [], _, _ => List.pairwise_singleton _ _
  | y :: r, hs, hn => by
    have hp := List.pairwise_cons.1 hs
    by_cases hc : lessF y f = true
    · have e : putF f (y :: r) = y :: putF f r := by unfold putF; simp [hc]
      rw [e]
      refine List.pairwise_cons.2 ⟨fun z hz => ?_, sort_put hp.2 fun z hz => hn z (List.mem_cons_of_mem _ hz)⟩
      have : z ∈ f :: r := by
        have hperm := insF_perm f r
        rw [ins_put f r fun z hz => hn z (List.mem_cons_of_mem _ hz)] at hperm
        exact hperm.mem_iff.1 hz
      rcases List.mem_cons.1 this with rfl | h
      · exact hc
      · exact hp.1 z h
    · have e : putF f (y :: r) = f :: y :: r := by unfold putF; simp [hc]
      rw [e]
      have hfy : lessF f y = true := by
        rw [lessF_before] at *
        exact (bytes_total y.name f.name (hn y (List.mem_cons_self ..))).resolve_left hc
      refine List.pairwise_cons.2 ⟨fun z hz => ?_, hs⟩
      rcases List.mem_cons.1 hz with rfl | h
      · exact hfy
      · exact lessF_trans hfy (hp.1 z h)
end Go.Proofs.YtignfbdgpgidpaaGreatDoor
/- Plain facts of scan: what List and Sweep make of a disk. -/
namespace Go.Proofs.YtignfbdgpgidpaaGreatDoor
open Go.RowKit FsPlain
set_option linter.unusedVariables false
set_option linter.unusedSimpArgs false
set_option maxRecDepth 20000
namespace ScPlain
def namesL (s : St) : List ByteArray := s.fs.map fun f => bs f.name
def listL (s : St) : List ByteArray := if s.call.down = true then [] else namesL s
def hasB (l : List ByteArray) (x : ByteArray) : Bool := l.any fun y => decide (y = x)
def sweepL (keep : List ByteArray) : List ByteArray → St → Nat → St × Nat × Int
  | [], s, n => (s, n, 0)
  | x :: r, s, n => if hasB keep x = true then sweepL keep r s n else if (removeR s x.data.toList).2 = 0 then sweepL keep r (removeR s x.data.toList).1 (n + 1) else ((removeR s x.data.toList).1, n, (removeR s x.data.toList).2)
def sweepR (keep : List ByteArray) (s : St) : St × Nat × Int := if s.call.code = 0 then sweepL keep (listL s) s.call 0 else (s.call, 0, s.call.code)
theorem code_down (s : St) : s.code = if s.down = true then 5 else 0 := rfl
end ScPlain
end Go.Proofs.YtignfbdgpgidpaaGreatDoor
/- A row of one's own as a part of a world; what an append makes of it. -/
namespace Go.Proofs.YtignfbdgpgidpaaGreatDoor
open Go.RowKit
set_option linter.unusedVariables false
set_option linter.unusedSimpArgs false
set_option maxRecDepth 20000
def RowE (E : TypeId) (z : Nat) (v : Value) (n : Nat) (xs : List Value) : Asn := fun w B => w.ownsRow 0 E z v n xs ∧ (∀ b, v.ownBlock = some b → B b) ∧ ∀ b, B b → b < w.heap.size
def RowA (v : Value) (l : List ByteArray) : Asn := RowE 9 1 v l.length (strs l)
theorem row_lies {v : Value} {l : List ByteArray} {w : World} {B : Nat → Prop} (h : RowA v l w B) : Lies w v l := lies_own h.1
theorem row_of_own {w u : World} {v : Value} {l : List ByteArray} (h : u.ownsRow w.heap.size 9 1 v l.length (strs l)) : ∃ B, RowA v l u B ∧ ∀ x, B x → w.heap.size ≤ x := by
  refine ⟨fun x => v.ownBlock = some x, ⟨⟨h.1, h.2.imp id fun ⟨g, cap, cur, h1, h2, h3⟩ => ⟨g, cap, cur, h1, Nat.zero_le _, h3⟩⟩, fun b hb => hb, fun b hb => (h.lt b hb).2⟩, fun x hx => (h.lt x hx).1⟩
theorem infoS : (Tryz.prog.info? 9).map (fun i => (i.zero, i.size, i.bytes)) = some (some (.string ⟨#[]⟩), 1, 16) := by kernel_rfl
theorem blk_next {p i : Nat} {c : Array Value} {T : TypeId} {w : World} {B : Nat → Prop} (h : Blk p c T w B) (u : Value) : ∃ B', Blk p (c.setIfInBounds i u) T (w.setCell ⟨p, i, none⟩ u) B' ∧ Nx B w B' (w.setCell ⟨p, i, none⟩ u) :=
  ⟨B, ⟨cells_set h.1 i u, h.2⟩, Nx.of (Only.cell1 _ _ _ _) fun b hb => (h.2 b).2 hb⟩
end Go.Proofs.YtignfbdgpgidpaaGreatDoor
/- Whatever parts, all made since w but for what is in B: a call on the first or the second one, a part more, a store into a block, a part less. -/
namespace Go.Proofs.YtignfbdgpgidpaaGreatDoor
open Go.RowKit
set_option linter.unusedVariables false
set_option linter.unusedSimpArgs false
set_option maxRecDepth 20000
def Qs (A : Nat → Prop) (L : List Asn) (w u : World) : Prop := Frs L ∧ ∃ B, stars L u B ∧ Nx A w B u
abbrev Ps (L : List Asn) (w u : World) : Prop := Qs (fun _ => False) L w u
theorem frs_iff : ∀ {L : List Asn}, Frs L ↔ ∀ P ∈ L, Fr P
  | [] => ⟨fun _ P h => (by cases h), fun _ => trivial⟩
  | A :: L => ⟨fun h P hP => by
      rcases List.mem_cons.1 hP with rfl | hP
      · exact h.1
      · exact frs_iff.1 h.2 P hP, fun h => ⟨h A List.mem_cons_self, frs_iff.2 fun P hP => h P (List.mem_cons_of_mem _ hP)⟩⟩
theorem Qs.gr {L : List Asn} {w u : World} (h : Ps L w u) : Gr w u := by
  obtain ⟨_, B, _, n⟩ := h
  exact nx_gr n
theorem Qs.on {A : Nat → Prop} {L : List Asn} {w u v : World} (h : Qs A L w u) (g : Gr u v) : Qs A L w v := by
  obtain ⟨hF, B, k, n⟩ := h
  exact ⟨hF, B, stars_gr hF k g, n.trans (Nx.gr g)⟩
theorem Qs.one {A B : Nat → Prop} {P : Asn} {w u : World} (hP : Fr P) (p : P u B) (n : Nx A w B u) : Qs A [P] w u := ⟨⟨hP, trivial⟩, B, ⟨B, fun _ => False, p, (fun _ h => h), (fun _ _ h => h), fun b => (or_false _).symm ▸ Iff.rfl⟩, n⟩
theorem Qs.perm {A : Nat → Prop} {L M : List Asn} {w u : World} (h : Qs A L w u) (p : L.Perm M) : Qs A M w u := by
  obtain ⟨hF, B, k, n⟩ := h
  exact ⟨frs_iff.2 fun P hP => frs_iff.1 hF P (p.mem_iff.2 hP), B, stars_perm p k, n⟩
theorem Qs.tail {A : Nat → Prop} {P : Asn} {L : List Asn} {w u : World} (h : Qs A (P :: L) w u) : Qs A L w u := by
  obtain ⟨hF, B, ⟨B1, B2, _, q, _, e⟩, n⟩ := h
  exact ⟨hF.2, B2, q, n.trans ⟨Only.refl _ _, fun b hb => .inl ((e b).2 (.inr hb))⟩⟩
theorem Qs.part {A : Nat → Prop} {L : List Asn} {w u : World} {Q : Asn} (h : Qs A L w u) (i : Nat) (hi : L[i]? = some Q) : ∃ B, Q u B := by
  obtain ⟨_, B, k, _⟩ := h
  obtain ⟨B1, q, _⟩ := part_at i hi k
  exact ⟨B1, q⟩
theorem Qs.blk {A : Nat → Prop} {L : List Asn} {w u : World} {X : Nat} {c : Array Value} {T : TypeId} (h : Qs A L w u) (i : Nat) (hi : L[i]? = some (Blk X c T)) : u.heap[X]? = some (.cells c T (0, 0)) := by
  obtain ⟨_, q, _⟩ := h.part i hi
  exact q
theorem Qs.new {A : Nat → Prop} {L : List Asn} {w u v : World} {Q : Asn} {B' : Nat → Prop} (h : Qs A L w u) (g : Gr u v) (hQ : Fr Q) (q : Q v B') (hn : ∀ x, B' x → u.heap.size ≤ x) : Qs A (Q :: L) w v := by
  obtain ⟨hF, B, k, n⟩ := h
  obtain ⟨B3, k3, n3⟩ := part_new (P := Q) hF k g q hn
  exact ⟨⟨hQ, hF⟩, B3, k3, n.trans n3⟩
theorem Qs.blk_new {A : Nat → Prop} {L : List Asn} {w u v : World} (h : Qs A L w u) (c : Array Value) (T : TypeId) (hv : v = u.alloc (.cells c T)) : Qs A (Blk u.heap.size c T :: L) w v := by
  subst hv
  exact h.new (B' := fun b => b = u.heap.size) (Below.alloc (Below.refl _ _) (Nat.le_refl _) _) (fr_blk _ _ _) ⟨heap_alloc_new u _, fun _ => Iff.rfl⟩ (fun b hb => by rw [hb]; exact Nat.le_refl _)
theorem frs_set {Q : Asn} (hQ : Fr Q) : ∀ {L : List Asn} (i : Nat), Frs L → Frs (L.set i Q)
  | [], _, h => h
  | _ :: _, 0, h => ⟨hQ, h.2⟩
  | _ :: _, i + 1, h => ⟨h.1, frs_set hQ i h.2⟩
theorem Qs.set {A : Nat → Prop} {L : List Asn} {w u : World} {X : Nat} {c : Array Value} {T : TypeId} (h : Qs A L w u) (i : Nat) (hi : L[i]? = some (Blk X c T)) (j : Nat) (x : Value) : Qs A (L.set i (Blk X (c.setIfInBounds j x) T)) w (u.setCell ⟨X, j, none⟩ x) := by
  obtain ⟨hF, B, k, n⟩ := h
  obtain ⟨B', k', n'⟩ := step_at i hi hF k fun B1 hb => blk_next (i := j) hb x
  exact ⟨frs_set (fr_blk _ _ _) i hF, B', k', n.trans n'⟩
theorem Qs.set3 {A : Nat → Prop} {L : List Asn} {w u : World} {X : Nat} {c : Array Value} {T : TypeId} (h : Qs A L w u) (i : Nat) (hi : L[i]? = some (Blk X c T)) (hc : c.size = 3) (x y z : Value) : Qs A (L.set i (Blk X #[x, y, z] T)) w (((u.setCell ⟨X, 0, none⟩ x).setCell ⟨X, 1, none⟩ y).setCell ⟨X, 2, none⟩ z) := by
  have il : i < L.length := by
    rcases Nat.lt_or_ge i L.length with h | h
    · exact h
    · rw [List.getElem?_eq_none h] at hi; cases hi
  have h1 := h.set i hi 0 x
  have h2 := h1.set i (by rw [List.getElem?_set_self il]) 1 y
  have h3 := h2.set i (by rw [List.getElem?_set_self (by simpa using il)]) 2 z
  rw [List.set_set, List.set_set] at h3
  match c, hc with
  | ⟨[_, _, _]⟩, _ => exact h3
theorem Qs.call0 {A : Nat → Prop} {Pr : Program} {f : FuncId} {args : Array Value} {P Q : Asn} {L : List Asn} {X : Ending → World → Prop} {w u : World} (h : Qs A (P :: L) w u) (hQ : Fr Q) (C : ∀ B1, P u B1 → Calls Pr f args u fun e w' => X e w' ∧ ∃ B', Q w' B' ∧ Nx B1 u B' w') :
    Calls Pr f args u fun e w' => X e w' ∧ Qs A (Q :: L) w w' := by
  obtain ⟨hF, B, ⟨B1, B2, p, r, a, e⟩, n⟩ := h
  refine (C B1 p).mono fun e' w' ⟨hx, B', q, n1⟩ => ⟨hx, ⟨hQ, hF.2⟩, ?_⟩
  obtain ⟨B3, h3, n3⟩ := star_of (fr_stars hF.2) r a e q n1
  exact ⟨B3, h3, n.trans n3⟩
theorem Qs.call1 {A : Nat → Prop} {Pr : Program} {f : FuncId} {args : Array Value} {O P Q : Asn} {L : List Asn} {X : Ending → World → Prop} {w u : World} (h : Qs A (O :: P :: L) w u) (hQ : Fr Q) (C : ∀ B1, P u B1 → Calls Pr f args u fun e w' => X e w' ∧ ∃ B', Q w' B' ∧ Nx B1 u B' w') :
    Calls Pr f args u fun e w' => X e w' ∧ Qs A (O :: Q :: L) w w' :=
  ((h.perm (List.Perm.swap P O L)).call0 hQ C).mono fun _ _ ⟨hx, k⟩ => ⟨hx, k.perm (List.Perm.swap O Q L)⟩
end Go.Proofs.YtignfbdgpgidpaaGreatDoor
/- A slice of strings as a part. -/
namespace Go.Proofs.YtignfbdgpgidpaaGreatDoor
open Go.RowKit
set_option linter.unusedVariables false
set_option linter.unusedSimpArgs false
set_option maxRecDepth 20000
def SlA (v : Value) (l : List ByteArray) : Asn := fun w B => Lies w v l ∧ (∀ b, B b → b < w.heap.size) ∧ (l = [] ∨ ∃ b o n c, v = .slice (some ⟨b, o, none⟩) n c ∧ B b)
theorem fr_sl (v : Value) (l : List ByteArray) : Fr (SlA v l) where
  fr := fun {w w' B C} ⟨h, hl, hb⟩ o d => by
    refine ⟨?_, fun b hb => Nat.lt_of_lt_of_le (hl b hb) o.size, hb⟩
    obtain ⟨a, c, e, hc, h⟩ := h
    rcases h with h | ⟨b, off, e2, k⟩
    · exact ⟨a, c, e, hc, .inl h⟩
    · rcases hb with hb | ⟨b', o', n', c', e3, hB⟩
      · exact ⟨a, c, e, hc, .inl hb⟩
      · rw [e, e2] at e3
        simp only [Value.slice.injEq, Option.some.injEq, Addr.mk.injEq] at e3
        obtain ⟨⟨hbb, _, _⟩, _, _⟩ := e3
        have hn : ¬ C b := by rw [hbb]; exact d b' hB
        exact ⟨a, c, e, hc, .inr ⟨b, off, e2, Nat.lt_of_lt_of_le k.1 o.size, fun j x hj => (o.cell (p := ⟨b, _, none⟩) k.1 hn).trans (k.2 j x hj)⟩⟩
  lo := fun ⟨_, hl, _⟩ => hl
theorem sl_new {w w' : World} {v : Value} {l : List ByteArray} (h : Lies w' v l) (hn : ∀ x, v.ownBlock = some x → w.heap.size ≤ x) : ∃ B, SlA v l w' B ∧ ∀ b, B b → w.heap.size ≤ b := by
  obtain ⟨a, c, e, hc, k⟩ := id h
  rcases k with k | ⟨b, off, e2, k⟩
  · exact ⟨fun _ => False, ⟨h, fun b hb => hb.elim, .inl k⟩, fun b hb => hb.elim⟩
  · refine ⟨fun x => x = b, ⟨h, fun x hx => by rw [hx]; exact k.1, .inr ⟨b, off, _, c, by rw [e, e2], rfl⟩⟩, fun x hx => ?_⟩
    rw [hx]
    exact hn b (by rw [e, e2]; rfl)
end Go.Proofs.YtignfbdgpgidpaaGreatDoor

/- In one text: RfsOut, RfsFacts, RfsDisk. -/
import Derived.Test.YtckmciafonnohaaGreatP08
import Derived.WideAt
import Derived.WideShapes
import Derived.Test.YtckmciafonnohaaGreatP01
import Derived.Test.YtckmciafonnohaaGreatP05
/- The document's disk: files without one, and a file's place. -/
namespace Go.Proofs.YtckmciafonnohaaGreat
open Go.RowKit FsPlain
set_option linter.unusedVariables false
set_option linter.unusedSimpArgs false
set_option maxRecDepth 20000
def outF (n : List UInt8) (l : List F) : List F := l.filter fun y => decide (y.name ≠ n)
def OutAt (n : List UInt8) (l : List F) (w : World) (out i : Value) (wr : World) : Prop :=
  ∃ k : Nat, k ≤ l.length ∧ i = .int .i64 k ∧ wr.ownsRow w.heap.size 65 3 out (outF n (l.take k)).length (fall3 (outF n (l.take k))) ∧ Below w.heap.size w wr
theorem outF_len (n : List UInt8) (l : List F) (k : Nat) : (outF n (l.take k)).length ≤ l.length := by
  refine Nat.le_trans (List.length_filter_le _ _) ?_
  rw [List.length_take]; omega
set_option maxRecDepth 20000 in
set_option maxHeartbeats 4000000 in
theorem out_some (nm : List UInt8) (l : List F) (b off c : Nat) (w : World) (hl : l.length ≤ 300) (hc : l.length ≤ c) (hr : FCells w b off l) :
    Calls Tryz.prog 34 #[.slice (some ⟨b, off, none⟩) l.length c, .string (bs nm)] w fun e w' => ∃ v, e = .returned v ∧ FLies w' v (outF nm l) ∧ Gr w w' ∧ NewV w v := by
  have hst : OutAt nm l w (.slice none 0 0) (.int .i64 0) w := ⟨0, Nat.zero_le _, rfl, World.ownsRow_nil _ _ _ _, Below.refl _ _⟩
  obtain ⟨n, hn⟩ : ∃ n, l.length = n := ⟨_, rfl⟩
  have HN := Lib.hid hn
  have HR := Lib.hid hr
  have HST := Lib.hid hst
  rw [hn] at hl hc ⊢
  clear hn hr hst
  go_enter Tryz.func34, Tryz.ntmps34
  go_wp2_with fail
  go_loopw [5, 6] (fun o i wr => OutAt nm l w o i wr) (fun _ i _ => n - (intOf i).toNat)
  case atStart => exact HST.out
  case round =>
    obtain ⟨k, hk, rfl, ho, hb⟩ := hrel
    have hln := HN.out
    obtain ⟨i0, hi, hz0, hz1, hz2⟩ := info_parts infoF
    have HB := Lib.hid hb
    have HO := Lib.hid ho
    by_cases hlt : k < n
    · obtain ⟨y, hy⟩ : ∃ y, l[k]? = some y := ⟨_, List.getElem?_eq_getElem (by omega)⟩
      obtain ⟨q0, q1, q2⟩ := fall3_at l k y hy
      have hrw := HR.out.gr (Gr.of hb)
      rw [Nat.mul_comm 3 k] at q0 q1 q2
      have y0 := hrw.2 _ _ q0
      have y1 := hrw.2 _ _ q1
      have y2 := hrw.2 _ _ q2
      rw [← Nat.add_assoc] at y1 y2
      have htk : l.take (k + 1) = l.take k ++ [y] := by rw [List.take_add_one, hy]; rfl
      have HTK := Lib.hid htk
      have hle := outF_len nm l k
      clear hy q0 q1 q2 hrw hb ho htk
      by_cases heq : y.name = nm
      · have hf := Lib.hid (show outF nm (l.take (k + 1)) = outF nm (l.take k) by rw [HTK.out]; simp [outF, heq])
        subst heq
        go_wp2_with fail
        refine ⟨⟨k + 1, by omega, by simp, ?_, HB.out⟩, ?_⟩
        · rw [hf.out]; exact HO.out
        · simp [intOf]; omega
      · have hbe : ((bs y.name).toList == (bs nm).toList) = false := by rw [Lib.toList_data, Lib.toList_data]; simp [bs, heq]
        have hf := Lib.hid (show outF nm (l.take (k + 1)) = outF nm (l.take k) ++ [y] by rw [HTK.out]; simp [outF, heq])
        obtain ⟨V, hV⟩ : ∃ V, V = wr := ⟨_, rfl⟩
        rw [← hV]
        have hoV : V.ownsRow w.heap.size 65 3 u5 (outF nm (l.take k)).length (fall3 (outF nm (l.take k))) := by rw [hV]; exact HO.out
        have HBV := Lib.hid (show Below w.heap.size w V by rw [hV]; exact HB.out)
        have z0 : V.cell? ⟨b, off + k * 3, none⟩ = some (.string (bs y.name)) := by rw [hV]; exact y0
        have z1 : V.cell? ⟨b, off + k * 3 + 1, none⟩ = some (.string (bs y.data)) := by rw [hV]; exact y1
        have z2 : V.cell? ⟨b, off + k * 3 + 2, none⟩ = some (.int .i64 (y.kept : Int)) := by rw [hV]; exact y2
        have hVs := HBV.out.size
        clear hV y0 y1 y2
        go_wp2_with (first | (at_builtin; refine wpList_append_own _ rfl _ _ 43 rfl w.heap.size 65 i0 (.agg #[.string ⟨#[]⟩, .string ⟨#[]⟩, .int .i64 0]) 3 40 Tryz.underlying43 hi hz0 hz1 hz2 rfl (by decide) _ _ _ rfl (hoV.alloc _) ⟨V.heap.size, 0, none⟩ 1 1 (fcells y) rfl rfl ?c1 ?c2 (by unfold maxLen; omega) (by omega) (by rw [World.size_alloc]; omega) ?_) | go_in)
        case c1 =>
          intro jj u hj
          match jj, hj with
          | 0, hj => simp [fcells] at hj; subst hj; simp [Addr.add]
          | 1, hj => simp [fcells] at hj; subst hj; simp [Addr.add]
          | 2, hj => simp [fcells] at hj; subst hj; simp [Addr.add]
        case c2 => intro u hu; simp [fcells] at hu; rcases hu with rfl | rfl | rfl <;> rfl
        intro v' w' hw hg _
        have HB' := Lib.hid ((HBV.out.alloc hVs _).grown hg (by simp only [World.size_alloc]; omega) (fun q hq => (hoV.lt q hq).1))
        have HO' := Lib.hid hw
        clear hw hg z0 z1 z2 hoV
        go_wp2_with fail
        refine ⟨⟨k + 1, by omega, by simp, ?_, HB'.out⟩, ?_⟩
        · rw [hf.out, fall3_snoc, List.length_append]; exact HO'.out
        · simp [intOf]; omega
    · have hkn : k = n := by omega
      have he := Lib.hid (show outF nm (l.take k) = outF nm l by rw [hkn, ← hln, List.take_length])
      clear hb ho
      go_wp2_with fail
      go_ret
      have h1 := HO.out
      rw [he.out] at h1
      exact ⟨_, rfl, flies_own h1, Gr.of HB.out, fun x hx => (HO.out.lt x hx).1⟩
theorem out_nil (nm : List UInt8) (w : World) : Calls Tryz.prog 34 #[.slice none 0 0, .string (bs nm)] w fun e w' => ∃ v, e = .returned v ∧ FLies w' v [] ∧ Gr w w' ∧ NewV w v := by
  go_enter Tryz.func34, Tryz.ntmps34
  go_wp2_with fail
  go_loopw [5, 6] (fun o i wr => o = .slice none 0 0 ∧ i = .int .i64 0 ∧ wr = w) (fun _ i _ => 0)
  case atStart => exact ⟨rfl, rfl, rfl⟩
  case round =>
    obtain ⟨rfl, rfl, rfl⟩ := hrel
    go_wp2_with fail
    go_ret
    exact ⟨_, rfl, .inl ⟨rfl, rfl⟩, Gr.refl _, fun x hx => by cases hx⟩
theorem out_c (nm : List UInt8) (l : List F) (v : Value) (w : World) (hl : l.length ≤ 300) (h : FLies w v l) : Calls Tryz.prog 34 #[v, .string (bs nm)] w fun e w' => ∃ v, e = .returned v ∧ FLies w' v (outF nm l) ∧ Gr w w' ∧ NewV w v := by
  rcases h with ⟨rfl, rfl⟩ | ⟨b, off, c, rfl, hc, hr⟩
  · exact out_nil nm w
  · exact out_some nm l b off c w hl hc hr
end Go.Proofs.YtckmciafonnohaaGreat
/- Plain facts on files by their names' order. -/
namespace Go.Proofs.YtckmciafonnohaaGreat
open FsPlain Go.WideAt
set_option linter.unusedVariables false
set_option linter.unusedSimpArgs false
set_option maxRecDepth 20000
theorem less_before : ∀ a b : List UInt8, Op.bytesLess a b = bytesBefore a b
  | [], [] => rfl
  | [], _ :: _ => rfl
  | _ :: _, [] => rfl
  | a :: r, b :: t => by unfold Op.bytesLess bytesBefore; rw [less_before r t]
theorem lessF_before (a b : F) : lessF a b = bytesBefore a.name b.name := less_before _ _
theorem lessF_irrefl (a : F) : lessF a a = false := by rw [lessF_before]; exact bytes_irrefl _
theorem lessF_trans {a b c : F} (h : lessF a b = true) (k : lessF b c = true) : lessF a c = true := by rw [lessF_before] at *; exact WideShapes.bytes_trans _ _ _ h k
theorem lessF_asymm {a b : F} (h : lessF a b = true) : lessF b a = false := by
  cases k : lessF b a
  · rfl
  · have := lessF_trans h k; rw [lessF_irrefl] at this; cases this
theorem lessF_name {a b c : F} (h : b.name = c.name) : lessF a b = lessF a c := by unfold lessF; rw [h]
theorem lessF_name' {a b c : F} (h : b.name = c.name) : lessF b a = lessF c a := by unfold lessF; rw [h]
def SortF (l : List F) : Prop := l.Pairwise fun a b => lessF a b = true
theorem ins_put (f : F) : ∀ l : List F, (∀ y ∈ l, y.name ≠ f.name) → insF f l = putF f l
  | [], _ => rfl
  | y :: r, h => by
    have hb : (Lit.string f.name).before (.string y.name) = bytesBefore f.name y.name := rfl
    unfold insF
    by_cases hc : bytesBefore f.name y.name = true
    · rw [if_pos (by rw [hb]; exact hc)]
      have : lessF y f = false := lessF_asymm (by rw [lessF_before]; exact hc)
      unfold putF
      simp [this]
    · rw [if_neg (by rw [hb]; exact hc), ins_put f r fun z hz => h z (List.mem_cons_of_mem _ hz)]
      have : lessF y f = true := by
        rw [lessF_before]
        exact (bytes_total y.name f.name (h y (List.mem_cons_self ..))).resolve_right hc
      unfold putF
      simp [this]
theorem put_mid {f : F} {A C : List F} (hA : ∀ y ∈ A, lessF y f = true) (hC : ∀ y ∈ C, lessF f y = true) : putF f (A ++ C) = A ++ f :: C := by
  have h1 : (A ++ C).take A.length = A := by simp
  have h2 : (A ++ C).drop A.length = C := by simp
  have := putF_at (f := f) (l := A ++ C) (k := A.length) (by rw [h1]; exact hA) (fun y hy => by
    rw [List.getElem?_append_right (Nat.le_refl _), Nat.sub_self] at hy
    exact lessF_asymm (hC y (List.mem_of_getElem? hy)))
  rw [h1, h2] at this
  exact this
theorem out_mid {n : List UInt8} {f : F} {A C : List F} (hf : f.name = n) (hA : ∀ y ∈ A, y.name ≠ n) (hC : ∀ y ∈ C, y.name ≠ n) : outF n (A ++ f :: C) = A ++ C := by
  have e : ∀ l : List F, (∀ y ∈ l, y.name ≠ n) → outF n l = l := fun l h => List.filter_eq_self.2 fun y hy => by simpa using h y hy
  unfold outF
  rw [List.filter_append, List.filter_cons_of_neg (by simp [hf])]
  have := e A hA
  have := e C hC
  unfold outF at *
  simp only [*]
theorem upd_put {s : St} (h : s.ok) (hs : SortF s.fs) {n : List UInt8} {f : F} (hf : s.get n = some f) (g : F → F) (hg : (g f).name = f.name) : putF (g f) (outF n s.fs) = (s.upd n g).fs ∧ SortF (s.upd n g).fs := by
  obtain ⟨A, C, he, hn, hA, hC, hu⟩ := get_split h hf
  unfold SortF at hs
  rw [he] at hs
  have hp := List.pairwise_append.1 hs
  have h1 : ∀ y ∈ A, lessF y (g f) = true := fun y hy => by rw [lessF_name hg]; exact hp.2.2 y hy f (List.mem_cons_self ..)
  have h2 : ∀ y ∈ C, lessF (g f) y = true := fun y hy => by rw [lessF_name' hg]; exact (List.pairwise_cons.1 hp.2.1).1 y hy
  rw [hu g, he, out_mid hn hA hC]
  refine ⟨put_mid h1 h2, ?_⟩
  unfold SortF
  refine List.pairwise_append.2 ⟨hp.1, List.pairwise_cons.2 ⟨h2, (List.pairwise_cons.1 hp.2.1).2⟩, fun a ha b hb => ?_⟩
  rcases List.mem_cons.1 hb with rfl | hb
  · exact h1 a ha
  · exact hp.2.2 a ha b (List.mem_cons_of_mem _ hb)
theorem take_less (f : F) (l : List F) : ∀ y ∈ l.takeWhile (fun y => lessF y f), lessF y f = true := fun y hy => by
  induction l with
  | nil => cases hy
  | cons a r ih =>
    rw [List.takeWhile_cons] at hy
    split at hy
    · rename_i h
      rcases List.mem_cons.1 hy with rfl | hy
      · exact h
      · exact ih hy
    · cases hy
theorem sort_put {f : F} : ∀ {l : List F}, SortF l → (∀ y ∈ l, y.name ≠ f.name) → SortF (putF f l)
  | [], _, _ => List.pairwise_singleton _ _
  | y :: r, hs, hn => by
    have hp := List.pairwise_cons.1 hs
    by_cases hc : lessF y f = true
    · have e : putF f (y :: r) = y :: putF f r := by unfold putF; simp [hc]
      rw [e]
      refine List.pairwise_cons.2 ⟨fun z hz => ?_, sort_put hp.2 fun z hz => hn z (List.mem_cons_of_mem _ hz)⟩
      have : z ∈ f :: r := by
        have hperm := insF_perm f r
        rw [ins_put f r fun z hz => hn z (List.mem_cons_of_mem _ hz)] at hperm
        exact hperm.mem_iff.1 hz
      rcases List.mem_cons.1 this with rfl | h
      · exact hc
      · exact hp.1 z h
    · have e : putF f (y :: r) = f :: y :: r := by unfold putF; simp [hc]
      rw [e]
      have hfy : lessF f y = true := by
        rw [lessF_before] at *
        exact (bytes_total y.name f.name (hn y (List.mem_cons_self ..))).resolve_left hc
      refine List.pairwise_cons.2 ⟨fun z hz => ?_, hs⟩
      rcases List.mem_cons.1 hz with rfl | h
      · exact hfy
      · exact lessF_trans hfy (hp.1 z h)
end Go.Proofs.YtckmciafonnohaaGreat
/- The document's disk: its block, a call, a file's place. -/
namespace Go.Proofs.YtckmciafonnohaaGreat
open Go.RowKit FsPlain
set_option linter.unusedVariables false
set_option linter.unusedSimpArgs false
set_option maxRecDepth 20000
def rcells (s : St) (v : Value) : Array Value := #[.int .i64 s.room, v, .int .i64 s.ahead, .bool s.down, .int .i64 s.calls]
theorem FLies.only {w w' : World} {v : Value} {l : List F} {d : Nat} {s : St} {u : Value} (h : FLies w v l) (hd : w.heap[d]? = some (.cells (rcells s u) 45 (0, 0))) (hu : ∃ a n c, u = .slice a n c) (g : Only (fun i => i = d) w w') : FLies w' v l := by
  rcases h with h | ⟨b, off, c, rfl, hc, hb, hl⟩
  · exact .inl h
  · refine .inr ⟨b, off, c, rfl, hc, Nat.lt_of_lt_of_le hb g.size, fun j x hj => ?_⟩
    by_cases hbd : b = d
    · exfalso
      subst hbd
      cases l with
      | nil => simp [fall3] at hj
      | cons f r =>
        have h0 := hl 0 (.string (bs f.name)) rfl
        rw [cells_at hd] at h0
        obtain ⟨a, n, c, rfl⟩ := hu
        unfold rcells at h0
        rw [Nat.add_zero] at h0
        match off, h0 with
        | 0, h => simp at h
        | 1, h => simp at h
        | 2, h => simp at h
        | 3, h => simp at h
        | 4, h => simp at h
        | off + 5, h => simp at h
    · rw [g.cell (p := ⟨b, off + j, none⟩) hb hbd]; exact hl j x hj
def RAt (w : World) (d : Nat) (s : St) (v : Value) : Prop := w.heap[d]? = some (.cells (rcells s v) 45 (0, 0)) ∧ FLies w v s.fs
/-- A disk lies in blocks of B. -/
def RB (w : World) (d : Nat) (v : Value) (B : Nat → Prop) : Prop := (∀ x, B x → x < w.heap.size) ∧ B d ∧ ∀ x, v.ownBlock = some x → B x
def RDisk (w : World) (d : Nat) (s : St) (B : Nat → Prop) : Prop := s.ok ∧ SortF s.fs ∧ ∃ v, RAt w d s v ∧ RB w d v B
theorem FLies.slice {w : World} {v : Value} {l : List F} (h : FLies w v l) : ∃ a c, v = .slice a l.length c := by
  rcases h with ⟨rfl, rfl⟩ | ⟨b, off, c, rfl, _⟩
  · exact ⟨_, _, rfl⟩
  · exact ⟨_, _, rfl⟩
theorem RAt.gr {w w' : World} {d : Nat} {s : St} {v : Value} (h : RAt w d s v) (g : Gr w w') : RAt w' d s v :=
  ⟨by rw [g.block d (blk_lt2 h.1)]; exact h.1, h.2.gr g⟩

theorem RAt.put {w w' : World} {d : Nat} {s s' : St} {v v' : Value} (h : RAt w d s v) (hv : FLies w v' s'.fs) (g : Only (fun i => i = d) w w') (hh : w'.heap[d]? = some (.cells (rcells s' v') 45 (0, 0))) : RAt w' d s' v' := by
  obtain ⟨a, c, e⟩ := h.2.slice
  exact ⟨hh, hv.only h.1 ⟨a, _, c, e⟩ g⟩
theorem RAt.slice_lt {w : World} {d : Nat} {s : St} {v : Value} (h : RAt w d s v) : ∀ x, v.ownBlock = some x → x < w.heap.size := by
  intro x hx
  rcases h.2 with ⟨_, rfl⟩ | ⟨b, off, c, rfl, _, hb, _⟩
  · cases hx
  · simp [Value.ownBlock] at hx; subst hx; exact hb
theorem RAt.only {w w' : World} {d : Nat} {s : St} {v : Value} {B C : Nat → Prop} (h : RAt w d s v) (hB : RB w d v B) (g : Only C w w') (hC : ∀ b, B b → ¬ C b) : RAt w' d s v := by
  refine ⟨by rw [g.block d (blk_lt2 h.1) (hC d hB.2.1)]; exact h.1, ?_⟩
  rcases h.2 with h2 | ⟨b, off, c, rfl, hc, hb, hl⟩
  · exact .inl h2
  · exact .inr ⟨b, off, c, rfl, hc, Nat.lt_of_lt_of_le hb g.size, fun j x hj => by rw [g.cell (p := ⟨b, off + j, none⟩) hb (hC b (hB.2.2 b rfl))]; exact hl j x hj⟩
/-- The document's disk, as a part of a world. -/
def RDiskA (d : Nat) (s : St) : Asn := fun w B => RDisk w d s B
theorem fr_rdisk (d : Nat) (s : St) : Fr (RDiskA d s) where
  fr := fun ⟨h0, h1, v, h, hB⟩ g hC => ⟨h0, h1, v, h.only hB g hC, fun x hx => Nat.lt_of_lt_of_le (hB.1 x hx) g.size, hB.2⟩
  lo := fun ⟨_, _, _, _, hB⟩ => hB.1
theorem RDisk.gr {w w' : World} {d : Nat} {s : St} {B : Nat → Prop} (h : RDisk w d s B) (g : Gr w w') : RDisk w' d s B := star_gr (fr_rdisk d s) h g
theorem rd_keep {w w' : World} {d : Nat} {s' : St} {v : Value} {B : Nat → Prop} (hB : RB w d v B) (hok : s'.ok) (hs : SortF s'.fs) (h : RAt w' d s' v) (g : Only (fun i => i = d) w w') : ∃ B', RDiskA d s' w' B' ∧ Nx B w B' w' :=
  ⟨B, ⟨hok, hs, v, h, fun x hx => Nat.lt_of_lt_of_le (hB.1 x hx) g.size, hB.2⟩, Nx.of g fun b hb => by rw [hb]; exact hB.2.1⟩
theorem rd_new {w w' : World} {d : Nat} {s' : St} {v v' : Value} {B : Nat → Prop} (hB : RB w d v B) (hok : s'.ok) (hs : SortF s'.fs) (h : RAt w' d s' v') (g : Only (fun i => i = d) w w') (hn : NewV w v') : ∃ B', RDiskA d s' w' B' ∧ Nx B w B' w' := by
  refine ⟨fun x => x = d ∨ v'.ownBlock = some x, ⟨hok, hs, v', h, fun x hx => ?_, .inl rfl, fun x hx => .inr hx⟩, g.mono fun b hb => by rw [hb]; exact hB.2.1, fun x hx => ?_⟩
  · rcases hx with rfl | hx
    · exact blk_lt2 h.1
    · exact h.slice_lt x hx
  · rcases hx with rfl | hx
    · exact .inl hB.2.1
    · exact .inr (hn x hx)
def RCalled (d : Nat) (s : St) (v : Value) (w w' : World) : Prop := w'.heap[d]? = some (.cells (rcells s.call v) 45 (0, 0)) ∧ Only (fun i => i = d) w w'
theorem rcalled_of {p : Nat} {s : St} {v : Value} {w : World} (h : w.heap[p]? = some (.cells (rcells s v) 45 (0, 0))) {c a : Int} {d : Bool} (hc : c = s.calls + 1) (ha : a = max (s.ahead - 1) (-1)) (hd : d = (s.down || decide (s.ahead = 0))) :
    RCalled p s v w (((w.setCell ⟨p, 4, none⟩ (.int .i64 c)).setCell ⟨p, 3, none⟩ (.bool d)).setCell ⟨p, 2, none⟩ (.int .i64 a)) := by
  subst hc ha hd
  refine ⟨?_, ?_⟩
  · rw [cells_set (cells_set (cells_set h 4 _) 3 _) 2 _]; rfl
  · exact ((Only.cell1 _ _ _ _).trans (Only.cell1 _ _ _ _)).trans (Only.cell1 _ _ _ _)
theorem rcalled_of2 {p : Nat} {s : St} {v : Value} {w : World} (h : w.heap[p]? = some (.cells (rcells s v) 45 (0, 0))) {c a : Int} (hc : c = s.calls + 1) (ha : a = max (s.ahead - 1) (-1)) (hd : s.ahead ≠ 0) :
    RCalled p s v w ((w.setCell ⟨p, 4, none⟩ (.int .i64 c)).setCell ⟨p, 2, none⟩ (.int .i64 a)) := by
  subst hc ha
  refine ⟨?_, ?_⟩
  · rw [cells_set (cells_set h 4 _) 2 _]
    unfold rcells St.call
    simp [hd]
  · exact (Only.cell1 _ _ _ _).trans (Only.cell1 _ _ _ _)
theorem rcall_no (p : Nat) (w : World) :
    Calls Tryz.prog 28 #[.pointer (some ⟨p, 0, none⟩), .bool false] w fun e w' => e = .returned (.int .i64 1) ∧ w = w' := by
  go_enter Tryz.func28, Tryz.ntmps28
  go_wp2_with fail
  go_ret
  exact ⟨rfl, rfl⟩
set_option maxRecDepth 20000 in
set_option maxHeartbeats 1000000 in
theorem rcall_yes (p : Nat) (s : St) (v : Value) (w : World) (h : w.heap[p]? = some (.cells (rcells s v) 45 (0, 0))) (h0 : 0 ≤ s.calls) (h1 : s.calls ≤ 1000000000000) (a0 : -1 ≤ s.ahead) (a1 : s.ahead ≤ 9223372036854775807) :
    Calls Tryz.prog 28 #[.pointer (some ⟨p, 0, none⟩), .bool true] w fun e w' => e = .returned (.int .i64 s.call.code) ∧ RCalled p s v w w' := by
  have c2 : w.cell? ⟨p, 2, none⟩ = some (.int .i64 s.ahead) := by rw [cells_at h]; rfl
  have c3 : w.cell? ⟨p, 3, none⟩ = some (.bool s.down) := by rw [cells_at h]; rfl
  have c4 : w.cell? ⟨p, 4, none⟩ = some (.int .i64 s.calls) := by rw [cells_at h]; rfl
  have f2 := cells_free h 2
  have f3 := cells_free h 3
  have f4 := cells_free h 4
  have HK1 := Lib.hid (fun c d a => rcalled_of (c := c) (d := d) (a := a) h)
  have HK2 := Lib.hid (fun c a => rcalled_of2 (c := c) (a := a) h)
  clear h
  by_cases ha : s.ahead = 0
  · have t1 : (s.ahead == 0) = true := by simp [ha]
    go_enter Tryz.func28, Tryz.ntmps28
    go_wp2_with fail
    go_ret
    exact ⟨ret_i (by simp [St.code, St.call, ha]), HK1.out _ _ _ rfl (by omega) (by simp [ha])⟩
  · have t1 : (s.ahead == 0) = false := by simp [ha]
    cases hd : s.down
    · go_enter Tryz.func28, Tryz.ntmps28
      go_wp2_with fail
      all_goals
        go_ret
        exact ⟨ret_i (by simp [St.code, St.call, ha, hd]), HK2.out _ _ rfl (by omega) ha⟩
    · go_enter Tryz.func28, Tryz.ntmps28
      go_wp2_with fail
      all_goals
        go_ret
        exact ⟨ret_i (by simp [St.code, St.call, ha, hd]), HK2.out _ _ rfl (by omega) ha⟩
end Go.Proofs.YtckmciafonnohaaGreat

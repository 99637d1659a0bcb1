/- In one text: RfsRise, RfsRisen, RfsA, Rwr2, Rwr3. -/
import Derived.Test.YtcpaaenjfljocaaGreatP15
import Derived.StillTailTactics
import Derived.Test.YtcpaaenjfljocaaGreatP08
/- The document's disk: Rise. -/
namespace Go.Proofs.YtcpaaenjfljocaaGreat
open Go.RowKit FsPlain
set_option linter.unusedVariables false
set_option linter.unusedSimpArgs false
def riseL (ks : List Int) (l : List F) : List F := l.mapIdx fun i f => fall f (ks.getD i 0)
theorem riseL_snoc {ks : List Int} {l : List F} {k : Nat} {y : F} (h : l[k]? = some y) : riseL ks (l.take (k + 1)) = riseL ks (l.take k) ++ [fall y (ks.getD k 0)] := by
  have hk := (List.getElem?_eq_some_iff.1 h).1
  unfold riseL
  rw [List.take_add_one, h, Option.toList_some, List.mapIdx_append, List.length_take, Nat.min_eq_left (by omega)]
  simp
theorem riseL_len (ks : List Int) (l : List F) : (riseL ks l).length = l.length := by simp [riseL]
def KCells (w : World) (a : Option Addr) (ks : List Int) : Prop := ∀ j x, ks[j]? = some x → ∃ p, a = some p ∧ p.block < w.heap.size ∧ w.cell? (Addr.add p j) = some (.int .i64 x)
def RiAt (ks : List Int) (l : List F) (w : World) (out i : Value) (wr : World) : Prop :=
  ∃ k : Nat, k ≤ l.length ∧ i = .int .i64 k ∧ wr.ownsRow w.heap.size 92 3 out k (fall3 (riseL ks (l.take k))) ∧ Below w.heap.size w wr
theorem fall0_cells (y : F) (k : Nat := 0) : fcells (fall y (([] : List Int).getD k 0)) = [Value.string (bs y.name), Value.string ((bs y.data).extract 0 y.kept), Value.int IntKind.i64 (y.kept : Int)] := by
  have h : (bs y.data).extract 0 y.kept = bs (y.data.take y.kept) := by
    apply ByteArray.ext
    simp [bs, ByteArray.data_extract]
  rw [h]
  simp [fcells, fall]
set_option maxRecDepth 20000 in
set_option maxHeartbeats 4000000 in
theorem rrise_some (d : Nat) (s : St) (b off c : Nat) (w : World) (hs : s.ok) (hd : w.heap[d]? = some (.cells (rcells s (.slice (some ⟨b, off, none⟩) s.fs.length c)) 47 (0, 0))) (hc : s.fs.length ≤ c) (hr : FCells w b off s.fs) :
    Calls Tryz.prog 27 #[.pointer (some ⟨d, 0, none⟩), .slice none 0 0] w fun e w' => e = .returned (.tuple #[]) ∧ (∃ v u, FLies u v (riseL [] s.fs) ∧ NewV w v ∧ Below w.heap.size w u ∧ w' = ((u.setCell ⟨d, 1, none⟩ v).setCell ⟨d, 3, none⟩ (.bool false)).setCell ⟨d, 2, none⟩ (.int .i64 (-1))) := by
  have hst : RiAt [] s.fs w (.slice none 0 0) (.int .i64 0) w := ⟨0, Nat.zero_le _, rfl, World.ownsRow_nil _ _ _ _, Below.refl _ _⟩
  have hm := hs.m
  have hr1 := hs.r1
  have hu := hs.u
  have hkk := hs.k
  obtain ⟨l, hl⟩ : ∃ l, s.fs = l := ⟨_, rfl⟩
  rw [hl] at hd hc hr hst ⊢ hm hu hkk
  obtain ⟨n, hn⟩ : ∃ n, l.length = n := ⟨_, rfl⟩
  have HN := Lib.hid hn
  have HR := Lib.hid hr
  have HD := Lib.hid hd
  have HST := Lib.hid hst
  have HKK := Lib.hid hkk
  rw [hn] at hc hm
  clear hn hr hst hd hl hs hkk
  go_enter Tryz.func27, Tryz.ntmps27
  go_wp2_with fail
  go_loopw [4, 5] (fun o i wr => RiAt [] l w o i wr) (fun _ i _ => n - (intOf i).toNat)
  case atStart => exact HST.out
  case round =>
    obtain ⟨k, hk, rfl, ho, hb⟩ := hrel
    have hln := HN.out
    have hdw : wr.heap[d]? = w.heap[d]? := hb.block d (blk_lt2 HD.out)
    have hd1 := HD.out
    rw [← hdw] at hd1
    have c1 : wr.cell? ⟨d, 1, none⟩ = some (.slice (some ⟨b, off, none⟩) n c) := by rw [cells_at hd1]; rw [← hln]; rfl
    have f1 := cells_free hd1 1
    have f2 := cells_free hd1 2
    have f3 := cells_free hd1 3
    have c2 : wr.cell? ⟨d, 2, none⟩ = some (.int .i64 s.ahead) := by rw [cells_at hd1]; rfl
    have c3 : wr.cell? ⟨d, 3, none⟩ = some (.bool s.down) := by rw [cells_at hd1]; rfl
    obtain ⟨i0, hi, hz0, hz1, hz2⟩ := info_parts infoF
    have HB := Lib.hid hb
    have HO := Lib.hid ho
    have HD1 := Lib.hid hd1
    clear hdw hd1
    by_cases hlt : k < n
    · obtain ⟨y, hy⟩ : ∃ y, l[k]? = some y := ⟨_, List.getElem?_eq_getElem (by omega)⟩
      obtain ⟨q0, q1, q2⟩ := fall3_at l k y hy
      have hrw := HR.out.gr (Gr.of hb)
      rw [Nat.mul_comm 3 k] at q0 q1 q2
      have y0 := hrw.2 _ _ q0
      have y1 := hrw.2 _ _ q1
      have y2 := hrw.2 _ _ q2
      rw [← Nat.add_assoc] at y1 y2
      have hsz : (bs y.data).size = y.data.length := bs_size _
      have hyk := HKK.out y (List.mem_of_getElem? hy)
      have hyu := used_le (List.mem_of_getElem? hy)
      have HSN := Lib.hid (riseL_snoc (ks := []) hy)
      clear hy q0 q1 q2 hrw hb ho
      obtain ⟨fc, hfc⟩ : ∃ fc, fc = [Value.string (bs y.name), Value.string ((bs y.data).extract 0 y.kept), Value.int IntKind.i64 (y.kept : Int)] := ⟨_, rfl⟩
      have HF := Lib.hid (show fcells (fall y (([] : List Int).getD k 0)) = fc by rw [hfc]; exact fall0_cells y k)
      have hoV := HO.out
      go_wp2_with (first | (at_builtin; refine wpList_append_own _ rfl _ _ 45 rfl w.heap.size 92 i0 (.agg #[.string ⟨#[]⟩, .string ⟨#[]⟩, .int .i64 0]) 3 40 Tryz.underlying45 hi hz0 hz1 hz2 rfl (by decide) _ _ _ rfl ((hoV.alloc _).alloc _) ⟨wr.heap.size + 1, 0, none⟩ 1 1 fc rfl ?c0 ?c1 ?c2 ?c3 ?c4 ?c5 ?_) | go_in)
      case c0 => rw [hfc]; rfl
      case c1 =>
        intro jj u hj
        rw [hfc] at hj
        match jj, hj with
        | 0, hj => simp at hj; subst hj; simp [Addr.add]
        | 1, hj => simp at hj; subst hj; simp [Addr.add]
        | 2, hj => simp at hj; subst hj; simp [Addr.add]
      case c2 => intro u hu; rw [hfc] at hu; simp at hu; rcases hu with rfl | rfl | rfl <;> rfl
      case c3 => unfold maxLen; omega
      case c4 => omega
      case c5 => have := HB.out.size; simp only [World.size_alloc]; omega
      intro v' w' hw hg _
      have HB' := Lib.hid (((HB.out.alloc HB.out.size _).alloc (by have := HB.out.size; simp only [World.size_alloc]; omega) _).grown hg (by have := HB.out.size; simp only [World.size_alloc]; omega) (fun q hq => (hoV.lt q hq).1))
      have HO' := Lib.hid hw
      clear hw hg hoV
      go_wp2_with fail
      refine ⟨⟨k + 1, by omega, by simp, ?_, HB'.out⟩, ?_⟩
      · rw [HSN.out, fall3_snoc, HF.out, hfc]; exact HO'.out
      · simp [intOf]; omega
    · have he := Lib.hid (show l.take k = l from List.take_of_length_le (by omega))
      obtain ⟨a, cc, rfl⟩ : ∃ a c, u4 = .slice a k c := by
        have := flies_own (l := riseL [] (l.take k)) (by rw [riseL_len, List.length_take, Nat.min_eq_left hk]; exact ho)
        obtain ⟨a, c, e⟩ := this.slice
        rw [riseL_len, List.length_take, Nat.min_eq_left hk] at e
        exact ⟨a, c, e⟩
      clear hb ho
      go_wp2_with fail
      go_end0
      refine ⟨rfl, .slice a k cc, wr, flies_own (l := riseL [] l) (B := w.heap.size) ?_, fun x hx => (HO.out.lt x hx).1, HB.out, rfl⟩
      have h1 := HO.out
      rw [he.out] at h1
      rw [riseL_len]
      have : k = l.length := by omega
      rwa [this] at h1 ⊢
end Go.Proofs.YtcpaaenjfljocaaGreat
/- The document's disk: Rise, its contract. -/
namespace Go.Proofs.YtcpaaenjfljocaaGreat
open Go.RowKit FsPlain
set_option linter.unusedVariables false
set_option linter.unusedSimpArgs false
theorem riseL_names {ks : List Int} {l : List F} {z : F} (h : z ∈ riseL ks l) : ∃ y ∈ l, y.name = z.name := by
  unfold riseL at h
  obtain ⟨i, hi, e⟩ := List.mem_mapIdx.1 h
  exact ⟨l[i], List.getElem_mem hi, by rw [← e]; rfl⟩
theorem rise_fs {s : St} (ks : List Int) (hd : s.fs.Pairwise fun x y => x.name ≠ y.name) : ∀ j, j ≤ s.fs.length → (riseN s ks j).fs = riseL ks (s.fs.take j) ++ s.fs.drop j
  | 0, _ => by simp [riseN, riseL]
  | j + 1, h => by
    obtain ⟨y, hy⟩ : ∃ y, s.fs[j]? = some y := ⟨_, List.getElem?_eq_getElem (by omega)⟩
    have hdr : s.fs.drop j = y :: s.fs.drop (j + 1) := by
      rw [List.drop_eq_getElem_cons (by omega)]
      rw [(List.getElem?_eq_some_iff.1 hy).2]
    have hnm : nameAt s.fs j = y.name := by simp [nameAt, hy]
    have hp := hd
    rw [← List.take_append_drop j s.fs, hdr] at hp
    have hp2 := List.pairwise_append.1 hp
    have hA : ∀ z ∈ riseL ks (s.fs.take j), z.name ≠ y.name := fun z hz => by
      obtain ⟨x, hx, e⟩ := riseL_names hz
      rw [← e]; exact hp2.2.2 x hx y (List.mem_cons_self ..)
    have hC : ∀ z ∈ s.fs.drop (j + 1), z.name ≠ y.name := fun z hz => ((List.pairwise_cons.1 hp2.2.1).1 z hz).symm
    show ((riseN s ks j).fs.map fun f => if f.name = nameAt s.fs j then fall f (ks.getD j 0) else f) = _
    rw [rise_fs ks hd j (by omega), hdr, hnm, upd_list rfl hA hC, riseL_snoc hy, List.append_assoc]
    rfl
theorem risen_ok {s : St} (ks : List Int) (h : s.ok) : ∀ j, j ≤ s.fs.length → (riseN s ks j).ok
  | 0, _ => h
  | j + 1, hj => by
    have ih := risen_ok ks h j (by omega)
    obtain ⟨y, hy⟩ : ∃ y, s.fs[j]? = some y := ⟨_, List.getElem?_eq_getElem (by omega)⟩
    have hnm : nameAt s.fs j = y.name := by simp [nameAt, hy]
    obtain ⟨f, hf⟩ := get_name (s := riseN s ks j) (n := nameAt s.fs j) (by rw [rise_names, hnm]; exact List.mem_map_of_mem (List.mem_of_getElem? hy))
    exact ok_fall ih hf _
theorem sort_names {l m : List F} (h : l.map (·.name) = m.map (·.name)) (hs : SortF l) : SortF m := by
  have e : ∀ l : List F, SortF l ↔ (l.map (·.name)).Pairwise fun a b => Op.bytesLess a b = true := fun l => by
    rw [List.pairwise_map]; rfl
  rw [e, ← h, ← e]; exact hs
theorem riseN_keep (s : St) (ks : List Int) : ∀ j, (riseN s ks j).room = s.room ∧ (riseN s ks j).calls = s.calls
  | 0 => ⟨rfl, rfl⟩
  | j + 1 => riseN_keep s ks j
theorem riseR_is {s : St} (ks : List Int) (h : s.ok) : riseR s ks = { s with down := false, ahead := -1, fs := riseL ks s.fs } := by
  have e := rise_fs ks h.d s.fs.length (Nat.le_refl _)
  rw [List.take_length, List.drop_length, List.append_nil] at e
  obtain ⟨e1, e2⟩ := riseN_keep s ks s.fs.length
  unfold riseR
  simp only []
  rw [e, e1, e2]
theorem rise_ok {s : St} (ks : List Int) (h : s.ok) : (riseR s ks).ok := by
  have k := risen_ok ks h s.fs.length (Nat.le_refl _)
  exact ⟨k.r0, k.r1, k.c0, by show (-1 : Int) ≤ -1; omega, by show (-1 : Int) ≤ _; omega, k.u, k.k, k.n, k.m, k.d⟩
theorem rise_sort {s : St} (ks : List Int) (h : SortF s.fs) : SortF (riseR s ks).fs := sort_names (rise_names s ks s.fs.length).symm h
theorem rrise_nil (d : Nat) (s : St) (w : World) (hm : s.fs = []) (hd : w.heap[d]? = some (.cells (rcells s (.slice none 0 0)) 47 (0, 0))) :
    Calls Tryz.prog 27 #[.pointer (some ⟨d, 0, none⟩), .slice none 0 0] w fun e w' => e = .returned (.tuple #[]) ∧ (∃ v u, FLies u v (riseL [] s.fs) ∧ NewV w v ∧ Below w.heap.size w u ∧ w' = ((u.setCell ⟨d, 1, none⟩ v).setCell ⟨d, 3, none⟩ (.bool false)).setCell ⟨d, 2, none⟩ (.int .i64 (-1))) := by
  have c1 : w.cell? ⟨d, 1, none⟩ = some (.slice none 0 0) := by rw [cells_at hd]; rfl
  have c2 : w.cell? ⟨d, 2, none⟩ = some (.int .i64 s.ahead) := by rw [cells_at hd]; rfl
  have c3 : w.cell? ⟨d, 3, none⟩ = some (.bool s.down) := by rw [cells_at hd]; rfl
  have f1 := cells_free hd 1
  have f2 := cells_free hd 2
  have f3 := cells_free hd 3
  clear hd
  go_enter Tryz.func27, Tryz.ntmps27
  go_wp2_with fail
  go_loopw [4, 5] (fun o i wr => o = .slice none 0 0 ∧ i = .int .i64 0 ∧ wr = w) (fun _ i _ => 0)
  case atStart => exact ⟨rfl, rfl, rfl⟩
  case round =>
    obtain ⟨rfl, rfl, rfl⟩ := hrel
    go_wp2_with fail
    go_end0
    exact ⟨rfl, .slice none 0 0, _, .inl ⟨by rw [hm]; rfl, rfl⟩, (fun x hx => by cases hx), Below.refl _ _, rfl⟩
theorem rrise_c (d : Nat) (s : St) (w : World) {B : Nat → Prop} (hd : RDisk w d s B) :
    Calls Tryz.prog 27 #[.pointer (some ⟨d, 0, none⟩), .slice none 0 0] w (Does w B (RDiskA d (riseR s [])) (.tuple #[])) := by
  obtain ⟨hok, hsort, v, h, hB⟩ := hd
  have C : Calls Tryz.prog 27 #[.pointer (some ⟨d, 0, none⟩), .slice none 0 0] w fun e w' => e = .returned (.tuple #[]) ∧ (∃ v u, FLies u v (riseL [] s.fs) ∧ NewV w v ∧ Below w.heap.size w u ∧ w' = ((u.setCell ⟨d, 1, none⟩ v).setCell ⟨d, 3, none⟩ (.bool false)).setCell ⟨d, 2, none⟩ (.int .i64 (-1))) := by
    obtain ⟨hh, ⟨h1, rfl⟩ | ⟨b, off, c, rfl, hc, hr⟩⟩ := h
    · exact rrise_nil d s w h1 hh
    · exact rrise_some d s b off c w hok hh hc hr
  refine C.mono ?_
  rintro e w' ⟨rfl, v', u, hL, hn, hb, rfl⟩
  have hu := h.gr (Gr.of hb)
  have o : Only (fun i => i = d) u (((u.setCell ⟨d, 1, none⟩ v').setCell ⟨d, 3, none⟩ (.bool false)).setCell ⟨d, 2, none⟩ (.int .i64 (-1))) := ((Only.cell1 _ _ _ _).trans (Only.cell1 _ _ _ _)).trans (Only.cell1 _ _ _ _)
  refine ⟨rfl, rd_new hB (rise_ok [] hok) (rise_sort [] hsort) (v' := v') ?_ ((Only.ofGr (Gr.of hb)).trans o) hn⟩
  refine hu.put (s' := riseR s []) (by rw [riseR_is [] hok]; exact hL) o ?_
  rw [cells_set (cells_set (cells_set hu.1 1 _) 3 _) 2 _, riseR_is [] hok]; rfl
end Go.Proofs.YtcpaaenjfljocaaGreat
/- The document's disk as a part of a world: what its calls leave. -/
namespace Go.Proofs.YtcpaaenjfljocaaGreat
open Go.RowKit FsPlain
set_option linter.unusedVariables false
set_option linter.unusedSimpArgs false
theorem r_create (d : Nat) (s : St) (n : ByteArray) (hn : n.size ≤ 24) (hm : rightB n.data.toList = true) (h1 : s.calls ≤ 1000000000000) (w : World) (B : Nat → Prop) (h : RDiskA d s w B) :
    Calls Tryz.prog 41 #[.pointer (some ⟨d, 0, none⟩), .string n] w (Does w B (RDiskA d (createR s n.data.toList).1) (.int .i64 (createR s n.data.toList).2)) := by
  have C := rcreate_c d s n.data.toList w h hm (by rw [show n.data.toList.length = n.size from Array.length_toList]; exact hn) h1
  rwa [bs_toList] at C
theorem r_append (d : Nat) (s : St) (n t : ByteArray) (hn : n.size ≤ 24) (hm : rightB n.data.toList = true) (h1 : s.calls ≤ 1000000000000) (ht : t.size ≤ 1000000000) (w : World) (B : Nat → Prop) (h : RDiskA d s w B) :
    Calls Tryz.prog 42 #[.pointer (some ⟨d, 0, none⟩), .string n, .string t] w (Does w B (RDiskA d (appendR s n.data.toList t.data.toList).1) (.int .i64 (appendR s n.data.toList t.data.toList).2)) := by
  have C := rappend_c d s n.data.toList t.data.toList w h hm (by rw [show n.data.toList.length = n.size from Array.length_toList]; exact hn) (by rw [show t.data.toList.length = t.size from Array.length_toList]; exact ht) h1
  rwa [bs_toList, bs_toList] at C
theorem r_sync (d : Nat) (s : St) (n : ByteArray) (hn : n.size ≤ 24) (hm : rightB n.data.toList = true) (h1 : s.calls ≤ 1000000000000) (w : World) (B : Nat → Prop) (h : RDiskA d s w B) :
    Calls Tryz.prog 52 #[.pointer (some ⟨d, 0, none⟩), .string n] w (Does w B (RDiskA d (syncR s n.data.toList).1) (.int .i64 (syncR s n.data.toList).2)) := by
  have C := rsync_c d s n.data.toList w h hm (by rw [show n.data.toList.length = n.size from Array.length_toList]; exact hn) h1
  rwa [bs_toList] at C
end Go.Proofs.YtcpaaenjfljocaaGreat
/- The document's writer: lay. -/
namespace Go.Proofs.YtcpaaenjfljocaaGreat
open Go.RowKit FsPlain CrcPlain OctPlain FramePlain RecPlain WrPlain
set_option linter.unusedVariables false
set_option linter.unusedSimpArgs false
set_option maxRecDepth 20000 in
set_option maxHeartbeats 1000000 in
theorem rw_lay (x D P : Nat) (m : M3) (t : ByteArray) (hm : m.ok) (hc : m.s.calls ≤ 1000000000000) (ht : t.size ≤ 1000000000) (w : World) (B : Nat → Prop) (h : R3 x D P m w B) :
    Calls Tryz.prog 49 #[.pointer (some ⟨x, 0, none⟩), .string t] w (RW3 x D P w B (layM m t).1 (.int .i64 (layM m t).2)) := by
  obtain ⟨vw, va, h⟩ := r3_open h
  have hb := r5_blk h
  have c0 : w.cell? ⟨x, 0, none⟩ = some (.pointer (some ⟨D, 0, none⟩)) := by rw [cells_at hb]; rfl
  have c2 : w.cell? ⟨x, 2, none⟩ = some (.string m.x.nm) := by rw [cells_at hb]; rfl
  have hg : Gr w w.drew := (Gr.refl w).drew
  have h1 := stars_gr (frs_r5 _ _ _ _ _ _ _ _) h hg
  have C := does_at (f := 42) 3 rfl (frs_r5 _ _ _ _ _ _ _ _) h1 fun B2 h2 => r_append D m.s m.x.nm t hm.n1 hm.n2 hc ht w.drew B2 h2
  unfold layM
  obtain ⟨⟨s', c⟩, hR⟩ : ∃ R, R = appendR m.s m.x.nm.data.toList t.data.toList := ⟨_, rfl⟩
  rw [← hR] at C ⊢
  obtain ⟨M, hM⟩ : ∃ M : M3 × Int, M = (if c = 0 then (⟨s', m.b, m.x⟩, 0) else (dropM ⟨s', m.b, m.x⟩, c)) := ⟨_, rfl⟩
  rw [show (if (s', c).2 = 0 then ((⟨(s', c).1, m.b, m.x⟩ : M3), (0 : Int)) else (dropM ⟨(s', c).1, m.b, m.x⟩, (s', c).2)) = M from hM.symm]
  have HM := Lib.hid hM
  have CC := Lib.hid C
  have HG := Lib.hid hg
  clear h h1 hb C hg hR hm ht hM
  go_enter Tryz.func49, Tryz.ntmps49
  go_wp2_with fail
  go_still_tail 9, (by kernel_rfl)
  change wpList _ _ _ _ _ w.drew
  go_wp2_with fail
  refine CC.out.mono ?_; rintro e w2 hd
  obtain ⟨rfl, B2, h2, n2⟩ := hd
  have H2 := Lib.hid (r3_close (m := ⟨s', m.b, m.x⟩) h2)
  have N2 := Lib.hid ((Nx.gr (B := B) HG.out).trans n2)
  clear h2 n2 CC
  by_cases h0 : c = 0
  · subst h0
    obtain rfl : M = (⟨s', m.b, m.x⟩, 0) := by rw [HM.out, if_pos rfl]
    go_wp2_with fail
    go_ret
    exact ⟨rfl, B2, H2.out, N2.out⟩
  · have t1 : (c == 0) = false := by simpa using h0
    have t2 : (c != 0) = true := by simpa using h0
    obtain rfl : M = (dropM ⟨s', m.b, m.x⟩, c) := by rw [HM.out, if_neg h0]
    have CD := Lib.hid (rw_drop x D P ⟨s', m.b, m.x⟩ w2 B2 H2.out)
    clear h0
    go_wp2_with fail
    refine CD.out.mono ?_; rintro e w3 hd
    obtain ⟨rfl, B3, h3, n3⟩ := hd
    have H3 := Lib.hid h3
    have N3 := Lib.hid n3
    clear h3 n3 CD
    go_wp2_with fail
    go_ret
    exact ⟨rfl, B3, H3.out, N2.out.trans N3.out⟩
end Go.Proofs.YtcpaaenjfljocaaGreat
/- The document's writer: Put. -/
namespace Go.Proofs.YtcpaaenjfljocaaGreat
open Go.RowKit FsPlain CrcPlain OctPlain FramePlain RecPlain WrPlain
set_option linter.unusedVariables false
set_option linter.unusedSimpArgs false
theorem rw_put_shut (x D P : Nat) (m : M3) (r : ByteArray) (ho : m.x.opn = false) (w : World) (B : Nat → Prop) (h : R3 x D P m w B) :
    Calls Tryz.prog 16 #[.pointer (some ⟨x, 0, none⟩), .string r] w (RW3 x D P w B (putM m r).1 (.int .i64 (putM m r).2)) := by
  have e : putM m r = (m, 14) := by unfold putM; rw [if_pos ho]
  rw [e]
  have H := Lib.hid h
  obtain ⟨vw, va, h⟩ := r3_open h
  have c6 : w.cell? ⟨x, 6, none⟩ = some (.bool false) := by rw [cells_at (r5_blk h), ← ho]; rfl
  clear h e ho
  go_enter Tryz.func16, Tryz.ntmps16
  go_wp2_with fail
  go_ret
  exact ⟨rfl, B, H.out, Nx.refl _ _⟩
theorem rw_put_bad (x D P : Nat) (m : M3) (r : ByteArray) (ho : m.x.opn = true) (hz : ¬ (r.size : Int) = m.x.size) (w : World) (B : Nat → Prop) (h : R3 x D P m w B) :
    Calls Tryz.prog 16 #[.pointer (some ⟨x, 0, none⟩), .string r] w (RW3 x D P w B (putM m r).1 (.int .i64 (putM m r).2)) := by
  have e : putM m r = (m, 1) := by unfold putM; rw [if_neg (by rw [ho]; decide), if_pos hz]
  rw [e]
  have H := Lib.hid h
  obtain ⟨vw, va, h⟩ := r3_open h
  have c6 : w.cell? ⟨x, 6, none⟩ = some (.bool true) := by rw [cells_at (r5_blk h), ← ho]; rfl
  have c3 : w.cell? ⟨x, 3, none⟩ = some (.int .i64 m.x.size) := by rw [cells_at (r5_blk h)]; rfl
  have t1 : ((r.size : Int) == m.x.size) = false := by simpa using hz
  have t2 : ((r.size : Int) != m.x.size) = true := by simpa using hz
  clear h e ho
  go_enter Tryz.func16, Tryz.ntmps16
  go_wp2_with fail
  go_ret
  exact ⟨rfl, B, H.out, Nx.refl _ _⟩
theorem blkS_le {size : Int} {l : List ByteArray} (hz : sizeB size = true) (hl : l.length ≤ 4) (ha : ∀ s ∈ l, (s.size : Int) = size) : (blkS size l).size ≤ 300 := by
  have hs : 1 ≤ size ∧ size ≤ 64 := by simpa [sizeB] using hz
  cases hb : blkB size l
  · rw [blkS_no hb]; decide
  · rw [blkS_yes hb, cl_size, blk_size]
    have := cat_le (l := l) fun s h => by have := ha s h; omega
    omega
theorem ok_put {m : M3} (h : m.ok) {r : ByteArray} (hz : (r.size : Int) = m.x.size) : (M3.mk m.s m.b (m.x.put r).none).ok := by
  refine ⟨h.s, h.b, h.n1, h.n2, h.z, Nat.zero_le _, (fun q hq => by cases hq), fun q hq => ?_⟩
  rcases List.mem_append.1 hq with hq | hq
  · exact h.az q hq
  · rw [List.mem_singleton.1 hq]; exact hz
theorem all_snoc {m : M3} (h : m.ok) {r : ByteArray} (hz : (r.size : Int) = m.x.size) : ∀ q ∈ m.x.wait ++ [r], (q.size : Int) = m.x.size := fun q hq => by
  rcases List.mem_append.1 hq with hq | hq
  · exact h.wz q hq
  · rw [List.mem_singleton.1 hq]; exact hz
set_option maxRecDepth 20000 in
set_option maxHeartbeats 4000000 in
theorem rw_put_in (x D P : Nat) (m : M3) (r : ByteArray) (hm : m.ok) (hal : m.x.all.length ≤ 100000) (hc : m.s.calls ≤ 1000000000000) (ho : m.x.opn = true) (hz : (r.size : Int) = m.x.size) (w : World) (B : Nat → Prop) (h : R3 x D P m w B) :
    Calls Tryz.prog 16 #[.pointer (some ⟨x, 0, none⟩), .string r] w (RW3 x D P w B (putM m r).1 (.int .i64 (putM m r).2)) := by
  obtain ⟨M, hM⟩ : ∃ M, M = putM m r := ⟨_, rfl⟩
  rw [← hM]
  have HM := Lib.hid hM
  obtain ⟨vw, va, h⟩ := r3_open h
  have hb := r5_blk h
  obtain ⟨_, hrw, _⟩ := part_at 1 rfl h
  obtain ⟨_, hra, _⟩ := part_at 2 rfl h
  obtain ⟨i0, hi, hz0, hz1, hz2⟩ := info_parts infoS
  have c3 : w.cell? ⟨x, 3, none⟩ = some (.int .i64 m.x.size) := by rw [cells_at hb]; rfl
  have c4 : w.cell? ⟨x, 4, none⟩ = some vw := by rw [cells_at hb]; rfl
  have c6 : w.cell? ⟨x, 6, none⟩ = some (.bool true) := by rw [cells_at hb, ← ho]; rfl
  have t1 : ((r.size : Int) == m.x.size) = true := by simpa using hz
  have t2 : ((r.size : Int) != m.x.size) = false := by simpa using hz
  obtain ⟨aw, cw, rfl, _⟩ := rowE_shape hrw
  obtain ⟨aa, ca, rfl, _⟩ := rowE_shape hra
  obtain ⟨n, hn⟩ : ∃ n, m.x.wait.length = n := ⟨_, rfl⟩
  obtain ⟨k, hk⟩ : ∃ k, m.x.all.length = k := ⟨_, rfl⟩
  have hwl := hm.wl
  have HOK := Lib.hid hm
  have HN := Lib.hid hn
  have HK := Lib.hid hk
  have HO := Lib.hid ho
  have HZ := Lib.hid hz
  have H := Lib.hid h
  have RW := Lib.hid hrw.1
  have hxl := lt_of_block hb
  have hsz : 1 ≤ m.x.size ∧ m.x.size ≤ 64 := by have := hm.z; simpa [sizeB] using this
  obtain ⟨hsz1, hsz2⟩ := hsz
  rw [hn] at c4 hwl
  have hal' : k ≤ 100000 := by omega
  clear h hb hrw hra ho hz hn hk hm hM hal
  go_enter Tryz.func16, Tryz.ntmps16
  go_wp2_with (at_builtin; refine wpList_append_own_at _ rfl _ _ 22 rfl 0 9 i0 (.string ⟨#[]⟩) 1 16 Tryz.underlying22 hi hz0 hz1 hz2 rfl (by decide) (.slice aw n cw) n (strs m.x.wait) rfl (by have := RW.out; rw [HN.out] at this; exact this.alloc _) ⟨w.heap.size, 0, none⟩ 1 1 [.string r] rfl rfl (cell_one_new _ _ _) (by simp [Value.oneCell']) (by unfold maxLen; omega) (by omega) (Nat.zero_le _) ?_)
  intro v1 w1 ho1 hg1 _ ha1
  obtain ⟨B1, h1, n1⟩ := rl_wait H.out HN.out ((Gr.refl w).alloc (Nat.le_refl _) _) (World.size_alloc _ _).symm ho1 (by rw [HN.out]; exact hg1) (by rw [HN.out]; exact ha1)
  obtain ⟨_, hb1, _⟩ := part_at 0 rfl h1
  obtain ⟨_, hr1, _⟩ := part_at 1 rfl h1
  obtain ⟨a1, c1, e1, _⟩ := rowE_shape hr1
  obtain ⟨n', hn'⟩ : ∃ n', (m.x.wait ++ [r]).length = n' := ⟨_, rfl⟩
  have HN' := Lib.hid hn'
  have hnn : n' = n + 1 := by rw [← hn', List.length_append, HN.out]; rfl
  rw [hn'] at e1
  subst e1
  obtain ⟨B2, h2, n2⟩ := rl_set (c' := rwcells D P m.x (.slice a1 n' c1) (.slice aa m.x.all.length ca)) 4 (.slice a1 n' c1) h1 rfl
  have f4 := cells_free hb1.1 4
  obtain ⟨_, hb2, _⟩ := part_at 0 rfl h2
  obtain ⟨_, hr2, _⟩ := part_at 2 rfl h2
  have c4' : w1.cell? ⟨x, 4, none⟩ = some (.slice aw m.x.wait.length cw) := by rw [cells_at hb1.1]; rfl
  have c5 : w1.cell? ⟨x, 5, none⟩ = some (.slice aa k ca) := by rw [cells_at hb1.1, ← HK.out]; rfl
  have RA := Lib.hid hr2.1
  have H2 := Lib.hid h2
  have N2 := Lib.hid (n1.trans n2)
  have hxl1 := lt_of_block hb1.1
  have hn4 : n' ≤ 4 := by omega
  have HNN := Lib.hid hnn
  clear h1 h2 n1 n2 hb1 hb2 hr1 hr2 ho1 hg1 ha1 hn' c3 c4 c6 t1 t2 hnn
  go_wp2_with (at_builtin; refine wpList_append_own_at _ rfl _ _ 22 rfl 0 9 i0 (.string ⟨#[]⟩) 1 16 Tryz.underlying22 hi hz0 hz1 hz2 rfl (by decide) (.slice aa k ca) k (strs m.x.all) rfl (by have := RA.out; rw [HK.out] at this; exact this.alloc _) ⟨w1.heap.size, 0, none⟩ 1 1 [.string r] rfl rfl (by have := cell_one_new (w1.setCell ⟨x, 4, none⟩ (.slice a1 n' c1)) (.string r) 9; simpa using this) (by simp [Value.oneCell']) (by unfold maxLen; omega) (by omega) (Nat.zero_le _) ?_)
  intro v3 w3 ho3 hg3 _ ha3
  obtain ⟨B3, h3, n3⟩ := rl_all (q := w1.heap.size + 1) H2.out HK.out ((Gr.refl (w1.setCell ⟨x, 4, none⟩ (.slice a1 n' c1))).alloc (Nat.le_refl _) (.cells #[.string r] 9)) (by rw [World.size_alloc]; simp [World.setCell]) ho3 (by rw [HK.out]; exact hg3) (by rw [HK.out]; exact ha3)
  obtain ⟨_, hb3, _⟩ := part_at 0 rfl h3
  obtain ⟨_, hr3, _⟩ := part_at 2 rfl h3
  obtain ⟨a3, c3, e3, _⟩ := rowE_shape hr3
  obtain ⟨k', hk'⟩ : ∃ k', (m.x.all ++ [r]).length = k' := ⟨_, rfl⟩
  have HK' := Lib.hid hk'
  rw [hk'] at e3
  subst e3
  obtain ⟨B4, h4, n4⟩ := rl_set (c' := rwcells D P m.x (.slice a1 n' c1) (.slice a3 k' c3)) 5 (.slice a3 k' c3) h3 rfl
  have f5 := cells_free hb3.1 5
  have c5' : w3.cell? ⟨x, 5, none⟩ = some (.slice aa m.x.all.length ca) := by rw [cells_at hb3.1]; rfl
  have d4 : w3.cell? ⟨x, 4, none⟩ = some (.slice a1 n' c1) := by rw [cells_at hb3.1]; rfl
  have d3 : w3.cell? ⟨x, 3, none⟩ = some (.int .i64 m.x.size) := by rw [cells_at hb3.1]; rfl
  have H4 := Lib.hid h4
  have N4 := Lib.hid ((N2.out.trans n3).trans n4)
  clear h3 h4 n3 n4 hb3 hr3 ho3 hg3 ha3 hk' f4 c4' c5
  by_cases hlt : n' < 4
  · have hM : M = (⟨m.s, m.b, m.x.put r⟩, 0) := by
      rw [HM.out]; unfold putM
      rw [if_neg (by rw [HO.out]; decide), if_neg (by simpa using HZ.out), if_pos (by have := HNN.out; have := HN.out; omega)]
    subst hM
    have hlt' : (n' : Int) < 4 := by omega
    go_wp2_with fail
    go_ret
    exact ⟨rfl, B4, r3_close (m := ⟨m.s, m.b, m.x.put r⟩) H4.out, N4.out⟩
  · have hM : M = layM ⟨m.s, m.b, (m.x.put r).none⟩ (blkS m.x.size (m.x.wait ++ [r])) := by
      rw [HM.out]; unfold putM
      rw [if_neg (by rw [HO.out]; decide), if_neg (by simpa using HZ.out), if_neg (by have := HNN.out; have := HN.out; omega)]
    have hlt' : ¬ (n' : Int) < 4 := by omega
    have hge : 4 ≤ (n' : Int) := by omega
    have HMM := Lib.hid hM
    clear hM
    go_wp2_with fail
    obtain ⟨W4, hW4⟩ : ∃ W4, W4 = w3.setCell ⟨x, 5, none⟩ (.slice a3 k' c3) := ⟨_, rfl⟩
    rw [← hW4] at H4 N4 ⊢
    obtain ⟨_, hb4, _⟩ := part_at 0 rfl H4.out
    obtain ⟨_, hr4, _⟩ := part_at 1 rfl H4.out
    have e4 : W4.cell? ⟨x, 4, none⟩ = some (.slice a1 n' c1) := by rw [cells_at hb4.1]; rfl
    have e3 : W4.cell? ⟨x, 3, none⟩ = some (.int .i64 m.x.size) := by rw [cells_at hb4.1]; rfl
    have CP0 : ∀ u, Gr W4 u → Calls Tryz.prog 48 #[.int .i64 m.x.size, .slice a1 n' c1] u fun e w' => e = .returned (.tuple #[.string (blkS m.x.size (m.x.wait ++ [r])), .bool (blkB m.x.size (m.x.wait ++ [r]))]) ∧ Gr W4 w' ∧ w'.cell? ⟨x, 3, none⟩ = some (.int .i64 m.x.size) ∧ w'.cell? ⟨x, 4, none⟩ = some (.slice a1 n' c1) := by
      intro u g
      refine (rfput_c ((row_lies hr4).gr g) m.x.size (by unfold I64; omega) (by rw [HN'.out]; omega)).mono ?_
      rintro e u2 ⟨rfl, g2⟩
      have hg := g.trans g2
      exact ⟨rfl, hg, by rw [hg.cell (p := ⟨x, 3, none⟩) (lt_of_block hb4.1)]; exact e3, by rw [hg.cell (p := ⟨x, 4, none⟩) (lt_of_block hb4.1)]; exact e4⟩
    obtain ⟨T, hT⟩ : ∃ T, T = blkS m.x.size (m.x.wait ++ [r]) := ⟨_, rfl⟩
    obtain ⟨tb, htb⟩ : ∃ tb, tb = blkB m.x.size (m.x.wait ++ [r]) := ⟨_, rfl⟩
    rw [← hT, ← htb] at CP0
    rw [← hT] at HMM
    have CP := Lib.hid CP0
    have HT := Lib.hid hT
    have gW := Gr.refl W4
    have gWd : Gr W4 W4.drew := Below.drew gW
    clear hW4 hb4 hr4 d4 d3 c5' f5 hT htb CP0
    go_region_held3 (fun w' => w'.cell? ⟨x, 3, none⟩ = some (.int .i64 m.x.size) ∧ w'.cell? ⟨x, 4, none⟩ = some (.slice a1 n' c1)) (first | exact ⟨by assumption, by assumption⟩ | go_keep)
      ((go_at_call 48; (with_reducible refine (CP.out _ (by assumption)).mono ?_); rintro e w5 ⟨rfl, hg5, hu3, hu4⟩))
    clear hu3 hu4
    have h5 := stars_gr (frs_rl _ _ _ _ _ _ _ _ _ _) H4.out hg5
    obtain ⟨_, hb5, _⟩ := part_at 0 rfl h5
    have f4 := cells_free hb5.1 4
    have c4 : w5.cell? ⟨x, 4, none⟩ = some (.slice a1 n' c1) := by rw [cells_at hb5.1]; rfl
    obtain ⟨B6, h6, n6⟩ := rl_set (c' := rwcells D P m.x (.slice none 0 0) (.slice a3 k' c3)) 4 (.slice none 0 0) h5 rfl
    obtain ⟨B7, h7, n7⟩ := rl_none h6
    have hz := HZ.out
    have CL := Lib.hid (rw_lay x D P ⟨m.s, m.b, (m.x.put r).none⟩ T (ok_put HOK.out hz) hc (by rw [HT.out]; have := blkS_le (l := m.x.wait ++ [r]) HOK.out.z (by rw [HN'.out]; omega) (all_snoc HOK.out hz); omega) _ B7 (r3_close (m := ⟨m.s, m.b, (m.x.put r).none⟩) h7))
    have N7 := Lib.hid (((N4.out.trans (Nx.gr hg5)).trans n6).trans n7)
    clear h5 h6 h7 n6 n7 hb5 hg5 hz CP gW gWd
    go_wp2_with fail
    refine CL.out.mono ?_; rintro e w8 hd
    obtain ⟨rfl, B8, h8, n8⟩ := hd
    have H8 := Lib.hid h8
    have N8 := Lib.hid n8
    rw [← HMM.out] at H8
    rw [← HMM.out]
    clear h8 n8 CL
    go_wp2_with fail
    go_ret
    exact ⟨rfl, B8, H8.out, N7.out.trans N8.out⟩
theorem rw_put (x D P : Nat) (m : M3) (r : ByteArray) (hm : m.ok) (hal : m.x.all.length ≤ 100000) (hc : m.s.calls ≤ 1000000000000) (w : World) (B : Nat → Prop) (h : R3 x D P m w B) :
    Calls Tryz.prog 16 #[.pointer (some ⟨x, 0, none⟩), .string r] w (RW3 x D P w B (putM m r).1 (.int .i64 (putM m r).2)) := by
  cases ho : m.x.opn
  · exact rw_put_shut x D P m r ho w B h
  · by_cases hz : (r.size : Int) = m.x.size
    · exact rw_put_in x D P m r hm hal hc ho hz w B h
    · exact rw_put_bad x D P m r ho hz w B h
end Go.Proofs.YtcpaaenjfljocaaGreat

/- In one text: RfsRiseK. -/
import Derived.Test.YtckmciafonnohaaGreatP14
import Derived.BigQuiet
/- The document's disk: Rise with whatever stays. -/
namespace Go.Proofs.YtckmciafonnohaaGreat
open Go.RowKit FsPlain
set_option linter.unusedVariables false
set_option linter.unusedSimpArgs false
set_option maxRecDepth 20000
/-- What stays, as an argument. -/
def KeepR (w : World) (a : Option Addr) (ks : List Int) : Prop := ks = [] ∨ ∃ kb ko, a = some ⟨kb, ko, none⟩ ∧ kb < w.heap.size ∧ ∀ j k, ks[j]? = some k → w.cell? ⟨kb, ko + j, none⟩ = some (.int .i64 k)
theorem KeepR.gr {w w' : World} {a : Option Addr} {ks : List Int} (h : KeepR w a ks) (g : Gr w w') : KeepR w' a ks := h.imp id fun ⟨kb, ko, e, hb, hc⟩ => ⟨kb, ko, e, Nat.lt_of_lt_of_le hb g.size, fun j k hk => by rw [Below.cell g (p := ⟨kb, ko + j, none⟩) hb]; exact hc j k hk⟩
/-- How many bytes more stay. -/
def moreN (y : F) (k : Int) : Nat := min (max k 0).toNat (y.data.length - y.kept)
theorem fallk_cells (y : F) (k : Int) (h : y.kept ≤ y.data.length) : fcells (fall y k) = [Value.string (bs y.name), Value.string ((bs y.data).extract 0 (y.kept + moreN y k)), Value.int IntKind.i64 ((y.kept + moreN y k : Nat) : Int)] := by
  have e : (bs y.data).extract 0 (y.kept + moreN y k) = bs (y.data.take (y.kept + moreN y k)) := by
    apply ByteArray.ext
    simp [bs, ByteArray.data_extract]
  rw [e]
  simp [fcells, fall, moreN]
theorem moreN_is {y : F} {k : Int} (h : y.kept ≤ y.data.length) : max 0 (min k ((y.data.length : Int) - (y.kept : Int))) = (moreN y k : Int) := by
  unfold moreN
  omega
set_option maxRecDepth 20000 in
set_option maxHeartbeats 8000000 in
theorem rrisek_some (d : Nat) (s : St) (b off c : Nat) (ka : Option Addr) (ks : List Int) (kc : Nat) (w : World) (hs : s.ok) (hK : KeepR w ka ks) (hkl : ks.length ≤ 1000000) (hd : w.heap[d]? = some (.cells (rcells s (.slice (some ⟨b, off, none⟩) s.fs.length c)) 45 (0, 0))) (hc : s.fs.length ≤ c) (hr : FCells w b off s.fs) :
    Calls Tryz.prog 21 #[.pointer (some ⟨d, 0, none⟩), .slice ka ks.length kc] w fun e w' => e = .returned (.tuple #[]) ∧ (∃ v u, FLies u v (riseL ks s.fs) ∧ NewV w v ∧ Below w.heap.size w u ∧ w' = ((u.setCell ⟨d, 1, none⟩ v).setCell ⟨d, 3, none⟩ (.bool false)).setCell ⟨d, 2, none⟩ (.int .i64 (-1))) := by
  have hst : RiAt ks s.fs w (.slice none 0 0) (.int .i64 0) w := ⟨0, Nat.zero_le _, rfl, World.ownsRow_nil _ _ _ _, Below.refl _ _⟩
  have hm := hs.m
  have hr1 := hs.r1
  have hu := hs.u
  have hkk := hs.k
  obtain ⟨l, hl⟩ : ∃ l, s.fs = l := ⟨_, rfl⟩
  rw [hl] at hd hc hr hst ⊢ hm hu hkk
  obtain ⟨n, hn⟩ : ∃ n, l.length = n := ⟨_, rfl⟩
  have HN := Lib.hid hn
  have HR := Lib.hid hr
  have HD := Lib.hid hd
  have HST := Lib.hid hst
  have HKK := Lib.hid hkk
  have HK := Lib.hid hK
  obtain ⟨kn, hkn⟩ : ∃ kn, ks.length = kn := ⟨_, rfl⟩
  have HKN := Lib.hid hkn
  rw [hkn] at hkl ⊢
  have hklI : (kn : Int) ≤ 1000000 := by omega
  rw [hn] at hc hm
  clear hn hr hst hd hl hs hkk hK hkn
  go_enter Tryz.func21, Tryz.ntmps21
  go_wp2_with fail
  go_loopw [4, 5, 7] (fun o i _ wr => RiAt ks l w o i wr) (fun _ i _ _ => n - (intOf i).toNat)
  case atStart => exact HST.out
  case round =>
    obtain ⟨k, hk, rfl, ho, hb⟩ := hrel
    have hln := HN.out
    have hdw : wr.heap[d]? = w.heap[d]? := hb.block d (blk_lt2 HD.out)
    have hd1 := HD.out
    rw [← hdw] at hd1
    have c1 : wr.cell? ⟨d, 1, none⟩ = some (.slice (some ⟨b, off, none⟩) n c) := by rw [cells_at hd1]; rw [← hln]; rfl
    have f1 := cells_free hd1 1
    have f2 := cells_free hd1 2
    have f3 := cells_free hd1 3
    have c2 : wr.cell? ⟨d, 2, none⟩ = some (.int .i64 s.ahead) := by rw [cells_at hd1]; rfl
    have c3 : wr.cell? ⟨d, 3, none⟩ = some (.bool s.down) := by rw [cells_at hd1]; rfl
    obtain ⟨i0, hi, hz0, hz1, hz2⟩ := info_parts infoF
    have HB := Lib.hid hb
    have HO := Lib.hid ho
    have HD1 := Lib.hid hd1
    clear hdw hd1
    by_cases hlt : k < n
    · obtain ⟨y, hy⟩ : ∃ y, l[k]? = some y := ⟨_, List.getElem?_eq_getElem (by omega)⟩
      obtain ⟨q0, q1, q2⟩ := fall3_at l k y hy
      have hrw := HR.out.gr (Gr.of hb)
      rw [Nat.mul_comm 3 k] at q0 q1 q2
      have y0 := hrw.2 _ _ q0
      have y1 := hrw.2 _ _ q1
      have y2 := hrw.2 _ _ q2
      rw [← Nat.add_assoc] at y1 y2
      have hsz : (bs y.data).size = y.data.length := bs_size _
      have hyk := HKK.out y (List.mem_of_getElem? hy)
      have hyu := used_le (List.mem_of_getElem? hy)
      have HSN := Lib.hid (riseL_snoc (ks := ks) hy)
      have KG := HK.out.gr (Gr.of hb)
      clear hy q0 q1 q2 hrw hb ho
      by_cases hkn : k < kn
      · obtain ⟨x, hx⟩ : ∃ x, ks[k]? = some x := ⟨_, List.getElem?_eq_getElem (by rw [HKN.out]; exact hkn)⟩
        have qk : (k : Int) < (kn : Int) := by omega
        obtain ⟨kb, ko, rfl, hkb, hkc⟩ : ∃ kb ko, ka = some ⟨kb, ko, none⟩ ∧ kb < wr.heap.size ∧ ∀ j k, ks[j]? = some k → wr.cell? ⟨kb, ko + j, none⟩ = some (.int .i64 k) := by
          rcases KG with e | h
          · rw [e] at hx; cases hx
          · exact h
        have kx := hkc k x hx
        have hmx := moreN_is (k := x) hyk
        obtain ⟨mm, hmm⟩ : ∃ mm, moreN y x = mm := ⟨_, rfl⟩
        have hml : y.kept + mm ≤ y.data.length := by rw [← hmm]; unfold moreN; omega
        rw [hmm] at hmx
        obtain ⟨fc, hfc⟩ : ∃ fc, fc = [Value.string (bs y.name), Value.string ((bs y.data).extract 0 (y.kept + mm)), Value.int IntKind.i64 ((y.kept + mm : Nat) : Int)] := ⟨_, rfl⟩
        have HF := Lib.hid (show fcells (fall y (ks.getD k 0)) = fc by
          rw [hfc, show ks.getD k 0 = x by simp [List.getD, hx], fallk_cells y x hyk, hmm])
        have hoV := HO.out
        obtain ⟨km, hkm⟩ : ∃ km : Nat, (y.kept : Int) + (mm : Int) = (km : Int) := ⟨y.kept + mm, by omega⟩
        obtain rfl : y.kept + mm = km := by omega
        have hkmI : ((y.kept + mm : Nat) : Int) ≤ (y.data.length : Int) := by omega
        obtain ⟨km, hkm2⟩ : ∃ km : Nat, y.kept + mm = km := ⟨_, rfl⟩
        rw [hkm2] at hkm hkmI hfc
        have hks : ((bs y.data).extract 0 km).size = km := by rw [ByteArray.size_extract, hsz]; omega
        have HFC := Lib.hid hfc
        have HKM := Lib.hid hkm
        obtain ⟨V, hV⟩ : ∃ V, (wr.alloc (.cells #[.string (bs y.name), .string (bs y.data), .int .i64 (y.kept : Int)] 65)).drew = V := ⟨_, rfl⟩
        have gV : Gr wr V := by rw [← hV]; exact Below.drew (Below.alloc (Below.refl _ _) (Nat.le_refl _) _)
        have yV : V.heap[wr.heap.size]? = some (.cells #[.string (bs y.name), .string (bs y.data), .int .i64 (y.kept : Int)] 65 (0, 0)) := by rw [← hV]; exact heap_alloc_new wr _
        have hoU0 : V.ownsRow w.heap.size 65 3 u4 k (fall3 (riseL ks (l.take k))) := by rw [← hV]; exact hoV.alloc _
        obtain ⟨sx, hsx⟩ : ∃ sx, (bs y.data).extract 0 km = sx := ⟨_, rfl⟩
        rw [hsx] at hks
        have z1 := cells_set yV 1 (.string sx)
        have z2 := cells_set z1 2 (.int .i64 (km : Int))
        obtain ⟨U, hU⟩ : ∃ U, (V.setCell ⟨wr.heap.size, 1, none⟩ (.string sx)).setCell ⟨wr.heap.size, 2, none⟩ (.int .i64 (km : Int)) = U := ⟨_, rfl⟩
        rw [hU] at z2
        have kV : V.cell? ⟨kb, ko + k, none⟩ = some (.int .i64 x) := (Below.cell gV (p := ⟨kb, ko + k, none⟩) hkb).trans kx
        have v1 : V.cell? ⟨wr.heap.size, 1, none⟩ = some (.string (bs y.data)) := by rw [cells_at yV]; rfl
        have v2 : V.cell? ⟨wr.heap.size, 2, none⟩ = some (.int .i64 (y.kept : Int)) := by rw [cells_at yV]; rfl
        have vf1 := cells_free yV 1
        have w1c : (V.setCell ⟨wr.heap.size, 1, none⟩ (.string sx)).cell? ⟨wr.heap.size, 1, none⟩ = some (.string sx) := by rw [cells_at z1]; rfl
        have w2c : (V.setCell ⟨wr.heap.size, 1, none⟩ (.string sx)).cell? ⟨wr.heap.size, 2, none⟩ = some (.int .i64 (y.kept : Int)) := by rw [cells_at z1]; rfl
        have wf2 := cells_free z1 2
        have m0 : U.cell? ⟨wr.heap.size, 0, none⟩ = some (.string (bs y.name)) := by rw [cells_at z2]; rfl
        have m1 : U.cell? ⟨wr.heap.size, 1, none⟩ = some (.string sx) := by rw [cells_at z2]; rfl
        have m2 : U.cell? ⟨wr.heap.size, 2, none⟩ = some (.int .i64 (km : Int)) := by rw [cells_at z2]; rfl
        have hob : u4.ownBlock ≠ some wr.heap.size := fun e => by have := (hoV.lt _ e).2; omega
        have hoU : U.ownsRow w.heap.size 65 3 u4 k (fall3 (riseL ks (l.take k))) := by
          rw [← hU]
          exact ownsRow_setCell_other (ownsRow_setCell_other hoU0 (a := ⟨wr.heap.size, 1, none⟩) hob _) (a := ⟨wr.heap.size, 2, none⟩) hob _
        have gU : Gr wr U := by rw [← hU]; exact Below.setCell (Below.setCell gV (Nat.le_refl _) _) (Nat.le_refl _) _
        have BU := Lib.hid (show Below w.heap.size w U ∧ w.heap.size ≤ U.heap.size from ⟨Below.trans HB.out (Below.mono gU HB.out.size), by have := HB.out.size; have := gU.size; omega⟩)
        have HSX := Lib.hid hsx
        clear KG hkn hkc hx hmm hfc hkm2 hml gV yV hoU0 z1 z2 hob gU
        go_wp2_with fail
        go_region
        go_wp2_with (first | (at_builtin; refine wpList_append_own _ rfl _ _ 43 rfl w.heap.size 65 i0 (.agg #[.string ⟨#[]⟩, .string ⟨#[]⟩, .int .i64 0]) 3 40 Tryz.underlying43 hi hz0 hz1 hz2 rfl (by decide) _ _ _ rfl (hoU.alloc _) ⟨U.heap.size, 0, none⟩ 1 1 fc rfl ?c0 ?c1 ?c2 ?c3 ?c4 ?c5 ?_) | go_in)
        case c0 => rw [HFC.out]; rfl
        case c1 =>
          intro jj u hj
          rw [HFC.out, HSX.out] at hj
          match jj, hj with
          | 0, hj => simp at hj; subst hj; simp [Addr.add]
          | 1, hj => simp at hj; subst hj; simp [Addr.add]
          | 2, hj => simp at hj; subst hj; simp [Addr.add]
        case c2 => intro u hu; rw [HFC.out] at hu; simp at hu; rcases hu with rfl | rfl | rfl <;> rfl
        case c3 => unfold maxLen; omega
        case c4 => omega
        case c5 => have := BU.out.2; (try simp only [World.size_alloc]); omega
        intro v' w' hw hg _
        have HB' := Lib.hid ((BU.out.1.alloc BU.out.2 _).grown hg (by have := BU.out.2; (try simp only [World.size_alloc]); omega) (fun q hq => (hoV.lt q hq).1))
        have HO' := Lib.hid hw
        clear hw hg hoV hoU
        go_wp2_with fail
        refine ⟨⟨k + 1, by omega, by simp, ?_, HB'.out⟩, ?_⟩
        · rw [HSN.out, fall3_snoc, HF.out]; exact HO'.out
        · simp [intOf]; omega
      · have qk : ¬ (k : Int) < (kn : Int) := by omega
        obtain ⟨fc, hfc⟩ : ∃ fc, fc = [Value.string (bs y.name), Value.string ((bs y.data).extract 0 y.kept), Value.int IntKind.i64 (y.kept : Int)] := ⟨_, rfl⟩
        have HF := Lib.hid (show fcells (fall y (ks.getD k 0)) = fc by
          rw [hfc, show ks.getD k 0 = ([] : List Int).getD k 0 by simp [List.getD, List.getElem?_eq_none (by rw [HKN.out]; omega : ks.length ≤ k)]]
          exact fall0_cells y k)
        have hoV := HO.out
        have HFC := Lib.hid hfc
        clear KG hkn hfc
        go_wp2_with (first | (at_builtin; refine wpList_append_own _ rfl _ _ 43 rfl w.heap.size 65 i0 (.agg #[.string ⟨#[]⟩, .string ⟨#[]⟩, .int .i64 0]) 3 40 Tryz.underlying43 hi hz0 hz1 hz2 rfl (by decide) _ _ _ rfl ((hoV.alloc _).alloc _) ⟨wr.heap.size + 1, 0, none⟩ 1 1 fc rfl ?c0 ?c1 ?c2 ?c3 ?c4 ?c5 ?_) | go_in)
        case c0 => rw [HFC.out]; rfl
        case c1 =>
          intro jj u hj
          rw [HFC.out] at hj
          match jj, hj with
          | 0, hj => simp at hj; subst hj; simp [Addr.add]
          | 1, hj => simp at hj; subst hj; simp [Addr.add]
          | 2, hj => simp at hj; subst hj; simp [Addr.add]
        case c2 => intro u hu; rw [HFC.out] at hu; simp at hu; rcases hu with rfl | rfl | rfl <;> rfl
        case c3 => unfold maxLen; omega
        case c4 => omega
        case c5 => have := HB.out.size; (try simp only [World.size_alloc]); omega
        intro v' w' hw hg _
        have HB' := Lib.hid (((HB.out.alloc HB.out.size _).alloc (by have := HB.out.size; simp only [World.size_alloc]; omega) _).grown hg (by have := HB.out.size; simp only [World.size_alloc]; omega) (fun q hq => (hoV.lt q hq).1))
        have HO' := Lib.hid hw
        clear hw hg hoV
        go_wp2_with fail
        refine ⟨⟨k + 1, by omega, by simp, ?_, HB'.out⟩, ?_⟩
        · rw [HSN.out, fall3_snoc, HF.out]; exact HO'.out
        · simp [intOf]; omega
    · have he := Lib.hid (show l.take k = l from List.take_of_length_le (by omega))
      obtain ⟨a, cc, rfl⟩ : ∃ a c, u4 = .slice a k c := by
        have := flies_own (l := riseL ks (l.take k)) (by rw [riseL_len, List.length_take, Nat.min_eq_left hk]; exact ho)
        obtain ⟨a, c, e⟩ := this.slice
        rw [riseL_len, List.length_take, Nat.min_eq_left hk] at e
        exact ⟨a, c, e⟩
      clear hb ho
      go_wp2_with fail
      go_end0
      refine ⟨rfl, .slice a k cc, wr, flies_own (l := riseL ks l) (B := w.heap.size) ?_, fun x hx => (HO.out.lt x hx).1, HB.out, rfl⟩
      have h1 := HO.out
      rw [he.out] at h1
      rw [riseL_len]
      have : k = l.length := by omega
      rwa [this] at h1 ⊢
theorem rrisek_nil (d : Nat) (s : St) (ka : Value) (ks : List Int) (w : World) (hm : s.fs = []) (hd : w.heap[d]? = some (.cells (rcells s (.slice none 0 0)) 45 (0, 0))) :
    Calls Tryz.prog 21 #[.pointer (some ⟨d, 0, none⟩), ka] w fun e w' => e = .returned (.tuple #[]) ∧ (∃ v u, FLies u v (riseL ks s.fs) ∧ NewV w v ∧ Below w.heap.size w u ∧ w' = ((u.setCell ⟨d, 1, none⟩ v).setCell ⟨d, 3, none⟩ (.bool false)).setCell ⟨d, 2, none⟩ (.int .i64 (-1))) := by
  have c1 : w.cell? ⟨d, 1, none⟩ = some (.slice none 0 0) := by rw [cells_at hd]; rfl
  have c2 : w.cell? ⟨d, 2, none⟩ = some (.int .i64 s.ahead) := by rw [cells_at hd]; rfl
  have c3 : w.cell? ⟨d, 3, none⟩ = some (.bool s.down) := by rw [cells_at hd]; rfl
  have f1 := cells_free hd 1
  have f2 := cells_free hd 2
  have f3 := cells_free hd 3
  clear hd
  go_enter Tryz.func21, Tryz.ntmps21
  go_wp2_with fail
  go_loopw [4, 5] (fun o i wr => o = .slice none 0 0 ∧ i = .int .i64 0 ∧ wr = w) (fun _ i _ => 0)
  case atStart => exact ⟨rfl, rfl, rfl⟩
  case round =>
    obtain ⟨rfl, rfl, rfl⟩ := hrel
    go_wp2_with fail
    go_end0
    exact ⟨rfl, .slice none 0 0, _, .inl ⟨by rw [hm]; rfl, rfl⟩, (fun x hx => by cases hx), Below.refl _ _, rfl⟩
theorem r_rise (d : Nat) (s : St) (ka : Option Addr) (ks : List Int) (kc : Nat) (w : World) (B : Nat → Prop) (hd : RDiskA d s w B) (hK : KeepR w ka ks) (hkl : ks.length ≤ 1000000) :
    Calls Tryz.prog 21 #[.pointer (some ⟨d, 0, none⟩), .slice ka ks.length kc] w (Does w B (RDiskA d (riseR s ks)) (.tuple #[])) := by
  obtain ⟨hok, hsort, v, h, hB⟩ := hd
  have C : Calls Tryz.prog 21 #[.pointer (some ⟨d, 0, none⟩), .slice ka ks.length kc] w fun e w' => e = .returned (.tuple #[]) ∧ (∃ v u, FLies u v (riseL ks s.fs) ∧ NewV w v ∧ Below w.heap.size w u ∧ w' = ((u.setCell ⟨d, 1, none⟩ v).setCell ⟨d, 3, none⟩ (.bool false)).setCell ⟨d, 2, none⟩ (.int .i64 (-1))) := by
    obtain ⟨hh, ⟨h1, rfl⟩ | ⟨b, off, c, rfl, hc, hr⟩⟩ := h
    · exact rrisek_nil d s _ ks w h1 hh
    · exact rrisek_some d s b off c ka ks kc w hok hK hkl hh hc hr
  refine C.mono ?_
  rintro e w' ⟨rfl, v', u, hL, hn, hb, rfl⟩
  have hu := h.gr (Gr.of hb)
  have o : Only (fun i => i = d) u (((u.setCell ⟨d, 1, none⟩ v').setCell ⟨d, 3, none⟩ (.bool false)).setCell ⟨d, 2, none⟩ (.int .i64 (-1))) := ((Only.cell1 _ _ _ _).trans (Only.cell1 _ _ _ _)).trans (Only.cell1 _ _ _ _)
  refine ⟨rfl, rd_new hB (rise_ok ks hok) (rise_sort ks hsort) (v' := v') ?_ ((Only.ofGr (Gr.of hb)).trans o) hn⟩
  refine hu.put (s' := riseR s ks) (by rw [riseR_is ks hok]; exact hL) o ?_
  rw [cells_set (cells_set (cells_set hu.1 1 _) 3 _) 2 _, riseR_is ks hok]; rfl
end Go.Proofs.YtckmciafonnohaaGreat

/- In one text: ScSet, RfsDisk, RfsLook. -/
import Derived.Test.YtignfbdgpgidpaaGreatDoorS09
import Derived.Test.YtignfbdgpgidpaaGreatDoorS01
import Derived.Maps.OwnSet
import Derived.Test.YtignfbdgpgidpaaGreatDoorS05
/- A set of strings, a map in a function: what it is; made of a slice. -/
namespace Go.Proofs.YtignfbdgpgidpaaGreatDoor
open Go.RowKit FsPlain ScPlain Go.Maps
set_option linter.unusedVariables false
set_option linter.unusedSimpArgs false
set_option maxRecDepth 20000
theorem zeroU22 (w : World) : (zeroValue 90).run Tryz.prog w = .ok (.agg #[]) w := by kernel_rfl
theorem set_only {w w' : World} {b n : Nat} {D : DataW Unit} {C : Nat → Prop} (h : w.ownsMap Tryz.prog 9 unitElem b n D) (g : Only C w w') (hC : ¬ C b) : w'.ownsMap Tryz.prog 9 unitElem b n D := by
  have hlt := h.lt
  obtain ⟨es, clock, hb, r⟩ := h
  exact ⟨es, clock, by rw [g.block b hlt hC]; exact hb, r⟩
def SetAt (w : World) (b : Nat) (l : List ByteArray) : Prop := ∃ (n : Nat) (D : DataW Unit), w.ownsMap Tryz.prog 9 unitElem b n D ∧ IsMap D ∧ ∀ x : ByteArray, Maps.has D (.string x.data.toList) = hasB l x
def SetA (b : Nat) (l : List ByteArray) : Asn := fun w B => SetAt w b l ∧ ∀ i, B i ↔ i = b
theorem fr_set22 (b : Nat) (l : List ByteArray) : Fr (SetA b l) where
  fr := fun {w w' B C} ⟨⟨n, D, h, k⟩, hB⟩ o d => ⟨⟨n, D, set_only h o (d b ((hB b).2 rfl)), k⟩, hB⟩
  lo := fun ⟨⟨n, D, h, k⟩, hB⟩ i hi => by rw [(hB i).1 hi]; exact h.lt
theorem SetAt.gr {w w' : World} {b : Nat} {l : List ByteArray} (h : SetAt w b l) (g : Gr w w') : SetAt w' b l := by
  obtain ⟨n, D, h, k⟩ := h
  exact ⟨n, D, set_only h (Only.ofGr (B := fun _ => False) g) (fun e => e), k⟩
theorem hasB_snoc (l : List ByteArray) (y x : ByteArray) : hasB (l ++ [y]) x = (hasB l x || decide (y = x)) := by simp [hasB]
theorem lit_ne22 {x y : ByteArray} (h : ¬ y = x) : (Lit.string x.data.toList) ≠ .string y.data.toList := by
  intro e
  simp only [Lit.string.injEq] at e
  exact h (ByteArray.ext (Array.toList_inj.1 e.symm))
theorem has_put22 {D : DataW Unit} (hD : IsMap D) (y x : ByteArray) (d : DataW Unit) : Maps.has (D.put (.string y.data.toList) d) (.string x.data.toList) = (Maps.has D (.string x.data.toList) || decide (y = x)) := by
  by_cases h : y = x
  · subst h
    rw [has_put_same hD (show WideAt.IsKeyLit (.string y.data.toList) from trivial), decide_eq_true rfl, Bool.or_true]
  · rw [has_put_other (lit_ne22 h), decide_eq_false h, Bool.or_false]
def St22 (w : World) (l : List ByteArray) (v : Value) (wr : World) : Prop := ∃ (k : Nat) (D : DataW Unit), k ≤ l.length ∧ v = .int .i64 (k : Int) ∧ wr.ownsMap Tryz.prog 9 unitElem w.heap.size k D ∧ IsMap D ∧ (∀ x : ByteArray, Maps.has D (.string x.data.toList) = hasB (l.take k) x) ∧ Gr w wr
set_option maxHeartbeats 2000000 in
theorem set22_c (v : Value) (l : List ByteArray) (w : World) (h : Lies w v l) (hl : l.length ≤ 1000000) (hs : ∀ x ∈ l, x.size ≤ maxLen) :
    Calls Tryz.prog 43 #[v] w fun e w' => ∃ b, e = .returned (.map (some b)) ∧ SetAt w' b l ∧ w.heap.size ≤ b ∧ Gr w w' := by
  have hmm := @run_makeMap Tryz.prog
  obtain ⟨a, c, rfl, hc, hr⟩ := id h
  have H := Lib.hid hr
  have HS := Lib.hid hs
  obtain ⟨n, hn⟩ : ∃ n, l.length = n := ⟨_, rfl⟩
  have HN := Lib.hid hn
  rw [hn] at hl hc ⊢
  have g1 : Gr w (w.alloc (.map #[] 0)) := (Below.refl _ _).alloc (Nat.le_refl _) _
  have ST := Lib.hid (show St22 w l (.int .i64 0) (w.alloc (.map #[] 0)) from ⟨0, .map [], Nat.zero_le _, rfl, World.ownsMap_made _ _ _ _, isMap_empty, (fun x => rfl), g1⟩)
  clear h hr hn hs g1
  go_enter Tryz.func43, Tryz.ntmps43
  go_wp2_with fail
  go_loopw [9] (fun v wr => St22 w l v wr) (fun v _ => n - (intOf v).toNat)
  case atStart => exact ST.out
  case round =>
    obtain ⟨k, D, hk, rfl, hown, hD, hhas, hg⟩ := hrel
    rw [HN.out] at hk
    have HO := Lib.hid hown
    have HD := Lib.hid hD
    have HH := Lib.hid hhas
    have HG := Lib.hid hg
    clear hown hD hhas hg ST
    by_cases hlt : k < n
    · have hlt2 : k < l.length := by rw [HN.out]; exact hlt
      obtain ⟨b, off, rfl, hrow⟩ : ∃ b off, a = some ⟨b, off, none⟩ ∧ SRow wr b off l := by
        obtain ⟨b, off, e, hrow⟩ := H.out.resolve_left (fun e => by rw [e] at hlt2; cases hlt2)
        exact ⟨b, off, e, hrow.gr HG.out⟩
      have k0 := hrow.2 k _ (List.getElem?_eq_getElem hlt2)
      obtain ⟨y, hy⟩ : ∃ y, l[k] = y := ⟨_, rfl⟩
      rw [hy] at k0
      have hys : y.size ≤ maxLen := HS.out y (by rw [← hy]; exact List.getElem_mem hlt2)
      have hkey := WideMaps.keyOf_string_mk (P := Tryz.prog) (k := 9) Tryz.underlying9 hys
      have HTK := Lib.hid (show l.take (k + 1) = l.take k ++ [y] by rw [List.take_succ_eq_append_getElem hlt2, hy])
      have q1 : (k : Int) < (n : Int) := by omega
      clear hy hrow hlt2 hys
      go_wp2_with (first
        | (at_mapUpdate; refine wpList_mapUpdate_own _ rfl _ _ _ 88 rfl 9 90 lawS Tryz.underlying88 (unitElem (H := Unit)) w.heap.size k D rfl (by first | exact HO.out | exact HO.out.alloc _) (by unfold maxLen; omega) _ _ _ rfl rfl hkey _ [] unitElem_mk ?_; intro w1 hown1 hgrow1)
        | go_in)
      have NX := Lib.hid (show St22 w l (.int .i64 ((k : Int) + 1)) w1 from ⟨k + 1, _, by rw [HN.out]; omega, by rw [Int.natCast_add]; rfl, hown1, HD.out.put _ _, fun x => by rw [has_put22 HD.out, HH.out, HTK.out, hasB_snoc], by
        refine Below.trans HG.out ?_
        exact (Only.grown hgrow1 (B := fun i => i = w.heap.size) (fun j hj => by cases hj; rfl)).toBelow HG.out.size (fun i hi => by omega)⟩)
      clear hown1 hgrow1
      go_wp2_with fail
      refine ⟨NX.out, ?_⟩
      simp [intOf]; omega
    · obtain rfl : k = n := by omega
      go_wp2_with fail
      go_ret
      refine ⟨_, rfl, ⟨k, D, HO.out, HD.out, fun x => ?_⟩, Nat.le_refl _, HG.out⟩
      rw [HH.out, List.take_of_length_le (by rw [HN.out]; exact Nat.le_refl _)]
end Go.Proofs.YtignfbdgpgidpaaGreatDoor
/- The document's disk: its block, a call, a file's place. -/
namespace Go.Proofs.YtignfbdgpgidpaaGreatDoor
open Go.RowKit FsPlain
set_option linter.unusedVariables false
set_option linter.unusedSimpArgs false
set_option maxRecDepth 20000
def rcells (s : St) (v : Value) : Array Value := #[.int .i64 s.room, v, .int .i64 s.ahead, .bool s.down, .int .i64 s.calls]
theorem FLies.only {w w' : World} {v : Value} {l : List F} {d : Nat} {s : St} {u : Value} (h : FLies w v l) (hd : w.heap[d]? = some (.cells (rcells s u) 87 (0, 0))) (hu : ∃ a n c, u = .slice a n c) (g : Only (fun i => i = d) w w') : FLies w' v l := by
  rcases h with h | ⟨b, off, c, rfl, hc, hb, hl⟩
  · exact .inl h
  · refine .inr ⟨b, off, c, rfl, hc, Nat.lt_of_lt_of_le hb g.size, fun j x hj => ?_⟩
    by_cases hbd : b = d
    · exfalso
      subst hbd
      cases l with
      | nil => simp [fall3] at hj
      | cons f r =>
        have h0 := hl 0 (.string (bs f.name)) rfl
        rw [cells_at hd] at h0
        obtain ⟨a, n, c, rfl⟩ := hu
        unfold rcells at h0
        rw [Nat.add_zero] at h0
        match off, h0 with
        | 0, h => simp at h
        | 1, h => simp at h
        | 2, h => simp at h
        | 3, h => simp at h
        | 4, h => simp at h
        | off + 5, h => simp at h
    · rw [g.cell (p := ⟨b, off + j, none⟩) hb hbd]; exact hl j x hj
def RAt (w : World) (d : Nat) (s : St) (v : Value) : Prop := w.heap[d]? = some (.cells (rcells s v) 87 (0, 0)) ∧ FLies w v s.fs
def RB (w : World) (d : Nat) (v : Value) (B : Nat → Prop) : Prop := (∀ x, B x → x < w.heap.size) ∧ B d ∧ ∀ x, v.ownBlock = some x → B x
def RDisk (w : World) (d : Nat) (s : St) (B : Nat → Prop) : Prop := s.ok ∧ SortF s.fs ∧ ∃ v, RAt w d s v ∧ RB w d v B
theorem FLies.slice {w : World} {v : Value} {l : List F} (h : FLies w v l) : ∃ a c, v = .slice a l.length c := by
  rcases h with ⟨rfl, rfl⟩ | ⟨b, off, c, rfl, _⟩
  · exact ⟨_, _, rfl⟩
  · exact ⟨_, _, rfl⟩
theorem RAt.gr {w w' : World} {d : Nat} {s : St} {v : Value} (h : RAt w d s v) (g : Gr w w') : RAt w' d s v :=
  ⟨by rw [g.block d (blk_lt2 h.1)]; exact h.1, h.2.gr g⟩
theorem RAt.put {w w' : World} {d : Nat} {s s' : St} {v v' : Value} (h : RAt w d s v) (hv : FLies w v' s'.fs) (g : Only (fun i => i = d) w w') (hh : w'.heap[d]? = some (.cells (rcells s' v') 87 (0, 0))) : RAt w' d s' v' := by
  obtain ⟨a, c, e⟩ := h.2.slice
  exact ⟨hh, hv.only h.1 ⟨a, _, c, e⟩ g⟩
theorem RAt.slice_lt {w : World} {d : Nat} {s : St} {v : Value} (h : RAt w d s v) : ∀ x, v.ownBlock = some x → x < w.heap.size := by
  intro x hx
  rcases h.2 with ⟨_, rfl⟩ | ⟨b, off, c, rfl, _, hb, _⟩
  · cases hx
  · simp [Value.ownBlock] at hx; subst hx; exact hb
theorem RAt.only {w w' : World} {d : Nat} {s : St} {v : Value} {B C : Nat → Prop} (h : RAt w d s v) (hB : RB w d v B) (g : Only C w w') (hC : ∀ b, B b → ¬ C b) : RAt w' d s v := by
  refine ⟨by rw [g.block d (blk_lt2 h.1) (hC d hB.2.1)]; exact h.1, ?_⟩
  rcases h.2 with h2 | ⟨b, off, c, rfl, hc, hb, hl⟩
  · exact .inl h2
  · exact .inr ⟨b, off, c, rfl, hc, Nat.lt_of_lt_of_le hb g.size, fun j x hj => by rw [g.cell (p := ⟨b, off + j, none⟩) hb (hC b (hB.2.2 b rfl))]; exact hl j x hj⟩
def RDiskA (d : Nat) (s : St) : Asn := fun w B => RDisk w d s B
theorem fr_rdisk (d : Nat) (s : St) : Fr (RDiskA d s) where
  fr := fun ⟨h0, h1, v, h, hB⟩ g hC => ⟨h0, h1, v, h.only hB g hC, fun x hx => Nat.lt_of_lt_of_le (hB.1 x hx) g.size, hB.2⟩
  lo := fun ⟨_, _, _, _, hB⟩ => hB.1
theorem rd_keep {w w' : World} {d : Nat} {s' : St} {v : Value} {B : Nat → Prop} (hB : RB w d v B) (hok : s'.ok) (hs : SortF s'.fs) (h : RAt w' d s' v) (g : Only (fun i => i = d) w w') : ∃ B', RDiskA d s' w' B' ∧ Nx B w B' w' :=
  ⟨B, ⟨hok, hs, v, h, fun x hx => Nat.lt_of_lt_of_le (hB.1 x hx) g.size, hB.2⟩, Nx.of g fun b hb => by rw [hb]; exact hB.2.1⟩
theorem rd_new {w w' : World} {d : Nat} {s' : St} {v v' : Value} {B : Nat → Prop} (hB : RB w d v B) (hok : s'.ok) (hs : SortF s'.fs) (h : RAt w' d s' v') (g : Only (fun i => i = d) w w') (hn : NewV w v') : ∃ B', RDiskA d s' w' B' ∧ Nx B w B' w' := by
  refine ⟨fun x => x = d ∨ v'.ownBlock = some x, ⟨hok, hs, v', h, fun x hx => ?_, .inl rfl, fun x hx => .inr hx⟩, g.mono fun b hb => by rw [hb]; exact hB.2.1, fun x hx => ?_⟩
  · rcases hx with rfl | hx
    · exact blk_lt2 h.1
    · exact h.slice_lt x hx
  · rcases hx with rfl | hx
    · exact .inl hB.2.1
    · exact .inr (hn x hx)
def RCalled (d : Nat) (s : St) (v : Value) (w w' : World) : Prop := w'.heap[d]? = some (.cells (rcells s.call v) 87 (0, 0)) ∧ Only (fun i => i = d) w w'
theorem rcalled_of {p : Nat} {s : St} {v : Value} {w : World} (h : w.heap[p]? = some (.cells (rcells s v) 87 (0, 0))) {c a : Int} {d : Bool} (hc : c = s.calls + 1) (ha : a = max (s.ahead - 1) (-1)) (hd : d = (s.down || decide (s.ahead = 0))) :
    RCalled p s v w (((w.setCell ⟨p, 4, none⟩ (.int .i64 c)).setCell ⟨p, 3, none⟩ (.bool d)).setCell ⟨p, 2, none⟩ (.int .i64 a)) := by
  subst hc ha hd
  refine ⟨?_, ?_⟩
  · rw [cells_set (cells_set (cells_set h 4 _) 3 _) 2 _]; rfl
  · exact ((Only.cell1 _ _ _ _).trans (Only.cell1 _ _ _ _)).trans (Only.cell1 _ _ _ _)
theorem rcalled_of2 {p : Nat} {s : St} {v : Value} {w : World} (h : w.heap[p]? = some (.cells (rcells s v) 87 (0, 0))) {c a : Int} (hc : c = s.calls + 1) (ha : a = max (s.ahead - 1) (-1)) (hd : s.ahead ≠ 0) :
    RCalled p s v w ((w.setCell ⟨p, 4, none⟩ (.int .i64 c)).setCell ⟨p, 2, none⟩ (.int .i64 a)) := by
  subst hc ha
  refine ⟨?_, ?_⟩
  · rw [cells_set (cells_set h 4 _) 2 _]
    unfold rcells St.call
    simp [hd]
  · exact (Only.cell1 _ _ _ _).trans (Only.cell1 _ _ _ _)
theorem rcall_no (p : Nat) (w : World) :
    Calls Tryz.prog 60 #[.pointer (some ⟨p, 0, none⟩), .bool false] w fun e w' => e = .returned (.int .i64 1) ∧ w = w' := by
  go_enter Tryz.func60, Tryz.ntmps60
  go_wp2_with fail
  go_ret
  exact ⟨rfl, rfl⟩
set_option maxRecDepth 20000 in
set_option maxHeartbeats 1000000 in
theorem rcall_yes (p : Nat) (s : St) (v : Value) (w : World) (h : w.heap[p]? = some (.cells (rcells s v) 87 (0, 0))) (h0 : 0 ≤ s.calls) (h1 : s.calls ≤ 1000000000000) (a0 : -1 ≤ s.ahead) (a1 : s.ahead ≤ 9223372036854775807) :
    Calls Tryz.prog 60 #[.pointer (some ⟨p, 0, none⟩), .bool true] w fun e w' => e = .returned (.int .i64 s.call.code) ∧ RCalled p s v w w' := by
  have c2 : w.cell? ⟨p, 2, none⟩ = some (.int .i64 s.ahead) := by rw [cells_at h]; rfl
  have c3 : w.cell? ⟨p, 3, none⟩ = some (.bool s.down) := by rw [cells_at h]; rfl
  have c4 : w.cell? ⟨p, 4, none⟩ = some (.int .i64 s.calls) := by rw [cells_at h]; rfl
  have f2 := cells_free h 2
  have f3 := cells_free h 3
  have f4 := cells_free h 4
  have HK1 := Lib.hid (fun c d a => rcalled_of (c := c) (d := d) (a := a) h)
  have HK2 := Lib.hid (fun c a => rcalled_of2 (c := c) (a := a) h)
  clear h
  by_cases ha : s.ahead = 0
  · have t1 : (s.ahead == 0) = true := by simp [ha]
    go_enter Tryz.func60, Tryz.ntmps60
    go_wp2_with fail
    go_ret
    exact ⟨ret_i (by simp [St.code, St.call, ha]), HK1.out _ _ _ rfl (by omega) (by simp [ha])⟩
  · have t1 : (s.ahead == 0) = false := by simp [ha]
    cases hd : s.down
    · go_enter Tryz.func60, Tryz.ntmps60
      go_wp2_with fail
      all_goals
        go_ret
        exact ⟨ret_i (by simp [St.code, St.call, ha, hd]), HK2.out _ _ rfl (by omega) ha⟩
    · go_enter Tryz.func60, Tryz.ntmps60
      go_wp2_with fail
      all_goals
        go_ret
        exact ⟨ret_i (by simp [St.code, St.call, ha, hd]), HK2.out _ _ rfl (by omega) ha⟩
end Go.Proofs.YtignfbdgpgidpaaGreatDoor
/- The document's disk: a file's place, its bytes, what is used. -/
namespace Go.Proofs.YtignfbdgpgidpaaGreatDoor
open Go.RowKit FsPlain
set_option linter.unusedVariables false
set_option linter.unusedSimpArgs false
set_option maxRecDepth 20000
def placeF (n : List UInt8) (l : List F) : Int := if l.any (fun y => y.name == n) then (l.findIdx (fun y => y.name == n) : Int) else -1
theorem place_none {n : List UInt8} {l : List F} (h : ∀ y ∈ l, y.name ≠ n) : placeF n l = -1 := by
  unfold placeF
  rw [if_neg (by simpa using h)]
theorem place_some {n : List UInt8} {l : List F} {k : Nat} {y : F} (h : ∀ y ∈ l.take k, y.name ≠ n) (hy : l[k]? = some y) (hn : y.name = n) : placeF n l = k := by
  have hk := (List.getElem?_eq_some_iff.1 hy).1
  have hs : l = l.take k ++ y :: l.drop (k + 1) := by
    conv => lhs; rw [← List.take_append_drop k l]
    congr 1
    rw [List.drop_eq_getElem_cons hk]
    rw [(List.getElem?_eq_some_iff.1 hy).2]
  unfold placeF
  rw [if_pos (by simp only [List.any_eq_true]; exact ⟨y, List.mem_of_getElem? hy, by simp [hn]⟩)]
  rw [hs, List.findIdx_append, if_neg]
  · have : (l.take k).length = k := by rw [List.length_take]; omega
    rw [List.findIdx_cons]; simp [hn]; omega
  · rw [List.findIdx_lt_length]; simpa using h
theorem str_eq (a b : List UInt8) : ((bs a).toList == (bs b).toList) = decide (a = b) := by rw [Lib.toList_data, Lib.toList_data]; by_cases h : a = b <;> simp [bs, h]
def PlAt (n : List UInt8) (l : List F) (w : World) (i : Value) (wr : World) : Prop := ∃ k : Nat, k ≤ l.length ∧ i = .int .i64 k ∧ (∀ y ∈ l.take k, y.name ≠ n) ∧ Gr w wr
set_option maxRecDepth 20000 in
set_option maxHeartbeats 4000000 in
theorem rat_some (d : Nat) (s : St) (nm : List UInt8) (b off c : Nat) (w : World) (hm : s.fs.length ≤ 300) (hd : w.heap[d]? = some (.cells (rcells s (.slice (some ⟨b, off, none⟩) s.fs.length c)) 87 (0, 0))) (hc : s.fs.length ≤ c) (hr : FCells w b off s.fs) :
    Calls Tryz.prog 64 #[.pointer (some ⟨d, 0, none⟩), .string (bs nm)] w fun e w' => e = .returned (.int .i64 (placeF nm s.fs)) ∧ Gr w w' := by
  have hst : PlAt nm s.fs w (.int .i64 0) w := ⟨0, Nat.zero_le _, rfl, by simp, Gr.refl _⟩
  obtain ⟨l, hl⟩ : ∃ l, s.fs = l := ⟨_, rfl⟩
  rw [hl] at hd hc hr hst ⊢ hm
  obtain ⟨n, hn⟩ : ∃ n, l.length = n := ⟨_, rfl⟩
  have HN := Lib.hid hn
  have HR := Lib.hid hr
  have HD := Lib.hid hd
  have HST := Lib.hid hst
  rw [hn] at hc hm
  clear hn hr hst hd hl
  go_enter Tryz.func64, Tryz.ntmps64
  go_wp2_with fail
  go_loopw [5] (fun i wr => PlAt nm l w i wr) (fun i _ => n - (intOf i).toNat)
  case atStart => exact HST.out
  case round =>
    obtain ⟨k, hk, rfl, hls, hg⟩ := hrel
    have hln := HN.out
    have c1 : wr.cell? ⟨d, 1, none⟩ = some (.slice (some ⟨b, off, none⟩) n c) := by rw [cells_at (by rw [hg.block d (blk_lt2 HD.out)]; exact HD.out)]; rw [← hln]; rfl
    have HG := Lib.hid hg
    by_cases hlt : k < n
    · obtain ⟨y, hy⟩ : ∃ y, l[k]? = some y := ⟨_, List.getElem?_eq_getElem (by omega)⟩
      obtain ⟨q0, q1, q2⟩ := fall3_at l k y hy
      have hrw := HR.out.gr hg
      rw [Nat.mul_comm 3 k] at q0
      have y0 := hrw.2 _ _ q0
      have htk : l.take (k + 1) = l.take k ++ [y] := by rw [List.take_add_one, hy]; rfl
      have HTK := Lib.hid htk
      have HY := Lib.hid hy
      have HLS := Lib.hid hls
      clear hy q0 q1 q2 hrw htk hls hg
      by_cases heq : y.name = nm
      · have hbe : ((bs y.name).toList == (bs nm).toList) = true := by rw [str_eq]; simp [heq]
        go_wp2_with fail
        go_ret
        exact ⟨ret_i (place_some HLS.out HY.out heq).symm, HG.out⟩
      · have hbe : ((bs y.name).toList == (bs nm).toList) = false := by rw [str_eq]; simp [heq]
        go_wp2_with fail
        refine ⟨⟨k + 1, by omega, by simp, ?_, HG.out⟩, ?_⟩
        · rw [HTK.out]
          intro z hz
          rcases List.mem_append.1 hz with h | h
          · exact HLS.out z h
          · rw [List.mem_singleton.1 h]; exact heq
        · simp [intOf]; omega
    · have hall : ∀ y ∈ l, y.name ≠ nm := by
        have : l.take k = l := List.take_of_length_le (by omega)
        rwa [this] at hls
      have hp := Lib.hid (place_none hall)
      clear hls hg hall
      go_wp2_with fail
      go_ret
      exact ⟨ret_i hp.out.symm, HG.out⟩
theorem rat_nil (d : Nat) (s : St) (nm : List UInt8) (w : World) (hm : s.fs = []) (hd : w.heap[d]? = some (.cells (rcells s (.slice none 0 0)) 87 (0, 0))) :
    Calls Tryz.prog 64 #[.pointer (some ⟨d, 0, none⟩), .string (bs nm)] w fun e w' => e = .returned (.int .i64 (-1)) ∧ Gr w w' := by
  have c1 : w.cell? ⟨d, 1, none⟩ = some (.slice none 0 0) := by rw [cells_at hd]; rfl
  clear hd
  go_enter Tryz.func64, Tryz.ntmps64
  go_wp2_with fail
  go_loopw [5] (fun i wr => i = .int .i64 0 ∧ wr = w) (fun i _ => 0)
  case atStart => exact ⟨rfl, rfl⟩
  case round =>
    obtain ⟨rfl, rfl⟩ := hrel
    go_wp2_with fail
    go_ret
    exact ⟨rfl, Gr.refl _⟩
theorem rat_c (d : Nat) (s : St) (nm : List UInt8) (v : Value) (w : World) (hm : s.fs.length ≤ 300) (h : RAt w d s v) :
    Calls Tryz.prog 64 #[.pointer (some ⟨d, 0, none⟩), .string (bs nm)] w fun e w' => e = .returned (.int .i64 (placeF nm s.fs)) ∧ Gr w w' := by
  obtain ⟨hd, ⟨h1, rfl⟩ | ⟨b, off, c, rfl, hc, hr⟩⟩ := h
  · rw [h1, place_none (by simp)]; exact rat_nil d s nm w h1 hd
  · exact rat_some d s nm b off c w hm hd hc hr
end Go.Proofs.YtignfbdgpgidpaaGreatDoor

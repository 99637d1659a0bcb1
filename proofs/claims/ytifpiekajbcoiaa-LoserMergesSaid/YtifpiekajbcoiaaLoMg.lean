/- What LoserMerges holds in memory: counts, heads, which are over, places, heads' numbers; its argument; text. -/
import Derived.Test.YtifpiekajbcoiaaLoRow
import Derived.Test.YtifpiekajbcoiaaLoFact
import Derived.Test.YtifpiekajbcoiaaConv
namespace Go.Proofs.Ytifpiekajbcoiaa
open Go.RowKit LoPlain
set_option linter.unusedVariables false
set_option linter.unusedSimpArgs false
set_option maxRecDepth 20000
theorem ret_s15 {a b : ByteArray} (h : a = b) : Ending.returned (.string a) = .returned (.string b) := by rw [h]
set_option maxHeartbeats 1000000 in
theorem text_c (n : Nat) (hn : n < 65536) (w : World) :
    Calls Try.prog 16 #[.int .i64 (n : Int)] w fun e w' => e = .returned (.string (textS n)) ∧ Gr w w' := by
  have q1 : ((n : Int).tdiv 256) = ((n / 256 : Nat) : Int) := by rw [Int.tdiv_eq_ediv_of_nonneg (by omega)]; omega
  have q2 : ((n : Int).tmod 256) = ((n % 256 : Nat) : Int) := by rw [Int.tmod_eq_emod_of_nonneg (by omega)]; omega
  have h1 : n / 256 < 256 := by omega
  have h2 : n % 256 < 256 := by omega
  have C := conv_list (w.alloc (.cells #[.int .u8 ((n / 256 : Nat) : Int), .int .u8 ((n % 256 : Nat) : Int)] 5)) ⟨w.heap.size, 0, none⟩ 2 [UInt8.ofNat (n / 256), UInt8.ofNat (n % 256)] rfl (by
    intro j x hx
    have e1 : (UInt8.ofNat (n / 256)).toNat = n / 256 := by simp; omega
    have e2 : (UInt8.ofNat (n % 256)).toNat = n % 256 := by simp
    rw [add_zero]
    match j, hx with
    | 0, hx => cases hx; rw [World.cell?_alloc_new, e1]; rfl
    | 1, hx => cases hx; rw [World.cell?_alloc_new, e2]; rfl)
  have HT := Lib.hid (show bs [UInt8.ofNat (n / 256), UInt8.ofNat (n % 256)] = textS n from rfl)
  have HG := Lib.hid (Below.alloc (Below.refl w.heap.size w) (Nat.le_refl _) (.cells #[.int .u8 ((n / 256 : Nat) : Int), .int .u8 ((n % 256 : Nat) : Int)] 5))
  generalize n / 256 = a at q1 h1 C HT HG
  generalize n % 256 = b at q2 h2 C HT HG
  generalize textS n = t at HT ⊢
  generalize bs [UInt8.ofNat a, UInt8.ofNat b] = t2 at C HT
  have c1 : IntKind.u8.wrap (a : Int) = (a : Int) := IntWalk.u8_in _ (by omega)
  have c2 : IntKind.u8.wrap (b : Int) = (b : Int) := IntWalk.u8_in _ (by omega)
  go_enter Try.func16, Try.ntmps16
  go_wp2_with fail
  go_ret
  exact ⟨ret_s15 HT.out, HG.out⟩
/-- v is a slice of slices of these. -/
def LiesVV (w : World) (v : Value) (X : List (List Value)) : Prop :=
  ∃ a c, v = .slice a X.length c ∧ X.length ≤ c ∧ (1 ≤ X.length → ∃ b off, a = some ⟨b, off, none⟩ ∧ b < w.heap.size ∧ ∀ (j : Nat) (l : List Value), X[j]? = some l → ∃ x, w.cell? ⟨b, off + j, none⟩ = some x ∧ LiesV w x l)
def bytesV (x : List Nat) : List Value := x.map fun (n : Nat) => .int .u8 (n : Int)
theorem liesBB_in {w : World} {t : TypeId} {v : Value} (ht : Try.prog.underlying t = some (.slice 43)) (h : Rd Try.prog w t v) : ∃ X : List (List Nat), LiesVV w v (X.map bytesV) ∧ X.length ≤ maxLen ∧ ∀ x ∈ X, x.length ≤ maxLen ∧ ∀ b ∈ x, b ≤ 255 := by
  obtain ⟨l, ⟨a, c, rfl, hc, hr⟩, hl, hx⟩ := liesV_in ht (by kernel_rfl) h
  have el : ∀ x ∈ l, ∃ m : List Nat, LiesV w x (bytesV m) ∧ m.length ≤ maxLen ∧ ∀ b ∈ m, b ≤ 255 := by
    intro x hm
    obtain ⟨y, h1, h2, h3⟩ := liesV_in Try.underlying43 (by kernel_rfl) (hx x hm)
    obtain ⟨m, rfl, hok⟩ := list_of (mk := fun n : Nat => Value.int .u8 (n : Int)) (ok := fun n => n ≤ 255) y fun z hz => by
      obtain ⟨n, rfl, hn⟩ := rd_int Try.underlying5 (h3 z hz)
      simp only [Lit.wf, Bool.and_eq_true, decide_eq_true_eq] at hn
      have h1 : 0 ≤ n ∧ n ≤ 255 := hn
      exact ⟨n.toNat, by rw [Int.toNat_of_nonneg h1.1], by omega⟩
    exact ⟨m, h1, by simpa using h2, hok⟩
  have ex : ∀ l' : List Value, (∀ x ∈ l', x ∈ l) → ∃ X : List (List Nat), X.length = l'.length ∧ (∀ (j : Nat) (m : List Nat), X[j]? = some m → ∃ x, l'[j]? = some x ∧ LiesV w x (bytesV m)) ∧ ∀ m ∈ X, m.length ≤ maxLen ∧ ∀ b ∈ m, b ≤ 255 := by
    intro l'
    induction l' with
    | nil => intro _; exact ⟨[], rfl, by simp, by simp⟩
    | cons x r ih =>
      intro hsub
      obtain ⟨X, h1, h2, h3⟩ := ih fun y hy => hsub y (by simp [hy])
      obtain ⟨m, k1, k2, k3⟩ := el x (hsub x (by simp))
      refine ⟨m :: X, by simp [h1], fun j q hq => ?_, fun q hq => ?_⟩
      · cases j with
        | zero => simp at hq; subst hq; exact ⟨x, rfl, k1⟩
        | succ j => simpa using h2 j q (by simpa using hq)
      · rcases List.mem_cons.1 hq with rfl | hq
        · exact ⟨k2, k3⟩
        · exact h3 q hq
  obtain ⟨X, h1, h2, h3⟩ := ex l fun _ h => h
  refine ⟨X, ⟨a, c, by rw [List.length_map, h1], by rw [List.length_map, h1]; exact hc, fun hpos => ?_⟩, by omega, h3⟩
  rw [List.length_map, h1] at hpos
  rcases hr with hr | ⟨b, off, rfl, hrow⟩
  · rw [hr] at hpos; simp at hpos
  · refine ⟨b, off, rfl, hrow.1, fun j q hq => ?_⟩
    rw [List.getElem?_map, Option.map_eq_some_iff] at hq
    obtain ⟨m, hm, rfl⟩ := hq
    obtain ⟨x, hx1, hx2⟩ := h2 j m hm
    exact ⟨x, hrow.2 j x hx1, hx2⟩
/-- The rows. -/
def mgps (va vo vh vt vn : Value) (cn : List Int) (ov : List Bool) (hd : List ByteArray) (tt nn : List Int) : List Asn :=
  [RowE 3 1 va cn.length (ints cn), RowE 4 1 vo ov.length (bools ov), RowE 9 1 vh hd.length (strs hd), RowE 3 1 vt tt.length (ints tt), RowE 3 1 vn nn.length (ints nn)]
theorem frs_mgps (va vo vh vt vn : Value) (cn : List Int) (ov : List Bool) (hd : List ByteArray) (tt nn : List Int) : Frs (mgps va vo vh vt vn cn ov hd tt nn) := ⟨fr_rowE _ _ _ _ _, fr_rowE _ _ _ _ _, fr_rowE _ _ _ _ _, fr_rowE _ _ _ _ _, fr_rowE _ _ _ _ _, trivial⟩
/-- Whatever else lies there, and the rows. -/
def Mg (E : List Asn) (va vo vh vt vn : Value) (cn : List Int) (ov : List Bool) (hd : List ByteArray) (tt nn : List Int) (w wr : World) : Prop :=
  ∃ B, stars (mgps va vo vh vt vn cn ov hd tt nn ++ E) wr B ∧ Nx (fun _ => False) w B wr
theorem frs_app15 : ∀ {L M : List Asn}, Frs L → Frs M → Frs (L ++ M)
  | [], _, _, h => h
  | _ :: _, _, h, k => ⟨h.1, frs_app15 h.2 k⟩
section
variable {E : List Asn} {va vo vh vt vn : Value} {cn : List Int} {ov : List Bool} {hd : List ByteArray} {tt nn : List Int} {w wr : World}
theorem Mg.gr (hE : Frs E) (h : Mg E va vo vh vt vn cn ov hd tt nn w wr) {u : World} (g : Gr wr u) : Mg E va vo vh vt vn cn ov hd tt nn w u := by
  obtain ⟨B, hs, n⟩ := h
  exact ⟨B, stars_gr (frs_app15 (frs_mgps _ _ _ _ _ _ _ _ _ _) hE) hs g, n.trans (Nx.gr g)⟩
theorem Mg.only (h : Mg E va vo vh vt vn cn ov hd tt nn w wr) : Only (fun _ => False) w wr := by
  obtain ⟨B, _, n⟩ := h
  exact n.only
theorem Mg.end (h : Mg E va vo vh vt vn cn ov hd tt nn w wr) : Gr w wr := by
  obtain ⟨B, _, n⟩ := h
  exact nx_gr n
/-- An argument stays. -/
theorem Mg.vv (h : Mg E va vo vh vt vn cn ov hd tt nn w wr) {v : Value} {X : List (List Value)} (k : LiesVV w v X) : LiesVV wr v X := by
  obtain ⟨a, c, e, hc, hr⟩ := k
  refine ⟨a, c, e, hc, fun hp => ?_⟩
  obtain ⟨b, off, ea, hb, hj⟩ := hr hp
  refine ⟨b, off, ea, Nat.lt_of_lt_of_le hb h.only.size, fun j l hl => ?_⟩
  obtain ⟨x, h1, h2⟩ := hj j l hl
  exact ⟨x, by rw [h.only.cell (p := ⟨b, off + j, none⟩) hb (fun e => e)]; exact h1, h2.only h.only (fun _ _ e => e)⟩
/-- A count's cell, and what a store into it makes. -/
theorem Mg.cnt (hE : Frs E) {g c : Nat} (h : Mg E (.slice (some ⟨g, 0, none⟩) cn.length c) vo vh vt vn cn ov hd tt nn w wr) {i : Nat} {x : Int} (hx : cn[i]? = some x) :
    wr.cell? ⟨g, i, none⟩ = some (.int .i64 x) ∧ wr.frozen? ⟨g, i, none⟩ = false ∧ ∀ y : Int, Mg E (.slice (some ⟨g, 0, none⟩) cn.length c) vo vh vt vn (cn.set i y) ov hd tt nn w (wr.setCell ⟨g, i, none⟩ (.int .i64 y)) := by
  obtain ⟨B, hs, n⟩ := h
  obtain ⟨_, h0, _⟩ := part_at 0 rfl hs
  have hi : i < cn.length := (List.getElem?_eq_some_iff.1 hx).1
  have hc := rowE_at h0 rfl (show (ints cn)[i]? = some (.int .i64 x) by simp [ints, hx])
  refine ⟨hc.1, hc.2, fun y => ?_⟩
  obtain ⟨B', s, n'⟩ := step_at (w' := wr.setCell ⟨g, i, none⟩ (.int .i64 y)) (Q := RowE 3 1 (.slice (some ⟨g, 0, none⟩) cn.length c) cn.length ((ints cn).set i (.int .i64 y))) 0 rfl (frs_app15 (frs_mgps _ _ _ _ _ _ _ _ _ _) hE) hs (fun B1 k => rowE_set k rfl hi _)
  refine ⟨B', ?_, n.trans n'⟩
  show stars (RowE 3 1 (.slice (some ⟨g, 0, none⟩) cn.length c) (cn.set i y).length (ints (cn.set i y)) :: _) _ _
  rw [List.length_set, show ints (cn.set i y) = (ints cn).set i (.int .i64 y) by simp [ints, List.map_set]]
  exact s
theorem Mg.att (hE : Frs E) {g c : Nat} (h : Mg E va vo vh (.slice (some ⟨g, 0, none⟩) tt.length c) vn cn ov hd tt nn w wr) {i : Nat} {x : Int} (hx : tt[i]? = some x) :
    wr.cell? ⟨g, i, none⟩ = some (.int .i64 x) ∧ wr.frozen? ⟨g, i, none⟩ = false ∧ ∀ y : Int, Mg E va vo vh (.slice (some ⟨g, 0, none⟩) tt.length c) vn cn ov hd (tt.set i y) nn w (wr.setCell ⟨g, i, none⟩ (.int .i64 y)) := by
  obtain ⟨B, hs, n⟩ := h
  obtain ⟨_, h0, _⟩ := part_at 3 rfl hs
  have hi : i < tt.length := (List.getElem?_eq_some_iff.1 hx).1
  have hc := rowE_at h0 rfl (show (ints tt)[i]? = some (.int .i64 x) by simp [ints, hx])
  refine ⟨hc.1, hc.2, fun y => ?_⟩
  obtain ⟨B', s, n'⟩ := step_at (w' := wr.setCell ⟨g, i, none⟩ (.int .i64 y)) (Q := RowE 3 1 (.slice (some ⟨g, 0, none⟩) tt.length c) tt.length ((ints tt).set i (.int .i64 y))) 3 rfl (frs_app15 (frs_mgps _ _ _ _ _ _ _ _ _ _) hE) hs (fun B1 k => rowE_set k rfl hi _)
  refine ⟨B', ?_, n.trans n'⟩
  show stars (_ :: _ :: _ :: RowE 3 1 (.slice (some ⟨g, 0, none⟩) tt.length c) (tt.set i y).length (ints (tt.set i y)) :: _) _ _
  rw [List.length_set, show ints (tt.set i y) = (ints tt).set i (.int .i64 y) by simp [ints, List.map_set]]
  exact s
theorem Mg.now (hE : Frs E) {g c : Nat} (h : Mg E va vo vh vt (.slice (some ⟨g, 0, none⟩) nn.length c) cn ov hd tt nn w wr) {i : Nat} {x : Int} (hx : nn[i]? = some x) :
    wr.cell? ⟨g, i, none⟩ = some (.int .i64 x) ∧ wr.frozen? ⟨g, i, none⟩ = false ∧ ∀ y : Int, Mg E va vo vh vt (.slice (some ⟨g, 0, none⟩) nn.length c) cn ov hd tt (nn.set i y) w (wr.setCell ⟨g, i, none⟩ (.int .i64 y)) := by
  obtain ⟨B, hs, n⟩ := h
  obtain ⟨_, h0, _⟩ := part_at 4 rfl hs
  have hi : i < nn.length := (List.getElem?_eq_some_iff.1 hx).1
  have hc := rowE_at h0 rfl (show (ints nn)[i]? = some (.int .i64 x) by simp [ints, hx])
  refine ⟨hc.1, hc.2, fun y => ?_⟩
  obtain ⟨B', s, n'⟩ := step_at (w' := wr.setCell ⟨g, i, none⟩ (.int .i64 y)) (Q := RowE 3 1 (.slice (some ⟨g, 0, none⟩) nn.length c) nn.length ((ints nn).set i (.int .i64 y))) 4 rfl (frs_app15 (frs_mgps _ _ _ _ _ _ _ _ _ _) hE) hs (fun B1 k => rowE_set k rfl hi _)
  refine ⟨B', ?_, n.trans n'⟩
  show stars (_ :: _ :: _ :: _ :: RowE 3 1 (.slice (some ⟨g, 0, none⟩) nn.length c) (nn.set i y).length (ints (nn.set i y)) :: _) _ _
  rw [List.length_set, show ints (nn.set i y) = (ints nn).set i (.int .i64 y) by simp [ints, List.map_set]]
  exact s
/-- The shapes of the slices. -/
theorem Mg.shape (h : Mg E va vo vh vt vn cn ov hd tt nn w wr) : (∃ a c, vo = .slice a ov.length c) ∧ (∃ a c, vh = .slice a hd.length c) ∧ (∃ a c, vt = .slice a tt.length c ∧ (0 < tt.length → ∃ g, a = some ⟨g, 0, none⟩)) ∧ (∃ a c, vn = .slice a nn.length c ∧ (0 < nn.length → ∃ g, a = some ⟨g, 0, none⟩)) := by
  obtain ⟨B, hs, n⟩ := h
  obtain ⟨_, h1, _⟩ := part_at 1 rfl hs
  obtain ⟨_, h2, _⟩ := part_at 2 rfl hs
  obtain ⟨_, h3, _⟩ := part_at 3 rfl hs
  obtain ⟨_, h4, _⟩ := part_at 4 rfl hs
  obtain ⟨a1, c1, e1, _⟩ := rowE_shape h1
  obtain ⟨a2, c2, e2, _⟩ := rowE_shape h2
  obtain ⟨a3, c3, e3, _⟩ := rowE_shape h3
  obtain ⟨a4, c4, e4, _⟩ := rowE_shape h4
  refine ⟨⟨a1, c1, e1⟩, ⟨a2, c2, e2⟩, ⟨a3, c3, e3, fun hp => ?_⟩, ⟨a4, c4, e4, fun hp => ?_⟩⟩
  · obtain ⟨g, c, e, _⟩ := rowE_form h3 hp
    rw [e3] at e; simp only [Value.slice.injEq] at e; exact ⟨g, e.1⟩
  · obtain ⟨g, c, e, _⟩ := rowE_form h4 hp
    rw [e4] at e; simp only [Value.slice.injEq] at e; exact ⟨g, e.1⟩
/-- The rows as they are owned. -/
theorem Mg.own (h : Mg E va vo vh vt vn cn ov hd tt nn w wr) : wr.ownsRow 0 4 1 vo ov.length (bools ov) ∧ wr.ownsRow 0 9 1 vh hd.length (strs hd) ∧ wr.ownsRow 0 3 1 vt tt.length (ints tt) ∧ wr.ownsRow 0 3 1 vn nn.length (ints nn) := by
  obtain ⟨B, hs, n⟩ := h
  obtain ⟨_, h1, _⟩ := part_at 1 rfl hs
  obtain ⟨_, h2, _⟩ := part_at 2 rfl hs
  obtain ⟨_, h3, _⟩ := part_at 3 rfl hs
  obtain ⟨_, h4, _⟩ := part_at 4 rfl hs
  exact ⟨h1.1, h2.1, h3.1, h4.1⟩
theorem bools_snoc (l : List Bool) (x : Bool) : bools (l ++ [x]) = bools l ++ [.bool x] := by simp [bools]
theorem strs_snoc15 (l : List ByteArray) (x : ByteArray) : strs (l ++ [x]) = strs l ++ [.string x] := by simp [strs]
theorem Mg.appO (hE : Frs E) (h : Mg E va vo vh vt vn cn ov hd tt nn w wr) {x : Bool} {w1 w' : World} {v' : Value} (g : Gr wr w1) (hown : w'.ownsRow 0 4 1 v' (ov.length + 1) (bools ov ++ [.bool x])) (hg : w1.grownBy w' vo.ownBlock) (hat : v'.ownBlock = vo.ownBlock ∨ v'.ownBlock = some w1.heap.size) : Mg E va v' vh vt vn cn (ov ++ [x]) hd tt nn w w' := by
  obtain ⟨B, hs, n⟩ := h
  obtain ⟨B', s, n'⟩ := step_at (w' := w') (Q := RowE 4 1 v' (ov.length + 1) (bools ov ++ [.bool x])) 1 rfl (frs_app15 (frs_mgps _ _ _ _ _ _ _ _ _ _) hE) hs (fun B1 k => rowE_next k g hown hg hat)
  refine ⟨B', ?_, n.trans n'⟩
  show stars (_ :: RowE 4 1 v' (ov ++ [x]).length (bools (ov ++ [x])) :: _) _ _
  rw [List.length_append, List.length_singleton, bools_snoc]
  exact s
theorem Mg.appH (hE : Frs E) (h : Mg E va vo vh vt vn cn ov hd tt nn w wr) {x : ByteArray} {w1 w' : World} {v' : Value} (g : Gr wr w1) (hown : w'.ownsRow 0 9 1 v' (hd.length + 1) (strs hd ++ [.string x])) (hg : w1.grownBy w' vh.ownBlock) (hat : v'.ownBlock = vh.ownBlock ∨ v'.ownBlock = some w1.heap.size) : Mg E va vo v' vt vn cn ov (hd ++ [x]) tt nn w w' := by
  obtain ⟨B, hs, n⟩ := h
  obtain ⟨B', s, n'⟩ := step_at (w' := w') (Q := RowE 9 1 v' (hd.length + 1) (strs hd ++ [.string x])) 2 rfl (frs_app15 (frs_mgps _ _ _ _ _ _ _ _ _ _) hE) hs (fun B1 k => rowE_next k g hown hg hat)
  refine ⟨B', ?_, n.trans n'⟩
  show stars (_ :: _ :: RowE 9 1 v' (hd ++ [x]).length (strs (hd ++ [x])) :: _) _ _
  rw [List.length_append, List.length_singleton, strs_snoc15]
  exact s
theorem Mg.appT (hE : Frs E) (h : Mg E va vo vh vt vn cn ov hd tt nn w wr) {x : Int} {w1 w' : World} {v' : Value} (g : Gr wr w1) (hown : w'.ownsRow 0 3 1 v' (tt.length + 1) (ints tt ++ [.int .i64 x])) (hg : w1.grownBy w' vt.ownBlock) (hat : v'.ownBlock = vt.ownBlock ∨ v'.ownBlock = some w1.heap.size) : Mg E va vo vh v' vn cn ov hd (tt ++ [x]) nn w w' := by
  obtain ⟨B, hs, n⟩ := h
  obtain ⟨B', s, n'⟩ := step_at (w' := w') (Q := RowE 3 1 v' (tt.length + 1) (ints tt ++ [.int .i64 x])) 3 rfl (frs_app15 (frs_mgps _ _ _ _ _ _ _ _ _ _) hE) hs (fun B1 k => rowE_next k g hown hg hat)
  refine ⟨B', ?_, n.trans n'⟩
  show stars (_ :: _ :: _ :: RowE 3 1 v' (tt ++ [x]).length (ints (tt ++ [x])) :: _) _ _
  rw [List.length_append, List.length_singleton, ints_snoc]
  exact s
theorem Mg.appN (hE : Frs E) (h : Mg E va vo vh vt vn cn ov hd tt nn w wr) {x : Int} {w1 w' : World} {v' : Value} (g : Gr wr w1) (hown : w'.ownsRow 0 3 1 v' (nn.length + 1) (ints nn ++ [.int .i64 x])) (hg : w1.grownBy w' vn.ownBlock) (hat : v'.ownBlock = vn.ownBlock ∨ v'.ownBlock = some w1.heap.size) : Mg E va vo vh vt v' cn ov hd tt (nn ++ [x]) w w' := by
  obtain ⟨B, hs, n⟩ := h
  obtain ⟨B', s, n'⟩ := step_at (w' := w') (Q := RowE 3 1 v' (nn.length + 1) (ints nn ++ [.int .i64 x])) 4 rfl (frs_app15 (frs_mgps _ _ _ _ _ _ _ _ _ _) hE) hs (fun B1 k => rowE_next k g hown hg hat)
  refine ⟨B', ?_, n.trans n'⟩
  show stars (_ :: _ :: _ :: _ :: RowE 3 1 v' (nn ++ [x]).length (ints (nn ++ [x])) :: _) _ _
  rw [List.length_append, List.length_singleton, ints_snoc]
  exact s
end
end Go.Proofs.Ytifpiekajbcoiaa

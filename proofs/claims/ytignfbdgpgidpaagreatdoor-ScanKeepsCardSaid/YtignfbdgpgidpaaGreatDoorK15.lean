/- In one text: MnGet, MnSay, MnPa, MnRef7. -/
import Derived.Test.YtignfbdgpgidpaaGreatDoorK14
import Derived.Test.YtignfbdgpgidpaaGreatDoorK12
import Derived.Test.YtignfbdgpgidpaaGreatDoorK13
import Derived.Test.YtignfbdgpgidpaaGreatDoorK00
import Derived.Test.YtignfbdgpgidpaaGreatDoorK11
import Derived.BigQuiet
import Derived.Deep.DeepCutAuto
/- Plain facts of Get's loop; the byte that counts the files. -/
namespace Go.Proofs.YtignfbdgpgidpaaGreatDoor
open Go.RowKit FsPlain CrcPlain OctPlain MnPlain
set_option linter.unusedVariables false
set_option linter.unusedSimpArgs false
namespace MnPlain
theorem get_nat {s : ByteArray} {a k : Int} : 0 ≤ getN s a k := by
  unfold getN
  split <;> omega
theorem get_lt {s : ByteArray} {a : Int} {k : Nat} (hk : 0 < k) : getN s a (k : Int) < ((256 ^ k : Nat) : Int) := by
  unfold getN
  split
  · next h =>
    unfold getB at h
    rw [decide_eq_true_iff] at h
    have := num_lt (cutL s a.toNat k)
    rw [cutL_length _ _ _ (by omega)] at this
    rw [Int.toNat_natCast]
    exact_mod_cast this
  · have := Nat.pow_pos (n := k) (show 0 < 256 by decide)
    omega
theorem get_i64 {s : ByteArray} {a k : Int} : I64 (getN s a k) := by
  unfold getN I64
  split
  · next h =>
    unfold getB at h
    rw [decide_eq_true_iff] at h
    omega
  · omega
end MnPlain
end Go.Proofs.YtignfbdgpgidpaaGreatDoor
/- What Get says: of the program and of the document; results in cells. -/
namespace Go.Proofs.YtignfbdgpgidpaaGreatDoor
open Go.RowKit FsPlain CrcPlain OctPlain MnPlain
set_option linter.unusedVariables false
set_option linter.unusedSimpArgs false
set_option maxRecDepth 20000
def NewFl (w : World) (v : Value) : Prop := ∀ b n c, v = .slice (some b) n c → w.heap.size ≤ b.block
theorem newFl_nil (w : World) (n c : Nat) : NewFl w (.slice none n c) := fun b n' c' e => by cases e
theorem NewFl.low {w u : World} {v : Value} (h : NewFl u v) (g : Gr w u) : NewFl w v := fun b n c e => Nat.le_trans g.size (h b n c e)
def GtSays (s : ByteArray) (w : World) (e : Ending) (w' : World) : Prop :=
  ((∃ m v, mnIs s m ∧ e = .returned (.tuple #[.agg #[.int .i64 m.stage, .int .i64 m.pass, v], .bool true]) ∧ LiesFl w' v m.files ∧ (∀ f ∈ m.files, flK f) ∧ NewFl w v) ∨
    ((∀ m, ¬ mnIs s m) ∧ e = .returned (.tuple #[.agg #[.int .i64 0, .int .i64 0, .slice none 0 0], .bool false]))) ∧ Gr w w'
theorem mn_results2 {fn : Func} {p q : Tmp} (hfn : fn.results = #[.cell p 27, .tmp q]) {tmps : Array Value} {o : Nat} {x y z v : Value} {w : World} (hp : tmps.getD p undef = .pointer (some ⟨o, 0, none⟩)) (hv : tmps.getD q undef = v) (hb : w.heap[o]? = some (.cells #[x, y, z] 27 (0, 0))) :
    (results fn tmps).run Tryz.prog w = .ok (.tuple #[.agg #[x, y, z], v]) w := by
  have c0 : w.cell? ⟨o, 0, none⟩ = some x := by rw [cells_at hb]; rfl
  have c1 : w.cell? ⟨o, 1, none⟩ = some y := by rw [cells_at hb]; rfl
  have c2 : w.cell? ⟨o, 2, none⟩ = some z := by rw [cells_at hb]; rfl
  rw [results_cell_tmp hfn, hp, hv]
  simp [go_sem, c0, c1, c2]
theorem mn_store2 {u : World} {q : Nat} {c : Array Value} (hc : u.heap[q]? = some (.cells c 27 (0, 0))) (h3 : c.size = 3) (x y z : Value) :
    (((u.setCell ⟨q, 0, none⟩ x).setCell ⟨q, 1, none⟩ y).setCell ⟨q, 2, none⟩ z).heap[q]? = some (.cells #[x, y, z] 27 (0, 0)) ∧ Only (fun i => i = q) u (((u.setCell ⟨q, 0, none⟩ x).setCell ⟨q, 1, none⟩ y).setCell ⟨q, 2, none⟩ z) := by
  refine ⟨?_, ((Only.cell1 u q 0 x).trans (Only.cell1 _ q 1 y)).trans (Only.cell1 _ q 2 z)⟩
  rw [cells_set (cells_set (cells_set hc 0 _) 1 _) 2 _]
  match c, h3 with
  | ⟨[_, _, _]⟩, _ => rfl
theorem LiesFl.stay {w w' : World} {v : Value} {l : List Fl} {q : Nat} (h : LiesFl w v l) (o : Only (fun i => i = q) w w') (hq : ∀ b n c, v = .slice (some b) n c → b.block ≠ q) : LiesFl w' v l := by
  obtain ⟨a, c, e, hc, h⟩ := h
  refine ⟨a, c, e, hc, h.imp id fun ⟨b, off, e2, k⟩ => ⟨b, off, e2, ?_⟩⟩
  have hb : b ≠ q := hq ⟨b, off, none⟩ l.length c (by rw [e, e2])
  refine ⟨Nat.lt_of_lt_of_le k.1 o.size, fun j x hj => ?_⟩
  obtain ⟨k0, k1, k2, k3⟩ := k.2 j x hj
  exact ⟨(o.cell (p := ⟨b, _, none⟩) k.1 hb).trans k0, (o.cell (p := ⟨b, _, none⟩) k.1 hb).trans k1, (o.cell (p := ⟨b, _, none⟩) k.1 hb).trans k2, (o.cell (p := ⟨b, _, none⟩) k.1 hb).trans k3⟩
end Go.Proofs.YtignfbdgpgidpaaGreatDoor
/- The program's layer 19: within, rightFile, place (slices.IndexFunc with a function over a cell), Right. -/
namespace Go.Proofs.YtignfbdgpgidpaaGreatDoor
open Go.RowKit FsPlain MnPlain
set_option linter.unusedVariables false
set_option linter.unusedSimpArgs false
set_option maxRecDepth 20000
theorem lies_len {w : World} {a : Option Addr} {n c : Nat} {l : List Fl} (h : LiesFl w (.slice a n c) l) : n = l.length := by
  obtain ⟨a', c', e, hc, _⟩ := h
  simp only [Value.slice.injEq] at e
  exact e.2.1
theorem within_c (n a b : Int) {r : Bool} (hr : decide (a ≤ n ∧ n ≤ b) = r) (w : World) :
    Calls Tryz.prog 111 #[.int .i64 n, .int .i64 a, .int .i64 b] w fun e w' => e = .returned (.bool r) ∧ w = w' := by
  by_cases h1 : a ≤ n
  · by_cases h2 : n ≤ b
    · obtain rfl : r = true := by rw [← hr, decide_eq_true ⟨h1, h2⟩]
      clear hr
      go_enter Tryz.func111, Tryz.ntmps111
      go_wp2_with fail
      go_ret
      exact ⟨rfl, rfl⟩
    · obtain rfl : r = false := by rw [← hr, decide_eq_false (fun k => h2 k.2)]
      clear hr
      go_enter Tryz.func111, Tryz.ntmps111
      go_wp2_with fail
      go_ret
      exact ⟨rfl, rfl⟩
  · obtain rfl : r = false := by rw [← hr, decide_eq_false (fun k => h1 k.1)]
    clear hr
    go_enter Tryz.func111, Tryz.ntmps111
    go_wp2_with fail
    go_ret
    exact ⟨rfl, rfl⟩
theorem gr19 (w : World) (o : Obj) : Gr w (w.alloc o) := Below.alloc (Below.refl _ _) (Nat.le_refl _) _
theorem rightfile_c (f : Fl) (hf : f.name.size ≤ maxLen) {r : Bool} (hr : flB f = r) (w : World) :
    Calls Tryz.prog 112 #[.agg #[.string f.name, .int .i64 f.size, .int .i64 f.count, .int .u32 f.sum]] w fun e w' => e = .returned (.bool r) ∧ Gr w w' := by
  have RC := Lib.hid (fun v => right_c f.name hf v)
  have HG := Lib.hid (gr19 w (.cells #[.string f.name, .int .i64 f.size, .int .i64 f.count, .int .u32 f.sum] 48))
  unfold flB at hr
  cases d1 : rightB f.name.data.toList
  · rw [d1] at RC hr
    obtain rfl : r = false := by rw [← hr]; rfl
    clear hr
    go_enter Tryz.func112, Tryz.ntmps112
    go_wp2_with fail
    refine (RC.out _).mono ?_; rintro e u ⟨rfl, rfl⟩
    go_wp2_with fail
    go_ret
    exact ⟨rfl, HG.out⟩
  · rw [d1] at RC hr
    rw [Bool.true_and] at hr
    by_cases h1 : 1 ≤ f.size ∧ f.size ≤ 64
    · have W1 := Lib.hid (fun v => within_c f.size 1 64 (decide_eq_true h1) v)
      obtain ⟨r2, h2⟩ : ∃ r2, decide (0 ≤ f.count ∧ f.count ≤ 4611686018427387904) = r2 := ⟨_, rfl⟩
      have W2 := Lib.hid (fun v => within_c f.count 0 4611686018427387904 h2 v)
      obtain rfl : r = r2 := by rw [← hr, ← h2]; exact decide_eq_decide.2 ⟨fun k => k.2, fun k => ⟨h1, k⟩⟩
      clear hr h2 h1
      go_enter Tryz.func112, Tryz.ntmps112
      go_wp2_with fail
      refine (RC.out _).mono ?_; rintro e u ⟨rfl, rfl⟩
      go_wp2_with fail
      refine (W1.out _).mono ?_; rintro e u ⟨rfl, rfl⟩
      go_wp2_with fail
      refine (W2.out _).mono ?_; rintro e u ⟨rfl, rfl⟩
      go_wp2_with fail
      go_ret
      exact ⟨rfl, HG.out⟩
    · have W1 := Lib.hid (fun v => within_c f.size 1 64 (decide_eq_false h1) v)
      obtain rfl : r = false := by rw [← hr, decide_eq_false (fun k => h1 k.1)]
      clear hr h1
      go_enter Tryz.func112, Tryz.ntmps112
      go_wp2_with fail
      refine (RC.out _).mono ?_; rintro e u ⟨rfl, rfl⟩
      go_wp2_with fail
      refine (W1.out _).mono ?_; rintro e u ⟨rfl, rfl⟩
      go_wp2_with fail
      go_ret
      exact ⟨rfl, HG.out⟩
theorem plc1_c (x : Fl) (p : Nat) (n : ByteArray) {r : Bool} (hr : decide (x.name = n) = r) {w : World} (hp : w.cell? ⟨p, 0, none⟩ = some (.string n)) :
    Calls Tryz.prog 144 #[.agg #[.string x.name, .int .i64 x.size, .int .i64 x.count, .int .u32 x.sum], .pointer (some ⟨p, 0, none⟩)] w fun e w' => e = .returned (.bool r) ∧ Gr w w' := by
  have hb := World.block_lt_of_cell? w _ hp
  have hb2 : p < w.heap.size := hb
  have HG := Lib.hid (gr19 w (.cells #[.string x.name, .int .i64 x.size, .int .i64 x.count, .int .u32 x.sum] 48))
  have hr2 : (x.name.toList == n.toList) = r := by
    rw [← hr]
    by_cases e : x.name = n
    · rw [e]; simp
    · rw [decide_eq_false e, beq_eq_false_iff_ne]
      intro k
      exact e (ByteArray.ext (Array.toList_inj.1 (by rw [← Lib.toList_data, ← Lib.toList_data, k])))
  clear hb hr
  go_enter Tryz.func144, Tryz.ntmps144
  go_wp2_with fail
  go_ret
  exact ⟨rfl, HG.out⟩
def PlIs (n : ByteArray) (l : List Fl) (i : Int) : Prop := (i = -1 ∧ ∀ j (hj : j < l.length), l[j].name ≠ n) ∨ ∃ k : Nat, i = (k : Int) ∧ ∃ hk : k < l.length, l[k].name = n ∧ ∀ j (hj : j < k), l[j].name ≠ n
def PlGot (n : ByteArray) (l : List Fl) (w : World) (e : Ending) (w' : World) : Prop := ∃ i : Int, e = .returned (.int .i64 i) ∧ PlIs n l i ∧ Gr w w'
def PwAt (n : ByteArray) (l : List Fl) (w : World) (v : Value) (wr : World) : Prop := ∃ j : Nat, j ≤ l.length ∧ v = .int .i64 (j : Int) ∧ (∀ k (hk : k < l.length), k < j → l[k].name ≠ n) ∧ Gr w wr
set_option maxHeartbeats 1000000 in
theorem index19_c {w : World} {a : Option Addr} {m c : Nat} {l : List Fl} (h : LiesFl w (.slice a m c) l) (hl : l.length ≤ maxLen) (p : Nat) (n : ByteArray) (hp : w.cell? ⟨p, 0, none⟩ = some (.string n)) :
    Calls Tryz.prog 143 #[.slice a m c, .func (.func 144) #[] #[.pointer (some ⟨p, 0, none⟩)]] w (PlGot n l w) := by
  have hpb : p < w.heap.size := World.block_lt_of_cell? w _ hp
  have HP := Lib.hid (fun u (g : Gr w u) => show u.cell? ⟨p, 0, none⟩ = some (.string n) by rw [Below.cell g (p := ⟨p, 0, none⟩) hpb]; exact hp)
  have hn : m = l.length := by
    obtain ⟨a', c', e, hc, _⟩ := h
    simp only [Value.slice.injEq] at e
    exact e.2.1
  subst hn
  unfold maxLen at hl
  have H := Lib.hid h
  clear h hp
  go_enter Tryz.func143, Tryz.ntmps143
  go_wp2_with fail
  go_loopw [5, 8] (fun _ i wr => PwAt n l w i wr) (fun _ i _ => l.length - (intOf i).toNat)
  case atStart => exact ⟨0, Nat.zero_le _, rfl, fun k hk hk0 => by omega, Gr.refl _⟩
  case round =>
    obtain ⟨j, hj, rfl, hall, g1⟩ := hrel
    have HA := Lib.hid hall
    clear hall
    by_cases hlt : j < l.length
    · obtain ⟨_, hc, b, o, rfl, hb, ⟨k0, k1, k2, k3⟩⟩ := fl_get (H.out.gr g1) hlt
      have q1 : (j : Int) < (l.length : Int) := by omega
      by_cases he : l[j].name = n
      · have C := Lib.hid (plc1_c l[j] p n (decide_eq_true he) (HP.out wr g1))
        have HX := Lib.hid (show PlIs n l (j : Int) from .inr ⟨j, rfl, hlt, he, fun k hk => HA.out k (by omega) hk⟩)
        clear he
        go_wp2_with fail
        refine C.out.mono ?_; rintro e u ⟨rfl, g⟩
        go_wp2_with fail
        go_ret
        exact ⟨_, rfl, HX.out, g1.trans g⟩
      · have C := Lib.hid (plc1_c l[j] p n (decide_eq_false he) (HP.out wr g1))
        have NX := Lib.hid (show ∀ k (hk : k < l.length), k < j + 1 → l[k].name ≠ n from fun k hk hkj => by
          by_cases e : k = j
          · subst e; exact he
          · exact HA.out k hk (by omega))
        clear he
        go_wp2_with fail
        refine C.out.mono ?_; rintro e u ⟨rfl, g⟩
        go_wp2_with fail
        go_roundw
        case rel => exact ⟨j + 1, by omega, by rw [show ((j + 1 : Nat) : Int) = (j : Int) + 1 by omega], NX.out, g1.trans g⟩
        case measure => simp [intOf]; omega
    · have q1 : ¬ (j : Int) < (l.length : Int) := by omega
      have HX := Lib.hid (show PlIs n l (-1) from .inl ⟨rfl, fun k hk => HA.out k hk (by omega)⟩)
      go_wp2_with fail
      go_ret
      exact ⟨_, rfl, HX.out, g1⟩
set_option maxHeartbeats 1000000 in
theorem place19_c {w : World} {a : Option Addr} {m c : Nat} {l : List Fl} (h : LiesFl w (.slice a m c) l) (hl : l.length ≤ maxLen) (n : ByteArray) :
    Calls Tryz.prog 113 #[.slice a m c, .string n] w (PlGot n l w) := by
  have g0 := gr19 w (.cells #[.string n] 9)
  have C := Lib.hid (index19_c (h.gr g0) hl w.heap.size n (by rw [World.cell?_alloc_new]; rfl))
  have G := Lib.hid g0
  clear h g0
  go_enter Tryz.func113, Tryz.ntmps113
  go_wp2_with fail
  refine C.out.mono ?_; intro e u hi
  obtain ⟨i, rfl, hi, g⟩ := hi
  have HI := Lib.hid hi
  clear hi
  go_wp2_with fail
  go_ret
  exact ⟨_, rfl, HI.out, G.out.trans g⟩
theorem pl_lt {n : ByteArray} {l : List Fl} {i : Nat} (hi : i < l.length) (hn : l[i].name = n) {k : Int} (h : PlIs n l k) : ∃ j : Nat, k = (j : Int) ∧ j ≤ i ∧ (((l.take i).all fun g => decide (g.name ≠ n)) = decide (i ≤ j)) := by
  rcases h with ⟨_, h⟩ | ⟨j, rfl, hj, e, h⟩
  · exact absurd hn (h i hi)
  · refine ⟨j, rfl, ?_, ?_⟩
    · rcases Nat.lt_or_ge i j with h1 | h1
      · exact absurd hn (h i h1)
      · exact h1
    · rw [Bool.eq_iff_iff, all_ne hi, decide_eq_true_iff]
      constructor
      · intro k
        rcases Nat.lt_or_ge j i with h1 | h1
        · exact absurd e (k j h1)
        · exact h1
      · intro k q hq
        exact h q (by omega)
def RqAt19 (l : List Fl) (w1 : World) (v : Value) (wr : World) : Prop := ∃ i : Nat, i ≤ l.length ∧ v = .int .i64 (i : Int) ∧ newB [] l = newB (l.take i) (l.drop i) ∧ Gr w1 wr
set_option maxHeartbeats 4000000 in
theorem mright_c (st ps : Int) (a : Option Addr) (n c : Nat) (l : List Fl) (w : World) (h : LiesFl w (.slice a n c) l) (hl : l.length ≤ maxLen) (hK : ∀ f ∈ l, flK f) :
    Calls Tryz.prog 84 #[.agg #[.int .i64 st, .int .i64 ps, .slice a n c]] w fun e w' => e = .returned (.bool (mnB ⟨st, ps, l⟩)) ∧ Gr w w' := by
  have hn : n = l.length := by
    obtain ⟨a', c', e, hc, _⟩ := h
    simp only [Value.slice.injEq] at e
    exact e.2.1
  obtain ⟨r, hr⟩ : ∃ r, mnB ⟨st, ps, l⟩ = r := ⟨_, rfl⟩
  rw [hr]
  have HL := Lib.hid hl
  unfold maxLen at hl
  have H := Lib.hid h
  have HK := Lib.hid hK
  clear h hK
  subst hn
  unfold mnB at hr
  simp only at hr
  have HG := Lib.hid (gr19 w (.cells #[.int .i64 st, .int .i64 ps, .slice a l.length c] 27))
  by_cases c1 : 1 ≤ st ∧ st ≤ 7
  · have W1 := Lib.hid (fun v => within_c st 1 7 (decide_eq_true c1) v)
    by_cases c2 : 0 ≤ ps ∧ ps ≤ 1000
    · have W2 := Lib.hid (fun v => within_c ps 0 1000 (decide_eq_true c2) v)
      by_cases c5 : l.length ≤ 16
      · rw [decide_eq_true (show (1 ≤ st ∧ st ≤ 7) ∧ (0 ≤ ps ∧ ps ≤ 1000) ∧ l.length ≤ 16 from ⟨c1, c2, c5⟩), Bool.true_and] at hr
        have HR := Lib.hid hr
        have c5I : ¬ (16 : Int) < (l.length : Int) := by omega
        clear hr c1 c2
        go_enter Tryz.func84, Tryz.ntmps84
        go_wp2_with fail
        refine (W1.out _).mono ?_; rintro e u ⟨rfl, rfl⟩
        go_wp2_with fail
        refine (W2.out _).mono ?_; rintro e u ⟨rfl, rfl⟩
        go_wp2_with fail
        go_loopw [24] (fun v wr => RqAt19 l (w.alloc (.cells #[.int .i64 st, .int .i64 ps, .slice a l.length c] 27)) v wr) (fun v _ => l.length - (intOf v).toNat)
        case atStart => exact ⟨0, Nat.zero_le _, rfl, by rw [List.take_zero, List.drop_zero], Gr.refl _⟩
        case round =>
          obtain ⟨i, hi1, rfl, hnb, g1⟩ := hrel
          have A2 : wr.cell? ⟨w.heap.size, 2, none⟩ = some (.slice a l.length c) := by rw [g1.cell (p := ⟨w.heap.size, 2, none⟩) (by simp)]; simp
          have hwr : w.heap.size < wr.heap.size := by have := g1.size; simp at this; omega
          have G : Gr w wr := HG.out.trans g1
          by_cases hlt : i < l.length
          · obtain ⟨_, hc, b, o, rfl, hb, ⟨k0, k1, k2, k3⟩⟩ := fl_get (H.out.gr G) hlt
            have q1 : (i : Int) < (l.length : Int) := by omega
            have hfk := HK.out l[i] (List.getElem_mem hlt)
            obtain ⟨f, hf⟩ : ∃ f, l[i] = f := ⟨_, rfl⟩
            have hst := new_step hlt
            rw [hf] at k0 k1 k2 k3 hfk hst
            obtain ⟨V, hV⟩ : ∃ V, V = wr.alloc (.cells #[.string f.name, .int .i64 f.size, .int .i64 f.count, .int .u32 f.sum] 48) := ⟨_, rfl⟩
            have gV : Gr wr V := by rw [hV]; exact gr19 _ _
            have yF : V.heap[wr.heap.size]? = some (.cells #[.string f.name, .int .i64 f.size, .int .i64 f.count, .int .u32 f.sum] 48 (0, 0)) := by rw [hV]; exact heap_alloc_new wr _
            have hVz : wr.heap.size < V.heap.size := by rw [hV]; simp
            have VC := Lib.hid (fun u (g : Gr V u) => (⟨by have y := (g.block wr.heap.size hVz).trans yF; rw [cells_at y]; rfl, by rw [Below.cell (Gr.trans gV g) (p := ⟨w.heap.size, 2, none⟩) hwr]; exact A2⟩ : u.cell? ⟨wr.heap.size, 0, none⟩ = some (.string f.name) ∧ u.cell? ⟨w.heap.size, 2, none⟩ = some (.slice (some ⟨b, o, none⟩) l.length c)))
            have HV := Lib.hid hV
            have GV := Lib.hid (G.trans gV)
            have hg1 := Lib.hid g1
            have gV2 := Lib.hid gV
            clear hV gV yF g1
            cases d1 : flB f
            · have RF := Lib.hid (rightfile_c f hfk.1 d1 V)
              obtain rfl : r = false := by rw [← HR.out, hnb, hst, d1]; rfl
              clear hnb hst HR
              go_wp2_with fail
              rw [← HV.out]
              refine RF.out.mono ?_; rintro e u ⟨rfl, g⟩
              go_wp2_with fail
              go_ret
              exact ⟨rfl, GV.out.trans g⟩
            · have RF := Lib.hid (rightfile_c f hfk.1 d1 V)
              rw [d1, Bool.true_and] at hst
              have HF := Lib.hid hf
              have ST := Lib.hid (hnb.trans hst)
              clear hnb hst hf
              go_wp2_with fail
              rw [← HV.out]
              refine RF.out.mono ?_; rintro e u ⟨rfl, g⟩
              obtain ⟨e0, e2⟩ := VC.out u g
              have PC := Lib.hid (place19_c (H.out.gr (GV.out.trans g)) HL.out f.name)
              go_wp2_with fail
              refine PC.out.mono ?_; intro e u2 hi
              obtain ⟨k, rfl, hi, g2⟩ := hi
              obtain ⟨j, rfl, hji, hall⟩ := pl_lt hlt (by rw [HF.out]) hi
              have ST2 := ST.out
              rw [hall] at ST2
              clear hi hall ST PC e0 e2
              by_cases hj : j < i
              · obtain rfl : r = false := by rw [← HR.out, ST2, decide_eq_false (by omega)]; rfl
                have q2 : (j : Int) < (i : Int) := by omega
                clear ST2 hj hji
                go_wp2_with fail
                go_ret
                exact ⟨rfl, (GV.out.trans g).trans g2⟩
              · rw [decide_eq_true (by omega), Bool.true_and] at ST2
                have NB := Lib.hid ST2
                have q2 : ¬ (j : Int) < (i : Int) := by omega
                clear ST2 hj hji
                go_wp2_with fail
                go_roundw
                case rel => exact ⟨i + 1, by omega, by rw [show ((i + 1 : Nat) : Int) = (i : Int) + 1 by omega], NB.out, ((hg1.out.trans gV2.out).trans g).trans g2⟩
                case measure => simp [intOf]; omega
          · have hie : i = l.length := by omega
            obtain rfl : r = true := by rw [← HR.out, hnb, hie]; exact new_end l
            have q1 : ¬ (i : Int) < (l.length : Int) := by omega
            clear hnb HR
            go_wp2_with fail
            go_ret
            exact ⟨rfl, G⟩
      · obtain rfl : r = false := by rw [← hr, decide_eq_false (fun k => c5 k.2.2), Bool.false_and]
        have c5I : (16 : Int) < (l.length : Int) := by omega
        clear hr c1 c2
        go_enter Tryz.func84, Tryz.ntmps84
        go_wp2_with fail
        refine (W1.out _).mono ?_; rintro e u ⟨rfl, rfl⟩
        go_wp2_with fail
        refine (W2.out _).mono ?_; rintro e u ⟨rfl, rfl⟩
        go_wp2_with fail
        go_ret
        exact ⟨rfl, HG.out⟩
    · have W2 := Lib.hid (fun v => within_c ps 0 1000 (decide_eq_false c2) v)
      obtain rfl : r = false := by rw [← hr, decide_eq_false (fun k => c2 k.2.1), Bool.false_and]
      clear hr c1 c2
      go_enter Tryz.func84, Tryz.ntmps84
      go_wp2_with fail
      refine (W1.out _).mono ?_; rintro e u ⟨rfl, rfl⟩
      go_wp2_with fail
      refine (W2.out _).mono ?_; rintro e u ⟨rfl, rfl⟩
      go_wp2_with fail
      go_ret
      exact ⟨rfl, HG.out⟩
  · have W1 := Lib.hid (fun v => within_c st 1 7 (decide_eq_false c1) v)
    obtain rfl : r = false := by rw [← hr, decide_eq_false (fun k => c1 k.1), Bool.false_and]
    clear hr c1
    go_enter Tryz.func84, Tryz.ntmps84
    go_wp2_with fail
    refine (W1.out _).mono ?_; rintro e u ⟨rfl, rfl⟩
    go_wp2_with fail
    go_ret
    exact ⟨rfl, HG.out⟩
end Go.Proofs.YtignfbdgpgidpaaGreatDoor
/- The document's answers of layer 19: Get. -/
namespace Go.Proofs.YtignfbdgpgidpaaGreatDoor
open Go.RowKit FsPlain CrcPlain OctPlain MnPlain
set_option linter.unusedVariables false
set_option linter.unusedSimpArgs false
set_option maxRecDepth 20000
end Go.Proofs.YtignfbdgpgidpaaGreatDoor

/- In one text: Wr1, Wr2, Wr3. -/
import Derived.Test.YtpmglnghnelenaaGreatP19
import Derived.Test.YtpmglnghnelenaaGreatP09
import Derived.Test.YtpmglnghnelenaaGreatP02
import Derived.Test.YtpmglnghnelenaaGreatP10
import Derived.Test.YtpmglnghnelenaaGreatP14
import Derived.Deep.RegionHeld3
import Derived.Deep.AppendLies
import Derived.Test.YtpmglnghnelenaaGreatP05
/- The program's writer: its parts, open, queue. -/
namespace Go.Proofs.YtpmglnghnelenaaGreat
open Go.RowKit FsPlain CrcPlain OctPlain FramePlain RecPlain WrPlain
set_option linter.unusedVariables false
set_option linter.unusedSimpArgs false
set_option maxRecDepth 20000
def wcells (D P : Nat) (y : Ws) (vw : Value) : Array Value := #[.pointer (some ⟨D, 0, none⟩), .string y.nm, .pointer (some ⟨P, 0, none⟩), .int .i64 y.size, vw, .int .i64 y.all.length, .int .u32 (sumN y.all : Nat)]
def wshut (n : Int) : Array Value := #[.pointer none, .string ⟨#[]⟩, .pointer none, .int .i64 0, .slice none 0 0, .int .i64 n, .int .u32 0]
/-- A writer: open, or not. -/
def WrA (x D P : Nat) (y : Ws) : Asn := fun w B => (y.opn = true ∧ ∃ vw, stars [Blk x (wcells D P y vw) 98, RowA vw y.wait] w B) ∨ (y.opn = false ∧ Blk x (wshut y.all.length) 98 w B)
theorem frs_wi (x D P : Nat) (y : Ws) (vw : Value) : Frs [Blk x (wcells D P y vw) 98, RowA vw y.wait] := ⟨fr_blk _ _ _, fr_row _ _, trivial⟩
theorem fr_wr (x D P : Nat) (y : Ws) : Fr (WrA x D P y) where
  fr := fun h o d => by
    rcases h with ⟨h1, vw, h⟩ | ⟨h1, h⟩
    · exact .inl ⟨h1, vw, (fr_stars (frs_wi _ _ _ _ _)).fr h o d⟩
    · exact .inr ⟨h1, (fr_blk _ _ _).fr h o d⟩
  lo := fun h => by
    rcases h with ⟨h1, vw, h⟩ | ⟨h1, h⟩
    · exact (fr_stars (frs_wi _ _ _ _ _)).lo h
    · exact (fr_blk _ _ _).lo h
/-- The program's writer, its disk, its budget. -/
def W3 (x D P : Nat) (m : M3) : Asn := stars [WrA x D P m.x, DiskA D m.s, BuA P m.b]
theorem frs_w3 (x D P : Nat) (m : M3) : Frs [WrA x D P m.x, DiskA D m.s, BuA P m.b] := ⟨fr_wr _ _ _ _, fr_disk _ _, fr_bu _ _, trivial⟩
/-- The four parts of an open one. -/
def wl (x D P : Nat) (s : St) (b : Bu) (c : Array Value) (vw : Value) (wait : List ByteArray) : List Asn := [Blk x c 98, RowA vw wait, DiskA D s, BuA P b]
theorem frs_wl (x D P : Nat) (s : St) (b : Bu) (c : Array Value) (vw : Value) (wait : List ByteArray) : Frs (wl x D P s b c vw wait) := ⟨fr_blk _ _ _, fr_row _ _, fr_disk _ _, fr_bu _ _, trivial⟩
/-- An open writer, its disk, its budget. -/
def WO (x D P : Nat) (m : M3) : Asn := fun w B => ∃ vw, stars (wl x D P m.s m.b (wcells D P m.x vw) vw m.x.wait) w B
theorem w3_open {x D P : Nat} {m : M3} {w : World} {B : Nat → Prop} (ho : m.x.opn = true) (h : W3 x D P m w B) : WO x D P m w B := by
  obtain ⟨B1, B2, h1, h2, a, e⟩ := h
  rcases h1 with ⟨_, vw, h1⟩ | ⟨h1, _⟩
  · exact ⟨vw, stars_app.2 ⟨B1, B2, h1, h2, a, e⟩⟩
  · rw [ho] at h1; cases h1
theorem w3_close {x D P : Nat} {m : M3} {w : World} {B : Nat → Prop} (ho : m.x.opn = true) (h : WO x D P m w B) : W3 x D P m w B := by
  obtain ⟨vw, h⟩ := h
  obtain ⟨B1, B2, h1, h2, a, e⟩ := stars_app (L := [Blk x (wcells D P m.x vw) 98, RowA vw m.x.wait]).1 h
  exact ⟨B1, B2, .inl ⟨ho, vw, h1⟩, h2, a, e⟩
theorem w3_shut {x D P : Nat} {m : M3} {w : World} {B : Nat → Prop} (ho : m.x.opn = false) (h : W3 x D P m w B) : w.heap[x]? = some (.cells (wshut m.x.all.length) 98 (0, 0)) := by
  obtain ⟨B1, B2, h1, h2, a, e⟩ := h
  rcases h1 with ⟨h1, _⟩ | ⟨_, h1⟩
  · rw [ho] at h1; cases h1
  · exact h1.1
theorem wl_blk {x D P : Nat} {s : St} {b : Bu} {c : Array Value} {vw : Value} {wait : List ByteArray} {w : World} {B : Nat → Prop} (h : stars (wl x D P s b c vw wait) w B) : w.heap[x]? = some (.cells c 98 (0, 0)) := by
  obtain ⟨_, h, _⟩ := part_at 0 rfl h
  exact h.1
theorem fr_wo (x D P : Nat) (m : M3) : Fr (WO x D P m) := ⟨fun ⟨vw, h⟩ o d => ⟨vw, (fr_stars (frs_wl _ _ _ _ _ _ _ _)).fr h o d⟩, fun ⟨vw, h⟩ => (fr_stars (frs_wl _ _ _ _ _ _ _ _)).lo h⟩
theorem wl_set {x D P : Nat} {s : St} {b : Bu} {c c' : Array Value} {vw : Value} {wait : List ByteArray} {w : World} {B : Nat → Prop} (i : Nat) (u : Value) (h : stars (wl x D P s b c vw wait) w B) (hc : c.setIfInBounds i u = c') :
    ∃ B', stars (wl x D P s b c' vw wait) (w.setCell ⟨x, i, none⟩ u) B' ∧ Nx B w B' (w.setCell ⟨x, i, none⟩ u) :=
  step_at (Q := Blk x c' 98) 0 rfl (frs_wl _ _ _ _ _ _ _ _) h fun B1 h1 => by rw [← hc]; exact blk_next h1 u
theorem wl_wait {x D P : Nat} {s : St} {b : Bu} {c : Array Value} {vw v' : Value} {wait : List ByteArray} {r : ByteArray} {w w1 w' : World} {B : Nat → Prop} {n q : Nat} (h : stars (wl x D P s b c vw wait) w B) (hn : wait.length = n) (g : Gr w w1) (hq : q = w1.heap.size) (hown : w'.ownsRow 0 9 1 v' (n + 1) (strs wait ++ [.string r])) (hg : w1.grownBy w' vw.ownBlock) (hat : v'.ownBlock = vw.ownBlock ∨ v'.ownBlock = some q) :
    ∃ B', stars (wl x D P s b c v' (wait ++ [r])) w' B' ∧ Nx B w B' w' :=
  step_at (Q := RowA v' (wait ++ [r])) 1 rfl (frs_wl _ _ _ _ _ _ _ _) h fun B1 h1 => row_app h1 g (by rw [hn]; exact hown) hg (by rw [← hq]; exact hat)
theorem wl_none {x D P : Nat} {s : St} {b : Bu} {c : Array Value} {vw : Value} {wait : List ByteArray} {w : World} {B : Nat → Prop} (h : stars (wl x D P s b c vw wait) w B) :
    ∃ B', stars (wl x D P s b c (.slice none 0 0) []) w B' ∧ Nx B w B' w :=
  step_at (Q := RowA (.slice none 0 0) []) 1 rfl (frs_wl _ _ _ _ _ _ _ _) h fun B1 h1 => ⟨_, row_nil w, Only.refl _ _, fun b hb => hb.elim⟩
theorem wopen_yes (x : Nat) (v : Addr) (w : World) (c0 : w.cell? ⟨x, 0, none⟩ = some (.pointer (some v))) :
    Calls Tryz.prog 55 #[.pointer (some ⟨x, 0, none⟩)] w fun e w' => e = .returned (.bool true) ∧ w = w' := by
  go_enter Tryz.func55, Tryz.ntmps55
  go_wp2_with fail
  go_ret
  exact ⟨rfl, rfl⟩
theorem wopen_no (x : Nat) (w : World) (c0 : w.cell? ⟨x, 0, none⟩ = some (.pointer none)) :
    Calls Tryz.prog 55 #[.pointer (some ⟨x, 0, none⟩)] w fun e w' => e = .returned (.bool false) ∧ w = w' := by
  go_enter Tryz.func55, Tryz.ntmps55
  go_wp2_with fail
  go_ret
  exact ⟨rfl, rfl⟩
theorem wopen_nil (w : World) :
    Calls Tryz.prog 55 #[.pointer none] w fun e w' => e = .returned (.bool false) ∧ w = w' := by
  go_enter Tryz.func55, Tryz.ntmps55
  go_wp2_with fail
  go_ret
  exact ⟨rfl, rfl⟩
end Go.Proofs.YtpmglnghnelenaaGreat
/- The program's writer: queue. -/
namespace Go.Proofs.YtpmglnghnelenaaGreat
open Go.RowKit FsPlain CrcPlain OctPlain FramePlain RecPlain WrPlain
set_option linter.unusedVariables false
set_option linter.unusedSimpArgs false
set_option maxRecDepth 20000
set_option maxRecDepth 20000 in
set_option maxHeartbeats 2000000 in
theorem w_queue (x D P : Nat) (m : M3) (r : ByteArray) (hwl : m.x.wait.length ≤ 3) (hal : m.x.all.length ≤ 100000) (hz : r.size ≤ 64) (w : World) (B : Nat → Prop) (h : WO x D P m w B) :
    Calls Tryz.prog 86 #[.pointer (some ⟨x, 0, none⟩), .string r] w (Does w B (WO x D P ⟨m.s, m.b, m.x.put r⟩) (.tuple #[])) := by
  obtain ⟨vw, h⟩ := h
  obtain ⟨_, hrw, _⟩ := part_at 1 rfl h
  obtain ⟨i0, hi, hz0, hz1, hz2⟩ := info_parts infoS
  obtain ⟨aw, cw, rfl, _⟩ := rowE_shape hrw
  obtain ⟨n, hn⟩ : ∃ n, m.x.wait.length = n := ⟨_, rfl⟩
  obtain ⟨k, hk⟩ : ∃ k, m.x.all.length = k := ⟨_, rfl⟩
  have hb := wl_blk h
  have hxl := lt_of_block hb
  have c4 : w.cell? ⟨x, 4, none⟩ = some (.slice aw n cw) := by rw [cells_at hb, ← hn]; rfl
  have RWg : ∀ u, Gr w u → u.ownsRow 0 9 1 (.slice aw n cw) n (strs m.x.wait) := fun u g => by
    have := (star_gr (fr_row _ _) hrw g).1; rw [hn] at this; exact this
  have RW := Lib.hid RWg
  have HN := Lib.hid hn
  have HK := Lib.hid hk
  have H := Lib.hid h
  rw [hn] at hwl
  rw [hk] at hal
  have CLg : ∀ u, Gr w u → Calls Tryz.prog 52 #[.string r] u fun e w' => e = .returned (.string r) ∧ Gr w w' ∧ w'.cell? ⟨x, 4, none⟩ = some (.slice aw n cw) ∧ x < w'.heap.size := fun u g => (clone_c r u (by omega)).mono fun e w' ⟨he, g2⟩ => ⟨he, g.trans g2, ((g.trans g2).cell (p := ⟨x, 4, none⟩) hxl).trans c4, Nat.lt_of_lt_of_le hxl (g.trans g2).size⟩
  have CL := Lib.hid CLg
  have APg : ∀ u b1 cap1 w1, Gr w u → w1.ownsRow 0 9 1 (.slice (some ⟨b1, 0, none⟩) (n + 1) cap1) (n + 1) (strs m.x.wait ++ [.string r]) → (u.alloc (.cells #[.string r] 9)).grownBy w1 (Value.slice aw n cw).ownBlock → ((Value.slice aw n cw).ownBlock = some b1 ∨ b1 = (u.alloc (.cells #[.string r] 9)).heap.size) →
      ∃ B1, stars (wl x D P m.s m.b (wcells D P m.x (.slice aw m.x.wait.length cw)) (.slice (some ⟨b1, 0, none⟩) (n + 1) cap1) (m.x.wait ++ [r])) w1 B1 ∧ Nx B w B1 w1 := by
    intro u b1 cap1 w1 g o1 g1 a1
    refine wl_wait (H.out) HN.out (g.alloc g.size (.cells #[.string r] 9)) rfl o1 ?_ ?_
    · rw [HN.out]; exact g1
    · rw [HN.out]
      rcases a1 with a1 | a1
      · exact .inl a1.symm
      · exact .inr (by rw [← a1]; rfl)
  have AP := Lib.hid APg
  have FZg : ∀ u b1 cap1 w1, Gr w u → w1.ownsRow 0 9 1 (.slice (some ⟨b1, 0, none⟩) (n + 1) cap1) (n + 1) (strs m.x.wait ++ [.string r]) → (u.alloc (.cells #[.string r] 9)).grownBy w1 (Value.slice aw n cw).ownBlock → ((Value.slice aw n cw).ownBlock = some b1 ∨ b1 = (u.alloc (.cells #[.string r] 9)).heap.size) → w1.frozen? ⟨x, 4, none⟩ = false ∧ w1.cell? ⟨x, 4, none⟩ = some (.slice aw m.x.wait.length cw) := by
    intro u b1 cap1 w1 g o1 g1 a1
    obtain ⟨B1, h1, _⟩ := AP.out u b1 cap1 w1 g o1 g1 a1
    exact ⟨cells_free (wl_blk h1) 4, by rw [cells_at (wl_blk h1)]; rfl⟩
  have FZ := Lib.hid FZg
  have g0 : Gr w w.drew := (Gr.refl w).drew
  have hal' : (k : Int) ≤ 100000 := by omega
  clear h hrw hn hk RWg hb CLg APg FZg
  go_enter Tryz.func86, Tryz.ntmps86
  go_wp2_with fail
  go_region_law (first | (go_simp; go_at_call 52; ((with_reducible refine (CL.out _ (by assumption)).mono ?_); rintro e u ⟨rfl, gu, hu, hxu⟩)) | (refine step_append_lies _ rfl (.tmp 8) (.tmp 11) 26 rfl 0 9 i0 (.string ⟨#[]⟩) 1 16 Tryz.underlying26 hi hz0 hz1 hz2 rfl (by decide) (.slice aw n cw) n (strs m.x.wait) (by simp [Act.eval, Act.put]) (by have := RW.out _ (by assumption); exact this.alloc _) ⟨_, 0, none⟩ 1 1 [.string r] (by simp [Act.eval, Act.put]) rfl (cell_one_new _ _ _) (by simp [Value.oneCell']) (by omega) (by unfold maxLen; omega) (by omega) (Nat.zero_le _) _ rfl ?_; intro b1 cap1 w1 ho1 hg1 ha1 hl1; obtain ⟨hf1, hc1⟩ := FZ.out _ _ _ _ gu ho1 hg1 ha1))
  all_goals
    obtain ⟨B1, h1, n1⟩ := AP.out _ _ _ _ gu ho1 hg1 ha1
    obtain ⟨B2, h2, n2⟩ := wl_set (c' := wcells D P m.x (.slice (some ⟨b1, 0, none⟩) (n + 1) cap1)) 4 (.slice (some ⟨b1, 0, none⟩) (n + 1) cap1) h1 rfl
    obtain ⟨W, hW⟩ : ∃ W, W = w1.setCell ⟨x, 4, none⟩ (.slice (some ⟨b1, 0, none⟩) (n + 1) cap1) := ⟨_, rfl⟩
    rw [← hW] at h2 n2 ⊢
    have hb := wl_blk h2
    have c5 : W.cell? ⟨x, 5, none⟩ = some (.int .i64 k) := by rw [cells_at hb, ← HK.out]; rfl
    have f5 := cells_free hb 5
    obtain ⟨B3, h3, n3⟩ := wl_set (c' := (wcells D P m.x (.slice (some ⟨b1, 0, none⟩) (n + 1) cap1)).setIfInBounds 5 (.int .i64 ((k : Int) + 1))) 5 (.int .i64 ((k : Int) + 1)) h2 rfl
    obtain ⟨V, hV⟩ : ∃ V, V = W.setCell ⟨x, 5, none⟩ (.int .i64 ((k : Int) + 1)) := ⟨_, rfl⟩
    rw [← hV] at h3 n3
    have hb3 := wl_blk h3
    have d6 : W.cell? ⟨x, 6, none⟩ = some (.int .u32 (sumN m.x.all : Nat)) := by rw [cells_at hb]; rfl
    have CM := Lib.hid (more_c (sumN m.x.all) (sumN_lt _) r (by omega) V)
    have H3 := Lib.hid h3
    have N3 := Lib.hid ((n1.trans n2).trans n3)
    have HV := Lib.hid hV
    have hxV := lt_of_block hb3
    clear h1 h2 h3 n1 n2 n3 hb hb3 hW ho1 hg1 ha1 hl1 hf1 hc1 gu hu hxu hV
    go_wp2_with fail
    rw [← HV.out]
    refine CM.out.mono ?_; rintro e w3 ⟨rfl, g3⟩
    have h4 := stars_gr (frs_wl _ _ _ _ _ _ _ _) H3.out g3
    have hb4 := wl_blk h4
    have e6 : w3.cell? ⟨x, 6, none⟩ = some (.int .u32 (sumN m.x.all : Nat)) := by rw [cells_at hb4]; rfl
    have f6 := cells_free hb4 6
    have hs := sumN_snoc m.x.all r
    obtain ⟨z, hz⟩ : ∃ z, z = more (sumN m.x.all) r.data.toList := ⟨_, rfl⟩
    rw [← hz] at hs ⊢
    obtain ⟨B5, h5, n5⟩ := wl_set (c' := wcells D P (m.x.put r) (.slice (some ⟨b1, 0, none⟩) (n + 1) cap1)) 6 (.int .u32 (z : Nat)) h4 (by
      show #[_, _, _, _, _, _, _] = #[_, _, _, _, _, _, _]
      simp [Ws.put, HK.out, hs])
    have H5 := Lib.hid h5
    have N5 := Lib.hid ((N3.out.trans (Nx.gr g3)).trans n5)
    clear h4 h5 n5 hb4 g3 CM hz hs
    go_wp2_with fail
    go_end0
    exact ⟨rfl, B5, ⟨_, H5.out⟩, N5.out⟩
end Go.Proofs.YtpmglnghnelenaaGreat
/- The program's writer: addBlock, Drop. -/
namespace Go.Proofs.YtpmglnghnelenaaGreat
open Go.RowKit FsPlain CrcPlain OctPlain FramePlain RecPlain WrPlain
set_option linter.unusedVariables false
set_option linter.unusedSimpArgs false
set_option maxRecDepth 20000
set_option maxRecDepth 20000 in
set_option maxHeartbeats 2000000 in
theorem w_block (x D P : Nat) (m : M3) (T : ByteArray) (hT : T = blkS m.x.size m.x.wait) (hTs : T.size ≤ 300) (hs1 : 1 ≤ m.x.size) (hs2 : m.x.size ≤ 64) (hn : m.x.nm.size ≤ 24) (hm : rightB m.x.nm.data.toList = true) (hwl : m.x.wait.length ≤ 1000) (hwz : ∀ r ∈ m.x.wait, (r.size : Int) = m.x.size) (hc : m.s.calls ≤ 1000000000000) (w : World) (B : Nat → Prop) (h : WO x D P m w B) :
    Calls Tryz.prog 87 #[.pointer (some ⟨x, 0, none⟩)] w (Does w B (WO x D P ⟨(appendR m.s m.x.nm.data.toList T.data.toList).1, m.b, m.x.none⟩) (.int .i64 (appendR m.s m.x.nm.data.toList T.data.toList).2)) := by
  obtain ⟨vw, h⟩ := h
  obtain ⟨_, hrw, _⟩ := part_at 1 rfl h
  obtain ⟨aw, cw, rfl, _⟩ := rowE_shape hrw
  obtain ⟨n, hn'⟩ : ∃ n, m.x.wait.length = n := ⟨_, rfl⟩
  have HN := Lib.hid hn'
  rw [hn'] at hwl
  have hb := wl_blk h
  have hxl := lt_of_block hb
  have c2 : w.cell? ⟨x, 3, none⟩ = some (.int .i64 m.x.size) := by rw [cells_at hb]; rfl
  have c4 : w.cell? ⟨x, 4, none⟩ = some (.slice aw n cw) := by rw [cells_at hb, ← hn']; rfl
  obtain ⟨tb, htb⟩ : ∃ tb, tb = blkB m.x.size m.x.wait := ⟨_, rfl⟩
  have CP0 : ∀ u, Gr w u → Calls Tryz.prog 101 #[.int .i64 m.x.size, .slice aw n cw] u fun e w' => e = .returned (.tuple #[.string T, .bool tb]) ∧ Gr w w' ∧ w'.cell? ⟨x, 3, none⟩ = some (.int .i64 m.x.size) ∧ w'.cell? ⟨x, 4, none⟩ = some (.slice aw n cw) := by
    intro u g
    have L := (row_lies hrw).gr g
    rw [hn'] at L
    rw [hT, htb]
    refine (fput_c L m.x.size (by unfold I64; omega) (by rw [hn']; omega) (fun r hr => by have := hwz r hr; omega)).mono ?_
    rintro e u2 ⟨rfl, g2⟩
    have hg := g.trans g2
    exact ⟨rfl, hg, by rw [hg.cell (p := ⟨x, 3, none⟩) hxl]; exact c2, by rw [hg.cell (p := ⟨x, 4, none⟩) hxl]; exact c4⟩
  have CP := Lib.hid CP0
  have CA := Lib.hid (fun (V : World) B1 (h1 : stars (wl x D P m.s m.b (wcells D P m.x (.slice none 0 0)) (.slice none 0 0) []) V B1) => does_at (f := 78) (Q := DiskA D (appendR m.s m.x.nm.data.toList T.data.toList).1) 2 rfl (frs_wl _ _ _ _ _ _ _ _) h1 fun B2 h2 => snk_add D m.s m.x.nm T hn hm hc (by omega) V B2 h2)
  have H := Lib.hid h
  have gW := Gr.refl w
  have gWd : Gr w w.drew := Below.drew gW
  obtain ⟨c, hcE⟩ : ∃ c, c = (appendR m.s m.x.nm.data.toList T.data.toList).2 := ⟨_, rfl⟩
  rw [← hcE] at CA ⊢
  have HCE := Lib.hid hcE
  clear h hrw hn' hb CP0 hT hTs htb hs1 hs2 hn hm hwz hc hcE
  go_enter Tryz.func87, Tryz.ntmps87
  go_wp2_with fail
  go_region_held3 (fun w' => w'.cell? ⟨x, 3, none⟩ = some (.int .i64 m.x.size) ∧ w'.cell? ⟨x, 4, none⟩ = some (.slice aw n cw)) (first | exact ⟨by assumption, by assumption⟩ | go_keep)
      ((go_at_call 101; (with_reducible refine (CP.out _ (by assumption)).mono ?_); rintro e w5 ⟨rfl, hg5, hu3, hu4⟩))
  have h5 := stars_gr (frs_wl _ _ _ _ _ _ _ _) H.out hg5
  have hb5 := wl_blk h5
  have f4 := cells_free hb5 4
  obtain ⟨B6, h6, n6⟩ := wl_set (c' := wcells D P m.x (.slice none 0 0)) 4 (.slice none 0 0) h5 rfl
  obtain ⟨B7, h7, n7⟩ := wl_none h6
  have k0 : w5.cell? ⟨x, 0, none⟩ = some (.pointer (some ⟨D, 0, none⟩)) := by rw [cells_at hb5]; rfl
  have k1 : w5.cell? ⟨x, 1, none⟩ = some (.string m.x.nm) := by rw [cells_at hb5]; rfl
  obtain ⟨V, hV⟩ : ∃ V, V = w5.setCell ⟨x, 4, none⟩ (.slice none 0 0) := ⟨_, rfl⟩
  rw [← hV] at h7 n6 n7
  have CA1 := Lib.hid (CA.out V B7 h7)
  have N7 := Lib.hid (((Nx.gr (B := B) hg5).trans n6).trans n7)
  have HV := Lib.hid hV
  clear h5 h6 h7 n6 n7 hb5 hg5 CP gW gWd hV CA hu3
  go_wp2_with fail
  rw [← HV.out]
  refine CA1.out.mono ?_; rintro e w8 hd
  obtain ⟨rfl, B8, h8, n8⟩ := hd
  have H8 := Lib.hid h8
  have N8 := Lib.hid (N7.out.trans n8)
  clear h8 n8 CA1
  go_wp2_with fail
  go_ret
  exact ⟨rfl, B8, ⟨_, H8.out⟩, N8.out⟩
theorem Nx.fewer {B B' B2 : Nat → Prop} {w w' : World} (h : Nx B w B' w') (k : ∀ b, B2 b → B' b) : Nx B w B2 w' := ⟨h.only, fun b hb => h.new b (k b hb)⟩
theorem wl_shut1 {x D P : Nat} {s : St} {b : Bu} {y : Ws} {vw : Value} {wait : List ByteArray} {w : World} {B : Nat → Prop} {n : Int} (hn : n = y.all.length) (h : stars (wl x D P s b (wshut n) vw wait) w B) : ∃ B', W3 x D P ⟨s, b, { y with opn := false }⟩ w B' ∧ ∀ b, B' b → B b := by
  obtain ⟨C1, C2, p, ⟨C3, C4, q, r, a2, e2⟩, a, e⟩ := h
  refine ⟨fun b => C1 b ∨ C4 b, ⟨C1, C4, .inr ⟨rfl, ?_⟩, r, fun b h1 h4 => a b h1 ((e2 b).2 (.inr h4)), fun _ => Iff.rfl⟩, fun b hb => ?_⟩
  · rw [hn] at p; exact p
  · rcases hb with hb | hb
    · exact (e b).2 (.inl hb)
    · exact (e b).2 (.inr ((e2 b).2 (.inr hb)))
/-- An open one whose seven cells are written is shut. -/
theorem wl_shut {x D P : Nat} {s : St} {b : Bu} {y : Ws} {vw : Value} {wait : List ByteArray} {w : World} {B : Nat → Prop} (n : Int) (hn : n = y.all.length) (h : stars (wl x D P s b (wcells D P y vw) vw wait) w B) :
    ∃ B', W3 x D P ⟨s, b, { y with opn := false }⟩ (((((((w.setCell ⟨x, 0, none⟩ (.pointer none)).setCell ⟨x, 1, none⟩ (.string ⟨#[]⟩)).setCell ⟨x, 2, none⟩ (.pointer none)).setCell ⟨x, 3, none⟩ (.int .i64 0)).setCell ⟨x, 4, none⟩ (.slice none 0 0)).setCell ⟨x, 5, none⟩ (.int .i64 n)).setCell ⟨x, 6, none⟩ (.int .u32 0)) B' ∧
      Nx B w B' (((((((w.setCell ⟨x, 0, none⟩ (.pointer none)).setCell ⟨x, 1, none⟩ (.string ⟨#[]⟩)).setCell ⟨x, 2, none⟩ (.pointer none)).setCell ⟨x, 3, none⟩ (.int .i64 0)).setCell ⟨x, 4, none⟩ (.slice none 0 0)).setCell ⟨x, 5, none⟩ (.int .i64 n)).setCell ⟨x, 6, none⟩ (.int .u32 0)) := by
  obtain ⟨B0, h0, n0⟩ := wl_set (c' := #[.pointer none, .string y.nm, .pointer (some ⟨P, 0, none⟩), .int .i64 y.size, vw, .int .i64 y.all.length, .int .u32 (sumN y.all : Nat)]) 0 (.pointer none) h rfl
  generalize w.setCell ⟨x, 0, none⟩ (.pointer none) = w0 at h0 n0 ⊢
  obtain ⟨B1, h1, n1⟩ := wl_set (c' := #[.pointer none, .string ⟨#[]⟩, .pointer (some ⟨P, 0, none⟩), .int .i64 y.size, vw, .int .i64 y.all.length, .int .u32 (sumN y.all : Nat)]) 1 (.string ⟨#[]⟩) h0 rfl
  generalize w0.setCell ⟨x, 1, none⟩ (.string ⟨#[]⟩) = w1 at h1 n1 ⊢
  obtain ⟨B2, h2, n2⟩ := wl_set (c' := #[.pointer none, .string ⟨#[]⟩, .pointer none, .int .i64 y.size, vw, .int .i64 y.all.length, .int .u32 (sumN y.all : Nat)]) 2 (.pointer none) h1 rfl
  generalize w1.setCell ⟨x, 2, none⟩ (.pointer none) = w2 at h2 n2 ⊢
  obtain ⟨B3, h3, n3⟩ := wl_set (c' := #[.pointer none, .string ⟨#[]⟩, .pointer none, .int .i64 0, vw, .int .i64 y.all.length, .int .u32 (sumN y.all : Nat)]) 3 (.int .i64 0) h2 rfl
  generalize w2.setCell ⟨x, 3, none⟩ (.int .i64 0) = w3 at h3 n3 ⊢
  obtain ⟨B4, h4, n4⟩ := wl_set (c' := #[.pointer none, .string ⟨#[]⟩, .pointer none, .int .i64 0, .slice none 0 0, .int .i64 y.all.length, .int .u32 (sumN y.all : Nat)]) 4 (.slice none 0 0) h3 rfl
  generalize w3.setCell ⟨x, 4, none⟩ (.slice none 0 0) = w4 at h4 n4 ⊢
  obtain ⟨B5, h5, n5⟩ := wl_set (c' := #[.pointer none, .string ⟨#[]⟩, .pointer none, .int .i64 0, .slice none 0 0, .int .i64 n, .int .u32 (sumN y.all : Nat)]) 5 (.int .i64 n) h4 rfl
  generalize w4.setCell ⟨x, 5, none⟩ (.int .i64 n) = w5 at h5 n5 ⊢
  obtain ⟨B6, h6, n6⟩ := wl_set (c' := wshut n) 6 (.int .u32 0) h5 rfl
  generalize w5.setCell ⟨x, 6, none⟩ (.int .u32 0) = w6 at h6 n6 ⊢
  have n7 := (((((n0.trans n1).trans n2).trans n3).trans n4).trans n5).trans n6
  obtain ⟨B', h7, k⟩ := wl_shut1 hn h6
  exact ⟨B', h7, n7.fewer k⟩
set_option maxRecDepth 20000 in
set_option maxHeartbeats 2000000 in
theorem w_drop (x D P : Nat) (m : M3) (w : World) (B : Nat → Prop) (h : W3 x D P m w B) :
    Calls Tryz.prog 27 #[.pointer (some ⟨x, 0, none⟩)] w (Does w B (W3 x D P (dropM m)) (.tuple #[])) := by
  cases ho : m.x.opn
  · have e : dropM m = m := by unfold dropM; rw [ho]; rfl
    rw [e]
    have c0 : w.cell? ⟨x, 0, none⟩ = some (.pointer none) := by rw [cells_at (w3_shut ho h)]; rfl
    have CO := Lib.hid (wopen_no x w c0)
    have H := Lib.hid h
    clear h e ho c0
    go_enter Tryz.func27, Tryz.ntmps27
    go_wp2_with fail
    refine CO.out.mono ?_; rintro e w2 ⟨rfl, rfl⟩
    go_wp2_with fail
    go_end0
    exact ⟨rfl, B, H.out, Nx.refl _ _⟩
  · have e : dropM m = ⟨m.s, m.b.give 4, { m.x with opn := false }⟩ := by unfold dropM; rw [ho]; rfl
    rw [e]
    obtain ⟨vw, h⟩ := w3_open ho h
    have hb := wl_blk h
    have hxl := lt_of_block hb
    have CO := Lib.hid (wopen_yes x ⟨D, 0, none⟩ w (by rw [cells_at hb]; rfl))
    have c2 : w.cell? ⟨x, 2, none⟩ = some (.pointer (some ⟨P, 0, none⟩)) := by rw [cells_at hb]; rfl
    have C := does_at (f := 54) (Q := BuA P (m.b.give 4)) 3 rfl (frs_wl _ _ _ _ _ _ _ _) h fun B2 h2 => bu_give P m.b 4 w B2 h2
    have HC := Lib.hid C
    clear h hb C e ho
    go_enter Tryz.func27, Tryz.ntmps27
    go_wp2_with fail
    refine CO.out.mono ?_; rintro e w2 ⟨rfl, rfl⟩
    go_wp2_with fail
    refine HC.out.mono ?_; rintro e w2 hd
    obtain ⟨rfl, B2, h2, n2⟩ := hd
    have hb := wl_blk h2
    have c5 : w2.cell? ⟨x, 5, none⟩ = some (.int .i64 m.x.all.length) := by rw [cells_at hb]; rfl
    have f0 := cells_free hb 0
    have f1 := cells_free hb 1
    have f2 := cells_free hb 2
    have f3 := cells_free hb 3
    have f4 := cells_free hb 4
    have f5 := cells_free hb 5
    have f6 := cells_free hb 6
    have b0 : w2.cell? ⟨x, 0, none⟩ = some (.pointer (some ⟨D, 0, none⟩)) := by rw [cells_at hb]; rfl
    have b1 : w2.cell? ⟨x, 1, none⟩ = some (.string m.x.nm) := by rw [cells_at hb]; rfl
    have b2 : w2.cell? ⟨x, 2, none⟩ = some (.pointer (some ⟨P, 0, none⟩)) := by rw [cells_at hb]; rfl
    have b3 : w2.cell? ⟨x, 3, none⟩ = some (.int .i64 m.x.size) := by rw [cells_at hb]; rfl
    have b4 : w2.cell? ⟨x, 4, none⟩ = some vw := by rw [cells_at hb]; rfl
    have b6 : w2.cell? ⟨x, 6, none⟩ = some (.int .u32 (sumN m.x.all : Nat)) := by rw [cells_at hb]; rfl
    have SH := Lib.hid (wl_shut (y := m.x) (x := x) (D := D) (P := P) (s := m.s) (b := m.b.give 4) (wait := m.x.wait) m.x.all.length rfl h2)
    have N2 := Lib.hid n2
    clear h2 n2 hb HC
    go_wp2_with fail
    go_end0
    obtain ⟨B3, h3, n3⟩ := SH.out
    exact ⟨rfl, B3, h3, N2.out.trans n3⟩
end Go.Proofs.YtpmglnghnelenaaGreat

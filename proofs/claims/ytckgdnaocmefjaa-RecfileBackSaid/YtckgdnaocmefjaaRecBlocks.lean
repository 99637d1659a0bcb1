/- The iterator of a file's blocks; what stands behind a head. -/
import Derived.Test.YtckgdnaocmefjaaRecPlain2
import Derived.Test.YtckgdnaocmefjaaRecLay
namespace Go.Proofs.Ytckgdnaocmefjaa
open Go.RowKit Go.Shelf CrcPlain OctPlain FramePlain RecPlain
set_option linter.unusedVariables false
set_option linter.unusedSimpArgs false
attribute [local go_sem] Oper.semAt_some
theorem blocks_c (size : Int) (s : ByteArray) (w : World) :
    Calls Try.prog 31 #[.int .i64 size, .string s] w fun e w' => e = .returned (.func (.func 50) #[] #[.pointer (some ⟨w.heap.size + 1, 0, none⟩), .pointer (some ⟨w.heap.size, 0, none⟩)]) ∧
      w' = (w.alloc (.cells #[.int .i64 size] 3)).alloc (.cells #[.string s] 9) := by
  have hmf : ∀ (fn : Fn) (first cap : Array Value) (w : World), (Instr.makeFunc fn first cap).run Try.prog w = .ok (.func fn first cap) w := fun _ _ _ _ => rfl
  go_enter Try.func31, Try.ntmps31
  go_wp2_with fail
  go_ret
  exact ⟨rfl, rfl⟩
/-- What is handed out at once: a block's records, as a slice that holds them, and what stands behind it. -/
abbrev Piece := Value × List ByteArray × ByteArray
def pcs (pre : List Piece) : List (List ByteArray) := pre.map (·.2.1)
def BlkPr (size : Int) (s : ByteArray) (pre : List Piece) (x : Piece) (W : World) : Prop :=
  Lies W x.1 x.2.1 ∧ blkB size x.2.1 = true ∧ s.data.toList = blks (pcs pre ++ [x.2.1]) ++ x.2.2.data.toList
def BlkKeep (Bs Bz : Nat) (W W' : World) : Prop := W.heap.size ≤ W'.heap.size ∧ W'.heap[Bs]? = W.heap[Bs]? ∧ W'.heap[Bz]? = W.heap[Bz]?
def BlkS (size : Int) (s : ByteArray) (xs : List Piece) : Prop := ∃ r : ByteArray, s.data.toList = blks (pcs xs) ++ r.data.toList ∧ gB size r = false
def BlkAt (size : Int) (s : ByteArray) (Bs Bz : Nat) (J : List Piece → World → Prop) (i : Value) (wr : World) : Prop :=
  ∃ (pre : List Piece) (r : ByteArray), i = .string r ∧ J pre wr ∧ s.data.toList = blks (pcs pre) ++ r.data.toList ∧ r.size ≤ s.size ∧ wr.heap[Bs]? = some (.cells #[.string s] 9 (0, 0)) ∧ wr.heap[Bz]? = some (.cells #[.int .i64 size] 3 (0, 0))
def strLen : Value → Nat
  | .string s => s.size
  | _ => 0
theorem cut_run (s : ByteArray) (n : Nat) (h : n ≤ s.size) (w : World) :
    (Instr.slice 9 (.string s) (some (.int .i64 (n : Int))) none none).run Try.prog w = .ok (.string (s.extract n s.size)) w := by
  rw [run_slice_string_from_if w 9 s .i64 (n : Int) Try.underlying9, if_pos ⟨by omega, by omega⟩, Int.toNat_natCast]
set_option maxRecDepth 100000 in
set_option maxHeartbeats 2000000 in
theorem blocks1_c (m : Nat) (hm : 1 ≤ m) (l : Nat) (size : Int) (hk : I64 size) (s : ByteArray) (hs : s.size ≤ 100000) (Bs Bz : Nat) (J Jx : List Piece → World → Prop) (hJ : ∀ s A B, J s A → Gr A B → J s B)
    (hY : ∀ pre x W1, J pre W1 → BlkPr size s pre x W1 → YieldAt Fence.wide (m - 1) Try.prog l #[x.1, .string x.2.2] W1 fun e W' =>
      (e = .returned (.bool true) ∧ J (pre ++ [x]) W' ∧ BlkKeep Bs Bz W1 W') ∨ (e = .returned (.bool false) ∧ Jx (pre ++ [x]) W'))
    (W : World) (h1 : W.heap[Bs]? = some (.cells #[.string s] 9 (0, 0))) (h2 : W.heap[Bz]? = some (.cells #[.int .i64 size] 3 (0, 0))) (h0 : J [] W) :
    CallsIn Fence.wide m Try.prog 50 #[.func (.yield l) #[] #[], .pointer (some ⟨Bs, 0, none⟩), .pointer (some ⟨Bz, 0, none⟩)] W fun e W' => (∃ v, e = .returned v) ∧
      ((∃ xs, BlkS size s xs ∧ J xs W') ∨ (∃ pre, True ∧ Jx pre W')) := by
  have c0 : W.cell? ⟨Bs, 0, none⟩ = some (.string s) := by simp [World.cell?, h1]
  have HH1 := Lib.hid h1
  have HH2 := Lib.hid h2
  have HJ := Lib.hid hJ
  have HY := Lib.hid hY
  have H0 := Lib.hid h0
  clear h1 h2 hJ hY h0
  refine callsIn_of_wp Try.func50 rfl trivial ?_ rfl
  simp only [Try.ntmps50, List.size_toArray, List.length_cons, List.length_nil, Nat.reduceAdd, Nat.reduceSub, Array.replicate_succ, Array.replicate_zero, List.push_toArray, List.append_toArray, List.nil_append, List.cons_append]
  gi_wp2
  gi_loopw [4] (fun i wr => BlkAt size s Bs Bz J i wr) (fun i _ => strLen i)
  case atStart => exact ⟨[], s, rfl, H0.out, by simp [pcs, blks_nil], Nat.le_refl _, HH1.out, HH2.out⟩
  case round =>
    obtain ⟨pre, r, rfl, hj, hsr, hrs, b1, b2⟩ := hrel
    have cz : wr.cell? ⟨Bz, 0, none⟩ = some (.int .i64 size) := by simp [World.cell?, b2]
    have G := fget_c r size hk wr (by omega)
    have HB1 := Lib.hid b1
    have HB2 := Lib.hid b2
    have HSR := Lib.hid hsr
    have HJJ := Lib.hid hj
    clear b1 b2 hsr hj c0
    cases hg : gB size r
    · have HG := Lib.hid hg
      clear hg
      gi_wp2
      refine ⟨trivial, (callsIn_wide.2 G).mono ?_⟩
      rintro e u ⟨v, rfl, o, g⟩
      rw [HG.out]
      have HO := Lib.hid o
      clear o
      gi_wp2
      refine bodyPost_ret (results_none rfl _ _ _) rfl ?_
      exact ⟨⟨_, rfl⟩, .inl ⟨pre, ⟨r, HSR.out, HG.out⟩, HJ.out _ _ _ HJJ.out g⟩⟩
    · obtain ⟨n, hn, hn1, hn6, hsp⟩ := get_split hg
      have hblk := (get_is hg).1
      have hcut := cut_run r n hn1
      have HG := Lib.hid hg
      have HBK := Lib.hid hblk
      have HSP := Lib.hid hsp
      have hsz : (r.extract n r.size).size = r.size - n := by rw [ByteArray.size_extract]; omega
      have HSZ := Lib.hid hsz
      have HN := Lib.hid hn
      clear hg hblk hsp hsz hn
      gi_wp2
      refine ⟨trivial, (callsIn_wide.2 G).mono ?_⟩
      rintro e u ⟨v, rfl, o, g⟩
      rw [HG.out, HN.out]
      obtain ⟨r2, hr2⟩ : ∃ r2, r2 = r.extract n r.size := ⟨_, rfl⟩
      rw [← hr2] at hcut HSP HSZ
      have hcat : s.data.toList = blks (pcs pre ++ [gL size r]) ++ r2.data.toList := by
        rw [HSR.out, HSP.out, blks_app]
        simp [blks, List.append_assoc]
      obtain ⟨fn, tmps, assign, body, hy, hR⟩ := HY.out pre (v, gL size r, r2) u (HJ.out _ _ _ HJJ.out g) ⟨lies_own o, HBK.out, hcat⟩
      dsimp only at hy
      have HC := Lib.hid hcat
      clear hr2 hcat o
      gi_wp2
      refine hR.mono ?_
      rintro e2 W3 (⟨rfl, hJ3, hk3⟩ | ⟨rfl, hJx3⟩)
      · have s3 : W3.heap[Bs]? = some (.cells #[.string s] 9 (0, 0)) := hk3.2.1.trans (blk_gr HB1.out g)
        have s4 : W3.heap[Bz]? = some (.cells #[.int .i64 size] 3 (0, 0)) := hk3.2.2.trans (blk_gr HB2.out g)
        have S3 := Lib.hid s3
        have S4 := Lib.hid s4
        have J3 := Lib.hid hJ3
        clear s3 s4 hk3 hJ3
        gi_wp2
        go_roundw
        case rel => exact ⟨pre ++ [(v, gL size r, r2)], r2, rfl, J3.out, by rw [HC.out]; simp [pcs], by have := HSZ.out; omega, S3.out, S4.out⟩
        case measure => have := HSZ.out; simp [strLen]; omega
      · gi_wp2
        refine bodyPost_ret (results_none rfl _ _ _) rfl ?_
        exact ⟨⟨_, rfl⟩, .inr ⟨_, trivial, hJx3⟩⟩
/-- The iterator's word. -/
theorem blocks_told {n : Nat} (hn1 : 1 ≤ n) {w : World} {Bs Bz : Nat} {size : Int} (hk : I64 size) {s : ByteArray} (hs : s.size ≤ 100000)
    (h1 : w.heap[Bs]? = some (.cells #[.string s] 9 (0, 0))) (h2 : w.heap[Bz]? = some (.cells #[.int .i64 size] 3 (0, 0))) :
    SeqTold n Try.prog 50 #[.pointer (some ⟨Bs, 0, none⟩), .pointer (some ⟨Bz, 0, none⟩)] (fun x : Piece => #[x.1, .string x.2.2]) (BlkPr size s) (BlkKeep Bs Bz)
      (BlkS size s) (fun _ => True) w := by
  intro l J Jx W hW hJ hY h0
  exact blocks1_c n hn1 l size hk s hs Bs Bz J Jx hJ hY W (blk_gr h1 hW) (blk_gr h2 hW) h0
/-- Does s begin with p? -/
def preB (s p : ByteArray) : Bool := decide (p.size ≤ s.size ∧ s.extract 0 p.size = p)
theorem hasprefix_c (s p : ByteArray) (w : World) :
    Calls Try.prog 70 #[.string s, .string p] w fun e w' => e = .returned (.bool (preB s p)) ∧ w = w' := by
  by_cases h : p.size ≤ s.size
  · have hsl := slice_to s p.size h
    have ht : ((s.extract 0 p.size).toList == p.toList) = preB s p := by
      rw [eq_list]; unfold preB
      exact decide_eq_decide.2 ⟨fun h2 => ⟨h, h2⟩, fun h2 => h2.2⟩
    have d1 : (p.size : Int) ≤ (s.size : Int) := by omega
    clear h
    go_enter Try.func70, Try.ntmps70
    go_wp2_with fail
    go_ret
    exact ⟨rfl, rfl⟩
  · have hb : preB s p = false := by unfold preB; rw [decide_eq_false_iff_not]; exact fun h2 => h h2.1
    have HB := Lib.hid hb
    have d1 : ¬ (p.size : Int) ≤ (s.size : Int) := by omega
    clear h hb
    go_enter Try.func70, Try.ntmps70
    go_wp2_with fail
    go_ret
    exact ⟨retb HB.out.symm, rfl⟩
def cutS (s p : ByteArray) : ByteArray := if preB s p = true then s.extract p.size s.size else s
theorem cutprefix_c (s p : ByteArray) (w : World) :
    Calls Try.prog 49 #[.string s, .string p] w fun e w' => e = .returned (.tuple #[.string (cutS s p), .bool (preB s p)]) ∧ w = w' := by
  have inner : ∀ w, Calls Try.prog 68 #[.string s, .string p] w fun e w' => e = .returned (.tuple #[.string (cutS s p), .bool (preB s p)]) ∧ w = w' := by
    intro w
    have P := fun w => hasprefix_c s p w
    cases hb : preB s p
    · have HC := Lib.hid (show cutS s p = s by unfold cutS; rw [hb]; rfl)
      rw [hb] at P
      clear hb
      go_enter Try.func68, Try.ntmps68
      go_wp2_with fail
      refine (P _).mono ?_; rintro e u ⟨rfl, rfl⟩
      go_wp2_with fail
      go_ret2
      exact ⟨ret_sb HC.out.symm rfl, rfl⟩
    · have HC := Lib.hid (show cutS s p = s.extract p.size s.size by unfold cutS; rw [if_pos hb])
      rw [hb] at P
      have hcut := cut_run s p.size (by unfold preB at hb; rw [decide_eq_true_iff] at hb; exact hb.1)
      clear hb
      go_enter Try.func68, Try.ntmps68
      go_wp2_with fail
      refine (P _).mono ?_; rintro e u ⟨rfl, rfl⟩
      go_wp2_with fail
      go_ret2
      exact ⟨ret_sb HC.out.symm rfl, rfl⟩
  have I := Lib.hid inner
  clear inner
  go_enter Try.func49, Try.ntmps49
  go_wp2_with fail
  refine (I.out _).mono ?_; rintro e u ⟨rfl, rfl⟩
  go_wp2_with fail
  go_ret2
  exact ⟨rfl, rfl⟩
/-- Does s begin with the head of that size? -/
def bhB (size : Int) (s : ByteArray) : Bool := sizeB size && preB s (headS size)
def bhS (size : Int) (s : ByteArray) : ByteArray := if sizeB size = true then cutS s (headS size) else ⟨#[]⟩
theorem behind_c (size : Int) (hk : I64 size) (s : ByteArray) (w : World) :
    Calls Try.prog 30 #[.int .i64 size, .string s] w fun e w' => e = .returned (.tuple #[.string (bhS size s), .bool (bhB size s)]) ∧ Gr w w' := by
  have P := fun w => puthead_c size hk w
  cases hs : sizeB size
  · rw [hs] at P
    have HS := Lib.hid (show bhS size s = ⟨#[]⟩ by unfold bhS; rw [hs]; rfl)
    have HB := Lib.hid (show bhB size s = false by unfold bhB; rw [hs]; rfl)
    clear hs
    go_enter Try.func30, Try.ntmps30
    go_wp2_with fail
    refine (P _).mono ?_; rintro e u ⟨rfl, g⟩
    go_wp2_with fail
    go_ret2
    exact ⟨ret_sb HS.out.symm HB.out.symm, g⟩
  · rw [hs, headR_yes hs] at P
    have HS := Lib.hid (show bhS size s = cutS s (headS size) by unfold bhS; rw [if_pos hs])
    have HB := Lib.hid (show bhB size s = preB s (headS size) by unfold bhB; rw [hs]; rfl)
    clear hs
    generalize headS size = H at P HS HB
    go_enter Try.func30, Try.ntmps30
    go_wp2_with fail
    refine (P _).mono ?_; rintro e u ⟨rfl, g⟩
    go_wp2_with fail
    refine (cutprefix_c s H _).mono ?_; rintro e u2 ⟨rfl, rfl⟩
    go_wp2_with fail
    go_ret2
    exact ⟨ret_sb HS.out.symm HB.out.symm, g⟩
end Go.Proofs.Ytckgdnaocmefjaa

/- slices.Chunk of a slice of strings, by fours: its call, and its iterator. -/
import Derived.Test.YtckgdnaocmefjaaRecSum
import Derived.Test.YtckgdnaocmefjaaTold
import Derived.RangeFuncNested
import Derived.RangeFuncBound
import Derived.RangeFuncCalls
import Derived.RangeFuncLeaves
import Derived.Shelf.Abstract
import Derived.Shelf.RegionOpen
import Derived.OwnWalkIn
import Derived.TacticsInMore
import Derived.LoopNIn
import Derived.LoopIn
namespace Go.Proofs.Ytckgdnaocmefjaa
open Go.RowKit Go.Shelf CrcPlain OctPlain FramePlain RecPlain
set_option linter.unusedVariables false
set_option linter.unusedSimpArgs false
attribute [local go_sem] Oper.semAt_some
theorem chunk_c (a : Option Addr) (n c : Nat) (w : World) :
    Calls Try.prog 23 #[.slice a n c, .int .i64 4] w fun e w' => e = .returned (.func (.func 43) #[] #[.pointer (some ⟨w.heap.size, 0, none⟩), .pointer (some ⟨w.heap.size + 1, 0, none⟩)]) ∧
      w' = (w.alloc (.cells #[.slice a n c] 22)).alloc (.cells #[.int .i64 4] 3) := by
  have hmf : ∀ (fn : Fn) (first cap : Array Value) (w : World), (Instr.makeFunc fn first cap).run Try.prog w = .ok (.func fn first cap) w := fun _ _ _ _ => rfl
  go_enter Try.func23, Try.ntmps23
  go_wp2_with fail
  go_ret
  exact ⟨rfl, rfl⟩
/-- The j-th four of a slice, as a slice. -/
def fourV (b off n j : Nat) : Value := .slice (some ⟨b, off + 4 * j, none⟩) (min 4 (n - 4 * j)) (min 4 (n - 4 * j))
theorem addr_add (b off j : Nat) : Addr.add ⟨b, off, none⟩ j = ⟨b, off + j, none⟩ := by by_cases h : j = 0 <;> simp [Addr.add, h]
theorem from_run (b off n c i : Nat) (h1 : i < n) (h2 : n ≤ c) (w : World) :
    (Instr.slice 22 (.slice (some ⟨b, off, none⟩) n c) (some (.int .i64 (i : Int))) none none).run Try.prog w = .ok (.slice (some ⟨b, off + i, none⟩) (n - i) (c - i)) w := by
  have hne : c ≠ i := by omega
  have h3 : (i : Int) ≤ (n : Int) := by omega
  have h4 : i ≤ n := by omega
  simp [Instr.slice, Instr.sliceBounds, run_underlying Try.underlying22, run_underlying Try.underlying9, go_sem, sliced, hne, h3, h4, addr_add, show Try.prog.cellsOf 9 = 1 by kernel_rfl]
theorem full_run (b off n c i e : Nat) (h1 : 1 ≤ e) (h2 : i + e ≤ n) (h3 : n ≤ c) (w : World) :
    (Instr.slice 22 (.slice (some ⟨b, off, none⟩) n c) (some (.int .i64 (i : Int))) (some (.int .i64 ((i : Int) + (e : Int)))) (some (.int .i64 ((i : Int) + (e : Int))))).run Try.prog w = .ok (.slice (some ⟨b, off + i, none⟩) e e) w := by
  have hne : i + e ≠ i := by omega
  have k1 : (i : Int) + (e : Int) ≤ (c : Int) := by omega
  have k2 : (i : Int) ≤ (i : Int) + (e : Int) := by omega
  have k3 : ((i : Int) + (e : Int)).toNat = i + e := by omega
  have k4 : (0 : Int) ≤ (i : Int) + (e : Int) := by omega
  simp [Instr.slice, Instr.sliceBounds, run_underlying Try.underlying22, run_underlying Try.underlying9, go_sem, sliced, hne, k1, k2, k3, k4, addr_add, show ¬ e = 0 by omega, show Try.prog.cellsOf 9 = 1 by kernel_rfl]
/-- What the iterator reads between two rounds. -/
def ChunkKeep (Bs Bn : Nat) (W W' : World) : Prop := W.heap.size ≤ W'.heap.size ∧ W'.heap[Bs]? = W.heap[Bs]? ∧ W'.heap[Bn]? = W.heap[Bn]?
def ChunkAt (a : Option Addr) (n c Bs Bn : Nat) (J : List Nat → World → Prop) (i : Value) (wr : World) : Prop :=
  ∃ k : Nat, 4 * k ≤ n + 3 ∧ i = .int .i64 ((4 * k : Nat) : Int) ∧ J (List.range k) wr ∧ wr.heap[Bs]? = some (.cells #[.slice a n c] 22 (0, 0)) ∧ wr.heap[Bn]? = some (.cells #[.int .i64 4] 3 (0, 0))
set_option maxRecDepth 100000 in
set_option maxHeartbeats 2000000 in
theorem chunk1_c (m : Nat) (hm : 1 ≤ m) (l b off n c Bs Bn : Nat) (hn : n ≤ 1000000) (hnc : n ≤ c) (J Jx : List Nat → World → Prop) (hJ : ∀ s A B, J s A → Gr A B → J s B)
    (hY : ∀ pre x W1, J pre W1 → (pre = List.range x ∧ 4 * x < n) → YieldAt Fence.wide (m - 1) Try.prog l #[fourV b off n x] W1 fun e W' =>
      (e = .returned (.bool true) ∧ J (pre ++ [x]) W' ∧ ChunkKeep Bs Bn W1 W') ∨ (e = .returned (.bool false) ∧ Jx (pre ++ [x]) W'))
    (W : World) (hs : W.heap[Bs]? = some (.cells #[.slice (some ⟨b, off, none⟩) n c] 22 (0, 0))) (h4 : W.heap[Bn]? = some (.cells #[.int .i64 4] 3 (0, 0))) (h0 : J [] W) :
    CallsIn Fence.wide m Try.prog 43 #[.func (.yield l) #[] #[], .pointer (some ⟨Bs, 0, none⟩), .pointer (some ⟨Bn, 0, none⟩)] W fun e W' => (∃ v, e = .returned v) ∧
      ((∃ xs, xs = List.range ((n + 3) / 4) ∧ J xs W') ∨ (∃ pre, (∃ k, k ≤ (n + 3) / 4 ∧ pre = List.range k) ∧ Jx pre W')) := by
  refine callsIn_of_wp Try.func43 rfl trivial ?_ rfl
  simp only [Try.ntmps43, List.size_toArray, List.length_cons, List.length_nil, Nat.reduceAdd, Nat.reduceSub, Array.replicate_succ, Array.replicate_zero, List.push_toArray, List.append_toArray, List.nil_append, List.cons_append]
  gi_wp2
  gi_loopw [4] (fun i wr => ChunkAt (some ⟨b, off, none⟩) n c Bs Bn J i wr) (fun i _ => n + 3 - (intOf i).toNat)
  case atStart => exact ⟨0, by omega, rfl, h0, hs, h4⟩
  case round =>
    clear h0 hs h4
    obtain ⟨k, hk, rfl, hj, hs, h4⟩ := hrel
    have c1 : wr.cell? ⟨Bs, 0, none⟩ = some (.slice (some ⟨b, off, none⟩) n c) := by simp [World.cell?, hs]
    have c2 : wr.cell? ⟨Bn, 0, none⟩ = some (.int .i64 4) := by simp [World.cell?, h4]
    obtain ⟨i, hi⟩ : ∃ i, i = 4 * k := ⟨_, rfl⟩
    rw [← hi] at hk ⊢
    have HI := Lib.hid hi
    have HS := Lib.hid hs
    have H4 := Lib.hid h4
    clear hs h4 hi
    by_cases hlt : i < n
    · have hr1 := from_run b off n c i hlt hnc
      obtain ⟨e, he⟩ : ∃ e, e = min 4 (n - i) := ⟨_, rfl⟩
      have he1 : 1 ≤ e ∧ i + e ≤ n := by omega
      have hr2 := full_run b off n c i e he1.1 he1.2 hnc
      have hmin : min (4 : Int) ((n - i : Nat) : Int) = (e : Int) := by omega
      have hv : fourV b off n k = .slice (some ⟨b, off + i, none⟩) e e := by unfold fourV; rw [HI.out] at *; rw [← he]
      have HE := Lib.hid he
      obtain ⟨fn, tmps, assign, body, hy, hR⟩ := hY _ k wr.drew (hJ _ _ _ hj (Gr.refl wr).drew) ⟨rfl, by have := HI.out; omega⟩
      rw [hv] at hy
      have HJ := Lib.hid hJ
      clear he hv hY hJ hj
      gi_wp2
      gi_region
      gi_wp2
      refine hR.mono ?_
      rintro e2 W3 (⟨rfl, hJ3, hk3⟩ | ⟨rfl, hJx3⟩)
      · have s3 : W3.heap[Bs]? = some (.cells #[.slice (some ⟨b, off, none⟩) n c] 22 (0, 0)) := hk3.2.1.trans HS.out
        have s4 : W3.heap[Bn]? = some (.cells #[.int .i64 4] 3 (0, 0)) := hk3.2.2.trans H4.out
        have c3 : W3.cell? ⟨Bn, 0, none⟩ = some (.int .i64 4) := by simp [World.cell?, s4]
        have S3 := Lib.hid s3
        have S4 := Lib.hid s4
        have J3 := Lib.hid hJ3
        clear s3 s4 hk3 hJ3
        gi_wp2
        go_roundw
        case rel =>
          refine ⟨k + 1, by have := HI.out; omega, by have := HI.out; congr 1; omega, ?_, S3.out, S4.out⟩
          rw [List.range_succ]; exact J3.out
        case measure => simp [intOf]; omega
      · gi_wp2
        refine bodyPost_ret (results_none rfl _ _ _) rfl ?_
        refine ⟨⟨_, rfl⟩, .inr ⟨_, ⟨k + 1, by have := HI.out; omega, ?_⟩, hJx3⟩⟩
        rw [List.range_succ]
    · have hq : (n + 3) / 4 = k := by have := HI.out; omega
      have HQ := Lib.hid hq
      clear hq hY hJ
      gi_wp2
      go_end0
      exact ⟨⟨_, rfl⟩, .inl ⟨_, by rw [HQ.out], hj⟩⟩
/-- .. of a slice that has nothing. -/
theorem chunk1_none (m : Nat) (l : Nat) (a : Option Addr) (c Bs Bn : Nat) (J : List Nat → World → Prop)
    (W : World) (hs : W.heap[Bs]? = some (.cells #[.slice a 0 c] 22 (0, 0))) (h0 : J [] W) :
    CallsIn Fence.wide m Try.prog 43 #[.func (.yield l) #[] #[], .pointer (some ⟨Bs, 0, none⟩), .pointer (some ⟨Bn, 0, none⟩)] W fun e W' => (∃ v, e = .returned v) ∧ J [] W' := by
  have c1 : W.cell? ⟨Bs, 0, none⟩ = some (.slice a 0 c) := by simp [World.cell?, hs]
  clear hs
  refine callsIn_of_wp Try.func43 rfl trivial ?_ rfl
  simp only [Try.ntmps43, List.size_toArray, List.length_cons, List.length_nil, Nat.reduceAdd, Nat.reduceSub, Array.replicate_succ, Array.replicate_zero, List.push_toArray, List.append_toArray, List.nil_append, List.cons_append]
  gi_wp2
  gi_loopw [4] (fun i wr => i = .int .i64 0 ∧ wr = W) (fun _ _ => 0)
  case atStart => exact ⟨rfl, rfl⟩
  case round =>
    obtain ⟨rfl, rfl⟩ := hrel
    gi_wp2
    go_end0
    exact ⟨⟨_, rfl⟩, h0⟩
/-- The iterator's word. -/
theorem chunk_told {n : Nat} (hn1 : 1 ≤ n) {w : World} {b off c Bs Bn : Nat} {L : List ByteArray} {a : Option Addr} (hL : L = [] ∨ a = some ⟨b, off, none⟩) (hl : L.length ≤ 1000000) (hc : L.length ≤ c)
    (hs : w.heap[Bs]? = some (.cells #[.slice a L.length c] 22 (0, 0))) (h4 : w.heap[Bn]? = some (.cells #[.int .i64 4] 3 (0, 0))) :
    SeqTold n Try.prog 43 #[.pointer (some ⟨Bs, 0, none⟩), .pointer (some ⟨Bn, 0, none⟩)] (fun j => #[fourV b off L.length j]) (fun pre j _ => pre = List.range j ∧ 4 * j < L.length) (ChunkKeep Bs Bn)
      (fun xs => xs = List.range (cnt4 L)) (fun pre => ∃ k, k ≤ cnt4 L ∧ pre = List.range k) w := by
  intro l J Jx W hW hJ hY h0
  have hs' := blk_gr hs hW
  have h4' := blk_gr h4 hW
  rcases hL with rfl | rfl
  · refine (chunk1_none n l a c Bs Bn J W hs' h0).mono ?_
    rintro e W' ⟨he, hj⟩
    exact ⟨he, .inl ⟨[], rfl, hj⟩⟩
  · exact chunk1_c n hn1 l b off L.length c Bs Bn hl hc J Jx hJ hY W hs' h4' h0
end Go.Proofs.Ytckgdnaocmefjaa

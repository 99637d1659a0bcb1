/- In one text: FsCall, FsFind. -/
import Derived.Test.YtckmciafonnohaaP02
import Derived.Test.YtckmciafonnohaaP01
import Derived.WalkSpells
import Derived.Deep.QuietTactic
import Derived.BigQuiet
/- Contracts of made, call, letter and Right: by walks of their texts. -/
namespace Go.Proofs.Ytckmciafonnohaa
open Go.RowKit FsPlain
set_option linter.unusedVariables false
set_option linter.unusedSimpArgs false
set_option maxRecDepth 20000

theorem made_c (p m : Nat) (s : St) (w : World) (h : w.heap[p]? = some (.cells (dcells s m) 44 (0, 0))) :
    Calls Try.prog 14 #[.pointer (some ⟨p, 0, none⟩)] w fun e w' => e = .returned (.bool true) ∧ w = w' := by
  have c1 : w.cell? ⟨p, 1, none⟩ = some (.map (some m)) := by rw [cells_at h]; rfl
  have nm := run_neq_map_nil (P := Try.prog) w 42 _ _ (some m) Try.underlying42
  clear h
  go_enter Try.func14, Try.ntmps14
  go_wp2_with fail
  go_ret
  exact ⟨rfl, rfl⟩

/-- The disk's block behind a call. -/
def Called (p m : Nat) (s : St) (w w' : World) : Prop := w'.heap[p]? = some (.cells (dcells s.call m) 44 (0, 0)) ∧ Only (fun i => i = p) w w'

theorem call_no (p m : Nat) (s : St) (w : World) :
    Calls Try.prog 51 #[.pointer (some ⟨p, 0, none⟩), .bool false] w fun e w' => e = .returned (.int .i64 1) ∧ w = w' := by
  go_enter Try.func51, Try.ntmps51
  go_wp2_with fail
  go_ret
  exact ⟨rfl, rfl⟩

theorem called_of {p m : Nat} {s : St} {w : World} (h : w.heap[p]? = some (.cells (dcells s m) 44 (0, 0))) {c a : Int} {d : Bool} (hc : c = s.calls + 1) (ha : a = max (s.ahead - 1) (-1)) (hd : d = (s.down || decide (s.ahead = 0))) :
    Called p m s w (((w.setCell ⟨p, 2, none⟩ (.int .i64 c)).setCell ⟨p, 4, none⟩ (.bool d)).setCell ⟨p, 3, none⟩ (.int .i64 a)) := by
  subst hc ha hd
  refine ⟨?_, ?_⟩
  · rw [cells_set (cells_set (cells_set h 2 _) 4 _) 3 _]; rfl
  · exact ((Only.cell1 _ _ _ _).trans (Only.cell1 _ _ _ _)).trans (Only.cell1 _ _ _ _)
theorem called_of2 {p m : Nat} {s : St} {w : World} (h : w.heap[p]? = some (.cells (dcells s m) 44 (0, 0))) {c a : Int} (hc : c = s.calls + 1) (ha : a = max (s.ahead - 1) (-1)) (hd : s.ahead ≠ 0) :
    Called p m s w ((w.setCell ⟨p, 2, none⟩ (.int .i64 c)).setCell ⟨p, 3, none⟩ (.int .i64 a)) := by
  subst hc ha
  refine ⟨?_, ?_⟩
  · rw [cells_set (cells_set h 2 _) 3 _]
    unfold dcells St.call
    simp [hd]
  · exact (Only.cell1 _ _ _ _).trans (Only.cell1 _ _ _ _)

set_option maxRecDepth 20000 in
set_option maxHeartbeats 1000000 in
theorem call_yes (p m : Nat) (s : St) (w : World) (h : w.heap[p]? = some (.cells (dcells s m) 44 (0, 0))) (h0 : 0 ≤ s.calls) (h1 : s.calls ≤ 1000000000000) (a0 : -1 ≤ s.ahead) (a1 : s.ahead ≤ 9223372036854775807) :
    Calls Try.prog 51 #[.pointer (some ⟨p, 0, none⟩), .bool true] w fun e w' => e = .returned (.int .i64 s.call.code) ∧ Called p m s w w' := by
  have c1 : w.cell? ⟨p, 1, none⟩ = some (.map (some m)) := by rw [cells_at h]; rfl
  have c2 : w.cell? ⟨p, 2, none⟩ = some (.int .i64 s.calls) := by rw [cells_at h]; rfl
  have c3 : w.cell? ⟨p, 3, none⟩ = some (.int .i64 s.ahead) := by rw [cells_at h]; rfl
  have c4 : w.cell? ⟨p, 4, none⟩ = some (.bool s.down) := by rw [cells_at h]; rfl
  have f2 := cells_free h 2
  have f3 := cells_free h 3
  have f4 := cells_free h 4
  have C0 := made_c p m s w h
  have H := Lib.hid h
  have K1 := fun c d a => called_of (c := c) (d := d) (a := a) h
  have K2 := fun c a => called_of2 (c := c) (a := a) h
  have HK1 := Lib.hid K1
  have HK2 := Lib.hid K2
  clear h K1 K2
  by_cases ha : s.ahead = 0
  · have t1 : (s.ahead == 0) = true := by simp [ha]
    go_enter Try.func51, Try.ntmps51
    go_wp2_with fail
    refine (C0).mono ?_; rintro e w2 ⟨rfl, rfl⟩
    go_wp2_with fail
    go_ret
    exact ⟨ret_i (by simp [St.code, St.call, ha]), HK1.out _ _ _ rfl (by omega) (by simp [ha])⟩
  · have t1 : (s.ahead == 0) = false := by simp [ha]
    cases hd : s.down
    · go_enter Try.func51, Try.ntmps51
      go_wp2_with fail
      refine (C0).mono ?_; rintro e w2 ⟨rfl, rfl⟩
      go_wp2_with fail
      all_goals
        go_ret
        exact ⟨ret_i (by simp [St.code, St.call, ha, hd]), HK2.out _ _ rfl (by omega) ha⟩
    · go_enter Try.func51, Try.ntmps51
      go_wp2_with fail
      refine (C0).mono ?_; rintro e w2 ⟨rfl, rfl⟩
      go_wp2_with fail
      all_goals
        go_ret
        exact ⟨ret_i (by simp [St.code, St.call, ha, hd]), HK2.out _ _ rfl (by omega) ha⟩

end Go.Proofs.Ytckmciafonnohaa
/- The contract of find: a call that asks for a file. -/
namespace Go.Proofs.Ytckmciafonnohaa
open Go.RowKit FsPlain
set_option linter.unusedVariables false
set_option linter.unusedSimpArgs false
set_option maxRecDepth 20000

theorem ret_pe {a b : Option Addr} {c d : Int} (h : a = b) (k : c = d) : Ending.returned (.tuple #[.pointer a, .int .i64 c]) = .returned (.tuple #[.pointer b, .int .i64 d]) := by rw [h, k]

/-- A disk with its layout, behind a noted call. -/
theorem DiskAt.called {w w' : World} {p m : Nat} {s : St} {B : Nat → Prop} {L : List Pl} (h : DiskAt w p s B m L) (k : Called p m s w w') : DiskAt w' p s.call B m L :=
  h.own_block k.2 k.1 rfl

theorem find_no (p m : Nat) (s : St) (B : Nat → Prop) (L : List Pl) (n : ByteArray) (may : Bool) (w : World) (hn : n.size ≤ maxLen) (hm : (may && rightB n.data.toList) = false) :
    Calls Try.prog 41 #[.pointer (some ⟨p, 0, none⟩), .string n, .bool may] w fun e w' => e = .returned (.tuple #[.pointer none, .int .i64 1]) ∧ w = w' := by
  have C1 := fun w => right_c n hn w
  have C2 := fun w => call_no p m s w
  cases may
  · clear hm
    go_enter Try.func41, Try.ntmps41
    go_wp2_with fail
    refine (C2 _).mono ?_; rintro e w2 ⟨rfl, rfl⟩
    go_wp2_with fail
    go_ret2
    exact ⟨rfl, rfl⟩
  · have hr : rightB n.data.toList = false := by simpa using hm
    rw [hr] at C1
    clear hm hr
    go_enter Try.func41, Try.ntmps41
    go_wp2_with fail
    refine (C1 _).mono ?_; rintro e w2 ⟨rfl, rfl⟩
    go_wp2_with fail
    refine (C2 _).mono ?_; rintro e w2 ⟨rfl, rfl⟩
    go_wp2_with fail
    go_ret2
    exact ⟨rfl, rfl⟩

def Found (p m : Nat) (s : St) (B : Nat → Prop) (L : List Pl) (n : List UInt8) (w : World) (e : Ending) (w' : World) : Prop :=
  DiskAt w' p s.call B m L ∧ Only (fun i => i = p) w w' ∧
  ((s.call.down = true ∧ e = .returned (.tuple #[.pointer none, .int .i64 5])) ∨
   (s.call.down = false ∧ s.get n = none ∧ e = .returned (.tuple #[.pointer none, .int .i64 2])) ∨
   (s.call.down = false ∧ ∃ x, s.get n = some x.f ∧ L.find? (fun x => x.f.name == n) = some x ∧ e = .returned (.tuple #[.pointer (some ⟨x.blk, 0, none⟩), .int .i64 0])))

set_option maxRecDepth 20000 in
set_option maxHeartbeats 1000000 in
theorem find_yes (p m : Nat) (s : St) (B : Nat → Prop) (L : List Pl) (n : ByteArray) (w : World) (hs : s.ok) (h : DiskAt w p s B m L) (hn : n.size ≤ maxLen) (hm : rightB n.data.toList = true) (h1 : s.calls ≤ 1000000000000) :
    Calls Try.prog 41 #[.pointer (some ⟨p, 0, none⟩), .string n, .bool true] w (Found p m s B L n.data.toList w) := by
  have C1 := fun w => right_c n hn w
  rw [hm] at C1
  have C2 := call_yes p m s w h.heap hs.c0 h1 hs.a0 hs.a1
  obtain ⟨c, hc⟩ : ∃ c, c = s.call.code := ⟨_, rfl⟩
  rw [← hc] at C2
  have HC := Lib.hid hc
  have HM := Lib.hid hm
  have HD := Lib.hid h
  clear hc hm h
  cases hd : s.call.down
  · have c0 : c = 0 := by rw [HC.out]; simp [St.code, hd]
    subst c0
    have HDN := Lib.hid hd
    clear hd
    rcases HD.out.look n hn with ⟨hg, hf, hl⟩ | ⟨x, hg, hf, hl⟩
    · have HG := Lib.hid hg
      have HF := Lib.hid hf
      have HL := Lib.hid hl
      clear hg hf hl
      go_enter Try.func41, Try.ntmps41
      go_wp2_with fail
      refine (C1 _).mono ?_; rintro e w2 ⟨rfl, rfl⟩
      go_wp2_with fail
      refine (C2).mono ?_; rintro e w2 ⟨rfl, k⟩
      have D2 := HD.out.called k
      have c1 : w2.cell? ⟨p, 1, none⟩ = some (.map (some m)) := by rw [cells_at k.1]; rfl
      have hlk := HL.out w2 D2.own
      have HK := Lib.hid k
      have HD2 := Lib.hid D2
      clear k D2
      go_wp2_with fail
      go_ret2
      exact ⟨HD2.out, HK.out.2, .inr (.inl ⟨HDN.out, HG.out, rfl⟩)⟩
    · have HG := Lib.hid hg
      have HF := Lib.hid hf
      have HL := Lib.hid hl
      clear hg hf hl
      go_enter Try.func41, Try.ntmps41
      go_wp2_with fail
      refine (C1 _).mono ?_; rintro e w2 ⟨rfl, rfl⟩
      go_wp2_with fail
      refine (C2).mono ?_; rintro e w2 ⟨rfl, k⟩
      have D2 := HD.out.called k
      have c1 : w2.cell? ⟨p, 1, none⟩ = some (.map (some m)) := by rw [cells_at k.1]; rfl
      have hlk := HL.out w2 D2.own
      have HK := Lib.hid k
      have HD2 := Lib.hid D2
      clear k D2
      go_wp2_with fail
      go_ret2
      exact ⟨HD2.out, HK.out.2, .inr (.inr ⟨HDN.out, x, HG.out, HF.out, rfl⟩)⟩
  · have c0 : c = 5 := by rw [HC.out]; simp [St.code, hd]
    subst c0
    have HDN := Lib.hid hd
    clear hd
    go_enter Try.func41, Try.ntmps41
    go_wp2_with fail
    refine (C1 _).mono ?_; rintro e w2 ⟨rfl, rfl⟩
    go_wp2_with fail
    refine (C2).mono ?_; rintro e w2 ⟨rfl, k⟩
    have D2 := HD.out.called k
    have HK := Lib.hid k
    have HD2 := Lib.hid D2
    clear k D2
    go_wp2_with fail
    go_ret2
    exact ⟨HD2.out, HK.out.2, .inl ⟨HDN.out, rfl⟩⟩
end Go.Proofs.Ytckmciafonnohaa

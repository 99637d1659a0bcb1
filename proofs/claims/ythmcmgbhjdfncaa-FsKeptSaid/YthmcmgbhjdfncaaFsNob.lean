/- A disk that nobody made: each call's contract. -/
import Derived.Test.YthmcmgbhjdfncaaFsClone
namespace Go.Proofs.Ythmcmgbhjdfncaa
open Go.RowKit Go.Maps FsPlain
set_option linter.unusedVariables false
set_option linter.unusedSimpArgs false

/-- Nobody's disk: nil, or one without files. -/
def Nob (v : Value) (w : World) : Prop := v = .pointer none ∨ ∃ p, v = .pointer (some ⟨p, 0, none⟩) ∧ p < w.heap.size ∧ w.cell? ⟨p, 1, none⟩ = some (.map none)
theorem Nob.gr {v : Value} {w w' : World} (h : Nob v w) (g : Gr w w') : Nob v w' := by
  rcases h with h | ⟨p, h1, h2, h3⟩
  · exact .inl h
  · exact .inr ⟨p, h1, Nat.lt_of_lt_of_le h2 g.size, by rw [g.cell (by exact h2)]; exact h3⟩

theorem made_n (v : Value) (w : World) (h : Nob v w) : Calls Try.prog 24 #[v] w fun e w' => e = .returned (.bool false) ∧ w = w' := by
  rcases h with rfl | ⟨p, rfl, _, c1⟩
  · go_enter Try.func24, Try.ntmps24
    go_wp2_with fail
    go_ret
    exact ⟨rfl, rfl⟩
  · have nm := run_neq_map_nil (P := Try.prog) w 43 _ _ none Try.underlying43
    go_enter Try.func24, Try.ntmps24
    go_wp2_with fail
    go_ret
    exact ⟨rfl, rfl⟩

theorem call_n (v : Value) (b : Bool) (w : World) (h : Nob v w) : Calls Try.prog 21 #[v, .bool b] w fun e w' => e = .returned (.int .i64 1) ∧ w = w' := by
  have C := made_n v w h
  clear h
  cases b
  · go_enter Try.func21, Try.ntmps21
    go_wp2_with fail
    go_ret
    exact ⟨rfl, rfl⟩
  · go_enter Try.func21, Try.ntmps21
    go_wp2_with fail
    refine C.mono ?_; rintro e w2 ⟨rfl, rfl⟩
    go_wp2_with fail
    go_ret
    exact ⟨rfl, rfl⟩

theorem find_n (v : Value) (n : ByteArray) (b : Bool) (w : World) (h : Nob v w) (hn : n.size ≤ maxLen) : Calls Try.prog 26 #[v, .string n, .bool b] w fun e w' => e = .returned (.tuple #[.pointer none, .int .i64 1]) ∧ w = w' := by
  have C := fun b => call_n v b w h
  have C1 := right_c n hn w
  clear h hn
  generalize rightB n.data.toList = r at C1
  cases b
  · go_enter Try.func26, Try.ntmps26
    go_wp2_with fail
    refine (C _).mono ?_; rintro e w2 ⟨rfl, rfl⟩
    go_wp2_with fail
    go_ret2
    exact ⟨rfl, rfl⟩
  · go_enter Try.func26, Try.ntmps26
    go_wp2_with fail
    refine C1.mono ?_; rintro e w2 ⟨rfl, rfl⟩
    go_wp2_with fail
    refine (C _).mono ?_; rintro e w2 ⟨rfl, rfl⟩
    go_wp2_with fail
    go_ret2
    exact ⟨rfl, rfl⟩

theorem create_n (v : Value) (n : ByteArray) (w : World) (h : Nob v w) (hn : n.size ≤ maxLen) : Calls Try.prog 7 #[v, .string n] w fun e w' => e = .returned (.int .i64 1) ∧ w = w' := by
  have C := fun b => call_n v b w h
  have C1 := right_c n hn w
  clear h hn
  generalize rightB n.data.toList = r at C1
  go_enter Try.func7, Try.ntmps7
  go_wp2_with fail
  refine C1.mono ?_; rintro e w2 ⟨rfl, rfl⟩
  go_wp2_with fail
  refine (C _).mono ?_; rintro e w2 ⟨rfl, rfl⟩
  go_wp2_with fail
  go_ret
  exact ⟨rfl, rfl⟩

theorem append_n (v : Value) (n s : ByteArray) (w : World) (h : Nob v w) (hn : n.size ≤ maxLen) : Calls Try.prog 10 #[v, .string n, .string s] w fun e w' => e = .returned (.int .i64 1) ∧ w = w' := by
  have C := find_n v n true w h hn
  clear h hn
  go_enter Try.func10, Try.ntmps10
  go_wp2_with fail
  refine C.mono ?_; rintro e w2 ⟨rfl, rfl⟩
  go_wp2_with fail
  go_ret
  exact ⟨rfl, rfl⟩

theorem sync_n (v : Value) (n : ByteArray) (w : World) (h : Nob v w) (hn : n.size ≤ maxLen) : Calls Try.prog 11 #[v, .string n] w fun e w' => e = .returned (.int .i64 1) ∧ w = w' := by
  have C := find_n v n true w h hn
  clear h hn
  go_enter Try.func11, Try.ntmps11
  go_wp2_with fail
  refine C.mono ?_; rintro e w2 ⟨rfl, rfl⟩
  go_wp2_with fail
  go_ret
  exact ⟨rfl, rfl⟩

theorem remove_n (v : Value) (n : ByteArray) (w : World) (h : Nob v w) (hn : n.size ≤ maxLen) : Calls Try.prog 17 #[v, .string n] w fun e w' => e = .returned (.int .i64 1) ∧ w = w' := by
  have C := find_n v n true w h hn
  clear h hn
  go_enter Try.func17, Try.ntmps17
  go_wp2_with fail
  refine C.mono ?_; rintro e w2 ⟨rfl, rfl⟩
  go_wp2_with fail
  go_ret
  exact ⟨rfl, rfl⟩

theorem size_n (v : Value) (n : ByteArray) (w : World) (h : Nob v w) (hn : n.size ≤ maxLen) : Calls Try.prog 13 #[v, .string n] w fun e w' => e = .returned (.tuple #[.int .i64 0, .int .i64 1]) ∧ w = w' := by
  have C := find_n v n true w h hn
  clear h hn
  go_enter Try.func13, Try.ntmps13
  go_wp2_with fail
  refine C.mono ?_; rintro e w2 ⟨rfl, rfl⟩
  go_wp2_with fail
  go_ret2
  exact ⟨rfl, rfl⟩

theorem read_n (v : Value) (n : ByteArray) (i k : Int) (w : World) (h : Nob v w) (hn : n.size ≤ maxLen) : Calls Try.prog 14 #[v, .string n, .int .i64 i, .int .i64 k] w fun e w' => e = .returned (.tuple #[.string ⟨#[]⟩, .int .i64 1]) ∧ w = w' := by
  have C := fun b => find_n v n b w h hn
  clear h hn
  by_cases h1 : 0 ≤ i <;> by_cases h2 : 0 ≤ k
  all_goals
    go_enter Try.func14, Try.ntmps14
    go_wp2_with fail
    refine (C _).mono ?_; rintro e w2 ⟨rfl, rfl⟩
    go_wp2_with fail
    go_ret2
    exact ⟨rfl, rfl⟩

theorem rename_n (v : Value) (n s : ByteArray) (w : World) (h : Nob v w) (hn : n.size ≤ maxLen) (hs : s.size ≤ maxLen) : Calls Try.prog 16 #[v, .string n, .string s] w fun e w' => e = .returned (.int .i64 1) ∧ w = w' := by
  have C := fun b => find_n v n b w h hn
  have C1 := right_c s hs w
  clear h hn hs
  generalize rightB s.data.toList = r at C1
  go_enter Try.func16, Try.ntmps16
  go_wp2_with fail
  refine C1.mono ?_; rintro e w2 ⟨rfl, rfl⟩
  go_wp2_with fail
  refine (C _).mono ?_; rintro e w2 ⟨rfl, rfl⟩
  go_wp2_with fail
  go_ret
  exact ⟨rfl, rfl⟩

theorem list_n (v : Value) (w : World) (h : Nob v w) : Calls Try.prog 15 #[v] w fun e w' => e = .returned (.tuple #[.slice none 0 0, .int .i64 1]) ∧ w = w' := by
  have C := call_n v true w h
  clear h
  go_enter Try.func15, Try.ntmps15
  go_wp2_with fail
  refine C.mono ?_; rintro e w2 ⟨rfl, rfl⟩
  go_wp2_with fail
  go_ret2
  exact ⟨rfl, rfl⟩

theorem arm_n (v : Value) (k : Int) (w : World) (h : Nob v w) : Calls Try.prog 9 #[v, .int .i64 k] w fun e w' => e = .returned (.tuple #[]) ∧ w = w' := by
  have C := made_n v w h
  clear h
  go_enter Try.func9, Try.ntmps9
  go_wp2_with fail
  refine C.mono ?_; rintro e w2 ⟨rfl, rfl⟩
  go_wp2_with fail
  go_end0
  exact ⟨rfl, rfl⟩

theorem rise_n (v : Value) (a : Option Addr) (n c : Nat) (w : World) (h : Nob v w) : Calls Try.prog 12 #[v, .slice a n c] w fun e w' => e = .returned (.tuple #[]) ∧ w = w' := by
  have C := made_n v w h
  clear h
  go_enter Try.func12, Try.ntmps12
  go_wp2_with fail
  refine C.mono ?_; rintro e w2 ⟨rfl, rfl⟩
  go_wp2_with fail
  exact bodyPost_ret (results_none rfl _ _ _) rfl ⟨rfl, rfl⟩

theorem turn_n (v : Value) (n : ByteArray) (i : Int) (b : Int) (w : World) (h : Nob v w) : Calls Try.prog 18 #[v, .string n, .int .i64 i, .int .u32 b] w fun e w' => e = .returned (.bool false) ∧ w = w' := by
  have C := made_n v w h
  clear h
  go_enter Try.func18, Try.ntmps18
  go_wp2_with fail
  refine C.mono ?_; rintro e w2 ⟨rfl, rfl⟩
  go_wp2_with fail
  go_ret
  exact ⟨rfl, rfl⟩

theorem calls_n (v : Value) (w : World) (h : Nob v w) : Calls Try.prog 19 #[v] w fun e w' => e = .returned (.int .i64 0) ∧ w = w' := by
  have C := made_n v w h
  clear h
  go_enter Try.func19, Try.ntmps19
  go_wp2_with fail
  refine C.mono ?_; rintro e w2 ⟨rfl, rfl⟩
  go_wp2_with fail
  go_ret
  exact ⟨rfl, rfl⟩

theorem used_n (v : Value) (w : World) (h : Nob v w) : Calls Try.prog 20 #[v] w fun e w' => e = .returned (.int .i64 0) ∧ w = w' := by
  have C := made_n v w h
  clear h
  go_enter Try.func20, Try.ntmps20
  go_wp2_with fail
  refine C.mono ?_; rintro e w2 ⟨rfl, rfl⟩
  go_wp2_with fail
  go_ret
  exact ⟨rfl, rfl⟩

theorem clone_n (v : Value) (w : World) (h : Nob v w) : Calls Try.prog 8 #[v] w fun e w' => e = .returned (.pointer none) ∧ w = w' := by
  have C := made_n v w h
  clear h
  go_enter Try.func8, Try.ntmps8
  go_wp2_with fail
  refine C.mono ?_; rintro e w2 ⟨rfl, rfl⟩
  go_wp2_with fail
  go_ret
  exact ⟨rfl, rfl⟩
end Go.Proofs.Ythmcmgbhjdfncaa

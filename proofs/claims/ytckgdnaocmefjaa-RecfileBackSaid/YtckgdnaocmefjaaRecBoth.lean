/- Both Parses, as one: what they come to of any bytes. -/
import Derived.Test.YtckgdnaocmefjaaRecAwake
namespace Go.Proofs.Ytckgdnaocmefjaa
open Go.RowKit CrcPlain OctPlain FramePlain RecPlain
set_option linter.unusedVariables false
set_option linter.unusedSimpArgs false
/-- These records, these numbers, this error. -/
def PThis (L : List ByteArray) (c m k : Int) (w : World) (e : Ending) (w' : World) : Prop := ∃ v, e = .returned (.tuple #[v, .agg #[.int .i64 c, .int .u32 m], .int .i64 k]) ∧ Lies w' v L ∧ Gr w w'
theorem this_file {L : List ByteArray} {w : World} {e : Ending} {w' : World} (g : PFile L w e w') : PThis L L.length (sumN L) 0 w e w' := g
theorem this_none {w : World} {e : Ending} {w' : World} (g : PNone w e w') : PThis [] 0 0 6 w e w' := ⟨_, g.1, lies_nil w', g.2⟩
theorem file_len {size : Int} {s : ByteArray} {L : List ByteArray} (h : IsFile size s L) : L.length ≤ s.size := by
  have h1 := blks_ge _ (ups_blk h.1)
  rw [ups_all] at h1
  have h2 := congrArg List.length h.2
  unfold layL at h2
  rw [data_length, List.length_append, List.length_append] at h2
  omega
theorem both_c (size : Int) (hk : I64 size) (s : ByteArray) (hz : s.size ≤ 800) :
    ∃ (L : List ByteArray) (c m k : Int), L.length ≤ 800 ∧ (0 ≤ c ∧ c ≤ 800) ∧ (0 ≤ m ∧ m < 4294967296) ∧ (∀ w, Calls Try.prog 10 #[.int .i64 size, .string s] w (PThis L c m k w)) ∧ (∀ w, Calls Try.prog 11 #[.int .i64 size, .string s] w (PThis L c m k w)) := by
  by_cases h : ∃ L, IsFile size s L
  · obtain ⟨L, hL⟩ := h
    have hlen := file_len hL
    have hm := sumN_lt L
    exact ⟨L, L.length, sumN L, 0, by omega, by omega, by omega, fun w => (parse_c size hk s (by omega) w).mono fun e w' g => this_file (pgot_file hL g), fun w => (rparse_c size hk s hz w).mono fun e w' g => this_file (pgot_file hL g)⟩
  · have hn : ∀ L, ¬ IsFile size s L := fun L hL => h ⟨L, hL⟩
    exact ⟨[], 0, 0, 6, by simp, by omega, by omega, fun w => (parse_c size hk s (by omega) w).mono fun e w' g => this_none (pgot_none hn g), fun w => (rparse_c size hk s hz w).mono fun e w' g => this_none (pgot_none hn g)⟩
end Go.Proofs.Ytckgdnaocmefjaa

/- What an end's numbers are as an argument; its block. -/
import Derived.Test.YtckgdnaocmefjaaFrameAwake
import Derived.Test.YtckgdnaocmefjaaFrameRgetEnd
namespace Go.Proofs.Ytckgdnaocmefjaa
open Go.RowKit CrcPlain OctPlain FramePlain
set_option linter.unusedVariables false
set_option linter.unusedSimpArgs false
theorem info_in {w : World} {v : Value} (h : RdAgg Try.prog w 29 v) : ∃ (n : Int) (m : Nat), v = .agg #[.int .i64 n, .int .u32 (m : Int)] ∧ I64 n ∧ m < 4294967296 := by
  obtain ⟨fs, cs, hu, rfl, hsz, hf⟩ := h
  rw [Try.underlying29] at hu
  simp only [Option.some.injEq, TypeDesc.struct.injEq] at hu
  subst hu
  obtain ⟨l⟩ := cs
  match l, hsz with
  | [c0, c1], _ =>
    obtain ⟨d0, e0, r0⟩ := hf 0 _ rfl
    obtain ⟨d1, e1, r1⟩ := hf 1 _ rfl
    simp at e0 e1
    subst e0 e1
    obtain ⟨n, rfl, hn⟩ := rd_int Try.underlying3 r0
    obtain ⟨k, rfl, hk⟩ := rd_int Try.underlying27 r1
    have b0 := bounds_i64 hn
    have b1 := bounds_u32 hk
    obtain ⟨m, rfl⟩ : ∃ m : Nat, k = m := ⟨k.toNat, by omega⟩
    exact ⟨n, m, rfl, b0, by omega⟩
theorem fputlies {w : World} {v : Value} {l : List ByteArray} (h : Lies w v l) (u : World) (g : Gr w u) (size : Int) (hk : I64 size) (hl : l.length ≤ 1000000) (hz : ∀ s ∈ l, s.size ≤ 1000) :
    Calls Try.prog 24 #[.int .i64 size, v] u fun e w' => e = .returned (.tuple #[.string (blkS size l), .bool (blkB size l)]) ∧ Gr u w' := fput_c (h.gr g) size hk hl hz
theorem gral (u : World) (o : Obj) : Gr u (u.alloc o) := Below.alloc (Below.refl _ _) (Nat.le_refl _) _
theorem splL_le' (s : ByteArray) (k : Int) (hs : s.size ≤ 1000) : (splL s k).length ≤ 1000 := by
  unfold splL
  split
  · rw [pieces_length]; exact Nat.le_trans (Nat.div_le_self _ _) hs
  · simp
theorem opS_size (s : ByteArray) : (opS s).size ≤ s.size := by
  unfold opS
  split
  · unfold ahead; rw [ByteArray.size_extract]; omega
  · exact Nat.zero_le _
theorem Two.cells {w : World} {B : Nat} {a b : Value} {u : World} (h : Two w B a b u) : u.cell? ⟨B, 0, none⟩ = some a ∧ u.cell? ⟨B, 1, none⟩ = some b := ⟨h.c0, h.c1⟩
end Go.Proofs.Ytckgdnaocmefjaa

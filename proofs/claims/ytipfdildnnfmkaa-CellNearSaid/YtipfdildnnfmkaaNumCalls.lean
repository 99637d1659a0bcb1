/- Contracts of layer num's functions and of the document's answers to them, each by a walk of its text. -/
import Derived.Test.YtipfdildnnfmkaaBase
import Derived.Test.YtipfdildnnfmkaaNumPlain
import Derived.WalkKit
import Derived.ProofKit
import Derived.Below
import Derived.Handy
import Derived.Outline
import Derived.Lib.Hide
namespace Go.Proofs.Ytipfdildnnfmkaa
open Go.RowKit NumPlain
set_option linter.unusedVariables false


set_option maxHeartbeats 400000 in
theorem floor_any (a b : Int) (w : World) (ha : I64 a) (hb : I64 b) :
    Calls Try.prog 24 #[.int .i64 a, .int .i64 b] w fun e w' => e = .returned (.int .i64 (floorF a b)) ∧ w = w' := by
  obtain ⟨ha1, ha2⟩ := ha
  obtain ⟨hb1, hb2⟩ := hb
  by_cases h0 : b < 1
  · go_enter Try.func24, Try.ntmps24
    go_wp2
    go_ret
    exact ⟨ret_i (by rw [floorF_not h0]), rfl⟩
  · have hp : 1 ≤ b := by omega
    have hbd := tmod_bd (a := a) (b := b) (by omega)
    have hdb := div_bd (a := a) (b := b) (by omega)
    by_cases h1 : a.tmod b < 0
    · have hn := neg_of h1
      have H := Lib.hid (quo_neg (by omega) h1)
      have h2 : -9223372036854775807 ≤ a.tdiv b ∧ a.tdiv b ≤ 9223372036854775807 := by have := H.out; omega
      clear h0
      go_enter Try.func24, Try.ntmps24
      go_wp2
      go_ret
      exact ⟨ret_i (by rw [floorF_pos (by omega)]; have := H.out; omega), rfl⟩
    · have H := Lib.hid (quo_pos (by omega) h1)
      clear h0
      go_enter Try.func24, Try.ntmps24
      go_wp2
      go_ret
      exact ⟨ret_i (by rw [floorF_pos (by omega)]; have := H.out; omega), rfl⟩
set_option maxHeartbeats 400000 in
theorem rfloor_any (a b : Int) (w : World) (ha : I64 a) (hb : I64 b) :
    Calls Try.prog 25 #[.int .i64 a, .int .i64 b] w fun e w' => e = .returned (.int .i64 (floorF a b)) ∧ w = w' := by
  obtain ⟨ha1, ha2⟩ := ha
  obtain ⟨hb1, hb2⟩ := hb
  by_cases h0 : b < 1
  · go_enter Try.func25, Try.ntmps25
    go_wp2
    go_ret
    exact ⟨ret_i (by rw [floorF_not h0]), rfl⟩
  · have hp : 1 ≤ b := by omega
    have hbd := tmod_bd (a := a) (b := b) (by omega)
    have hdb := div_bd (a := a) (b := b) (by omega)
    by_cases h1 : a.tmod b < 0
    · have hn := neg_of h1
      have H := Lib.hid (quo_neg (by omega) h1)
      have h2 : -9223372036854775807 ≤ a.tdiv b ∧ a.tdiv b ≤ 9223372036854775807 := by have := H.out; omega
      clear h0
      go_enter Try.func25, Try.ntmps25
      go_wp2
      go_ret
      exact ⟨ret_i (by rw [floorF_pos (by omega)]; have := H.out; omega), rfl⟩
    · have H := Lib.hid (quo_pos (by omega) h1)
      clear h0
      go_enter Try.func25, Try.ntmps25
      go_wp2
      go_ret
      exact ⟨ret_i (by rw [floorF_pos (by omega)]; have := H.out; omega), rfl⟩
end Go.Proofs.Ytipfdildnnfmkaa

/- In one text: FsSize. -/
import Derived.Test.YtibajmjplpnbmaaP13
/- The contracts of Size, Sync and Read. -/
namespace Go.Proofs.Ytibajmjplpnbmaa
open Go.RowKit FsPlain
set_option linter.unusedVariables false
set_option linter.unusedSimpArgs false
set_option maxRecDepth 20000

theorem ret_ie {a b c d : Int} (h : a = b) (k : c = d) : Ending.returned (.tuple #[.int .i64 a, .int .i64 c]) = .returned (.tuple #[.int .i64 b, .int .i64 d]) := by rw [h, k]
theorem ret_se {a b : ByteArray} {c d : Int} (h : a = b) (k : c = d) : Ending.returned (.tuple #[.string a, .int .i64 c]) = .returned (.tuple #[.string b, .int .i64 d]) := by rw [h, k]

theorem next_called {w w' : World} {p m : Nat} {s : St} {B : Nat → Prop} {L : List Pl} (hs : s.ok) (h : DiskAt w' p s.call B m L) (o : Only (fun i => i = p) w w') : Next w p s.call B w' :=
  ⟨B, ⟨ok_call hs, m, L, h⟩, o.mono fun i e => by subst e; exact h.mine _ (by simp), fun i h => .inl h⟩

theorem plBlocks_B {w : World} {p m : Nat} {s : St} {B : Nat → Prop} {L : List Pl} {x : Pl} (h : DiskAt w p s B m L) (hx : x ∈ L) (b : Nat) (hb : b ∈ plBlocks x) : B b :=
  h.mine b (List.mem_cons_of_mem _ (List.mem_cons_of_mem _ (mem_blocks hx hb)))

def Tells (w : World) (p : Nat) (s' : St) (B : Nat → Prop) (v : Value) (e : Ending) (w' : World) : Prop := e = .returned v ∧ Next w p s' B w'

set_option maxRecDepth 20000 in
set_option maxHeartbeats 1000000 in
theorem size_c (p : Nat) (s : St) (B : Nat → Prop) (n : ByteArray) (w : World) (h : Disk w p s B) (hn : n.size ≤ maxLen) (hm : rightB n.data.toList = true) (h1 : s.calls ≤ 1000000000000) :
    Calls Try.prog 33 #[.pointer (some ⟨p, 0, none⟩), .string n] w (Tells w p s.call B (.tuple #[.int .i64 (sizeR s n.data.toList).1, .int .i64 (sizeR s n.data.toList).2])) := by
  obtain ⟨hs, m, L, hD⟩ := h
  have C := find_yes p m s B L n w hs hD hn hm h1
  have HS := Lib.hid hs
  clear hD hm hs
  go_enter Try.func33, Try.ntmps33
  go_wp2_with fail
  refine C.mono ?_; rintro e w2 ⟨hD, hO, hcase⟩
  have HN := Lib.hid (next_called HS.out hD hO)
  have HD := Lib.hid hD
  clear hD hO
  rcases hcase with ⟨hd, rfl⟩ | ⟨hd, hg, rfl⟩ | ⟨hd, x, hg, hf, rfl⟩
  · have HR : Hid (sizeR s n.data.toList = (0, 5)) := Lib.hid (by simp [sizeR, hd])
    clear hd
    go_wp2_with fail
    go_ret2
    exact ⟨by rw [HR.out] <;> rfl, HN.out⟩
  · have HR : Hid (sizeR s n.data.toList = (0, 2)) := Lib.hid (by simp [sizeR, hd, hg])
    clear hd hg
    go_wp2_with fail
    go_ret2
    exact ⟨by rw [HR.out] <;> rfl, HN.out⟩
  · have HR : Hid (sizeR s n.data.toList = ((x.f.data.length : Int), 0)) := Lib.hid (by simp [sizeR, hd, hg])
    have hF := HD.out.file x (List.mem_of_find?_eq_some hf)
    obtain ⟨a, c, hv, _⟩ := row_shape hF.2
    have c0 : w2.cell? ⟨x.blk, 0, none⟩ = some (.slice a x.f.data.length c) := by rw [cells_at hF.1, ← hv]; rfl
    clear hd hg hF hv hf
    go_wp2_with fail
    go_ret2
    exact ⟨by rw [HR.out] <;> rfl, HN.out⟩

theorem read_found {s : St} {n : List UInt8} {i k : Nat} {f : F} (hd : s.call.down = false) (hg : s.get n = some f) : (f.data.length < i + k ∧ readR s n i k = ([], 10)) ∨ (i + k ≤ f.data.length ∧ readR s n i k = ((f.data.drop i).take k, 0)) := by
  by_cases h : f.data.length < i + k
  · exact .inl ⟨h, by simp [readR, hd, hg, h]⟩
  · exact .inr ⟨by omega, by simp [readR, hd, hg, h]⟩

set_option maxRecDepth 20000 in
set_option maxHeartbeats 1000000 in
theorem read_c (p : Nat) (s : St) (B : Nat → Prop) (n : ByteArray) (i k : Nat) (w : World) (h : Disk w p s B) (hn : n.size ≤ maxLen) (hm : rightB n.data.toList = true) (h1 : s.calls ≤ 1000000000000) (hi : i ≤ 1000000000000) (hk : k ≤ 1000000000000) :
    Calls Try.prog 34 #[.pointer (some ⟨p, 0, none⟩), .string n, .int .i64 (i : Int), .int .i64 (k : Int)] w (Tells w p s.call B (.tuple #[.string (bs (readR s n.data.toList i k).1), .int .i64 (readR s n.data.toList i k).2])) := by
  obtain ⟨hs, m, L, hD⟩ := h
  have C := find_yes p m s B L n w hs hD hn hm h1
  have HS := Lib.hid hs
  clear hD hm hs
  go_enter Try.func34, Try.ntmps34
  go_wp2_with fail
  refine C.mono ?_; rintro e w2 ⟨hD, hO, hcase⟩
  have HN := Lib.hid (next_called HS.out hD hO)
  have HD := Lib.hid hD
  clear hD hO
  rcases hcase with ⟨hd, rfl⟩ | ⟨hd, hg, rfl⟩ | ⟨hd, x, hg, hf, rfl⟩
  · have HR : Hid (readR s n.data.toList i k = ([], 5)) := Lib.hid (by simp [readR, hd])
    clear hd
    go_wp2_with fail
    go_ret2
    exact ⟨by rw [HR.out] <;> rfl, HN.out⟩
  · have HR : Hid (readR s n.data.toList i k = ([], 2)) := Lib.hid (by simp [readR, hd, hg])
    clear hd hg
    go_wp2_with fail
    go_ret2
    exact ⟨by rw [HR.out] <;> rfl, HN.out⟩
  · have hF := HD.out.file x (List.mem_of_find?_eq_some hf)
    have hu : x.f.data.length ≤ 16777216 := by
      have h1 := used_le (get_mem hg); have h2 := HS.out.u; have h3 := HS.out.r1; omega
    obtain ⟨a, c, hv, _⟩ := row_shape hF.2
    have c0 : w2.cell? ⟨x.blk, 0, none⟩ = some (.slice a x.f.data.length c) := by rw [cells_at hF.1, ← hv]; rfl
    rcases read_found (i := i) (k := k) hd hg with ⟨hlt, hr⟩ | ⟨hle, hr⟩
    · have HR := Lib.hid hr
      clear hd hg hF hv hf hr
      generalize x.f.data.length = q at *
      have t1 : decide ((q : Int) - (i : Int) < (k : Int)) = true := by rw [decide_eq_true_iff]; omega
      go_wp2_with fail
      go_ret2
      exact ⟨by rw [HR.out] <;> rfl, HN.out⟩
    · have HR := Lib.hid hr
      obtain ⟨u, hu1, hu2⟩ := piece_run hF.2 i k hle
      rw [hv] at hu1
      clear hd hg hF hv hf hr
      generalize x.f.data.length = q at *
      have t1 : decide ((q : Int) - (i : Int) < (k : Int)) = false := by rw [decide_eq_false_iff_not]; omega
      go_wp2_with fail
      go_ret2
      exact ⟨by rw [HR.out] <;> rfl, HN.out⟩
end Go.Proofs.Ytibajmjplpnbmaa

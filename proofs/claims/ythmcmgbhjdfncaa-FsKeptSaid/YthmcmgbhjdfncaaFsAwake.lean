/- A disk of one's own since some world; the chapter's example comes out as the statement asks: by the contracts. -/
import Derived.Test.YthmcmgbhjdfncaaFsNob
namespace Go.Proofs.Ythmcmgbhjdfncaa
open Go.RowKit Go.Maps FsPlain
set_option linter.unusedVariables false
set_option linter.unusedSimpArgs false

theorem new_cell (w : World) (c : Array Value) (T : TypeId) {n : Nat} (h : n = w.heap.size) (i : Nat) : (w.alloc (.cells c T)).cell? ⟨n, i, none⟩ = c[i]? := by subst h; exact World.cell?_alloc_new w c T i

/-- Since w there is a disk s, in new blocks, and nothing old has turned. -/
def Has (w : World) (p : Nat) (s : St) (wr : World) : Prop := ∃ B, Disk wr p s B ∧ Gr w wr ∧ ∀ b, B b → w.heap.size ≤ b
theorem Has.next {w wr w' : World} {p : Nat} {s' : St} {B : Nat → Prop} (g : Gr w wr) (hB : ∀ b, B b → w.heap.size ≤ b) (h : Next wr p s' B w') : Has w p s' w' := by
  obtain ⟨B', d, o, f⟩ := h
  exact ⟨B', d, Below.trans g (o.toBelow g.size hB), fun b hb => by rcases f b hb with h1 | h1; exact hB b h1; exact Nat.le_trans g.size h1⟩
theorem Has.gr {w wr w' : World} {p : Nat} {s : St} (h : Has w p s wr) (g : Gr wr w') : Has w p s w' := by
  obtain ⟨B, d, g1, hB⟩ := h
  exact ⟨B, d.only (Only.ofGr (B := fun _ => False) g) (fun _ _ e => e), g1.trans g, hB⟩
theorem Has.old {w wr : World} {p : Nat} {s : St} (h : Has w p s wr) : Gr w wr := by obtain ⟨B, _, g, _⟩ := h; exact g

def Says (w : World) (p : Nat) (s' : St) (v : Value) (e : Ending) (w' : World) : Prop := e = .returned v ∧ Has w p s' w'

theorem h_create {w wr : World} {p : Nat} {s s' : St} {n : ByteArray} {c : Int} (h : Has w p s wr) (hr : createR s n.data.toList = (s', c)) (hn : (n.size : Int) ≤ 1000) (hm : rightB n.data.toList = true) (h1 : s.calls ≤ 1000000000000) :
    Calls Try.prog 7 #[.pointer (some ⟨p, 0, none⟩), .string n] wr (Says w p s' (.int .i64 c)) := by
  obtain ⟨B, d, g, hB⟩ := h
  have C := create_c p s B n wr d (by unfold maxLen; omega) hm h1
  rw [hr] at C
  exact C.mono fun e u ⟨he, hx⟩ => ⟨he, Has.next g hB hx⟩
theorem h_append {w wr : World} {p : Nat} {s s' : St} {n t : ByteArray} {c : Int} (h : Has w p s wr) (hr : appendR s n.data.toList t.data.toList = (s', c)) (hn : (n.size : Int) ≤ 1000) (hm : rightB n.data.toList = true) (h1 : s.calls ≤ 1000000000000) (ht : (t.size : Int) ≤ 1000000000000) :
    Calls Try.prog 10 #[.pointer (some ⟨p, 0, none⟩), .string n, .string t] wr (Says w p s' (.int .i64 c)) := by
  obtain ⟨B, d, g, hB⟩ := h
  have C := append_c p s B n t wr d (by unfold maxLen; omega) hm h1 (by omega)
  rw [hr] at C
  exact C.mono fun e u ⟨he, hx⟩ => ⟨he, Has.next g hB hx⟩
theorem h_sync {w wr : World} {p : Nat} {s s' : St} {n : ByteArray} {c : Int} (h : Has w p s wr) (hr : syncR s n.data.toList = (s', c)) (hn : (n.size : Int) ≤ 1000) (hm : rightB n.data.toList = true) (h1 : s.calls ≤ 1000000000000) :
    Calls Try.prog 11 #[.pointer (some ⟨p, 0, none⟩), .string n] wr (Says w p s' (.int .i64 c)) := by
  obtain ⟨B, d, g, hB⟩ := h
  have C := sync_c p s B n wr d (by unfold maxLen; omega) hm h1
  rw [hr] at C
  exact C.mono fun e u ⟨he, hx⟩ => ⟨he, Has.next g hB hx⟩
theorem h_size {w wr : World} {p : Nat} {s : St} {n : ByteArray} {k c : Int} (h : Has w p s wr) (hr : sizeR s n.data.toList = (k, c)) (hn : (n.size : Int) ≤ 1000) (hm : rightB n.data.toList = true) (h1 : s.calls ≤ 1000000000000) :
    Calls Try.prog 13 #[.pointer (some ⟨p, 0, none⟩), .string n] wr (Says w p s.call (.tuple #[.int .i64 k, .int .i64 c])) := by
  obtain ⟨B, d, g, hB⟩ := h
  have C := size_c p s B n wr d (by unfold maxLen; omega) hm h1
  rw [hr] at C
  exact C.mono fun e u ⟨he, hx⟩ => ⟨he, Has.next g hB hx⟩
theorem h_read {w wr : World} {p : Nat} {s : St} {n : ByteArray} {i k : Nat} {l : List UInt8} {c : Int} (h : Has w p s wr) (hr : readR s n.data.toList i k = (l, c)) (hn : (n.size : Int) ≤ 1000) (hm : rightB n.data.toList = true) (h1 : s.calls ≤ 1000000000000) (hi : (i : Int) ≤ 1000000000000) (hk : (k : Int) ≤ 1000000000000) :
    Calls Try.prog 14 #[.pointer (some ⟨p, 0, none⟩), .string n, .int .i64 (i : Int), .int .i64 (k : Int)] wr (Says w p s.call (.tuple #[.string (bs l), .int .i64 c])) := by
  obtain ⟨B, d, g, hB⟩ := h
  have C := read_c p s B n i k wr d (by unfold maxLen; omega) hm h1 (by omega) (by omega)
  rw [hr] at C
  exact C.mono fun e u ⟨he, hx⟩ => ⟨he, Has.next g hB hx⟩
theorem h_arm {w wr : World} {p : Nat} {s : St} {n : Int} (h : Has w p s wr) (h0 : -9223372036854775808 ≤ n) (h1 : n ≤ 9223372036854775807) :
    Calls Try.prog 9 #[.pointer (some ⟨p, 0, none⟩), .int .i64 n] wr (Says w p (armed s n) (.tuple #[])) := by
  obtain ⟨B, d, g, hB⟩ := h
  exact (arm_c p s B n wr d h0 h1).mono fun e u ⟨he, hx⟩ => ⟨he, Has.next g hB hx⟩
theorem h_calls {w wr : World} {p : Nat} {s : St} (h : Has w p s wr) : Calls Try.prog 19 #[.pointer (some ⟨p, 0, none⟩)] wr fun e w' => e = .returned (.int .i64 s.calls) ∧ wr = w' := by
  obtain ⟨B, d, _, _⟩ := h
  exact calls_c p s B wr d
/-- Rise of a row that the caller has just made. -/
theorem h_rise_lit {w wr : World} {p : Nat} {s s' : St} {ks : List Int} (h : Has w p s wr) (hr : riseR s ks = s') (hks : ∀ k ∈ ks, I64 k) (hkl : (ks.length : Int) ≤ 1000) (kc : Nat) :
    Calls Try.prog 12 #[.pointer (some ⟨p, 0, none⟩), .slice (some ⟨wr.heap.size, 0, none⟩) ks.length kc] (wr.alloc (.cells (ks.map (.int .i64)).toArray 3)) (Says w p s' (.tuple #[])) := by
  obtain ⟨B, d, g, hB⟩ := h
  have ga : Gr wr (wr.alloc (.cells (ks.map (.int .i64)).toArray 3)) := (Below.refl _ _).alloc (Nat.le_refl _) _
  have d2 : Disk (wr.alloc (.cells (ks.map (.int .i64)).toArray 3)) p s B := d.only (Only.ofGr (B := fun _ => False) ga) (fun _ _ e => e)
  have hKA : KeepAt (wr.alloc (.cells (ks.map (.int .i64)).toArray 3)) B (some ⟨wr.heap.size, 0, none⟩) ks := by
    refine .inr ⟨wr.heap.size, 0, rfl, by simp, fun e => ?_, fun j k hj => ?_⟩
    · obtain ⟨_, m, L, dd⟩ := d
      have := dd.low _ e; omega
    · rw [World.cell?_alloc_new]; simp [hj]
  have C := rise_c p s B _ ks kc _ d2 hKA hks (by omega)
  rw [hr] at C
  exact C.mono fun e u ⟨he, hx⟩ => ⟨he, Has.next (g.trans ga) hB hx⟩

def nA : List UInt8 := [97]
def one (room calls ahead : Int) (down : Bool) (data : List UInt8) (kept : Nat) : St := ⟨room, calls, ahead, down, [⟨[97], data, kept⟩]⟩
theorem rightA : rightB [97] = true := by decide
theorem e_create (room : Int) : createR (fresh room) [97] = (one room 1 (-1) false [] 0, 0) := rfl
theorem e_ap1 : appendR (one 100 1 (-1) false [] 0) [97] [120, 121, 122] = (one 100 2 (-1) false [120, 121, 122] 0, 0) := rfl
theorem e_sy1 : syncR (one 100 2 (-1) false [120, 121, 122] 0) [97] = (one 100 3 (-1) false [120, 121, 122] 3, 0) := rfl
theorem e_ap2 : appendR (one 100 3 (-1) false [120, 121, 122] 3) [97] [117, 118] = (one 100 4 (-1) false [120, 121, 122, 117, 118] 3, 0) := rfl
theorem e_arm : armed (one 100 4 (-1) false [120, 121, 122, 117, 118] 3) 0 = one 100 4 0 false [120, 121, 122, 117, 118] 3 := rfl
theorem e_sy2 : syncR (one 100 4 0 false [120, 121, 122, 117, 118] 3) [97] = (one 100 5 (-1) true [120, 121, 122, 117, 118] 3, 5) := rfl
theorem e_rise : riseR (one 100 5 (-1) true [120, 121, 122, 117, 118] 3) [1] = one 100 5 (-1) false [120, 121, 122, 117] 4 := rfl
theorem e_read : readR (one 100 5 (-1) false [120, 121, 122, 117] 4) [97] 0 4 = ([120, 121, 122, 117], 0) := rfl

set_option maxHeartbeats 1000000 in
theorem awake_c (w : World) : Calls Try.prog 5 #[] w fun e w' => e = .returned (.bool true) ∧ Gr w w' := by
  go_enter Try.func5, Try.ntmps5
  go_wp2_with fail
  refine (new_c 100 (by decide) (by decide) _).mono ?_; rintro e w1 ⟨p, B1, rfl, d1, g1, hB1⟩
  have h1 : Has w p (fresh 100) w1 := ⟨B1, d1, g1, hB1⟩
  have H1 := Lib.hid h1
  clear d1 g1 hB1 h1
  go_wp2_with fail
  refine (h_create (n := ⟨#[97]⟩) H1.out (e_create 100) (by decide) rightA (by decide)).mono ?_; rintro e w2 ⟨rfl, h⟩
  have H2 := Lib.hid h
  clear h
  go_wp2_with fail
  refine (h_append (n := ⟨#[97]⟩) (t := ⟨#[120, 121, 122]⟩) H2.out e_ap1 (by decide) rightA (by decide) (by decide)).mono ?_; rintro e w3 ⟨rfl, h⟩
  have H3 := Lib.hid h
  clear h
  go_wp2_with fail
  refine (h_sync (n := ⟨#[97]⟩) H3.out e_sy1 (by decide) rightA (by decide)).mono ?_; rintro e w4 ⟨rfl, h⟩
  have H4 := Lib.hid h
  clear h
  go_wp2_with fail
  refine (h_append (n := ⟨#[97]⟩) (t := ⟨#[117, 118]⟩) H4.out e_ap2 (by decide) rightA (by decide) (by decide)).mono ?_; rintro e w5 ⟨rfl, h⟩
  have H5 := Lib.hid h
  clear h
  go_wp2_with fail
  refine (h_arm (n := 0) H5.out (by decide) (by decide)).mono ?_; rintro e w6 ⟨rfl, h⟩
  rw [e_arm] at h
  have H6 := Lib.hid h
  clear h
  go_wp2_with fail
  refine (h_sync (n := ⟨#[97]⟩) H6.out e_sy2 (by decide) rightA (by decide)).mono ?_; rintro e w7 ⟨rfl, h⟩
  have H7 := Lib.hid h
  clear h
  go_wp2_with fail
  refine (h_rise_lit (ks := [1]) H7.out e_rise (fun k hk => by simp at hk; subst hk; unfold I64; omega) (by decide) _).mono ?_; rintro e w8 ⟨rfl, h⟩
  have H8 := Lib.hid h
  clear h
  go_wp2_with fail
  refine (h_read (n := ⟨#[97]⟩) (i := 0) (k := 4) H8.out e_read (by decide) rightA (by decide) (by decide) (by decide)).mono ?_; rintro e w9 ⟨rfl, h⟩
  have H9 := Lib.hid h
  clear h
  rw [show bs [120, 121, 122, 117] = ⟨#[120, 121, 122, 117]⟩ from rfl]
  go_wp2_with fail
  refine (h_calls H9.out).mono ?_; rintro e w10 ⟨rfl, rfl⟩
  rw [show (one 100 5 (-1) false [120, 121, 122, 117] 4).call.calls = 6 from rfl]
  go_wp2_with fail
  go_ret
  exact ⟨rfl, H9.out.old⟩
end Go.Proofs.Ythmcmgbhjdfncaa

/- Two disks that share nothing; what the calls make of a disk of one file. -/
import Derived.Test.YthmcmgbhjdfncaaFsAwake
import Derived.Test.YthmcmgbhjdfncaaArgs
namespace Go.Proofs.Ythmcmgbhjdfncaa
open Go.RowKit Go.Maps FsPlain
set_option linter.unusedVariables false
set_option linter.unusedSimpArgs false

def Two (w : World) (p : Nat) (s : St) (p2 : Nat) (s2 : St) (wr : World) : Prop :=
  ∃ B C, Disk wr p s B ∧ Disk wr p2 s2 C ∧ (∀ b, B b → ¬ C b) ∧ Gr w wr ∧ (∀ b, B b → w.heap.size ≤ b) ∧ ∀ b, C b → w.heap.size ≤ b
theorem Two.swap {w wr : World} {p p2 : Nat} {s s2 : St} (h : Two w p s p2 s2 wr) : Two w p2 s2 p s wr := by
  obtain ⟨B, C, d, e, x, g, hB, hC⟩ := h
  exact ⟨C, B, e, d, fun b hb hc => x b hc hb, g, hC, hB⟩
theorem Two.old {w wr : World} {p p2 : Nat} {s s2 : St} (h : Two w p s p2 s2 wr) : Gr w wr := by obtain ⟨_, _, _, _, _, g, _⟩ := h; exact g
theorem Disk.low {w : World} {p : Nat} {s : St} {B : Nat → Prop} (h : Disk w p s B) (b : Nat) (hb : B b) : b < w.heap.size := by obtain ⟨_, m, L, d⟩ := h; exact d.low b hb

theorem two_of {w wr : World} {p p2 : Nat} {s s' s2 : St} {f : FuncId} {args : Array Value} {v : Value} (h : Two w p s p2 s2 wr)
    (hc : ∀ B, Disk wr p s B → (∀ b, B b → w.heap.size ≤ b) → Calls Try.prog f args wr (Tells wr p s' B v)) : Calls Try.prog f args wr fun e w' => e = .returned v ∧ Two w p s' p2 s2 w' := by
  obtain ⟨B, C, d, e, x, g, hB, hC⟩ := h
  refine (hc B d hB).mono fun e2 u ⟨he, B', d', o, f⟩ => ⟨he, B', C, d', e.only o (fun b hb hc => x b hc hb), fun b hb hc => ?_, Below.trans g (o.toBelow g.size hB), fun b hb => ?_, hC⟩
  · rcases f b hb with h1 | h1
    · exact x b h1 hc
    · have := e.low b hc; omega
  · rcases f b hb with h1 | h1
    · exact hB b h1
    · exact Nat.le_trans g.size h1

/-- The copy of a disk. -/
theorem two_clone {w wr : World} {p : Nat} {s : St} (h : Has w p s wr) : Calls Try.prog 8 #[.pointer (some ⟨p, 0, none⟩)] wr fun e w' => ∃ p2, e = .returned (.pointer (some ⟨p2, 0, none⟩)) ∧ Two w p s p2 s w' := by
  obtain ⟨B, d, g, hB⟩ := h
  refine (clone_disk p s B wr d).mono fun e u ⟨p2, C, he, dc, g2, hC⟩ => ⟨p2, he, B, C, d.only (Only.ofGr (B := fun _ => False) g2) (fun _ _ e => e), dc, fun b hb hc => ?_, g.trans g2, hB, fun b hb => Nat.le_trans g.size (hC b hb)⟩
  have := d.low b hb; have := hC b hc; omega

theorem one_append {r c a : Int} {d : Bool} {A t : List UInt8} {k : Nat} (h : ((A.length + t.length : Nat) : Int) ≤ r) :
    appendR (one r c a d A k) [97] t = (one r (c + 1) (max (a - 1) (-1)) true A k, 5) ∨ appendR (one r c a d A k) [97] t = (one r (c + 1) (max (a - 1) (-1)) false (A ++ t) k, 0) := by
  by_cases hd : (d || decide (a = 0)) = true
  · left; unfold appendR; rw [if_pos (show (one r c a d A k).call.down = true from hd)]; show ((_ : St), (5 : Int)) = _; unfold St.call one; simp [hd]
  · right
    have hf : (d || decide (a = 0)) = false := by simpa using hd
    unfold appendR
    rw [if_neg (show ¬ (one r c a d A k).call.down = true from hd)]
    have hg : (one r c a d A k).get [97] = some ⟨[97], A, k⟩ := rfl
    rw [hg]
    have hu : used (one r c a d A k).fs = A.length := by simp [used, one]
    simp only [hu]
    rw [if_neg (by show ¬ r < _; omega)]
    unfold St.upd St.call one
    simp [hf]
theorem one_sync (r c a : Int) (d : Bool) (A : List UInt8) (k : Nat) :
    syncR (one r c a d A k) [97] = (one r (c + 1) (max (a - 1) (-1)) true A k, 5) ∨ syncR (one r c a d A k) [97] = (one r (c + 1) (max (a - 1) (-1)) false A A.length, 0) := by
  by_cases hd : (d || decide (a = 0)) = true
  · left; unfold syncR; rw [if_pos (show (one r c a d A k).call.down = true from hd)]; unfold St.call one; simp [hd]
  · right
    have hf : (d || decide (a = 0)) = false := by simpa using hd
    unfold syncR
    rw [if_neg (show ¬ (one r c a d A k).call.down = true from hd)]
    have hg : (one r c a d A k).get [97] = some ⟨[97], A, k⟩ := rfl
    rw [hg]
    unfold St.upd St.call one
    simp [hf]
theorem one_rise (r c a : Int) (d : Bool) (A : List UInt8) (k : Nat) (ks : List Int) :
    riseR (one r c a d A k) ks = one r c (-1) false (A.take (k + min (max (ks.getD 0 0) 0).toNat (A.length - k))) (k + min (max (ks.getD 0 0) 0).toNat (A.length - k)) := by
  unfold riseR
  have h1 : (one r c a d A k).fs.length = 1 := rfl
  rw [h1]
  unfold riseN riseN nameAt one St.upd fall
  simp
theorem one_size (r c : Int) (A : List UInt8) (k : Nat) : sizeR (one r c (-1) false A k) [97] = ((A.length : Int), 0) := rfl
theorem one_read (r c : Int) (A : List UInt8) (k n : Nat) (h : n = A.length) : readR (one r c (-1) false A k).call [97] 0 n = (A, 0) := by
  subst h
  unfold readR
  have hd : (one r c (-1) false A k).call.call.down = false := rfl
  rw [if_neg (by rw [hd]; decide)]
  have hg : (one r c (-1) false A k).call.get [97] = some ⟨[97], A, k⟩ := rfl
  rw [hg]
  simp

theorem app_bs (A : List UInt8) (s : ByteArray) : bs A ++ s = bs (A ++ s.data.toList) := by
  apply ByteArray.ext; simp [bs, ByteArray.data_append]
theorem cut_bs (A : List UInt8) (n : Nat) : (bs A).extract 0 n = bs (A.take n) := by
  apply ByteArray.ext
  apply Array.toList_inj.1
  simp [bs]

structure KeptAt (w : World) (p p2 len : Nat) (allv keptv iv : Value) (wr : World) (i : Nat) (A : List UInt8) (k : Nat) (c a : Int) (d : Bool) : Prop where
  ival : iv = .int .i64 (i : Int)
  ile : i ≤ len
  aval : allv = .string (bs A)
  kval : keptv = .string (bs (A.take k))
  kle : k ≤ A.length
  ale : (A.length : Int) ≤ 100 * i
  c0 : 0 ≤ c
  c1 : c ≤ 1 + 2 * i
  a0 : -1 ≤ a
  a1 : a ≤ 24
  two : Two w p (one 1048576 c a d A k) p2 (one 1048576 1 (-1) false [] 0) wr
def KeptIn (w : World) (p p2 len : Nat) (allv keptv iv : Value) (wr : World) : Prop := ∃ i A k c a d, KeptAt w p p2 len allv keptv iv wr i A k c a d

theorem t_append {w wr : World} {p p2 : Nat} {s s' s2 : St} {t : ByteArray} {c : Int} (h : Two w p s p2 s2 wr) (hr : appendR s [97] t.data.toList = (s', c)) (h1 : s.calls ≤ 1000000000000) (ht : (t.size : Int) ≤ 1000000000000) :
    Calls Try.prog 10 #[.pointer (some ⟨p, 0, none⟩), .string ⟨#[97]⟩, .string t] wr fun e w' => e = .returned (.int .i64 c) ∧ Two w p s' p2 s2 w' :=
  two_of h fun B d _ => by
    have C := append_c p s B ⟨#[97]⟩ t wr d (by decide) rightA h1 (by omega)
    rw [hr] at C
    exact C
theorem t_sync {w wr : World} {p p2 : Nat} {s s' s2 : St} {c : Int} (h : Two w p s p2 s2 wr) (hr : syncR s [97] = (s', c)) (h1 : s.calls ≤ 1000000000000) :
    Calls Try.prog 11 #[.pointer (some ⟨p, 0, none⟩), .string ⟨#[97]⟩] wr fun e w' => e = .returned (.int .i64 c) ∧ Two w p s' p2 s2 w' :=
  two_of h fun B d _ => by
    have C := sync_c p s B ⟨#[97]⟩ wr d (by decide) rightA h1
    rw [hr] at C
    exact C
theorem t_size {w wr : World} {p p2 : Nat} {s s2 : St} {k c : Int} (h : Two w p s p2 s2 wr) (hr : sizeR s [97] = (k, c)) (h1 : s.calls ≤ 1000000000000) :
    Calls Try.prog 13 #[.pointer (some ⟨p, 0, none⟩), .string ⟨#[97]⟩] wr fun e w' => e = .returned (.tuple #[.int .i64 k, .int .i64 c]) ∧ Two w p s.call p2 s2 w' :=
  two_of h fun B d _ => by
    have C := size_c p s B ⟨#[97]⟩ wr d (by decide) rightA h1
    rw [hr] at C
    exact C
theorem t_read {w wr : World} {p p2 : Nat} {s s2 : St} {i k : Nat} {l : List UInt8} {c : Int} (h : Two w p s p2 s2 wr) (hr : readR s [97] i k = (l, c)) (h1 : s.calls ≤ 1000000000000) (hi : (i : Int) ≤ 1000000000000) (hk : (k : Int) ≤ 1000000000000) :
    Calls Try.prog 14 #[.pointer (some ⟨p, 0, none⟩), .string ⟨#[97]⟩, .int .i64 (i : Int), .int .i64 (k : Int)] wr fun e w' => e = .returned (.tuple #[.string (bs l), .int .i64 c]) ∧ Two w p s.call p2 s2 w' :=
  two_of h fun B d _ => by
    have C := read_c p s B ⟨#[97]⟩ i k wr d (by decide) rightA h1 (by omega) (by omega)
    rw [hr] at C
    exact C
theorem t_arm {w wr : World} {p p2 : Nat} {s s2 : St} {n : Int} (h : Two w p s p2 s2 wr) (h0 : -9223372036854775808 ≤ n) (h1 : n ≤ 9223372036854775807) :
    Calls Try.prog 9 #[.pointer (some ⟨p, 0, none⟩), .int .i64 n] wr fun e w' => e = .returned (.tuple #[]) ∧ Two w p (armed s n) p2 s2 w' :=
  two_of h fun B d _ => arm_c p s B n wr d h0 h1
theorem t_rise {w wr : World} {p p2 : Nat} {s s' s2 : St} {a : Option Addr} {ks : List Int} (kc : Nat) (h : Two w p s p2 s2 wr) (hr : riseR s ks = s') (hk : RowIn w a (ks.map (.int .i64))) (hks : ∀ k ∈ ks, I64 k) (hkl : (ks.length : Int) ≤ 1000000000000) :
    Calls Try.prog 12 #[.pointer (some ⟨p, 0, none⟩), .slice a ks.length kc] wr fun e w' => e = .returned (.tuple #[]) ∧ Two w p s' p2 s2 w' :=
  two_of h fun B d hB => by
    subst hr
    refine rise_c p s B a ks kc wr d ?_ hks hkl
    rcases hk with h0 | ⟨b, off, rfl, hb, hc⟩
    · exact .inl (by simpa using h0)
    · refine .inr ⟨b, off, rfl, Nat.lt_of_lt_of_le hb h.old.size, fun e => by have := hB b e; omega, fun j k hj => ?_⟩
      rw [h.old.cell (by exact hb)]
      exact hc j _ (by rw [List.getElem?_map, hj]; rfl)
end Go.Proofs.Ythmcmgbhjdfncaa

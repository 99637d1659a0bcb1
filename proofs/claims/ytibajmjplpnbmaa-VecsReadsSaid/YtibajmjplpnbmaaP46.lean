/- In one text: DsAwake, VcStand. -/
import Derived.Test.YtibajmjplpnbmaaP45
import Derived.Test.YtibajmjplpnbmaaP42
import Derived.Test.YtibajmjplpnbmaaP38
/- The chapter's example. -/
namespace Go.Proofs.Ytibajmjplpnbmaa
open Go.RowKit OctPlain DsPlain
set_option linter.unusedVariables false
set_option linter.unusedSimpArgs false
set_option maxRecDepth 20000
/-- A slice of one slice of one number, that a call has just made. -/
theorem liesII_one (w : World) (x : Int) (T U : TypeId) : LiesII ((w.alloc (.cells #[.int .i64 x] T)).alloc (.cells #[.slice (some ⟨w.heap.size, 0, none⟩) 1 1] U)) (.slice (some ⟨w.heap.size + 1, 0, none⟩) 1 1) [[x]] := by
  have c1 : ((w.alloc (.cells #[.int .i64 x] T)).alloc (.cells #[.slice (some ⟨w.heap.size, 0, none⟩) 1 1] U)).cell? ⟨w.heap.size + 1, 0, none⟩ = some (.slice (some ⟨w.heap.size, 0, none⟩) 1 1) := by
    have := World.cell?_alloc_new (w.alloc (.cells #[.int .i64 x] T)) #[.slice (some ⟨w.heap.size, 0, none⟩) 1 1] U 0
    rw [World.size_alloc] at this
    exact this
  have c2 : ((w.alloc (.cells #[.int .i64 x] T)).alloc (.cells #[.slice (some ⟨w.heap.size, 0, none⟩) 1 1] U)).cell? ⟨w.heap.size, 0, none⟩ = some (.int .i64 x) := by
    have g : Gr (w.alloc (.cells #[.int .i64 x] T)) ((w.alloc (.cells #[.int .i64 x] T)).alloc (.cells #[.slice (some ⟨w.heap.size, 0, none⟩) 1 1] U)) := Below.alloc (Below.refl _ _) (Nat.le_refl _) _
    exact cell_gr g (World.cell?_alloc_new w #[.int .i64 x] T 0)
  refine ⟨_, 1, [.slice (some ⟨w.heap.size, 0, none⟩) 1 1], rfl, Nat.le_refl _, rfl, .inr ⟨_, _, rfl, by simp, fun j y hj => ?_⟩, fun j l hj => ?_⟩
  · obtain rfl : j = 0 := by have := (List.getElem?_eq_some_iff.1 hj).1; simpa using this
    simp at hj; subst hj
    exact c1
  · obtain rfl : j = 0 := by have := (List.getElem?_eq_some_iff.1 hj).1; simpa using this
    simp at hj; subst hj
    refine ⟨_, rfl, _, 1, rfl, Nat.le_refl _, .inr ⟨_, _, rfl, by simp; omega, fun i z hi => ?_⟩⟩
    obtain rfl : i = 0 := by have := (List.getElem?_eq_some_iff.1 hi).1; simpa [ints] using this
    simp [ints] at hi; subst hi
    exact c2
theorem ex_right : right [[7]] = true := by kernel_rfl
theorem ex_lay : layS [[7]] = ⟨#[86, 69, 67, 49, 0, 0, 0, 1, 0, 1, 128, 0, 0, 7]⟩ := by kernel_rfl
theorem ex_pB : pB ⟨#[86, 69, 67, 49, 0, 0, 0, 1, 0, 1, 128, 0, 0, 7]⟩ = true := by kernel_rfl
theorem ex_pL : pL ⟨#[86, 69, 67, 49, 0, 0, 0, 1, 0, 1, 128, 0, 0, 7]⟩ = [[7]] := by kernel_rfl
theorem ex_pN : pB ⟨#[86, 69, 67, 49]⟩ = false := by kernel_rfl
end Go.Proofs.Ytibajmjplpnbmaa
/- Plain facts: a store over a file that is a dataset, where no call fails. -/
namespace Go.Proofs.Ytibajmjplpnbmaa
open Go.RowKit FsPlain OctPlain DsPlain
set_option linter.unusedVariables false
set_option linter.unusedSimpArgs false
set_option maxRecDepth 20000
theorem hd_taken {S : ByteArray} (h : 10 ≤ S.size) : bs (S.data.toList.take 10) = hd S := by
  apply b_eq
  rw [b_data, (hd_ten h).1, x_data]
  simp
/-- What is told of a dataset. -/
theorem shp_stands {s : St} {nm : List UInt8} {L : List (List Int)} (h : Stands s nm (layS L)) (hR : right L = true) : shpN s nm = ⟨s.call.call, L.length, dimN L, 0⟩ := by
  have hl := lay_len hR
  have hh := lay_shB hR
  obtain ⟨h1, h2, h3⟩ := lay_shN hR
  unfold shpN
  rw [h.size, if_neg (by simp), if_neg (by simp only []; omega), h.call.1.read 10 (by omega), if_neg (by simp)]
  simp only [hd_taken (show 10 ≤ (layS L).size by omega)]
  unfold shn shd she
  rw [if_pos hh, if_pos hh, if_pos hh, h1, h2]
theorem chk_stands {s : St} {nm : List UInt8} {L : List (List Int)} (h : Stands s nm (layS L)) (hR : right L = true) : chkN s nm = (s.call.call, 0) := by
  unfold chkN
  rw [h.size]
  dsimp only
  rw [if_neg (by simp), Int.toNat_natCast, h.call.1.read (layS L).size (Nat.le_refl _), if_neg (by simp)]
  have e : bs ((layS L).data.toList.take (layS L).size) = layS L := by
    apply b_eq
    rw [b_data, List.take_of_length_le (by rw [Array.length_toList]; exact Nat.le_refl _)]
  dsimp only
  rw [e]
  unfold pE
  rw [if_pos (lay_pB hR).1]
/-- A vector that is read. -/
theorem read_stands {s : St} {o : So} {L : List (List Int)} (h : Stands s o.nm.data.toList (layS L)) (hR : right L = true) (hd : o.d = dimN L) {k : Nat} {y : List Int} (hy : L[k]? = some y) : readN s o k = (y, 0) := by
  have hl := lay_len hR
  have hk := (List.getElem?_eq_some_iff.1 hy).1
  have hroom := Nat.mul_le_mul_right (dimN L * 4) (show k + 1 ≤ L.length by omega)
  rw [Nat.add_mul, Nat.one_mul] at hroom
  have e : rawN s o k = (((layS L).data.toList.drop (10 + k * (dimN L * 4))).take (dimN L * 4), 0) := by
    unfold rawN
    rw [hd]
    exact h.readAt _ _ (by omega)
  have e2 : bs (((layS L).data.toList.drop (10 + k * (dimN L * 4))).take (dimN L * 4)) = piece (layS L) (dimN L) k := by
    apply b_eq
    rw [b_data]
    unfold piece
    rw [x_data, List.drop_take]
    congr 1; omega
  obtain ⟨v1, v2⟩ := lay_vB hR hy
  unfold readN
  rw [e, hd]
  dsimp only
  rw [e2, if_pos rfl, if_pos v1, v2]
/-- What is kept is of the dataset, and fits. -/
structure VcOk (L : List (List Int)) (room : Nat) (hs : List (Int × List Int)) : Prop where
  room : hs.length ≤ room
  of : ∀ x ∈ hs, ∃ k : Nat, x.1 = (k : Int) ∧ L[k]? = some x.2
theorem vcOk_nil (L : List (List Int)) (room : Nat) : VcOk L room [] := ⟨Nat.zero_le _, fun x hx => by cases hx⟩
theorem vcOk_len {L : List (List Int)} {room m : Nat} {hs : List (Int × List Int)} (h : VcOk L room hs) (hz : ∀ l ∈ L, l.length ≤ m) : ∀ x ∈ hs, x.2.length ≤ m := fun x hx => by
  obtain ⟨k, _, hk⟩ := h.of x hx
  exact hz _ (List.mem_of_getElem? hk)
/-- What an ask that is right leaves. -/
theorem ask_stands {s s' : St} {o : So} {L : List (List Int)} {hs hs' : List (Int × List Int)} {k : Nat} {y l : List Int} {e : Int} (h : Stands s o.nm.data.toList (layS L)) (hR : right L = true) (hn : o.n = L.length) (hd : o.d = dimN L) (h1 : 1 ≤ o.room) (hok : VcOk L o.room hs) (hy : L[k]? = some y) (ha : AskS s o hs (k : Int) l e hs' s') :
    l = y ∧ e = 0 ∧ VcOk L o.room hs' ∧ (∃ r, hs' = ((k : Int), y) :: r) ∧ Stands s' o.nm.data.toList (layS L) ∧ s'.calls ≤ s.calls + 1 := by
  have hk := (List.getElem?_eq_some_iff.1 hy).1
  cases ha with
  | range h0 => omega
  | held a _ hh =>
    obtain ⟨k2, e1, e2⟩ := hok.of _ (List.mem_of_getElem? hh)
    dsimp only at e1 e2
    have : k2 = k := by omega
    subst this
    rw [hy] at e2
    cases e2
    have hlt := (List.getElem?_eq_some_iff.1 hh).1
    refine ⟨rfl, rfl, ⟨?_, fun x hx => ?_⟩, ⟨_, rfl⟩, h, by omega⟩
    · rw [List.length_cons, List.length_eraseIdx_of_lt hlt]
      have := hok.room
      omega
    · rcases List.mem_cons.1 hx with rfl | hx
      · exact ⟨k2, rfl, hy⟩
      · exact hok.of x (List.mem_of_mem_eraseIdx hx)
  | read k2 e1 _ hno h0 =>
    have : k2 = k := by omega
    subst this
    rw [read_stands h hR hd hy]
    dsimp only
    refine ⟨rfl, rfl, ⟨?_, fun x hx => ?_⟩, ⟨_, rfl⟩, h.call.1, Int.le_refl _⟩
    · have := hok.room
      unfold cutS
      rw [List.length_cons]
      split
      · rw [List.length_take]; omega
      · omega
    · rcases List.mem_cons.1 hx with rfl | hx
      · exact ⟨k2, rfl, hy⟩
      · unfold cutS at hx
        split at hx
        · exact hok.of x (List.mem_of_mem_take hx)
        · exact hok.of x hx
  | fail k2 e1 _ hno h0 =>
    have : k2 = k := by omega
    subst this
    rw [read_stands h hR hd hy] at h0
    exact absurd rfl h0
end Go.Proofs.Ytibajmjplpnbmaa

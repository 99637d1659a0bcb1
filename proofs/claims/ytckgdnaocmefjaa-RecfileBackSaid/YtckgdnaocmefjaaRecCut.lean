/- Plain facts: a file cut short, a file that goes on, a file of which bits are turned, is none. -/
import Derived.Test.YtckgdnaocmefjaaRecBoth
namespace Go.Proofs.Ytckgdnaocmefjaa
open Go.RowKit CrcPlain OctPlain FramePlain RecPlain
set_option linter.unusedVariables false
set_option linter.unusedSimpArgs false
theorem cut_none {size : Int} {s : ByteArray} {L : List ByteArray} (h : IsFile size s L) {k : Nat} (hk : k < s.size) (M : List ByteArray) : ¬ IsFile size (s.extract 0 k) M := by
  intro hM
  have e : (s.extract 0 k).data.toList ++ s.data.toList.drop k = s.data.toList := by rw [extract_data, List.drop_zero, List.take_append_drop]
  obtain ⟨_, h2⟩ := file_pre hM h e
  have := congrArg List.length h2
  rw [List.length_drop, data_length] at this
  simp at this
  omega
theorem more_none {size : Int} {s more : ByteArray} {L : List ByteArray} (h : IsFile size s L) (hm : more.size ≠ 0) (M : List ByteArray) : ¬ IsFile size (s ++ more) M := by
  intro hM
  obtain ⟨_, h2⟩ := file_pre h hM (app_data s more).symm
  have := congrArg List.length h2
  rw [data_length] at this
  exact hm this
theorem lay_bound {size : Int} {L : List ByteArray} (h : layB size L = true) (hl : L.length ≤ 30) : 28 ≤ (layR size L).size ∧ (layR size L).size ≤ 2000 ∧ lenN size L.length = ((layR size L).size : Int) := by
  have hz := lay_size h
  have hs := h
  unfold layB at hs
  rw [Bool.and_eq_true] at hs
  have h1 := hs.1
  simp only [sizeB, decide_eq_true_eq] at h1
  have hm := mul_le (show (0 : Int) ≤ L.length by omega) (show (L.length : Int) ≤ 30 by omega) (show 0 ≤ size by omega) h1.2
  have hb : lenB size L.length = true := by unfold lenB; rw [hs.1, Bool.true_and, decide_eq_true_iff]; omega
  rw [lenN_yes hb]
  generalize (L.length : Int) * size = x at hm hz ⊢
  omega
theorem empty_of {s : ByteArray} (h : s.size = 0) : s = ⟨#[]⟩ := by
  apply ext_toList
  have : s.data.toList = [] := List.eq_nil_of_length_eq_zero (by rw [data_length]; exact h)
  rw [this]
/-- Bits turned behind a head leave the head. -/
theorem turn_behind : ∀ {a : List UInt8} {b l' : List UInt8} {first v : Nat}, Turn (a ++ b) l' first v → 8 * a.length ≤ first → ∃ b', l' = a ++ b' ∧ Turn b b' (first - 8 * a.length) v
  | [], b, l', first, v, h, _ => ⟨l', rfl, by simpa using h⟩
  | x :: a, b, l', first, v, h, hf => by
    rw [List.length_cons] at hf
    obtain ⟨r', rfl⟩ := turn_head (b := x) (r := a ++ b) h (by omega)
    have ht : Turn (a ++ b) r' (first - 8) v := by
      obtain ⟨hl, he⟩ := h
      refine ⟨by simpa using hl, ?_⟩
      rw [List.cons_append, le_cons, le_cons] at he
      have e1 : 2 ^ first * v = 2 ^ 8 * (2 ^ (first - 8) * v) := by
        rw [← Nat.mul_assoc, ← Nat.pow_add]
        congr 2
        omega
      rw [e1] at he
      have e2 : 2 ^ 8 * le r' = 2 ^ 8 * (le (a ++ b) ^^^ 2 ^ (first - 8) * v) := by
        rw [mul_xor]
        have h3 := congrArg (x.toNat ^^^ ·) he
        simp only [← Nat.xor_assoc, Nat.xor_self, Nat.zero_xor] at h3
        exact h3
      exact Nat.eq_of_mul_eq_mul_left (by decide) e2
    obtain ⟨b', rfl, hb⟩ := turn_behind ht (by omega)
    exact ⟨b', rfl, by rw [List.length_cons, show first - 8 * (a.length + 1) = first - 8 - 8 * a.length by omega]; exact hb⟩
theorem le_app : ∀ (a b : List UInt8), le (a ++ b) = le a + 2 ^ (8 * a.length) * le b
  | [], b => by simp [le]
  | x :: a, b => by
    rw [List.cons_append, le, le, le_app a b, List.length_cons, Nat.mul_add, show 8 * (a.length + 1) = 8 + 8 * a.length by omega, Nat.pow_add, ← Nat.mul_assoc, ← Nat.add_assoc]
/-- Bits turned ahead of what stands behind leave that. -/
theorem turn_ahead {a b l' : List UInt8} {first v : Nat} (h : Turn (a ++ b) l' first v) (hv : 2 ^ first * v < 2 ^ (8 * a.length)) : ∃ a', l' = a' ++ b ∧ Turn a a' first v := by
  obtain ⟨hl, he⟩ := h
  have hla : (l'.take a.length).length = a.length := by rw [List.length_take, hl, List.length_append]; omega
  have hlb : (l'.drop a.length).length = b.length := by rw [List.length_drop, hl, List.length_append]; omega
  have e0 : l' = l'.take a.length ++ l'.drop a.length := (List.take_append_drop _ _).symm
  rw [e0, le_app, le_app, hla] at he
  have ha := le_lt a
  have ht := le_lt (l'.take a.length)
  rw [hla] at ht
  have hx : le a ^^^ 2 ^ first * v < 2 ^ (8 * a.length) := Nat.xor_lt_two_pow ha hv
  have hr : (le a + 2 ^ (8 * a.length) * le b) ^^^ 2 ^ first * v = (le a ^^^ 2 ^ first * v) + 2 ^ (8 * a.length) * le b := by
    rw [add_xor _ ha, add_xor _ hx, Nat.xor_assoc, Nat.xor_comm (2 ^ (8 * a.length) * le b), ← Nat.xor_assoc]
  rw [hr] at he
  have h1 : le (l'.take a.length) = le a ^^^ 2 ^ first * v := by
    have := congrArg (fun x => x % 2 ^ (8 * a.length)) he
    simp only [Nat.add_mul_mod_self_left] at this
    rwa [Nat.mod_eq_of_lt ht, Nat.mod_eq_of_lt hx] at this
  have h2 : le (l'.drop a.length) = le b := by
    rw [h1] at he
    exact Nat.eq_of_mul_eq_mul_left (Nat.pow_pos (by decide)) (Nat.add_left_cancel he)
  have h3 := le_inj hlb h2
  refine ⟨l'.take a.length, ?_, hla, h1⟩
  rw [← h3]; exact e0
/-- A file of whose one block some bits behind the first byte are turned is none. -/
theorem turned_none {size : Int} {L : List ByteArray} (hB : layB size L = true) (hn : 1 ≤ L.length ∧ L.length ≤ 4) {l' : List UInt8} {first v : Nat} (ht : Turn (layL size L) l' first v) (hf : 96 ≤ first) (hv : v < 4294967296) (h0 : v ≠ 0)
    (hin : ∀ n : Nat, (n : Int) = 5 + L.length * size → 2 ^ (first - 88) * v < 2 ^ (8 * n)) (M : List ByteArray) : ¬ IsFile size (bs l') M := by
  intro hM
  have hc1 : cnt4 L = 1 := by unfold cnt4; omega
  have hb : blkB size L = true := by
    have := four_blk hB (show 0 < cnt4 L by omega)
    rwa [show four L 0 = L by unfold four; rw [Nat.mul_zero, List.drop_zero]; exact List.take_of_length_le hn.2] at this
  have hups : ups L (cnt4 L) = [L] := by
    rw [hc1]
    simp [ups, four]
    exact List.take_of_length_le hn.2
  obtain ⟨n, hz, h6, h261, h5, r, hr⟩ := blk_cl hb
  unfold layL at ht
  rw [hups] at ht
  have e1 : blks [L] = (cl (blk L)).data.toList := by simp [blks]
  rw [e1] at ht
  obtain ⟨b', rfl, ht2⟩ := turn_behind ht (by rw [headS_length]; omega)
  rw [headS_length] at ht2
  have hlen : (cl (blk L)).data.toList.length = n := by rw [data_length, hz]
  obtain ⟨a', rfl, ht3⟩ := turn_ahead ht2 (by rw [hlen]; exact hin n h5.symm)
  have hlt : first - 88 < 8 * n := by
    rcases Nat.lt_or_ge (first - 88) (8 * n) with h | h
    · exact h
    · have h1 := hin n h5.symm
      have h2 : 2 ^ (8 * n) ≤ 2 ^ (first - 88) := Nat.pow_le_pow_right (by decide) h
      have h3 : 2 ^ (first - 88) ≤ 2 ^ (first - 88) * v := Nat.le_mul_of_pos_right _ (by omega)
      omega
  have hg := get_turned hb ht3 (by omega) (by rw [hz]; exact hlt) hv h0
  -- the count's byte stands, so that Get reads no farther than the block
  have hg2 : gB size (bs (a' ++ endL L)) = false := by
    obtain ⟨r', hr'⟩ : ∃ r', a' = UInt8.ofNat L.length :: r' := by
      rw [hr] at ht3
      exact turn_head ht3 (by omega)
    have hca : cntN (bs a') = L.length := by
      rw [cnt_head (by rw [bs_data]; exact hr'), UInt8.toNat_ofNat']; omega
    have hce : cntN (bs (a' ++ endL L)) = L.length := by
      rw [cnt_head (b := UInt8.ofNat L.length) (r := r' ++ endL L) (by rw [bs_data, hr']; rfl), UInt8.toNat_ofNat']; omega
    have hal : (bs a').size = n := by rw [bs_size, ht3.1, hlen]
    have g1 : gLen size (bs a') = n := by unfold gLen; rw [hca]; exact h5
    have g2 : gLen size (bs (a' ++ endL L)) = n := by unfold gLen; rw [hce]; exact h5
    have hx : (bs (a' ++ endL L)).extract 0 n = (bs a').extract 0 n := by
      apply ext_toList
      rw [extract_data, extract_data, bs_data, bs_data, List.drop_zero, List.drop_zero, List.take_append_of_le_length (by rw [ht3.1, hlen]; omega)]
    unfold gB at hg ⊢
    rw [hca, g1, Int.toNat_natCast] at hg
    rw [hce, g2, Int.toNat_natCast, hx]
    have d1 : decide ((n : Int) ≤ ((bs a').size : Int)) = true := by rw [decide_eq_true_iff]; omega
    have d2 : decide ((n : Int) ≤ ((bs (a' ++ endL L)).size : Int)) = true := by
      rw [decide_eq_true_iff, bs_size, List.length_append]
      rw [bs_size] at hal
      omega
    rw [d1] at hg
    rw [d2]
    exact hg
  obtain ⟨h1, _⟩ := file_head hM
  rw [bs_data] at h1
  have hd : (headS size).data.toList ++ (a' ++ endL L) = (headS size).data.toList ++ (blks [] ++ (bs (a' ++ endL L)).data.toList) := by rw [bs_data, blks_nil, List.nil_append]
  have := file_not (ps := []) (r := bs (a' ++ endL L)) (s := bs ((headS size).data.toList ++ (a' ++ endL L))) (by simp) (by rw [bs_data]; exact hd) (.inl hg2) hM
  have h2 := congrArg List.length this.2
  rw [bs_data, List.length_append, endL_length, endL_length, ht3.1, hlen] at h2
  omega
end Go.Proofs.Ytckgdnaocmefjaa

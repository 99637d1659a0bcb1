/- In one text: LoTree, LoPlay. -/
import Derived.Test.YtjplkmmhjfpdaaaGreatDoorF09
/- A tree of losers, plain: who is ahead; winners and losers of places; what one that plays its way up makes of the losers. -/
namespace Go.Proofs.YtjplkmmhjfpdaaaGreatDoor
open Go.RowKit
set_option linter.unusedVariables false
set_option linter.unusedSimpArgs false
set_option maxRecDepth 20000
namespace LoPlain
theorem bl_tri : ∀ a b : List UInt8, Op.bytesLess a b = false → Op.bytesLess b a = true ∨ a = b
  | [], [], _ => .inr rfl
  | [], y :: b, h => by simp [Op.bytesLess] at h
  | x :: a, [], _ => .inl rfl
  | x :: a, y :: b, h => by
    simp only [Op.bytesLess, Bool.or_eq_false_iff, Bool.and_eq_false_iff, decide_eq_false_iff_not, beq_eq_false_iff_ne] at h
    simp only [Op.bytesLess, Bool.or_eq_true, Bool.and_eq_true, decide_eq_true_eq, beq_iff_eq]
    by_cases hxy : x = y
    · subst hxy
      have h2 : Op.bytesLess a b = false := by
        rcases h.2 with h | h
        · exact absurd rfl h
        · exact h
      rcases bl_tri a b h2 with k | k
      · exact .inl (.inr ⟨rfl, k⟩)
      · exact .inr (by rw [k])
    · left; left
      have h1 := h.1
      rw [UInt8.lt_iff_toNat_lt] at h1 ⊢
      have : x.toNat ≠ y.toNat := fun e => hxy (UInt8.toNat_inj.1 e)
      omega
theorem lt_tri15 {a b : ByteArray} (h : ltS a b = false) : ltS b a = true ∨ a = b := by
  rcases bl_tri _ _ h with k | k
  · exact .inl k
  · right
    rw [Lib.toList_data, Lib.toList_data] at k
    exact ByteArray.ext (Array.toList_inj.1 k)
theorem lt_asym15 {a b : ByteArray} (h : ltS a b = true) : ltS b a = false := by
  cases k : ltS b a
  · rfl
  · have := lt_trans15 h k; rw [lt_irrefl15] at this; cases this
theorem best_first (l : List Hd) : ∀ j, 0 ≤ bestN l j → ∀ i : Nat, (i : Int) < bestN l j → oAt l i = false → ltS (sAt l (bestN l j).toNat) (sAt l i) = true
  | 0, h, i, hi, _ => by simp [bestN] at h
  | j + 1, h, i, hi, ho => by
    rw [bestN] at h hi ⊢
    split at h
    · rename_i hc
      rw [if_pos hc] at hi ⊢
      rw [Int.toNat_natCast]
      simp only [Bool.and_eq_true, Bool.or_eq_true, Bool.not_eq_true', decide_eq_true_eq] at hc
      have hij : i < j := by omega
      rcases hc.2 with hb | hb
      · have := best_some l j i hij ho; omega
      · have h0 := best_some l j i hij ho
        have h1 := best_min l j h0 i hij ho
        rcases lt_tri15 h1 with k | k
        · exact lt_trans15 hb k
        · rw [k]; exact hb
    · rename_i hc
      rw [if_neg hc] at hi ⊢
      exact best_first l j h i hi ho
def ahd (l : List Hd) (a b : Nat) : Bool :=
  if oAt l a = oAt l b then (if oAt l a = true then decide (a < b) else (ltS (sAt l a) (sAt l b) || (decide (sAt l a = sAt l b) && decide (a < b)))) else oAt l b
theorem ahd_trans {l : List Hd} {a b c : Nat} (h : ahd l a b = true) (k : ahd l b c = true) : ahd l a c = true := by
  unfold ahd at h k ⊢
  cases ha : oAt l a <;> cases hb : oAt l b <;> cases hc : oAt l c <;> simp [ha, hb, hc] at h k ⊢
  · rcases h with h | ⟨h1, h2⟩ <;> rcases k with k | ⟨k1, k2⟩
    · exact .inl (lt_trans15 h k)
    · exact .inl (k1 ▸ h)
    · exact .inl (h1 ▸ k)
    · exact .inr ⟨h1.trans k1, by omega⟩
  · omega
theorem ahd_asym {l : List Hd} {a b : Nat} (h : ahd l a b = true) : ahd l b a = false := by
  unfold ahd at h ⊢
  cases ha : oAt l a <;> cases hb : oAt l b <;> simp [ha, hb] at h ⊢
  · rcases h with h | ⟨h1, h2⟩
    · refine ⟨lt_asym15 h, fun e => ?_⟩
      rw [e, lt_irrefl15] at h; cases h
    · exact ⟨by rw [h1, lt_irrefl15], fun _ => by omega⟩
  · omega
theorem ahd_total {l : List Hd} {a b : Nat} (hne : a ≠ b) (h : ahd l a b = false) : ahd l b a = true := by
  unfold ahd at h ⊢
  cases ha : oAt l a <;> cases hb : oAt l b <;> simp [ha, hb] at h ⊢
  · rcases lt_tri15 h.1 with k | k
    · exact .inl k
    · exact .inr ⟨k.symm, by have := h.2 k; omega⟩
  · omega
theorem ahd_set {l : List Hd} {i : Nat} (x : Hd) {a b : Nat} (ha : a ≠ i) (hb : b ≠ i) : ahd (l.set i x) a b = ahd l a b := by
  have e : ∀ j, j ≠ i → oAt (l.set i x) j = oAt l j ∧ sAt (l.set i x) j = sAt l j := by
    intro j hj
    unfold oAt sAt
    rw [List.getElem?_set_ne (fun e => hj e.symm)]
    exact ⟨rfl, rfl⟩
  unfold ahd
  rw [(e a ha).1, (e a ha).2, (e b hb).1, (e b hb).2]
theorem least_ahd {l : List Hd} {i : Nat} (hi : i < l.length) (ho : oAt l i = false) (h : ∀ j, j < l.length → j ≠ i → ahd l i j = true) : leastN l = (i : Int) ∧ leastB l = true := by
  have hb := least_some hi ho
  refine ⟨?_, hb⟩
  have h0 : 0 ≤ leastN l := by unfold leastB at hb; rwa [decide_eq_true_iff] at hb
  have hr := leastN_range l
  have hon := least_on hb
  have hmin := least_min hb hi ho
  obtain ⟨m, hm⟩ : ∃ m : Nat, leastN l = (m : Int) := ⟨(leastN l).toNat, by omega⟩
  rw [hm] at hr hon hmin ⊢
  rw [Int.toNat_natCast] at hon hmin
  by_cases he : m = i
  · rw [he]
  · have ha := h m (by omega) he
    unfold ahd at ha
    rw [ho, hon] at ha
    simp [hmin] at ha
    have hf := best_first l l.length h0 i (by unfold leastN at hm; rw [hm]; omega) ho
    unfold leastN at hm
    rw [hm, Int.toNat_natCast, ha.1, lt_irrefl15] at hf
    cases hf
theorem left_zero {l : List Hd} (h : leftN l = 0) : leastB l = false ∧ leastI l = 0 := by
  have hall : ∀ i, i < l.length → oAt l i = true := by
    intro i hi
    unfold leftN at h
    rw [List.countP_eq_zero] at h
    rw [oAt_at (List.getElem?_eq_getElem hi)]
    have := h l[i] (List.getElem_mem hi)
    simpa using this
  have hb : leastB l = false := by
    cases hb : leastB l
    · rfl
    · have h0 : 0 ≤ leastN l := by unfold leastB at hb; rwa [decide_eq_true_iff] at hb
      have hr := leastN_range l
      have := least_on hb
      rw [hall _ (by omega)] at this; cases this
  refine ⟨hb, ?_⟩
  unfold leastB at hb
  rw [decide_eq_false_iff_not] at hb
  unfold leastI
  omega
theorem left_some {l : List Hd} (h : leftN l ≠ 0) : ∃ i, i < l.length ∧ oAt l i = false := by
  unfold leftN at h
  have h1 : 0 < l.countP (fun x => !x.o) := by omega
  rw [List.countP_pos_iff] at h1
  obtain ⟨x, hx, ho⟩ := h1
  obtain ⟨i, hi, rfl⟩ := List.getElem_of_mem hx
  exact ⟨i, hi, by rw [oAt_at (List.getElem?_eq_getElem hi)]; simpa using ho⟩
def winA (n : Nat) (lt : Nat → Nat → Bool) (c : Nat) : Nat :=
  if h : 1 ≤ c ∧ c < n then (if lt (winA n lt (2 * c + 1)) (winA n lt (2 * c)) = true then winA n lt (2 * c + 1) else winA n lt (2 * c)) else c - n
termination_by n - c
decreasing_by all_goals omega
def losA (n : Nat) (lt : Nat → Nat → Bool) (c : Nat) : Nat :=
  if lt (winA n lt (2 * c + 1)) (winA n lt (2 * c)) = true then winA n lt (2 * c) else winA n lt (2 * c + 1)
theorem win_in {n : Nat} {lt : Nat → Nat → Bool} {c : Nat} (h1 : 1 ≤ c) (h2 : c < n) : winA n lt c = if lt (winA n lt (2 * c + 1)) (winA n lt (2 * c)) = true then winA n lt (2 * c + 1) else winA n lt (2 * c) := by
  rw [winA.eq_1 n lt c, dif_pos ⟨h1, h2⟩]
theorem win_leaf {n : Nat} {lt : Nat → Nat → Bool} (j : Nat) : winA n lt (n + j) = j := by
  rw [winA.eq_1 n lt (n + j), dif_neg (by omega)]
  omega
def Und (n c j : Nat) : Prop := ∃ k, (n + j) / 2 ^ k = c
theorem und_leaf (n j : Nat) : Und n (n + j) j := ⟨0, by simp⟩
theorem und_up {n c j : Nat} (h : Und n c j) : Und n (c / 2) j := by
  obtain ⟨k, rfl⟩ := h
  exact ⟨k + 1, by rw [Nat.pow_succ, Nat.div_div_eq_div_mul]⟩
theorem und_ups {n c j : Nat} (h : Und n c j) (m : Nat) : Und n (c / 2 ^ m) j := by
  obtain ⟨k, rfl⟩ := h
  exact ⟨k + m, by rw [Nat.pow_add, Nat.div_div_eq_div_mul]⟩
theorem und_of_leaf {n i j : Nat} (hj : j < n) (h : Und n (n + i) j) : j = i := by
  obtain ⟨k, hk⟩ := h
  rcases k with _ | k
  · simp at hk; exact hk
  · have h1 : (n + j) / 2 ^ (k + 1) ≤ (n + j) / 2 := by
      rw [Nat.pow_succ, Nat.mul_comm, ← Nat.div_div_eq_div_mul]
      exact Nat.div_le_self _ _
    omega
theorem und_down {n c j : Nat} (hc : c < n) (hj : j < n) (h : Und n c j) : Und n (2 * c) j ∨ Und n (2 * c + 1) j := by
  obtain ⟨k, hk⟩ := h
  rcases k with _ | k
  · simp at hk; omega
  · rw [Nat.pow_succ, ← Nat.div_div_eq_div_mul] at hk
    have : (n + j) / 2 ^ k = 2 * c ∨ (n + j) / 2 ^ k = 2 * c + 1 := by omega
    rcases this with h | h
    · exact .inl ⟨k, h⟩
    · exact .inr ⟨k, h⟩
theorem und_apart {n c j : Nat} (hc : 1 ≤ c) (h : Und n (2 * c) j) (k : Und n (2 * c + 1) j) : False := by
  obtain ⟨a, ha⟩ := h
  obtain ⟨b, hb⟩ := k
  have key : ∀ x d : Nat, x / 2 ^ (d + 1) ≤ x / 2 := by
    intro x d
    rw [Nat.pow_succ, Nat.mul_comm, ← Nat.div_div_eq_div_mul]
    exact Nat.div_le_self _ _
  rcases Nat.lt_trichotomy a b with hab | hab | hab
  · obtain ⟨d, rfl⟩ : ∃ d, b = a + (d + 1) := ⟨b - a - 1, by omega⟩
    rw [Nat.pow_add, ← Nat.div_div_eq_div_mul, ha] at hb
    have := key (2 * c) d
    omega
  · subst hab; omega
  · obtain ⟨d, rfl⟩ : ∃ d, a = b + (d + 1) := ⟨a - b - 1, by omega⟩
    rw [Nat.pow_add, ← Nat.div_div_eq_div_mul, hb] at ha
    have := key (2 * c + 1) d
    omega
theorem win_und {n : Nat} {lt : Nat → Nat → Bool} : ∀ (m c : Nat), n - c ≤ m → 1 ≤ c → c < 2 * n → winA n lt c < n ∧ Und n c (winA n lt c) := by
  intro m
  induction m with
  | zero =>
    intro c hm h1 h2
    obtain ⟨j, rfl⟩ : ∃ j, c = n + j := ⟨c - n, by omega⟩
    rw [win_leaf]
    exact ⟨by omega, und_leaf n j⟩
  | succ m ih =>
    intro c hm h1 h2
    by_cases hc : c < n
    · rw [win_in h1 hc]
      split
      · obtain ⟨a, b⟩ := ih (2 * c + 1) (by omega) (by omega) (by omega)
        refine ⟨a, ?_⟩
        have := und_up b
        rwa [show (2 * c + 1) / 2 = c by omega] at this
      · obtain ⟨a, b⟩ := ih (2 * c) (by omega) (by omega) (by omega)
        refine ⟨a, ?_⟩
        have := und_up b
        rwa [show (2 * c) / 2 = c by omega] at this
    · obtain ⟨j, rfl⟩ : ∃ j, c = n + j := ⟨c - n, by omega⟩
      rw [win_leaf]
      exact ⟨by omega, und_leaf n j⟩
theorem win_lt {n : Nat} {lt : Nat → Nat → Bool} {c : Nat} (h1 : 1 ≤ c) (h2 : c < 2 * n) : winA n lt c < n := (win_und (n - c) c (Nat.le_refl _) h1 h2).1
theorem win_is {n : Nat} {lt : Nat → Nat → Bool} {c : Nat} (h1 : 1 ≤ c) (h2 : c < 2 * n) : Und n c (winA n lt c) := (win_und (n - c) c (Nat.le_refl _) h1 h2).2
structure Ord (n : Nat) (lt : Nat → Nat → Bool) : Prop where
  trans : ∀ a b c, lt a b = true → lt b c = true → lt a c = true
  asym : ∀ a b, lt a b = true → lt b a = false
  total : ∀ a b, a ≠ b → lt a b = false → lt b a = true
theorem ord_ahd (n : Nat) (l : List Hd) : Ord n (ahd l) := ⟨fun _ _ _ => ahd_trans, fun _ _ => ahd_asym, fun _ _ => ahd_total⟩
theorem win_min {n : Nat} {lt : Nat → Nat → Bool} (O : Ord n lt) : ∀ (m c : Nat), n - c ≤ m → 1 ≤ c → c < 2 * n → ∀ j, j < n → Und n c j → j ≠ winA n lt c → lt (winA n lt c) j = true := by
  intro m
  induction m with
  | zero =>
    intro c hm h1 h2 j hj hu hne
    obtain ⟨i, rfl⟩ : ∃ j, c = n + j := ⟨c - n, by omega⟩
    rw [win_leaf] at hne
    exact absurd (und_of_leaf hj hu) hne
  | succ m ih =>
    intro c hm h1 h2 j hj hu hne
    by_cases hc : c < n
    · have ia := ih (2 * c) (by omega) (by omega) (by omega) j hj
      have ib := ih (2 * c + 1) (by omega) (by omega) (by omega) j hj
      rw [win_in h1 hc] at hne ⊢
      split at hne
      · rename_i hlt
        rw [if_pos hlt]
        rcases und_down hc hj hu with k | k
        · by_cases he : j = winA n lt (2 * c)
          · rw [he]; exact hlt
          · exact O.trans _ _ _ hlt (ia k he)
        · exact ib k hne
      · rename_i hlt
        rw [if_neg hlt]
        rcases und_down hc hj hu with k | k
        · exact ia k hne
        · have hneq : winA n lt (2 * c + 1) ≠ winA n lt (2 * c) := by
            intro e
            have u1 := win_is (lt := lt) (n := n) (c := 2 * c) (by omega) (by omega)
            have u2 := win_is (lt := lt) (n := n) (c := 2 * c + 1) (by omega) (by omega)
            rw [e] at u2
            exact und_apart h1 u1 u2
          have hlt2 := O.total _ _ hneq (by simpa using hlt)
          by_cases he : j = winA n lt (2 * c + 1)
          · rw [he]; exact hlt2
          · exact O.trans _ _ _ hlt2 (ib k he)
    · obtain ⟨i, rfl⟩ : ∃ j, c = n + j := ⟨c - n, by omega⟩
      rw [win_leaf] at hne
      exact absurd (und_of_leaf hj hu) hne
theorem und_root {n : Nat} (hn : 1 ≤ n) : ∀ (c : Nat), 1 ≤ c → ∃ k, c / 2 ^ k = 1 := by
  intro c
  induction c using Nat.strongRecOn with
  | _ c ih =>
    intro h
    by_cases h1 : c = 1
    · exact ⟨0, by simp [h1]⟩
    · obtain ⟨k, hk⟩ := ih (c / 2) (by omega) (by omega)
      exact ⟨k + 1, by rw [Nat.pow_succ, Nat.mul_comm, ← Nat.div_div_eq_div_mul]; exact hk⟩
theorem und_one {n j : Nat} (hn : 1 ≤ n) : Und n 1 j := by
  obtain ⟨k, hk⟩ := und_root hn (n + j) (by omega)
  exact ⟨k, hk⟩
theorem win_congr {n : Nat} {lt lt' : Nat → Nat → Bool} {i : Nat} (h : ∀ a b, a ≠ i → b ≠ i → lt a b = lt' a b) : ∀ (m c : Nat), n - c ≤ m → 1 ≤ c → c < 2 * n → ¬ Und n c i → winA n lt c = winA n lt' c := by
  intro m
  induction m with
  | zero =>
    intro c hm h1 h2 hu
    obtain ⟨j, rfl⟩ : ∃ j, c = n + j := ⟨c - n, by omega⟩
    rw [win_leaf, win_leaf]
  | succ m ih =>
    intro c hm h1 h2 hu
    by_cases hc : c < n
    · have u1 : ¬ Und n (2 * c) i := fun k => hu (by have := und_up k; rwa [show (2 * c) / 2 = c by omega] at this)
      have u2 : ¬ Und n (2 * c + 1) i := fun k => hu (by have := und_up k; rwa [show (2 * c + 1) / 2 = c by omega] at this)
      have a := ih (2 * c) (by omega) (by omega) (by omega) u1
      have b := ih (2 * c + 1) (by omega) (by omega) (by omega) u2
      have w1 := win_is (lt := lt') (n := n) (c := 2 * c) (by omega) (by omega)
      have w2 := win_is (lt := lt') (n := n) (c := 2 * c + 1) (by omega) (by omega)
      rw [win_in h1 hc, win_in h1 hc, a, b, h _ _ (fun e => u2 (e ▸ w2)) (fun e => u1 (e ▸ w1))]
    · obtain ⟨j, rfl⟩ : ∃ j, c = n + j := ⟨c - n, by omega⟩
      rw [win_leaf, win_leaf]
theorem win_same {n : Nat} {lt lt' : Nat → Nat → Bool} {i c : Nat} (h : ∀ a b, a ≠ i → b ≠ i → lt a b = lt' a b) (h1 : 1 ≤ c) (h2 : c < 2 * n) (hu : ¬ Und n c i) : winA n lt c = winA n lt' c := win_congr h (n - c) c (Nat.le_refl _) h1 h2 hu
def Fin15 (n : Nat) (G : Nat → Prop) (c : Nat) : Prop := ∀ j, j < n → Und n c j → G j
theorem fin_two {n : Nat} {G : Nat → Prop} {p : Nat} (h2 : p < n) : Fin15 n G p ↔ Fin15 n G (2 * p) ∧ Fin15 n G (2 * p + 1) := by
  constructor
  · intro h
    refine ⟨fun j hj hu => h j hj ?_, fun j hj hu => h j hj ?_⟩
    · have := und_up hu; rwa [show (2 * p) / 2 = p by omega] at this
    · have := und_up hu; rwa [show (2 * p + 1) / 2 = p by omega] at this
  · rintro ⟨h, k⟩ j hj hu
    rcases und_down h2 hj hu with a | a
    · exact h j hj a
    · exact k j hj a
theorem fin_not {n : Nat} {G : Nat → Prop} {c i : Nat} (hi : i < n) (hu : Und n c i) (hG : ¬ G i) : ¬ Fin15 n G c := fun h => hG (h i hi hu)
theorem fin_iff {n : Nat} {G : Nat → Prop} {c i : Nat} (hu : ¬ Und n c i) : Fin15 n (fun j => G j ∨ j = i) c ↔ Fin15 n G c :=
  ⟨fun h j hj k => (h j hj k).resolve_right (fun e => hu (e ▸ k)), fun h j hj k => .inl (h j hj k)⟩
open Classical in
noncomputable def bstA (n : Nat) (lt : Nat → Nat → Bool) (F : Nat → Prop) (q : Nat) : Int :=
  if F (2 * q) then (if F (2 * q + 1) then (losA n lt q : Int) else (winA n lt (2 * q) : Int)) else (if F (2 * q + 1) then (winA n lt (2 * q + 1) : Int) else -1)
theorem bst_congr {n : Nat} {lt : Nat → Nat → Bool} {F F' : Nat → Prop} {q : Nat} (h1 : F (2 * q) ↔ F' (2 * q)) (h2 : F (2 * q + 1) ↔ F' (2 * q + 1)) : bstA n lt F q = bstA n lt F' q := by
  unfold bstA
  rw [propext h1, propext h2]
def updA (f : Nat → Int) (p : Nat) (v : Int) : Nat → Int := fun q => if q = p then v else f q
def playN (lt : Nat → Nat → Bool) (f : Nat → Int) (win : Int) (x p : Nat) : (Nat → Int) × Int :=
  if h : p = 0 then (f, (x : Int)) else
  if f p = -1 then (updA f p x, win) else
  if lt (f p).toNat x = true then playN lt (updA f p x) win (f p).toNat (p / 2) else playN lt f win x (p / 2)
termination_by p
decreasing_by all_goals omega
end LoPlain
end Go.Proofs.YtjplkmmhjfpdaaaGreatDoor
/- One plays its way up a tree of losers: at the making, and behind a change of the least; plain. -/
namespace Go.Proofs.YtjplkmmhjfpdaaaGreatDoor
open Go.RowKit
set_option linter.unusedVariables false
set_option linter.unusedSimpArgs false
set_option maxRecDepth 20000
namespace LoPlain
theorem upd_at (f : Nat → Int) (p : Nat) (v : Int) : updA f p v p = v := by simp [updA]
theorem upd_ne (f : Nat → Int) {p q : Nat} (v : Int) (h : q ≠ p) : updA f p v q = f q := by simp [updA, h]
theorem anc_lt {c k : Nat} (hc : 1 ≤ c) : c / 2 ^ (k + 1) < c := by
  rw [Nat.pow_succ, Nat.mul_comm, ← Nat.div_div_eq_div_mul]
  have := Nat.div_le_self (c / 2) (2 ^ k)
  omega
theorem anc_half (c k : Nat) : c / 2 / 2 ^ (k + 1) = c / 2 ^ (k + 1 + 1) := by
  rw [Nat.div_div_eq_div_mul, ← Nat.pow_succ']
theorem anc_one (c : Nat) : c / 2 ^ (0 + 1) = c / 2 := by simp
theorem anc_parts {c q : Nat} (h : ∃ k, c / 2 ^ (k + 1) = q) : q = c / 2 ∨ ∃ k, c / 2 / 2 ^ (k + 1) = q := by
  obtain ⟨k, rfl⟩ := h
  rcases k with _ | k
  · exact .inl (anc_one c)
  · exact .inr ⟨k, anc_half c k⟩
theorem und_child {n c j : Nat} {d : Nat} (h : Und n d j) (hd : d / 2 = c) : Und n c j := hd ▸ und_up h
theorem bst_one {n : Nat} {lt : Nat → Nat → Bool} {F : Nat → Prop} {p : Nat} :
    (F (2 * p) → F (2 * p + 1) → bstA n lt F p = (losA n lt p : Int)) ∧ (F (2 * p) → ¬ F (2 * p + 1) → bstA n lt F p = (winA n lt (2 * p) : Int)) ∧
    (¬ F (2 * p) → F (2 * p + 1) → bstA n lt F p = (winA n lt (2 * p + 1) : Int)) ∧ (¬ F (2 * p) → ¬ F (2 * p + 1) → bstA n lt F p = -1) := by
  unfold bstA
  refine ⟨fun a b => ?_, fun a b => ?_, fun a b => ?_, fun a b => ?_⟩ <;> simp [a, b]
theorem play_main {n : Nat} {lt : Nat → Nat → Bool} {G : Nat → Prop} {i : Nat} (O : Ord n lt) (hi : i < n) (hG : ¬ G i) : ∀ (c : Nat), 1 ≤ c → c < 2 * n → Und n c i → Fin15 n (fun j => G j ∨ j = i) c → ∀ (f : Nat → Int) (win : Int),
    (∀ q, 1 ≤ q → q < n → ((∃ k, c / 2 ^ (k + 1) = q) → f q = bstA n lt (Fin15 n G) q) ∧ ((¬ ∃ k, c / 2 ^ (k + 1) = q) → f q = bstA n lt (Fin15 n (fun j => G j ∨ j = i)) q)) →
    (∀ q, 1 ≤ q → q < n → (playN lt f win (winA n lt c) (c / 2)).1 q = bstA n lt (Fin15 n (fun j => G j ∨ j = i)) q) ∧ (Fin15 n (fun j => G j ∨ j = i) 1 → (playN lt f win (winA n lt c) (c / 2)).2 = (winA n lt 1 : Int)) := by
  intro c
  induction c using Nat.strongRecOn with
  | _ c ih =>
    intro hc1 hc2 hu hF f win hf
    rw [playN]
    by_cases hp : c / 2 = 0
    · rw [dif_pos hp]
      have e : c = 1 := by omega
      subst e
      refine ⟨fun q h1 h2 => (hf q h1 h2).2 ?_, fun _ => rfl⟩
      rintro ⟨k, hk⟩
      have := anc_lt (c := 1) (k := k) (Nat.le_refl _)
      omega
    · rw [dif_neg hp]
      obtain ⟨p, hpe⟩ : ∃ p, c / 2 = p := ⟨_, rfl⟩
      rw [hpe]
      have hp1 : 1 ≤ p := by omega
      have hpn : p < n := by omega
      have hup : Und n p i := und_child hu hpe
      have hfp := (hf p hp1 hpn).1 ⟨0, by rw [anc_one]; exact hpe⟩
      obtain ⟨G1, hG1⟩ : ∃ G1, (fun j => G j ∨ j = i) = G1 := ⟨_, rfl⟩
      have hiff : ∀ d, ¬ Und n d i → (Fin15 n G1 d ↔ Fin15 n G d) := fun d hd => by rw [← hG1]; exact fin_iff hd
      rw [hG1] at hF hf ⊢
      have hnc : ¬ Fin15 n G c := fin_not hi hu hG
      -- the sibling
      obtain ⟨s, hs, hs1, hs2, hsu⟩ : ∃ s, (c = 2 * p ∧ s = 2 * p + 1 ∨ c = 2 * p + 1 ∧ s = 2 * p) ∧ 1 ≤ s ∧ s < 2 * n ∧ ¬ Und n s i := by
        rcases (by omega : c = 2 * p ∨ c = 2 * p + 1) with e | e
        · exact ⟨2 * p + 1, .inl ⟨e, rfl⟩, by omega, by omega, fun k => und_apart hp1 (e ▸ hu) k⟩
        · exact ⟨2 * p, .inr ⟨e, rfl⟩, by omega, by omega, fun k => und_apart hp1 k (e ▸ hu)⟩
      have hsF := hiff s hsu
      by_cases hsf : Fin15 n G1 s
      · -- the sibling has played
        have hfw : f p = (winA n lt s : Int) := by
          rw [hfp]
          rcases hs with ⟨e1, e2⟩ | ⟨e1, e2⟩
          · exact e2 ▸ bst_one.2.2.1 (e1 ▸ hnc) (e2 ▸ hsF.1 hsf)
          · exact e2 ▸ bst_one.2.1 (e2 ▸ hsF.1 hsf) (e1 ▸ hnc)
        rw [if_neg (by rw [hfw]; omega), hfw, Int.toNat_natCast]
        have hne : winA n lt s ≠ winA n lt c := by
          intro e
          have u1 := win_is (lt := lt) hs1 hs2
          have u2 := win_is (lt := lt) hc1 hc2
          rw [e] at u1
          generalize winA n lt c = z at u1 u2
          rcases hs with ⟨e1, e2⟩ | ⟨e1, e2⟩
          · exact und_apart hp1 (e1 ▸ u2) (e2 ▸ u1)
          · exact und_apart hp1 (e2 ▸ u1) (e1 ▸ u2)
        have hFp : Fin15 n G1 p := by
          rw [fin_two hpn]
          rcases hs with ⟨e1, e2⟩ | ⟨e1, e2⟩
          · exact ⟨e1 ▸ hF, e2 ▸ hsf⟩
          · exact ⟨e2 ▸ hsf, e1 ▸ hF⟩
        have hB1 : bstA n lt (Fin15 n G1) p = (losA n lt p : Int) := by
          rw [fin_two hpn] at hFp
          exact bst_one.1 hFp.1 hFp.2
        have hW : winA n lt p = (if lt (winA n lt s) (winA n lt c) = true then winA n lt s else winA n lt c) ∧ losA n lt p = (if lt (winA n lt s) (winA n lt c) = true then winA n lt c else winA n lt s) := by
          rw [win_in hp1 hpn]
          unfold losA
          rcases hs with ⟨e1, e2⟩ | ⟨e1, e2⟩
          · rw [e1, e2]; exact ⟨rfl, rfl⟩
          · rw [e1, e2]
            rw [e1, e2] at hne
            cases h1 : lt (winA n lt (2 * p + 1)) (winA n lt (2 * p))
            · have := O.total _ _ (fun e => hne e.symm) h1
              simp [this]
            · have := O.asym _ _ h1
              simp [this]
        have anc2 : ∀ q, q ≠ p → ((∃ k, c / 2 ^ (k + 1) = q) ↔ ∃ k, p / 2 ^ (k + 1) = q) := by
          intro q hq
          constructor
          · intro h
            rcases anc_parts h with e | e
            · exact absurd (e.trans hpe) hq
            · rw [hpe] at e; exact e
          · rintro ⟨k, hk⟩
            exact ⟨k + 1, by rw [← anc_half, hpe]; exact hk⟩
        have pself : ¬ ∃ k, p / 2 ^ (k + 1) = p := by
          rintro ⟨k, hk⟩
          have := anc_lt (c := p) (k := k) hp1
          omega
        have IH := ih p (by omega) hp1 (by omega) hup (by rw [hG1]; exact hFp)
        rw [hG1] at IH
        split
        · rename_i hlt
          rw [if_pos hlt, if_pos hlt] at hW
          have := IH (updA f p (winA n lt c : Int)) win (fun q h1 h2 => by
            by_cases hq : q = p
            · subst hq
              refine ⟨fun h => absurd h pself, fun _ => ?_⟩
              rw [upd_at, hB1, hW.2]
            · rw [upd_ne _ _ hq, ← anc2 q hq]
              exact hf q h1 h2)
          rw [hW.1] at this
          exact this
        · rename_i hlt
          rw [if_neg hlt, if_neg hlt] at hW
          have := IH f win (fun q h1 h2 => by
            by_cases hq : q = p
            · subst hq
              refine ⟨fun h => absurd h pself, fun _ => ?_⟩
              rw [hB1, hW.2, hfw]
            · rw [← anc2 q hq]
              exact hf q h1 h2)
          rw [hW.1] at this
          exact this
      · -- it has not
        have hsf0 : ¬ Fin15 n G s := fun h => hsf (hsF.2 h)
        have hfw : f p = -1 := by
          rw [hfp]
          rcases hs with ⟨e1, e2⟩ | ⟨e1, e2⟩
          · exact bst_one.2.2.2 (e1 ▸ hnc) (e2 ▸ hsf0)
          · exact bst_one.2.2.2 (e2 ▸ hsf0) (e1 ▸ hnc)
        rw [if_pos hfw]
        have hnp : ¬ Fin15 n G1 p := by
          rw [fin_two hpn]
          rintro ⟨a, b⟩
          rcases hs with ⟨e1, e2⟩ | ⟨e1, e2⟩
          · exact hsf (e2 ▸ b)
          · exact hsf (e2 ▸ a)
        have hup1 : ∀ k, ¬ Fin15 n G1 (p / 2 ^ k) := by
          intro k h
          refine hnp fun j hj hu1 => h j hj (und_ups hu1 k)
        refine ⟨fun q h1 h2 => ?_, fun h => ?_⟩
        · by_cases hq : q = p
          · subst hq
            show updA f q _ q = _
            rw [upd_at]
            rcases hs with ⟨e1, e2⟩ | ⟨e1, e2⟩
            · exact e1 ▸ (bst_one.2.1 (e1 ▸ hF) (e2 ▸ hsf)).symm
            · exact e1 ▸ (bst_one.2.2.1 (e2 ▸ hsf) (e1 ▸ hF)).symm
          · show updA f p _ q = _
            rw [upd_ne _ _ hq]
            by_cases ha : ∃ k, c / 2 ^ (k + 1) = q
            · rw [(hf q h1 h2).1 ha]
              have ha' := ha
              obtain ⟨k, hk⟩ := ha
              rcases k with _ | k
              · rw [anc_one] at hk; omega
              · -- the child of q on the way
                have hd : (c / 2 ^ (k + 1)) / 2 = q := by rw [← hk, Nat.pow_succ 2 (k + 1), Nat.div_div_eq_div_mul]
                have hdu : Und n (c / 2 ^ (k + 1)) i := und_ups hu (k + 1)
                have hdn : ¬ Fin15 n G1 (c / 2 ^ (k + 1)) := by
                  have := hup1 k
                  rw [← hpe, Nat.div_div_eq_div_mul, ← Nat.pow_succ'] at this
                  exact this
                have hdn0 : ¬ Fin15 n G (c / 2 ^ (k + 1)) := fin_not hi hdu hG
                rcases (by omega : c / 2 ^ (k + 1) = 2 * q ∨ c / 2 ^ (k + 1) = 2 * q + 1) with e | e
                · rw [e] at hdn hdn0 hdu
                  exact bst_congr ⟨fun h => absurd h hdn0, fun h => absurd h hdn⟩ (hiff _ (fun k => und_apart h1 hdu k)).symm
                · rw [e] at hdn hdn0 hdu
                  exact bst_congr (hiff _ (fun k => und_apart h1 k hdu)).symm ⟨fun h => absurd h hdn0, fun h => absurd h hdn⟩
            · exact (hf q h1 h2).2 ha
        · obtain ⟨k, hk⟩ := und_root (n := n) (by omega) p hp1
          exact absurd (hk ▸ h) (hup1 k)
theorem not_anc {n i q : Nat} (h2 : q < n) (h : ¬ ∃ k, (n + i) / 2 ^ (k + 1) = q) : ¬ Und n q i ∧ ¬ Und n (2 * q) i ∧ ¬ Und n (2 * q + 1) i := by
  have h0 : ¬ Und n q i := by
    rintro ⟨k, hk⟩
    rcases k with _ | k
    · simp at hk; omega
    · exact h ⟨k, hk⟩
  exact ⟨h0, fun k => h0 (und_child k (by omega)), fun k => h0 (und_child k (by omega))⟩
def Mad15 (n : Nat) (lt : Nat → Nat → Bool) (k : Nat) (f : Nat → Int) : Prop := ∀ q, 1 ≤ q → q < n → f q = bstA n lt (Fin15 n (fun j => j < k)) q
theorem mad_zero (n : Nat) (lt : Nat → Nat → Bool) : Mad15 n lt 0 (fun _ => -1) := by
  intro q h1 h2
  refine (bst_one.2.2.2 (fun h => ?_) (fun h => ?_)).symm
  · have := h _ (win_lt (lt := lt) (n := n) (c := 2 * q) (by omega) (by omega)) (win_is (by omega) (by omega)); omega
  · have := h _ (win_lt (lt := lt) (n := n) (c := 2 * q + 1) (by omega) (by omega)) (win_is (by omega) (by omega)); omega
theorem mad_step {n : Nat} {lt : Nat → Nat → Bool} (O : Ord n lt) {k : Nat} (hk : k < n) {f : Nat → Int} (h : Mad15 n lt k f) (win : Int) :
    Mad15 n lt (k + 1) (playN lt f win k ((n + k) / 2)).1 ∧ (k + 1 = n → (playN lt f win k ((n + k) / 2)).2 = (winA n lt 1 : Int)) := by
  have e : (fun j => j < k ∨ j = k) = (fun j => j < k + 1) := by funext j; apply propext; omega
  have hu := und_leaf n k
  have M := play_main (G := fun j => j < k) O hk (by omega) (n + k) (by omega) (by omega) hu (fun j hj hu => .inr (und_of_leaf hj hu)) f win (fun q h1 h2 => by
    refine ⟨fun _ => h q h1 h2, fun ha => ?_⟩
    rw [h q h1 h2]
    obtain ⟨_, a, b⟩ := not_anc h2 ha
    exact bst_congr (fin_iff (G := fun j => j < k) a).symm (fin_iff (G := fun j => j < k) b).symm)
  rw [e, win_leaf] at M
  refine ⟨M.1, fun he => M.2 fun j hj _ => ?_⟩
  show j < k + 1
  omega
theorem mad_end {n : Nat} {lt : Nat → Nat → Bool} {f : Nat → Int} (h : Mad15 n lt n f) : ∀ q, 1 ≤ q → q < n → f q = (losA n lt q : Int) := by
  intro q h1 h2
  rw [h q h1 h2]
  exact bst_one.1 (fun j hj _ => hj) (fun j hj _ => hj)
theorem mad_range {n : Nat} {lt : Nat → Nat → Bool} {k : Nat} {f : Nat → Int} (h : Mad15 n lt k f) : ∀ q, 1 ≤ q → q < n → f q = -1 ∨ (0 ≤ f q ∧ f q < n) := by
  intro q h1 h2
  rw [h q h1 h2]
  have a := win_lt (lt := lt) (n := n) (c := 2 * q) (by omega) (by omega)
  have b := win_lt (lt := lt) (n := n) (c := 2 * q + 1) (by omega) (by omega)
  unfold bstA losA
  repeat' split
  all_goals omega
theorem next_step {n : Nat} {lt lt' : Nat → Nat → Bool} (O : Ord n lt) (O' : Ord n lt') {i : Nat} (hi : i < n) (hw : winA n lt 1 = i) (hs : ∀ a b, a ≠ i → b ≠ i → lt a b = lt' a b) {f : Nat → Int} (h : ∀ q, 1 ≤ q → q < n → f q = (losA n lt q : Int)) (win : Int) :
    (∀ q, 1 ≤ q → q < n → (playN lt' f win i ((n + i) / 2)).1 q = (losA n lt' q : Int)) ∧ (playN lt' f win i ((n + i) / 2)).2 = (winA n lt' 1 : Int) := by
  have hu := und_leaf n i
  have hmin : ∀ c, 1 ≤ c → c < 2 * n → Und n c i → winA n lt c = i := by
    intro c h1 h2 hu
    by_cases e : i = winA n lt c
    · exact e.symm
    · have k1 := win_min O (n - c) c (Nat.le_refl _) h1 h2 i hi hu e
      have k2 := win_min O (n - 1) 1 (Nat.le_refl _) (Nat.le_refl _) (by omega) (winA n lt c) (win_lt h1 h2) (und_one (by omega)) (by rw [hw]; exact fun e2 => e e2.symm)
      rw [hw] at k2
      rw [O.asym _ _ k1] at k2
      cases k2
  have hall : ∀ c, Fin15 n (fun j => j ≠ i ∨ j = i) c := fun c j _ _ => by show j ≠ i ∨ j = i; omega
  have M := play_main (lt := lt') (G := fun j => j ≠ i) O' hi (by simp) (n + i) (by omega) (by omega) hu (hall _) f win (fun q h1 h2 => by
    rw [h q h1 h2]
    refine ⟨fun ha => ?_, fun ha => ?_⟩
    · obtain ⟨k, hk⟩ := ha
      have hd : ((n + i) / 2 ^ k) / 2 = q := by rw [← hk, Nat.pow_succ, Nat.div_div_eq_div_mul]
      have hdu : Und n ((n + i) / 2 ^ k) i := und_ups hu k
      have hdn : ¬ Fin15 n (fun j => j ≠ i) ((n + i) / 2 ^ k) := fin_not hi hdu (by simp)
      have hsib : ∀ s, ¬ Und n s i → Fin15 n (fun j => j ≠ i) s := fun s hs j hj hu e => hs (e ▸ hu)
      unfold losA
      rcases (by omega : (n + i) / 2 ^ k = 2 * q ∨ (n + i) / 2 ^ k = 2 * q + 1) with e | e
      · rw [e] at hdu hdn
        have hn : ¬ Und n (2 * q + 1) i := fun k => und_apart h1 hdu k
        rw [bst_one.2.2.1 hdn (hsib _ hn), ← win_same hs (by omega) (by omega) hn, hmin (2 * q) (by omega) (by omega) hdu]
        have hne : winA n lt (2 * q + 1) ≠ i := fun e => hn (e ▸ win_is (lt := lt) (by omega) (by omega))
        have hmi := win_min O (n - q) q (Nat.le_refl _) h1 (by omega) (winA n lt (2 * q + 1)) (win_lt (by omega) (by omega)) (und_child (win_is (by omega) (by omega)) (by omega)) (by rw [hmin q h1 (by omega) (und_child hdu (by omega))]; exact hne)
        rw [hmin q h1 (by omega) (und_child hdu (by omega))] at hmi
        rw [O.asym _ _ hmi]
        simp
      · rw [e] at hdu hdn
        have hn : ¬ Und n (2 * q) i := fun k => und_apart h1 k hdu
        rw [bst_one.2.1 (hsib _ hn) hdn, ← win_same hs (by omega) (by omega) hn, hmin (2 * q + 1) (by omega) (by omega) hdu]
        have hne : winA n lt (2 * q) ≠ i := fun e => hn (e ▸ win_is (lt := lt) (by omega) (by omega))
        have hmi := win_min O (n - q) q (Nat.le_refl _) h1 (by omega) (winA n lt (2 * q)) (win_lt (by omega) (by omega)) (und_child (win_is (by omega) (by omega)) (by omega)) (by rw [hmin q h1 (by omega) (und_child hdu (by omega))]; exact hne)
        rw [hmin q h1 (by omega) (und_child hdu (by omega))] at hmi
        rw [hmi]
        simp
    · obtain ⟨_, a, b⟩ := not_anc h2 ha
      rw [bst_one.1 (hall _) (hall _)]
      have w1 := win_is (lt := lt') (n := n) (c := 2 * q) (by omega) (by omega)
      have w2 := win_is (lt := lt') (n := n) (c := 2 * q + 1) (by omega) (by omega)
      unfold losA
      rw [win_same hs (by omega) (by omega) a, win_same hs (by omega) (by omega) b, hs _ _ (fun e => b (e ▸ w2)) (fun e => a (e ▸ w1))])
  rw [win_leaf] at M
  refine ⟨fun q h1 h2 => ?_, M.2 (hall 1)⟩
  rw [M.1 q h1 h2]
  exact bst_one.1 (hall _) (hall _)
theorem win_least {l : List Hd} (h : leftN l ≠ 0) : leastN l = (winA l.length (ahd l) 1 : Int) ∧ leastB l = true ∧ winA l.length (ahd l) 1 < l.length := by
  obtain ⟨i, hi, ho⟩ := left_some h
  have hn : 1 ≤ l.length := by omega
  have O := ord_ahd l.length l
  have hlt := win_lt (lt := ahd l) (n := l.length) (c := 1) (Nat.le_refl _) (by omega)
  have hmin := win_min O (l.length - 1) 1 (Nat.le_refl _) (Nat.le_refl _) (by omega)
  have hon : oAt l (winA l.length (ahd l) 1) = false := by
    by_cases e : i = winA l.length (ahd l) 1
    · rw [← e]; exact ho
    · have := hmin i hi (und_one hn) e
      generalize winA l.length (ahd l) 1 = z at this
      unfold ahd at this
      cases hw : oAt l z
      · rfl
      · rw [hw, ho] at this; simp at this
  obtain ⟨a, b⟩ := least_ahd hlt hon (fun j hj hne => hmin j hj (und_one hn) hne)
  exact ⟨a, b, hlt⟩
end LoPlain
end Go.Proofs.YtjplkmmhjfpdaaaGreatDoor

/- In one text: LoPlay, LoCmp. -/
import Derived.Test.YtpmglnghnelenaaGreatP29
import Derived.Lib.Bytealg
import Derived.Laws.Externs
/- One plays its way up a tree of losers: at the making, and behind a change of the least; plain. -/
namespace Go.Proofs.YtpmglnghnelenaaGreat
open Go.RowKit
set_option linter.unusedVariables false
set_option linter.unusedSimpArgs false
set_option maxRecDepth 20000
namespace LoPlain
theorem upd_at (f : Nat → Int) (p : Nat) (v : Int) : updA f p v p = v := by simp [updA]
theorem upd_ne (f : Nat → Int) {p q : Nat} (v : Int) (h : q ≠ p) : updA f p v q = f q := by simp [updA, h]
theorem anc_lt {c k : Nat} (hc : 1 ≤ c) : c / 2 ^ (k + 1) < c := by
  rw [Nat.pow_succ, Nat.mul_comm, ← Nat.div_div_eq_div_mul]
  have := Nat.div_le_self (c / 2) (2 ^ k)
  omega
theorem anc_half (c k : Nat) : c / 2 / 2 ^ (k + 1) = c / 2 ^ (k + 1 + 1) := by
  rw [Nat.div_div_eq_div_mul, ← Nat.pow_succ']
theorem anc_one (c : Nat) : c / 2 ^ (0 + 1) = c / 2 := by simp
theorem anc_parts {c q : Nat} (h : ∃ k, c / 2 ^ (k + 1) = q) : q = c / 2 ∨ ∃ k, c / 2 / 2 ^ (k + 1) = q := by
  obtain ⟨k, rfl⟩ := h
  rcases k with _ | k
  · exact .inl (anc_one c)
  · exact .inr ⟨k, anc_half c k⟩
theorem und_child {n c j : Nat} {d : Nat} (h : Und n d j) (hd : d / 2 = c) : Und n c j := hd ▸ und_up h
theorem bst_one {n : Nat} {lt : Nat → Nat → Bool} {F : Nat → Prop} {p : Nat} :
    (F (2 * p) → F (2 * p + 1) → bstA n lt F p = (losA n lt p : Int)) ∧ (F (2 * p) → ¬ F (2 * p + 1) → bstA n lt F p = (winA n lt (2 * p) : Int)) ∧
    (¬ F (2 * p) → F (2 * p + 1) → bstA n lt F p = (winA n lt (2 * p + 1) : Int)) ∧ (¬ F (2 * p) → ¬ F (2 * p + 1) → bstA n lt F p = -1) := by
  unfold bstA
  refine ⟨fun a b => ?_, fun a b => ?_, fun a b => ?_, fun a b => ?_⟩ <;> simp [a, b]
/-- What one that plays makes of the losers, from a place on whose winner it is. -/
theorem play_main {n : Nat} {lt : Nat → Nat → Bool} {G : Nat → Prop} {i : Nat} (O : Ord n lt) (hi : i < n) (hG : ¬ G i) : ∀ (c : Nat), 1 ≤ c → c < 2 * n → Und n c i → Fin15 n (fun j => G j ∨ j = i) c → ∀ (f : Nat → Int) (win : Int),
    (∀ q, 1 ≤ q → q < n → ((∃ k, c / 2 ^ (k + 1) = q) → f q = bstA n lt (Fin15 n G) q) ∧ ((¬ ∃ k, c / 2 ^ (k + 1) = q) → f q = bstA n lt (Fin15 n (fun j => G j ∨ j = i)) q)) →
    (∀ q, 1 ≤ q → q < n → (playN lt f win (winA n lt c) (c / 2)).1 q = bstA n lt (Fin15 n (fun j => G j ∨ j = i)) q) ∧ (Fin15 n (fun j => G j ∨ j = i) 1 → (playN lt f win (winA n lt c) (c / 2)).2 = (winA n lt 1 : Int)) := by
  intro c
  induction c using Nat.strongRecOn with
  | _ c ih =>
    intro hc1 hc2 hu hF f win hf
    rw [playN]
    by_cases hp : c / 2 = 0
    · rw [dif_pos hp]
      have e : c = 1 := by omega
      subst e
      refine ⟨fun q h1 h2 => (hf q h1 h2).2 ?_, fun _ => rfl⟩
      rintro ⟨k, hk⟩
      have := anc_lt (c := 1) (k := k) (Nat.le_refl _)
      omega
    · rw [dif_neg hp]
      obtain ⟨p, hpe⟩ : ∃ p, c / 2 = p := ⟨_, rfl⟩
      rw [hpe]
      have hp1 : 1 ≤ p := by omega
      have hpn : p < n := by omega
      have hup : Und n p i := und_child hu hpe
      have hfp := (hf p hp1 hpn).1 ⟨0, by rw [anc_one]; exact hpe⟩
      obtain ⟨G1, hG1⟩ : ∃ G1, (fun j => G j ∨ j = i) = G1 := ⟨_, rfl⟩
      have hiff : ∀ d, ¬ Und n d i → (Fin15 n G1 d ↔ Fin15 n G d) := fun d hd => by rw [← hG1]; exact fin_iff hd
      rw [hG1] at hF hf ⊢
      have hnc : ¬ Fin15 n G c := fin_not hi hu hG
      -- the sibling
      obtain ⟨s, hs, hs1, hs2, hsu⟩ : ∃ s, (c = 2 * p ∧ s = 2 * p + 1 ∨ c = 2 * p + 1 ∧ s = 2 * p) ∧ 1 ≤ s ∧ s < 2 * n ∧ ¬ Und n s i := by
        rcases (by omega : c = 2 * p ∨ c = 2 * p + 1) with e | e
        · exact ⟨2 * p + 1, .inl ⟨e, rfl⟩, by omega, by omega, fun k => und_apart hp1 (e ▸ hu) k⟩
        · exact ⟨2 * p, .inr ⟨e, rfl⟩, by omega, by omega, fun k => und_apart hp1 k (e ▸ hu)⟩
      have hsF := hiff s hsu
      by_cases hsf : Fin15 n G1 s
      · -- the sibling has played
        have hfw : f p = (winA n lt s : Int) := by
          rw [hfp]
          rcases hs with ⟨e1, e2⟩ | ⟨e1, e2⟩
          · exact e2 ▸ bst_one.2.2.1 (e1 ▸ hnc) (e2 ▸ hsF.1 hsf)
          · exact e2 ▸ bst_one.2.1 (e2 ▸ hsF.1 hsf) (e1 ▸ hnc)
        rw [if_neg (by rw [hfw]; omega), hfw, Int.toNat_natCast]
        have hne : winA n lt s ≠ winA n lt c := by
          intro e
          have u1 := win_is (lt := lt) hs1 hs2
          have u2 := win_is (lt := lt) hc1 hc2
          rw [e] at u1
          generalize winA n lt c = z at u1 u2
          rcases hs with ⟨e1, e2⟩ | ⟨e1, e2⟩
          · exact und_apart hp1 (e1 ▸ u2) (e2 ▸ u1)
          · exact und_apart hp1 (e2 ▸ u1) (e1 ▸ u2)
        have hFp : Fin15 n G1 p := by
          rw [fin_two hpn]
          rcases hs with ⟨e1, e2⟩ | ⟨e1, e2⟩
          · exact ⟨e1 ▸ hF, e2 ▸ hsf⟩
          · exact ⟨e2 ▸ hsf, e1 ▸ hF⟩
        have hB1 : bstA n lt (Fin15 n G1) p = (losA n lt p : Int) := by
          rw [fin_two hpn] at hFp
          exact bst_one.1 hFp.1 hFp.2
        have hW : winA n lt p = (if lt (winA n lt s) (winA n lt c) = true then winA n lt s else winA n lt c) ∧ losA n lt p = (if lt (winA n lt s) (winA n lt c) = true then winA n lt c else winA n lt s) := by
          rw [win_in hp1 hpn]
          unfold losA
          rcases hs with ⟨e1, e2⟩ | ⟨e1, e2⟩
          · rw [e1, e2]; exact ⟨rfl, rfl⟩
          · rw [e1, e2]
            rw [e1, e2] at hne
            cases h1 : lt (winA n lt (2 * p + 1)) (winA n lt (2 * p))
            · have := O.total _ _ (fun e => hne e.symm) h1
              simp [this]
            · have := O.asym _ _ h1
              simp [this]
        have anc2 : ∀ q, q ≠ p → ((∃ k, c / 2 ^ (k + 1) = q) ↔ ∃ k, p / 2 ^ (k + 1) = q) := by
          intro q hq
          constructor
          · intro h
            rcases anc_parts h with e | e
            · exact absurd (e.trans hpe) hq
            · rw [hpe] at e; exact e
          · rintro ⟨k, hk⟩
            exact ⟨k + 1, by rw [← anc_half, hpe]; exact hk⟩
        have pself : ¬ ∃ k, p / 2 ^ (k + 1) = p := by
          rintro ⟨k, hk⟩
          have := anc_lt (c := p) (k := k) hp1
          omega
        have IH := ih p (by omega) hp1 (by omega) hup (by rw [hG1]; exact hFp)
        rw [hG1] at IH
        split
        · rename_i hlt
          rw [if_pos hlt, if_pos hlt] at hW
          have := IH (updA f p (winA n lt c : Int)) win (fun q h1 h2 => by
            by_cases hq : q = p
            · subst hq
              refine ⟨fun h => absurd h pself, fun _ => ?_⟩
              rw [upd_at, hB1, hW.2]
            · rw [upd_ne _ _ hq, ← anc2 q hq]
              exact hf q h1 h2)
          rw [hW.1] at this
          exact this
        · rename_i hlt
          rw [if_neg hlt, if_neg hlt] at hW
          have := IH f win (fun q h1 h2 => by
            by_cases hq : q = p
            · subst hq
              refine ⟨fun h => absurd h pself, fun _ => ?_⟩
              rw [hB1, hW.2, hfw]
            · rw [← anc2 q hq]
              exact hf q h1 h2)
          rw [hW.1] at this
          exact this
      · -- it has not
        have hsf0 : ¬ Fin15 n G s := fun h => hsf (hsF.2 h)
        have hfw : f p = -1 := by
          rw [hfp]
          rcases hs with ⟨e1, e2⟩ | ⟨e1, e2⟩
          · exact bst_one.2.2.2 (e1 ▸ hnc) (e2 ▸ hsf0)
          · exact bst_one.2.2.2 (e2 ▸ hsf0) (e1 ▸ hnc)
        rw [if_pos hfw]
        have hnp : ¬ Fin15 n G1 p := by
          rw [fin_two hpn]
          rintro ⟨a, b⟩
          rcases hs with ⟨e1, e2⟩ | ⟨e1, e2⟩
          · exact hsf (e2 ▸ b)
          · exact hsf (e2 ▸ a)
        have hup1 : ∀ k, ¬ Fin15 n G1 (p / 2 ^ k) := by
          intro k h
          refine hnp fun j hj hu1 => h j hj (und_ups hu1 k)
        refine ⟨fun q h1 h2 => ?_, fun h => ?_⟩
        · by_cases hq : q = p
          · subst hq
            show updA f q _ q = _
            rw [upd_at]
            rcases hs with ⟨e1, e2⟩ | ⟨e1, e2⟩
            · exact e1 ▸ (bst_one.2.1 (e1 ▸ hF) (e2 ▸ hsf)).symm
            · exact e1 ▸ (bst_one.2.2.1 (e2 ▸ hsf) (e1 ▸ hF)).symm
          · show updA f p _ q = _
            rw [upd_ne _ _ hq]
            by_cases ha : ∃ k, c / 2 ^ (k + 1) = q
            · rw [(hf q h1 h2).1 ha]
              have ha' := ha
              obtain ⟨k, hk⟩ := ha
              rcases k with _ | k
              · rw [anc_one] at hk; omega
              · -- the child of q on the way
                have hd : (c / 2 ^ (k + 1)) / 2 = q := by rw [← hk, Nat.pow_succ 2 (k + 1), Nat.div_div_eq_div_mul]
                have hdu : Und n (c / 2 ^ (k + 1)) i := und_ups hu (k + 1)
                have hdn : ¬ Fin15 n G1 (c / 2 ^ (k + 1)) := by
                  have := hup1 k
                  rw [← hpe, Nat.div_div_eq_div_mul, ← Nat.pow_succ'] at this
                  exact this
                have hdn0 : ¬ Fin15 n G (c / 2 ^ (k + 1)) := fin_not hi hdu hG
                rcases (by omega : c / 2 ^ (k + 1) = 2 * q ∨ c / 2 ^ (k + 1) = 2 * q + 1) with e | e
                · rw [e] at hdn hdn0 hdu
                  exact bst_congr ⟨fun h => absurd h hdn0, fun h => absurd h hdn⟩ (hiff _ (fun k => und_apart h1 hdu k)).symm
                · rw [e] at hdn hdn0 hdu
                  exact bst_congr (hiff _ (fun k => und_apart h1 k hdu)).symm ⟨fun h => absurd h hdn0, fun h => absurd h hdn⟩
            · exact (hf q h1 h2).2 ha
        · obtain ⟨k, hk⟩ := und_root (n := n) (by omega) p hp1
          exact absurd (hk ▸ h) (hup1 k)
theorem not_anc {n i q : Nat} (h2 : q < n) (h : ¬ ∃ k, (n + i) / 2 ^ (k + 1) = q) : ¬ Und n q i ∧ ¬ Und n (2 * q) i ∧ ¬ Und n (2 * q + 1) i := by
  have h0 : ¬ Und n q i := by
    rintro ⟨k, hk⟩
    rcases k with _ | k
    · simp at hk; omega
    · exact h ⟨k, hk⟩
  exact ⟨h0, fun k => h0 (und_child k (by omega)), fun k => h0 (und_child k (by omega))⟩
/-- The losers while a tree is made: the first k have played. -/
def Mad15 (n : Nat) (lt : Nat → Nat → Bool) (k : Nat) (f : Nat → Int) : Prop := ∀ q, 1 ≤ q → q < n → f q = bstA n lt (Fin15 n (fun j => j < k)) q
theorem mad_zero (n : Nat) (lt : Nat → Nat → Bool) : Mad15 n lt 0 (fun _ => -1) := by
  intro q h1 h2
  refine (bst_one.2.2.2 (fun h => ?_) (fun h => ?_)).symm
  · have := h _ (win_lt (lt := lt) (n := n) (c := 2 * q) (by omega) (by omega)) (win_is (by omega) (by omega)); omega
  · have := h _ (win_lt (lt := lt) (n := n) (c := 2 * q + 1) (by omega) (by omega)) (win_is (by omega) (by omega)); omega
theorem mad_step {n : Nat} {lt : Nat → Nat → Bool} (O : Ord n lt) {k : Nat} (hk : k < n) {f : Nat → Int} (h : Mad15 n lt k f) (win : Int) :
    Mad15 n lt (k + 1) (playN lt f win k ((n + k) / 2)).1 ∧ (k + 1 = n → (playN lt f win k ((n + k) / 2)).2 = (winA n lt 1 : Int)) := by
  have e : (fun j => j < k ∨ j = k) = (fun j => j < k + 1) := by funext j; apply propext; omega
  have hu := und_leaf n k
  have M := play_main (G := fun j => j < k) O hk (by omega) (n + k) (by omega) (by omega) hu (fun j hj hu => .inr (und_of_leaf hj hu)) f win (fun q h1 h2 => by
    refine ⟨fun _ => h q h1 h2, fun ha => ?_⟩
    rw [h q h1 h2]
    obtain ⟨_, a, b⟩ := not_anc h2 ha
    exact bst_congr (fin_iff (G := fun j => j < k) a).symm (fin_iff (G := fun j => j < k) b).symm)
  rw [e, win_leaf] at M
  refine ⟨M.1, fun he => M.2 fun j hj _ => ?_⟩
  show j < k + 1
  omega
theorem mad_end {n : Nat} {lt : Nat → Nat → Bool} {f : Nat → Int} (h : Mad15 n lt n f) : ∀ q, 1 ≤ q → q < n → f q = (losA n lt q : Int) := by
  intro q h1 h2
  rw [h q h1 h2]
  exact bst_one.1 (fun j hj _ => hj) (fun j hj _ => hj)
theorem mad_range {n : Nat} {lt : Nat → Nat → Bool} {k : Nat} {f : Nat → Int} (h : Mad15 n lt k f) : ∀ q, 1 ≤ q → q < n → f q = -1 ∨ (0 ≤ f q ∧ f q < n) := by
  intro q h1 h2
  rw [h q h1 h2]
  have a := win_lt (lt := lt) (n := n) (c := 2 * q) (by omega) (by omega)
  have b := win_lt (lt := lt) (n := n) (c := 2 * q + 1) (by omega) (by omega)
  unfold bstA losA
  repeat' split
  all_goals omega
/-- Behind a change of the least. -/
theorem next_step {n : Nat} {lt lt' : Nat → Nat → Bool} (O : Ord n lt) (O' : Ord n lt') {i : Nat} (hi : i < n) (hw : winA n lt 1 = i) (hs : ∀ a b, a ≠ i → b ≠ i → lt a b = lt' a b) {f : Nat → Int} (h : ∀ q, 1 ≤ q → q < n → f q = (losA n lt q : Int)) (win : Int) :
    (∀ q, 1 ≤ q → q < n → (playN lt' f win i ((n + i) / 2)).1 q = (losA n lt' q : Int)) ∧ (playN lt' f win i ((n + i) / 2)).2 = (winA n lt' 1 : Int) := by
  have hu := und_leaf n i
  have hmin : ∀ c, 1 ≤ c → c < 2 * n → Und n c i → winA n lt c = i := by
    intro c h1 h2 hu
    by_cases e : i = winA n lt c
    · exact e.symm
    · have k1 := win_min O (n - c) c (Nat.le_refl _) h1 h2 i hi hu e
      have k2 := win_min O (n - 1) 1 (Nat.le_refl _) (Nat.le_refl _) (by omega) (winA n lt c) (win_lt h1 h2) (und_one (by omega)) (by rw [hw]; exact fun e2 => e e2.symm)
      rw [hw] at k2
      rw [O.asym _ _ k1] at k2
      cases k2
  have hall : ∀ c, Fin15 n (fun j => j ≠ i ∨ j = i) c := fun c j _ _ => by show j ≠ i ∨ j = i; omega
  have M := play_main (lt := lt') (G := fun j => j ≠ i) O' hi (by simp) (n + i) (by omega) (by omega) hu (hall _) f win (fun q h1 h2 => by
    rw [h q h1 h2]
    refine ⟨fun ha => ?_, fun ha => ?_⟩
    · obtain ⟨k, hk⟩ := ha
      have hd : ((n + i) / 2 ^ k) / 2 = q := by rw [← hk, Nat.pow_succ, Nat.div_div_eq_div_mul]
      have hdu : Und n ((n + i) / 2 ^ k) i := und_ups hu k
      have hdn : ¬ Fin15 n (fun j => j ≠ i) ((n + i) / 2 ^ k) := fin_not hi hdu (by simp)
      have hsib : ∀ s, ¬ Und n s i → Fin15 n (fun j => j ≠ i) s := fun s hs j hj hu e => hs (e ▸ hu)
      unfold losA
      rcases (by omega : (n + i) / 2 ^ k = 2 * q ∨ (n + i) / 2 ^ k = 2 * q + 1) with e | e
      · rw [e] at hdu hdn
        have hn : ¬ Und n (2 * q + 1) i := fun k => und_apart h1 hdu k
        rw [bst_one.2.2.1 hdn (hsib _ hn), ← win_same hs (by omega) (by omega) hn, hmin (2 * q) (by omega) (by omega) hdu]
        have hne : winA n lt (2 * q + 1) ≠ i := fun e => hn (e ▸ win_is (lt := lt) (by omega) (by omega))
        have hmi := win_min O (n - q) q (Nat.le_refl _) h1 (by omega) (winA n lt (2 * q + 1)) (win_lt (by omega) (by omega)) (und_child (win_is (by omega) (by omega)) (by omega)) (by rw [hmin q h1 (by omega) (und_child hdu (by omega))]; exact hne)
        rw [hmin q h1 (by omega) (und_child hdu (by omega))] at hmi
        rw [O.asym _ _ hmi]
        simp
      · rw [e] at hdu hdn
        have hn : ¬ Und n (2 * q) i := fun k => und_apart h1 k hdu
        rw [bst_one.2.1 (hsib _ hn) hdn, ← win_same hs (by omega) (by omega) hn, hmin (2 * q + 1) (by omega) (by omega) hdu]
        have hne : winA n lt (2 * q) ≠ i := fun e => hn (e ▸ win_is (lt := lt) (by omega) (by omega))
        have hmi := win_min O (n - q) q (Nat.le_refl _) h1 (by omega) (winA n lt (2 * q)) (win_lt (by omega) (by omega)) (und_child (win_is (by omega) (by omega)) (by omega)) (by rw [hmin q h1 (by omega) (und_child hdu (by omega))]; exact hne)
        rw [hmin q h1 (by omega) (und_child hdu (by omega))] at hmi
        rw [hmi]
        simp
    · obtain ⟨_, a, b⟩ := not_anc h2 ha
      rw [bst_one.1 (hall _) (hall _)]
      have w1 := win_is (lt := lt') (n := n) (c := 2 * q) (by omega) (by omega)
      have w2 := win_is (lt := lt') (n := n) (c := 2 * q + 1) (by omega) (by omega)
      unfold losA
      rw [win_same hs (by omega) (by omega) a, win_same hs (by omega) (by omega) b, hs _ _ (fun e => b (e ▸ w2)) (fun e => a (e ▸ w1))])
  rw [win_leaf] at M
  refine ⟨fun q h1 h2 => ?_, M.2 (hall 1)⟩
  rw [M.1 q h1 h2]
  exact bst_one.1 (hall _) (hall _)
/-- The winner of all is the least, if one is left. -/
theorem win_least {l : List Hd} (h : leftN l ≠ 0) : leastN l = (winA l.length (ahd l) 1 : Int) ∧ leastB l = true ∧ winA l.length (ahd l) 1 < l.length := by
  obtain ⟨i, hi, ho⟩ := left_some h
  have hn : 1 ≤ l.length := by omega
  have O := ord_ahd l.length l
  have hlt := win_lt (lt := ahd l) (n := l.length) (c := 1) (Nat.le_refl _) (by omega)
  have hmin := win_min O (l.length - 1) 1 (Nat.le_refl _) (Nat.le_refl _) (by omega)
  have hon : oAt l (winA l.length (ahd l) 1) = false := by
    by_cases e : i = winA l.length (ahd l) 1
    · rw [← e]; exact ho
    · have := hmin i hi (und_one hn) e
      generalize winA l.length (ahd l) 1 = z at this
      unfold ahd at this
      cases hw : oAt l z
      · rfl
      · rw [hw, ho] at this; simp at this
  obtain ⟨a, b⟩ := least_ahd hlt hon (fun j hj hne => hmin j hj (und_one hn) hne)
  exact ⟨a, b, hlt⟩
end LoPlain
end Go.Proofs.YtpmglnghnelenaaGreat
/- How two strings, and two numbers, stand to one another; the first of some numbers that is not zero. -/
namespace Go.Proofs.YtpmglnghnelenaaGreat
open Go.RowKit LoPlain
set_option linter.unusedVariables false
set_option linter.unusedSimpArgs false
set_option maxRecDepth 20000
theorem cmpB_iff : ∀ a b : List UInt8, (Lib.compareBytes a b < 0 ↔ Op.bytesLess a b = true) ∧ (Lib.compareBytes a b = 0 ↔ a = b)
  | [], [] => by simp [Lib.compareBytes, Op.bytesLess]
  | [], _ :: _ => by simp [Lib.compareBytes, Op.bytesLess]
  | _ :: _, [] => by simp [Lib.compareBytes, Op.bytesLess]
  | x :: a, y :: b => by
    obtain ⟨h1, h2⟩ := cmpB_iff a b
    simp only [Lib.compareBytes, Op.bytesLess, Bool.or_eq_true, Bool.and_eq_true, decide_eq_true_eq, beq_iff_eq, List.cons.injEq]
    by_cases hxy : x < y
    · have hne : x ≠ y := fun e => by rw [e] at hxy; exact UInt8.lt_irrefl _ hxy
      simp [hxy, hne]
    · by_cases hyx : y < x
      · have hne : x ≠ y := fun e => by rw [e] at hyx; exact UInt8.lt_irrefl _ hyx
        simp [hxy, hyx, hne]
      · have e : x = y := by
          rw [UInt8.lt_iff_toNat_lt] at hxy hyx
          exact UInt8.toNat_inj.1 (by omega)
        subst e
        rw [if_neg hxy, if_neg hxy, h1, h2]
        simp [hxy]
/-- What strings.Compare says. -/
def cmpS (a b : ByteArray) : Int := Lib.compareBytes a.data.toList b.data.toList
theorem cmpS_lt (a b : ByteArray) : cmpS a b < 0 ↔ ltS a b = true := by
  unfold cmpS ltS
  rw [Lib.toList_data, Lib.toList_data]
  exact (cmpB_iff _ _).1
theorem cmpS_zero (a b : ByteArray) : cmpS a b = 0 ↔ a = b := by
  unfold cmpS
  rw [(cmpB_iff _ _).2]
  exact ⟨fun h => ByteArray.ext (Array.toList_inj.1 h), fun h => by rw [h]⟩
theorem cmpB_range : ∀ a b : List UInt8, -1 ≤ Lib.compareBytes a b ∧ Lib.compareBytes a b ≤ 1
  | [], [] => by simp [Lib.compareBytes]
  | [], _ :: _ => by simp [Lib.compareBytes]
  | _ :: _, [] => by simp [Lib.compareBytes]
  | x :: a, y :: b => by
    have := cmpB_range a b
    unfold Lib.compareBytes
    repeat' split
    all_goals omega
theorem cmpS_range (a b : ByteArray) : -1 ≤ cmpS a b ∧ cmpS a b ≤ 1 := cmpB_range _ _
theorem cmpstring_c (a b : ByteArray) (w : World) : Calls Tryz.prog 140 #[.string a, .string b] w fun e w' => e = .returned (.int .i64 (cmpS a b)) ∧ w' = w := by
  go_enter Tryz.func140, Tryz.ntmps140
  go_wp2
  rw [run_callFunc_extern Tryz.func155 (by kernel_rfl) (by kernel_rfl) (by kernel_rfl) (e := Extern.BytealgCompare.compare) (by kernel_rfl), Lib.run_compareString]
  simp only [Result.andThen]
  rw [Oper.upon_value]
  go_wp2
  go_ret
  exact ⟨rfl, rfl⟩
theorem compare_c (a b : ByteArray) (w : World) : Calls Tryz.prog 118 #[.string a, .string b] w fun e w' => e = .returned (.int .i64 (cmpS a b)) ∧ w' = w := by
  go_enter Tryz.func118, Tryz.ntmps118
  go_wp2_with fail
  refine (cmpstring_c a b w).mono ?_; rintro e u ⟨rfl, rfl⟩
  go_wp2_with fail
  go_ret
  exact ⟨rfl, rfl⟩
theorem isnan_c (a : Int) (w : World) : Calls Tryz.prog 141 #[.int .i64 a] w fun e w' => e = .returned (.bool false) ∧ w' = w := by
  go_enter Tryz.func141, Tryz.ntmps141
  go_wp2_with fail
  go_ret
  exact ⟨by simp, rfl⟩
/-- What cmp.Compare says of two numbers. -/
def cmpI (a b : Int) : Int := if a < b then -1 else if b < a then 1 else 0
theorem cmpI_c (a b : Int) (w : World) : Calls Tryz.prog 119 #[.int .i64 a, .int .i64 b] w fun e w' => e = .returned (.int .i64 (cmpI a b)) ∧ w' = w := by
  have h1 := isnan_c a w
  have h2 := isnan_c b w
  unfold cmpI
  by_cases k1 : a < b
  · go_enter Tryz.func119, Tryz.ntmps119
    go_wp2_with fail
    refine h1.mono ?_; rintro e u ⟨rfl, rfl⟩
    go_wp2_with fail
    refine h2.mono ?_; rintro e u ⟨rfl, rfl⟩
    go_wp2_with fail
    go_ret
    exact ⟨rfl, rfl⟩
  · by_cases k2 : b < a
    · go_enter Tryz.func119, Tryz.ntmps119
      go_wp2_with fail
      refine h1.mono ?_; rintro e u ⟨rfl, rfl⟩
      go_wp2_with fail
      refine h2.mono ?_; rintro e u ⟨rfl, rfl⟩
      go_wp2_with fail
      go_ret
      exact ⟨rfl, rfl⟩
    · go_enter Tryz.func119, Tryz.ntmps119
      go_wp2_with fail
      refine h1.mono ?_; rintro e u ⟨rfl, rfl⟩
      go_wp2_with fail
      refine h2.mono ?_; rintro e u ⟨rfl, rfl⟩
      go_wp2_with fail
      go_ret
      exact ⟨rfl, rfl⟩
/-- The first of two numbers, if it is not zero; else the second. -/
theorem or_c {x y : Int} {b : Nat} {w : World} (hb : b < w.heap.size) (h0 : w.cell? ⟨b, 0, none⟩ = some (.int .i64 x)) (h1 : w.cell? ⟨b, 1, none⟩ = some (.int .i64 y)) :
    Calls Tryz.prog 117 #[.slice (some ⟨b, 0, none⟩) 2 2] w fun e w' => e = .returned (.int .i64 (if x = 0 then y else x)) ∧ w' = w := by
  by_cases k1 : x = 0
  · by_cases k2 : y = 0
    · subst k1 k2
      go_enter Tryz.func117, Tryz.ntmps117
      go_wp2_with fail
      go_rounds 3
      go_ret
      exact ⟨rfl, rfl⟩
    · subst k1
      have t : (y == 0) = false := by simp [k2]
      go_enter Tryz.func117, Tryz.ntmps117
      go_wp2_with fail
      go_rounds 3
      go_ret
      exact ⟨by simp, rfl⟩
  · have t : (x == 0) = false := by simp [k1]
    go_enter Tryz.func117, Tryz.ntmps117
    go_wp2_with fail
    go_rounds 3
    go_ret
    exact ⟨rfl, rfl⟩
end Go.Proofs.YtpmglnghnelenaaGreat

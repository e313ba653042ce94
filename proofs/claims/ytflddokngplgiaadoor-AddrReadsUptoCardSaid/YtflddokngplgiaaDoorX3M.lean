import Derived.Test.YtflddokngplgiaaDoorX1M
namespace Go.Proofs.YtflddokngplgiaaDoor
/-- how many noughts stand in front -/
def zr : List Nat → Nat
  | 0 :: r => zr r + 1
  | _ => 0
theorem zr_zero (r : List Nat) : zr (0 :: r) = zr r + 1 := by rw [zr]
theorem zr_not {x : Nat} (r : List Nat) (h : ¬ x = 0) : zr (x :: r) = 0 := by
  cases x with
  | zero => exact absurd rfl h
  | succ n => rfl
theorem zr_le : ∀ r : List Nat, zr r ≤ r.length
  | [] => by simp [zr]
  | x :: r => by
    by_cases h : x = 0
    · subst h; rw [zr_zero]; have := zr_le r; simp; omega
    · rw [zr_not r h]; omega
theorem rep_zr : ∀ (k : Nat) (r : List Nat), k ≤ r.length → (List.replicate k 0 ++ r.drop k = r ↔ k ≤ zr r)
  | 0, r, _ => by simp
  | k + 1, [], h => by simp at h
  | k + 1, x :: r, h => by
    have ih := rep_zr k r (by simp at h; omega)
    by_cases h0 : x = 0
    · subst h0
      rw [zr_zero, List.replicate_succ]
      simp only [List.cons_append, List.drop_succ_cons, List.cons.injEq, true_and]
      rw [ih]; omega
    · rw [zr_not r h0, List.replicate_succ]
      simp only [List.cons_append, List.cons.injEq]
      constructor
      · intro ⟨h1, _⟩; exact absurd h1.symm h0
      · intro h1; omega
theorem wo_zr {l : List Nat} {i k : Nat} (h : i + k ≤ l.length) : wo l i (i + k) = l ↔ k ≤ zr (l.drop i) := by
  rw [← rep_zr k (l.drop i) (by simp; omega)]
  unfold wo
  rw [show i + k - i = k by omega, List.drop_drop]
  conv => lhs; rhs; rw [← List.take_append_drop i l]
  rw [List.append_assoc, List.append_right_inj]
/-- where the longest run begins, and one; how long it is -/
def bst (l : List Nat) : Nat → Nat × Nat
  | 0 => (0, 1)
  | k + 1 => if (bst l k).2 < zr (l.drop k) then (k + 1, zr (l.drop k)) else bst l k
theorem bst_yes {l : List Nat} {k : Nat} (h : (bst l k).2 < zr (l.drop k)) : bst l (k + 1) = (k + 1, zr (l.drop k)) := by rw [bst, if_pos h]
theorem bst_no {l : List Nat} {k : Nat} (h : ¬ (bst l k).2 < zr (l.drop k)) : bst l (k + 1) = bst l k := by rw [bst, if_neg h]
theorem bst_is (l : List Nat) : ∀ k, (∀ j, j < k → zr (l.drop j) ≤ (bst l k).2) ∧ 1 ≤ (bst l k).2 ∧ (bst l k).1 ≤ k ∧
    ((bst l k).1 = 0 ∧ (bst l k).2 = 1 ∨ 1 ≤ (bst l k).1 ∧ 2 ≤ (bst l k).2 ∧ (bst l k).2 = zr (l.drop ((bst l k).1 - 1)) ∧ ∀ j, j < (bst l k).1 - 1 → zr (l.drop j) < (bst l k).2)
  | 0 => ⟨fun j h => by omega, Nat.le_refl _, Nat.le_refl _, .inl ⟨rfl, rfl⟩⟩
  | k + 1 => by
    obtain ⟨h1, h2, h3, h4⟩ := bst_is l k
    by_cases h : (bst l k).2 < zr (l.drop k)
    · rw [bst_yes h]
      refine ⟨fun j hj => ?_, by show 1 ≤ zr _; omega, Nat.le_refl _, .inr ⟨by simp, by show 2 ≤ zr _; omega, rfl, fun j hj => ?_⟩⟩
      · by_cases e : j = k
        · subst e; exact Nat.le_refl _
        · have := h1 j (by omega); show _ ≤ zr _; omega
      · have := h1 j (by simp at hj; omega); show _ < zr _; omega
    · rw [bst_no h]
      refine ⟨fun j hj => ?_, h2, by omega, h4⟩
      by_cases e : j = k
      · subst e; omega
      · exact h1 j (by omega)
theorem lng_none (l : List Nat) : ∀ s, s ≤ 8 → lng l s = (0, 0) → ∀ k, 2 ≤ k → k ≤ s → ∀ i, i + k ≤ 8 → ¬ wo l i (i + k) = l
  | 0, _, _ => fun k h1 h2 => by omega
  | s + 1, h, he => by
    by_cases h0 : s = 0
    · subst h0; intro k h1 h2; omega
    rcases hq : (List.range (8 - (s + 1) + 1)).find? (candB l (s + 1)) with _ | f
    · have e : lng l (s + 1) = lng l s := by rw [lng, if_neg h0, hq]
      have ih := lng_none l s (by omega) (e ▸ he)
      intro k h1 h2 i hi
      by_cases h3 : k = s + 1
      · subst h3
        intro hw
        rw [List.find?_range_eq_none] at hq
        have := hq i (by omega)
        unfold candB at this
        rw [decide_eq_true hw] at this
        exact absurd this (by decide)
      · exact ih k h1 (by omega) i hi
    · rw [lng, if_neg h0, hq] at he
      simp at he
theorem bst_lng {l : List Nat} (hl : l.length = 8) : ((bst l 8).1 = 0 ∧ lng l 8 = (0, 0)) ∨ (1 ≤ (bst l 8).1 ∧ 2 ≤ (bst l 8).2 ∧ (bst l 8).1 - 1 + (bst l 8).2 ≤ 8 ∧ lng l 8 = ((bst l 8).1 - 1, (bst l 8).1 - 1 + (bst l 8).2)) := by
  obtain ⟨h1, h2, h3, h4⟩ := bst_is l 8
  rcases h4 with ⟨h5, h6⟩ | ⟨h5, h6, h7, h8⟩
  · left
    refine ⟨h5, ?_⟩
    rcases lng_cases l 8 (by omega) with h | ⟨f, k, a, b, c, d, e, _⟩
    · exact h
    · have := (wo_zr (l := l) (by omega)).1 e
      have := h1 f (by omega)
      omega
  · right
    have hz : (bst l 8).2 ≤ 8 - ((bst l 8).1 - 1) := by rw [h7]; have := zr_le (l.drop ((bst l 8).1 - 1)); rw [List.length_drop, hl] at this; exact this
    refine ⟨h5, h6, by omega, ?_⟩
    have hw : wo l ((bst l 8).1 - 1) ((bst l 8).1 - 1 + (bst l 8).2) = l := (wo_zr (by omega)).2 (by omega)
    rcases lng_cases l 8 (by omega) with h | ⟨f, k, a, b, c, d, e, e1, e2⟩
    · exact absurd hw (lng_none l 8 (by omega) h _ h6 (by omega) _ (by omega))
    · have g1 := (wo_zr (l := l) (by omega)).1 e
      have g2 := h1 f (by omega)
      have hk : k = (bst l 8).2 := by
        by_cases hlt : k < (bst l 8).2
        · exact absurd hw (e2 _ hlt (by omega) _ (by omega))
        · omega
      have hf : f = (bst l 8).1 - 1 := by
        by_cases hlt : (bst l 8).1 - 1 < f
        · exact absurd (hk ▸ hw) (e1 _ hlt)
        · by_cases hgt : f < (bst l 8).1 - 1
          · have := h8 f hgt; omega
          · omega
      rw [d, hf, hk]
end Go.Proofs.YtflddokngplgiaaDoor

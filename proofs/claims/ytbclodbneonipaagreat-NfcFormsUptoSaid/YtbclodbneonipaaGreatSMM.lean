
/-
  The mathematics of stable sorting by merging: program-free.
-/
namespace Go.Proofs.YtbclodbneonipaaGreat.SM
variable {α : Type}
def mrg (lt : α → α → Bool) : List α → List α → List α
  | [], ys => ys
  | x :: xs, [] => x :: xs
  | x :: xs, y :: ys => if lt y x then y :: mrg lt (x :: xs) ys else x :: mrg lt xs (y :: ys)
termination_by xs ys => xs.length + ys.length
theorem mrg_nil_l (lt : α → α → Bool) (ys : List α) : mrg lt [] ys = ys := by unfold mrg; rfl
theorem mrg_nil_r (lt : α → α → Bool) (xs : List α) : mrg lt xs [] = xs := by cases xs <;> simp [mrg]
theorem mrg_cons (lt : α → α → Bool) (x y : α) (xs ys : List α) : mrg lt (x :: xs) (y :: ys) = if lt y x then y :: mrg lt (x :: xs) ys else x :: mrg lt xs (y :: ys) := by
  rw [mrg]
theorem mrg_perm (lt : α → α → Bool) : ∀ (n : Nat) (xs ys : List α), xs.length + ys.length ≤ n → (mrg lt xs ys).Perm (xs ++ ys)
  | _, [], ys, _ => by rw [mrg_nil_l]; exact .refl _
  | _, x :: xs, [], _ => by rw [mrg_nil_r]; simp
  | 0, x :: xs, y :: ys, h => by simp at h
  | n + 1, x :: xs, y :: ys, h => by
    rw [mrg_cons]
    split
    · refine ((mrg_perm lt n (x :: xs) ys (by simp at h ⊢; omega)).cons y).trans ?_
      exact (List.perm_middle (l₁ := x :: xs)).symm
    · exact (mrg_perm lt n xs (y :: ys) (by simp at h ⊢; omega)).cons x
theorem mrg_length (lt : α → α → Bool) (xs ys : List α) : (mrg lt xs ys).length = xs.length + ys.length := by
  rw [(mrg_perm lt _ xs ys (Nat.le_refl _)).length_eq, List.length_append]
theorem mrg_mem (lt : α → α → Bool) (xs ys : List α) (z : α) : z ∈ mrg lt xs ys ↔ z ∈ xs ∨ z ∈ ys := by
  rw [(mrg_perm lt _ xs ys (Nat.le_refl _)).mem_iff, List.mem_append]
/-- an order as Go's documentation asks: 'le a b' is 'not (b < a)' -/
structure Ord (lt : α → α → Bool) : Prop where
  trans : ∀ a b c, lt b a = false → lt c b = false → lt c a = false
  total : ∀ a b, lt a b = false ∨ lt b a = false
def Srt (lt : α → α → Bool) (l : List α) : Prop := l.Pairwise fun a b => lt b a = false
theorem mrg_assoc {lt : α → α → Bool} (O : Ord lt) : ∀ (n : Nat) (xs ys zs : List α), xs.length + ys.length + zs.length ≤ n → mrg lt (mrg lt xs ys) zs = mrg lt xs (mrg lt ys zs)
  | _, [], ys, zs, _ => by rw [mrg_nil_l, mrg_nil_l]
  | _, x :: xs, [], zs, _ => by rw [mrg_nil_r, mrg_nil_l]
  | _, x :: xs, y :: ys, [], _ => by rw [mrg_nil_r, mrg_nil_r]
  | 0, x :: xs, y :: ys, z :: zs, h => by simp at h
  | n + 1, a :: A, b :: B, c :: C, h => by
    simp only [List.length_cons] at h
    rw [mrg_cons lt a b A B, mrg_cons lt b c B C]
    by_cases hab : lt b a = true
    · rw [if_pos hab]
      by_cases hbc : lt c b = true
      · have hac : lt c a = true := by
          cases e : lt c a
          · rcases O.total b a with h1 | h1
            · rw [h1] at hab; cases hab
            · rcases O.total c b with h2 | h2
              · rw [h2] at hbc; cases hbc
              · have := O.trans b a c h1 e
                rw [this] at hbc; cases hbc
          · rfl
        rw [if_pos hbc, mrg_cons, if_pos hbc, mrg_cons lt a c, if_pos hac, ← mrg_assoc O n (a :: A) (b :: B) C (by simp; omega), mrg_cons lt a b A B, if_pos hab]
      · rw [if_neg hbc, mrg_cons, if_neg hbc, mrg_cons lt a b, if_pos hab, mrg_assoc O n (a :: A) B (c :: C) (by simp; omega)]
    · rw [if_neg hab]
      have hab' : lt b a = false := by simpa using hab
      by_cases hac : lt c a = true
      · have hbc : lt c b = true := by
          cases e : lt c b
          · have := O.trans a b c hab' e
            rw [this] at hac; cases hac
          · rfl
        rw [if_pos hbc, mrg_cons, if_pos hac, mrg_cons lt a c, if_pos hac, ← mrg_assoc O n (a :: A) (b :: B) C (by simp; omega), mrg_cons lt a b A B, if_neg hab]
      · rw [mrg_cons, if_neg hac, mrg_assoc O n A (b :: B) (c :: C) (by simp; omega), mrg_cons lt b c B C]
        by_cases hbc : lt c b = true
        · rw [if_pos hbc, mrg_cons lt a c, if_neg hac]
        · rw [if_neg hbc, mrg_cons lt a b, if_neg hab]
theorem assoc {lt : α → α → Bool} (O : Ord lt) (xs ys zs : List α) : mrg lt (mrg lt xs ys) zs = mrg lt xs (mrg lt ys zs) := mrg_assoc O _ xs ys zs (Nat.le_refl _)
/-- the cut: what is merged of two parts each -/
theorem mrg_app {lt : α → α → Bool} {L2 R2 : List α} : ∀ (n : Nat) (L1 R1 : List α), L1.length + R1.length ≤ n → (∀ x ∈ L1, ∀ y ∈ R2, lt y x = false) → (∀ y ∈ R1, ∀ x ∈ L2, lt y x = true) →
    mrg lt (L1 ++ L2) (R1 ++ R2) = mrg lt L1 R1 ++ mrg lt L2 R2
  | _, [], [], _, _, _ => by rw [mrg_nil_l]; rfl
  | 0, _ :: _, _, h, _, _ => by simp at h
  | 0, [], _ :: _, h, _, _ => by simp at h
  | n + 1, x :: L1, [], h, h1, h2 => by
    simp only [List.length_cons, List.length_nil] at h
    rw [mrg_nil_r, List.nil_append]
    cases R2 with
    | nil => rw [mrg_nil_r, mrg_nil_r]
    | cons y R2 =>
      rw [List.cons_append, mrg_cons, if_neg (by rw [h1 x (by simp) y (by simp)]; simp)]
      have := mrg_app n L1 [] (by simp; omega) (fun a ha b hb => h1 a (by simp [ha]) b hb) h2
      rw [mrg_nil_r, List.nil_append] at this
      rw [this]; rfl
  | n + 1, [], y :: R1, h, h1, h2 => by
    simp only [List.length_cons, List.length_nil] at h
    rw [mrg_nil_l, List.nil_append]
    cases L2 with
    | nil => rw [mrg_nil_l, mrg_nil_l]
    | cons x L2 =>
      rw [List.cons_append, mrg_cons, if_pos (h2 y (by simp) x (by simp))]
      have := mrg_app n [] R1 (by simp; omega) h1 (fun a ha b hb => h2 a (by simp [ha]) b hb)
      rw [mrg_nil_l, List.nil_append] at this
      rw [this]; rfl
  | n + 1, x :: L1, y :: R1, h, h1, h2 => by
    simp only [List.length_cons] at h
    rw [List.cons_append, List.cons_append, mrg_cons, mrg_cons lt x y]
    split
    · have := mrg_app n (x :: L1) R1 (by simp; omega) h1 (fun a ha b hb => h2 a (by simp [ha]) b hb)
      rw [List.cons_append] at this
      rw [this]; rfl
    · have := mrg_app n L1 (y :: R1) (by simp; omega) (fun a ha b hb => h1 a (by simp [ha]) b hb) h2
      rw [List.cons_append] at this
      rw [this]; rfl
theorem cut {lt : α → α → Bool} {L1 L2 R1 R2 : List α} (h1 : ∀ x ∈ L1, ∀ y ∈ R2, lt y x = false) (h2 : ∀ y ∈ R1, ∀ x ∈ L2, lt y x = true) : mrg lt (L1 ++ L2) (R1 ++ R2) = mrg lt L1 R1 ++ mrg lt L2 R2 :=
  mrg_app _ L1 R1 (Nat.le_refl _) h1 h2
theorem mrg_low {lt : α → α → Bool} (x : α) : ∀ B : List α, (∀ b ∈ B, lt x b = true) → mrg lt B [x] = x :: B
  | [], _ => by rw [mrg_nil_l]
  | b :: B, h => by rw [mrg_cons, if_pos (h b (by simp)), mrg_nil_r]
/-- one element more, behind: it goes ahead of those that are above it -/
theorem mrg_one {lt : α → α → Bool} {A B : List α} {x : α} (h1 : ∀ a ∈ A, lt x a = false) (h2 : ∀ b ∈ B, lt x b = true) : mrg lt (A ++ B) [x] = A ++ x :: B := by
  have := cut (lt := lt) (L1 := A) (L2 := B) (R1 := []) (R2 := [x]) (by simpa using h1) (by simp)
  rw [List.nil_append, mrg_nil_r, mrg_low x B h2] at this
  exact this
/-- one element, ahead -/
theorem mrg_first {lt : α → α → Bool} {A B : List α} {x : α} (h1 : ∀ a ∈ A, lt a x = true) (h2 : ∀ b ∈ B, lt b x = false) : mrg lt [x] (A ++ B) = A ++ x :: B := by
  have := cut (lt := lt) (L1 := []) (L2 := [x]) (R1 := A) (R2 := B) (by simp) (by simpa using h1)
  rw [List.nil_append, mrg_nil_l] at this
  rw [this]
  congr 1
  cases B with
  | nil => rw [mrg_nil_r]
  | cons b B => rw [mrg_cons, if_neg (by rw [h2 b (by simp)]; simp), mrg_nil_l]
theorem mrg_srt {lt : α → α → Bool} (O : Ord lt) : ∀ (n : Nat) (xs ys : List α), xs.length + ys.length ≤ n → Srt lt xs → Srt lt ys → Srt lt (mrg lt xs ys)
  | _, [], ys, _, _, h => by rw [mrg_nil_l]; exact h
  | _, x :: xs, [], _, h, _ => by rw [mrg_nil_r]; exact h
  | 0, x :: xs, y :: ys, h, _, _ => by simp at h
  | n + 1, x :: xs, y :: ys, h, hx, hy => by
    simp only [List.length_cons] at h
    obtain ⟨x1, x2⟩ := List.pairwise_cons.1 hx
    obtain ⟨y1, y2⟩ := List.pairwise_cons.1 hy
    rw [mrg_cons]
    split
    · rename_i hl
      have hl' : lt x y = false := by
        rcases O.total x y with h' | h'
        · exact h'
        · rw [h'] at hl; cases hl
      refine List.pairwise_cons.2 ⟨fun z hz => ?_, mrg_srt O n (x :: xs) ys (by simp; omega) hx y2⟩
      rcases (mrg_mem lt _ _ z).1 hz with hz | hz
      · rcases List.mem_cons.1 hz with rfl | hz
        · exact hl'
        · exact O.trans _ _ _ hl' (x1 z hz)
      · exact y1 z hz
    · rename_i hl
      have hl' : lt y x = false := by simpa using hl
      refine List.pairwise_cons.2 ⟨fun z hz => ?_, mrg_srt O n xs (y :: ys) (by simp; omega) x2 hy⟩
      rcases (mrg_mem lt _ _ z).1 hz with hz | hz
      · exact x1 z hz
      · rcases List.mem_cons.1 hz with rfl | hz
        · exact hl'
        · exact O.trans _ _ _ hl' (y1 z hz)
theorem srt_mrg {lt : α → α → Bool} (O : Ord lt) {xs ys : List α} (h : Srt lt xs) (k : Srt lt ys) : Srt lt (mrg lt xs ys) := mrg_srt O _ xs ys (Nat.le_refl _) h k
/-- the stable order of a list -/
def S (lt : α → α → Bool) (l : List α) : List α := l.foldl (fun acc x => mrg lt acc [x]) []
theorem S_nil (lt : α → α → Bool) : S lt [] = [] := rfl
theorem S_snoc (lt : α → α → Bool) (l : List α) (x : α) : S lt (l ++ [x]) = mrg lt (S lt l) [x] := by unfold S; rw [List.foldl_append]; rfl
theorem S_fold {lt : α → α → Bool} (O : Ord lt) : ∀ (l acc : List α), l.foldl (fun acc x => mrg lt acc [x]) acc = mrg lt acc (S lt l)
  | [], acc => by rw [S_nil, mrg_nil_r]; rfl
  | x :: l, acc => by
    rw [List.foldl_cons, S_fold O l]
    have : S lt (x :: l) = mrg lt [x] (S lt l) := by
      unfold S
      rw [List.foldl_cons, mrg_nil_l, S_fold O l]
      rfl
    rw [this, assoc O]
theorem S_app {lt : α → α → Bool} (O : Ord lt) (a b : List α) : S lt (a ++ b) = mrg lt (S lt a) (S lt b) := by
  show (a ++ b).foldl _ _ = _
  rw [List.foldl_append, S_fold O]; rfl
theorem S_ind {P : List α → Prop} (h0 : P []) (h1 : ∀ l x, P l → P (l ++ [x])) : ∀ l, P l := by
  intro l
  have : ∀ (n : Nat) (l : List α), l.length = n → P l := by
    intro n
    induction n with
    | zero => intro l h; rw [List.eq_nil_of_length_eq_zero h]; exact h0
    | succ n ih =>
      intro l h
      have hne : l ≠ [] := by intro e; subst e; cases h
      rw [← List.dropLast_concat_getLast hne]
      exact h1 _ _ (ih _ (by rw [List.length_dropLast]; omega))
  exact this _ l rfl
theorem S_length (lt : α → α → Bool) : ∀ l : List α, (S lt l).length = l.length := S_ind rfl fun l x h => by rw [S_snoc, mrg_length, h, List.length_append, List.length_singleton]
theorem S_perm (lt : α → α → Bool) : ∀ l : List α, (S lt l).Perm l := S_ind (.refl _) fun l x h => by
  rw [S_snoc]; exact (mrg_perm lt _ _ _ (Nat.le_refl _)).trans (h.append_right _)
theorem S_srt {lt : α → α → Bool} (O : Ord lt) : ∀ l : List α, Srt lt (S lt l) := S_ind List.Pairwise.nil fun l x h => by
  rw [S_snoc]; exact srt_mrg O h (List.pairwise_singleton _ _)
/-- of a sorted list: the elements that stand ahead of the first one above x, and the others -/
theorem srt_split {lt : α → α → Bool} (O : Ord lt) {l : List α} (h : Srt lt l) (x : α) : ∃ A B, l = A ++ B ∧ (∀ a ∈ A, lt x a = false) ∧ (∀ b ∈ B, lt x b = true) := by
  induction l with
  | nil => exact ⟨[], [], rfl, by simp, by simp⟩
  | cons y l ih =>
    obtain ⟨h1, h2⟩ := List.pairwise_cons.1 h
    cases e : lt x y
    · obtain ⟨A, B, rfl, ha, hb⟩ := ih h2
      refine ⟨y :: A, B, rfl, fun a hA => ?_, hb⟩
      rcases List.mem_cons.1 hA with rfl | hA
      · exact e
      · exact ha a hA
    · refine ⟨[], y :: l, rfl, by simp, fun b hb => ?_⟩
      rcases List.mem_cons.1 hb with rfl | hb
      · exact e
      · cases e2 : lt x b
        · rcases O.total x y with h3 | h3
          · rw [h3] at e; cases e
          · have := O.trans _ _ _ (h1 b hb) e2
            rw [this] at e; cases e
        · rfl
/-- blocks of s elements, each in the stable order; the last one may be shorter -/
inductive SB (lt : α → α → Bool) (s : Nat) : List α → List α → Prop
  | last (D : List α) : D.length ≤ s → SB lt s D (S lt D)
  | more (D1 D E : List α) : D1.length = s → SB lt s D E → SB lt s (D1 ++ D) (S lt D1 ++ E)
theorem SB.length {lt : α → α → Bool} {s : Nat} {D E : List α} (h : SB lt s D E) : E.length = D.length := by
  induction h with
  | last D _ => exact S_length lt D
  | more D1 D E h1 _ ih => rw [List.length_append, List.length_append, S_length, ih]
theorem SB.nil {lt : α → α → Bool} {s : Nat} {D E : List α} (h : SB lt s D E) (h0 : D = []) : E = [] := List.eq_nil_of_length_eq_zero (by rw [h.length, h0]; rfl)
theorem SB.whole {lt : α → α → Bool} {s : Nat} {D E : List α} (h : SB lt s D E) (hs : D.length ≤ s) : E = S lt D := by
  cases h with
  | last _ _ => rfl
  | more D1 D E h1 h2 =>
    rw [List.length_append] at hs
    have h0 : D = [] := List.eq_nil_of_length_eq_zero (by omega)
    have := h2.nil h0
    subst h0 this
    simp
/-- more than a block is left: the first one, and the others -/
theorem SB.front {lt : α → α → Bool} {s : Nat} {D E : List α} (h : SB lt s D E) (hs : s < D.length) : ∃ D1 D2 E2, D = D1 ++ D2 ∧ D1.length = s ∧ E = S lt D1 ++ E2 ∧ SB lt s D2 E2 := by
  cases h with
  | last _ h => omega
  | more D1 D E h1 h2 => exact ⟨D1, D, E, rfl, h1, rfl, h2⟩
theorem SB.first {lt : α → α → Bool} {s : Nat} {D E : List α} (h : SB lt s D E) (hs : s ≤ D.length) : ∃ D1 D2 E2, D = D1 ++ D2 ∧ D1.length = s ∧ E = S lt D1 ++ E2 ∧ SB lt s D2 E2 := by
  cases h with
  | last _ h => exact ⟨D, [], [], by simp, by omega, by simp, .last [] (by simp)⟩
  | more D1 D E h1 h2 => exact ⟨D1, D, E, rfl, h1, rfl, h2⟩
end Go.Proofs.YtbclodbneonipaaGreat.SM

import Derived.WalkKit
/-
  The mathematics of stable sorting by merging: program-free.
-/
namespace Go.Proofs.YtlpkcpacfldfaaaGreat.SM
variable {α : Type}
def mrg (lt : α → α → Bool) : List α → List α → List α
  | [], ys => ys
  | x :: xs, [] => x :: xs
  | x :: xs, y :: ys => if lt y x then y :: mrg lt (x :: xs) ys else x :: mrg lt xs (y :: ys)
termination_by xs ys => xs.length + ys.length
theorem mrg_nil_l (lt : α → α → Bool) (ys : List α) : mrg lt [] ys = ys := by unfold mrg; rfl
theorem mrg_nil_r (lt : α → α → Bool) (xs : List α) : mrg lt xs [] = xs := by cases xs <;> simp [mrg]
theorem mrg_cons (lt : α → α → Bool) (x y : α) (xs ys : List α) : mrg lt (x :: xs) (y :: ys) = if lt y x then y :: mrg lt (x :: xs) ys else x :: mrg lt xs (y :: ys) := by
  rw [mrg]
theorem mrg_perm (lt : α → α → Bool) : ∀ (n : Nat) (xs ys : List α), xs.length + ys.length ≤ n → (mrg lt xs ys).Perm (xs ++ ys)
  | _, [], ys, _ => by rw [mrg_nil_l]; exact .refl _
  | _, x :: xs, [], _ => by rw [mrg_nil_r]; simp
  | 0, x :: xs, y :: ys, h => by simp at h
  | n + 1, x :: xs, y :: ys, h => by
    rw [mrg_cons]
    split
    · refine ((mrg_perm lt n (x :: xs) ys (by simp at h ⊢; omega)).cons y).trans ?_
      exact (List.perm_middle (l₁ := x :: xs)).symm
    · exact (mrg_perm lt n xs (y :: ys) (by simp at h ⊢; omega)).cons x
theorem mrg_length (lt : α → α → Bool) (xs ys : List α) : (mrg lt xs ys).length = xs.length + ys.length := by
  rw [(mrg_perm lt _ xs ys (Nat.le_refl _)).length_eq, List.length_append]
theorem mrg_mem (lt : α → α → Bool) (xs ys : List α) (z : α) : z ∈ mrg lt xs ys ↔ z ∈ xs ∨ z ∈ ys := by
  rw [(mrg_perm lt _ xs ys (Nat.le_refl _)).mem_iff, List.mem_append]
/-- an order as Go's documentation asks: 'le a b' is 'not (b < a)' -/
structure Ord (lt : α → α → Bool) : Prop where
  trans : ∀ a b c, lt b a = false → lt c b = false → lt c a = false
  total : ∀ a b, lt a b = false ∨ lt b a = false
def Srt (lt : α → α → Bool) (l : List α) : Prop := l.Pairwise fun a b => lt b a = false
theorem mrg_assoc {lt : α → α → Bool} (O : Ord lt) : ∀ (n : Nat) (xs ys zs : List α), xs.length + ys.length + zs.length ≤ n → mrg lt (mrg lt xs ys) zs = mrg lt xs (mrg lt ys zs)
  | _, [], ys, zs, _ => by rw [mrg_nil_l, mrg_nil_l]
  | _, x :: xs, [], zs, _ => by rw [mrg_nil_r, mrg_nil_l]
  | _, x :: xs, y :: ys, [], _ => by rw [mrg_nil_r, mrg_nil_r]
  | 0, x :: xs, y :: ys, z :: zs, h => by simp at h
  | n + 1, a :: A, b :: B, c :: C, h => by
    simp only [List.length_cons] at h
    rw [mrg_cons lt a b A B, mrg_cons lt b c B C]
    by_cases hab : lt b a = true
    · rw [if_pos hab]
      by_cases hbc : lt c b = true
      · have hac : lt c a = true := by
          cases e : lt c a
          · rcases O.total b a with h1 | h1
            · rw [h1] at hab; cases hab
            · rcases O.total c b with h2 | h2
              · rw [h2] at hbc; cases hbc
              · have := O.trans b a c h1 e
                rw [this] at hbc; cases hbc
          · rfl
        rw [if_pos hbc, mrg_cons, if_pos hbc, mrg_cons lt a c, if_pos hac, ← mrg_assoc O n (a :: A) (b :: B) C (by simp; omega), mrg_cons lt a b A B, if_pos hab]
      · rw [if_neg hbc, mrg_cons, if_neg hbc, mrg_cons lt a b, if_pos hab, mrg_assoc O n (a :: A) B (c :: C) (by simp; omega)]
    · rw [if_neg hab]
      have hab' : lt b a = false := by simpa using hab
      by_cases hac : lt c a = true
      · have hbc : lt c b = true := by
          cases e : lt c b
          · have := O.trans a b c hab' e
            rw [this] at hac; cases hac
          · rfl
        rw [if_pos hbc, mrg_cons, if_pos hac, mrg_cons lt a c, if_pos hac, ← mrg_assoc O n (a :: A) (b :: B) C (by simp; omega), mrg_cons lt a b A B, if_neg hab]
      · rw [mrg_cons, if_neg hac, mrg_assoc O n A (b :: B) (c :: C) (by simp; omega), mrg_cons lt b c B C]
        by_cases hbc : lt c b = true
        · rw [if_pos hbc, mrg_cons lt a c, if_neg hac]
        · rw [if_neg hbc, mrg_cons lt a b, if_neg hab]
theorem assoc {lt : α → α → Bool} (O : Ord lt) (xs ys zs : List α) : mrg lt (mrg lt xs ys) zs = mrg lt xs (mrg lt ys zs) := mrg_assoc O _ xs ys zs (Nat.le_refl _)
/-- the cut: what is merged of two parts each -/
theorem mrg_app {lt : α → α → Bool} {L2 R2 : List α} : ∀ (n : Nat) (L1 R1 : List α), L1.length + R1.length ≤ n → (∀ x ∈ L1, ∀ y ∈ R2, lt y x = false) → (∀ y ∈ R1, ∀ x ∈ L2, lt y x = true) →
    mrg lt (L1 ++ L2) (R1 ++ R2) = mrg lt L1 R1 ++ mrg lt L2 R2
  | _, [], [], _, _, _ => by rw [mrg_nil_l]; rfl
  | 0, _ :: _, _, h, _, _ => by simp at h
  | 0, [], _ :: _, h, _, _ => by simp at h
  | n + 1, x :: L1, [], h, h1, h2 => by
    simp only [List.length_cons, List.length_nil] at h
    rw [mrg_nil_r, List.nil_append]
    cases R2 with
    | nil => rw [mrg_nil_r, mrg_nil_r]
    | cons y R2 =>
      rw [List.cons_append, mrg_cons, if_neg (by rw [h1 x (by simp) y (by simp)]; simp)]
      have := mrg_app n L1 [] (by simp; omega) (fun a ha b hb => h1 a (by simp [ha]) b hb) h2
      rw [mrg_nil_r, List.nil_append] at this
      rw [this]; rfl
  | n + 1, [], y :: R1, h, h1, h2 => by
    simp only [List.length_cons, List.length_nil] at h
    rw [mrg_nil_l, List.nil_append]
    cases L2 with
    | nil => rw [mrg_nil_l, mrg_nil_l]
    | cons x L2 =>
      rw [List.cons_append, mrg_cons, if_pos (h2 y (by simp) x (by simp))]
      have := mrg_app n [] R1 (by simp; omega) h1 (fun a ha b hb => h2 a (by simp [ha]) b hb)
      rw [mrg_nil_l, List.nil_append] at this
      rw [this]; rfl
  | n + 1, x :: L1, y :: R1, h, h1, h2 => by
    simp only [List.length_cons] at h
    rw [List.cons_append, List.cons_append, mrg_cons, mrg_cons lt x y]
    split
    · have := mrg_app n (x :: L1) R1 (by simp; omega) h1 (fun a ha b hb => h2 a (by simp [ha]) b hb)
      rw [List.cons_append] at this
      rw [this]; rfl
    · have := mrg_app n L1 (y :: R1) (by simp; omega) (fun a ha b hb => h1 a (by simp [ha]) b hb) h2
      rw [List.cons_append] at this
      rw [this]; rfl
theorem cut {lt : α → α → Bool} {L1 L2 R1 R2 : List α} (h1 : ∀ x ∈ L1, ∀ y ∈ R2, lt y x = false) (h2 : ∀ y ∈ R1, ∀ x ∈ L2, lt y x = true) : mrg lt (L1 ++ L2) (R1 ++ R2) = mrg lt L1 R1 ++ mrg lt L2 R2 :=
  mrg_app _ L1 R1 (Nat.le_refl _) h1 h2
theorem mrg_low {lt : α → α → Bool} (x : α) : ∀ B : List α, (∀ b ∈ B, lt x b = true) → mrg lt B [x] = x :: B
  | [], _ => by rw [mrg_nil_l]
  | b :: B, h => by rw [mrg_cons, if_pos (h b (by simp)), mrg_nil_r]
/-- one element more, behind: it goes ahead of those that are above it -/
theorem mrg_one {lt : α → α → Bool} {A B : List α} {x : α} (h1 : ∀ a ∈ A, lt x a = false) (h2 : ∀ b ∈ B, lt x b = true) : mrg lt (A ++ B) [x] = A ++ x :: B := by
  have := cut (lt := lt) (L1 := A) (L2 := B) (R1 := []) (R2 := [x]) (by simpa using h1) (by simp)
  rw [List.nil_append, mrg_nil_r, mrg_low x B h2] at this
  exact this
/-- one element, ahead -/
theorem mrg_first {lt : α → α → Bool} {A B : List α} {x : α} (h1 : ∀ a ∈ A, lt a x = true) (h2 : ∀ b ∈ B, lt b x = false) : mrg lt [x] (A ++ B) = A ++ x :: B := by
  have := cut (lt := lt) (L1 := []) (L2 := [x]) (R1 := A) (R2 := B) (by simp) (by simpa using h1)
  rw [List.nil_append, mrg_nil_l] at this
  rw [this]
  congr 1
  cases B with
  | nil => rw [mrg_nil_r]
  | cons b B => rw [mrg_cons, if_neg (by rw [h2 b (by simp)]; simp), mrg_nil_l]
theorem mrg_srt {lt : α → α → Bool} (O : Ord lt) : ∀ (n : Nat) (xs ys : List α), xs.length + ys.length ≤ n → Srt lt xs → Srt lt ys → Srt lt (mrg lt xs ys)
  | _, [], ys, _, _, h => by rw [mrg_nil_l]; exact h
  | _, x :: xs, [], _, h, _ => by rw [mrg_nil_r]; exact h
  | 0, x :: xs, y :: ys, h, _, _ => by simp at h
  | n + 1, x :: xs, y :: ys, h, hx, hy => by
    simp only [List.length_cons] at h
    obtain ⟨x1, x2⟩ := List.pairwise_cons.1 hx
    obtain ⟨y1, y2⟩ := List.pairwise_cons.1 hy
    rw [mrg_cons]
    split
    · rename_i hl
      have hl' : lt x y = false := by
        rcases O.total x y with h' | h'
        · exact h'
        · rw [h'] at hl; cases hl
      refine List.pairwise_cons.2 ⟨fun z hz => ?_, mrg_srt O n (x :: xs) ys (by simp; omega) hx y2⟩
      rcases (mrg_mem lt _ _ z).1 hz with hz | hz
      · rcases List.mem_cons.1 hz with rfl | hz
        · exact hl'
        · exact O.trans _ _ _ hl' (x1 z hz)
      · exact y1 z hz
    · rename_i hl
      have hl' : lt y x = false := by simpa using hl
      refine List.pairwise_cons.2 ⟨fun z hz => ?_, mrg_srt O n xs (y :: ys) (by simp; omega) x2 hy⟩
      rcases (mrg_mem lt _ _ z).1 hz with hz | hz
      · exact x1 z hz
      · rcases List.mem_cons.1 hz with rfl | hz
        · exact hl'
        · exact O.trans _ _ _ hl' (y1 z hz)
theorem srt_mrg {lt : α → α → Bool} (O : Ord lt) {xs ys : List α} (h : Srt lt xs) (k : Srt lt ys) : Srt lt (mrg lt xs ys) := mrg_srt O _ xs ys (Nat.le_refl _) h k
/-- the stable order of a list -/
def S (lt : α → α → Bool) (l : List α) : List α := l.foldl (fun acc x => mrg lt acc [x]) []
theorem S_nil (lt : α → α → Bool) : S lt [] = [] := rfl
theorem S_snoc (lt : α → α → Bool) (l : List α) (x : α) : S lt (l ++ [x]) = mrg lt (S lt l) [x] := by unfold S; rw [List.foldl_append]; rfl
theorem S_fold {lt : α → α → Bool} (O : Ord lt) : ∀ (l acc : List α), l.foldl (fun acc x => mrg lt acc [x]) acc = mrg lt acc (S lt l)
  | [], acc => by rw [S_nil, mrg_nil_r]; rfl
  | x :: l, acc => by
    rw [List.foldl_cons, S_fold O l]
    have : S lt (x :: l) = mrg lt [x] (S lt l) := by
      unfold S
      rw [List.foldl_cons, mrg_nil_l, S_fold O l]
      rfl
    rw [this, assoc O]
theorem S_app {lt : α → α → Bool} (O : Ord lt) (a b : List α) : S lt (a ++ b) = mrg lt (S lt a) (S lt b) := by
  show (a ++ b).foldl _ _ = _
  rw [List.foldl_append, S_fold O]; rfl
theorem S_ind {P : List α → Prop} (h0 : P []) (h1 : ∀ l x, P l → P (l ++ [x])) : ∀ l, P l := by
  intro l
  have : ∀ (n : Nat) (l : List α), l.length = n → P l := by
    intro n
    induction n with
    | zero => intro l h; rw [List.eq_nil_of_length_eq_zero h]; exact h0
    | succ n ih =>
      intro l h
      have hne : l ≠ [] := by intro e; subst e; cases h
      rw [← List.dropLast_concat_getLast hne]
      exact h1 _ _ (ih _ (by rw [List.length_dropLast]; omega))
  exact this _ l rfl
theorem S_length (lt : α → α → Bool) : ∀ l : List α, (S lt l).length = l.length := S_ind rfl fun l x h => by rw [S_snoc, mrg_length, h, List.length_append, List.length_singleton]
theorem S_perm (lt : α → α → Bool) : ∀ l : List α, (S lt l).Perm l := S_ind (.refl _) fun l x h => by
  rw [S_snoc]; exact (mrg_perm lt _ _ _ (Nat.le_refl _)).trans (h.append_right _)
theorem S_srt {lt : α → α → Bool} (O : Ord lt) : ∀ l : List α, Srt lt (S lt l) := S_ind List.Pairwise.nil fun l x h => by
  rw [S_snoc]; exact srt_mrg O h (List.pairwise_singleton _ _)
/-- of a sorted list: the elements that stand ahead of the first one above x, and the others -/
theorem srt_split {lt : α → α → Bool} (O : Ord lt) {l : List α} (h : Srt lt l) (x : α) : ∃ A B, l = A ++ B ∧ (∀ a ∈ A, lt x a = false) ∧ (∀ b ∈ B, lt x b = true) := by
  induction l with
  | nil => exact ⟨[], [], rfl, by simp, by simp⟩
  | cons y l ih =>
    obtain ⟨h1, h2⟩ := List.pairwise_cons.1 h
    cases e : lt x y
    · obtain ⟨A, B, rfl, ha, hb⟩ := ih h2
      refine ⟨y :: A, B, rfl, fun a hA => ?_, hb⟩
      rcases List.mem_cons.1 hA with rfl | hA
      · exact e
      · exact ha a hA
    · refine ⟨[], y :: l, rfl, by simp, fun b hb => ?_⟩
      rcases List.mem_cons.1 hb with rfl | hb
      · exact e
      · cases e2 : lt x b
        · rcases O.total x y with h3 | h3
          · rw [h3] at e; cases e
          · have := O.trans _ _ _ (h1 b hb) e2
            rw [this] at e; cases e
        · rfl
/-- blocks of s elements, each in the stable order; the last one may be shorter -/
inductive SB (lt : α → α → Bool) (s : Nat) : List α → List α → Prop
  | last (D : List α) : D.length ≤ s → SB lt s D (S lt D)
  | more (D1 D E : List α) : D1.length = s → SB lt s D E → SB lt s (D1 ++ D) (S lt D1 ++ E)
theorem SB.length {lt : α → α → Bool} {s : Nat} {D E : List α} (h : SB lt s D E) : E.length = D.length := by
  induction h with
  | last D _ => exact S_length lt D
  | more D1 D E h1 _ ih => rw [List.length_append, List.length_append, S_length, ih]
theorem SB.nil {lt : α → α → Bool} {s : Nat} {D E : List α} (h : SB lt s D E) (h0 : D = []) : E = [] := List.eq_nil_of_length_eq_zero (by rw [h.length, h0]; rfl)
theorem SB.whole {lt : α → α → Bool} {s : Nat} {D E : List α} (h : SB lt s D E) (hs : D.length ≤ s) : E = S lt D := by
  cases h with
  | last _ _ => rfl
  | more D1 D E h1 h2 =>
    rw [List.length_append] at hs
    have h0 : D = [] := List.eq_nil_of_length_eq_zero (by omega)
    have := h2.nil h0
    subst h0 this
    simp
/-- more than a block is left: the first one, and the others -/
theorem SB.front {lt : α → α → Bool} {s : Nat} {D E : List α} (h : SB lt s D E) (hs : s < D.length) : ∃ D1 D2 E2, D = D1 ++ D2 ∧ D1.length = s ∧ E = S lt D1 ++ E2 ∧ SB lt s D2 E2 := by
  cases h with
  | last _ h => omega
  | more D1 D E h1 h2 => exact ⟨D1, D, E, rfl, h1, rfl, h2⟩
theorem SB.first {lt : α → α → Bool} {s : Nat} {D E : List α} (h : SB lt s D E) (hs : s ≤ D.length) : ∃ D1 D2 E2, D = D1 ++ D2 ∧ D1.length = s ∧ E = S lt D1 ++ E2 ∧ SB lt s D2 E2 := by
  cases h with
  | last _ h => exact ⟨D, [], [], by simp, by omega, by simp, .last [] (by simp)⟩
  | more D1 D E h1 h2 => exact ⟨D1, D, E, rfl, h1, rfl, h2⟩
end Go.Proofs.YtlpkcpacfldfaaaGreat.SM
/-
  The mathematics of layers 3 and 4 (tables, nfc): program-free but for the type of values.
-/
namespace Go.Proofs.YtlpkcpacfldfaaaGreat.N
structure Sp where
  lo : Int
  hi : Int
  st : Int
  mv : Value
  map : List Int
structure Cl where
  r : Int
  c : Int
structure Pa where
  r : Int
  a : Int
  b : Int
  one : Bool
structure Sg where
  lo : Int
  hi : Int
  k : Int
structure Tab where
  spans : List Sp
  classes : List Cl
  pairs : List Pa
  ways : List Sg
  joins : List Sg
/-! ### What is asked of a rune -/
def clsL (l : List Cl) (r : Int) : Int := match l.find? (fun x => x.r == r) with | some x => x.c | none => 0
def cls (T : Tab) (r : Int) : Int := clsL T.classes r
def prL (l : List Pa) (r : Int) : Option Pa := l.find? (fun x => x.r == r)
def ptL (l : List Pa) (a b : Int) : Option Int := if b = 0 then none else (l.find? (fun x => !x.one && (x.a == a && x.b == b))).map (·.r)
/-! ### Hangul -/
def syl (r : Int) : Bool := 44032 ≤ r && r ≤ 55203
def split (r : Int) : List Int := if (r - 44032) % 28 = 0 then [4352 + (r - 44032) / 588, 4449 + (r - 44032) % 588 / 28] else [4352 + (r - 44032) / 588, 4449 + (r - 44032) % 588 / 28, 4519 + (r - 44032) % 28]
def hang (a b : Int) : Option Int :=
  if 4352 ≤ a ∧ a < 4371 ∧ 4449 ≤ b ∧ b < 4470 then some (44032 + ((a - 4352) * 21 + (b - 4449)) * 28)
  else if syl a = true ∧ (a - 44032) % 28 = 0 ∧ 4519 < b ∧ b < 4547 then some (a + (b - 4519)) else none
def both (T : Tab) (a b : Int) : Option Int := match hang a b with | some x => some x | none => ptL T.pairs a b
/-! ### Taken apart -/
def ap (l : List Pa) : Nat → Int → List Int
  | 0, r => [r]
  | n + 1, r => if syl r then split r else match prL l r with
    | none => [r]
    | some p => ap l n p.a ++ (if p.b = 0 then [] else ap l n p.b)
/-- taking apart comes to an end -/
def Falls (l : List Pa) : Prop := ∀ p ∈ l, 0 ≤ p.a ∧ p.a < p.r ∧ 0 ≤ p.b ∧ p.b < p.r
theorem prL_some {l : List Pa} {r : Int} {p : Pa} (h : prL l r = some p) : p ∈ l ∧ p.r = r := by
  unfold prL at h
  have h1 := List.mem_of_find?_eq_some h
  have h2 := List.find?_some h
  exact ⟨h1, by simpa using h2⟩
theorem ap_more {l : List Pa} (hf : Falls l) : ∀ (n m : Nat) (r : Int), r.toNat < n → r.toNat < m → ap l n r = ap l m r := by
  intro n
  induction n with
  | zero => intro m r h; omega
  | succ n ih =>
    intro m r h1 h2
    obtain ⟨m, rfl⟩ : ∃ k, m = k + 1 := ⟨m - 1, by omega⟩
    unfold ap
    split
    · rfl
    · cases hp : prL l r with
      | none => rfl
      | some p =>
        obtain ⟨hm, hr⟩ := prL_some hp
        obtain ⟨a0, a1, b0, b1⟩ := hf p hm
        simp only
        rw [ih m p.a (by omega) (by omega), ih m p.b (by omega) (by omega)]
def apt (l : List Pa) (r : Int) : List Int := ap l (r.toNat + 1) r
theorem apt_eq {l : List Pa} (hf : Falls l) (r : Int) : apt l r = if syl r then split r else match prL l r with
    | none => [r]
    | some p => apt l p.a ++ (if p.b = 0 then [] else apt l p.b) := by
  unfold apt
  rw [ap]
  split
  · rfl
  · cases hp : prL l r with
    | none => rfl
    | some p =>
      obtain ⟨hm, hr⟩ := prL_some hp
      obtain ⟨a0, a1, b0, b1⟩ := hf p hm
      simp only
      rw [ap_more hf (r.toNat) (p.a.toNat + 1) p.a (by omega) (by omega), ap_more hf (r.toNat) (p.b.toNat + 1) p.b (by omega) (by omega)]
theorem apt_syl {l : List Pa} (hf : Falls l) {r : Int} (h : syl r = true) : apt l r = split r := by rw [apt_eq hf, if_pos h]
theorem apt_none {l : List Pa} (hf : Falls l) {r : Int} (h : syl r = false) (hp : prL l r = none) : apt l r = [r] := by rw [apt_eq hf, if_neg (by rw [h]; simp), hp]
theorem apt_one {l : List Pa} (hf : Falls l) {r : Int} (h : syl r = false) {p : Pa} (hp : prL l r = some p) (hb : p.b = 0) : apt l r = apt l p.a := by rw [apt_eq hf, if_neg (by rw [h]; simp), hp]; simp [hb]
theorem apt_two {l : List Pa} (hf : Falls l) {r : Int} (h : syl r = false) {p : Pa} (hp : prL l r = some p) (hb : p.b ≠ 0) : apt l r = apt l p.a ++ apt l p.b := by rw [apt_eq hf, if_neg (by rw [h]; simp), hp]; simp [hb]
theorem split_len (r : Int) : 2 ≤ (split r).length ∧ (split r).length ≤ 3 := by unfold split; split <;> simp
theorem ap_pos (l : List Pa) : ∀ (n : Nat) (r : Int), 1 ≤ (ap l n r).length := by
  intro n
  induction n with
  | zero => intro r; simp [ap]
  | succ n ih =>
    intro r
    unfold ap
    split
    · have := split_len r; omega
    · split
      · simp
      · rename_i p _
        have := ih p.a
        rw [List.length_append]; omega
theorem apt_pos (l : List Pa) (r : Int) : 1 ≤ (apt l r).length := ap_pos l _ r
def apl (l : List Pa) (x : List Int) : List Int := x.flatMap (apt l)
theorem apl_app (l : List Pa) (x y : List Int) : apl l (x ++ y) = apl l x ++ apl l y := List.flatMap_append
theorem apl_cons (l : List Pa) (r : Int) (x : List Int) : apl l (r :: x) = apt l r ++ apl l x := by unfold apl; rw [List.flatMap_cons]
theorem apl_len (l : List Pa) (x : List Int) : x.length ≤ (apl l x).length := by
  induction x with
  | nil => simp
  | cons r x ih => rw [apl_cons, List.length_append, List.length_cons]; have := apt_pos l r; omega
/-! ### In order -/
def insT (f : Int → Int) (p : List Int) (r : Int) : List Int := if f r = 0 then p ++ [r] else (p.reverse.dropWhile (fun b => decide (f r < f b))).reverse ++ r :: (p.reverse.takeWhile (fun b => decide (f r < f b))).reverse
def ord (f : Int → Int) (l : List Int) : List Int := l.foldl (insT f) []
theorem ord_nil (f : Int → Int) : ord f [] = [] := rfl
theorem ord_snoc (f : Int → Int) (l : List Int) (r : Int) : ord f (l ++ [r]) = insT f (ord f l) r := by unfold ord; rw [List.foldl_append]; rfl
theorem ins_zero {f : Int → Int} {r : Int} (h : f r = 0) (p : List Int) : insT f p r = p ++ [r] := by unfold insT; rw [if_pos h]
/-- where a rune goes -/
theorem ins_at {f : Int → Int} {r : Int} (h : f r ≠ 0) (A B : List Int) (hB : ∀ b ∈ B, f r < f b) (hA : ∀ a, A.getLast? = some a → f a ≤ f r) : insT f (A ++ B) r = A ++ r :: B := by
  unfold insT
  rw [if_neg h, List.reverse_append]
  have h1 : ∀ b ∈ B.reverse, decide (f r < f b) = true := fun b hb => decide_eq_true (hB b (List.mem_reverse.1 hb))
  have h2 : A.reverse.takeWhile (fun b => decide (f r < f b)) = [] ∧ A.reverse.dropWhile (fun b => decide (f r < f b)) = A.reverse := by
    cases hr : A.reverse with
    | nil => exact ⟨rfl, rfl⟩
    | cons a l =>
      have : A.getLast? = some a := by rw [← List.head?_reverse, hr]; rfl
      have := hA a this
      rw [List.takeWhile_cons_of_neg (by simp; omega), List.dropWhile_cons_of_neg (by simp; omega)]
      exact ⟨rfl, rfl⟩
  rw [List.takeWhile_append_of_pos h1, List.dropWhile_append_of_pos h1, h2.1, h2.2]
  simp
theorem ins_parts (f : Int → Int) (p : List Int) (r : Int) : ∃ A B, p = A ++ B ∧ insT f p r = A ++ r :: B ∧ (∀ b ∈ B, f r ≠ 0 ∧ f r < f b) ∧ (f r ≠ 0 → ∀ a, A.getLast? = some a → f a ≤ f r) ∧ (f r = 0 → B = []) := by
  by_cases h : f r = 0
  · exact ⟨p, [], by simp, by rw [ins_zero h], by simp, fun h' => absurd h h', fun _ => rfl⟩
  · refine ⟨(p.reverse.dropWhile (fun b => decide (f r < f b))).reverse, (p.reverse.takeWhile (fun b => decide (f r < f b))).reverse, ?_, by unfold insT; rw [if_neg h], fun b hb => ⟨h, ?_⟩, fun _ a ha => ?_, fun h' => absurd h' h⟩
    · rw [← List.reverse_append, List.takeWhile_append_dropWhile, List.reverse_reverse]
    · have := List.all_eq_true.1 (List.all_takeWhile (l := p.reverse) (p := fun b => decide (f r < f b))) b (List.mem_reverse.1 hb)
      exact of_decide_eq_true this
    · rw [List.getLast?_reverse] at ha
      have := List.head?_dropWhile_not (fun b => decide (f r < f b)) p.reverse
      rw [ha] at this
      simp at this
      omega
theorem ins_len (f : Int → Int) (p : List Int) (r : Int) : (insT f p r).length = p.length + 1 := by
  obtain ⟨A, B, rfl, h, _⟩ := ins_parts f p r
  rw [h]; simp; omega
theorem ord_len (f : Int → Int) : ∀ l : List Int, (ord f l).length = l.length := SM.S_ind rfl fun l x h => by rw [ord_snoc, ins_len, h, List.length_append, List.length_singleton]
theorem ins_perm (f : Int → Int) (p : List Int) (r : Int) : (insT f p r).Perm (p ++ [r]) := by
  obtain ⟨A, B, rfl, h, _⟩ := ins_parts f p r
  rw [h, List.append_assoc]
  exact List.Perm.append_left _ (List.perm_append_singleton r B).symm
theorem ord_perm (f : Int → Int) : ∀ l : List Int, (ord f l).Perm l := SM.S_ind (.refl _) fun l x h => by
  rw [ord_snoc]; exact (ins_perm f _ _).trans (h.append_right _)
theorem ins_filter (f : Int → Int) (c : Int) (p : List Int) (r : Int) : (insT f p r).filter (fun x => f x == c) = p.filter (fun x => f x == c) ++ [r].filter (fun x => f x == c) := by
  obtain ⟨A, B, rfl, h, hB, _⟩ := ins_parts f p r
  rw [h, List.filter_append, List.filter_append, List.filter_cons]
  by_cases hc : (f r == c) = true
  · have : B.filter (fun x => f x == c) = [] := by
      rw [List.filter_eq_nil_iff]
      intro b hb
      have := (hB b hb).2
      simp at hc ⊢
      omega
    rw [if_pos hc, this]
    simp [hc]
  · rw [if_neg hc]
    simp [hc]
theorem ord_filter (f : Int → Int) (c : Int) : ∀ l : List Int, (ord f l).filter (fun x => f x == c) = l.filter (fun x => f x == c) := SM.S_ind rfl fun l x h => by
  rw [ord_snoc, ins_filter, h, List.filter_append]
theorem ord_zero (f : Int → Int) (hf : ∀ r, 0 ≤ f r) : ∀ l : List Int, (ord f l).map (fun x => f x == 0) = l.map (fun x => f x == 0) := SM.S_ind rfl fun l r h => by
  rw [ord_snoc]
  obtain ⟨A, B, e, h', hB, _⟩ := ins_parts f (ord f l) r
  rw [h', List.map_append, List.map_append, ← h, e, List.map_append, List.append_assoc]
  congr 1
  by_cases hn : B = []
  · subst hn; rfl
  · obtain ⟨b, hb⟩ := List.exists_mem_of_ne_nil B hn
    have h0 := (hB b hb).1
    have h1 : (f r == 0) = false := by simpa using h0
    have hnn := hf r
    have h2 : B.map (fun x => f x == 0) = List.replicate B.length false := by
      rw [List.eq_replicate_iff]
      refine ⟨by simp, fun x hx => ?_⟩
      obtain ⟨y, hy, rfl⟩ := List.mem_map.1 hx
      have := (hB y hy).2
      have : f y ≠ 0 := by omega
      simpa using this
    rw [List.map_cons, List.map_cons, List.map_nil, h1, h2, ← List.replicate_succ, List.replicate_succ']
/-- neighbours in order -/
def Adj (f : Int → Int) : List Int → Prop
  | [] => True
  | [_] => True
  | a :: b :: l => (f b = 0 ∨ f a ≤ f b) ∧ Adj f (b :: l)
theorem adj_app {f : Int → Int} : ∀ {A B : List Int}, Adj f (A ++ B) ↔ Adj f A ∧ Adj f B ∧ (∀ a b, A.getLast? = some a → B.head? = some b → f b = 0 ∨ f a ≤ f b)
  | [], B => by simp [Adj]
  | [a], [] => by simp [Adj]
  | [a], b :: B => by simp [Adj, and_comm]
  | a :: a2 :: A, B => by
    have := adj_app (f := f) (A := a2 :: A) (B := B)
    simp only [List.cons_append] at this ⊢
    rw [Adj, Adj, this, List.getLast?_cons_cons]
    simp only [and_assoc]
theorem ord_adj (f : Int → Int) : ∀ l : List Int, Adj f (ord f l) := SM.S_ind (by simp [ord, Adj]) fun l r h => by
  rw [ord_snoc]
  obtain ⟨A, B, e, h', hB, hA, h0⟩ := ins_parts f (ord f l) r
  rw [e] at h
  obtain ⟨h1, h2, _⟩ := adj_app.1 h
  rw [h', show A ++ r :: B = A ++ ([r] ++ B) from rfl]
  refine adj_app.2 ⟨h1, adj_app.2 ⟨trivial, h2, fun a b ha hb => ?_⟩, fun a b ha hb => ?_⟩
  · simp only [List.getLast?_singleton, Option.some.injEq] at ha
    subst ha
    have := (hB b (List.mem_of_mem_head? hb)).2
    omega
  · simp only [List.singleton_append, List.head?_cons, Option.some.injEq] at hb
    subst hb
    by_cases hz : f r = 0
    · exact .inl hz
    · exact .inr (hA hz a ha)
theorem ord_same {f : Int → Int} : ∀ l : List Int, Adj f l → ord f l = l := SM.S_ind (fun _ => rfl) fun l r ih h => by
  obtain ⟨h1, _, h3⟩ := adj_app.1 h
  rw [ord_snoc, ih h1]
  by_cases hz : f r = 0
  · exact ins_zero hz l
  · have := ins_at hz l [] (by simp) (fun a ha => by
      rcases h3 a r ha rfl with h | h
      · exact absurd h hz
      · exact h)
    simpa using this
theorem ord_ord (f : Int → Int) (l : List Int) : ord f (ord f l) = ord f l := ord_same _ (ord_adj f l)
theorem adj_at {f : Int → Int} : ∀ {l : List Int} {i : Nat} {a b : Int}, Adj f l → l[i]? = some a → l[i + 1]? = some b → f b = 0 ∨ f a ≤ f b
  | [], _, _, _, _, h, _ => by simp at h
  | [_], 0, _, _, _, _, h => by simp at h
  | [_], _ + 1, _, _, _, h, _ => by simp at h
  | x :: y :: l, 0, a, b, h, h1, h2 => by
    simp at h1 h2
    subst h1 h2
    exact h.1
  | x :: y :: l, i + 1, a, b, h, h1, h2 => adj_at (l := y :: l) (i := i) h.2 (by simpa using h1) (by simpa using h2)
/-! ### The program's order: by the block, then by the class -/
structure Pl where
  r : Int
  k : Int
  c : Int
instance : Inhabited Pl := ⟨⟨0, 0, 0⟩⟩
def ltP (a b : Pl) : Bool := decide (a.k < b.k) || (decide (a.k = b.k) && decide (a.c < b.c))
theorem ltP_ord : SM.Ord ltP := by
  refine ⟨fun a b c h1 h2 => ?_, fun a b => ?_⟩
  · simp [ltP] at h1 h2 ⊢; omega
  · simp [ltP]; omega
/-- runes with their blocks and classes, the block being k ahead of the first one -/
def annot (f : Int → Int) : Int → List Int → List Pl
  | _, [] => []
  | k, r :: l => let k' := if f r = 0 then k + 1 else k; ⟨r, k', f r⟩ :: annot f k' l
def blk (f : Int → Int) (k : Int) (l : List Int) : Int := l.foldl (fun k r => if f r = 0 then k + 1 else k) k
theorem annot_snoc (f : Int → Int) : ∀ (l : List Int) (k : Int) (r : Int), annot f k (l ++ [r]) = annot f k l ++ [⟨r, if f r = 0 then blk f k l + 1 else blk f k l, f r⟩]
  | [], k, r => by simp [annot, blk]
  | x :: l, k, r => by
    rw [List.cons_append, annot, annot, annot_snoc f l]
    rfl
theorem annot_len (f : Int → Int) : ∀ (l : List Int) (k : Int), (annot f k l).length = l.length
  | [], k => rfl
  | x :: l, k => by rw [annot]; simp [annot_len f l]
theorem blk_snoc (f : Int → Int) (l : List Int) (k r : Int) : blk f k (l ++ [r]) = if f r = 0 then blk f k l + 1 else blk f k l := by unfold blk; rw [List.foldl_append]; rfl
structure Inv (f : Int → Int) (l : List Int) (P : List Pl) : Prop where
  runes : (SM.S ltP P).map (·.r) = ord f l
  cl : ∀ p ∈ SM.S ltP P, p.c = f p.r ∧ 0 ≤ p.k ∧ p.k ≤ blk f 0 l
  st : 0 < blk f 0 l → ∃ p ∈ SM.S ltP P, p.k = blk f 0 l ∧ p.c = 0
  nn : 0 ≤ blk f 0 l
theorem S_annot (f : Int → Int) (hf : ∀ r, 0 ≤ f r) : ∀ l : List Int, Inv f l (annot f 0 l) := SM.S_ind ⟨rfl, by simp [annot, SM.S_nil], by simp [blk], by simp [blk]⟩ fun l r ih => by
  rw [annot_snoc]
  have hfr := hf r
  obtain ⟨i1, i2, i3, i4⟩ := ih
  generalize hk : (if f r = 0 then blk f 0 l + 1 else blk f 0 l) = k
  have hb : blk f 0 (l ++ [r]) = k := by rw [blk_snoc, hk]
  obtain ⟨A, B, e, hA, hB⟩ := SM.srt_split ltP_ord (SM.S_srt ltP_ord (annot f 0 l)) ⟨r, k, f r⟩
  have hS : SM.S ltP (annot f 0 l ++ [⟨r, k, f r⟩]) = A ++ ⟨r, k, f r⟩ :: B := by rw [SM.S_snoc, e]; exact SM.mrg_one hA hB
  have hsrt := SM.S_srt ltP_ord (annot f 0 l)
  rw [e] at i1 i2 i3 hsrt
  have hmem : ∀ p, p ∈ A ++ (⟨r, k, f r⟩ : Pl) :: B → p ∈ A ++ B ∨ p = ⟨r, k, f r⟩ := fun p hp => by
    simp only [List.mem_append, List.mem_cons] at hp ⊢
    rcases hp with h | h | h
    · exact .inl (.inl h)
    · exact .inr h
    · exact .inl (.inr h)
  refine ⟨?_, ?_, ?_, ?_⟩
  · rw [hS, ord_snoc, ← i1, List.map_append, List.map_cons, List.map_append]
    by_cases hz : f r = 0
    · rw [if_pos hz] at hk
      have : B = [] := by
        cases B with
        | nil => rfl
        | cons b B =>
          have h1 := hB b (by simp)
          have h2 := (i2 b (by simp)).2.2
          simp [ltP] at h1
          omega
      subst this
      rw [ins_zero hz]; simp
    · rw [if_neg hz] at hk
      refine (ins_at hz _ _ ?_ ?_).symm
      · intro b hb'
        obtain ⟨p, hp, rfl⟩ := List.mem_map.1 hb'
        have h1 := hB p hp
        obtain ⟨h2, _, h3⟩ := i2 p (List.mem_append.2 (.inr hp))
        simp [ltP] at h1
        omega
      · intro a ha
        rw [List.getLast?_map] at ha
        obtain ⟨p, hp, rfl⟩ := Option.map_eq_some_iff.1 ha
        have hpA : p ∈ A := List.mem_of_getLast? hp
        have h1 := hA p hpA
        obtain ⟨h2, h20, h3⟩ := i2 p (List.mem_append.2 (.inl hpA))
        simp [ltP] at h1
        by_cases hpk : p.k = k
        · have := h1.2 hpk.symm
          omega
        · have hlt : p.k < k := by omega
          obtain ⟨s, hs, hs1, hs2⟩ := i3 (by omega)
          rcases List.mem_append.1 hs with hs | hs
          · have hpair := (List.pairwise_append.1 hsrt).1
            have hdl : A = A.dropLast ++ [p] := by
              have hne : A ≠ [] := by intro e; subst e; simp at hp
              have := List.dropLast_concat_getLast hne
              rw [List.getLast?_eq_some_getLast hne] at hp
              simp only [Option.some.injEq] at hp
              rw [hp] at this; exact this.symm
            rw [hdl] at hs hpair
            rcases List.mem_append.1 hs with hs | hs
            · have := (List.pairwise_append.1 hpair).2.2 s hs p (by simp)
              simp [ltP] at this
              omega
            · simp at hs; subst hs; omega
          · have := hB s hs
            simp [ltP] at this
            omega
  · intro p hp
    rw [hS] at hp
    rw [hb]
    rcases hmem p hp with h | rfl
    · obtain ⟨h1, h2, h3⟩ := i2 p h
      refine ⟨h1, h2, ?_⟩
      split at hk <;> omega
    · refine ⟨rfl, ?_, Int.le_refl _⟩
      show 0 ≤ k
      split at hk <;> omega
  · intro hpos
    rw [hb] at hpos
    rw [hS, hb]
    by_cases hz : f r = 0
    · exact ⟨⟨r, k, f r⟩, by simp, rfl, hz⟩
    · rw [if_neg hz] at hk
      obtain ⟨s, hs, hs1, hs2⟩ := i3 (by omega)
      refine ⟨s, ?_, by omega, hs2⟩
      simp only [List.mem_append, List.mem_cons] at hs ⊢
      rcases hs with h | h
      · exact .inl h
      · exact .inr (.inr h)
  · rw [hb]; split at hk <;> omega
/-- the program's stable sort puts runes in the document's order -/
theorem sort_is_ord (f : Int → Int) (hf : ∀ r, 0 ≤ f r) (l : List Int) : (SM.S ltP (annot f 0 l)).map (·.r) = ord f l := (S_annot f hf l).runes
end Go.Proofs.YtlpkcpacfldfaaaGreat.N
/-
  The mathematics of layer 4, second part: runes put together; a table that is right; what the statements ask. Program-free.
-/
namespace Go.Proofs.YtlpkcpacfldfaaaGreat.N
structure Tg where
  out : List Int
  st : Int
  last : Int
def push (g : Tg) (r c : Int) : Tg := ⟨g.out ++ [r], if c = 0 then (g.out.length : Int) else g.st, c⟩
def tstep (T : Tab) (g : Tg) (r : Int) : Tg :=
  if 0 ≤ g.st ∧ (g.st = (g.out.length : Int) - 1 ∨ g.last < cls T r) then
    match both T (g.out.getD g.st.toNat 0) r with
    | some x => ⟨g.out.set g.st.toNat x, g.st, g.last⟩
    | none => push g r (cls T r)
  else push g r (cls T r)
def tg0 : Tg := ⟨[], -1, 0⟩
def tgl (T : Tab) (l : List Int) : Tg := l.foldl (tstep T) tg0
def tog (T : Tab) (l : List Int) : List Int := (tgl T l).out
theorem tgl_snoc (T : Tab) (l : List Int) (r : Int) : tgl T (l ++ [r]) = tstep T (tgl T l) r := by unfold tgl; rw [List.foldl_append]; rfl
theorem tstep_len (T : Tab) (g : Tg) (r : Int) : (tstep T g r).out.length ≤ g.out.length + 1 := by
  unfold tstep
  split
  · split
    · simp
    · simp [push]
  · simp [push]
theorem tgl_len (T : Tab) : ∀ l : List Int, (tgl T l).out.length ≤ l.length := SM.S_ind (by simp [tgl, tg0]) fun l r h => by
  rw [tgl_snoc, List.length_append, List.length_singleton]
  have := tstep_len T (tgl T l) r
  omega
theorem tog_len (T : Tab) (l : List Int) : (tog T l).length ≤ l.length := tgl_len T l
/-- where the last starter stands -/
def StOk (g : Tg) : Prop := -1 ≤ g.st ∧ g.st < g.out.length
theorem tstep_ok {T : Tab} {g : Tg} (h : StOk g) (r : Int) : StOk (tstep T g r) := by
  obtain ⟨h1, h2⟩ := h
  have hp : ∀ c, StOk (push g r c) := fun c => by
    unfold push StOk
    simp only [List.length_append, List.length_singleton]
    split <;> omega
  unfold tstep
  split
  · split
    · exact ⟨h1, by simpa using h2⟩
    · exact hp _
  · exact hp _
theorem tgl_ok (T : Tab) : ∀ l : List Int, StOk (tgl T l) := SM.S_ind (by unfold StOk tgl tg0; simp) fun l r h => by
  rw [tgl_snoc]; exact tstep_ok h r
end Go.Proofs.YtlpkcpacfldfaaaGreat.N
/-
  The mathematics of layer 4, third part: Hangul over a table without anything. Program-free.
-/
namespace Go.Proofs.YtlpkcpacfldfaaaGreat.N
def T0 : Tab := ⟨[], [], [], [], []⟩
theorem falls_nil : Falls [] := fun p hp => by cases hp
theorem cls_T0 (r : Int) : cls T0 r = 0 := rfl
theorem both_T0 (a b : Int) : both T0 a b = hang a b := by
  unfold both
  cases hang a b with
  | some x => rfl
  | none => simp [ptL, T0]
theorem apt_nil (r : Int) : apt [] r = if syl r then split r else [r] := by
  rw [apt_eq falls_nil]; rfl
theorem ord_T0 (l : List Int) : ord (cls T0) l = l := by
  have : ∀ l, ord (cls T0) l = l := SM.S_ind rfl fun l r h => by rw [ord_snoc, h, ins_zero (cls_T0 r)]
  exact this l
theorem hang_apt {a b x : Int} (h : hang a b = some x) : apt [] x = apt [] a ++ [b] := by
  unfold hang at h
  split at h
  · rename_i hc
    obtain ⟨h1, h2, h3, h4⟩ := hc
    simp only [Option.some.injEq] at h
    subst h
    have hs : syl (44032 + ((a - 4352) * 21 + (b - 4449)) * 28) = true := by simp [syl]; omega
    have hn : syl a = false := by simp [syl]; omega
    rw [apt_nil, apt_nil, if_pos hs, if_neg (by rw [hn]; simp)]
    unfold split
    have e1 : (44032 + ((a - 4352) * 21 + (b - 4449)) * 28 - 44032) % 28 = 0 := by omega
    rw [if_pos e1]
    have e2 : 4352 + (44032 + ((a - 4352) * 21 + (b - 4449)) * 28 - 44032) / 588 = a := by omega
    have e3 : 4449 + (44032 + ((a - 4352) * 21 + (b - 4449)) * 28 - 44032) % 588 / 28 = b := by omega
    rw [e2, e3]; rfl
  · split at h
    · rename_i hc
      obtain ⟨h1, h2, h3, h4⟩ := hc
      simp only [Option.some.injEq] at h
      subst h
      have ha : 44032 ≤ a ∧ a ≤ 55203 := by simpa [syl] using h1
      have hs : syl (a + (b - 4519)) = true := by simp [syl]; omega
      rw [apt_nil, apt_nil, if_pos hs, if_pos h1]
      unfold split
      rw [if_neg (by omega), if_pos h2]
      have e1 : (a + (b - 4519) - 44032) / 588 = (a - 44032) / 588 := by omega
      have e2 : (a + (b - 4519) - 44032) % 588 / 28 = (a - 44032) % 588 / 28 := by omega
      have e3 : 4519 + (a + (b - 4519) - 44032) % 28 = b := by omega
      rw [e1, e2, e3]; rfl
    · cases h
/-- over a table without anything the last starter is the last rune -/
theorem tgl_T0 : ∀ l : List Int, (tgl T0 l).st = ((tgl T0 l).out.length : Int) - 1 ∧ ((∀ r ∈ l, syl r = false) → apl [] (tgl T0 l).out = l) := SM.S_ind ⟨by simp [tgl, tg0], fun _ => rfl⟩ fun l r ih => by
  obtain ⟨h1, h2⟩ := ih
  rw [tgl_snoc]
  generalize hg : tgl T0 l = g at h1 h2
  have hpush : (push g r 0).st = ((push g r 0).out.length : Int) - 1 := by simp [push]
  have hpa : (∀ x ∈ l ++ [r], syl x = false) → apl [] (push g r 0).out = l ++ [r] := fun h => by
    have hr : syl r = false := h r (by simp)
    show apl [] (g.out ++ [r]) = _
    rw [apl_app, h2 (fun x hx => h x (by simp [hx])), apl_cons, apt_nil, if_neg (by rw [hr]; simp)]
    rfl
  unfold tstep
  rw [cls_T0]
  split
  · rename_i hc
    rw [both_T0]
    split
    · rename_i x hx
      have hst := hc.1
      have hs : g.st.toNat = g.out.length - 1 := by omega
      have hlen : 0 < g.out.length := by omega
      refine ⟨by simp [h1], fun h => ?_⟩
      have hl := h2 (fun y hy => h y (by simp [hy]))
      have hr : syl r = false := h r (by simp)
      obtain ⟨P, a, hP⟩ : ∃ P a, g.out = P ++ [a] := ⟨g.out.dropLast, g.out.getLast (by intro e; rw [e] at hlen; simp at hlen), (List.dropLast_concat_getLast _).symm⟩
      have hs2 : g.st.toNat = P.length := by rw [hs, hP]; simp
      have hget : g.out.getD g.st.toNat 0 = a := by rw [hs2, hP]; simp [List.getD]
      rw [hget] at hx
      show apl [] (g.out.set g.st.toNat x) = _
      rw [hs2, hP, List.set_append_right _ _ (Nat.le_refl _), Nat.sub_self, List.set_cons_zero, apl_app, apl_cons, hang_apt hx]
      rw [hP, apl_app, apl_cons] at hl
      rw [← hl]
      simp [apl]
    · exact ⟨hpush, hpa⟩
  · exact ⟨hpush, hpa⟩
theorem apl_tog {l : List Int} (h : ∀ r ∈ l, syl r = false) : apl [] (tog T0 l) = l := (tgl_T0 l).2 h
theorem split_no (r : Int) (h : syl r = true) : ∀ x ∈ split r, syl x = false := by
  have hr : 44032 ≤ r ∧ r ≤ 55203 := by simpa [syl] using h
  intro x hx
  unfold split at hx
  split at hx <;> simp only [List.mem_cons, List.not_mem_nil, or_false] at hx
  · rcases hx with rfl | rfl <;> simp [syl] <;> omega
  · rcases hx with rfl | rfl | rfl <;> simp [syl] <;> omega
theorem apl_no (l : List Int) : ∀ x ∈ apl [] l, syl x = false := by
  intro x hx
  unfold apl at hx
  obtain ⟨r, _, hr⟩ := List.mem_flatMap.1 hx
  rw [apt_nil] at hr
  split at hr
  · rename_i h; exact split_no r h x hr
  · rename_i h; simp at hr; subst hr; simpa using h
/-- over a table without anything a form is its own form -/
theorem form_form (l : List Int) : tog T0 (ord (cls T0) (apl [] (tog T0 (ord (cls T0) (apl [] l))))) = tog T0 (ord (cls T0) (apl [] l)) := by
  rw [ord_T0, ord_T0, apl_tog (apl_no l)]
theorem form_len (l : List Int) : apl [] (tog T0 (ord (cls T0) (apl [] l))) = apl [] l := by rw [ord_T0, apl_tog (apl_no l)]
theorem tog_two {a b x : Int} (h : hang a b = some x) : tgl T0 [a, b] = ⟨[x], 0, 0⟩ := by
  have e : tgl T0 [a, b] = tstep T0 (tstep T0 tg0 a) b := rfl
  have e1 : tstep T0 tg0 a = ⟨[a], 0, 0⟩ := by
    unfold tstep tg0
    simp [push, cls_T0]
  rw [e, e1]
  unfold tstep
  simp [both_T0, h]
theorem tog_split (r : Int) (h : syl r = true) : tog T0 (split r) = [r] := by
  have hr : 44032 ≤ r ∧ r ≤ 55203 := by simpa [syl] using h
  unfold tog split
  have h1 : hang (4352 + (r - 44032) / 588) (4449 + (r - 44032) % 588 / 28) = some (r - (r - 44032) % 28) := by
    unfold hang
    rw [if_pos (by omega)]
    congr 1; omega
  split
  · rename_i hz
    rw [tog_two h1, hz]; simp
  · rename_i hz
    have h2 : hang (r - (r - 44032) % 28) (4519 + (r - 44032) % 28) = some r := by
      unfold hang
      rw [if_neg (by omega), if_pos ⟨by simp [syl]; omega, by omega, by omega, by omega⟩]
      congr 1; omega
    have e : tgl T0 [4352 + (r - 44032) / 588, 4449 + (r - 44032) % 588 / 28, 4519 + (r - 44032) % 28] = tstep T0 (tgl T0 [4352 + (r - 44032) / 588, 4449 + (r - 44032) % 588 / 28]) (4519 + (r - 44032) % 28) := rfl
    rw [e, tog_two h1]
    unfold tstep
    simp [both_T0, h2]
end Go.Proofs.YtlpkcpacfldfaaaGreat.N
